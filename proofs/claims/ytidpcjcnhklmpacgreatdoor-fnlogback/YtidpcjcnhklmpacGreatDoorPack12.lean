import Derived.Test.YtidpcjcnhklmpacGreatDoorPack10
import Derived.Test.YtidpcjcnhklmpacGreatDoorPack11
import Derived.Test.YtidpcjcnhklmpacGreatDoorPack1
import Derived.Test.YtidpcjcnhklmpacGreatDoorPack4
import Derived.WalkKit
import Derived.LaidEql
import Derived.Stop.Asserts
import Derived.RowKitTokens
import Derived.Test.YtidpcjcnhklmpacGreatDoorPack6
/- The contract of the reader's batch. -/
namespace Go.Proofs.YtidpcjcnhklmpacGreatDoor
open Go.ChangeShapes Go.WideShapes Go.ChangeAt Go.RowKit Go.Joins
attribute [local go_sem ↓] Go.wp_at_zero Go.wp_at_succ

/-- What is read so far: the head and these writes; q bytes. -/
def Eaten (t : List UInt8) (m q : Nat) (xs : List Wr) (r : List UInt8) : Prop := t = headB m ++ 10 :: xs.flatMap lineW ++ r ∧ q = (headB m ++ 10 :: xs.flatMap lineW).length

set_option maxRecDepth 100000 in
theorem eaten_head {t r : List UInt8} {m : Nat} (h : t = headB m ++ 10 :: r) : Eaten t m ((headB m).length + 1) [] r := ⟨by rw [h]; simp, by simp⟩

set_option maxRecDepth 100000 in
theorem eaten_next {t r l r' : List UInt8} {m q : Nat} {xs : List Wr} {x : Wr} (h : Eaten t m q xs r) (hr : r = l ++ 10 :: r') (hx : IsText l x) : Eaten t m (q + l.length + 1) (xs ++ [x]) r' := by
  have e : lineW x = l ++ [10] := by
    unfold lineW
    rw [hx.2]
  refine ⟨?_, ?_⟩
  · rw [h.1, hr, List.flatMap_append]
    simp [e]
  · rw [h.2, List.flatMap_append]
    simp [e]
    omega

set_option maxRecDepth 100000 in
theorem sofar_head {t r : List UInt8} {m : Nat} (hm : m ≤ 6) (h : t = headB m ++ 10 :: r) : Sofar t m 0 ((headB m).length + 1) [] r := by
  intro ws hv
  obtain ⟨e, hr⟩ := valid_head hv h (no_line_head hm)
  have hn := okWs_len hv.1
  unfold headB at e
  have e1 := itoa_inj (rng_small hm) (rng_small hn.2) (List.append_cancel_left e)
  have e2 : ws.length = m := by omega
  refine ⟨e2, rfl, ?_, hr⟩
  unfold farB accB
  rw [e2]
  simp

set_option maxRecDepth 100000 in
theorem eaten_body {t r : List UInt8} {m q : Nat} {xs : List Wr} (h : Eaten t m q xs r) (hl : xs.length = m) : t = bodyB xs ++ r ∧ t.take q = bodyB xs ∧ q = (bodyB xs).length := by
  have e : headB m ++ 10 :: xs.flatMap lineW = bodyB xs := by
    unfold bodyB
    rw [hl]
  rw [e.symm]
  refine ⟨h.1, ?_, h.2⟩
  rw [h.1, h.2]
  exact List.take_left

set_option maxRecDepth 100000 in
theorem sumB_is (xs : List Wr) : sumB xs = sumL (bodyB xs) := rfl

set_option maxRecDepth 100000 in
/-- Head, writes and sum read: the batch is whole. -/
theorem eaten_valid {t r r' : List UInt8} {m q : Nat} {xs : List Wr} (h : Eaten t m q xs r) (hl : xs.length = m) (hm : 1 ≤ m ∧ m ≤ 6) (ho : ∀ x ∈ xs, okR x = true) (hr : r = sumL (bodyB xs) ++ 10 :: r') : ValidAt t xs ∧ (batchT xs).length = q + (sumL (bodyB xs)).length + 1 := by
  have hok : okWs xs = true := by
    unfold okWs
    simp only [Bool.and_eq_true, decide_eq_true_eq, List.all_eq_true]
    exact ⟨by omega, ho⟩
  obtain ⟨e1, -, e3⟩ := eaten_body h hl
  have e2 : batchT xs = bodyB xs ++ (sumL (bodyB xs) ++ [10]) := by
    unfold batchT
    rw [if_pos hok]
    rfl
  refine ⟨⟨hok, ?_⟩, ?_⟩
  · rw [e2, e1, hr]
    exact ⟨r', by simp⟩
  · rw [e2, e3]
    simp
    omega

set_option maxRecDepth 100000 in
/-- At the sum's line: another one ends it. -/
theorem sofar_sum {t l r r' : List UInt8} {m q : Nat} {xs : List Wr} (h : Sofar t m m q xs r) (hr : r = l ++ 10 :: r') (hl : (10 : UInt8) ∉ l) (hne : l ≠ sumL (bodyB xs)) : ∀ ws, ¬ ValidAt t ws := by
  intro ws hv
  obtain ⟨h1, h2, h3, h4⟩ := h ws hv
  subst h1
  rw [List.take_length] at h2
  subst h2
  exact hne (valid_last h4 hr hl)

/-- What the reader answers to 'the next batch'. -/
def BatAns (s : ByteArray) (i B : Nat) (w w' : World) (e : Ending) : Prop :=
  Hole B w w' ∧ ((∃ a cap es, e = .returned (.tuple #[.slice a (List.length es) cap, .nilIface]) ∧ ValidAt (s.data.toList.drop i) (es.map (·.x)) ∧ RowG w' w.heap.size (.slice a es.length cap) es ∧ Rdr w' B s (i + (batchT (es.map (·.x))).length)) ∨
    ((∀ ws, ¬ ValidAt (s.data.toList.drop i) ws) ∧ ∃ t v, e = .returned (.tuple #[.slice none 0 0, .iface t v])))

set_option maxRecDepth 100000 in
set_option maxHeartbeats 8000000 in
theorem rdBatch_any (w0 : World) (s : ByteArray) (i B : Nat) (w : World) (hs : s.size ≤ 1048576) (hi : i ≤ s.size) (hE : EV w0) (hV : RV w0) (hT : Tab w0) (hb : Below w0.heap.size w0 w) (hB : w0.heap.size ≤ B) (hr : Rdr w B s i) :
    Calls Tryz.prog 36 #[.pointer (some ⟨B, 0, none⟩)] w fun e w' => BatAns s i B w w' e := by
  obtain ⟨i0, hi0, hx0⟩ := Option.map_eq_some_iff.1 infoWr
  simp only [Prod.mk.injEq] at hx0
  have HI0 := Lib.hid hi0
  have HX0 := Lib.hid hx0
  clear hi0 hx0
  have HE := Lib.hid hE
  have HV := Lib.hid hV
  have HT := Lib.hid hT
  have HB0 := Lib.hid hb
  have HR0 := Lib.hid hr
  have hBw : B < w.heap.size := hr.lt
  have c1 := hr.c1
  have hsz0 : w0.heap.size ≤ w.heap.size := hb.size
  clear hE hV hT hb hr
  go_enter Tryz.func36, Tryz.ntmps36
  go_wp2_with fail
  refine (rdHead_any w0 s i B _ hs hi HE.out HT.out HB0.out hB HR0.out).mono ?_
  rintro e w1 ⟨hh, ⟨m, r, hm1, hm6, hlr, rfl, hr1⟩ | ⟨hno, t, v, rfl⟩⟩
  rotate_left
  · have HH := Lib.hid hh
    have HNO := Lib.hid hno
    clear hh hno
    go_wp2
    refine bodyPost_ret (v := .tuple #[.slice none 0 0, .iface t v]) (by simp [results, Tryz.results36, go_sem]) rfl ?_
    exact ⟨HH.out, .inr ⟨HNO.out, _, _, rfl⟩⟩
  have hfit := line_fits hlr
  have hq0 : i + ((headB m).length + 1) ≤ s.size := by omega
  have hdr : s.data.toList.drop (i + ((headB m).length + 1)) = r := drop_line hlr
  have HS0 : Hid (Sofar (s.data.toList.drop i) m 0 ((headB m).length + 1) [] (s.data.toList.drop (i + ((headB m).length + 1)))) := by rw [hdr]; exact Lib.hid (sofar_head hm6 hlr)
  have HT0 : Hid (Eaten (s.data.toList.drop i) m ((headB m).length + 1) [] (s.data.toList.drop (i + ((headB m).length + 1)))) := by rw [hdr]; exact Lib.hid (eaten_head hlr)
  have HR1 : Hid (Rdr w1 B s (i + ((headB m).length + 1))) := hr1
  have HH1 := Lib.hid hh
  clear hh hr1 hlr hdr HR0 c1
  clear hfit
  generalize (headB m).length + 1 = q0 at *
  go_wp2
  go_loopw [7, 24] (fun o kk wr => ∃ (k q : Nat) (a : Option Addr) (cap : Nat) (es : List EnG), k ≤ m ∧ kk = .int .i64 k ∧ o = .slice a k cap ∧ i + q ≤ s.size ∧ es.length = k ∧ w.heap.size ≤ wr.heap.size ∧ Hid (∀ d ∈ es, okR d.x = true) ∧ Hid (Sofar (s.data.toList.drop i) m k q (es.map (·.x)) (s.data.toList.drop (i + q))) ∧ Hid (Eaten (s.data.toList.drop i) m q (es.map (·.x)) (s.data.toList.drop (i + q))) ∧ Hid (RowG wr w.heap.size (.slice a k cap) es) ∧ Hid (Rdr wr B s (i + q)) ∧ Hid (Hole B w wr)) (fun _ kk _ => m - (intOf kk).toNat)
  case atStart => exact ⟨0, q0, none, 0, [], Nat.zero_le _, rfl, rfl, hq0, rfl, HH1.out.size, fun d hd => by simp at hd, HS0, HT0, rowG_nil _ _, HR1, HH1⟩
  case round =>
    clear HS0 HT0 HR1 HH1 hq0
    obtain ⟨k, q, a, cap, es, hk, rfl, rfl, hq, hel, hwr, HOK, HS, HET, HR, HD, HH⟩ := hrel
    by_cases hk' : k < m
    · have i1 : (0 : Int) ≤ (k : Int) := by omega
      have i2 : (k : Int) < (m : Int) := by omega
      have HBR : Hid (Below w0.heap.size w0 wr) := Hole.below HB0.out HH.out hB hsz0
      go_wp2_with fail
      refine (rdWrite_any w0 s (i + q) B _ hs hq HE.out HV.out HT.out HBR.out hB HD.out).mono ?_
      rintro e w2 ⟨hh, ⟨l, r', x, ya, ycp, hd, hnl, htx, rfl, hrd, hdr⟩ | ⟨hbad, t, v, rfl⟩⟩
      rotate_left
      · have HNO : Hid (∀ ws, ¬ ValidAt (s.data.toList.drop i) ws) := by
          rcases hbad with hno | ⟨l, r', hd, hnl, hnt⟩
          · exact Lib.hid (sofar_none HS.out hk hno)
          · exact Lib.hid (sofar_bad HS.out hk' hd hnl hnt)
        have HH2 := Lib.hid ((HH.out.trans hh).trans (Hole.of_below ((Below.refl w2.heap.size w2).alloc (Nat.le_refl _) (.cells #[.int .i64 0, .int .i64 0, .int .i64 0, .int .i64 0, .int .i64 0, .bool false, .slice none 0 0] 56))))
        clear hh hbad HS HET
        go_wp2
        refine bodyPost_ret (v := .tuple #[.slice none 0 0, .iface t v]) (by simp [results, Tryz.results36, go_sem]) rfl ?_
        exact ⟨HH2.out, .inr ⟨HNO.out, _, _, rfl⟩⟩
      have hfit := line_fits hd
      have hdl : s.data.toList.drop (i + (q + l.length + 1)) = r' := by
        have e2 := drop_line hd
        rw [show i + q + (l.length + 1) = i + (q + l.length + 1) by omega] at e2
        exact e2
      have HS2 : Hid (Sofar (s.data.toList.drop i) m (k + 1) (q + l.length + 1) (es.map (·.x) ++ [x]) (s.data.toList.drop (i + (q + l.length + 1)))) := by rw [hdl]; exact Lib.hid (sofar_next HS.out hk' hd hnl htx)
      have HET2 : Hid (Eaten (s.data.toList.drop i) m (q + l.length + 1) (es.map (·.x) ++ [x]) (s.data.toList.drop (i + (q + l.length + 1)))) := by rw [hdl]; exact Lib.hid (eaten_next HET.out hd htx)
      have HD2 : Hid (Rdr w2 B s (i + (q + l.length + 1))) := by rw [show i + (q + l.length + 1) = i + q + l.length + 1 by omega]; exact Lib.hid hdr
      obtain ⟨g2, hg⟩ := fresh_row hrd
      have HOX := Lib.hid htx.1
      have HG : Hid (FreshDeps wr.heap.size w2 ya g2 x.xs) := hg
      have HH2 := Lib.hid (HH.out.trans hh)
      have HR2 := Lib.hid (HR.out.holeQ hh hBw)
      have hs2 : wr.heap.size ≤ w2.heap.size := hh.size
      clear hrd hg htx HS HET hd hnl hdr hdl HD
      obtain ⟨yk, yc, ys, yq, yv, yd, yx⟩ := x
      simp only at HG
      have HAP : Hid (∀ d ∈ es, 0 < d.x.xs.length → 0 < yx.length → d.g ≠ g2) := fun d hd hp hq => by
        have h1 := ((HR.out.deps d hd).1 hp).2.2.1
        have h2 := (HG.out hq).2.1
        omega
      have HVV : Hid (0 < yx.length → (Value.slice a k cap).ownBlock ≠ some g2) := fun hq e => by
        have h1 := (HR.out.own.lt g2 e).2
        have h2 := (HG.out hq).2.1
        omega
      clear HR hh HH
      have HBA : Hid (Below w2.heap.size w2 (w2.alloc (.cells #[.int .i64 yk, .int .i64 yc, .int .i64 ys, .int .i64 yq, .int .i64 yv, .bool yd, .slice ya yx.length ycp] 56))) := (Below.refl _ _).alloc (Nat.le_refl _) _
      have HR3 := Lib.hid (HR2.out.below HBA.out)
      have HG3 := Lib.hid (HG.out.below HBA.out)
      have HD3 := Lib.hid (HD2.out.below HBA.out)
      have hs3 : w2.heap.size + 1 = (w2.alloc (.cells #[.int .i64 yk, .int .i64 yc, .int .i64 ys, .int .i64 yq, .int .i64 yv, .bool yd, .slice ya yx.length ycp] 56)).heap.size := by simp
      have HOC := Lib.hid (oneG_cells (w2.alloc (.cells #[.int .i64 yk, .int .i64 yc, .int .i64 ys, .int .i64 yq, .int .i64 yv, .bool yd, .slice ya yx.length ycp] 56)) 56 ⟨⟨yk, yc, ys, yq, yv, yd, yx⟩, ya, g2, ycp⟩)
      have HBC : Hid (Below (w2.heap.size + 1) (w2.alloc (.cells #[.int .i64 yk, .int .i64 yc, .int .i64 ys, .int .i64 yq, .int .i64 yv, .bool yd, .slice ya yx.length ycp] 56)) ((w2.alloc (.cells #[.int .i64 yk, .int .i64 yc, .int .i64 ys, .int .i64 yq, .int .i64 yv, .bool yd, .slice ya yx.length ycp] 56)).alloc (.cells #[.int .i64 yk, .int .i64 yc, .int .i64 ys, .int .i64 yq, .int .i64 yv, .bool yd, .slice ya yx.length ycp] 56))) := (Below.refl _ _).alloc (by simp) _
      have HRC := Lib.hid (HR3.out.below (hs3 ▸ HBC.out))
      have HGC := Lib.hid (HG3.out.below (hs3 ▸ HBC.out))
      have HDC := Lib.hid (HD3.out.below (hs3 ▸ HBC.out))
      have HHC : Hid (Hole B w ((w2.alloc (.cells #[.int .i64 yk, .int .i64 yc, .int .i64 ys, .int .i64 yq, .int .i64 yv, .bool yd, .slice ya yx.length ycp] 56)).alloc (.cells #[.int .i64 yk, .int .i64 yc, .int .i64 ys, .int .i64 yq, .int .i64 yv, .bool yd, .slice ya yx.length ycp] 56))) := (HH2.out.trans (Hole.of_below HBA.out)).trans (Hole.of_below (hs3 ▸ HBC.out))
      have hsz : w.heap.size ≤ w2.heap.size := by omega
      have HOW : Hid (((w2.alloc (.cells #[.int .i64 yk, .int .i64 yc, .int .i64 ys, .int .i64 yq, .int .i64 yv, .bool yd, .slice ya yx.length ycp] 56)).alloc (.cells #[.int .i64 yk, .int .i64 yc, .int .i64 ys, .int .i64 yq, .int .i64 yv, .bool yd, .slice ya yx.length ycp] 56)).ownsRow w.heap.size 56 7 (.slice a k cap) k (es.flatMap wrValsG)) := by
        have h := HRC.out.own
        rw [hel] at h
        exact Lib.hid h
      clear hs3 HBC HR3 HG3 HD3 HBA
      go_wp2_with (at_builtin; refine wpList_append_lies _ (by rfl) _ _ _ (by rfl) w.heap.size 56 i0 (wrV 0 0 0 0 0 false none 0 0) 7 72 Tryz.underlying29 HI0.out HX0.out.1 HX0.out.2.1 HX0.out.2.2 (by rfl) (by omega) (.slice a k cap) k (es.flatMap wrValsG) (by rfl) HOW.out ⟨w2.heap.size + 1, 0, none⟩ 1 1 (wrValsG ⟨⟨yk, yc, ys, yq, yv, yd, yx⟩, ya, g2, ycp⟩) (by rfl) (by rfl) (by simpa using HOC.out) (by simpa using valsG_one [⟨⟨yk, yc, ys, yq, yv, yd, yx⟩, ya, g2, ycp⟩]) (by omega) (by unfold maxLen; omega) (by omega) (by simp; omega) _ rfl ?_; intro g3 cp3 w5 hown hgrow hg3 _; refine Hid.out ?_)
      refine Lib.hid ?_
      have hobB : (Value.slice a k cap).ownBlock ≠ some B := fun e => by have := (HRC.out.own.lt _ e).1; omega
      have HH5 : Hid (Hole B w w5) := ⟨hgrow.os.trans HHC.out.os, hgrow.tape.trans HHC.out.tape, hgrow.output.trans HHC.out.output, Nat.le_trans HHC.out.size hgrow.size, fun b hb hne => (hgrow.block b (Nat.lt_of_lt_of_le hb HHC.out.size) (fun e => by have := (HRC.out.own.lt _ e.symm).1; omega)).trans (HHC.out.block b hb hne)⟩
      have hown2 : w5.ownsRow w.heap.size 56 7 (.slice (some ⟨g3, 0, none⟩) (es.length + 1) cp3) (es.length + 1) (es.flatMap wrValsG ++ wrValsG ⟨⟨yk, yc, ys, yq, yv, yd, yx⟩, ya, g2, ycp⟩) := by rw [hel]; exact hown
      have HR5 : Hid (RowG w5 w.heap.size (.slice (some ⟨g3, 0, none⟩) (k + 1) cp3) (es ++ [⟨⟨yk, yc, ys, yq, yv, yd, yx⟩, ya, g2, ycp⟩])) := by
        have h := HRC.out.more (HGC.out.mono hwr) HVV.out HAP.out hown2 hgrow hg3
        rw [hel] at h
        exact Lib.hid h
      have HD5 : Hid (Rdr w5 B s (i + (q + l.length + 1))) := HDC.out.of_block hgrow.size (hgrow.block _ HDC.out.lt (fun e => hobB e.symm))
      have hs5 : w.heap.size ≤ w5.heap.size := HH5.out.size
      have HS6 : Hid (Sofar (s.data.toList.drop i) m (k + 1) (q + l.length + 1) ((es ++ [(⟨⟨yk, yc, ys, yq, yv, yd, yx⟩, ya, g2, ycp⟩ : EnG)]).map (·.x)) (s.data.toList.drop (i + (q + l.length + 1)))) := by
        rw [List.map_append]
        exact HS2
      have HET6 : Hid (Eaten (s.data.toList.drop i) m (q + l.length + 1) ((es ++ [(⟨⟨yk, yc, ys, yq, yv, yd, yx⟩, ya, g2, ycp⟩ : EnG)]).map (·.x)) (s.data.toList.drop (i + (q + l.length + 1)))) := by
        rw [List.map_append]
        exact HET2
      have HOK6 : Hid (∀ d ∈ es ++ [(⟨⟨yk, yc, ys, yq, yv, yd, yx⟩, ya, g2, ycp⟩ : EnG)], okR d.x = true) := fun d hd => by
        rcases List.mem_append.1 hd with hd | hd
        · exact HOK.out d hd
        · obtain rfl : d = _ := by simpa using hd
          exact HOX.out
      clear hown hown2 hgrow HRC HS2 HET2 HOW HOC HHC HDC
      go_wp2
      exact ⟨⟨k + 1, q + l.length + 1, _, _, _, by omega, by go_num, rfl, by omega, by simp [hel], hs5, HOK6, HS6, HET6, HR5, HD5, HH5⟩, by simp [intOf]; omega⟩
    · have hkk : k = m := by omega
      subst hkk
      have hxl : (es.map (·.x)).length = k := by simp [hel]
      obtain ⟨b1, b2, b3⟩ := eaten_body HET.out hxl
      have HEX : Hid ((s.extract i (i + q)).data.toList = bodyB (es.map (·.x))) := by
        rw [extract_take]
        exact Lib.hid b2
      have hbz : (s.extract i (i + q)).size ≤ 1048576 := by
        have h := congrArg List.length HEX.out
        rw [← b3] at h
        have h2 : (s.extract i (i + q)).data.toList.length = (s.extract i (i + q)).size := Array.length_toList
        omega
      have HYES : Hid (∀ r', s.data.toList.drop (i + q) = sumL (bodyB (es.map (·.x))) ++ 10 :: r' → ValidAt (s.data.toList.drop i) (es.map (·.x)) ∧ (batchT (es.map (·.x))).length = q + (sumL (bodyB (es.map (·.x)))).length + 1) := fun r' hr' => eaten_valid HET.out hxl ⟨hm1, hm6⟩ (fun x hx => by
        obtain ⟨d, hd, rfl⟩ := List.mem_map.1 hx
        exact HOK.out d hd) hr'
      have HNO1 : Hid ((10 : UInt8) ∉ s.data.toList.drop (i + q) → ∀ ws, ¬ ValidAt (s.data.toList.drop i) ws) := fun h => sofar_none HS.out hk h
      have HNO2 : Hid (∀ l r', s.data.toList.drop (i + q) = l ++ 10 :: r' → (10 : UInt8) ∉ l → l ≠ sumL (bodyB (es.map (·.x))) → ∀ ws, ¬ ValidAt (s.data.toList.drop i) ws) := fun l r' h1 h2 h3 => sofar_sum HS.out h1 h2 h3
      have HBR : Hid (Below w0.heap.size w0 wr.drew) := (Hole.below HB0.out HH.out hB hsz0).drew
      have x0 : (0 : Int) ≤ (i : Int) := by omega
      have x1 : (i : Int) ≤ ((i + q : Nat) : Int) := by omega
      have x2 : ((i + q : Nat) : Int) ≤ (s.size : Int) := by omega
      have c0 := HD.out.c0
      have c1 := HD.out.c1
      have HD2 : Hid (Rdr wr.drew B s (i + q)) := HD.out.below (Below.refl _ _).drew
      have HR2 : Hid (RowG wr.drew w.heap.size (.slice a k cap) es) := HR.out.below (Below.refl _ _).drew
      have HH2 : Hid (Hole B w wr.drew) := HH.out.drew
      clear b1 b2 b3 HS HET HR HH
      generalize hX : i + q = X at *
      go_wp2_with fail
      refine wp_region_slots 11 [[(0, false)], [(0, false)], [(40, true)], [(41, true)], [(42, true)], [(4, false)], [(0, false)], [(45, true)], [(46, true)], [(47, true)], [(43, true), (44, true), (48, true)]] (fun w' => w' = wr.drew) (fun w w' => w' = w) (by kernel_rfl) (by kernel_rfl) (by rfl) rfl (fun w w' h1 h2 => h2.trans h1) ?_
      iterate 11 (apply slot_eq; · (rintro ρ w' ⟨p1, p2, p3⟩ rfl hn; simp at hn; go_simp; exact ⟨rfl, rfl⟩))
      refine slot_end ?_
      rintro tv w4 rfl hF
      simp at hF
      obtain ⟨f49, f48, f47, f46, f45, f44, f43, f42, f41, f40, f39⟩ := hF
      simp only [List.take_succ_cons, List.take_zero, List.drop_succ_cons, List.drop_zero, putAll, f49, f48, f47, f46, f45, f44, f43, f42, f41, f40, f39]
      clear f49 f48 f47 f46 f45 f44 f43 f42 f41 f40 f39
      simp only [Act.put, List.setIfInBounds_toArray, List.set_cons_succ, List.set_cons_zero]
      go_wp2_with fail
      refine (rdSum_any w0 s (s.extract i X) X B _ hs hbz (by omega) HE.out HT.out HBR.out hB HD2.out).mono ?_
      rintro e w5 ⟨hh, ⟨r', hlr, rfl, hr5⟩ | ⟨hbad, t, v, rfl⟩⟩
      · rw [HEX.out] at hlr hr5
        obtain ⟨hv, hl⟩ := HYES.out r' hlr
        have HVA := Lib.hid hv
        have HR5 : Hid (Rdr w5 B s (i + (batchT (es.map (·.x))).length)) := by
          rw [hl, show i + (q + (sumL (bodyB (es.map (·.x)))).length + 1) = X + (sumL (bodyB (es.map (·.x)))).length + 1 by omega]
          exact Lib.hid hr5
        have HRW := Lib.hid (HR2.out.holeQ hh hBw)
        have HH5 := Lib.hid (HH2.out.trans hh)
        clear hh hlr hr5 hv hl HYES HNO1 HNO2
        go_wp2
        refine bodyPost_ret (v := .tuple #[.slice a k cap, .nilIface]) (by simp [results, Tryz.results36, go_sem]) rfl ?_
        refine ⟨HH5.out, .inl ⟨a, cap, es, by rw [hel], HVA.out, by rw [hel]; exact HRW.out, HR5.out⟩⟩
      · rw [HEX.out] at hbad
        have HNO : Hid (∀ ws, ¬ ValidAt (s.data.toList.drop i) ws) := by
          rcases hbad with hno | ⟨l, r', h1, h2, h3⟩
          · exact Lib.hid (HNO1.out hno)
          · exact Lib.hid (HNO2.out l r' h1 h2 h3)
        have HH5 := Lib.hid (HH2.out.trans hh)
        clear hh hbad HYES HNO1 HNO2
        go_wp2
        refine bodyPost_ret (v := .tuple #[.slice none 0 0, .iface t v]) (by simp [results, Tryz.results36, go_sem]) rfl ?_
        exact ⟨HH5.out, .inr ⟨HNO.out, _, _, rfl⟩⟩

end Go.Proofs.YtidpcjcnhklmpacGreatDoor

/- errors.As at a concrete target, a batchFault: Go's own text walked: of nil false, nothing turns; of a batchFault true, and the target is it. -/
namespace Go.Proofs.YtidpcjcnhklmpacGreatDoor
open Go.ChangeShapes Go.WideShapes Go.ChangeAt Go.RowKit Go.Joins Go.Extern.Stop Go.Stop Go.Extern

set_option maxRecDepth 100000 in
theorem as_nil (t : Value) (w : World) :
    Calls Tryz.prog 18 #[.nilIface, t] w fun e w' => e = .returned (.bool false) ∧ w' = w := by
  go_enter Tryz.func18, Tryz.ntmps18
  go_wp2
  go_ret
  exact ⟨rfl, rfl⟩

namespace asf

set_option maxRecDepth 100000 in
theorem valueOfP (t : Addr) (w : World) : (ReflectliteValue.unpack (.iface 48 (.pointer (some t)))).run Tryz.prog w = .ok (.agg #[.pointer (some ⟨13, 48, none⟩), .pointer (some ⟨w.heap.size, 0, none⟩), .int .u64 150]) (w.alloc (.cells #[.pointer (some t)] 48)) := by kernel_rfl

set_option maxRecDepth 100000 in
theorem typeP (a : Addr) (w : World) : (ReflectliteValue.methodAny (ReflectliteValue.valueError "reflectlite.Value.Type" 0) (fun t _ _ _ => ReflectliteType.toType t) #[.agg #[.pointer (some ⟨13, 48, none⟩), .pointer (some a), .int .u64 150]]).run Tryz.prog w = .ok (.iface 124 (.agg #[.pointer (some ⟨13, 48, none⟩)])) w := by kernel_rfl

set_option maxRecDepth 100000 in
theorem methodKind (h : Value) (w : World) : (Go.method 330 124 (.agg #[h]) "Kind").run Tryz.prog w = .ok (161, h) w := by kernel_rfl

set_option maxRecDepth 100000 in
theorem kindP (w : World) : ((ReflectliteType.abiMethod fun t => (fun a : Nat => Value.int IntKind.u8 (a : Int)) <$> Rtype.kind t) #[.pointer (some ⟨13, 48, none⟩)]).run Tryz.prog w = .ok (.int .u8 22) w := by kernel_rfl

set_option maxRecDepth 100000 in
theorem kindT (w : World) : ((ReflectliteType.abiMethod fun t => (fun a : Nat => Value.int IntKind.u8 (a : Int)) <$> Rtype.kind t) #[.pointer (some ⟨13, 46, none⟩)]).run Tryz.prog w = .ok (.int .u8 25) w := by kernel_rfl

theorem rlm (z : Sem Value) (f : TypeId → Addr → Nat → Nat → Sem Value) (v : Value) :
    ReflectliteValue.method z f #[v] = (do match ← ReflectliteValue.parts v with | none => z | some (t, a, fl) => f t a fl (fl % 32)) := rfl

set_option maxRecDepth 100000 in
theorem partsP (a : Addr) (w : World) : (ReflectliteValue.parts (.agg #[.pointer (some ⟨13, 48, none⟩), .pointer (some a), .int .u64 150])).run Tryz.prog w = .ok (some (48, a, 150)) w := by kernel_rfl

set_option maxRecDepth 100000 in
theorem isNilP (a p : Addr) (W : World) (ha : W.cell? a = some (.pointer (some p))) :
    (ReflectliteValue.method (ReflectliteValue.valueError "reflectlite.Value.IsNil" 0) ReflectliteValue.isNil #[.agg #[.pointer (some ⟨13, 48, none⟩), .pointer (some a), .int .u64 150]]).run Tryz.prog W = .ok (.bool false) W := by
  rw [rlm]
  simp only [Sem.run_bind, partsP, Result.andThen]
  simp [ReflectliteValue.isNil, loadVar, isAgg, underlying, Tryz.underlying48, ha, Result.andThen]

set_option maxRecDepth 100000 in
theorem methodElem (h : Value) (w : World) : (Go.method 330 124 (.agg #[h]) "Elem").run Tryz.prog w = .ok (172, .agg #[h]) w := by kernel_rfl

set_option maxRecDepth 100000 in
theorem methodImplements (h : Value) (w : World) : (Go.method 330 124 (.agg #[h]) "Implements").run Tryz.prog w = .ok (173, .agg #[h]) w := by kernel_rfl

set_option maxRecDepth 100000 in
theorem methodAssignableTo (h : Value) (w : World) : (Go.method 330 124 (.agg #[h]) "AssignableTo").run Tryz.prog w = .ok (170, .agg #[h]) w := by kernel_rfl

set_option maxRecDepth 100000 in
theorem elemP (w : World) : (ReflectliteType.method ReflectliteType.elem #[.agg #[.pointer (some ⟨13, 48, none⟩)]]).run Tryz.prog w = .ok (.iface 124 (.agg #[.pointer (some ⟨13, 46, none⟩)])) w := by kernel_rfl

set_option maxRecDepth 100000 in
theorem implementsT (w : World) : (ReflectliteType.relation "Implements" ReflectliteType.implements_ #[.agg #[.pointer (some ⟨13, 46, none⟩)], .iface 124 (.agg #[.pointer (some ⟨13, 42, none⟩)])]).run Tryz.prog w = .ok (.bool true) w := by kernel_rfl

set_option maxRecDepth 100000 in
theorem typeOfT (v : Value) (w : World) : (ReflectliteType.typeOf #[.iface 46 v]).run Tryz.prog w = .ok (.iface 124 (.agg #[.pointer (some ⟨13, 46, none⟩)])) w := by kernel_rfl

set_option maxRecDepth 100000 in
theorem assignableT (w : World) : (ReflectliteType.relation "AssignableTo" ReflectliteType.assignableTo #[.agg #[.pointer (some ⟨13, 46, none⟩)], .iface 124 (.agg #[.pointer (some ⟨13, 46, none⟩)])]).run Tryz.prog w = .ok (.bool true) w := by kernel_rfl

set_option maxRecDepth 100000 in
theorem valueOfT (x y : Value) (w : World) : (ReflectliteValue.unpack (.iface 46 (.agg #[x, y]))).run Tryz.prog w = .ok (.agg #[.pointer (some ⟨13, 46, none⟩), .pointer (some ⟨w.heap.size, 0, none⟩), .int .u64 153]) (w.alloc (.cells #[x, y] 46)) := by kernel_rfl

set_option maxRecDepth 100000 in
theorem elemOfP (w : World) : (Rtype.elem? 48).run Tryz.prog w = .ok (some 46) w := by kernel_rfl

set_option maxRecDepth 100000 in
theorem mkT (p : Addr) (w : World) : (ReflectliteValue.mk 46 p ReflectliteValue.flagAddr).run Tryz.prog w = .ok (.agg #[.pointer (some ⟨13, 46, none⟩), .pointer (some p), .int .u64 409]) w := by kernel_rfl

set_option maxRecDepth 100000 in
theorem elemV (a p : Addr) (W : World) (ha : W.cell? a = some (.pointer (some p))) :
    (ReflectliteValue.method (ReflectliteValue.valueError "reflectlite.Value.Elem" 0) ReflectliteValue.elem #[.agg #[.pointer (some ⟨13, 48, none⟩), .pointer (some a), .int .u64 150]]).run Tryz.prog W = .ok (.agg #[.pointer (some ⟨13, 46, none⟩), .pointer (some p), .int .u64 409]) W := by
  rw [rlm]
  simp only [Sem.run_bind, partsP, Result.andThen]
  simp [ReflectliteValue.elem, loadVar, isAgg, underlying, Tryz.underlying48, ha, Result.andThen, elemOfP, mkT]

theorem rls (v x : Value) : ReflectliteValue.set #[v, x] = (do
    let (some (dst, a, fl), some (src, b, _)) := (← ReflectliteValue.parts v, ← ReflectliteValue.parts x)
      | unsupported (.noEntry "extern/(internal/reflectlite.Value).Set.zeroValue")
    if fl / ReflectliteValue.flagAddr % 2 == 0 then unsupported (.noEntry "extern/(internal/reflectlite.Value).Set.unaddressable")
    let val ← loadVar src b
    if ← Rtype.directlyAssignable dst src then storeVar dst a val
    else if ← Rtype.implements dst src then
      if (← Rtype.kind src) == 20 then
        match val with
        | .nilIface => unsupported (.noEntry "extern/reflectlite: a nil value of one interface type handed on as a value of another")
        | _ => storeVar dst a val
      else storeVar dst a (.iface src val)
    else panicString ("reflectlite.Set: value of type " ++ (← Rtype.spelt src) ++ " is not assignable to type " ++ (← Rtype.spelt dst))
    pure (.tuple #[])) := rfl

set_option maxRecDepth 100000 in
theorem partsTa (a : Addr) (w : World) : (ReflectliteValue.parts (.agg #[.pointer (some ⟨13, 46, none⟩), .pointer (some a), .int .u64 409])).run Tryz.prog w = .ok (some (46, a, 409)) w := by kernel_rfl

set_option maxRecDepth 100000 in
theorem partsT (a : Addr) (w : World) : (ReflectliteValue.parts (.agg #[.pointer (some ⟨13, 46, none⟩), .pointer (some a), .int .u64 153])).run Tryz.prog w = .ok (some (46, a, 153)) w := by kernel_rfl

set_option maxRecDepth 100000 in
theorem directT (w : World) : (Rtype.directlyAssignable 46 46).run Tryz.prog w = .ok true w := by kernel_rfl

set_option maxRecDepth 100000 in
theorem sizeT (w : World) : (sizeOf 46).run Tryz.prog w = .ok 2 w := by kernel_rfl

set_option maxRecDepth 100000 in
theorem isAggT (w : World) : (isAgg 46).run Tryz.prog w = .ok true w := by kernel_rfl

set_option maxRecDepth 100000 in
/-- The variable of a batchFault gets what the other one holds. -/
theorem setT (c b : Nat) (x y ox oy : Value) (W : World) (hx : W.cell? ⟨b, 0, none⟩ = some x) (hy : W.cell? ⟨b, 1, none⟩ = some y) (h0 : W.cell? ⟨c, 0, none⟩ = some ox) (h1 : W.cell? ⟨c, 1, none⟩ = some oy) (hf : ∀ o, W.frozen? ⟨c, o, none⟩ = false) (x1 : x.oneCell' = true) (y1 : y.oneCell' = true) :
    (ReflectliteValue.set #[.agg #[.pointer (some ⟨13, 46, none⟩), .pointer (some ⟨c, 0, none⟩), .int .u64 409], .agg #[.pointer (some ⟨13, 46, none⟩), .pointer (some ⟨b, 0, none⟩), .int .u64 153]]).run Tryz.prog W = .ok (.tuple #[]) ((W.setCell ⟨c, 0, none⟩ x).setCell ⟨c, 1, none⟩ y) := by
  have h3 : (W.setCell ⟨c, 0, none⟩ x).cell? ⟨c, 1, none⟩ = some oy := cell_set_off h1 (by omega)
  have h4 : (W.setCell ⟨c, 0, none⟩ x).frozen? ⟨c, 1, none⟩ = false := by rw [World.frozen?_setCell]; exact hf 1
  have h5 := hf 0
  rw [rls]
  simp only [Sem.run_bind, partsTa, partsT, Result.andThen]
  simp [ReflectliteValue.flagAddr, loadVar, loadCells, loadCellsFrom, hx, hy, Result.andThen, directT, storeVar, Value.cells, storeCells, Addr.add]
  rw [run_store Tryz.prog W ⟨c, 0, none⟩ _ _ x1]
  simp only [h0, h5]
  simp only [Bool.false_eq_true, if_false]
  rw [run_store Tryz.prog _ ⟨c, 1, none⟩ _ _ y1]
  simp only [h3, h4]
  simp

end asf

/-- What errors.errorType holds. -/
def ET (w : World) : Prop := w.cell? ⟨0, 0, none⟩ = some (.iface 124 (.agg #[.pointer (some ⟨13, 42, none⟩)]))

set_option maxRecDepth 100000 in
set_option maxHeartbeats 8000000 in
theorem as_hit (c : Nat) (x y ox oy : Value) (w : World) (hg : ET w) (h0 : w.cell? ⟨c, 0, none⟩ = some ox) (h1 : w.cell? ⟨c, 1, none⟩ = some oy) (hf : ∀ o, w.frozen? ⟨c, o, none⟩ = false) (x1 : x.oneCell' = true) (y1 : y.oneCell' = true) :
    Calls Tryz.prog 18 #[.iface 46 (.agg #[x, y]), .iface 48 (.pointer (some ⟨c, 0, none⟩))] w fun ev w' => ev = .returned (.bool true) ∧ w' = (((((w.alloc (.cells #[.pointer (some ⟨c, 0, none⟩)] 48)).alloc (.cells #[.pointer (some ⟨13, 48, none⟩), .pointer (some ⟨w.heap.size, 0, none⟩), .int .u64 150] 80)).alloc (.cells #[.pointer (some ⟨13, 48, none⟩), .pointer (some ⟨w.heap.size, 0, none⟩), .int .u64 150] 80)).alloc (.cells #[x, y] 46)).setCell ⟨c, 0, none⟩ x).setCell ⟨c, 1, none⟩ y := by
  have hV := @run_callFunc_extern Tryz.prog 37 _ (fun args => ReflectliteValue.unpack (args.getD 0 (.tuple #[]))) Tryz.func37 (by kernel_rfl) (by kernel_rfl) (by kernel_rfl) (by kernel_rfl)
  have hTy := @run_callFunc_extern Tryz.prog 38 _ (ReflectliteValue.methodAny (ReflectliteValue.valueError "reflectlite.Value.Type" 0) (fun t _ _ _ => ReflectliteType.toType t)) Tryz.func38 (by kernel_rfl) (by kernel_rfl) (by kernel_rfl) (by kernel_rfl)
  have hN := @run_callFunc_extern Tryz.prog 39 _ (ReflectliteValue.method (ReflectliteValue.valueError "reflectlite.Value.IsNil" 0) ReflectliteValue.isNil) Tryz.func39 (by kernel_rfl) (by kernel_rfl) (by kernel_rfl) (by kernel_rfl)
  have hK := @run_callFunc_extern Tryz.prog 161 _ (ReflectliteType.abiMethod fun t => do pure (.int .u8 (← Rtype.kind t))) Tryz.func161 (by kernel_rfl) (by kernel_rfl) (by kernel_rfl) (by kernel_rfl)
  have hRE := @run_callFunc_extern Tryz.prog 172 _ (ReflectliteType.method ReflectliteType.elem) Tryz.func172 (by kernel_rfl) (by kernel_rfl) (by kernel_rfl) (by kernel_rfl)
  have hRI := @run_callFunc_extern Tryz.prog 173 _ (ReflectliteType.relation "Implements" ReflectliteType.implements_) Tryz.func173 (by kernel_rfl) (by kernel_rfl) (by kernel_rfl) (by kernel_rfl)
  have hTO := @run_callFunc_extern Tryz.prog 71 _ (ReflectliteType.typeOf) Tryz.func71 (by kernel_rfl) (by kernel_rfl) (by kernel_rfl) (by kernel_rfl)
  have hRA := @run_callFunc_extern Tryz.prog 170 _ (ReflectliteType.relation "AssignableTo" ReflectliteType.assignableTo) Tryz.func170 (by kernel_rfl) (by kernel_rfl) (by kernel_rfl) (by kernel_rfl)
  have hEl := @run_callFunc_extern Tryz.prog 72 _ (ReflectliteValue.method (ReflectliteValue.valueError "reflectlite.Value.Elem" 0) ReflectliteValue.elem) Tryz.func72 (by kernel_rfl) (by kernel_rfl) (by kernel_rfl) (by kernel_rfl)
  have hSe := @run_callFunc_extern Tryz.prog 73 _ (ReflectliteValue.set) Tryz.func73 (by kernel_rfl) (by kernel_rfl) (by kernel_rfl) (by kernel_rfl)
  have tO := asf.typeOfT
  have mA := asf.methodAssignableTo
  have aT := asf.assignableT
  have vT := asf.valueOfT
  have vP := asf.valueOfP
  have tP := asf.typeP
  have mK := asf.methodKind
  have mE := asf.methodElem
  have mI := asf.methodImplements
  have kP := asf.kindP
  have kT := asf.kindT
  have eP := asf.elemP
  have iT := asf.implementsT
  have n8 := asf.isNilP ⟨w.heap.size, 0, none⟩ ⟨c, 0, none⟩ ((w.alloc (.cells #[.pointer (some ⟨c, 0, none⟩)] 48)).alloc (.cells #[.pointer (some ⟨13, 48, none⟩), .pointer (some ⟨w.heap.size, 0, none⟩), .int .u64 150] 80)) (by simp)
  have hlt : 0 < w.heap.size := World.block_lt_of_cell? w _ hg
  have hcl : c < w.heap.size := World.block_lt_of_cell? w _ h0
  have hg2 : ((w.alloc (.cells #[.pointer (some ⟨c, 0, none⟩)] 48)).alloc (.cells #[.pointer (some ⟨13, 48, none⟩), .pointer (some ⟨w.heap.size, 0, none⟩), .int .u64 150] 80)).cell? ⟨0, 0, none⟩ = some (.iface 124 (.agg #[.pointer (some ⟨13, 42, none⟩)])) := by
    rw [World.cell?_alloc_lt _ _ ⟨0, 0, none⟩ (by simp <;> omega), World.cell?_alloc_lt _ _ ⟨0, 0, none⟩ hlt]; exact hg
  have el := asf.elemV ⟨w.heap.size, 0, none⟩ ⟨c, 0, none⟩ (((w.alloc (.cells #[.pointer (some ⟨c, 0, none⟩)] 48)).alloc (.cells #[.pointer (some ⟨13, 48, none⟩), .pointer (some ⟨w.heap.size, 0, none⟩), .int .u64 150] 80)).alloc (.cells #[.pointer (some ⟨13, 48, none⟩), .pointer (some ⟨w.heap.size, 0, none⟩), .int .u64 150] 80)) (by rw [World.cell?_alloc_lt _ _ ⟨w.heap.size, 0, none⟩ (by simp <;> omega)]; simp)
  have hold : Below w.heap.size w ((((w.alloc (.cells #[.pointer (some ⟨c, 0, none⟩)] 48)).alloc (.cells #[.pointer (some ⟨13, 48, none⟩), .pointer (some ⟨w.heap.size, 0, none⟩), .int .u64 150] 80)).alloc (.cells #[.pointer (some ⟨13, 48, none⟩), .pointer (some ⟨w.heap.size, 0, none⟩), .int .u64 150] 80)).alloc (.cells #[x, y] 46)) := ((((Below.refl _ _).alloc (Nat.le_refl _) _).alloc (by simp) _).alloc (by simp <;> omega) _).alloc (by simp <;> omega) _
  have st := asf.setT c (w.heap.size + 1 + 1 + 1) x y ox oy ((((w.alloc (.cells #[.pointer (some ⟨c, 0, none⟩)] 48)).alloc (.cells #[.pointer (some ⟨13, 48, none⟩), .pointer (some ⟨w.heap.size, 0, none⟩), .int .u64 150] 80)).alloc (.cells #[.pointer (some ⟨13, 48, none⟩), .pointer (some ⟨w.heap.size, 0, none⟩), .int .u64 150] 80)).alloc (.cells #[x, y] 46)) (by rw [World.cell?_alloc_at _ _ _ _ (by simp)]; rfl) (by rw [World.cell?_alloc_at _ _ _ _ (by simp)]; rfl) ((hold.cell (p := ⟨c, 0, none⟩) hcl).trans h0) ((hold.cell (p := ⟨c, 1, none⟩) hcl).trans h1) (fun o => (hold.frozen (p := ⟨c, o, none⟩) hcl).trans (hf o)) x1 y1
  clear hold
  go_enter Tryz.func18, Tryz.ntmps18
  go_wp2
  refine wp_loop_rounds 1 ?_
  rw [rounds_succ]
  go_wp2
  go_ret
  exact ⟨rfl, rfl⟩

end Go.Proofs.YtidpcjcnhklmpacGreatDoor

/- The contract of spec.l06Batch: the batch that begins at a place. -/
namespace Go.Proofs.YtidpcjcnhklmpacGreatDoor
open Go.ChangeShapes Go.WideShapes Go.ChangeAt Go.RowKit Go.Joins
attribute [local go_sem ↓] Go.wp_at_zero Go.wp_at_succ

/-- What reading a batch answers. -/
def BatchAns (t : List UInt8) (i : Nat) (w w' : World) (e : Ending) : Prop :=
  Below w.heap.size w w' ∧ ((∃ a cap es, e = .returned (.tuple #[.agg #[.slice a (List.length es) cap], .int .i64 ((i + (batchT (es.map (·.x))).length : Nat) : Int), .bool true]) ∧ ValidAt t (es.map (·.x)) ∧ RowG w' w.heap.size (.slice a es.length cap) es) ∨
    ((∀ ws, ¬ ValidAt t ws) ∧ e = .returned (.tuple #[.agg #[.slice none 0 0], .int .i64 0, .bool false])))

set_option maxRecDepth 100000 in
set_option maxHeartbeats 8000000 in
theorem batch_any (s : ByteArray) (i : Nat) (w : World) (hs : s.size ≤ 1048576) (hi : i ≤ s.size) :
    Calls Tryz.prog 19 #[.string s, .int .i64 (i : Int)] w fun e w' => BatchAns (s.data.toList.drop i) i w w' e := by
  obtain ⟨i0, hi0, hx0⟩ := Option.map_eq_some_iff.1 infoWr
  simp only [Prod.mk.injEq] at hx0
  have HI0 := Lib.hid hi0
  have HX0 := Lib.hid hx0
  clear hi0 hx0
  have HR0 : Hid (BBox ((w.alloc (.cells #[.slice none 0 0] 31)).alloc (.cells #[.slice none 0 0] 31)) w.heap.size (.slice none 0 0)) := ⟨by simp; omega, by simp [go_sem], fun o => by simp [go_sem]⟩
  have HQ0 : Hid (BBox ((w.alloc (.cells #[.slice none 0 0] 31)).alloc (.cells #[.slice none 0 0] 31)) (w.heap.size + 1) (.slice none 0 0)) := ⟨by simp, by simp [go_sem], fun o => by simp [go_sem]⟩
  have HB0 : Hid (Below w.heap.size w ((w.alloc (.cells #[.slice none 0 0] 31)).alloc (.cells #[.slice none 0 0] 31))) := ((Below.refl _ _).alloc (Nat.le_refl _) _).alloc (by simp) _
  have hz0 : ((w.alloc (.cells #[.slice none 0 0] 31)).alloc (.cells #[.slice none 0 0] 31)).heap.size = w.heap.size + 2 := by simp
  go_enter Tryz.func19, Tryz.ntmps19
  go_wp2_with fail
  generalize (w.alloc (.cells #[.slice none 0 0] 31)).alloc (.cells #[.slice none 0 0] 31) = W0 at *
  refine (line_any s i _ hs hi).mono ?_
  rintro e w1 ⟨hl, hw⟩
  subst w1
  rcases hl with ⟨l, r, hd, hnl, rfl⟩ | ⟨hno, rfl⟩
  rotate_left
  · have HNO : Hid (∀ ws, ¬ ValidAt (s.data.toList.drop i) ws) := fun ws hv => hno (valid_line hv)
    clear hno
    go_wp2_with fail
    refine (words_any _ _ (Nat.zero_le _)).mono ?_
    rintro e w2 ⟨g, cp, W, rfl, -, -, -, -, hb⟩
    have HB2 := Lib.hid (below_step HB0.out HB0.out.size hb)
    have HR2 := Lib.hid (HR0.out.below hb)
    have HQ2 := Lib.hid (HQ0.out.below hb)
    clear hb
    have HRX := Lib.hid (HR2.out.set (.slice none 0 0))
    have HBX : Hid (Below w.heap.size w (w2.setCell ⟨w.heap.size, 0, none⟩ (.slice none 0 0))) := HB2.out.setCell (p := ⟨w.heap.size, 0, none⟩) (Nat.le_refl _) _
    have z0 := HQ2.out.c0
    have z1 := HR2.out.c0
    have z2 := HR2.out.fz
    go_wp2
    have z3 := HRX.out.c0
    refine bodyPost_ret (v := .tuple #[.agg #[.slice none 0 0], .int .i64 0, .bool false]) (by simp [results, Tryz.results19, go_sem, z3]) rfl ?_
    exact ⟨HBX.out, .inr ⟨HNO.out, rfl⟩⟩
  have hll : i + l.length + 1 ≤ s.size := by
    have h := congrArg List.length hd
    simp at h
    omega
  have hls : (str l).size ≤ 1048576 := by rw [str_size]; omega
  go_wp2_with fail
  refine (words_any (str l) _ hls).mono ?_
  rintro e w2 ⟨g, cp, W, rfl, hWl, hnb, hgl, hrow, hb⟩
  have HB2 := Lib.hid (below_step HB0.out HB0.out.size hb)
  have HR2 := Lib.hid (HR0.out.below hb)
  have HQ2 := Lib.hid (HQ0.out.below hb)
  have HRW := Lib.hid hrow
  have hs2 : W0.heap.size ≤ w2.heap.size := hb.size
  have HD := Lib.hid hd
  have HNL := Lib.hid hnl
  have HNB := Lib.hid hnb
  have HGL : Hid (glue W = l ++ [32]) := hgl
  rw [str_size] at hWl
  clear hb hrow hd hnl hnb hgl HB0 HR0 HQ0
  obtain ⟨M, hM⟩ : ∃ M, W.length = M := ⟨_, rfl⟩
  rw [hM] at hWl ⊢
  have HBX : Hid (Below w.heap.size w (w2.setCell ⟨w.heap.size, 0, none⟩ (.slice none 0 0))) := HB2.out.setCell (p := ⟨w.heap.size, 0, none⟩) (Nat.le_refl _) _
  have HRX := Lib.hid (HR2.out.set (.slice none 0 0))
  have z0 := HQ2.out.c0
  have z1 := HR2.out.c0
  have z2 := HR2.out.fz
  by_cases hM2 : M = 2
  rotate_left
  · have HNO : Hid (∀ ws, ¬ ValidAt (s.data.toList.drop i) ws) := head_not HD.out HNL.out HNB.out HGL.out fun h => hM2 (hM ▸ h.1)
    have hne : ¬ (M : Int) = 2 := by omega
    clear hM
    go_wp2
    have z3 := HRX.out.c0
    refine bodyPost_ret (v := .tuple #[.agg #[.slice none 0 0], .int .i64 0, .bool false]) (by simp [results, Tryz.results19, go_sem, z3]) rfl ?_
    exact ⟨HBX.out, .inr ⟨HNO.out, rfl⟩⟩
  subst hM2
  obtain ⟨hg2, c0⟩ := HRW.out.at (Below.refl _ _) (k := 0) (by omega)
  obtain ⟨-, c1⟩ := HRW.out.at (Below.refl _ _) (k := 1) (by omega)
  have HM := Lib.hid hM
  clear hM
  obtain ⟨x0, hx0⟩ : ∃ x0, W.getD 0 ⟨#[]⟩ = x0 := ⟨_, rfl⟩
  obtain ⟨x1, hx1⟩ : ∃ x1, W.getD 1 ⟨#[]⟩ = x1 := ⟨_, rfl⟩
  rw [hx0] at c0
  rw [hx1] at c1
  have HX0' := Lib.hid hx0
  have HX1' := Lib.hid hx1
  clear hx0 hx1
  by_cases hbt : x0 = ⟨#[98, 97, 116, 99, 104]⟩
  rotate_left
  · have HNO : Hid (∀ ws, ¬ ValidAt (s.data.toList.drop i) ws) := head_not HD.out HNL.out HNB.out HGL.out fun h => hbt (HX0'.out ▸ h.2.1)
    have hq : (x0.toList == [98, 97, 116, 99, 104]) = false := by
      rw [beq_eq_false_iff_ne, ByteArray.toList_eq]
      intro h
      refine hbt (ByteArray.ext ?_)
      exact Array.ext' h
    go_wp2
    have z3 := HRX.out.c0
    refine bodyPost_ret (v := .tuple #[.agg #[.slice none 0 0], .int .i64 0, .bool false]) (by simp [results, Tryz.results19, go_sem, z3]) rfl ?_
    exact ⟨HBX.out, .inr ⟨HNO.out, rfl⟩⟩
  subst hbt
  have hxs : x1.size ≤ 1048576 := by
    have h1 := mem_len (word_at (W := W) (k := 1) (by rw [HM.out]; omega)).2
    rw [HX1'.out, HGL.out] at h1
    simp at h1
    omega
  go_wp2_with fail
  refine (num_any x1 _ hxs).mono ?_
  rintro e w3 ⟨z, b, rfl, hsay, hb⟩
  have HB3 := Lib.hid (below_step HB2.out HB2.out.size hb)
  have HR3 := Lib.hid (HR2.out.below hb)
  have HQ3 := Lib.hid (HQ2.out.below hb)
  have hs3 : w2.heap.size ≤ w3.heap.size := hb.size
  have HSAY := Lib.hid hsay
  clear hb hsay HB2 HR2 HQ2 HRX HBX z0 z1 z2 c0 c1 HRW
  have HBX : Hid (Below w.heap.size w (w3.setCell ⟨w.heap.size, 0, none⟩ (.slice none 0 0))) := HB3.out.setCell (p := ⟨w.heap.size, 0, none⟩) (Nat.le_refl _) _
  have HRX := Lib.hid (HR3.out.set (.slice none 0 0))
  have z0 := HQ3.out.c0
  have z1 := HR3.out.c0
  have z2 := HR3.out.fz
  cases b
  · have HNO : Hid (∀ ws, ¬ ValidAt (s.data.toList.drop i) ws) := head_not HD.out HNL.out HNB.out HGL.out fun h => by
      obtain ⟨m, m1, m2, h3⟩ := h.2.2
      rw [HX1'.out] at h3
      have := (HSAY.out.2.2.2 m (by omega) (by omega) h3).1
      cases this
    go_wp2
    have z3 := HRX.out.c0
    refine bodyPost_ret (v := .tuple #[.agg #[.slice none 0 0], .int .i64 0, .bool false]) (by simp [results, Tryz.results19, go_sem, z3]) rfl ?_
    exact ⟨HBX.out, .inr ⟨HNO.out, rfl⟩⟩
  have hz1 := HSAY.out.1
  have hz2 := HSAY.out.2.1
  by_cases hbw : btw z 1 6 = true
  rotate_left
  · have HNO : Hid (∀ ws, ¬ ValidAt (s.data.toList.drop i) ws) := head_not HD.out HNL.out HNB.out HGL.out fun h => by
      obtain ⟨m, m1, m2, h3⟩ := h.2.2
      rw [HX1'.out] at h3
      have := (HSAY.out.2.2.2 m (by omega) (by omega) h3).2
      refine hbw ?_
      rw [this]
      unfold btw
      simp
      omega
    have hbf : btw z 1 6 = false := by simpa using hbw
    go_wp2_with fail
    refine (between_any _ _ _ _).mono ?_
    rintro e w4 ⟨rfl, hw⟩
    subst w4
    rw [hbf]
    go_wp2
    have z3 := HRX.out.c0
    refine bodyPost_ret (v := .tuple #[.agg #[.slice none 0 0], .int .i64 0, .bool false]) (by simp [results, Tryz.results19, go_sem, z3]) rfl ?_
    exact ⟨HBX.out, .inr ⟨HNO.out, rfl⟩⟩
  obtain ⟨m, rfl, m1, m2⟩ : ∃ m : Nat, z = (m : Int) ∧ 1 ≤ m ∧ m ≤ 6 := by
    have := btw_bounds hbw
    exact ⟨z.toNat, by omega, by omega, by omega⟩
  go_wp2_with fail
  refine (between_any _ _ _ _).mono ?_
  rintro e w4 ⟨rfl, hw⟩
  subst w4
  rw [hbw]
  have hdr : s.data.toList.drop (i + (l.length + 1)) = r := drop_line HD.out
  have HSF : Hid (Sofar (s.data.toList.drop i) m 0 (l.length + 1) [] (s.data.toList.drop (i + (l.length + 1)))) := by
    rw [hdr]
    exact Lib.hid (sofar_start HD.out HNL.out HNB.out HGL.out HX1'.out HSAY.out rfl)
  have hw2 : w.heap.size + 2 ≤ w3.heap.size := by omega
  clear hbw hz1 hz2 HSAY HX1' HX0' HM HGL HNB HNL HD hdr HBX HRX z0 z1 z2 hxs hWl hls
  go_wp2
  go_loopw [9, 14] (fun at' kk wr => ∃ (k q : Nat) (a : Option Addr) (cap : Nat) (es : List EnG), k ≤ m ∧ kk = .int .i64 k ∧ at' = .int .i64 ((i + q : Nat) : Int) ∧ i + q ≤ s.size ∧ 1 ≤ q ∧ es.length = k ∧ w.heap.size + 2 ≤ wr.heap.size ∧ Hid (∀ d ∈ es, okR d.x = true) ∧ Hid (Sofar (s.data.toList.drop i) m k q (es.map (·.x)) (s.data.toList.drop (i + q))) ∧ Hid (RowG wr (w.heap.size + 2) (.slice a k cap) es) ∧ Hid (BBox wr w.heap.size (.slice none 0 0)) ∧ Hid (BBox wr (w.heap.size + 1) (.slice a k cap)) ∧ Hid (Below w.heap.size w wr)) (fun _ kk _ => m - (intOf kk).toNat)
  case atStart => exact ⟨0, l.length + 1, none, 0, [], Nat.zero_le _, rfl, by go_num, by omega, by omega, rfl, hw2, fun d hd => by simp at hd, HSF, rowG_nil _ _, HR3, HQ3, HB3⟩
  case round =>
    clear HSF HR3 HQ3 HB3
    obtain ⟨k, q, a, cap, es, hk, rfl, rfl, hq, hq1, hel, hwr, HOK, HS, HR, HRB, HQB, HB⟩ := hrel
    have HN1 := Lib.hid hel
    by_cases hk' : k < m
    · have i1 : (0 : Int) ≤ (k : Int) := by omega
      have i2 : (k : Int) < (m : Int) := by omega
      go_wp2_with fail
      refine (line_any s (i + q) _ hs hq).mono ?_
      rintro e w1 ⟨hl, hw⟩
      subst w1
      rcases hl with ⟨l', r', hd, hnl, rfl⟩ | ⟨hno, rfl⟩
      rotate_left
      · have HNO : Hid (∀ ws, ¬ ValidAt (s.data.toList.drop i) ws) := sofar_none HS.out hk hno
        clear hno HS
        go_wp2_with fail
        refine (specRead_any _ _ (Nat.zero_le _)).mono ?_
        rintro e w2 ⟨hb, hans⟩
        have HB2 := Lib.hid (below_step HB.out HB.out.size hb)
        have HRB2 := Lib.hid (HRB.out.below hb)
        clear hb HR HQB HB HRB
        rcases hans with ⟨x, ya, ycp, rfl, -, -⟩ | ⟨-, rfl⟩
        · obtain ⟨yk, yc, ys, yq, yv, yd, yx⟩ := x
          have HBA : Hid (Below w2.heap.size w2 (w2.alloc (.cells #[.int .i64 yk, .int .i64 yc, .int .i64 ys, .int .i64 yq, .int .i64 yv, .bool yd, .slice ya yx.length ycp] 56))) := (Below.refl _ _).alloc (Nat.le_refl _) _
          have HR3 := Lib.hid (HRB2.out.below HBA.out)
          have HB3 := Lib.hid (below_step HB2.out HB2.out.size HBA.out)
          have HBX : Hid (Below w.heap.size w ((w2.alloc (.cells #[.int .i64 yk, .int .i64 yc, .int .i64 ys, .int .i64 yq, .int .i64 yv, .bool yd, .slice ya yx.length ycp] 56)).setCell ⟨w.heap.size, 0, none⟩ (.slice none 0 0))) := HB3.out.setCell (p := ⟨w.heap.size, 0, none⟩) (Nat.le_refl _) _
          have HRX := Lib.hid (HR3.out.set (.slice none 0 0))
          have z1 := HR3.out.c0
          have z2 := HR3.out.fz
          go_wp2
          have z3 := HRX.out.c0
          refine bodyPost_ret (v := .tuple #[.agg #[.slice none 0 0], .int .i64 0, .bool false]) (by simp [results, Tryz.results19, go_sem, z3]) rfl ?_
          exact ⟨HBX.out, .inr ⟨HNO.out, rfl⟩⟩
        · have HBA : Hid (Below w2.heap.size w2 (w2.alloc (.cells #[.int .i64 0, .int .i64 0, .int .i64 0, .int .i64 0, .int .i64 0, .bool false, .slice none 0 0] 56))) := (Below.refl _ _).alloc (Nat.le_refl _) _
          have HR3 := Lib.hid (HRB2.out.below HBA.out)
          have HB3 := Lib.hid (below_step HB2.out HB2.out.size HBA.out)
          have HBX : Hid (Below w.heap.size w ((w2.alloc (.cells #[.int .i64 0, .int .i64 0, .int .i64 0, .int .i64 0, .int .i64 0, .bool false, .slice none 0 0] 56)).setCell ⟨w.heap.size, 0, none⟩ (.slice none 0 0))) := HB3.out.setCell (p := ⟨w.heap.size, 0, none⟩) (Nat.le_refl _) _
          have HRX := Lib.hid (HR3.out.set (.slice none 0 0))
          have z1 := HR3.out.c0
          have z2 := HR3.out.fz
          go_wp2
          have z3 := HRX.out.c0
          refine bodyPost_ret (v := .tuple #[.agg #[.slice none 0 0], .int .i64 0, .bool false]) (by simp [results, Tryz.results19, go_sem, z3]) rfl ?_
          exact ⟨HBX.out, .inr ⟨HNO.out, rfl⟩⟩
      have hll' : i + q + l'.length + 1 ≤ s.size := by
        have h := congrArg List.length hd
        simp at h
        omega
      have hls : (str l').size ≤ 1048576 := by rw [str_size]; omega
      have HD := Lib.hid hd
      have HNL := Lib.hid hnl
      clear hd hnl
      go_wp2_with fail
      refine (specRead_any (str l') _ hls).mono ?_
      rintro e w2 ⟨hb, hans⟩
      have HB2 := Lib.hid (below_step HB.out HB.out.size hb)
      have HRB2 := Lib.hid (HRB.out.below hb)
      have HQ2 := Lib.hid (HQB.out.below hb)
      have HR2 := Lib.hid (HR.out.below hb)
      have hs2 : wr.heap.size ≤ w2.heap.size := hb.size
      clear hb HQB HB HRB
      rcases hans with ⟨x, ya, ycp, rfl, htx, hrd⟩ | ⟨hnt, rfl⟩
      rotate_left
      · have HNO : Hid (∀ ws, ¬ ValidAt (s.data.toList.drop i) ws) := sofar_bad HS.out hk' HD.out HNL.out hnt
        clear hnt HS HD HNL
        have HBA : Hid (Below w2.heap.size w2 (w2.alloc (.cells #[.int .i64 0, .int .i64 0, .int .i64 0, .int .i64 0, .int .i64 0, .bool false, .slice none 0 0] 56))) := (Below.refl _ _).alloc (Nat.le_refl _) _
        have HR3 := Lib.hid (HRB2.out.below HBA.out)
        have HB3 := Lib.hid (below_step HB2.out HB2.out.size HBA.out)
        have HBX : Hid (Below w.heap.size w ((w2.alloc (.cells #[.int .i64 0, .int .i64 0, .int .i64 0, .int .i64 0, .int .i64 0, .bool false, .slice none 0 0] 56)).setCell ⟨w.heap.size, 0, none⟩ (.slice none 0 0))) := HB3.out.setCell (p := ⟨w.heap.size, 0, none⟩) (Nat.le_refl _) _
        have HRX := Lib.hid (HR3.out.set (.slice none 0 0))
        have z1 := HR3.out.c0
        have z2 := HR3.out.fz
        go_wp2
        have z3 := HRX.out.c0
        refine bodyPost_ret (v := .tuple #[.agg #[.slice none 0 0], .int .i64 0, .bool false]) (by simp [results, Tryz.results19, go_sem, z3]) rfl ?_
        exact ⟨HBX.out, .inr ⟨HNO.out, rfl⟩⟩
      have HS2 : Hid (Sofar (s.data.toList.drop i) m (k + 1) (q + l'.length + 1) (es.map (·.x) ++ [x]) (s.data.toList.drop (i + (q + l'.length + 1)))) := by
        have h := sofar_next HS.out hk' HD.out HNL.out htx
        have e2 := drop_line HD.out
        rw [show i + q + (l'.length + 1) = i + (q + l'.length + 1) by omega] at e2
        rw [e2]
        exact Lib.hid h
      obtain ⟨g2, hg⟩ := fresh_row hrd
      have HOX := Lib.hid htx.1
      have HG : Hid (FreshDeps wr.heap.size w2 ya g2 x.xs) := hg
      clear hrd hg htx HS HD HNL
      obtain ⟨yk, yc, ys, yq, yv, yd, yx⟩ := x
      simp only at HG
      have HAP : Hid (∀ d ∈ es, 0 < d.x.xs.length → 0 < yx.length → d.g ≠ g2) := fun d hd hp hq => by
        have h1 := ((HR.out.deps d hd).1 hp).2.2.1
        have h2 := (HG.out hq).2.1
        omega
      have HV : Hid (0 < yx.length → (Value.slice a k cap).ownBlock ≠ some g2) := fun hq e => by
        have h1 := (HR.out.own.lt g2 e).2
        have h2 := (HG.out hq).2.1
        omega
      clear HR
      have HBA : Hid (Below w2.heap.size w2 (w2.alloc (.cells #[.int .i64 yk, .int .i64 yc, .int .i64 ys, .int .i64 yq, .int .i64 yv, .bool yd, .slice ya yx.length ycp] 56))) := (Below.refl _ _).alloc (Nat.le_refl _) _
      have HB3 := Lib.hid (below_step HB2.out HB2.out.size HBA.out)
      have HR3 := Lib.hid (HR2.out.below HBA.out)
      have HG3 := Lib.hid (HG.out.below HBA.out)
      have HQ3 := Lib.hid (HQ2.out.below HBA.out)
      have HRB3 := Lib.hid (HRB2.out.below HBA.out)
      have hs3 : w2.heap.size + 1 = (w2.alloc (.cells #[.int .i64 yk, .int .i64 yc, .int .i64 ys, .int .i64 yq, .int .i64 yv, .bool yd, .slice ya yx.length ycp] 56)).heap.size := by simp
      have HOC := Lib.hid (oneG_cells (w2.alloc (.cells #[.int .i64 yk, .int .i64 yc, .int .i64 ys, .int .i64 yq, .int .i64 yv, .bool yd, .slice ya yx.length ycp] 56)) 56 ⟨⟨yk, yc, ys, yq, yv, yd, yx⟩, ya, g2, ycp⟩)
      have HBC : Hid (Below (w2.heap.size + 1) (w2.alloc (.cells #[.int .i64 yk, .int .i64 yc, .int .i64 ys, .int .i64 yq, .int .i64 yv, .bool yd, .slice ya yx.length ycp] 56)) ((w2.alloc (.cells #[.int .i64 yk, .int .i64 yc, .int .i64 ys, .int .i64 yq, .int .i64 yv, .bool yd, .slice ya yx.length ycp] 56)).alloc (.cells #[.int .i64 yk, .int .i64 yc, .int .i64 ys, .int .i64 yq, .int .i64 yv, .bool yd, .slice ya yx.length ycp] 56))) := (Below.refl _ _).alloc (by simp) _
      have HRC := Lib.hid (HR3.out.below (hs3 ▸ HBC.out))
      have HGC := Lib.hid (HG3.out.below (hs3 ▸ HBC.out))
      have HQC := Lib.hid (HQ3.out.below (hs3 ▸ HBC.out))
      have HRBC := Lib.hid (HRB3.out.below (hs3 ▸ HBC.out))
      have HBD := Lib.hid (below_step HB3.out HB3.out.size (hs3 ▸ HBC.out))
      have hsz : w.heap.size + 2 ≤ w2.heap.size := by omega
      have zq := HQ3.out.c0
      have HOW : Hid (((w2.alloc (.cells #[.int .i64 yk, .int .i64 yc, .int .i64 ys, .int .i64 yq, .int .i64 yv, .bool yd, .slice ya yx.length ycp] 56)).alloc (.cells #[.int .i64 yk, .int .i64 yc, .int .i64 ys, .int .i64 yq, .int .i64 yv, .bool yd, .slice ya yx.length ycp] 56)).ownsRow (w.heap.size + 2) 56 7 (.slice a k cap) k (es.flatMap wrValsG)) := by
        have h := HRC.out.own
        rw [hel] at h
        exact Lib.hid h
      clear hs3 HBC HR3 HG3 HB3 HBA
      go_wp2_with (at_builtin; refine wpList_append_lies _ (by rfl) _ _ _ (by rfl) (w.heap.size + 2) 56 i0 (wrV 0 0 0 0 0 false none 0 0) 7 72 Tryz.underlying29 HI0.out HX0.out.1 HX0.out.2.1 HX0.out.2.2 (by rfl) (by omega) (.slice a k cap) k (es.flatMap wrValsG) (by rfl) HOW.out ⟨w2.heap.size + 1, 0, none⟩ 1 1 (wrValsG ⟨⟨yk, yc, ys, yq, yv, yd, yx⟩, ya, g2, ycp⟩) (by rfl) (by rfl) (by simpa using HOC.out) (by simpa using valsG_one [⟨⟨yk, yc, ys, yq, yv, yd, yx⟩, ya, g2, ycp⟩]) (by omega) (by unfold maxLen; omega) (by omega) (by simp; omega) _ rfl ?_; intro g3 cp3 w5 hown hgrow hg3 _; refine Hid.out ?_)
      refine Lib.hid ?_
      have hobR : (Value.slice a k cap).ownBlock ≠ some w.heap.size := fun e => by have := (HRC.out.own.lt _ e).1; omega
      have hobQ : (Value.slice a k cap).ownBlock ≠ some (w.heap.size + 1) := fun e => by have := (HRC.out.own.lt _ e).1; omega
      have HB5 : Hid (Below w.heap.size w w5) := HBD.out.grown hgrow HBD.out.size fun j hj => by have := (HR2.out.own.lt j hj).1; omega
      have hown2 : w5.ownsRow (w.heap.size + 2) 56 7 (.slice (some ⟨g3, 0, none⟩) (es.length + 1) cp3) (es.length + 1) (es.flatMap wrValsG ++ wrValsG ⟨⟨yk, yc, ys, yq, yv, yd, yx⟩, ya, g2, ycp⟩) := by rw [hel]; exact hown
      have HR5 : Hid (RowG w5 (w.heap.size + 2) (.slice (some ⟨g3, 0, none⟩) (k + 1) cp3) (es ++ [⟨⟨yk, yc, ys, yq, yv, yd, yx⟩, ya, g2, ycp⟩])) := by
        have h := HRC.out.more (HGC.out.mono hwr) HV.out HAP.out hown2 hgrow hg3
        rw [hel] at h
        exact Lib.hid h
      have HQ5 : Hid (BBox w5 (w.heap.size + 1) (.slice a k cap)) := HQC.out.of_block hgrow.size (hgrow.block _ HQC.out.lt (fun e => hobQ e.symm))
      have HRB5 : Hid (BBox w5 w.heap.size (.slice none 0 0)) := HRBC.out.of_block hgrow.size (hgrow.block _ HRBC.out.lt (fun e => hobR e.symm))
      have hs5 : w.heap.size + 2 ≤ w5.heap.size := by
        have := hgrow.size
        simp at this
        omega
      have HQ6 := Lib.hid (HQ5.out.set (.slice (some ⟨g3, 0, none⟩) (k + 1) cp3))
      have HRB6 := Lib.hid (HRB5.out.setOther (c := w.heap.size + 1) (by omega) (.slice (some ⟨g3, 0, none⟩) (k + 1) cp3))
      have HR6 := Lib.hid (HR5.out.holeQ ((Hole.refl (w.heap.size + 1) w5).set 0 (.slice (some ⟨g3, 0, none⟩) (k + 1) cp3)) (by omega))
      have HB6 : Hid (Below w.heap.size w (w5.setCell ⟨w.heap.size + 1, 0, none⟩ (.slice (some ⟨g3, 0, none⟩) (k + 1) cp3))) := HB5.out.setCell (p := ⟨w.heap.size + 1, 0, none⟩) (Nat.le_succ _) _
      have HS6 : Hid (Sofar (s.data.toList.drop i) m (k + 1) (q + l'.length + 1) ((es ++ [(⟨⟨yk, yc, ys, yq, yv, yd, yx⟩, ya, g2, ycp⟩ : EnG)]).map (·.x)) (s.data.toList.drop (i + (q + l'.length + 1)))) := by
        rw [List.map_append]
        exact HS2
      have HOK6 : Hid (∀ d ∈ es ++ [(⟨⟨yk, yc, ys, yq, yv, yd, yx⟩, ya, g2, ycp⟩ : EnG)], okR d.x = true) := fun d hd => by
        rcases List.mem_append.1 hd with hd | hd
        · exact HOK.out d hd
        · obtain rfl : d = _ := by simpa using hd
          exact HOX.out
      have zf := HQ5.out.fz
      have zc := HQ5.out.c0
      clear hown hown2 hgrow HRC HS2 HOW HOC
      go_wp2
      exact ⟨⟨k + 1, q + l'.length + 1, _, _, _, by omega, by go_num, by go_num, by omega, by omega, by simp [hel], by simpa [World.setCell] using hs5, HOK6, HS6, HR6, HRB6, HQ6, HB6⟩, by simp [intOf]; omega⟩
    · have hkk : k = m := by omega
      subst hkk
      have ge0 := aft_cell HQB.out.lt HQB.out.c0
      have ne := aft_some wr
      go_wp2_with fail
      refine (line_any s (i + q) _ hs hq).mono ?_
      rintro e w1 ⟨hl, hw⟩
      subst w1
      rcases hl with ⟨l', r', hd, hnl, rfl⟩ | ⟨hno, rfl⟩
      rotate_left
      · have HNO : Hid (∀ ws, ¬ ValidAt (s.data.toList.drop i) ws) := sofar_none HS.out hk hno
        clear hno HS
        go_wp2_with fail
        refine wp_region_aft (by kernel_rfl) (by kernel_rfl) ?_
        repeat (first | go_big_quiet_step (fail))
        refine wpQuiet_nil ?_
        intro wq hwq
        have HBQ : Hid (Below w.heap.size w wq) := below_step HB.out HB.out.size hwq
        have HRBQ := Lib.hid (HRB.out.below hwq)
        have HQBQ := Lib.hid (HQB.out.below hwq)
        have HRQ := Lib.hid (HR.out.below hwq)
        clear hwq ge0 ne HB HRB HQB HR
        have z0 := HQBQ.out.c0
        have z1 := HRBQ.out.c0
        have z2 := HRBQ.out.fz
        have HBX : Hid (Below w.heap.size w (wq.setCell ⟨w.heap.size, 0, none⟩ (.slice none 0 0))) := HBQ.out.setCell (p := ⟨w.heap.size, 0, none⟩) (Nat.le_refl _) _
        have HRX := Lib.hid (HRBQ.out.set (.slice none 0 0))
        go_wp2
        have z3 := HRX.out.c0
        refine bodyPost_ret (v := .tuple #[.agg #[.slice none 0 0], .int .i64 0, .bool false]) (by simp [results, Tryz.results19, go_sem, z3]) rfl ?_
        exact ⟨HBX.out, .inr ⟨HNO.out, rfl⟩⟩
      have hll' : i + q + l'.length + 1 ≤ s.size := by
        have h := congrArg List.length hd
        simp at h
        omega
      have HC : Hid (∀ p : Aft wr.heap.size wr, Calls Tryz.prog 34 #[.slice a k cap] p.now fun e w' => e = .returned (.string (str (batchT (es.map (·.x))))) ∧ Below p.now.heap.size p.now w') := fun p =>
        specBatch_any a k cap _ _ (by simp [hel]) (by omega) (rowG_few HOK.out) (HR.out.ws0.below p.below)
      have HEX : Hid ((s.extract i (i + q + l'.length + 1)).data.toList = (s.data.toList.drop i).take (q + l'.length + 1)) := by
        rw [show i + q + l'.length + 1 = i + (q + l'.length + 1) by omega]
        exact Lib.hid (extract_take s i _)
      have HNE : Hid ((s.data.toList.drop i).take (q + l'.length + 1) ≠ batchT (es.map (·.x)) → ∀ ws, ¬ ValidAt (s.data.toList.drop i) ws) := fun h => sofar_end HS.out hd hnl h
      have hdne : s.data.toList.drop i ≠ [] := fun h => by
        have := congrArg List.length h
        simp at this
        omega
      have HYES : Hid ((s.data.toList.drop i).take (q + l'.length + 1) = batchT (es.map (·.x)) → ValidAt (s.data.toList.drop i) (es.map (·.x)) ∧ i + (batchT (es.map (·.x))).length = i + q + l'.length + 1) := fun h => by
        refine ⟨valid_of_eq h hdne, ?_⟩
        rw [← h, List.length_take, List.length_drop]
        have : s.data.toList.length = s.size := by simp
        omega
      have x1 : (i : Int) ≤ ((i + q + l'.length + 1 : Nat) : Int) := by omega
      have x2 : ((i + q + l'.length + 1 : Nat) : Int) ≤ (s.size : Int) := by omega
      clear hd hnl HS hdne
      generalize (s.data.toList.drop i).take (q + l'.length + 1) = tk at *
      generalize i + q + l'.length + 1 = X at *
      by_cases heq : tk = batchT (es.map (·.x))
      rotate_left
      · have HNO := Lib.hid (HNE.out heq)
        have hc : ((s.extract i X).toList == (str (batchT (es.map (·.x)))).toList) = false := by
          rw [beq_eq_false_iff_ne, ByteArray.toList_eq, ByteArray.toList_eq, HEX.out]
          exact heq
        go_wp2_with fail
        refine wp_region_aft (by kernel_rfl) (by kernel_rfl) ?_
        repeat (first | go_big_quiet_step (first | (go_at_call 34; exact aft_of (HC.out _))))
        refine wpQuiet_nil ?_
        intro wq hwq
        clear HC
        have HBQ : Hid (Below w.heap.size w wq) := below_step HB.out HB.out.size hwq
        have HRBQ := Lib.hid (HRB.out.below hwq)
        have HQBQ := Lib.hid (HQB.out.below hwq)
        have HRQ := Lib.hid (HR.out.below hwq)
        clear hwq ge0 ne HB HRB HQB HR
        have z0 := HQBQ.out.c0
        have z1 := HRBQ.out.c0
        have z2 := HRBQ.out.fz
        have HBX : Hid (Below w.heap.size w (wq.setCell ⟨w.heap.size, 0, none⟩ (.slice none 0 0))) := HBQ.out.setCell (p := ⟨w.heap.size, 0, none⟩) (Nat.le_refl _) _
        have HRX := Lib.hid (HRBQ.out.set (.slice none 0 0))
        go_wp2
        have z3 := HRX.out.c0
        refine bodyPost_ret (v := .tuple #[.agg #[.slice none 0 0], .int .i64 0, .bool false]) (by simp [results, Tryz.results19, go_sem, z3]) rfl ?_
        exact ⟨HBX.out, .inr ⟨HNO.out, rfl⟩⟩
      have HV := Lib.hid (HYES.out heq)
      have hc : ((s.extract i X).toList == (str (batchT (es.map (·.x)))).toList) = true := by
        rw [beq_iff_eq, ByteArray.toList_eq, ByteArray.toList_eq, HEX.out]
        exact heq
      go_wp2_with fail
      refine wp_region_aft (by kernel_rfl) (by kernel_rfl) ?_
      repeat (first | go_big_quiet_step (first | (go_at_call 34; exact aft_of (HC.out _))))
      refine wpQuiet_nil ?_
      intro wq hwq
      clear HC
      have HBQ : Hid (Below w.heap.size w wq) := below_step HB.out HB.out.size hwq
      have HRBQ := Lib.hid (HRB.out.below hwq)
      have HQBQ := Lib.hid (HQB.out.below hwq)
      have HRQ := Lib.hid (HR.out.below hwq)
      clear hwq ge0 ne HB HRB HQB HR
      have z0 := HQBQ.out.c0
      have z1 := HRBQ.out.c0
      have z2 := HRBQ.out.fz
      have HBX : Hid (Below w.heap.size w (wq.setCell ⟨w.heap.size, 0, none⟩ (.slice a k cap))) := HBQ.out.setCell (p := ⟨w.heap.size, 0, none⟩) (Nat.le_refl _) _
      have HRX := Lib.hid (HRBQ.out.set (.slice a k cap))
      have HRW := Lib.hid ((HRQ.out.holeQ ((Hole.refl w.heap.size wq).set 0 (.slice a k cap)) (by omega)).mono (base' := w.heap.size) (by omega))
      go_wp2
      have z3 := HRX.out.c0
      refine bodyPost_ret (v := .tuple #[.agg #[.slice a k cap], .int .i64 (X : Int), .bool true]) (by simp [results, Tryz.results19, go_sem, z3]) rfl ?_
      subst hel
      exact ⟨HBX.out, .inl ⟨a, cap, es, by rw [HV.out.2], HV.out.1, HRW.out⟩⟩

end Go.Proofs.YtidpcjcnhklmpacGreatDoor

/- A row of writes that grows; the contract of the specification's l02Copies. -/
namespace Go.Proofs.YtidpcjcnhklmpacGreatDoor
open Go.ChangeShapes Go.WideShapes Go.ChangeAt Go.RowKit Go.Joins
attribute [local go_sem ↓] Go.wp_at_zero Go.wp_at_succ

/-- A write, the block of its dependencies, and their room. -/
structure En where
  x : Wr
  g : Nat
  cp : Nat

def ez : En := ⟨wz, 0, 0⟩

def wrVals (e : En) : List Value := [.int .i64 e.x.k, .int .i64 e.x.c, .int .i64 e.x.s, .int .i64 e.x.q, .int .i64 e.x.v, .bool e.x.de, .slice (some ⟨e.g, 0, none⟩) e.x.xs.length e.cp]

theorem vals_len : ∀ es : List En, (es.flatMap wrVals).length = es.length * 7
  | [] => rfl
  | e :: r => by
    rw [List.flatMap_cons, List.length_append, vals_len r]
    simp [wrVals]
    omega

theorem vals_at : ∀ (es : List En) (i c : Nat), i < es.length → c < 7 → (es.flatMap wrVals)[i * 7 + c]? = (wrVals (es.getD i ez))[c]?
  | [], i, c, hi, _ => by simp at hi
  | e :: r, 0, c, _, hc => by
    rw [List.flatMap_cons, List.getElem?_append_left (by simp [wrVals]; omega)]
    simp
  | e :: r, i + 1, c, hi, hc => by
    rw [List.flatMap_cons, List.getElem?_append_right (by simp [wrVals]; omega)]
    have := vals_at r i c (by simpa using hi) hc
    rw [show (i + 1) * 7 + c - (wrVals e).length = i * 7 + c by simp [wrVals]; omega, this]
    simp

theorem vals_one (es : List En) : ∀ u ∈ es.flatMap wrVals, u.oneCell' = true := by
  intro u hu
  obtain ⟨e, _, h⟩ := List.mem_flatMap.1 hu
  simp only [wrVals, List.mem_cons, List.not_mem_nil, or_false] at h
  rcases h with rfl | rfl | rfl | rfl | rfl | rfl | rfl <;> rfl

/-- A row of writes of one's own, from block number base on. -/
structure RowEs (w : World) (base g cap : Nat) (es : List En) : Prop where
  le : base ≤ g
  lt : g < w.heap.size
  own : w.ownsRow base 56 7 (.slice (some ⟨g, 0, none⟩) es.length cap) es.length (es.flatMap wrVals)
  deps : ∀ e ∈ es, base ≤ e.g ∧ e.g < w.heap.size ∧ e.g ≠ g ∧ HoldsDeps w e.g 0 e.x.xs

theorem RowEs.below {w w' : World} {base g cap : Nat} {es : List En} (h : RowEs w base g cap es) (hb : Below w.heap.size w w') : RowEs w' base g cap es where
  le := h.le
  lt := Nat.lt_of_lt_of_le h.lt hb.size
  own := h.own.kept (row := none) ⟨hb.os, hb.tape, hb.output, hb.size, fun k hk _ => hb.block k hk⟩ (.inr (by simp [Value.ownBlock]))
  deps := fun e he => ⟨(h.deps e he).1, Nat.lt_of_lt_of_le (h.deps e he).2.1 hb.size, (h.deps e he).2.2.1, (h.deps e he).2.2.2.below hb (h.deps e he).2.1⟩

theorem rowEs_start (w : World) (base : Nat) (hb : base ≤ w.heap.size) : RowEs (w.alloc (.cells #[] 56)) base w.heap.size 0 [] where
  le := hb
  lt := by simp
  own := World.ownsRow_made w #[] 0 hb (by simp [maxLen]) (by simp)
  deps := fun e he => by simp at he

def gamma (es : List En) (i : Nat) : Nat := (es.getD i ez).g

theorem RowEs.holds {w : World} {base g cap : Nat} {es : List En} (h : RowEs w base g cap es) {ws : List Wr} (hw : es.map (·.x) = ws) : HoldsWs w g ws (gamma es) := by
  subst hw
  refine ⟨h.lt, fun i hi => ?_⟩
  have hi' : i < es.length := by simpa using hi
  have hx : (es.map (·.x)).getD i wz = (es.getD i ez).x := by simp [List.getD, hi']
  have hm : es.getD i ez ∈ es := by simp [List.getD, hi']
  rw [hx]
  have c : ∀ c, c < 7 → w.cell? ⟨g, i * 7 + c, none⟩ = (wrVals (es.getD i ez))[c]? := fun c hc => by rw [h.own.cellAt _ (by omega), vals_at es i c hi' hc]
  exact ⟨⟨(es.getD i ez).cp, c 0 (by omega), c 1 (by omega), c 2 (by omega), c 3 (by omega), c 4 (by omega), c 5 (by omega), c 6 (by omega)⟩, (h.deps _ hm).2.1, (h.deps _ hm).2.2.2⟩

/-- One write more. -/
theorem RowEs.more {w w5 : World} {base g cap g5 cap5 : Nat} {es : List En} {e : En} (h : RowEs w base g cap es) (he : base ≤ e.g ∧ e.g < w.heap.size ∧ e.g ≠ g ∧ HoldsDeps w e.g 0 e.x.xs)
    (hown : w5.ownsRow base 56 7 (.slice (some ⟨g5, 0, none⟩) (es.length + 1) cap5) (es.length + 1) (es.flatMap wrVals ++ wrVals e)) (hgrow : w.grownBy w5 (some g)) (hg : some g = some g5 ∨ g5 = w.heap.size) : RowEs w5 base g5 cap5 (es ++ [e]) where
  le := (hown.lt g5 rfl).1
  lt := (hown.lt g5 rfl).2
  own := by
    rw [List.length_append, List.flatMap_append]
    simpa using hown
  deps := by
    have : ∀ d : En, (base ≤ d.g ∧ d.g < w.heap.size ∧ d.g ≠ g ∧ HoldsDeps w d.g 0 d.x.xs) → base ≤ d.g ∧ d.g < w5.heap.size ∧ d.g ≠ g5 ∧ HoldsDeps w5 d.g 0 d.x.xs := fun d ⟨h1, h2, h3, h4⟩ =>
      ⟨h1, Nat.lt_of_lt_of_le h2 hgrow.size, by
        rcases hg with hg | hg
        · injection hg with hg
          rw [← hg]
          exact h3
        · omega, fun i hi => by
        have e' : ∀ o, w5.cell? ⟨d.g, o, none⟩ = w.cell? ⟨d.g, o, none⟩ := fun o => World.cell?_of_block (a := ⟨d.g, o, none⟩) (hgrow.block d.g h2 (by simpa using h3))
        obtain ⟨a0, a1, a2, a3⟩ := h4 i hi
        exact ⟨(e' _).trans a0, (e' _).trans a1, (e' _).trans a2, (e' _).trans a3⟩⟩
    intro d hd
    rcases List.mem_append.1 hd with hd | hd
    · exact this d (h.deps d hd)
    · have hd : d = e := by simpa using hd
      subst hd
      exact this d he

theorem one_cells (w : World) (t : Nat) (e : En) : ∀ j u, (wrVals e)[j]? = some u → (w.alloc (.cells #[.int .i64 e.x.k, .int .i64 e.x.c, .int .i64 e.x.s, .int .i64 e.x.q, .int .i64 e.x.v, .bool e.x.de, .slice (some ⟨e.g, 0, none⟩) e.x.xs.length e.cp] t)).cell? ((⟨w.heap.size, 0, none⟩ : Addr).add j) = some u := by
  intro j u hu
  have e1 : (⟨w.heap.size, 0, none⟩ : Addr).add j = ⟨w.heap.size, j, none⟩ := by
    unfold Addr.add
    split
    · rename_i h
      rw [h]
    · simp
  rw [e1, cell_of_row _ _ j _ t (0, 0) (heap_alloc_new w _), ← hu]
  simp [wrVals]

end Go.Proofs.YtidpcjcnhklmpacGreatDoor
