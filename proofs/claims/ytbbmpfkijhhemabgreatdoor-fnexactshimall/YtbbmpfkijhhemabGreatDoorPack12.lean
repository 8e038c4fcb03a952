import Derived.Test.YtbbmpfkijhhemabGreatDoorPack11
import Derived.Test.YtbbmpfkijhhemabGreatDoorPack1
import Derived.Test.YtbbmpfkijhhemabGreatDoorPack7
import Derived.Test.YtbbmpfkijhhemabGreatDoorPack8
import Derived.Deep.OwnRows
/- The contract of spec.l06Batch: the batch that begins at a place. -/
namespace Go.Proofs.YtbbmpfkijhhemabGreatDoor
open Go.ChangeShapes Go.WideShapes Go.ChangeAt Go.RowKit Go.Joins
attribute [local go_sem ↓] Go.wp_at_zero Go.wp_at_succ

/-- What reading a batch answers. -/
def BatchAns (t : List UInt8) (i : Nat) (w w' : World) (e : Ending) : Prop :=
  Below w.heap.size w w' ∧ ((∃ a cap es, e = .returned (.tuple #[.agg #[.slice a (List.length es) cap], .int .i64 ((i + (batchT (es.map (·.x))).length : Nat) : Int), .bool true]) ∧ ValidAt t (es.map (·.x)) ∧ RowG w' w.heap.size (.slice a es.length cap) es) ∨
    ((∀ ws, ¬ ValidAt t ws) ∧ e = .returned (.tuple #[.agg #[.slice none 0 0], .int .i64 0, .bool false])))

set_option maxRecDepth 100000 in
set_option maxHeartbeats 8000000 in
theorem batch_any (s : ByteArray) (i : Nat) (w : World) (hs : s.size ≤ 1048576) (hi : i ≤ s.size) :
    Calls Tryz.prog 59 #[.string s, .int .i64 (i : Int)] w fun e w' => BatchAns (s.data.toList.drop i) i w w' e := by
  obtain ⟨i0, hi0, hx0⟩ := Option.map_eq_some_iff.1 infoWr
  simp only [Prod.mk.injEq] at hx0
  have HI0 := Lib.hid hi0
  have HX0 := Lib.hid hx0
  clear hi0 hx0
  have HR0 : Hid (BBox ((w.alloc (.cells #[.slice none 0 0] 74)).alloc (.cells #[.slice none 0 0] 74)) w.heap.size (.slice none 0 0)) := ⟨by simp; omega, by simp [go_sem], fun o => by simp [go_sem]⟩
  have HQ0 : Hid (BBox ((w.alloc (.cells #[.slice none 0 0] 74)).alloc (.cells #[.slice none 0 0] 74)) (w.heap.size + 1) (.slice none 0 0)) := ⟨by simp, by simp [go_sem], fun o => by simp [go_sem]⟩
  have HB0 : Hid (Below w.heap.size w ((w.alloc (.cells #[.slice none 0 0] 74)).alloc (.cells #[.slice none 0 0] 74))) := ((Below.refl _ _).alloc (Nat.le_refl _) _).alloc (by simp) _
  have hz0 : ((w.alloc (.cells #[.slice none 0 0] 74)).alloc (.cells #[.slice none 0 0] 74)).heap.size = w.heap.size + 2 := by simp
  go_enter Tryz.func59, Tryz.ntmps59
  go_wp2_with fail
  generalize (w.alloc (.cells #[.slice none 0 0] 74)).alloc (.cells #[.slice none 0 0] 74) = W0 at *
  refine (line_any s i _ hs hi).mono ?_
  rintro e w1 ⟨hl, hw⟩
  subst w1
  rcases hl with ⟨l, r, hd, hnl, rfl⟩ | ⟨hno, rfl⟩
  rotate_left
  · have HNO : Hid (∀ ws, ¬ ValidAt (s.data.toList.drop i) ws) := fun ws hv => hno (valid_line hv)
    clear hno
    go_wp2_with fail
    refine (words_any _ _ (Nat.zero_le _)).mono ?_
    rintro e w2 ⟨g, cp, W, rfl, -, -, -, -, hb⟩
    have HB2 := Lib.hid (below_step HB0.out HB0.out.size hb)
    have HR2 := Lib.hid (HR0.out.below hb)
    have HQ2 := Lib.hid (HQ0.out.below hb)
    clear hb
    have HRX := Lib.hid (HR2.out.set (.slice none 0 0))
    have HBX : Hid (Below w.heap.size w (w2.setCell ⟨w.heap.size, 0, none⟩ (.slice none 0 0))) := HB2.out.setCell (p := ⟨w.heap.size, 0, none⟩) (Nat.le_refl _) _
    have z0 := HQ2.out.c0
    have z1 := HR2.out.c0
    have z2 := HR2.out.fz
    go_wp2
    have z3 := HRX.out.c0
    refine bodyPost_ret (v := .tuple #[.agg #[.slice none 0 0], .int .i64 0, .bool false]) (by simp [results, Tryz.results59, go_sem, z3]) rfl ?_
    exact ⟨HBX.out, .inr ⟨HNO.out, rfl⟩⟩
  have hll : i + l.length + 1 ≤ s.size := by
    have h := congrArg List.length hd
    simp at h
    omega
  have hls : (str l).size ≤ 1048576 := by rw [str_size]; omega
  go_wp2_with fail
  refine (words_any (str l) _ hls).mono ?_
  rintro e w2 ⟨g, cp, W, rfl, hWl, hnb, hgl, hrow, hb⟩
  have HB2 := Lib.hid (below_step HB0.out HB0.out.size hb)
  have HR2 := Lib.hid (HR0.out.below hb)
  have HQ2 := Lib.hid (HQ0.out.below hb)
  have HRW := Lib.hid hrow
  have hs2 : W0.heap.size ≤ w2.heap.size := hb.size
  have HD := Lib.hid hd
  have HNL := Lib.hid hnl
  have HNB := Lib.hid hnb
  have HGL : Hid (glue W = l ++ [32]) := hgl
  rw [str_size] at hWl
  clear hb hrow hd hnl hnb hgl HB0 HR0 HQ0
  obtain ⟨M, hM⟩ : ∃ M, W.length = M := ⟨_, rfl⟩
  rw [hM] at hWl ⊢
  have HBX : Hid (Below w.heap.size w (w2.setCell ⟨w.heap.size, 0, none⟩ (.slice none 0 0))) := HB2.out.setCell (p := ⟨w.heap.size, 0, none⟩) (Nat.le_refl _) _
  have HRX := Lib.hid (HR2.out.set (.slice none 0 0))
  have z0 := HQ2.out.c0
  have z1 := HR2.out.c0
  have z2 := HR2.out.fz
  by_cases hM2 : M = 2
  rotate_left
  · have HNO : Hid (∀ ws, ¬ ValidAt (s.data.toList.drop i) ws) := head_not HD.out HNL.out HNB.out HGL.out fun h => hM2 (hM ▸ h.1)
    have hne : ¬ (M : Int) = 2 := by omega
    clear hM
    go_wp2
    have z3 := HRX.out.c0
    refine bodyPost_ret (v := .tuple #[.agg #[.slice none 0 0], .int .i64 0, .bool false]) (by simp [results, Tryz.results59, go_sem, z3]) rfl ?_
    exact ⟨HBX.out, .inr ⟨HNO.out, rfl⟩⟩
  subst hM2
  obtain ⟨hg2, c0⟩ := HRW.out.at (Below.refl _ _) (k := 0) (by omega)
  obtain ⟨-, c1⟩ := HRW.out.at (Below.refl _ _) (k := 1) (by omega)
  have HM := Lib.hid hM
  clear hM
  obtain ⟨x0, hx0⟩ : ∃ x0, W.getD 0 ⟨#[]⟩ = x0 := ⟨_, rfl⟩
  obtain ⟨x1, hx1⟩ : ∃ x1, W.getD 1 ⟨#[]⟩ = x1 := ⟨_, rfl⟩
  rw [hx0] at c0
  rw [hx1] at c1
  have HX0' := Lib.hid hx0
  have HX1' := Lib.hid hx1
  clear hx0 hx1
  by_cases hbt : x0 = ⟨#[98, 97, 116, 99, 104]⟩
  rotate_left
  · have HNO : Hid (∀ ws, ¬ ValidAt (s.data.toList.drop i) ws) := head_not HD.out HNL.out HNB.out HGL.out fun h => hbt (HX0'.out ▸ h.2.1)
    have hq : (x0.toList == [98, 97, 116, 99, 104]) = false := by
      rw [beq_eq_false_iff_ne, ByteArray.toList_eq]
      intro h
      refine hbt (ByteArray.ext ?_)
      exact Array.ext' h
    go_wp2
    have z3 := HRX.out.c0
    refine bodyPost_ret (v := .tuple #[.agg #[.slice none 0 0], .int .i64 0, .bool false]) (by simp [results, Tryz.results59, go_sem, z3]) rfl ?_
    exact ⟨HBX.out, .inr ⟨HNO.out, rfl⟩⟩
  subst hbt
  have hxs : x1.size ≤ 1048576 := by
    have h1 := mem_len (word_at (W := W) (k := 1) (by rw [HM.out]; omega)).2
    rw [HX1'.out, HGL.out] at h1
    simp at h1
    omega
  go_wp2_with fail
  refine (num_any x1 _ hxs).mono ?_
  rintro e w3 ⟨z, b, rfl, hsay, hb⟩
  have HB3 := Lib.hid (below_step HB2.out HB2.out.size hb)
  have HR3 := Lib.hid (HR2.out.below hb)
  have HQ3 := Lib.hid (HQ2.out.below hb)
  have hs3 : w2.heap.size ≤ w3.heap.size := hb.size
  have HSAY := Lib.hid hsay
  clear hb hsay HB2 HR2 HQ2 HRX HBX z0 z1 z2 c0 c1 HRW
  have HBX : Hid (Below w.heap.size w (w3.setCell ⟨w.heap.size, 0, none⟩ (.slice none 0 0))) := HB3.out.setCell (p := ⟨w.heap.size, 0, none⟩) (Nat.le_refl _) _
  have HRX := Lib.hid (HR3.out.set (.slice none 0 0))
  have z0 := HQ3.out.c0
  have z1 := HR3.out.c0
  have z2 := HR3.out.fz
  cases b
  · have HNO : Hid (∀ ws, ¬ ValidAt (s.data.toList.drop i) ws) := head_not HD.out HNL.out HNB.out HGL.out fun h => by
      obtain ⟨m, m1, m2, h3⟩ := h.2.2
      rw [HX1'.out] at h3
      have := (HSAY.out.2.2.2 m (by omega) (by omega) h3).1
      cases this
    go_wp2
    have z3 := HRX.out.c0
    refine bodyPost_ret (v := .tuple #[.agg #[.slice none 0 0], .int .i64 0, .bool false]) (by simp [results, Tryz.results59, go_sem, z3]) rfl ?_
    exact ⟨HBX.out, .inr ⟨HNO.out, rfl⟩⟩
  have hz1 := HSAY.out.1
  have hz2 := HSAY.out.2.1
  by_cases hbw : btw z 1 6 = true
  rotate_left
  · have HNO : Hid (∀ ws, ¬ ValidAt (s.data.toList.drop i) ws) := head_not HD.out HNL.out HNB.out HGL.out fun h => by
      obtain ⟨m, m1, m2, h3⟩ := h.2.2
      rw [HX1'.out] at h3
      have := (HSAY.out.2.2.2 m (by omega) (by omega) h3).2
      refine hbw ?_
      rw [this]
      unfold btw
      simp
      omega
    have hbf : btw z 1 6 = false := by simpa using hbw
    go_wp2_with fail
    refine (between_any _ _ _ _).mono ?_
    rintro e w4 ⟨rfl, hw⟩
    subst w4
    rw [hbf]
    go_wp2
    have z3 := HRX.out.c0
    refine bodyPost_ret (v := .tuple #[.agg #[.slice none 0 0], .int .i64 0, .bool false]) (by simp [results, Tryz.results59, go_sem, z3]) rfl ?_
    exact ⟨HBX.out, .inr ⟨HNO.out, rfl⟩⟩
  obtain ⟨m, rfl, m1, m2⟩ : ∃ m : Nat, z = (m : Int) ∧ 1 ≤ m ∧ m ≤ 6 := by
    have := btw_bounds hbw
    exact ⟨z.toNat, by omega, by omega, by omega⟩
  go_wp2_with fail
  refine (between_any _ _ _ _).mono ?_
  rintro e w4 ⟨rfl, hw⟩
  subst w4
  rw [hbw]
  have hdr : s.data.toList.drop (i + (l.length + 1)) = r := drop_line HD.out
  have HSF : Hid (Sofar (s.data.toList.drop i) m 0 (l.length + 1) [] (s.data.toList.drop (i + (l.length + 1)))) := by
    rw [hdr]
    exact Lib.hid (sofar_start HD.out HNL.out HNB.out HGL.out HX1'.out HSAY.out rfl)
  have hw2 : w.heap.size + 2 ≤ w3.heap.size := by omega
  clear hbw hz1 hz2 HSAY HX1' HX0' HM HGL HNB HNL HD hdr HBX HRX z0 z1 z2 hxs hWl hls
  go_wp2
  go_loopw [9, 14] (fun at' kk wr => ∃ (k q : Nat) (a : Option Addr) (cap : Nat) (es : List EnG), k ≤ m ∧ kk = .int .i64 k ∧ at' = .int .i64 ((i + q : Nat) : Int) ∧ i + q ≤ s.size ∧ 1 ≤ q ∧ es.length = k ∧ w.heap.size + 2 ≤ wr.heap.size ∧ Hid (∀ d ∈ es, okR d.x = true) ∧ Hid (Sofar (s.data.toList.drop i) m k q (es.map (·.x)) (s.data.toList.drop (i + q))) ∧ Hid (RowG wr (w.heap.size + 2) (.slice a k cap) es) ∧ Hid (BBox wr w.heap.size (.slice none 0 0)) ∧ Hid (BBox wr (w.heap.size + 1) (.slice a k cap)) ∧ Hid (Below w.heap.size w wr)) (fun _ kk _ => m - (intOf kk).toNat)
  case atStart => exact ⟨0, l.length + 1, none, 0, [], Nat.zero_le _, rfl, by go_num, by omega, by omega, rfl, hw2, fun d hd => by simp at hd, HSF, rowG_nil _ _, HR3, HQ3, HB3⟩
  case round =>
    clear HSF HR3 HQ3 HB3
    obtain ⟨k, q, a, cap, es, hk, rfl, rfl, hq, hq1, hel, hwr, HOK, HS, HR, HRB, HQB, HB⟩ := hrel
    have HN1 := Lib.hid hel
    by_cases hk' : k < m
    · have i1 : (0 : Int) ≤ (k : Int) := by omega
      have i2 : (k : Int) < (m : Int) := by omega
      go_wp2_with fail
      refine (line_any s (i + q) _ hs hq).mono ?_
      rintro e w1 ⟨hl, hw⟩
      subst w1
      rcases hl with ⟨l', r', hd, hnl, rfl⟩ | ⟨hno, rfl⟩
      rotate_left
      · have HNO : Hid (∀ ws, ¬ ValidAt (s.data.toList.drop i) ws) := sofar_none HS.out hk hno
        clear hno HS
        go_wp2_with fail
        refine (specRead_any _ _ (Nat.zero_le _)).mono ?_
        rintro e w2 ⟨hb, hans⟩
        have HB2 := Lib.hid (below_step HB.out HB.out.size hb)
        have HRB2 := Lib.hid (HRB.out.below hb)
        clear hb HR HQB HB HRB
        rcases hans with ⟨x, ya, ycp, rfl, -, -⟩ | ⟨-, rfl⟩
        · obtain ⟨yk, yc, ys, yq, yv, yd, yx⟩ := x
          have HBA : Hid (Below w2.heap.size w2 (w2.alloc (.cells #[.int .i64 yk, .int .i64 yc, .int .i64 ys, .int .i64 yq, .int .i64 yv, .bool yd, .slice ya yx.length ycp] 43))) := (Below.refl _ _).alloc (Nat.le_refl _) _
          have HR3 := Lib.hid (HRB2.out.below HBA.out)
          have HB3 := Lib.hid (below_step HB2.out HB2.out.size HBA.out)
          have HBX : Hid (Below w.heap.size w ((w2.alloc (.cells #[.int .i64 yk, .int .i64 yc, .int .i64 ys, .int .i64 yq, .int .i64 yv, .bool yd, .slice ya yx.length ycp] 43)).setCell ⟨w.heap.size, 0, none⟩ (.slice none 0 0))) := HB3.out.setCell (p := ⟨w.heap.size, 0, none⟩) (Nat.le_refl _) _
          have HRX := Lib.hid (HR3.out.set (.slice none 0 0))
          have z1 := HR3.out.c0
          have z2 := HR3.out.fz
          go_wp2
          have z3 := HRX.out.c0
          refine bodyPost_ret (v := .tuple #[.agg #[.slice none 0 0], .int .i64 0, .bool false]) (by simp [results, Tryz.results59, go_sem, z3]) rfl ?_
          exact ⟨HBX.out, .inr ⟨HNO.out, rfl⟩⟩
        · have HBA : Hid (Below w2.heap.size w2 (w2.alloc (.cells #[.int .i64 0, .int .i64 0, .int .i64 0, .int .i64 0, .int .i64 0, .bool false, .slice none 0 0] 43))) := (Below.refl _ _).alloc (Nat.le_refl _) _
          have HR3 := Lib.hid (HRB2.out.below HBA.out)
          have HB3 := Lib.hid (below_step HB2.out HB2.out.size HBA.out)
          have HBX : Hid (Below w.heap.size w ((w2.alloc (.cells #[.int .i64 0, .int .i64 0, .int .i64 0, .int .i64 0, .int .i64 0, .bool false, .slice none 0 0] 43)).setCell ⟨w.heap.size, 0, none⟩ (.slice none 0 0))) := HB3.out.setCell (p := ⟨w.heap.size, 0, none⟩) (Nat.le_refl _) _
          have HRX := Lib.hid (HR3.out.set (.slice none 0 0))
          have z1 := HR3.out.c0
          have z2 := HR3.out.fz
          go_wp2
          have z3 := HRX.out.c0
          refine bodyPost_ret (v := .tuple #[.agg #[.slice none 0 0], .int .i64 0, .bool false]) (by simp [results, Tryz.results59, go_sem, z3]) rfl ?_
          exact ⟨HBX.out, .inr ⟨HNO.out, rfl⟩⟩
      have hll' : i + q + l'.length + 1 ≤ s.size := by
        have h := congrArg List.length hd
        simp at h
        omega
      have hls : (str l').size ≤ 1048576 := by rw [str_size]; omega
      have HD := Lib.hid hd
      have HNL := Lib.hid hnl
      clear hd hnl
      go_wp2_with fail
      refine (specRead_any (str l') _ hls).mono ?_
      rintro e w2 ⟨hb, hans⟩
      have HB2 := Lib.hid (below_step HB.out HB.out.size hb)
      have HRB2 := Lib.hid (HRB.out.below hb)
      have HQ2 := Lib.hid (HQB.out.below hb)
      have HR2 := Lib.hid (HR.out.below hb)
      have hs2 : wr.heap.size ≤ w2.heap.size := hb.size
      clear hb HQB HB HRB
      rcases hans with ⟨x, ya, ycp, rfl, htx, hrd⟩ | ⟨hnt, rfl⟩
      rotate_left
      · have HNO : Hid (∀ ws, ¬ ValidAt (s.data.toList.drop i) ws) := sofar_bad HS.out hk' HD.out HNL.out hnt
        clear hnt HS HD HNL
        have HBA : Hid (Below w2.heap.size w2 (w2.alloc (.cells #[.int .i64 0, .int .i64 0, .int .i64 0, .int .i64 0, .int .i64 0, .bool false, .slice none 0 0] 43))) := (Below.refl _ _).alloc (Nat.le_refl _) _
        have HR3 := Lib.hid (HRB2.out.below HBA.out)
        have HB3 := Lib.hid (below_step HB2.out HB2.out.size HBA.out)
        have HBX : Hid (Below w.heap.size w ((w2.alloc (.cells #[.int .i64 0, .int .i64 0, .int .i64 0, .int .i64 0, .int .i64 0, .bool false, .slice none 0 0] 43)).setCell ⟨w.heap.size, 0, none⟩ (.slice none 0 0))) := HB3.out.setCell (p := ⟨w.heap.size, 0, none⟩) (Nat.le_refl _) _
        have HRX := Lib.hid (HR3.out.set (.slice none 0 0))
        have z1 := HR3.out.c0
        have z2 := HR3.out.fz
        go_wp2
        have z3 := HRX.out.c0
        refine bodyPost_ret (v := .tuple #[.agg #[.slice none 0 0], .int .i64 0, .bool false]) (by simp [results, Tryz.results59, go_sem, z3]) rfl ?_
        exact ⟨HBX.out, .inr ⟨HNO.out, rfl⟩⟩
      have HS2 : Hid (Sofar (s.data.toList.drop i) m (k + 1) (q + l'.length + 1) (es.map (·.x) ++ [x]) (s.data.toList.drop (i + (q + l'.length + 1)))) := by
        have h := sofar_next HS.out hk' HD.out HNL.out htx
        have e2 := drop_line HD.out
        rw [show i + q + (l'.length + 1) = i + (q + l'.length + 1) by omega] at e2
        rw [e2]
        exact Lib.hid h
      obtain ⟨g2, hg⟩ := fresh_row hrd
      have HOX := Lib.hid htx.1
      have HG : Hid (FreshDeps wr.heap.size w2 ya g2 x.xs) := hg
      clear hrd hg htx HS HD HNL
      obtain ⟨yk, yc, ys, yq, yv, yd, yx⟩ := x
      simp only at HG
      have HAP : Hid (∀ d ∈ es, 0 < d.x.xs.length → 0 < yx.length → d.g ≠ g2) := fun d hd hp hq => by
        have h1 := ((HR.out.deps d hd).1 hp).2.2.1
        have h2 := (HG.out hq).2.1
        omega
      have HV : Hid (0 < yx.length → (Value.slice a k cap).ownBlock ≠ some g2) := fun hq e => by
        have h1 := (HR.out.own.lt g2 e).2
        have h2 := (HG.out hq).2.1
        omega
      clear HR
      have HBA : Hid (Below w2.heap.size w2 (w2.alloc (.cells #[.int .i64 yk, .int .i64 yc, .int .i64 ys, .int .i64 yq, .int .i64 yv, .bool yd, .slice ya yx.length ycp] 43))) := (Below.refl _ _).alloc (Nat.le_refl _) _
      have HB3 := Lib.hid (below_step HB2.out HB2.out.size HBA.out)
      have HR3 := Lib.hid (HR2.out.below HBA.out)
      have HG3 := Lib.hid (HG.out.below HBA.out)
      have HQ3 := Lib.hid (HQ2.out.below HBA.out)
      have HRB3 := Lib.hid (HRB2.out.below HBA.out)
      have hs3 : w2.heap.size + 1 = (w2.alloc (.cells #[.int .i64 yk, .int .i64 yc, .int .i64 ys, .int .i64 yq, .int .i64 yv, .bool yd, .slice ya yx.length ycp] 43)).heap.size := by simp
      have HOC := Lib.hid (oneG_cells (w2.alloc (.cells #[.int .i64 yk, .int .i64 yc, .int .i64 ys, .int .i64 yq, .int .i64 yv, .bool yd, .slice ya yx.length ycp] 43)) 43 ⟨⟨yk, yc, ys, yq, yv, yd, yx⟩, ya, g2, ycp⟩)
      have HBC : Hid (Below (w2.heap.size + 1) (w2.alloc (.cells #[.int .i64 yk, .int .i64 yc, .int .i64 ys, .int .i64 yq, .int .i64 yv, .bool yd, .slice ya yx.length ycp] 43)) ((w2.alloc (.cells #[.int .i64 yk, .int .i64 yc, .int .i64 ys, .int .i64 yq, .int .i64 yv, .bool yd, .slice ya yx.length ycp] 43)).alloc (.cells #[.int .i64 yk, .int .i64 yc, .int .i64 ys, .int .i64 yq, .int .i64 yv, .bool yd, .slice ya yx.length ycp] 43))) := (Below.refl _ _).alloc (by simp) _
      have HRC := Lib.hid (HR3.out.below (hs3 ▸ HBC.out))
      have HGC := Lib.hid (HG3.out.below (hs3 ▸ HBC.out))
      have HQC := Lib.hid (HQ3.out.below (hs3 ▸ HBC.out))
      have HRBC := Lib.hid (HRB3.out.below (hs3 ▸ HBC.out))
      have HBD := Lib.hid (below_step HB3.out HB3.out.size (hs3 ▸ HBC.out))
      have hsz : w.heap.size + 2 ≤ w2.heap.size := by omega
      have zq := HQ3.out.c0
      have HOW : Hid (((w2.alloc (.cells #[.int .i64 yk, .int .i64 yc, .int .i64 ys, .int .i64 yq, .int .i64 yv, .bool yd, .slice ya yx.length ycp] 43)).alloc (.cells #[.int .i64 yk, .int .i64 yc, .int .i64 ys, .int .i64 yq, .int .i64 yv, .bool yd, .slice ya yx.length ycp] 43)).ownsRow (w.heap.size + 2) 43 7 (.slice a k cap) k (es.flatMap wrValsG)) := by
        have h := HRC.out.own
        rw [hel] at h
        exact Lib.hid h
      clear hs3 HBC HR3 HG3 HB3 HBA
      go_wp2_with (at_builtin; refine wpList_append_lies _ (by rfl) _ _ _ (by rfl) (w.heap.size + 2) 43 i0 (wrV 0 0 0 0 0 false none 0 0) 7 72 Tryz.underlying26 HI0.out HX0.out.1 HX0.out.2.1 HX0.out.2.2 (by rfl) (by omega) (.slice a k cap) k (es.flatMap wrValsG) (by rfl) HOW.out ⟨w2.heap.size + 1, 0, none⟩ 1 1 (wrValsG ⟨⟨yk, yc, ys, yq, yv, yd, yx⟩, ya, g2, ycp⟩) (by rfl) (by rfl) (by simpa using HOC.out) (by simpa using valsG_one [⟨⟨yk, yc, ys, yq, yv, yd, yx⟩, ya, g2, ycp⟩]) (by omega) (by unfold maxLen; omega) (by omega) (by simp; omega) _ rfl ?_; intro g3 cp3 w5 hown hgrow hg3 _; refine Hid.out ?_)
      refine Lib.hid ?_
      have hobR : (Value.slice a k cap).ownBlock ≠ some w.heap.size := fun e => by have := (HRC.out.own.lt _ e).1; omega
      have hobQ : (Value.slice a k cap).ownBlock ≠ some (w.heap.size + 1) := fun e => by have := (HRC.out.own.lt _ e).1; omega
      have HB5 : Hid (Below w.heap.size w w5) := HBD.out.grown hgrow HBD.out.size fun j hj => by have := (HR2.out.own.lt j hj).1; omega
      have hown2 : w5.ownsRow (w.heap.size + 2) 43 7 (.slice (some ⟨g3, 0, none⟩) (es.length + 1) cp3) (es.length + 1) (es.flatMap wrValsG ++ wrValsG ⟨⟨yk, yc, ys, yq, yv, yd, yx⟩, ya, g2, ycp⟩) := by rw [hel]; exact hown
      have HR5 : Hid (RowG w5 (w.heap.size + 2) (.slice (some ⟨g3, 0, none⟩) (k + 1) cp3) (es ++ [⟨⟨yk, yc, ys, yq, yv, yd, yx⟩, ya, g2, ycp⟩])) := by
        have h := HRC.out.more (HGC.out.mono hwr) HV.out HAP.out hown2 hgrow hg3
        rw [hel] at h
        exact Lib.hid h
      have HQ5 : Hid (BBox w5 (w.heap.size + 1) (.slice a k cap)) := HQC.out.of_block hgrow.size (hgrow.block _ HQC.out.lt (fun e => hobQ e.symm))
      have HRB5 : Hid (BBox w5 w.heap.size (.slice none 0 0)) := HRBC.out.of_block hgrow.size (hgrow.block _ HRBC.out.lt (fun e => hobR e.symm))
      have hs5 : w.heap.size + 2 ≤ w5.heap.size := by
        have := hgrow.size
        simp at this
        omega
      have HQ6 := Lib.hid (HQ5.out.set (.slice (some ⟨g3, 0, none⟩) (k + 1) cp3))
      have HRB6 := Lib.hid (HRB5.out.setOther (c := w.heap.size + 1) (by omega) (.slice (some ⟨g3, 0, none⟩) (k + 1) cp3))
      have HR6 := Lib.hid (HR5.out.holeQ ((Hole.refl (w.heap.size + 1) w5).set 0 (.slice (some ⟨g3, 0, none⟩) (k + 1) cp3)) (by omega))
      have HB6 : Hid (Below w.heap.size w (w5.setCell ⟨w.heap.size + 1, 0, none⟩ (.slice (some ⟨g3, 0, none⟩) (k + 1) cp3))) := HB5.out.setCell (p := ⟨w.heap.size + 1, 0, none⟩) (Nat.le_succ _) _
      have HS6 : Hid (Sofar (s.data.toList.drop i) m (k + 1) (q + l'.length + 1) ((es ++ [(⟨⟨yk, yc, ys, yq, yv, yd, yx⟩, ya, g2, ycp⟩ : EnG)]).map (·.x)) (s.data.toList.drop (i + (q + l'.length + 1)))) := by
        rw [List.map_append]
        exact HS2
      have HOK6 : Hid (∀ d ∈ es ++ [(⟨⟨yk, yc, ys, yq, yv, yd, yx⟩, ya, g2, ycp⟩ : EnG)], okR d.x = true) := fun d hd => by
        rcases List.mem_append.1 hd with hd | hd
        · exact HOK.out d hd
        · obtain rfl : d = _ := by simpa using hd
          exact HOX.out
      have zf := HQ5.out.fz
      have zc := HQ5.out.c0
      clear hown hown2 hgrow HRC HS2 HOW HOC
      go_wp2
      exact ⟨⟨k + 1, q + l'.length + 1, _, _, _, by omega, by go_num, by go_num, by omega, by omega, by simp [hel], by simpa [World.setCell] using hs5, HOK6, HS6, HR6, HRB6, HQ6, HB6⟩, by simp [intOf]; omega⟩
    · have hkk : k = m := by omega
      subst hkk
      have ge0 := aft_cell HQB.out.lt HQB.out.c0
      have ne := aft_some wr
      go_wp2_with fail
      refine (line_any s (i + q) _ hs hq).mono ?_
      rintro e w1 ⟨hl, hw⟩
      subst w1
      rcases hl with ⟨l', r', hd, hnl, rfl⟩ | ⟨hno, rfl⟩
      rotate_left
      · have HNO : Hid (∀ ws, ¬ ValidAt (s.data.toList.drop i) ws) := sofar_none HS.out hk hno
        clear hno HS
        go_wp2_with fail
        refine wp_region_aft (by kernel_rfl) (by kernel_rfl) ?_
        repeat (first | go_big_quiet_step (fail))
        refine wpQuiet_nil ?_
        intro wq hwq
        have HBQ : Hid (Below w.heap.size w wq) := below_step HB.out HB.out.size hwq
        have HRBQ := Lib.hid (HRB.out.below hwq)
        have HQBQ := Lib.hid (HQB.out.below hwq)
        have HRQ := Lib.hid (HR.out.below hwq)
        clear hwq ge0 ne HB HRB HQB HR
        have z0 := HQBQ.out.c0
        have z1 := HRBQ.out.c0
        have z2 := HRBQ.out.fz
        have HBX : Hid (Below w.heap.size w (wq.setCell ⟨w.heap.size, 0, none⟩ (.slice none 0 0))) := HBQ.out.setCell (p := ⟨w.heap.size, 0, none⟩) (Nat.le_refl _) _
        have HRX := Lib.hid (HRBQ.out.set (.slice none 0 0))
        go_wp2
        have z3 := HRX.out.c0
        refine bodyPost_ret (v := .tuple #[.agg #[.slice none 0 0], .int .i64 0, .bool false]) (by simp [results, Tryz.results59, go_sem, z3]) rfl ?_
        exact ⟨HBX.out, .inr ⟨HNO.out, rfl⟩⟩
      have hll' : i + q + l'.length + 1 ≤ s.size := by
        have h := congrArg List.length hd
        simp at h
        omega
      have HC : Hid (∀ p : Aft wr.heap.size wr, Calls Tryz.prog 85 #[.slice a k cap] p.now fun e w' => e = .returned (.string (str (batchT (es.map (·.x))))) ∧ Below p.now.heap.size p.now w') := fun p =>
        specBatch_any a k cap _ _ (by simp [hel]) (by omega) (rowG_few HOK.out) (HR.out.ws0.below p.below)
      have HEX : Hid ((s.extract i (i + q + l'.length + 1)).data.toList = (s.data.toList.drop i).take (q + l'.length + 1)) := by
        rw [show i + q + l'.length + 1 = i + (q + l'.length + 1) by omega]
        exact Lib.hid (extract_take s i _)
      have HNE : Hid ((s.data.toList.drop i).take (q + l'.length + 1) ≠ batchT (es.map (·.x)) → ∀ ws, ¬ ValidAt (s.data.toList.drop i) ws) := fun h => sofar_end HS.out hd hnl h
      have hdne : s.data.toList.drop i ≠ [] := fun h => by
        have := congrArg List.length h
        simp at this
        omega
      have HYES : Hid ((s.data.toList.drop i).take (q + l'.length + 1) = batchT (es.map (·.x)) → ValidAt (s.data.toList.drop i) (es.map (·.x)) ∧ i + (batchT (es.map (·.x))).length = i + q + l'.length + 1) := fun h => by
        refine ⟨valid_of_eq h hdne, ?_⟩
        rw [← h, List.length_take, List.length_drop]
        have : s.data.toList.length = s.size := by simp
        omega
      have x1 : (i : Int) ≤ ((i + q + l'.length + 1 : Nat) : Int) := by omega
      have x2 : ((i + q + l'.length + 1 : Nat) : Int) ≤ (s.size : Int) := by omega
      clear hd hnl HS hdne
      generalize (s.data.toList.drop i).take (q + l'.length + 1) = tk at *
      generalize i + q + l'.length + 1 = X at *
      by_cases heq : tk = batchT (es.map (·.x))
      rotate_left
      · have HNO := Lib.hid (HNE.out heq)
        have hc : ((s.extract i X).toList == (str (batchT (es.map (·.x)))).toList) = false := by
          rw [beq_eq_false_iff_ne, ByteArray.toList_eq, ByteArray.toList_eq, HEX.out]
          exact heq
        go_wp2_with fail
        refine wp_region_aft (by kernel_rfl) (by kernel_rfl) ?_
        repeat (first | go_big_quiet_step (first | (go_at_call 85; exact aft_of (HC.out _))))
        refine wpQuiet_nil ?_
        intro wq hwq
        clear HC
        have HBQ : Hid (Below w.heap.size w wq) := below_step HB.out HB.out.size hwq
        have HRBQ := Lib.hid (HRB.out.below hwq)
        have HQBQ := Lib.hid (HQB.out.below hwq)
        have HRQ := Lib.hid (HR.out.below hwq)
        clear hwq ge0 ne HB HRB HQB HR
        have z0 := HQBQ.out.c0
        have z1 := HRBQ.out.c0
        have z2 := HRBQ.out.fz
        have HBX : Hid (Below w.heap.size w (wq.setCell ⟨w.heap.size, 0, none⟩ (.slice none 0 0))) := HBQ.out.setCell (p := ⟨w.heap.size, 0, none⟩) (Nat.le_refl _) _
        have HRX := Lib.hid (HRBQ.out.set (.slice none 0 0))
        go_wp2
        have z3 := HRX.out.c0
        refine bodyPost_ret (v := .tuple #[.agg #[.slice none 0 0], .int .i64 0, .bool false]) (by simp [results, Tryz.results59, go_sem, z3]) rfl ?_
        exact ⟨HBX.out, .inr ⟨HNO.out, rfl⟩⟩
      have HV := Lib.hid (HYES.out heq)
      have hc : ((s.extract i X).toList == (str (batchT (es.map (·.x)))).toList) = true := by
        rw [beq_iff_eq, ByteArray.toList_eq, ByteArray.toList_eq, HEX.out]
        exact heq
      go_wp2_with fail
      refine wp_region_aft (by kernel_rfl) (by kernel_rfl) ?_
      repeat (first | go_big_quiet_step (first | (go_at_call 85; exact aft_of (HC.out _))))
      refine wpQuiet_nil ?_
      intro wq hwq
      clear HC
      have HBQ : Hid (Below w.heap.size w wq) := below_step HB.out HB.out.size hwq
      have HRBQ := Lib.hid (HRB.out.below hwq)
      have HQBQ := Lib.hid (HQB.out.below hwq)
      have HRQ := Lib.hid (HR.out.below hwq)
      clear hwq ge0 ne HB HRB HQB HR
      have z0 := HQBQ.out.c0
      have z1 := HRBQ.out.c0
      have z2 := HRBQ.out.fz
      have HBX : Hid (Below w.heap.size w (wq.setCell ⟨w.heap.size, 0, none⟩ (.slice a k cap))) := HBQ.out.setCell (p := ⟨w.heap.size, 0, none⟩) (Nat.le_refl _) _
      have HRX := Lib.hid (HRBQ.out.set (.slice a k cap))
      have HRW := Lib.hid ((HRQ.out.holeQ ((Hole.refl w.heap.size wq).set 0 (.slice a k cap)) (by omega)).mono (base' := w.heap.size) (by omega))
      go_wp2
      have z3 := HRX.out.c0
      refine bodyPost_ret (v := .tuple #[.agg #[.slice a k cap], .int .i64 (X : Int), .bool true]) (by simp [results, Tryz.results59, go_sem, z3]) rfl ?_
      subst hel
      exact ⟨HBX.out, .inl ⟨a, cap, es, by rw [HV.out.2], HV.out.1, HRW.out⟩⟩

end Go.Proofs.YtbbmpfkijhhemabGreatDoor

/- Lists of writes that a call answers, or that are handed to one: marks on them, and what marks leave alone. -/
namespace Go.Proofs.YtbbmpfkijhhemabGreatDoor
open Go.ChangeShapes Go.WideShapes Go.ChangeAt Go.RowKit Go.Joins
attribute [local go_sem ↓] Go.wp_at_zero Go.wp_at_succ

/-- What was written lies in these blocks. -/
abbrev Span (lo hi : Nat) (x : Nat) : Prop := lo ≤ x ∧ x < hi

/-- A list of writes of one's own, between two block numbers; it may be nil where it is empty. -/
def OwnA (w : World) (lo hi : Nat) (a : Option Addr) (ws : List Wr) (γ : Nat → Nat) : Prop :=
  ws = [] ∨ ∃ b, a = some ⟨b, 0, none⟩ ∧ OwnG w lo b ws γ ∧ b < hi ∧ ∀ i, i < ws.length → 0 < (ws.getD i wz).xs.length → γ i < hi

theorem OwnG.ownA {w : World} {lo b : Nat} {ws : List Wr} {γ : Nat → Nat} (h : OwnG w lo b ws γ) : OwnA w lo w.heap.size (some ⟨b, 0, none⟩) ws γ :=
  .inr ⟨b, rfl, h, h.lt, fun i hi hp => (h.deps i hi hp).2.1⟩

theorem RowG.ownA {w : World} {base : Nat} {v : Value} {es : List EnG} (h : RowG w base v es) {ws : List Wr} (hw : es.map (·.x) = ws) : ∃ a cap n, v = .slice a n cap ∧ ws.length = n ∧ OwnA w base w.heap.size a ws (gammaG es) := by
  obtain ⟨a, cap, h1, h2⟩ := h.form
  subst hw
  refine ⟨a, cap, es.length, h1, by simp, ?_⟩
  rcases h2 with h2 | ⟨b, rfl, h2⟩
  · exact .inl (by simp [h2])
  · exact h2.ownA

theorem OwnA.below {w w' : World} {lo hi : Nat} {a : Option Addr} {ws : List Wr} {γ : Nat → Nat} (h : OwnA w lo hi a ws γ) (hb : Below w.heap.size w w') : OwnA w' lo hi a ws γ := by
  rcases h with h | ⟨b, h1, h2, h3⟩
  · exact .inl h
  · exact .inr ⟨b, h1, h2.below hb, h3⟩

theorem OwnG.only {w w' : World} {S : Nat → Prop} {base b : Nat} {ws : List Wr} {γ : Nat → Nat} (h : OwnG w base b ws γ) (ho : Only S w w') (hS : ∀ x, S x → x < base) : OwnG w' base b ws γ where
  lt := by rw [ho.size]; exact h.lt
  le := h.le
  open_ := fun o => (ho.frozen _).trans (h.open_ o)
  at_ := fun i hi => by
    obtain ⟨a, cap, h1, h2⟩ := h.at_ i hi
    exact ⟨a, cap, h1.of_block (ho.block b fun e => by have := hS b e; have := h.le; omega), h2⟩
  deps := fun i hi hp => by
    obtain ⟨h1, h2, h3, h4, h5⟩ := h.deps i hi hp
    have hb : w'.heap[γ i]? = w.heap[γ i]? := ho.block _ fun e => by have := hS _ e; omega
    have e' : ∀ o, w'.cell? ⟨γ i, o, none⟩ = w.cell? ⟨γ i, o, none⟩ := fun o => World.cell?_of_block (a := ⟨γ i, o, none⟩) hb
    exact ⟨h1, by rw [ho.size]; exact h2, h3, fun j hj => ⟨(e' _).trans (h4 j hj).1, (e' _).trans (h4 j hj).2.1, (e' _).trans (h4 j hj).2.2.1, (e' _).trans (h4 j hj).2.2.2⟩, fun o => (ho.frozen _).trans (h5 o)⟩
  inj := h.inj

theorem OwnA.only {w w' : World} {S : Nat → Prop} {lo hi : Nat} {a : Option Addr} {ws : List Wr} {γ : Nat → Nat} (h : OwnA w lo hi a ws γ) (ho : Only S w w') (hS : ∀ x, S x → x < lo) : OwnA w' lo hi a ws γ := by
  rcases h with h | ⟨b, h1, h2, h3⟩
  · exact .inl h
  · exact .inr ⟨b, h1, h2.only ho hS, h3⟩

theorem OwnA.isWs {w : World} {lo hi : Nat} {a : Option Addr} {ws : List Wr} {γ : Nat → Nat} (h : OwnA w lo hi a ws γ) (hx : Few ws) : IsWs w a ws := by
  rcases h with h | ⟨b, h1, h2, _⟩
  · exact .inl h
  · rw [h1]
    exact h2.isWs hx

/-- A list that is marked. -/
def MarkedA (w : World) (a : Option Addr) (ws : List Wr) (γ : Nat → Nat) (k : Int) : Prop :=
  ws = [] ∨ ∃ b, a = some ⟨b, 0, none⟩ ∧ MarkedWs w b ws γ k ∧ b < w.heap.size ∧ ∀ i, i < ws.length → 0 < (ws.getD i wz).xs.length → γ i < w.heap.size

theorem MarkedA.below {w w' : World} {a : Option Addr} {ws : List Wr} {γ : Nat → Nat} {k : Int} (h : MarkedA w a ws γ k) (hb : Below w.heap.size w w') : MarkedA w' a ws γ k := by
  rcases h with h | ⟨b, h1, h2, h3, h4⟩
  · exact .inl h
  · exact .inr ⟨b, h1, h2.below hb h3 h4, Nat.lt_of_lt_of_le h3 hb.size, fun i hi hp => Nat.lt_of_lt_of_le (h4 i hi hp) hb.size⟩

set_option maxHeartbeats 1000000 in
theorem markWriteS_nil (a : Option Addr) (cap : Nat) (k : Int) (w : World) :
    Calls Tryz.prog 11 #[.slice a 0 cap, .int .i64 k] w fun e w' => e = .returned (.int .i64 k) ∧ w' = w := by
  go_enter Tryz.func11, Tryz.ntmps11
  go_wp2
  go_loopw [1, 5] (fun l i wr => i = .int .i64 0 ∧ l = .int .i64 k ∧ wr = w) (fun _ _ _ => 0)
  case atStart => exact ⟨rfl, rfl, rfl⟩
  case round =>
    obtain ⟨rfl, rfl, rfl⟩ := hrel
    go_wp2
    go_ret
    exact ⟨rfl, rfl⟩

set_option maxHeartbeats 1000000 in
theorem heldWriteS_nil (a : Option Addr) (cap : Nat) (k : Int) (w : World) :
    Calls Tryz.prog 12 #[.slice a 0 cap, .int .i64 k] w fun e w' => e = .returned (.int .i64 k) ∧ w' = w := by
  go_enter Tryz.func12, Tryz.ntmps12
  go_wp2
  go_loopw [1, 5] (fun l i wr => i = .int .i64 0 ∧ l = .int .i64 k ∧ wr = w) (fun _ _ _ => 0)
  case atStart => exact ⟨rfl, rfl, rfl⟩
  case round =>
    obtain ⟨rfl, rfl, rfl⟩ := hrel
    go_wp2
    go_ret
    exact ⟨rfl, rfl⟩

theorem markWriteS_all (lo hi n cap : Nat) (a : Option Addr) (k : Int) (ws : List Wr) (γ : Nat → Nat) (w : World) (hn : ws.length = n) (hm : n ≤ 1048576) (hbk : bulk ws ≤ 1048576) (h0 : 0 ≤ k) (h1 : k ≤ 1073741824) (h : OwnA w lo hi a ws γ) :
    Calls Tryz.prog 11 #[.slice a n cap, .int .i64 k] w fun e w' => e = .returned (.int .i64 (markK ws k n)) ∧ MarkedA w' a ws γ k ∧ Only (Span lo hi) w w' := by
  rcases h with h | ⟨b, rfl, h2, h3, h4⟩
  · subst h
    have hn0 : n = 0 := by rw [← hn]; rfl
    subst hn0
    refine (markWriteS_nil a cap k w).mono ?_
    rintro e w' ⟨rfl, rfl⟩
    exact ⟨by rw [markK_zero], .inl rfl, Only.refl _ _⟩
  · refine (markWriteS_any lo b n cap k ws γ w hn hm hbk h0 h1 h2).mono ?_
    rintro e w' ⟨rfl, h5, h6⟩
    have hS : ∀ x, TakenUp b ws γ x → Span lo hi x := fun x hx => by
      rcases hx with rfl | ⟨i, hi, hp, rfl⟩
      · exact ⟨h2.le, h3⟩
      · exact ⟨(h2.deps i hi hp).1, h4 i hi hp⟩
    refine ⟨rfl, .inr ⟨b, rfl, h5, by rw [h6.size]; exact h2.lt, fun i hi hp => by rw [h6.size]; exact (h2.deps i hi hp).2.1⟩, ?_⟩
    exact ⟨h6.os, h6.tape, h6.output, h6.size, fun x hx => h6.block x fun e => hx (hS x e), h6.frozen⟩

theorem heldWriteS_all (n cap : Nat) (a : Option Addr) (k : Int) (ws : List Wr) (γ : Nat → Nat) (w : World) (hn : ws.length = n) (hm : n ≤ 1048576) (hbk : bulk ws ≤ 1048576) (h0 : 0 ≤ k) (h1 : k ≤ 1073741824) (h : MarkedA w a ws γ k) :
    Calls Tryz.prog 12 #[.slice a n cap, .int .i64 k] w fun e w' => e = .returned (.int .i64 (markK ws k n)) ∧ w' = w := by
  rcases h with h | ⟨b, rfl, h2, _⟩
  · subst h
    have hn0 : n = 0 := by rw [← hn]; rfl
    subst hn0
    rw [markK_zero]
    exact heldWriteS_nil a cap k w
  · exact heldWriteS_any b n cap k ws γ w hn hm hbk h0 h1 h2

/-- The keys of dependencies that are right rise from 0 on: there are at most six. -/
theorem depsOk_len {xs : List Dp} (h : depsOkB xs = true) : xs.length ≤ 6 := by
  unfold depsOkB at h
  rw [List.all_eq_true] at h
  have hg : ∀ i, i < xs.length → (i : Int) ≤ (xs.getD i dz).k ∧ (xs.getD i dz).k ≤ 5 := by
    intro i
    induction i with
    | zero =>
      intro hi
      have := h 0 (List.mem_range.2 hi)
      unfold depGood btw at this
      simp only [Bool.and_eq_true, decide_eq_true_eq] at this
      exact ⟨by have := this.1.1; omega, this.1.2⟩
    | succ i ih =>
      intro hi
      have h1 := ih (by omega)
      have := h (i + 1) (List.mem_range.2 hi)
      unfold depGood btw at this
      simp only [Bool.and_eq_true, decide_eq_true_eq] at this
      rcases this.2.2 with h2 | h2
      · omega
      · rw [show i + 1 - 1 = i from rfl] at h2
        exact ⟨by omega, this.1.2⟩
  by_cases h7 : xs.length ≤ 6
  · exact h7
  · have := hg 6 (by omega)
    omega

theorem okW_len {x : Wr} (h : okW x = true) : x.xs.length ≤ 6 := by
  unfold okW writeOkB at h
  simp only [Bool.and_eq_true] at h
  exact depsOk_len h.2.2.2.1

theorem bulk_le {ws : List Wr} {m : Nat} (h : ∀ x ∈ ws, x.xs.length ≤ m) : bulk ws ≤ ws.length * m := by
  induction ws with
  | nil => simp [bulk]
  | cons x r ih =>
    have h1 := h x (by simp)
    have h2 := ih fun y hy => h y (by simp [hy])
    simp only [bulk, List.length_cons]
    rw [Nat.add_mul]
    omega

end Go.Proofs.YtbbmpfkijhhemabGreatDoor

/- Contracts of impl.MapJoin and impl.MapPut. -/
namespace Go.Proofs.YtbbmpfkijhhemabGreatDoor
open Go.ChangeShapes Go.WideShapes Go.ChangeAt Go.RowKit Go.Joins
attribute [local go_sem ↓] Go.wp_at_zero Go.wp_at_succ

def joinB (us vs : List Wr) : List Wr := if mapOkB us = true ∧ mapOkB vs = true then joinW us vs else []

set_option maxRecDepth 100000 in
theorem joinB_not {us vs : List Wr} (h : mapOkB us = false ∨ mapOkB vs = false) : joinB us vs = [] := by
  unfold joinB
  refine if_neg fun h' => ?_
  rcases h with h | h
  · rw [h'.1] at h; cases h
  · rw [h'.2] at h; cases h

set_option maxRecDepth 100000 in
theorem mapOk_keys {ws : List Wr} (h : mapOkB ws = true) : ∀ x ∈ ws, 0 ≤ x.k ∧ x.k ≤ 5 := fun x hx => okW_key (((mapOk_iff ws).1 h).1 x hx)

set_option maxRecDepth 100000 in
theorem mapOk_keys' {ws : List Wr} (h : mapOkB ws = true) : ∀ i, i < ws.length → 0 ≤ (ws.getD i wz).k ∧ (ws.getD i wz).k ≤ 5 := fun i hi => mapOk_keys h _ (by simp [List.getD, hi])

set_option maxRecDepth 100000 in
theorem joinB_told {us vs : List Wr} (ha : mapOkB us = true) (hb : mapOkB vs = true) : toldM (vs.foldl regPut (us.foldl regPut (fun _ => none))) = joinB us vs := by
  unfold joinB
  rw [if_pos ⟨ha, hb⟩]
  exact told_join ((mapOk_iff us).1 ha).2 (mapOk_keys ha) (mapOk_keys hb)

set_option maxRecDepth 100000 in
theorem implMapOk_is (r : Bool) (a : Option Addr) (n cap : Nat) (ws : List Wr) (h : mapOkB ws = r) (w : World) (hn : ws.length = n) (hm : n ≤ 1048576) (hx : Few ws) (hh : IsWs w a ws) :
    Calls Tryz.prog 50 #[.slice a n cap] w fun e w' => e = .returned (.bool r) ∧ Below w.heap.size w w' := by
  subst h
  exact implMapOk_any a n cap ws w hn hm hx hh

set_option maxRecDepth 100000 in
theorem mapOk_one (x : Wr) : mapOkB [x] = okW x := by
  simp [mapOkB, wrGood, List.range, List.range.loop]

set_option maxRecDepth 100000 in
theorem joinB_one (ws : List Wr) (x : Wr) : joinB ws [x] = if mapOkB ws = true ∧ okW x = true then putW ws x else [] := by
  unfold joinB
  rw [mapOk_one]
  rfl

end Go.Proofs.YtbbmpfkijhhemabGreatDoor

/- Contracts of the specification's MapJoin and MapPut. -/
namespace Go.Proofs.YtbbmpfkijhhemabGreatDoor
open Go.ChangeShapes Go.WideShapes Go.ChangeAt Go.RowKit Go.Joins
attribute [local go_sem ↓] Go.wp_at_zero Go.wp_at_succ

theorem specMapOk_is (r : Bool) (a : Option Addr) (n cap : Nat) (ws : List Wr) (h : mapOkB ws = r) (w : World) (hn : ws.length = n) (hm : n ≤ 1048576) (hx : Few ws) (hh : IsWs w a ws) :
    Calls Tryz.prog 41 #[.slice a n cap] w fun e w' => e = .returned (.bool r) ∧ Below w.heap.size w w' := by
  subst h
  exact specMapOk_gen a n cap ws w hn hm hx hh

/-- What the specification answers: a list of writes of its own. -/
def AnsS (w w' : World) (e : Ending) (ws : List Wr) : Prop := ∃ g cp es L, e = .returned (.slice (some ⟨g, 0, none⟩) L cp) ∧ es.length = L ∧ es.map (·.x) = ws ∧ RowEs w' w.heap.size g cp es ∧ Below w.heap.size w w'

theorem specWriteOk_is (x : Wr) (r : Bool) (h : okW x = r) (a : Option Addr) (cap : Nat) (w : World) (hn : x.xs.length ≤ 1048576) (hh : IsDeps w a x.xs) :
    Calls Tryz.prog 57 #[wrOf x a cap] w fun e w' => e = .returned (.bool r) ∧ Below w.heap.size w w' := by
  subst h
  exact specWriteOk_gen _ _ _ _ _ _ a x.xs _ cap w rfl hn hh

end Go.Proofs.YtbbmpfkijhhemabGreatDoor

/- How much a join is. -/
namespace Go.Proofs.YtbbmpfkijhhemabGreatDoor
open Go.ChangeShapes Go.WideShapes Go.ChangeAt Go.RowKit Go.Joins

theorem joinB_ok (us vs : List Wr) : ∀ x ∈ joinB us vs, okW x = true := by
  intro x hx
  unfold joinB at hx
  split at hx
  · rename_i h
    obtain ⟨_, h2, _⟩ := join_spec vs us ((mapOk_iff us).1 h.1).2
    rcases h2 x hx with h3 | h3
    · exact ((mapOk_iff us).1 h.1).1 x h3
    · exact ((mapOk_iff vs).1 h.2).1 x h3
  · simp at hx

theorem joinB_rise (us vs : List Wr) : Rise (joinB us vs) := by
  unfold joinB
  split
  · rename_i h
    exact (join_spec vs us ((mapOk_iff us).1 h.1).2).1
  · exact List.Pairwise.nil

theorem joinB_mapOk (us vs : List Wr) : mapOkB (joinB us vs) = true := (mapOk_iff _).2 ⟨joinB_ok us vs, joinB_rise us vs⟩

theorem mapOk_len {ws : List Wr} (h : mapOkB ws = true) : ws.length ≤ 6 := by
  have e := told_find ((mapOk_iff ws).1 h).2 (mapOk_keys h)
  rw [← e, ← toldTo_six]
  exact toldTo_len _ 6

theorem mapOk_bulk {ws : List Wr} (h : mapOkB ws = true) : bulk ws ≤ 36 := by
  have h1 := bulk_le (m := 6) fun x hx => okW_len (((mapOk_iff ws).1 h).1 x hx)
  have h2 := mapOk_len h
  omega

theorem joinB_bulk (us vs : List Wr) : bulk (joinB us vs) ≤ 36 := mapOk_bulk (joinB_mapOk us vs)

theorem joinB_len (us vs : List Wr) : (joinB us vs).length ≤ 6 := mapOk_len (joinB_mapOk us vs)

theorem joinB_few (us vs : List Wr) : Few (joinB us vs) := few_of_bulk (by have := joinB_bulk us vs; omega)

/-- The specification's answer, as a list. -/
theorem RowEs.isWs {w : World} {base g cap : Nat} {es : List En} (h : RowEs w base g cap es) {ws : List Wr} (hw : es.map (·.x) = ws) (hx : Few ws) : IsWs w (some ⟨g, 0, none⟩) ws := (h.holds hw).isWs hx

end Go.Proofs.YtbbmpfkijhhemabGreatDoor

/- Batches of one's own, marked: the contracts of markBatchS and heldBatchS. -/
namespace Go.Proofs.YtbbmpfkijhhemabGreatDoor
open Go.ChangeShapes Go.WideShapes Go.ChangeAt Go.RowKit Go.Joins
attribute [local go_sem ↓] Go.wp_at_zero Go.wp_at_succ

/-- A batch: its writes, where they are said to lie, their room, between which block numbers, and where their dependencies lie. -/
structure Bat where
  ws : List Wr
  a : Option Addr
  cap : Nat
  lo : Nat
  hi : Nat
  γ : Nat → Nat

def btz : Bat := ⟨[], none, 0, 0, 0, fun _ => 0⟩

def batV (e : Bat) : Value := .slice e.a e.ws.length e.cap

def BatsAt (w : World) (b : Nat) (es : List Bat) : Prop := ∀ i, i < es.length → w.cell? ⟨b, i, none⟩ = some (batV (es.getD i btz))

/-- Batches of one's own: a row, and each batch's memory apart from the row and from the others'. -/
def OwnB (w : World) (lo hi : Nat) (a : Option Addr) (es : List Bat) : Prop :=
  es = [] ∨ ∃ b, a = some ⟨b, 0, none⟩ ∧ lo ≤ b ∧ b < hi ∧ b < w.heap.size ∧ BatsAt w b es ∧ (∀ i, i < es.length → lo ≤ (es.getD i btz).lo ∧ (es.getD i btz).hi ≤ hi ∧ (b < (es.getD i btz).lo ∨ (es.getD i btz).hi ≤ b) ∧ OwnA w (es.getD i btz).lo (es.getD i btz).hi (es.getD i btz).a (es.getD i btz).ws (es.getD i btz).γ) ∧ ∀ i j, i < j → j < es.length → (es.getD i btz).hi ≤ (es.getD j btz).lo

set_option maxRecDepth 100000 in
theorem BatsAt.of_block {w w' : World} {b : Nat} {es : List Bat} (h : BatsAt w b es) (hb : w'.heap[b]? = w.heap[b]?) : BatsAt w' b es := fun i hi => (World.cell?_of_block (a := ⟨b, i, none⟩) hb).trans (h i hi)

set_option maxRecDepth 100000 in
theorem OwnB.below {w w' : World} {lo hi : Nat} {a : Option Addr} {es : List Bat} (h : OwnB w lo hi a es) (hb : Below w.heap.size w w') : OwnB w' lo hi a es := by
  rcases h with h | ⟨b, h1, h2, h3, h4, h5, h6, h7⟩
  · exact .inl h
  · exact .inr ⟨b, h1, h2, h3, Nat.lt_of_lt_of_le h4 hb.size, h5.of_block (hb.block b h4), fun i hi => ⟨(h6 i hi).1, (h6 i hi).2.1, (h6 i hi).2.2.1, (h6 i hi).2.2.2.below hb⟩, h7⟩

set_option maxRecDepth 100000 in
theorem OwnB.only {w w' : World} {S : Nat → Prop} {lo hi : Nat} {a : Option Addr} {es : List Bat} (h : OwnB w lo hi a es) (ho : Only S w w') (hS : ∀ x, S x → x < lo) : OwnB w' lo hi a es := by
  rcases h with h | ⟨b, h1, h2, h3, h4, h5, h6, h7⟩
  · exact .inl h
  · exact .inr ⟨b, h1, h2, h3, by rw [ho.size]; exact h4, h5.of_block (ho.block b fun e => by have := hS b e; omega), fun i hi => ⟨(h6 i hi).1, (h6 i hi).2.1, (h6 i hi).2.2.1, (h6 i hi).2.2.2.only ho fun x hx => by have := hS x hx; have := (h6 i hi).1; omega⟩, h7⟩

def batsOf (es : List Bat) : List (List Wr) := es.map (·.ws)

set_option maxRecDepth 100000 in
theorem batsOf_get (es : List Bat) {i : Nat} (h : i < es.length) : (batsOf es).getD i [] = (es.getD i btz).ws := by
  simp [batsOf, List.getD, h]

set_option maxRecDepth 100000 in
theorem OwnB.isBs {w : World} {lo hi : Nat} {a : Option Addr} {es : List Bat} (h : OwnB w lo hi a es) (hx : FewB (batsOf es)) : IsBs w a (batsOf es) := by
  rcases h with h | ⟨b, h1, h2, h3, h4, h5, h6, h7⟩
  · exact .inl (by rw [h]; rfl)
  · refine .inr ⟨b, 0, h1, h4, fun i hi => ?_⟩
    have hi' : i < es.length := by simpa [batsOf] using hi
    have hf := (hx i hi).2
    rw [batsOf_get es hi'] at hf ⊢
    exact ⟨_, _, by rw [Nat.zero_add]; exact h5 i hi', (h6 i hi').2.2.2.isWs hf⟩

/-- How far the marks have come behind these batches. -/
def markKB (es : List Bat) (k : Int) : Int := es.foldl (fun k e => markK e.ws k e.ws.length) k

set_option maxRecDepth 100000 in
theorem markKB_take (es : List Bat) (k : Int) {i : Nat} (h : i < es.length) : markKB (es.take (i + 1)) k = markK (es.getD i btz).ws (markKB (es.take i) k) (es.getD i btz).ws.length := by
  unfold markKB
  have e : es.take (i + 1) = es.take i ++ [es.getD i btz] := by
    rw [List.take_add_one, List.getElem?_eq_getElem h]
    simp [List.getD, h]
  rw [e, List.foldl_append]
  rfl

/-- All that is marked stays within bounds. -/
def TameB (es : List Bat) (k : Int) : Prop := (∀ i, i < es.length → (es.getD i btz).ws.length ≤ 1048576 ∧ bulk (es.getD i btz).ws ≤ 1048576) ∧ ∀ i, i ≤ es.length → 0 ≤ markKB (es.take i) k ∧ markKB (es.take i) k ≤ 1073741824

/-- A batch that is marked, its memory between two block numbers. -/
def MarkedS (w : World) (e : Bat) (k : Int) : Prop := MarkedA w e.a e.ws e.γ k ∧ (e.ws = [] ∨ ∃ b, e.a = some ⟨b, 0, none⟩ ∧ e.lo ≤ b ∧ b < e.hi ∧ ∀ i, i < e.ws.length → 0 < (e.ws.getD i wz).xs.length → e.lo ≤ e.γ i ∧ e.γ i < e.hi)

set_option maxRecDepth 100000 in
theorem MarkedWs.of_blocks {w w' : World} {b : Nat} {ws : List Wr} {γ : Nat → Nat} {k : Int} (h : MarkedWs w b ws γ k) (hb : w'.heap[b]? = w.heap[b]?) (h2 : ∀ i, i < ws.length → 0 < (ws.getD i wz).xs.length → w'.heap[γ i]? = w.heap[γ i]?) : MarkedWs w' b ws γ k := by
  intro i hi
  obtain ⟨⟨e0, e1, e2, e3, e4, e5, a, cp, e6, e7⟩, hd⟩ := h i hi
  have c : ∀ o, w'.cell? ⟨b, o, none⟩ = w.cell? ⟨b, o, none⟩ := fun o => World.cell?_of_block (a := ⟨b, o, none⟩) hb
  exact ⟨⟨(c _).trans e0, (c _).trans e1, (c _).trans e2, (c _).trans e3, (c _).trans e4, (c _).trans e5, a, cp, (c _).trans e6, e7⟩, fun hp => (hd hp).of_block (h2 i hi hp)⟩

set_option maxRecDepth 100000 in
theorem MarkedS.only {w w' : World} {S : Nat → Prop} {e : Bat} {k : Int} (h : MarkedS w e k) (ho : Only S w w') (hS : ∀ x, S x → x < e.lo ∨ e.hi ≤ x) : MarkedS w' e k := by
  refine ⟨?_, h.2⟩
  rcases h.1 with h1 | ⟨b, h1, h2, h3, h4⟩
  · exact .inl h1
  · rcases h.2 with g | ⟨b', g1, g2, g3, g4⟩
    · exact .inl g
    · obtain rfl : b = b' := by rw [h1] at g1; simpa using g1
      exact .inr ⟨b, h1, h2.of_blocks (ho.block b fun hx => by have := hS b hx; omega) fun i hi hp => ho.block _ fun hx => by have := hS _ hx; have := g4 i hi hp; omega, by rw [ho.size]; exact h3, fun i hi hp => by rw [ho.size]; exact h4 i hi hp⟩

/-- Batches that are marked. -/
def MarkedB (w : World) (a : Option Addr) (es : List Bat) (k : Int) : Prop := es = [] ∨ ∃ b, a = some ⟨b, 0, none⟩ ∧ b < w.heap.size ∧ BatsAt w b es ∧ ∀ i, i < es.length → MarkedA w (es.getD i btz).a (es.getD i btz).ws (es.getD i btz).γ (markKB (es.take i) k)

set_option maxRecDepth 100000 in
theorem MarkedB.below {w w' : World} {a : Option Addr} {es : List Bat} {k : Int} (h : MarkedB w a es k) (hb : Below w.heap.size w w') : MarkedB w' a es k := by
  rcases h with h | ⟨b, h1, h2, h3, h4⟩
  · exact .inl h
  · exact .inr ⟨b, h1, Nat.lt_of_lt_of_le h2 hb.size, h3.of_block (hb.block b h2), fun i hi => (h4 i hi).below hb⟩

set_option maxRecDepth 100000 in
theorem OwnA.marked {w w' : World} {e : Bat} {k : Int} (h : OwnA w e.lo e.hi e.a e.ws e.γ) (hm : MarkedA w' e.a e.ws e.γ k) : MarkedS w' e k := by
  refine ⟨hm, ?_⟩
  rcases h with h | ⟨b, h1, h2, h3, h4⟩
  · exact .inl h
  · exact .inr ⟨b, h1, h2.le, h3, fun i hi hp => ⟨(h2.deps i hi hp).1, h4 i hi hp⟩⟩

end Go.Proofs.YtbbmpfkijhhemabGreatDoor

/- The laws' copies of batches: the contracts of toBatch and toBatchS. -/
namespace Go.Proofs.YtbbmpfkijhhemabGreatDoor
open Go.ChangeShapes Go.WideShapes Go.ChangeAt Go.RowKit Go.Joins
attribute [local go_sem ↓] Go.wp_at_zero Go.wp_at_succ

set_option maxRecDepth 100000 in
theorem OwnG.lower {w : World} {base base' b : Nat} {ws : List Wr} {γ : Nat → Nat} (h : OwnG w base b ws γ) (hb : base' ≤ base) : OwnG w base' b ws γ where
  lt := h.lt
  le := Nat.le_trans hb h.le
  open_ := h.open_
  at_ := h.at_
  deps := fun i hi hp => ⟨Nat.le_trans hb (h.deps i hi hp).1, (h.deps i hi hp).2⟩
  inj := h.inj

set_option maxRecDepth 100000 in
theorem OwnA.wider {w : World} {lo lo' hi hi' : Nat} {a : Option Addr} {ws : List Wr} {γ : Nat → Nat} (h : OwnA w lo hi a ws γ) (h1 : lo' ≤ lo) (h2 : hi ≤ hi') : OwnA w lo' hi' a ws γ := by
  rcases h with h | ⟨b, q1, q2, q3, q4⟩
  · exact .inl h
  · exact .inr ⟨b, q1, q2.lower h1, Nat.lt_of_lt_of_le q3 h2, fun i hi hp => Nat.lt_of_lt_of_le (q4 i hi hp) h2⟩

set_option maxRecDepth 100000 in
theorem OwnA.setLow {w : World} {lo hi : Nat} {a : Option Addr} {ws : List Wr} {γ : Nat → Nat} (h : OwnA w lo hi a ws γ) {b : Nat} (hb : b < lo) (o : Nat) (v : Value) : OwnA (w.setCell ⟨b, o, none⟩ v) lo hi a ws γ :=
  h.only (S := fun x => x = b) (Only.set (S := fun x => x = b) (Only.refl _ w) rfl o v) fun x hx => by rw [hx]; exact hb

set_option maxRecDepth 100000 in
theorem infoBatch : (Tryz.prog.info? 74).map (fun i => (i.zero, i.size, i.bytes)) = some (some (.agg #[.slice none 0 0]), 1, 24) := by kernel_rfl

set_option maxRecDepth 100000 in
theorem run_make_bats (n : Nat) (hn : n ≤ 1048576) (w : World) :
    (Instr.makeSlice 68 (.int .i64 (n : Int)) (.int .i64 (n : Int))).run Tryz.prog w = .ok (.slice (some ⟨w.heap.size, 0, none⟩) n n) (w.alloc (.cells (madeCells #[.slice none 0 0] n) 74)) := by
  obtain ⟨i, hi, hzz⟩ := Option.map_eq_some_iff.1 infoBatch
  simp only [Prod.mk.injEq] at hzz
  obtain ⟨hz, hs, hb⟩ := hzz
  have hr := run_make (P := Tryz.prog) w 68 74 i _ Tryz.underlying68 hi hz .i64 .i64 n n (by omega) (Int.le_refl _) (by rw [hb]; omega) (by omega)
  simp only [Int.toNat_natCast, hs, Nat.mul_one] at hr
  exact hr

/-- The row while it is filled in. -/
def fillBat (es : List Bat) (j : Nat) : Value := if j < es.length then batV (es.getD j btz) else .slice none 0 0

set_option maxRecDepth 100000 in
theorem get_old (es : List Bat) (x : Bat) {i : Nat} (h : i < es.length) : (es ++ [x]).getD i btz = es.getD i btz := by
  rw [List.getD_eq_getElem?_getD, List.getD_eq_getElem?_getD, List.getElem?_append_left h]

set_option maxRecDepth 100000 in
theorem fillBat_step (es : List Bat) (x : Bat) (j : Nat) : (if j = es.length then batV x else fillBat es j) = fillBat (es ++ [x]) j := by
  unfold fillBat
  by_cases h : j = es.length
  · rw [if_pos h, if_pos (by simp; omega), h]
    simp [List.getD]
  · rw [if_neg h]
    by_cases hl : j < es.length
    · rw [if_pos hl, if_pos (by simp; omega), get_old es x hl]
    · rw [if_neg hl, if_neg (by simp; omega)]

set_option maxRecDepth 100000 in
theorem rowBat_start (w : World) (t n : Nat) : (w.alloc (.cells (madeCells #[.slice none 0 0] n) t)).rowIs w.heap.size t n (fillBat []) := by
  refine ⟨_, Go.Deep.blk_alloc_new _ _, size_madeCells _ _, fun i hi => ?_⟩
  have e : fillBat [] i = .slice none 0 0 := by unfold fillBat; rw [if_neg (by simp)]
  rw [e]
  have h1 : i % 1 = 0 := by omega
  simp [madeCells, hi, h1]

/-- The batches that are laid so far. -/
def LaidB (w : World) (B : Nat) (es : List Bat) : Prop := (∀ i, i < es.length → B < (es.getD i btz).lo ∧ (es.getD i btz).hi ≤ w.heap.size ∧ OwnA w (es.getD i btz).lo (es.getD i btz).hi (es.getD i btz).a (es.getD i btz).ws (es.getD i btz).γ) ∧ ∀ i j, i < j → j < es.length → (es.getD i btz).hi ≤ (es.getD j btz).lo

set_option maxRecDepth 100000 in
theorem get_new (es : List Bat) (x : Bat) : (es ++ [x]).getD es.length btz = x := by simp [List.getD]

set_option maxRecDepth 100000 in
theorem LaidB.more {w w' : World} {B : Nat} {es : List Bat} (h : LaidB w B es) (hb : Below w.heap.size w w') {x : Bat} (h1 : B < x.lo) (h2 : w.heap.size ≤ x.lo) (h3 : x.hi ≤ w'.heap.size) (h4 : OwnA w' x.lo x.hi x.a x.ws x.γ) : LaidB w' B (es ++ [x]) := by
  constructor
  · intro i hi
    by_cases hl : i < es.length
    · rw [get_old es x hl]
      obtain ⟨q1, q2, q3⟩ := h.1 i hl
      exact ⟨q1, Nat.le_trans q2 hb.size, q3.below hb⟩
    · have hi' : i = es.length := by simp at hi; omega
      rw [hi', get_new]
      exact ⟨h1, h3, h4⟩
  · intro i j hij hj
    by_cases hl : j < es.length
    · rw [get_old es x hl, get_old es x (by omega)]
      exact h.2 i j hij hl
    · have hj' : j = es.length := by simp at hj; omega
      rw [hj', get_new, get_old es x (by omega)]
      exact Nat.le_trans (h.1 i (by omega)).2.1 h2

set_option maxRecDepth 100000 in
theorem LaidB.setRow {w : World} {B : Nat} {es : List Bat} (h : LaidB w B es) (o : Nat) (v : Value) : LaidB (w.setCell ⟨B, o, none⟩ v) B es :=
  ⟨fun i hi => ⟨(h.1 i hi).1, by simpa using (h.1 i hi).2.1, (h.1 i hi).2.2.setLow (h.1 i hi).1 o v⟩, h.2⟩

end Go.Proofs.YtbbmpfkijhhemabGreatDoor

/- The contract of spec.LogRead. -/
namespace Go.Proofs.YtbbmpfkijhhemabGreatDoor
open Go.ChangeShapes Go.WideShapes Go.ChangeAt Go.RowKit Go.Joins
attribute [local go_sem ↓] Go.wp_at_zero Go.wp_at_succ

set_option maxRecDepth 100000 in
theorem OwnG.kept {w w' : World} {base b hi : Nat} {ws : List Wr} {γ : Nat → Nat} (h : OwnG w base b ws γ) (hs : w.heap.size ≤ w'.heap.size) (hb : b < hi) (hg : ∀ i, i < ws.length → 0 < (ws.getD i wz).xs.length → γ i < hi) (hk : ∀ x, base ≤ x → x < hi → x < w.heap.size → w'.heap[x]? = w.heap[x]?) : OwnG w' base b ws γ where
  lt := Nat.lt_of_lt_of_le h.lt hs
  le := h.le
  open_ := fun o => (frozen_of_block (hk b h.le hb h.lt)).trans (h.open_ o)
  at_ := fun i hi => by
    obtain ⟨a, cap, h1, h2⟩ := h.at_ i hi
    exact ⟨a, cap, h1.of_block (hk b h.le hb h.lt), h2⟩
  deps := fun i hi hp => by
    obtain ⟨h1, h2, h3, h4, h5⟩ := h.deps i hi hp
    have hb := hk (γ i) h1 (hg i hi hp) h2
    have e' : ∀ o, w'.cell? ⟨γ i, o, none⟩ = w.cell? ⟨γ i, o, none⟩ := fun o => World.cell?_of_block (a := ⟨γ i, o, none⟩) hb
    exact ⟨h1, Nat.lt_of_lt_of_le h2 hs, h3, fun j hj => ⟨(e' _).trans (h4 j hj).1, (e' _).trans (h4 j hj).2.1, (e' _).trans (h4 j hj).2.2.1, (e' _).trans (h4 j hj).2.2.2⟩, fun o => (frozen_of_block hb).trans (h5 o)⟩
  inj := h.inj

set_option maxRecDepth 100000 in
theorem OwnA.kept {w w' : World} {lo hi : Nat} {a : Option Addr} {ws : List Wr} {γ : Nat → Nat} (h : OwnA w lo hi a ws γ) (hs : w.heap.size ≤ w'.heap.size) (hk : ∀ x, lo ≤ x → x < hi → x < w.heap.size → w'.heap[x]? = w.heap[x]?) : OwnA w' lo hi a ws γ := by
  rcases h with h | ⟨b, h1, h2, h3, h4⟩
  · exact .inl h
  · exact .inr ⟨b, h1, h2.kept hs h3 h4 hk, h3, h4⟩

/-- A row of batches of one's own that grows. -/
structure RowB (w : World) (base : Nat) (v : Value) (es : List Bat) : Prop where
  own : w.ownsRow base 74 1 v es.length (es.map batV)
  laid : ∀ i, i < es.length → base ≤ (es.getD i btz).lo ∧ (es.getD i btz).hi ≤ w.heap.size ∧ OwnA w (es.getD i btz).lo (es.getD i btz).hi (es.getD i btz).a (es.getD i btz).ws (es.getD i btz).γ
  order : ∀ i j, i < j → j < es.length → (es.getD i btz).hi ≤ (es.getD j btz).lo
  apart : ∀ b, v.ownBlock = some b → ∀ i, i < es.length → b < (es.getD i btz).lo ∨ (es.getD i btz).hi ≤ b

set_option maxRecDepth 100000 in
theorem RowB.below {w w' : World} {base : Nat} {v : Value} {es : List Bat} (h : RowB w base v es) (hb : Below w.heap.size w w') : RowB w' base v es where
  own := h.own.kept (row := none) ⟨hb.os, hb.tape, hb.output, hb.size, fun k hk _ => hb.block k hk⟩ (by
    cases e : v.ownBlock
    · exact .inl rfl
    · exact .inr (by simp))
  laid := fun i hi => ⟨(h.laid i hi).1, Nat.le_trans (h.laid i hi).2.1 hb.size, (h.laid i hi).2.2.below hb⟩
  order := h.order
  apart := h.apart

set_option maxRecDepth 100000 in
theorem RowB.more {w w5 : World} {base g5 cap5 : Nat} {v : Value} {es : List Bat} {x : Bat} (h : RowB w base v es) (hx : OwnA w x.lo x.hi x.a x.ws x.γ) (h1 : base ≤ x.lo) (h2 : x.hi ≤ w.heap.size) (hord : ∀ i, i < es.length → (es.getD i btz).hi ≤ x.lo) (hv : ∀ b, v.ownBlock = some b → b < x.lo ∨ x.hi ≤ b)
    (hown : w5.ownsRow base 74 1 (.slice (some ⟨g5, 0, none⟩) (es.length + 1) cap5) (es.length + 1) (es.map batV ++ [batV x])) (hgrow : w.grownBy w5 v.ownBlock) (hg : v.ownBlock = some g5 ∨ g5 = w.heap.size) : RowB w5 base (.slice (some ⟨g5, 0, none⟩) (es.length + 1) cap5) (es ++ [x]) where
  own := by
    rw [List.length_append, List.map_append]
    exact hown
  laid := by
    have k : ∀ d : Bat, OwnA w d.lo d.hi d.a d.ws d.γ → (∀ b, v.ownBlock = some b → b < d.lo ∨ d.hi ≤ b) → OwnA w5 d.lo d.hi d.a d.ws d.γ := fun d hd hn => hd.kept hgrow.size fun y y1 y2 y3 => hgrow.block y y3 fun e => by
      have := hn y e.symm
      omega
    intro i hi
    by_cases hl : i < es.length
    · rw [get_old es x hl]
      obtain ⟨q1, q2, q3⟩ := h.laid i hl
      exact ⟨q1, Nat.le_trans q2 hgrow.size, k _ q3 fun b hb => h.apart b hb i hl⟩
    · have hi' : i = es.length := by simp at hi; omega
      rw [hi', get_new]
      exact ⟨h1, Nat.le_trans h2 hgrow.size, k _ hx hv⟩
  order := by
    intro i j hij hj
    by_cases hl : j < es.length
    · rw [get_old es x hl, get_old es x (by omega)]
      exact h.order i j hij hl
    · have hj' : j = es.length := by simp at hj; omega
      rw [hj', get_new, get_old es x (by omega)]
      exact hord i (by omega)
  apart := by
    intro b hb i hi
    have e5 : g5 = b := by
      simp only [Value.ownBlock, Option.some.injEq] at hb
      exact hb
    subst e5
    by_cases hl : i < es.length
    · rw [get_old es x hl]
      rcases hg with hg | hg
      · exact h.apart _ hg i hl
      · have := (h.laid i hl).2.1
        omega
    · have hi' : i = es.length := by simp at hi; omega
      rw [hi', get_new]
      rcases hg with hg | hg
      · exact hv _ hg
      · omega

set_option maxRecDepth 100000 in
theorem RowB.ownB {w : World} {base n cap : Nat} {a : Option Addr} {es : List Bat} (h : RowB w base (.slice a n cap) es) : n = es.length ∧ OwnB w base w.heap.size a es := by
  rcases h.own.2 with ⟨h1, h2⟩ | ⟨g, cap', cur, h1, h2, h3, _⟩
  · simp only [Value.slice.injEq] at h1
    exact ⟨by omega, .inl (List.length_eq_zero_iff.1 h2)⟩
  · simp only [Value.slice.injEq] at h1
    obtain ⟨rfl, rfl, rfl⟩ := h1
    have hlt : g < w.heap.size := (h.own.lt g rfl).2
    refine ⟨rfl, .inr ⟨g, rfl, h2, hlt, hlt, fun i hi => ?_, fun i hi => ?_, h.order⟩⟩
    · rw [h.own.cellAt i (by omega)]
      simp [List.getD, hi]
    · obtain ⟨q1, q2, q3⟩ := h.laid i hi
      exact ⟨q1, q2, h.apart g rfl i hi, q3⟩

set_option maxRecDepth 100000 in
theorem prefix_drop {a b s : List UInt8} (h : a ++ b <+: s) : b <+: s.drop a.length := by
  obtain ⟨t, rfl⟩ := h
  exact ⟨t, by simp⟩

set_option maxRecDepth 100000 in
theorem prefix_join {a b s : List UInt8} (h : a <+: s) (h' : b <+: s.drop a.length) : a ++ b <+: s := by
  obtain ⟨t, rfl⟩ := h
  rw [List.drop_left] at h'
  exact (List.prefix_append_right_inj a).2 h'

set_option maxRecDepth 100000 in
theorem logT_snoc (bs : List (List Wr)) (b : List Wr) : logT (bs ++ [b]) = logT bs ++ batchT b := by simp [logT]

set_option maxRecDepth 100000 in
set_option maxHeartbeats 8000000 in
theorem specLog_any (s : ByteArray) (w : World) (hs : s.size ≤ 1048576) :
    Calls Tryz.prog 43 #[.string s] w fun e w' => ∃ a cap es, e = .returned (.tuple #[.slice a (List.length es) cap, .int .i64 (((logT (batsOf es)).length : Nat) : Int)]) ∧ IsLog s.data.toList (batsOf es) ∧ es.length ≤ s.size ∧ OwnB w' w.heap.size w'.heap.size a es ∧ Below w.heap.size w w' := by
  obtain ⟨i0, hi0, hx0⟩ := Option.map_eq_some_iff.1 infoBatch
  simp only [Prod.mk.injEq] at hx0
  have HI0 := Lib.hid hi0
  have HX0 := Lib.hid hx0
  clear hi0 hx0
  have hdl : s.data.toList.length = s.size := by simp
  have HDL := Lib.hid hdl
  clear hdl
  have HR0 : Hid (RowB (w.alloc (.cells #[] 74)) w.heap.size (.slice (some ⟨w.heap.size, 0, none⟩) 0 0) []) := ⟨World.ownsRow_made w #[] 0 (Nat.le_refl _) (by simp [maxLen]) (by simp), fun i hi => by simp at hi, fun i j _ hj => by simp at hj, fun b _ i hi => by simp at hi⟩
  have HB0 : Hid (Below w.heap.size w (w.alloc (.cells #[] 74))) := (Below.refl _ _).alloc (Nat.le_refl _) _
  go_enter Tryz.func43, Tryz.ntmps43
  go_wp2
  generalize w.alloc (.cells #[] 74) = W0 at *
  go_loopw [4, 5] (fun o at' wr => ∃ (p : Nat) (a : Option Addr) (n cap : Nat) (es : List Bat), p ≤ s.size ∧ at' = .int .i64 p ∧ o = .slice a n cap ∧ es.length = n ∧ n ≤ p ∧ Hid (∀ b ∈ batsOf es, okWs b = true) ∧ Hid ((logT (batsOf es)).length = p) ∧ Hid (logT (batsOf es) <+: s.data.toList) ∧ Hid (RowB wr w.heap.size (.slice a n cap) es) ∧ Hid (Below w.heap.size w wr)) (fun _ at' _ => s.size - (intOf at').toNat)
  case atStart => exact ⟨0, _, 0, _, [], Nat.zero_le _, rfl, rfl, rfl, Nat.le_refl _, fun b hb => by simp [batsOf] at hb, rfl, List.nil_prefix, HR0, HB0⟩
  case round =>
    clear HR0 HB0
    obtain ⟨p, a, n, cap, es, hp, rfl, rfl, hel, hnp, HOK, HLN, HPR, HR, HB⟩ := hrel
    go_wp2_with fail
    refine (batch_any s p _ hs hp).mono ?_
    rintro e w2 ⟨hb, hans⟩
    have HB2 := Lib.hid (below_step HB.out HB.out.size hb)
    have HR2 := Lib.hid (HR.out.below hb)
    have hs2 : wr.heap.size ≤ w2.heap.size := hb.size
    have hs1 : w.heap.size ≤ wr.heap.size := HB.out.size
    clear hb HB
    rcases hans with ⟨ya, ycp, ys, rfl, hv, hrow⟩ | ⟨hno, rfl⟩
    rotate_left
    · have HIS : Hid (IsLog s.data.toList (batsOf es)) := ⟨HOK.out, HPR.out, fun b hb h => hno b ⟨hb, by
        have := prefix_drop h
        rw [HLN.out] at this
        exact this⟩⟩
      clear hno
      have HBA : Hid (Below w2.heap.size w2 (w2.alloc (.cells #[.slice none 0 0] 74))) := (Below.refl _ _).alloc (Nat.le_refl _) _
      have HB3 := Lib.hid (below_step HB2.out HB2.out.size HBA.out)
      have HR3 := Lib.hid (HR2.out.below HBA.out)
      go_wp2
      refine bodyPost_ret (v := .tuple #[.slice a n cap, .int .i64 (p : Int)]) (by simp [results, Tryz.results43, go_sem]) rfl ?_
      refine ⟨a, cap, es, by rw [hel, HLN.out], HIS.out, by omega, HR3.out.ownB.2, HB3.out⟩
    have hpos := batch_pos hv.1
    have hle : p + (batchT (ys.map (·.x))).length ≤ s.size := by
      have h := hv.2.length_le
      rw [List.length_drop, HDL.out] at h
      omega
    have HPR2 : Hid (logT (batsOf es) ++ batchT (ys.map (·.x)) <+: s.data.toList) := prefix_join HPR.out (by rw [HLN.out]; exact hv.2)
    have HOKX := Lib.hid hv.1
    obtain ⟨a', cap', n', e', hn', hO⟩ := hrow.ownA rfl
    obtain ⟨rfl, rfl, rfl⟩ : ya = a' ∧ ys.length = n' ∧ ycp = cap' := by
      simpa only [Value.slice.injEq] using e'
    have HO := Lib.hid hO
    have HYL : Hid ((ys.map (·.x)).length = ys.length) := hn'
    clear hv hrow e' hn' hO
    generalize gammaG ys = γ at *
    generalize ys.map (·.x) = ws at *
    generalize ys.length = m at *
    obtain ⟨z, hz⟩ : ∃ z, (batchT ws).length = z := ⟨_, rfl⟩
    rw [hz] at hpos hle ⊢
    have HZ := Lib.hid hz
    clear hz
    have HBA : Hid (Below w2.heap.size w2 (w2.alloc (.cells #[.slice ya m ycp] 74))) := (Below.refl _ _).alloc (Nat.le_refl _) _
    have HB3 := Lib.hid (below_step HB2.out HB2.out.size HBA.out)
    have HR3 := Lib.hid (HR2.out.below HBA.out)
    have HO3 := Lib.hid (HO.out.below HBA.out)
    have hs3 : w2.heap.size + 1 = (w2.alloc (.cells #[.slice ya m ycp] 74)).heap.size := by simp
    have HBC : Hid (Below (w2.heap.size + 1) (w2.alloc (.cells #[.slice ya m ycp] 74)) ((w2.alloc (.cells #[.slice ya m ycp] 74)).alloc (.cells #[.slice ya m ycp] 74))) := (Below.refl _ _).alloc (by simp) _
    have HRC := Lib.hid (HR3.out.below (hs3 ▸ HBC.out))
    have HOC := Lib.hid (HO3.out.below (hs3 ▸ HBC.out))
    have HBD := Lib.hid (below_step HB3.out HB3.out.size (hs3 ▸ HBC.out))
    have HCE : Hid (∀ j u, [Value.slice ya m ycp][j]? = some u → ((w2.alloc (.cells #[.slice ya m ycp] 74)).alloc (.cells #[.slice ya m ycp] 74)).cell? ((⟨w2.heap.size + 1, 0, none⟩ : Addr).add j) = some u) := by
      refine Lib.hid fun j u hu => ?_
      match j, hu with
      | 0, hu =>
        obtain rfl : Value.slice ya m ycp = u := by simpa using hu
        simp [go_sem]
    have HOW : Hid (((w2.alloc (.cells #[.slice ya m ycp] 74)).alloc (.cells #[.slice ya m ycp] 74)).ownsRow w.heap.size 74 1 (.slice a n cap) n (es.map batV)) := by
      have h := HRC.out.own
      rw [hel] at h
      exact Lib.hid h
    clear hs3 HBC HR3 HO3 HB3 HBA
    go_wp2_with (at_builtin; refine wpList_append_lies _ (by rfl) _ _ _ (by rfl) w.heap.size 74 i0 (.agg #[.slice none 0 0]) 1 24 Tryz.underlying68 HI0.out HX0.out.1 HX0.out.2.1 HX0.out.2.2 (by rfl) (by omega) (.slice a n cap) n (es.map batV) (by rfl) HOW.out ⟨w2.heap.size + 1, 0, none⟩ 1 1 [.slice ya m ycp] (by rfl) (by rfl) (by simpa using HCE.out) (by simp [Value.oneCell']) (by omega) (by unfold maxLen; omega) (by omega) (by simp; omega) _ rfl ?_; intro g3 cp3 w5 hown hgrow hg3 _; refine Hid.out ?_)
    refine Lib.hid ?_
    have HB5 : Hid (Below w.heap.size w w5) := HBD.out.grown hgrow HBD.out.size fun j hj => (HR2.out.own.lt j hj).1
    have hbv : batV ⟨ws, ya, ycp, wr.heap.size, w2.heap.size, γ⟩ = .slice ya m ycp := by
      unfold batV
      rw [HYL.out]
    have HR5 : Hid (RowB w5 w.heap.size (.slice (some ⟨g3, 0, none⟩) (n + 1) cp3) (es ++ [⟨ws, ya, ycp, wr.heap.size, w2.heap.size, γ⟩])) := by
      subst hel
      refine Lib.hid (HRC.out.more HOC.out hs1 (by simp; omega) (fun i hi => (HR.out.laid i hi).2.1) (fun b hb => .inl (HR.out.own.lt b hb).2) ?_ hgrow hg3)
      rw [hbv]
      exact hown
    have HOK5 : Hid (∀ b ∈ batsOf (es ++ [(⟨ws, ya, ycp, wr.heap.size, w2.heap.size, γ⟩ : Bat)]), okWs b = true) := fun b hb => by
      unfold batsOf at hb
      rw [List.map_append] at hb
      rcases List.mem_append.1 hb with hb | hb
      · exact HOK.out b hb
      · obtain rfl : b = ws := by simpa using hb
        exact HOKX.out
    have HLE : Hid (logT (batsOf (es ++ [(⟨ws, ya, ycp, wr.heap.size, w2.heap.size, γ⟩ : Bat)])) = logT (batsOf es) ++ batchT ws) := by
      show _ = _
      unfold batsOf
      rw [List.map_append]
      exact logT_snoc _ _
    have HLN5 : Hid ((logT (batsOf (es ++ [(⟨ws, ya, ycp, wr.heap.size, w2.heap.size, γ⟩ : Bat)]))).length = p + z) := by
      show _ = _
      rw [HLE.out, List.length_append, HLN.out, HZ.out]
    have HPR5 : Hid (logT (batsOf (es ++ [(⟨ws, ya, ycp, wr.heap.size, w2.heap.size, γ⟩ : Bat)])) <+: s.data.toList) := by
      rw [HLE.out]
      exact HPR2
    clear hown hgrow HRC HOW HCE HOC
    go_wp2
    exact ⟨⟨p + z, _, n + 1, _, _, by omega, by go_num, rfl, by simp [hel], by omega, HOK5, HLN5, HPR5, HR5, HB5⟩, by simp [intOf]; omega⟩

end Go.Proofs.YtbbmpfkijhhemabGreatDoor
