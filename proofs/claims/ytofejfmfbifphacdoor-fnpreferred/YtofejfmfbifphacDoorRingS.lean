/- The contract of spec.RingOf. -/
import Derived.Test.YtofejfmfbifphacDoorRingA
namespace Go.Proofs.YtofejfmfbifphacDoor
open Go.ChangeShapes Go.WideShapes Go.ChangeAt Go.RowKit Go.Joins
attribute [local go_sem ↓] Go.wp_at_zero Go.wp_at_succ

/-- A box for a point, new. -/
def NewPt (N : Nat) : Fact := fun v w => ∃ B, v = .pointer (some ⟨B, 0, none⟩) ∧ N ≤ B ∧ w.heap[B]? = some (.cells #[.int .i64 0, .int .i64 0] 32 (0, 0))

set_option maxRecDepth 100000 in
theorem lasts_newPt (N : Nat) : lasts (fun w w' => Below w.heap.size w w') (NewPt N) := by
  rintro v w w' ⟨B, hv, hN, hB⟩ hb
  exact ⟨B, hv, hN, (hb.block B (Array.getElem?_eq_some_iff.1 hB).1).trans hB⟩

set_option maxRecDepth 100000 in
theorem itoa_size {n : Int} (h0 : 0 ≤ n) (h1 : n ≤ 99) : (str (Lib.itoa n)).size ≤ 21 := by
  rw [str_size]
  exact Lib.itoa_length_le n (by omega) (by omega)

set_option maxRecDepth 100000 in
theorem ring_text (x : Int) (b : Nat) : str (Lib.itoa x) ++ ⟨#[46]⟩ ++ str (Lib.itoa (b : Int)) = str (Lib.itoa x ++ (46 :: Lib.itoa (b : Int))) := by
  apply ByteArray.ext
  simp [str]

set_option maxRecDepth 100000 in
theorem ring_hash (x : Int) (b : Nat) : hashL (str (Lib.itoa x) ++ ⟨#[46]⟩ ++ str (Lib.itoa (b : Int))).data.toList = (pointOf x b).t := by
  rw [ring_text]
  rfl

set_option maxRecDepth 100000 in
theorem gtP_no {y p : Pt} (h : gtP y p = false) : ¬ p.t < y.t ∧ ¬ (y.t = p.t ∧ p.n < y.n) := by
  unfold gtP at h
  have := of_decide_eq_false h
  exact ⟨fun h => this (.inl h), fun h => this (.inr h)⟩

set_option maxRecDepth 100000 in
set_option maxHeartbeats 8000000 in
theorem specRing_loop (w : World) (a : Option Addr) (n cap V : Nat) (zs : List Int) (hn : zs.length = n) (h8 : n ≤ 8) (hV : V ≤ 6) (hz : ∀ i, i < n → 0 ≤ zs.getD i 0 ∧ zs.getD i 0 ≤ 99) (hh : IsInts w a zs) (hok : nodesOkB zs = true) (hbv : btw (V : Int) 1 6 = true) :
    Calls Tryd.prog 8 #[.slice a n cap, .int .i64 (V : Int)] w fun e w' => ∃ r, e = .returned r ∧ RowP w' w.heap.size r (ringL (ptsOf zs V)) ∧ Below w.heap.size w w' := by
  have HH : Hid (IsInts w a zs) := hh
  have HN : Hid (zs.length = n) := hn
  have HZ := Lib.hid hz
  clear hh hn hz
  have HR0 : Hid (RowP (w.alloc (.cells #[] 32)) w.heap.size (.slice (some ⟨w.heap.size, 0, none⟩) 0 0) []) := World.ownsRow_made w #[] 0 (Nat.le_refl _) (by simp [maxLen]) (by simp)
  have HB0 : Hid (Below w.heap.size w (w.alloc (.cells #[] 32))) := (Below.refl _ _).alloc (Nat.le_refl _) _
  go_enter Tryd.func8, Tryd.ntmps8
  go_wp2_with fail
  refine (specNodesOk_any a n cap zs _ HN.out (by omega) (HH.out.below ((Below.refl _ _).alloc (Nat.le_refl _) _))).mono ?_
  rintro e w1 ⟨rfl, hb⟩
  have HR1 := Lib.hid (HR0.out.below hb)
  have HB1 := Lib.hid (below_step HB0.out HB0.out.size hb)
  rw [hok]
  clear hb HR0 HB0 hok
  go_wp2_with fail
  refine (between_is _ _ _ true hbv _).mono ?_
  rintro e w2 ⟨rfl, rfl⟩
  go_wp2
  go_loopw [5, 6] (fun t i wr => ∃ (a0 g cp L : Nat), a0 ≤ n ∧ i = .int .i64 a0 ∧ t = .slice (some ⟨g, 0, none⟩) L cp ∧ Hid ((ringL (ptsPre zs V a0 0)).length = L) ∧ Hid (RowP wr w.heap.size (.slice (some ⟨g, 0, none⟩) L cp) (ringL (ptsPre zs V a0 0))) ∧ Hid (Below w.heap.size w wr)) (fun _ i _ => n - (intOf i).toNat)
  case atStart => exact ⟨0, _, _, _, Nat.zero_le _, rfl, rfl, by rw [ptsPre_zero]; exact Lib.hid rfl, by rw [ptsPre_zero]; exact HR1, HB1⟩
  case round =>
    clear HR1 HB1
    obtain ⟨a0, g, cp, L, ha0, rfl, rfl, HL, HR, HB⟩ := hrel
    by_cases ha' : a0 < n
    · have i1 : (0 : Int) ≤ (a0 : Int) := by omega
      have i2 : (a0 : Int) < (n : Int) := by omega
      go_wp2
      go_loopw [5, 7] (fun t i wx => ∃ (b0 g cp L : Nat), b0 ≤ V ∧ i = .int .i64 b0 ∧ t = .slice (some ⟨g, 0, none⟩) L cp ∧ Hid ((ringL (ptsPre zs V a0 b0)).length = L) ∧ Hid (RowP wx w.heap.size (.slice (some ⟨g, 0, none⟩) L cp) (ringL (ptsPre zs V a0 b0))) ∧ Hid (Below w.heap.size w wx)) (fun _ i _ => V - (intOf i).toNat)
      case atStart => exact ⟨0, _, _, _, Nat.zero_le _, rfl, rfl, HL, HR, HB⟩
      case round =>
        clear HL HR HB
        obtain ⟨b0, g, cp, L, hb0, rfl, rfl, HL, HR, HB⟩ := hrel
        by_cases hb' : b0 < V
        · have hl54 : L ≤ 54 := by rw [← HL.out, ringL_len]; exact ptsPre_len (by rw [HN.out]; exact h8) hV hb0
          have HNX : Hid (ringL (ptsPre zs V a0 (b0 + 1)) = insP (ringL (ptsPre zs V a0 b0)) (pointOf (zs.getD a0 0) b0)) := by rw [ptsPre_next, ringL_snoc]; exact Lib.hid rfl
          have HIL := Lib.hid (insP_len (ringL (ptsPre zs V a0 b0)) (pointOf (zs.getD a0 0) b0))
          obtain ⟨bb, rfl, hbz, e0⟩ := HH.out.at HB.out (show a0 < zs.length by rw [HN.out]; exact ha')
          obtain ⟨x0, x1⟩ := HZ.out a0 ha'
          obtain ⟨out2, ho2⟩ : ∃ o, ringL (ptsPre zs V a0 (b0 + 1)) = o := ⟨_, rfl⟩
          have HE2 := Lib.hid ho2
          rw [ho2] at HNX
          clear ho2
          generalize ringL (ptsPre zs V a0 b0) = out at *
          generalize zs.getD a0 0 = x at *
          have z1 := itoa_size x0 x1
          have z2 : (str (Lib.itoa (b0 : Int))).size ≤ 21 := itoa_size (by omega) (by omega)
          have z3 : (⟨#[46]⟩ : ByteArray).size = 1 := rfl
          have HHS := Lib.hid (ring_hash x b0)
          obtain ⟨t1, HT1⟩ : ∃ t, Hid (t = str (Lib.itoa x)) := ⟨_, Lib.hid rfl⟩
          obtain ⟨t2, HT2⟩ : ∃ t, Hid (t = str (Lib.itoa (b0 : Int))) := ⟨_, Lib.hid rfl⟩
          rw [← HT1.out] at z1 HHS
          rw [← HT2.out] at z2 HHS
          obtain ⟨p, hp⟩ : ∃ p, pointOf x b0 = p := ⟨_, rfl⟩
          have HPN : Hid (p.n = x) := by rw [← hp]; exact Lib.hid rfl
          rw [hp] at HHS HNX HIL
          clear hp
          have i3 : (0 : Int) ≤ (b0 : Int) := by omega
          have i4 : (b0 : Int) < (V : Int) := by omega
          go_wp2_with fail
          refine wp_region_slots 16 [[(0, false)], [(6, false)], [(32, true), (33, true)], [(34, true)], [(35, true)], [(36, true)], [(7, false)], [(38, true)], [(37, true), (39, true)], [(40, true)], [(0, false)], [(6, false)], [(42, true), (43, true)], [(44, true)], [(41, true), (45, true)], []] (fun w' => Below wr.heap.size wr w') (fun w w' => Below w.heap.size w w') (by kernel_rfl) (by kernel_rfl) (by rfl) (Below.refl _ _).drew (fun w w' h1 h2 => below_step h1 h1.size h2) ?_
          iterate 4 (apply slot_eq; · (rintro ρ w' ⟨p1, p2, p3⟩ hS hn; have e1 := held_cell hS e0 hbz; simp at hn; go_simp; exact ⟨Below.refl _ _, rfl⟩))
          apply slot_eq
          · rintro ρ w' ⟨p1, p2, p3⟩ hS hn
            simp at hn
            go_simp
            exact got_call (specNum' x w' ⟨by omega, by omega⟩) fun e w'' ⟨he, hb⟩ => ⟨_, he, hb, by rw [← HT1.out]⟩
          apply slot_eq
          · rintro ρ w' ⟨p1, p2, p3⟩ hS hn
            simp at hn
            go_simp
            rw [if_neg (by omega)]
            exact ⟨Below.refl _ _, rfl⟩
          apply slot_eq
          · rintro ρ w' ⟨p1, p2, p3⟩ hS hn
            simp at hn
            go_simp
            exact ⟨Below.refl _ _, rfl⟩
          apply slot_eq
          · rintro ρ w' ⟨p1, p2, p3⟩ hS hn
            simp at hn
            go_simp
            exact got_call (specNum' (b0 : Int) w' ⟨by omega, by omega⟩) fun e w'' ⟨he, hb⟩ => ⟨_, he, hb, by rw [← HT2.out]⟩
          apply slot_eq
          · rintro ρ w' ⟨p1, p2, p3⟩ hS hn
            simp at hn
            go_simp
            rw [if_neg (by simp; omega)]
            exact ⟨Below.refl _ _, rfl⟩
          apply slot_eq
          · rintro ρ w' ⟨p1, p2, p3⟩ hS hn
            simp at hn
            go_simp
            exact got_call (specHash_any _ w' (by simp; omega)) fun e w'' ⟨he, hb⟩ => ⟨_, he, by rw [hb]; exact Below.refl _ _, by rw [HHS.out]⟩
          iterate 5 (apply slot_eq; · (rintro ρ w' ⟨p1, p2, p3⟩ hS hn; have e1 := held_cell hS e0 hbz; simp at hn; go_simp; exact ⟨Below.refl _ _, rfl⟩))
          refine slot_fact (NewPt wr.heap.size) (lasts_newPt _) ?_ ?_
          · rintro ρ w' ⟨p1, p2, p3⟩ hS hn
            go_simp
            exact ⟨(Below.refl _ _).alloc (Nat.le_refl _) _, ⟨_, rfl, hS.size, heap_alloc_new w' _⟩⟩
          refine slot_end ?_
          intro tv w4 hS hF
          simp at hF
          obtain ⟨⟨B, f8, hNB, hBB⟩, f46, f45, f44, f43, f42, f41, f40, f39, f38, f37, f36, f35, f34, f33, f32⟩ := hF
          have c8a : w4.cell? ⟨B, 0, none⟩ = some (.int .i64 0) := cell_of_row _ _ 0 _ _ (0, 0) hBB
          have c8b : w4.cell? ⟨B, 1, none⟩ = some (.int .i64 0) := cell_of_row _ _ 1 _ _ (0, 0) hBB
          have c8f : ∀ o, w4.frozen? ⟨B, o, none⟩ = false := fun o => frozen_of_row _ _ o _ _ hBB
          have hBl : B < w4.heap.size := (Array.getElem?_eq_some_iff.1 hBB).1
          obtain ⟨W5, hW5⟩ : ∃ W5, (w4.setCell ⟨B, 0, none⟩ (.int .i64 p.t)).setCell ⟨B, 1, none⟩ (.int .i64 x) = W5 := ⟨_, rfl⟩
          have hS5 : Below wr.heap.size wr W5 := by rw [← hW5]; exact (hS.setCell (p := ⟨B, 0, none⟩) hNB _).setCell (p := ⟨B, 1, none⟩) hNB _
          have HP0 : Hid (W5.cell? ⟨B, 0, none⟩ = some (.int .i64 p.t)) := by
            rw [← hW5, World.cell?_setCell_other _ _ _ _ (by simp)]
            exact Lib.hid (World.cell?_setCell_same' _ _ _ (by rw [c8a]; rfl))
          have HP1 : Hid (W5.cell? ⟨B, 1, none⟩ = some (.int .i64 p.n)) := by
            rw [← hW5, HPN.out]
            exact Lib.hid (World.cell?_setCell_same' _ _ _ (by rw [World.cell?_setCell_other _ _ _ _ (by simp), c8b]; rfl))
          have hB5l : B < W5.heap.size := by rw [← hW5]; simpa using hBl
          have HR5 := Lib.hid (HR.out.below hS5)
          have HB5 : Hid (Below w.heap.size w W5) := below_step HB.out HB.out.size hS5
          simp only [List.take_succ_cons, List.take_zero, List.drop_succ_cons, List.drop_zero, putAll, f8, f46, f45, f44, f43, f42, f41, f40, f39, f38, f37, f36, f35, f34, f33, f32]
          clear f8 f46 f45 f44 f43 f42 f41 f40 f39 f38 f37 f36 f35 f34 f33 f32
          simp only [Act.put, List.setIfInBounds_toArray, List.set_cons_succ, List.set_cons_zero]
          go_wp2
          clear hW5 c8a c8b c8f hBB hBl hS hS5 HR HB hNB HHS HT1 HT2 z1 z2 z3 HPN e0 hbz
          have HO5 : Hid (IsPts W5 (some ⟨g, 0, none⟩) out) := by
            obtain ⟨av, cv, hv, ho⟩ := HR5.out.form
            injection hv with hv
            rw [hv]
            exact ho.isPts
          go_loopw [9] (fun i wy => ∃ k : Nat, k ≤ L ∧ i = .int .i64 k ∧ Hid (placeP out p L = placeP out p k) ∧ Hid (Below W5.heap.size W5 wy)) (fun i _ => (intOf i).toNat)
          case atStart => exact ⟨L, Nat.le_refl _, rfl, rfl, Below.refl _ _⟩
          case round =>
            obtain ⟨k, hk, rfl, HPL, HY⟩ := hrel
            have hp0 : wr.cell? ⟨B, 0, none⟩ = some (.int .i64 p.t) := held_cell HY.out HP0.out hB5l
            have hp1 : wr.cell? ⟨B, 1, none⟩ = some (.int .i64 p.n) := held_cell HY.out HP1.out hB5l
            have hBy : B < wr.heap.size := Nat.lt_of_lt_of_le hB5l HY.out.size
            by_cases hgo : ∃ j, k = j + 1 ∧ gtP (out.getD j pz) p = true
            · obtain ⟨j, rfl, hgt⟩ := hgo
              obtain ⟨b3, o3, hb3, hz3, d0, d1⟩ := HO5.out.at HY.out (show j < out.length by rw [HL.out]; omega)
              injection hb3 with hb3
              injection hb3 with hb3 ho3
              subst hb3 ho3
              rw [Nat.zero_add] at d0 d1
              have HPJ : Hid (placeP out p L = placeP out p j) := by
                rw [HPL.out, placeP_gt hgt]
                exact Lib.hid rfl
              have i5 : (0 : Int) ≤ (j : Int) := by omega
              have i6 : (j : Int) < (L : Int) := by omega
              have i7 : decide (0 < j + 1) = true := by simp
              unfold gtP at hgt
              have hgt' := of_decide_eq_true hgt
              clear hgt
              generalize out.getD j pz = y at *
              by_cases h1 : p.t < y.t
              · go_wp2_with fail
                have gd0 := aft_cell hz3 d0
                have gd1 := aft_cell hz3 d1
                have gp0 := aft_cell hBy hp0
                have gp1 := aft_cell hBy hp1
                have ne := aft_some wr
                refine wp_region_aft (by kernel_rfl) (by kernel_rfl) ?_
                repeat (first | go_big_quiet_step (fail))
                refine wpQuiet_nil ?_
                intro wq hq
                have HYQ : Hid (Below W5.heap.size W5 wq) := below_step HY.out HY.out.size hq
                clear hq
                go_wp2
                exact ⟨⟨j, by omega, by go_num, HPJ, HYQ⟩, by simp [intOf]⟩
              · obtain ⟨h2, h3⟩ := hgt'.resolve_left h1
                obtain ⟨yt, yn⟩ := y
                simp only at h1 h2 h3 d0 d1
                subst h2
                go_wp2_with fail
                have gd0 := aft_cell hz3 d0
                have gd1 := aft_cell hz3 d1
                have gp0 := aft_cell hBy hp0
                have gp1 := aft_cell hBy hp1
                have ne := aft_some wr
                refine wp_region_aft (by kernel_rfl) (by kernel_rfl) ?_
                repeat (first | go_big_quiet_step (fail))
                refine wpQuiet_nil ?_
                intro wq hq
                have HYQ : Hid (Below W5.heap.size W5 wq) := below_step HY.out HY.out.size hq
                clear hq
                go_wp2
                exact ⟨⟨j, by omega, by go_num, HPJ, HYQ⟩, by simp [intOf]⟩
            · by_cases hk0 : k = 0
              · subst hk0
                have HPE : Hid (placeP out p L = 0) := HPL
                go_wp2_with fail
                have gp0 := aft_cell hBy hp0
                have ne := aft_some wr
                refine wp_region_aft (by kernel_rfl) (by kernel_rfl) ?_
                repeat (first | go_big_quiet_step (fail))
                refine wpQuiet_nil ?_
                intro wq hq
                have HYQ : Hid (Below W5.heap.size W5 wq) := below_step HY.out HY.out.size hq
                clear hq
                have HRQ := Lib.hid (HR5.out.below HYQ.out)
                have HBQ : Hid (Below w.heap.size w wq) := below_step HB5.out HB5.out.size HYQ.out
                have HOQ := Lib.hid (HO5.out.below HYQ.out)
                have hBq : B < wq.heap.size := Nat.lt_of_lt_of_le hB5l HYQ.out.size
                have HPA : Hid (wq.cell? ⟨B, 0, none⟩ = some (.int .i64 p.t)) := held_cell HYQ.out HP0.out hB5l
                have HPB : Hid (wq.cell? ⟨B, 1, none⟩ = some (.int .i64 p.n)) := held_cell HYQ.out HP1.out hB5l
                have hkc : 0 ≤ cp := Nat.le_trans hk (rowP_room HRQ.out).1
                have HNW : Hid (out2 = out.take (0) ++ [p] ++ out.drop (0)) := by
                  rw [HNX.out]
                  unfold insP putAt
                  rw [HL.out, HPE.out]
                  simp [Hid]
                have HO2L : Hid (out2.length = L + 1) := by rw [HNX.out, HIL.out, HL.out]; exact Lib.hid rfl
                have HTL : Hid ((out.take (0)).length = 0) := by rw [List.length_take, HL.out]; exact Nat.min_eq_left hk
                have HTD : Hid ((out.drop (0)).length = L - (0)) := by rw [List.length_drop, HL.out]; exact Lib.hid rfl
                obtain ⟨W6, hW6⟩ : ∃ W6, wq.alloc (.cells #[] 32) = W6 := ⟨_, rfl⟩
                have hb6 : Below wq.heap.size wq W6 := by rw [← hW6]; exact (Below.refl _ _).alloc (Nat.le_refl _) _
                have HR6 : Hid (RowP W6 wq.heap.size (.slice (some ⟨wq.heap.size, 0, none⟩) 0 0) []) := by rw [← hW6]; exact Lib.hid (World.ownsRow_made wq #[] 0 (Nat.le_refl _) (by simp [maxLen]) (by simp))
                have HS6 := Lib.hid ((HOQ.out.below hb6).take (0))
                have HB6 := Lib.hid hb6
                clear hb6 gp0  hp0 hp1
                have g0 : (0 : Int) ≤ ((0 : Nat) : Int) := by omega
                have g1' : ((0 : Nat) : Int) ≤ (L : Int) := by omega
                go_wp2_with (at_builtin; refine append_pts rfl _ _ rfl wq.heap.size wq.heap.size 0 0 [] rfl rfl HR6.out (some ⟨g, 0, none⟩) cp (0) (out.take (0)) HTL.out rfl HS6.out (0) (by omega) (by omega) ?_; intro g1 cap1 w1 hrow1 hb1; refine Hid.out ?_)
                refine Lib.hid ?_
                have HB1 : Hid (Below wq.heap.size wq w1) := HB6.out.trans hb1
                have HRW1 : Hid (RowP w1 wq.heap.size (.slice (some ⟨g1, 0, none⟩) (0) cap1) (out.take (0))) := hrow1
                have q0 : w1.cell? ⟨B, 0, none⟩ = some (.int .i64 p.t) := held_cell HB1.out HPA.out hBq
                have q1 : w1.cell? ⟨B, 1, none⟩ = some (.int .i64 p.n) := held_cell HB1.out HPB.out hBq
                obtain ⟨W7, hW7⟩ : ∃ W7, w1.alloc (.cells #[.int .i64 p.t, .int .i64 p.n] 32) = W7 := ⟨_, rfl⟩
                have hb7 : Below w1.heap.size w1 W7 := by rw [← hW7]; exact (Below.refl _ _).alloc (Nat.le_refl _) _
                have HR7 := Lib.hid (HRW1.out.below hb7)
                have HS7 : Hid (IsPts W7 (some ⟨w1.heap.size, 0, none⟩) [p]) := by rw [← hW7]; exact Lib.hid (isPts_one w1 p)
                have HB7 : Hid (Below wq.heap.size wq W7) := HB1.out.trans (hb7.mono HB1.out.size)
                clear hb1 hrow1 hb7 hW6
                go_wp2_with (at_builtin; refine append_pts rfl _ _ rfl wq.heap.size g1 cap1 (0) (out.take (0)) HTL.out rfl HR7.out (some ⟨w1.heap.size, 0, none⟩) 1 1 [p] rfl rfl HS7.out (0 + 1) rfl (by omega) ?_; intro g2 cap2 w2 hrow2 hb2; refine Hid.out ?_)
                refine Lib.hid ?_
                have HB2 : Hid (Below wq.heap.size wq w2) := HB7.out.trans hb2
                have HRW2 := Lib.hid hrow2
                have HS8 := Lib.hid ((HOQ.out.below HB2.out).drop (0))
                have HTL2 : Hid ((out.take (0) ++ [p]).length = 0 + 1) := by rw [List.length_append, HTL.out]; exact Lib.hid rfl
                clear hb2 hrow2 hW7 q0 q1
                by_cases hcpk : cp = 0
                · have HLK : Hid (L = 0) := by have := (rowP_room HRQ.out).1; exact Lib.hid (by omega)
                  have HSN : Hid (IsPts w2 (some ⟨g, 0, none⟩) (out.drop (0))) := .inl (List.eq_nil_of_length_eq_zero (by rw [HTD.out]; have := HLK.out; omega))
                  go_wp2_with (at_builtin; refine append_pts rfl _ _ rfl wq.heap.size g2 cap2 (0 + 1) (out.take (0) ++ [p]) HTL2.out rfl HRW2.out (some ⟨g, 0, none⟩) _ (L - (0)) (out.drop (0)) HTD.out rfl HSN.out (L + 1) (by omega) (by omega) ?_; intro g3 cap3 w3 hrow3 hb3; refine Hid.out ?_)
                  refine Lib.hid ?_
                  have HR3 : Hid (RowP w3 w.heap.size (.slice (some ⟨g3, 0, none⟩) (L + 1) cap3) out2) := by
                    rw [HNW.out]
                    exact Lib.hid (hrow3.mono HBQ.out.size)
                  have HB3 : Hid (Below w.heap.size w w3) := below_step HBQ.out HBQ.out.size (HB2.out.trans hb3)
                  clear hb3 hrow3
                  go_wp2
                  exact ⟨⟨b0 + 1, _, _, _, by omega, by go_num, rfl, by rw [HE2.out]; exact HO2L, by rw [HE2.out]; exact HR3, HB3⟩, by simp [intOf]; omega⟩
                · go_wp2_with (at_builtin; refine append_pts rfl _ _ rfl wq.heap.size g2 cap2 (0 + 1) (out.take (0) ++ [p]) HTL2.out rfl HRW2.out (some ⟨g, (0) * 2, none⟩) _ (L - (0)) (out.drop (0)) HTD.out rfl HS8.out (L + 1) (by omega) (by omega) ?_; intro g3 cap3 w3 hrow3 hb3; refine Hid.out ?_)
                  refine Lib.hid ?_
                  have HR3 : Hid (RowP w3 w.heap.size (.slice (some ⟨g3, 0, none⟩) (L + 1) cap3) out2) := by
                    rw [HNW.out]
                    exact Lib.hid (hrow3.mono HBQ.out.size)
                  have HB3 : Hid (Below w.heap.size w w3) := below_step HBQ.out HBQ.out.size (HB2.out.trans hb3)
                  clear hb3 hrow3
                  go_wp2
                  exact ⟨⟨b0 + 1, _, _, _, by omega, by go_num, rfl, by rw [HE2.out]; exact HO2L, by rw [HE2.out]; exact HR3, HB3⟩, by simp [intOf]; omega⟩
              · obtain ⟨j, rfl⟩ : ∃ j, k = j + 1 := ⟨k - 1, by omega⟩
                have hng : gtP (out.getD j pz) p = false := by
                  cases h : gtP (out.getD j pz) p
                  · rfl
                  · exact absurd ⟨j, rfl, h⟩ hgo
                have HPE : Hid (placeP out p L = j + 1) := by
                  rw [HPL.out, placeP_not hng]
                  exact Lib.hid rfl
                obtain ⟨n1, n2⟩ := gtP_no hng
                obtain ⟨b3, o3, hb3, hz3, d0, d1⟩ := HO5.out.at HY.out (show j < out.length by rw [HL.out]; omega)
                injection hb3 with hb3
                injection hb3 with hb3 ho3
                subst hb3 ho3
                rw [Nat.zero_add] at d0 d1
                have i5 : (0 : Int) ≤ (j : Int) := by omega
                have i6 : (j : Int) < (L : Int) := by omega
                have i7 : decide (0 < j + 1) = true := by simp
                clear hng
                generalize out.getD j pz = y at *
                by_cases h2 : y.t = p.t
                · have h3 : ¬ p.n < y.n := fun h => n2 ⟨h2, h⟩
                  obtain ⟨yt, yn⟩ := y
                  simp only at n1 h2 h3 d0 d1
                  subst h2
                  go_wp2_with fail
                  have gd0 := aft_cell hz3 d0
                  have gd1 := aft_cell hz3 d1
                  have gp0 := aft_cell hBy hp0
                  have gp1 := aft_cell hBy hp1
                  have ne := aft_some wr
                  refine wp_region_aft (by kernel_rfl) (by kernel_rfl) ?_
                  repeat (first | go_big_quiet_step (fail))
                  refine wpQuiet_nil ?_
                  intro wq hq
                  have HYQ : Hid (Below W5.heap.size W5 wq) := below_step HY.out HY.out.size hq
                  clear hq
                  clear gd0 gd1 gp1 d0 d1
                  have HRQ := Lib.hid (HR5.out.below HYQ.out)
                  have HBQ : Hid (Below w.heap.size w wq) := below_step HB5.out HB5.out.size HYQ.out
                  have HOQ := Lib.hid (HO5.out.below HYQ.out)
                  have hBq : B < wq.heap.size := Nat.lt_of_lt_of_le hB5l HYQ.out.size
                  have HPA : Hid (wq.cell? ⟨B, 0, none⟩ = some (.int .i64 p.t)) := held_cell HYQ.out HP0.out hB5l
                  have HPB : Hid (wq.cell? ⟨B, 1, none⟩ = some (.int .i64 p.n)) := held_cell HYQ.out HP1.out hB5l
                  have hkc : (j + 1) ≤ cp := Nat.le_trans hk (rowP_room HRQ.out).1
                  have HNW : Hid (out2 = out.take ((j + 1)) ++ [p] ++ out.drop ((j + 1))) := by
                    rw [HNX.out]
                    unfold insP putAt
                    rw [HL.out, HPE.out]
                    simp [Hid]
                  have HO2L : Hid (out2.length = L + 1) := by rw [HNX.out, HIL.out, HL.out]; exact Lib.hid rfl
                  have HTL : Hid ((out.take ((j + 1))).length = (j + 1)) := by rw [List.length_take, HL.out]; exact Nat.min_eq_left hk
                  have HTD : Hid ((out.drop ((j + 1))).length = L - ((j + 1))) := by rw [List.length_drop, HL.out]; exact Lib.hid rfl
                  obtain ⟨W6, hW6⟩ : ∃ W6, wq.alloc (.cells #[] 32) = W6 := ⟨_, rfl⟩
                  have hb6 : Below wq.heap.size wq W6 := by rw [← hW6]; exact (Below.refl _ _).alloc (Nat.le_refl _) _
                  have HR6 : Hid (RowP W6 wq.heap.size (.slice (some ⟨wq.heap.size, 0, none⟩) 0 0) []) := by rw [← hW6]; exact Lib.hid (World.ownsRow_made wq #[] 0 (Nat.le_refl _) (by simp [maxLen]) (by simp))
                  have HS6 := Lib.hid ((HOQ.out.below hb6).take ((j + 1)))
                  have HB6 := Lib.hid hb6
                  clear hb6 gp0  hp0 hp1
                  have g0 : (0 : Int) ≤ (((j + 1) : Nat) : Int) := by omega
                  have g1' : (((j + 1) : Nat) : Int) ≤ (L : Int) := by omega
                  go_wp2_with (at_builtin; refine append_pts rfl _ _ rfl wq.heap.size wq.heap.size 0 0 [] rfl rfl HR6.out (some ⟨g, 0, none⟩) cp ((j + 1)) (out.take ((j + 1))) HTL.out rfl HS6.out ((j + 1)) (by omega) (by omega) ?_; intro g1 cap1 w1 hrow1 hb1; refine Hid.out ?_)
                  refine Lib.hid ?_
                  have HB1 : Hid (Below wq.heap.size wq w1) := HB6.out.trans hb1
                  have HRW1 : Hid (RowP w1 wq.heap.size (.slice (some ⟨g1, 0, none⟩) ((j + 1)) cap1) (out.take ((j + 1)))) := hrow1
                  have q0 : w1.cell? ⟨B, 0, none⟩ = some (.int .i64 p.t) := held_cell HB1.out HPA.out hBq
                  have q1 : w1.cell? ⟨B, 1, none⟩ = some (.int .i64 p.n) := held_cell HB1.out HPB.out hBq
                  obtain ⟨W7, hW7⟩ : ∃ W7, w1.alloc (.cells #[.int .i64 p.t, .int .i64 p.n] 32) = W7 := ⟨_, rfl⟩
                  have hb7 : Below w1.heap.size w1 W7 := by rw [← hW7]; exact (Below.refl _ _).alloc (Nat.le_refl _) _
                  have HR7 := Lib.hid (HRW1.out.below hb7)
                  have HS7 : Hid (IsPts W7 (some ⟨w1.heap.size, 0, none⟩) [p]) := by rw [← hW7]; exact Lib.hid (isPts_one w1 p)
                  have HB7 : Hid (Below wq.heap.size wq W7) := HB1.out.trans (hb7.mono HB1.out.size)
                  clear hb1 hrow1 hb7 hW6
                  go_wp2_with (at_builtin; refine append_pts rfl _ _ rfl wq.heap.size g1 cap1 ((j + 1)) (out.take ((j + 1))) HTL.out rfl HR7.out (some ⟨w1.heap.size, 0, none⟩) 1 1 [p] rfl rfl HS7.out ((j + 1) + 1) rfl (by omega) ?_; intro g2 cap2 w2 hrow2 hb2; refine Hid.out ?_)
                  refine Lib.hid ?_
                  have HB2 : Hid (Below wq.heap.size wq w2) := HB7.out.trans hb2
                  have HRW2 := Lib.hid hrow2
                  have HS8 := Lib.hid ((HOQ.out.below HB2.out).drop ((j + 1)))
                  have HTL2 : Hid ((out.take ((j + 1)) ++ [p]).length = (j + 1) + 1) := by rw [List.length_append, HTL.out]; exact Lib.hid rfl
                  clear hb2 hrow2 hW7 q0 q1
                  by_cases hcpk : cp = (j + 1)
                  · have HLK : Hid (L = (j + 1)) := by have := (rowP_room HRQ.out).1; exact Lib.hid (by omega)
                    have HSN : Hid (IsPts w2 (some ⟨g, 0, none⟩) (out.drop ((j + 1)))) := .inl (List.eq_nil_of_length_eq_zero (by rw [HTD.out]; have := HLK.out; omega))
                    go_wp2_with (at_builtin; refine append_pts rfl _ _ rfl wq.heap.size g2 cap2 ((j + 1) + 1) (out.take ((j + 1)) ++ [p]) HTL2.out rfl HRW2.out (some ⟨g, 0, none⟩) _ (L - ((j + 1))) (out.drop ((j + 1))) HTD.out rfl HSN.out (L + 1) (by omega) (by omega) ?_; intro g3 cap3 w3 hrow3 hb3; refine Hid.out ?_)
                    refine Lib.hid ?_
                    have HR3 : Hid (RowP w3 w.heap.size (.slice (some ⟨g3, 0, none⟩) (L + 1) cap3) out2) := by
                      rw [HNW.out]
                      exact Lib.hid (hrow3.mono HBQ.out.size)
                    have HB3 : Hid (Below w.heap.size w w3) := below_step HBQ.out HBQ.out.size (HB2.out.trans hb3)
                    clear hb3 hrow3
                    go_wp2
                    exact ⟨⟨b0 + 1, _, _, _, by omega, by go_num, rfl, by rw [HE2.out]; exact HO2L, by rw [HE2.out]; exact HR3, HB3⟩, by simp [intOf]; omega⟩
                  · go_wp2_with (at_builtin; refine append_pts rfl _ _ rfl wq.heap.size g2 cap2 ((j + 1) + 1) (out.take ((j + 1)) ++ [p]) HTL2.out rfl HRW2.out (some ⟨g, ((j + 1)) * 2, none⟩) _ (L - ((j + 1))) (out.drop ((j + 1))) HTD.out rfl HS8.out (L + 1) (by omega) (by omega) ?_; intro g3 cap3 w3 hrow3 hb3; refine Hid.out ?_)
                    refine Lib.hid ?_
                    have HR3 : Hid (RowP w3 w.heap.size (.slice (some ⟨g3, 0, none⟩) (L + 1) cap3) out2) := by
                      rw [HNW.out]
                      exact Lib.hid (hrow3.mono HBQ.out.size)
                    have HB3 : Hid (Below w.heap.size w w3) := below_step HBQ.out HBQ.out.size (HB2.out.trans hb3)
                    clear hb3 hrow3
                    go_wp2
                    exact ⟨⟨b0 + 1, _, _, _, by omega, by go_num, rfl, by rw [HE2.out]; exact HO2L, by rw [HE2.out]; exact HR3, HB3⟩, by simp [intOf]; omega⟩
                · have h3 : y.t < p.t := by omega
                  have h4 : (y.t == p.t) = false := by simpa using h2
                  have h5 : decide (p.t < y.t) = false := decide_eq_false n1
                  go_wp2_with fail
                  have gd0 := aft_cell hz3 d0
                  have gd1 := aft_cell hz3 d1
                  have gp0 := aft_cell hBy hp0
                  have gp1 := aft_cell hBy hp1
                  have ne := aft_some wr
                  refine wp_region_aft (by kernel_rfl) (by kernel_rfl) ?_
                  repeat (first | go_big_quiet_step (fail))
                  refine wpQuiet_nil ?_
                  intro wq hq
                  have HYQ : Hid (Below W5.heap.size W5 wq) := below_step HY.out HY.out.size hq
                  clear hq
                  clear gd0 gd1 gp1 d0 d1
                  have HRQ := Lib.hid (HR5.out.below HYQ.out)
                  have HBQ : Hid (Below w.heap.size w wq) := below_step HB5.out HB5.out.size HYQ.out
                  have HOQ := Lib.hid (HO5.out.below HYQ.out)
                  have hBq : B < wq.heap.size := Nat.lt_of_lt_of_le hB5l HYQ.out.size
                  have HPA : Hid (wq.cell? ⟨B, 0, none⟩ = some (.int .i64 p.t)) := held_cell HYQ.out HP0.out hB5l
                  have HPB : Hid (wq.cell? ⟨B, 1, none⟩ = some (.int .i64 p.n)) := held_cell HYQ.out HP1.out hB5l
                  have hkc : (j + 1) ≤ cp := Nat.le_trans hk (rowP_room HRQ.out).1
                  have HNW : Hid (out2 = out.take ((j + 1)) ++ [p] ++ out.drop ((j + 1))) := by
                    rw [HNX.out]
                    unfold insP putAt
                    rw [HL.out, HPE.out]
                    simp [Hid]
                  have HO2L : Hid (out2.length = L + 1) := by rw [HNX.out, HIL.out, HL.out]; exact Lib.hid rfl
                  have HTL : Hid ((out.take ((j + 1))).length = (j + 1)) := by rw [List.length_take, HL.out]; exact Nat.min_eq_left hk
                  have HTD : Hid ((out.drop ((j + 1))).length = L - ((j + 1))) := by rw [List.length_drop, HL.out]; exact Lib.hid rfl
                  obtain ⟨W6, hW6⟩ : ∃ W6, wq.alloc (.cells #[] 32) = W6 := ⟨_, rfl⟩
                  have hb6 : Below wq.heap.size wq W6 := by rw [← hW6]; exact (Below.refl _ _).alloc (Nat.le_refl _) _
                  have HR6 : Hid (RowP W6 wq.heap.size (.slice (some ⟨wq.heap.size, 0, none⟩) 0 0) []) := by rw [← hW6]; exact Lib.hid (World.ownsRow_made wq #[] 0 (Nat.le_refl _) (by simp [maxLen]) (by simp))
                  have HS6 := Lib.hid ((HOQ.out.below hb6).take ((j + 1)))
                  have HB6 := Lib.hid hb6
                  clear hb6 gp0  hp0 hp1
                  have g0 : (0 : Int) ≤ (((j + 1) : Nat) : Int) := by omega
                  have g1' : (((j + 1) : Nat) : Int) ≤ (L : Int) := by omega
                  go_wp2_with (at_builtin; refine append_pts rfl _ _ rfl wq.heap.size wq.heap.size 0 0 [] rfl rfl HR6.out (some ⟨g, 0, none⟩) cp ((j + 1)) (out.take ((j + 1))) HTL.out rfl HS6.out ((j + 1)) (by omega) (by omega) ?_; intro g1 cap1 w1 hrow1 hb1; refine Hid.out ?_)
                  refine Lib.hid ?_
                  have HB1 : Hid (Below wq.heap.size wq w1) := HB6.out.trans hb1
                  have HRW1 : Hid (RowP w1 wq.heap.size (.slice (some ⟨g1, 0, none⟩) ((j + 1)) cap1) (out.take ((j + 1)))) := hrow1
                  have q0 : w1.cell? ⟨B, 0, none⟩ = some (.int .i64 p.t) := held_cell HB1.out HPA.out hBq
                  have q1 : w1.cell? ⟨B, 1, none⟩ = some (.int .i64 p.n) := held_cell HB1.out HPB.out hBq
                  obtain ⟨W7, hW7⟩ : ∃ W7, w1.alloc (.cells #[.int .i64 p.t, .int .i64 p.n] 32) = W7 := ⟨_, rfl⟩
                  have hb7 : Below w1.heap.size w1 W7 := by rw [← hW7]; exact (Below.refl _ _).alloc (Nat.le_refl _) _
                  have HR7 := Lib.hid (HRW1.out.below hb7)
                  have HS7 : Hid (IsPts W7 (some ⟨w1.heap.size, 0, none⟩) [p]) := by rw [← hW7]; exact Lib.hid (isPts_one w1 p)
                  have HB7 : Hid (Below wq.heap.size wq W7) := HB1.out.trans (hb7.mono HB1.out.size)
                  clear hb1 hrow1 hb7 hW6
                  go_wp2_with (at_builtin; refine append_pts rfl _ _ rfl wq.heap.size g1 cap1 ((j + 1)) (out.take ((j + 1))) HTL.out rfl HR7.out (some ⟨w1.heap.size, 0, none⟩) 1 1 [p] rfl rfl HS7.out ((j + 1) + 1) rfl (by omega) ?_; intro g2 cap2 w2 hrow2 hb2; refine Hid.out ?_)
                  refine Lib.hid ?_
                  have HB2 : Hid (Below wq.heap.size wq w2) := HB7.out.trans hb2
                  have HRW2 := Lib.hid hrow2
                  have HS8 := Lib.hid ((HOQ.out.below HB2.out).drop ((j + 1)))
                  have HTL2 : Hid ((out.take ((j + 1)) ++ [p]).length = (j + 1) + 1) := by rw [List.length_append, HTL.out]; exact Lib.hid rfl
                  clear hb2 hrow2 hW7 q0 q1
                  by_cases hcpk : cp = (j + 1)
                  · have HLK : Hid (L = (j + 1)) := by have := (rowP_room HRQ.out).1; exact Lib.hid (by omega)
                    have HSN : Hid (IsPts w2 (some ⟨g, 0, none⟩) (out.drop ((j + 1)))) := .inl (List.eq_nil_of_length_eq_zero (by rw [HTD.out]; have := HLK.out; omega))
                    go_wp2_with (at_builtin; refine append_pts rfl _ _ rfl wq.heap.size g2 cap2 ((j + 1) + 1) (out.take ((j + 1)) ++ [p]) HTL2.out rfl HRW2.out (some ⟨g, 0, none⟩) _ (L - ((j + 1))) (out.drop ((j + 1))) HTD.out rfl HSN.out (L + 1) (by omega) (by omega) ?_; intro g3 cap3 w3 hrow3 hb3; refine Hid.out ?_)
                    refine Lib.hid ?_
                    have HR3 : Hid (RowP w3 w.heap.size (.slice (some ⟨g3, 0, none⟩) (L + 1) cap3) out2) := by
                      rw [HNW.out]
                      exact Lib.hid (hrow3.mono HBQ.out.size)
                    have HB3 : Hid (Below w.heap.size w w3) := below_step HBQ.out HBQ.out.size (HB2.out.trans hb3)
                    clear hb3 hrow3
                    go_wp2
                    exact ⟨⟨b0 + 1, _, _, _, by omega, by go_num, rfl, by rw [HE2.out]; exact HO2L, by rw [HE2.out]; exact HR3, HB3⟩, by simp [intOf]; omega⟩
                  · go_wp2_with (at_builtin; refine append_pts rfl _ _ rfl wq.heap.size g2 cap2 ((j + 1) + 1) (out.take ((j + 1)) ++ [p]) HTL2.out rfl HRW2.out (some ⟨g, ((j + 1)) * 2, none⟩) _ (L - ((j + 1))) (out.drop ((j + 1))) HTD.out rfl HS8.out (L + 1) (by omega) (by omega) ?_; intro g3 cap3 w3 hrow3 hb3; refine Hid.out ?_)
                    refine Lib.hid ?_
                    have HR3 : Hid (RowP w3 w.heap.size (.slice (some ⟨g3, 0, none⟩) (L + 1) cap3) out2) := by
                      rw [HNW.out]
                      exact Lib.hid (hrow3.mono HBQ.out.size)
                    have HB3 : Hid (Below w.heap.size w w3) := below_step HBQ.out HBQ.out.size (HB2.out.trans hb3)
                    clear hb3 hrow3
                    go_wp2
                    exact ⟨⟨b0 + 1, _, _, _, by omega, by go_num, rfl, by rw [HE2.out]; exact HO2L, by rw [HE2.out]; exact HR3, HB3⟩, by simp [intOf]; omega⟩
        · have hbe : b0 = V := by omega
          subst hbe
          rw [← ptsPre_row zs b0 a0 (by rw [HN.out]; exact ha')] at HL HR
          go_wp2
          exact ⟨⟨a0 + 1, _, _, _, by omega, by go_num, rfl, HL, HR, HB⟩, by simp [intOf]; omega⟩
    · have hae : n ≤ a0 := by omega
      rw [ptsPre_all zs V a0 (by rw [HN.out]; exact hae)] at HR
      go_wp2
      go_ret
      exact ⟨_, rfl, HR.out, HB.out⟩

end Go.Proofs.YtofejfmfbifphacDoor
