/- At every two codes the law FnTagOrder answers true: of two drawn tags one comes ahead or they are the same, what is ahead of what is ahead of a third is ahead of it, and so of drawn writes. No conditions. -/
import Derived.Test.YtjonmjgegkdceabDrawWrite
import Derived.Test.YtjonmjgegkdceabPlainO
import Derived.Test.YtjonmjgegkdceabWriteCmp1
import Derived.Deep.DeepCutAuto
namespace Go.Proofs.Ytjonmjgegkdceab.lawTagOrder
open Go.ChangeShapes Go.WideShapes Go.ChangeAt Go.RowKit Go.Joins
attribute [local go_sem ↓] Go.wp_at_zero Go.wp_at_succ

theorem big_is (a : Option Addr) (len cap : Nat) (r : Bool) (h : decide (1048576 < len) = r) (hm : len ≤ maxLen) (w : World) :
    Calls Try.prog 4 #[.slice a len cap] w fun e w' => e = .returned (.bool r) ∧ w' = w := by
  unfold maxLen at hm
  cases r
  · have h' : len ≤ 1048576 := by simpa using h
    clear h
    go_enter Try.func4, Try.ntmps4
    go_wp2
    go_ret
    exact ⟨by simp; omega, rfl⟩
  · have h' : 1048576 < len := by simpa using h
    clear h
    go_enter Try.func4, Try.ntmps4
    go_wp2
    go_ret
    exact ⟨by simp; omega, rfl⟩

theorem open_bytes {H : Type} {enc : TypeId × Value → H} {w : World} {base b0 : Nat} {held : Bool} {r : Reach} {v : Value} {d : DataW H} {p : List MemPlace} (hv : Value.okWide Try.prog w r b0 22 v) (h : DataW.Trod enc Try.prog w base (fun _ => true) held 22 v d p) :
    ∃ (a : Option Addr) (len cap : Nat), v = .slice a len cap ∧ (len ≤ maxLen ∧ Bytes w a len) := by
  obtain ⟨a, len, cap, rfl⟩ := okWide_slice Try.underlying22 hv
  obtain ⟨fuel, hf⟩ := h
  refine ⟨a, len, cap, rfl, ?_⟩
  rcases open_ints Try.underlying22 Try.underlying5 (by kernel_rfl) hf with ⟨hcs, _⟩ | ⟨x, l, c, zs, hcs, _, hl, hm, hz, _, hcell, hwz⟩
  · simp [Value.cells] at hcs
    obtain ⟨rfl, rfl, rfl⟩ := hcs
    exact ⟨Nat.zero_le _, .inl rfl⟩
  · simp [Value.cells] at hcs
    obtain ⟨rfl, rfl, rfl⟩ := hcs
    refine ⟨by omega, ?_⟩
    by_cases h0 : len = 0
    · exact .inl h0
    · have hzl : zs.length = cap := by simpa using hz
      have hx : x = ⟨x.block, x.off, none⟩ := by
        have h1 := hcell 0 (by omega)
        simp [Addr.add] at h1
        cases x with
        | mk b o s =>
          cases s with
          | none => rfl
          | some s =>
            simp only [World.cell?] at h1
            split at h1 <;> simp at h1
      refine .inr ⟨x.block, x.off, by rw [← hx], ?_, fun i hi => ?_⟩
      · have h1 := hcell 0 (by omega)
        have := World.block_lt_of_cell? w _ h1
        simpa [Addr.add] using this
      · have h1 := hcell i (by omega)
        have hw : (Lit.int .u8 (zs.getD i 0)).wf = true := hwz _ (by rw [List.getD_eq_getElem?_getD, List.getElem?_eq_getElem (by omega)]; exact List.getElem_mem _)
        have hb := bounds_u8 hw
        refine ⟨zs.getD i 0, hb.1, hb.2, ?_⟩
        rw [hx] at h1
        have e : (Addr.mk x.block x.off none).add i = ⟨x.block, x.off + i, none⟩ := by
          unfold Addr.add
          split
          · rename_i h
            rw [h]
            rfl
          · rfl
        rw [e] at h1
        exact h1

set_option maxHeartbeats 1000000 in
theorem walk_big (a : Option Addr) (len cap : Nat) (a' : Option Addr) (len' cap' : Nat) (w : World) (hm : len ≤ maxLen) (hm' : len' ≤ maxLen) (h : 1048576 < len ∨ 1048576 < len') :
    Calls Try.prog 3 #[.slice a len cap, .slice a' len' cap'] w fun e w' => e = .returned (.bool true) ∧ Below w.heap.size w w' := by
  by_cases h1 : 1048576 < len
  · have d1 : decide (1048576 < len) = true := by simpa using h1
    clear h h1
    go_enter Try.func3, Try.ntmps3
    go_wp2_with (go_at_call 4; refine (big_is _ _ _ true d1 hm _).mono ?_; rintro e w1 ⟨rfl, rfl⟩)
    go_ret
    exact ⟨rfl, Below.refl _ _⟩
  · have d1 : decide (1048576 < len) = false := by simpa using h1
    have d2 : decide (1048576 < len') = true := by simp; omega
    clear h h1
    go_enter Try.func3, Try.ntmps3
    go_wp2_with fail
    refine (big_is _ _ _ false d1 hm _).mono ?_
    rintro e w1 ⟨rfl, rfl⟩
    go_wp2_with fail
    refine (big_is _ _ _ true d2 hm' _).mono ?_
    rintro e w2 ⟨rfl, rfl⟩
    go_wp2
    go_ret
    exact ⟨rfl, Below.refl _ _⟩

theorem two_boxes {w : World} (c s q c' s' q' : Int) (t : Nat) : TagBox ((w.alloc (.cells #[.int .i64 c, .int .i64 s, .int .i64 q] t)).alloc (.cells #[.int .i64 c', .int .i64 s', .int .i64 q'] t)) w.heap.size c s q ∧ TagBox ((w.alloc (.cells #[.int .i64 c, .int .i64 s, .int .i64 q] t)).alloc (.cells #[.int .i64 c', .int .i64 s', .int .i64 q'] t)) (w.heap.size + 1) c' s' q' := by
  have h := TagBox.start (w.alloc (.cells #[.int .i64 c, .int .i64 s, .int .i64 q] t)) c' s' q' t
  have e : (w.alloc (.cells #[.int .i64 c, .int .i64 s, .int .i64 q] t)).heap.size = w.heap.size + 1 := by simp
  rw [e] at h
  exact ⟨(TagBox.start w c s q t).hole (Hole.of_below (B := w.heap.size + 2) ((Below.refl _ _).alloc (Nat.le_refl _) _)) (by omega), h⟩
theorem below_box {w w' : World} {b : Nat} {c s q : Int} (h : TagBox w b c s q) (hb : Below w.heap.size w w') : TagBox w' b c s q := h.hole (Hole.of_below (B := b + 1) hb) (by omega)

theorem implTagCmp_is (c s q c' s' q' x : Int) (h : tcmp c s q c' s' q' = x) (w : World) :
    Calls Try.prog 6 #[tagV c s q, tagV c' s' q'] w fun e w' => e = .returned (.int .i64 x) ∧ Below w.heap.size w w' := by
  subst h
  exact implTagCmp_any c s q c' s' q' w
theorem specTagCmp_is (c s q c' s' q' x : Int) (h : tcmp c s q c' s' q' = x) (w : World) :
    Calls Try.prog 7 #[tagV c s q, tagV c' s' q'] w fun e w' => e = .returned (.int .i64 x) ∧ Below w.heap.size w w' := by
  subst h
  exact specTagCmp_any c s q c' s' q' w

theorem two_wboxes {w : World} (k c s q v : Int) (de : Bool) (x : Option Addr) (len cap : Nat) (k' c' s' q' v' : Int) (de' : Bool) (x' : Option Addr) (len' cap' : Nat) (t : Nat) : WBox ((w.alloc (.cells #[.int .i64 k, .int .i64 c, .int .i64 s, .int .i64 q, .int .i64 v, .bool de, .slice x len cap] t)).alloc (.cells #[.int .i64 k', .int .i64 c', .int .i64 s', .int .i64 q', .int .i64 v', .bool de', .slice x' len' cap'] t)) w.heap.size k c s q v de x len cap ∧ WBox ((w.alloc (.cells #[.int .i64 k, .int .i64 c, .int .i64 s, .int .i64 q, .int .i64 v, .bool de, .slice x len cap] t)).alloc (.cells #[.int .i64 k', .int .i64 c', .int .i64 s', .int .i64 q', .int .i64 v', .bool de', .slice x' len' cap'] t)) (w.heap.size + 1) k' c' s' q' v' de' x' len' cap' := by
  have h := WBox.start (w.alloc (.cells #[.int .i64 k, .int .i64 c, .int .i64 s, .int .i64 q, .int .i64 v, .bool de, .slice x len cap] t)) k' c' s' q' v' de' x' len' cap' t
  have e : (w.alloc (.cells #[.int .i64 k, .int .i64 c, .int .i64 s, .int .i64 q, .int .i64 v, .bool de, .slice x len cap] t)).heap.size = w.heap.size + 1 := by simp
  rw [e] at h
  exact ⟨(WBox.start w k c s q v de x len cap t).hole (Hole.of_below (B := w.heap.size + 2) ((Below.refl _ _).alloc (Nat.le_refl _) _)) (by omega), h⟩
theorem below_wbox {w w' : World} {b : Nat} {k c s q v : Int} {de : Bool} {x : Option Addr} {len cap : Nat} (h : WBox w b k c s q v de x len cap) (hb : Below w.heap.size w w') : WBox w' b k c s q v de x len cap := h.hole (Hole.of_below (B := b + 1) hb) (by omega)

theorem implWriteCmp_is (x : Int) (k c s q v : Int) (de : Bool) (g : Nat) (xs : List Dp) (cap : Nat) (k' c' s' q' v' : Int) (de' : Bool) (g' : Nat) (ys : List Dp) (cap' : Nat) (h : wcmp k c s q v de xs k' c' s' q' v' de' ys = x) (w : World)
    (hn : xs.length ≤ 7) (hm : ys.length ≤ 7) (hlt : g < w.heap.size) (hlt' : g' < w.heap.size) (hh : HoldsDeps w g 0 xs) (hh' : HoldsDeps w g' 0 ys) :
    Calls Try.prog 9 #[wrV k c s q v de (some ⟨g, 0, none⟩) xs.length cap, wrV k' c' s' q' v' de' (some ⟨g', 0, none⟩) ys.length cap'] w fun e w' => e = .returned (.int .i64 x) ∧ Below w.heap.size w w' := by
  subst h
  exact implWriteCmp_any k c s q v de g xs _ cap k' c' s' q' v' de' g' ys _ cap' w rfl rfl (by omega) (by omega) hlt hlt' hh hh'
theorem specWriteCmp_is (x : Int) (k c s q v : Int) (de : Bool) (g : Nat) (xs : List Dp) (cap : Nat) (k' c' s' q' v' : Int) (de' : Bool) (g' : Nat) (ys : List Dp) (cap' : Nat) (h : wcmp k c s q v de xs k' c' s' q' v' de' ys = x) (w : World)
    (hn : xs.length ≤ 7) (hm : ys.length ≤ 7) (hlt : g < w.heap.size) (hlt' : g' < w.heap.size) (hh : HoldsDeps w g 0 xs) (hh' : HoldsDeps w g' 0 ys) :
    Calls Try.prog 10 #[wrV k c s q v de (some ⟨g, 0, none⟩) xs.length cap, wrV k' c' s' q' v' de' (some ⟨g', 0, none⟩) ys.length cap'] w fun e w' => e = .returned (.int .i64 x) ∧ Below w.heap.size w w' := by
  subst h
  exact specWriteCmp_any k c s q v de g xs _ cap k' c' s' q' v' de' g' ys _ cap' w rfl rfl (by omega) (by omega) hlt hlt' hh hh'

set_option maxRecDepth 100000 in
set_option maxHeartbeats 8000000 in
theorem walk_small (a : Option Addr) (len cap : Nat) (a' : Option Addr) (len' cap' : Nat) (w : World) (hy : Bytes w a len) (hy' : Bytes w a' len') (hl : len ≤ 1048576) (hl' : len' ≤ 1048576) :
    Calls Try.prog 3 #[.slice a len cap, .slice a' len' cap'] w fun e w' => e = .returned (.bool true) ∧ Below w.heap.size w w' := by
  have HY : Hid (Bytes w a len) := hy
  have HY' : Hid (Bytes w a' len') := hy'
  have d1 : decide (1048576 < len) = false := by simp; omega
  have d2 : decide (1048576 < len') = false := by simp; omega
  clear hy hy'
  go_enter Try.func3, Try.ntmps3
  go_wp2_with fail
  refine (big_is _ _ _ false d1 (by unfold maxLen; omega) _).mono ?_
  rintro e w0 ⟨rfl, rfl⟩
  go_wp2_with fail
  refine (big_is _ _ _ false d2 (by unfold maxLen; omega) _).mono ?_
  rintro e w0' ⟨rfl, rfl⟩
  clear d1 d2
  go_wp2_with fail
  refine (drawTagCmp_any _ _ _ _ HY.out hl).mono ?_
  rintro e w1 ⟨c1, s1, q1, c2, s2, q2, rfl, hb1⟩
  have HB1 : Hid (Below w0'.heap.size w0' w1) := hb1
  clear hb1
  go_wp2_with fail
  have HA : Hid (Below w1.heap.size w1 ((w1.alloc (.cells #[.int .i64 c1, .int .i64 s1, .int .i64 q1] 25)).alloc (.cells #[.int .i64 c2, .int .i64 s2, .int .i64 q2] 25))) := ((Below.refl _ _).alloc (Nat.le_refl _) _).alloc (by simp) _
  have HX : Hid (TagBox ((w1.alloc (.cells #[.int .i64 c1, .int .i64 s1, .int .i64 q1] 25)).alloc (.cells #[.int .i64 c2, .int .i64 s2, .int .i64 q2] 25)) w1.heap.size c1 s1 q1 ∧ TagBox ((w1.alloc (.cells #[.int .i64 c1, .int .i64 s1, .int .i64 q1] 25)).alloc (.cells #[.int .i64 c2, .int .i64 s2, .int .i64 q2] 25)) (w1.heap.size + 1) c2 s2 q2) := two_boxes c1 s1 q1 c2 s2 q2 _
  refine (drawTagCmp_any _ _ _ _ (HY'.out.below (below_step HB1.out HB1.out.size HA.out)) hl').mono ?_
  rintro e w2 ⟨c3, s3, q3, c4, s4, q4, rfl, hb2⟩
  have HB2 : Hid (Below w0'.heap.size w0' w2) := below_step (below_step HB1.out HB1.out.size HA.out) (by have := HB1.out.size; have := HA.out.size; omega) hb2
  have HX1 : Hid (TagBox w2 w1.heap.size c1 s1 q1) := below_box HX.out.1 hb2
  have HX2 : Hid (TagBox w2 (w1.heap.size + 1) c2 s2 q2) := below_box HX.out.2 hb2
  clear hb2 HX HA HB1
  go_upto_region 5 with fail
  have HA : Hid (Below w2.heap.size w2 ((w2.alloc (.cells #[.int .i64 c3, .int .i64 s3, .int .i64 q3] 25)).alloc (.cells #[.int .i64 c4, .int .i64 s4, .int .i64 q4] 25))) := ((Below.refl _ _).alloc (Nat.le_refl _) _).alloc (by simp) _
  have HB3 : Hid (Below w0'.heap.size w0' ((w2.alloc (.cells #[.int .i64 c3, .int .i64 s3, .int .i64 q3] 25)).alloc (.cells #[.int .i64 c4, .int .i64 s4, .int .i64 q4] 25))) := below_step HB2.out HB2.out.size HA.out
  have HX3 : Hid (TagBox ((w2.alloc (.cells #[.int .i64 c3, .int .i64 s3, .int .i64 q3] 25)).alloc (.cells #[.int .i64 c4, .int .i64 s4, .int .i64 q4] 25)) w2.heap.size c3 s3 q3) := (two_boxes c3 s3 q3 c4 s4 q4 _).1
  have HY1 : Hid (TagBox ((w2.alloc (.cells #[.int .i64 c3, .int .i64 s3, .int .i64 q3] 25)).alloc (.cells #[.int .i64 c4, .int .i64 s4, .int .i64 q4] 25)) w1.heap.size c1 s1 q1) := below_box HX1.out HA.out
  have HY2 : Hid (TagBox ((w2.alloc (.cells #[.int .i64 c3, .int .i64 s3, .int .i64 q3] 25)).alloc (.cells #[.int .i64 c4, .int .i64 s4, .int .i64 q4] 25)) (w1.heap.size + 1) c2 s2 q2) := below_box HX2.out HA.out
  clear HA HX1 HX2 HB2
  generalize ((w2.alloc (.cells #[.int .i64 c3, .int .i64 s3, .int .i64 q3] 25)).alloc (.cells #[.int .i64 c4, .int .i64 s4, .int .i64 q4] 25)) = W at *
  have ge0 := aft_cell HY1.out.lt HY1.out.c0
  have ge1 := aft_cell HY1.out.lt HY1.out.c1
  have ge2 := aft_cell HY1.out.lt HY1.out.c2
  have gf0 := aft_cell HY2.out.lt HY2.out.c0
  have gf1 := aft_cell HY2.out.lt HY2.out.c1
  have gf2 := aft_cell HY2.out.lt HY2.out.c2
  have gg0 := aft_cell HX3.out.lt HX3.out.c0
  have gg1 := aft_cell HX3.out.lt HX3.out.c1
  have gg2 := aft_cell HX3.out.lt HX3.out.c2
  have ne := aft_some W
  refine wp_region_aft (by kernel_rfl) (by kernel_rfl) ?_
  repeat (first | go_big_quiet_step ((go_at_call 6; exact aft_of (implTagCmp_any _ _ _ _ _ _ _))))
  refine wpQuiet_nil ?_
  intro wq hq
  have HB4 : Hid (Below w0'.heap.size w0' wq) := below_step HB3.out HB3.out.size hq
  have HZ1 : Hid (TagBox wq w1.heap.size c1 s1 q1) := below_box HY1.out hq
  have HZ2 : Hid (TagBox wq (w1.heap.size + 1) c2 s2 q2) := below_box HY2.out hq
  clear hq HB3 HX3 HY1 HY2 ge0 ge1 ge2 gf0 gf1 gf2 gg0 gg1 gg2 ne
  have bx1 := (tcmp_bd c1 s1 q1 c2 s2 q2).1
  have bx2 := (tcmp_bd c1 s1 q1 c2 s2 q2).2
  have by1 := (tcmp_bd c2 s2 q2 c3 s3 q3).1
  have by2 := (tcmp_bd c2 s2 q2 c3 s3 q3).2
  have bz1 := (tcmp_bd c1 s1 q1 c3 s3 q3).1
  have bz2 := (tcmp_bd c1 s1 q1 c3 s3 q3).2
  have HT : Hid (T3 (tcmp c1 s1 q1 c2 s2 q2) (tcmp c2 s2 q2 c3 s3 q3) (tcmp c1 s1 q1 c3 s3 q3)) := tcmp_three _ _ _ _ _ _ _ _ _
  have HZr : Hid (tcmp c1 s1 q1 c2 s2 q2 = 0 ↔ (c1 = c2 ∧ s1 = s2 ∧ q1 = q2)) := tcmp_zero
  generalize hxe : tcmp c1 s1 q1 c2 s2 q2 = x at *
  have HXe : Hid (tcmp c1 s1 q1 c2 s2 q2 = x) := hxe
  clear hxe
  generalize tcmp c2 s2 q2 c3 s3 q3 = y at *
  generalize tcmp c1 s1 q1 c3 s3 q3 = z at *
  go_upto_region 6 with fail
  go_cut [88] (fun s88 wx => s88 = .bool false ∧ Hid (Below wq.heap.size wq wx))
  case first =>
    by_cases k1 : c1 = c2
    · by_cases k2 : s1 = s2
      · by_cases k3 : q1 = q2
        · have hx0 : x = 0 := HZr.out.2 ⟨k1, k2, k3⟩
          subst k1 k2 k3
          have x0 : (x == 0) = true := by simp; omega
          have x0' : (x != 0) = false := by simp; omega
          have x1 : x ≤ 0 := by omega
          by_cases ys : 0 < y
          · clear hx0
            have e0 := HZ1.out.c0
            have e1 := HZ1.out.c1
            have e2 := HZ1.out.c2
            have f0 := HZ2.out.c0
            have f1 := HZ2.out.c1
            have f2 := HZ2.out.c2
            go_wp2_with fail
            refine (implTagCmp_is _ _ _ _ _ _ (-x) (by rw [tcmp_neg c1 s1 q1 c1 s1 q1, HXe.out]) _).mono ?_
            rintro e wa ⟨rfl, hba⟩
            have HBa : Hid (Below wq.heap.size wq wa) := hba
            replace e0 := held_cell hba e0 HZ1.out.lt
            replace e1 := held_cell hba e1 HZ1.out.lt
            replace e2 := held_cell hba e2 HZ1.out.lt
            replace f0 := held_cell hba f0 HZ2.out.lt
            replace f1 := held_cell hba f1 HZ2.out.lt
            replace f2 := held_cell hba f2 HZ2.out.lt
            clear hba
            go_wp2_with fail
            refine (specTagCmp_is _ _ _ _ _ _ x HXe.out _).mono ?_
            rintro e wb ⟨rfl, hbb⟩
            have HBb : Hid (Below wq.heap.size wq wb) := below_step HBa.out HBa.out.size hbb
            clear hbb e0 e1 e2 f0 f1 f2
            go_wp2_with fail
            go_meet
            case rel => exact ⟨by first | rfl | (rw [decide_eq_false (by omega)]), HBb⟩
          · have ys' : y ≤ 0 := by omega
            rcases HT.out.on x1 ys' with zs | zs
            · have z0 : (z == 0) = false := by simp; omega
              clear hx0 ys
              have e0 := HZ1.out.c0
              have e1 := HZ1.out.c1
              have e2 := HZ1.out.c2
              have f0 := HZ2.out.c0
              have f1 := HZ2.out.c1
              have f2 := HZ2.out.c2
              go_wp2_with fail
              refine (implTagCmp_is _ _ _ _ _ _ (-x) (by rw [tcmp_neg c1 s1 q1 c1 s1 q1, HXe.out]) _).mono ?_
              rintro e wa ⟨rfl, hba⟩
              have HBa : Hid (Below wq.heap.size wq wa) := hba
              replace e0 := held_cell hba e0 HZ1.out.lt
              replace e1 := held_cell hba e1 HZ1.out.lt
              replace e2 := held_cell hba e2 HZ1.out.lt
              replace f0 := held_cell hba f0 HZ2.out.lt
              replace f1 := held_cell hba f1 HZ2.out.lt
              replace f2 := held_cell hba f2 HZ2.out.lt
              clear hba
              go_wp2_with fail
              refine (specTagCmp_is _ _ _ _ _ _ x HXe.out _).mono ?_
              rintro e wb ⟨rfl, hbb⟩
              have HBb : Hid (Below wq.heap.size wq wb) := below_step HBa.out HBa.out.size hbb
              clear hbb e0 e1 e2 f0 f1 f2
              go_wp2_with fail
              go_meet
              case rel => exact ⟨by first | rfl | (rw [decide_eq_false (by omega)]), HBb⟩
            · obtain ⟨zs1, zs2, zs3⟩ := zs
              have z0 : (z == 0) = true := by simp; omega
              have z1 : ¬ 0 < z := by omega
              have y0 : (y != 0) = false := by simp; omega
              clear hx0 ys zs1 zs2 zs3
              have e0 := HZ1.out.c0
              have e1 := HZ1.out.c1
              have e2 := HZ1.out.c2
              have f0 := HZ2.out.c0
              have f1 := HZ2.out.c1
              have f2 := HZ2.out.c2
              go_wp2_with fail
              refine (implTagCmp_is _ _ _ _ _ _ (-x) (by rw [tcmp_neg c1 s1 q1 c1 s1 q1, HXe.out]) _).mono ?_
              rintro e wa ⟨rfl, hba⟩
              have HBa : Hid (Below wq.heap.size wq wa) := hba
              replace e0 := held_cell hba e0 HZ1.out.lt
              replace e1 := held_cell hba e1 HZ1.out.lt
              replace e2 := held_cell hba e2 HZ1.out.lt
              replace f0 := held_cell hba f0 HZ2.out.lt
              replace f1 := held_cell hba f1 HZ2.out.lt
              replace f2 := held_cell hba f2 HZ2.out.lt
              clear hba
              go_wp2_with fail
              refine (specTagCmp_is _ _ _ _ _ _ x HXe.out _).mono ?_
              rintro e wb ⟨rfl, hbb⟩
              have HBb : Hid (Below wq.heap.size wq wb) := below_step HBa.out HBa.out.size hbb
              clear hbb e0 e1 e2 f0 f1 f2
              go_wp2_with fail
              go_meet
              case rel => exact ⟨by first | rfl | (rw [decide_eq_false (by omega)]), HBb⟩
        · have hx0 : x ≠ 0 := fun e => k3 (HZr.out.1 e).2.2
          subst k1 k2
          have x0 : (x == 0) = false := by simp; omega
          by_cases xs : 0 < x
          · clear hx0
            have e0 := HZ1.out.c0
            have e1 := HZ1.out.c1
            have e2 := HZ1.out.c2
            have f0 := HZ2.out.c0
            have f1 := HZ2.out.c1
            have f2 := HZ2.out.c2
            go_wp2_with fail
            refine (implTagCmp_is _ _ _ _ _ _ (-x) (by rw [tcmp_neg c1 s1 q1 c1 s1 q2, HXe.out]) _).mono ?_
            rintro e wa ⟨rfl, hba⟩
            have HBa : Hid (Below wq.heap.size wq wa) := hba
            replace e0 := held_cell hba e0 HZ1.out.lt
            replace e1 := held_cell hba e1 HZ1.out.lt
            replace e2 := held_cell hba e2 HZ1.out.lt
            replace f0 := held_cell hba f0 HZ2.out.lt
            replace f1 := held_cell hba f1 HZ2.out.lt
            replace f2 := held_cell hba f2 HZ2.out.lt
            clear hba
            go_wp2_with fail
            refine (specTagCmp_is _ _ _ _ _ _ x HXe.out _).mono ?_
            rintro e wb ⟨rfl, hbb⟩
            have HBb : Hid (Below wq.heap.size wq wb) := below_step HBa.out HBa.out.size hbb
            clear hbb e0 e1 e2 f0 f1 f2
            go_wp2_with fail
            go_meet
            case rel => exact ⟨by first | rfl | (rw [decide_eq_false (by omega)]), HBb⟩
          · have xs' : x < 0 := by omega
            by_cases ys : 0 < y
            · clear hx0 xs
              have e0 := HZ1.out.c0
              have e1 := HZ1.out.c1
              have e2 := HZ1.out.c2
              have f0 := HZ2.out.c0
              have f1 := HZ2.out.c1
              have f2 := HZ2.out.c2
              go_wp2_with fail
              refine (implTagCmp_is _ _ _ _ _ _ (-x) (by rw [tcmp_neg c1 s1 q1 c1 s1 q2, HXe.out]) _).mono ?_
              rintro e wa ⟨rfl, hba⟩
              have HBa : Hid (Below wq.heap.size wq wa) := hba
              replace e0 := held_cell hba e0 HZ1.out.lt
              replace e1 := held_cell hba e1 HZ1.out.lt
              replace e2 := held_cell hba e2 HZ1.out.lt
              replace f0 := held_cell hba f0 HZ2.out.lt
              replace f1 := held_cell hba f1 HZ2.out.lt
              replace f2 := held_cell hba f2 HZ2.out.lt
              clear hba
              go_wp2_with fail
              refine (specTagCmp_is _ _ _ _ _ _ x HXe.out _).mono ?_
              rintro e wb ⟨rfl, hbb⟩
              have HBb : Hid (Below wq.heap.size wq wb) := below_step HBa.out HBa.out.size hbb
              clear hbb e0 e1 e2 f0 f1 f2
              go_wp2_with fail
              go_meet
              case rel => exact ⟨by first | rfl | (rw [decide_eq_false (by omega)]), HBb⟩
            · have zs : z < 0 := by
                rcases HT.out.on (by omega) (by omega) with h | h
                · exact h
                · omega
              have z0 : (z == 0) = false := by simp; omega
              have ys' : y ≤ 0 := by omega
              clear hx0 xs ys
              have e0 := HZ1.out.c0
              have e1 := HZ1.out.c1
              have e2 := HZ1.out.c2
              have f0 := HZ2.out.c0
              have f1 := HZ2.out.c1
              have f2 := HZ2.out.c2
              go_wp2_with fail
              refine (implTagCmp_is _ _ _ _ _ _ (-x) (by rw [tcmp_neg c1 s1 q1 c1 s1 q2, HXe.out]) _).mono ?_
              rintro e wa ⟨rfl, hba⟩
              have HBa : Hid (Below wq.heap.size wq wa) := hba
              replace e0 := held_cell hba e0 HZ1.out.lt
              replace e1 := held_cell hba e1 HZ1.out.lt
              replace e2 := held_cell hba e2 HZ1.out.lt
              replace f0 := held_cell hba f0 HZ2.out.lt
              replace f1 := held_cell hba f1 HZ2.out.lt
              replace f2 := held_cell hba f2 HZ2.out.lt
              clear hba
              go_wp2_with fail
              refine (specTagCmp_is _ _ _ _ _ _ x HXe.out _).mono ?_
              rintro e wb ⟨rfl, hbb⟩
              have HBb : Hid (Below wq.heap.size wq wb) := below_step HBa.out HBa.out.size hbb
              clear hbb e0 e1 e2 f0 f1 f2
              go_wp2_with fail
              go_meet
              case rel => exact ⟨by first | rfl | (rw [decide_eq_false (by omega)]), HBb⟩
      · have hx0 : x ≠ 0 := fun e => k2 (HZr.out.1 e).2.1
        subst k1
        have x0 : (x == 0) = false := by simp; omega
        by_cases xs : 0 < x
        · clear hx0
          have e0 := HZ1.out.c0
          have e1 := HZ1.out.c1
          have e2 := HZ1.out.c2
          have f0 := HZ2.out.c0
          have f1 := HZ2.out.c1
          have f2 := HZ2.out.c2
          go_wp2_with fail
          refine (implTagCmp_is _ _ _ _ _ _ (-x) (by rw [tcmp_neg c1 s1 q1 c1 s2 q2, HXe.out]) _).mono ?_
          rintro e wa ⟨rfl, hba⟩
          have HBa : Hid (Below wq.heap.size wq wa) := hba
          replace e0 := held_cell hba e0 HZ1.out.lt
          replace e1 := held_cell hba e1 HZ1.out.lt
          replace e2 := held_cell hba e2 HZ1.out.lt
          replace f0 := held_cell hba f0 HZ2.out.lt
          replace f1 := held_cell hba f1 HZ2.out.lt
          replace f2 := held_cell hba f2 HZ2.out.lt
          clear hba
          go_wp2_with fail
          refine (specTagCmp_is _ _ _ _ _ _ x HXe.out _).mono ?_
          rintro e wb ⟨rfl, hbb⟩
          have HBb : Hid (Below wq.heap.size wq wb) := below_step HBa.out HBa.out.size hbb
          clear hbb e0 e1 e2 f0 f1 f2
          go_wp2_with fail
          go_meet
          case rel => exact ⟨by first | rfl | (rw [decide_eq_false (by omega)]), HBb⟩
        · have xs' : x < 0 := by omega
          by_cases ys : 0 < y
          · clear hx0 xs
            have e0 := HZ1.out.c0
            have e1 := HZ1.out.c1
            have e2 := HZ1.out.c2
            have f0 := HZ2.out.c0
            have f1 := HZ2.out.c1
            have f2 := HZ2.out.c2
            go_wp2_with fail
            refine (implTagCmp_is _ _ _ _ _ _ (-x) (by rw [tcmp_neg c1 s1 q1 c1 s2 q2, HXe.out]) _).mono ?_
            rintro e wa ⟨rfl, hba⟩
            have HBa : Hid (Below wq.heap.size wq wa) := hba
            replace e0 := held_cell hba e0 HZ1.out.lt
            replace e1 := held_cell hba e1 HZ1.out.lt
            replace e2 := held_cell hba e2 HZ1.out.lt
            replace f0 := held_cell hba f0 HZ2.out.lt
            replace f1 := held_cell hba f1 HZ2.out.lt
            replace f2 := held_cell hba f2 HZ2.out.lt
            clear hba
            go_wp2_with fail
            refine (specTagCmp_is _ _ _ _ _ _ x HXe.out _).mono ?_
            rintro e wb ⟨rfl, hbb⟩
            have HBb : Hid (Below wq.heap.size wq wb) := below_step HBa.out HBa.out.size hbb
            clear hbb e0 e1 e2 f0 f1 f2
            go_wp2_with fail
            go_meet
            case rel => exact ⟨by first | rfl | (rw [decide_eq_false (by omega)]), HBb⟩
          · have zs : z < 0 := by
              rcases HT.out.on (by omega) (by omega) with h | h
              · exact h
              · omega
            have z0 : (z == 0) = false := by simp; omega
            have ys' : y ≤ 0 := by omega
            clear hx0 xs ys
            have e0 := HZ1.out.c0
            have e1 := HZ1.out.c1
            have e2 := HZ1.out.c2
            have f0 := HZ2.out.c0
            have f1 := HZ2.out.c1
            have f2 := HZ2.out.c2
            go_wp2_with fail
            refine (implTagCmp_is _ _ _ _ _ _ (-x) (by rw [tcmp_neg c1 s1 q1 c1 s2 q2, HXe.out]) _).mono ?_
            rintro e wa ⟨rfl, hba⟩
            have HBa : Hid (Below wq.heap.size wq wa) := hba
            replace e0 := held_cell hba e0 HZ1.out.lt
            replace e1 := held_cell hba e1 HZ1.out.lt
            replace e2 := held_cell hba e2 HZ1.out.lt
            replace f0 := held_cell hba f0 HZ2.out.lt
            replace f1 := held_cell hba f1 HZ2.out.lt
            replace f2 := held_cell hba f2 HZ2.out.lt
            clear hba
            go_wp2_with fail
            refine (specTagCmp_is _ _ _ _ _ _ x HXe.out _).mono ?_
            rintro e wb ⟨rfl, hbb⟩
            have HBb : Hid (Below wq.heap.size wq wb) := below_step HBa.out HBa.out.size hbb
            clear hbb e0 e1 e2 f0 f1 f2
            go_wp2_with fail
            go_meet
            case rel => exact ⟨by first | rfl | (rw [decide_eq_false (by omega)]), HBb⟩
    · have hx0 : x ≠ 0 := fun e => k1 (HZr.out.1 e).1
      have x0 : (x == 0) = false := by simp; omega
      by_cases xs : 0 < x
      · clear hx0
        have e0 := HZ1.out.c0
        have e1 := HZ1.out.c1
        have e2 := HZ1.out.c2
        have f0 := HZ2.out.c0
        have f1 := HZ2.out.c1
        have f2 := HZ2.out.c2
        go_wp2_with fail
        refine (implTagCmp_is _ _ _ _ _ _ (-x) (by rw [tcmp_neg c1 s1 q1 c2 s2 q2, HXe.out]) _).mono ?_
        rintro e wa ⟨rfl, hba⟩
        have HBa : Hid (Below wq.heap.size wq wa) := hba
        replace e0 := held_cell hba e0 HZ1.out.lt
        replace e1 := held_cell hba e1 HZ1.out.lt
        replace e2 := held_cell hba e2 HZ1.out.lt
        replace f0 := held_cell hba f0 HZ2.out.lt
        replace f1 := held_cell hba f1 HZ2.out.lt
        replace f2 := held_cell hba f2 HZ2.out.lt
        clear hba
        go_wp2_with fail
        refine (specTagCmp_is _ _ _ _ _ _ x HXe.out _).mono ?_
        rintro e wb ⟨rfl, hbb⟩
        have HBb : Hid (Below wq.heap.size wq wb) := below_step HBa.out HBa.out.size hbb
        clear hbb e0 e1 e2 f0 f1 f2
        go_wp2_with fail
        go_meet
        case rel => exact ⟨by first | rfl | (rw [decide_eq_false (by omega)]), HBb⟩
      · have xs' : x < 0 := by omega
        by_cases ys : 0 < y
        · clear hx0 xs
          have e0 := HZ1.out.c0
          have e1 := HZ1.out.c1
          have e2 := HZ1.out.c2
          have f0 := HZ2.out.c0
          have f1 := HZ2.out.c1
          have f2 := HZ2.out.c2
          go_wp2_with fail
          refine (implTagCmp_is _ _ _ _ _ _ (-x) (by rw [tcmp_neg c1 s1 q1 c2 s2 q2, HXe.out]) _).mono ?_
          rintro e wa ⟨rfl, hba⟩
          have HBa : Hid (Below wq.heap.size wq wa) := hba
          replace e0 := held_cell hba e0 HZ1.out.lt
          replace e1 := held_cell hba e1 HZ1.out.lt
          replace e2 := held_cell hba e2 HZ1.out.lt
          replace f0 := held_cell hba f0 HZ2.out.lt
          replace f1 := held_cell hba f1 HZ2.out.lt
          replace f2 := held_cell hba f2 HZ2.out.lt
          clear hba
          go_wp2_with fail
          refine (specTagCmp_is _ _ _ _ _ _ x HXe.out _).mono ?_
          rintro e wb ⟨rfl, hbb⟩
          have HBb : Hid (Below wq.heap.size wq wb) := below_step HBa.out HBa.out.size hbb
          clear hbb e0 e1 e2 f0 f1 f2
          go_wp2_with fail
          go_meet
          case rel => exact ⟨by first | rfl | (rw [decide_eq_false (by omega)]), HBb⟩
        · have zs : z < 0 := by
            rcases HT.out.on (by omega) (by omega) with h | h
            · exact h
            · omega
          have z0 : (z == 0) = false := by simp; omega
          have ys' : y ≤ 0 := by omega
          clear hx0 xs ys
          have e0 := HZ1.out.c0
          have e1 := HZ1.out.c1
          have e2 := HZ1.out.c2
          have f0 := HZ2.out.c0
          have f1 := HZ2.out.c1
          have f2 := HZ2.out.c2
          go_wp2_with fail
          refine (implTagCmp_is _ _ _ _ _ _ (-x) (by rw [tcmp_neg c1 s1 q1 c2 s2 q2, HXe.out]) _).mono ?_
          rintro e wa ⟨rfl, hba⟩
          have HBa : Hid (Below wq.heap.size wq wa) := hba
          replace e0 := held_cell hba e0 HZ1.out.lt
          replace e1 := held_cell hba e1 HZ1.out.lt
          replace e2 := held_cell hba e2 HZ1.out.lt
          replace f0 := held_cell hba f0 HZ2.out.lt
          replace f1 := held_cell hba f1 HZ2.out.lt
          replace f2 := held_cell hba f2 HZ2.out.lt
          clear hba
          go_wp2_with fail
          refine (specTagCmp_is _ _ _ _ _ _ x HXe.out _).mono ?_
          rintro e wb ⟨rfl, hbb⟩
          have HBb : Hid (Below wq.heap.size wq wb) := below_step HBa.out HBa.out.size hbb
          clear hbb e0 e1 e2 f0 f1 f2
          go_wp2_with fail
          go_meet
          case rel => exact ⟨by first | rfl | (rw [decide_eq_false (by omega)]), HBb⟩
  case rest =>
    obtain ⟨rfl, HB5⟩ := hcut
    have HB6 : Hid (Below w0'.heap.size w0' wc) := below_step HB4.out HB4.out.size HB5.out
    clear HB5 HB4 HZ1 HZ2 HXe HT HZr bx1 bx2 by1 by2 bz1 bz2
    go_wp2_with fail
    refine (drawWriteCmp_any _ _ _ _ (HY.out.below HB6.out) hl).mono ?_
    rintro e u1 ⟨k1, c1, s1, q1, v1, de1, g1, cp1, ds1, k2, c2, s2, q2, v2, de2, g2, cp2, ds2, rfl, n1, n2, l1, l2, hd1, hd2, hb1⟩
    have HB7 : Hid (Below w0'.heap.size w0' u1) := below_step HB6.out HB6.out.size hb1
    have HD1 : Hid (HoldsDeps u1 g1 0 ds1) := hd1
    have HD2 : Hid (HoldsDeps u1 g2 0 ds2) := hd2
    clear hb1 hd1 hd2 HB6
    go_wp2_with fail
    have HA : Hid (Below u1.heap.size u1 ((u1.alloc (.cells #[.int .i64 k1, .int .i64 c1, .int .i64 s1, .int .i64 q1, .int .i64 v1, .bool de1, .slice (some ⟨g1, 0, none⟩) ds1.length cp1] 31)).alloc (.cells #[.int .i64 k2, .int .i64 c2, .int .i64 s2, .int .i64 q2, .int .i64 v2, .bool de2, .slice (some ⟨g2, 0, none⟩) ds2.length cp2] 31))) := ((Below.refl _ _).alloc (Nat.le_refl _) _).alloc (by simp) _
    have HX : Hid (WBox ((u1.alloc (.cells #[.int .i64 k1, .int .i64 c1, .int .i64 s1, .int .i64 q1, .int .i64 v1, .bool de1, .slice (some ⟨g1, 0, none⟩) ds1.length cp1] 31)).alloc (.cells #[.int .i64 k2, .int .i64 c2, .int .i64 s2, .int .i64 q2, .int .i64 v2, .bool de2, .slice (some ⟨g2, 0, none⟩) ds2.length cp2] 31)) u1.heap.size k1 c1 s1 q1 v1 de1 (some ⟨g1, 0, none⟩) ds1.length cp1 ∧ WBox ((u1.alloc (.cells #[.int .i64 k1, .int .i64 c1, .int .i64 s1, .int .i64 q1, .int .i64 v1, .bool de1, .slice (some ⟨g1, 0, none⟩) ds1.length cp1] 31)).alloc (.cells #[.int .i64 k2, .int .i64 c2, .int .i64 s2, .int .i64 q2, .int .i64 v2, .bool de2, .slice (some ⟨g2, 0, none⟩) ds2.length cp2] 31)) (u1.heap.size + 1) k2 c2 s2 q2 v2 de2 (some ⟨g2, 0, none⟩) ds2.length cp2) := two_wboxes _ _ _ _ _ _ _ _ _ _ _ _ _ _ _ _ _ _ _
    refine (drawWriteCmp_any _ _ _ _ (HY'.out.below (below_step HB7.out HB7.out.size HA.out)) hl').mono ?_
    rintro e u2 ⟨k3, c3, s3, q3, v3, de3, g3, cp3, ds3, k4, c4, s4, q4, v4, de4, g4, cp4, ds4, rfl, n3, n4, l3, l4, hd3, hd4, hb2⟩
    have hAu : Below u1.heap.size u1 u2 := below_step HA.out HA.out.size hb2
    have HB8 : Hid (Below w0'.heap.size w0' u2) := below_step HB7.out HB7.out.size hAu
    have HX1 : Hid (WBox u2 u1.heap.size k1 c1 s1 q1 v1 de1 (some ⟨g1, 0, none⟩) ds1.length cp1) := below_wbox HX.out.1 hb2
    have HX2 : Hid (WBox u2 (u1.heap.size + 1) k2 c2 s2 q2 v2 de2 (some ⟨g2, 0, none⟩) ds2.length cp2) := below_wbox HX.out.2 hb2
    have HDu1 : Hid (HoldsDeps u2 g1 0 ds1) := HD1.out.below hAu l1
    have HDu2 : Hid (HoldsDeps u2 g2 0 ds2) := HD2.out.below hAu l2
    have HDu3 : Hid (HoldsDeps u2 g3 0 ds3) := hd3
    replace l1 := Nat.lt_of_lt_of_le l1 hAu.size
    replace l2 := Nat.lt_of_lt_of_le l2 hAu.size
    clear hb2 hAu HX HA HB7 HD1 HD2 hd3 hd4 n4 l4
    go_upto_region 10 with fail
    have hA : Below u2.heap.size u2 ((u2.alloc (.cells #[.int .i64 k3, .int .i64 c3, .int .i64 s3, .int .i64 q3, .int .i64 v3, .bool de3, .slice (some ⟨g3, 0, none⟩) ds3.length cp3] 31)).alloc (.cells #[.int .i64 k4, .int .i64 c4, .int .i64 s4, .int .i64 q4, .int .i64 v4, .bool de4, .slice (some ⟨g4, 0, none⟩) ds4.length cp4] 31)) := ((Below.refl _ _).alloc (Nat.le_refl _) _).alloc (by simp) _
    have HBV : Hid (Below w0'.heap.size w0' ((u2.alloc (.cells #[.int .i64 k3, .int .i64 c3, .int .i64 s3, .int .i64 q3, .int .i64 v3, .bool de3, .slice (some ⟨g3, 0, none⟩) ds3.length cp3] 31)).alloc (.cells #[.int .i64 k4, .int .i64 c4, .int .i64 s4, .int .i64 q4, .int .i64 v4, .bool de4, .slice (some ⟨g4, 0, none⟩) ds4.length cp4] 31))) := below_step HB8.out HB8.out.size hA
    have HX3 : Hid (WBox ((u2.alloc (.cells #[.int .i64 k3, .int .i64 c3, .int .i64 s3, .int .i64 q3, .int .i64 v3, .bool de3, .slice (some ⟨g3, 0, none⟩) ds3.length cp3] 31)).alloc (.cells #[.int .i64 k4, .int .i64 c4, .int .i64 s4, .int .i64 q4, .int .i64 v4, .bool de4, .slice (some ⟨g4, 0, none⟩) ds4.length cp4] 31)) u2.heap.size k3 c3 s3 q3 v3 de3 (some ⟨g3, 0, none⟩) ds3.length cp3) := (two_wboxes _ _ _ _ _ _ _ _ _ _ _ _ _ _ _ _ _ _ _).1
    have HV1 : Hid (WBox ((u2.alloc (.cells #[.int .i64 k3, .int .i64 c3, .int .i64 s3, .int .i64 q3, .int .i64 v3, .bool de3, .slice (some ⟨g3, 0, none⟩) ds3.length cp3] 31)).alloc (.cells #[.int .i64 k4, .int .i64 c4, .int .i64 s4, .int .i64 q4, .int .i64 v4, .bool de4, .slice (some ⟨g4, 0, none⟩) ds4.length cp4] 31)) u1.heap.size k1 c1 s1 q1 v1 de1 (some ⟨g1, 0, none⟩) ds1.length cp1) := below_wbox HX1.out hA
    have HV2 : Hid (WBox ((u2.alloc (.cells #[.int .i64 k3, .int .i64 c3, .int .i64 s3, .int .i64 q3, .int .i64 v3, .bool de3, .slice (some ⟨g3, 0, none⟩) ds3.length cp3] 31)).alloc (.cells #[.int .i64 k4, .int .i64 c4, .int .i64 s4, .int .i64 q4, .int .i64 v4, .bool de4, .slice (some ⟨g4, 0, none⟩) ds4.length cp4] 31)) (u1.heap.size + 1) k2 c2 s2 q2 v2 de2 (some ⟨g2, 0, none⟩) ds2.length cp2) := below_wbox HX2.out hA
    have HD1 : Hid (HoldsDeps ((u2.alloc (.cells #[.int .i64 k3, .int .i64 c3, .int .i64 s3, .int .i64 q3, .int .i64 v3, .bool de3, .slice (some ⟨g3, 0, none⟩) ds3.length cp3] 31)).alloc (.cells #[.int .i64 k4, .int .i64 c4, .int .i64 s4, .int .i64 q4, .int .i64 v4, .bool de4, .slice (some ⟨g4, 0, none⟩) ds4.length cp4] 31)) g1 0 ds1) := HDu1.out.below hA l1
    have HD2 : Hid (HoldsDeps ((u2.alloc (.cells #[.int .i64 k3, .int .i64 c3, .int .i64 s3, .int .i64 q3, .int .i64 v3, .bool de3, .slice (some ⟨g3, 0, none⟩) ds3.length cp3] 31)).alloc (.cells #[.int .i64 k4, .int .i64 c4, .int .i64 s4, .int .i64 q4, .int .i64 v4, .bool de4, .slice (some ⟨g4, 0, none⟩) ds4.length cp4] 31)) g2 0 ds2) := HDu2.out.below hA l2
    have HD3 : Hid (HoldsDeps ((u2.alloc (.cells #[.int .i64 k3, .int .i64 c3, .int .i64 s3, .int .i64 q3, .int .i64 v3, .bool de3, .slice (some ⟨g3, 0, none⟩) ds3.length cp3] 31)).alloc (.cells #[.int .i64 k4, .int .i64 c4, .int .i64 s4, .int .i64 q4, .int .i64 v4, .bool de4, .slice (some ⟨g4, 0, none⟩) ds4.length cp4] 31)) g3 0 ds3) := HDu3.out.below hA l3
    replace l1 := Nat.lt_of_lt_of_le l1 hA.size
    replace l2 := Nat.lt_of_lt_of_le l2 hA.size
    replace l3 := Nat.lt_of_lt_of_le l3 hA.size
    clear hA HX1 HX2 HDu1 HDu2 HDu3 HB8
    generalize ((u2.alloc (.cells #[.int .i64 k3, .int .i64 c3, .int .i64 s3, .int .i64 q3, .int .i64 v3, .bool de3, .slice (some ⟨g3, 0, none⟩) ds3.length cp3] 31)).alloc (.cells #[.int .i64 k4, .int .i64 c4, .int .i64 s4, .int .i64 q4, .int .i64 v4, .bool de4, .slice (some ⟨g4, 0, none⟩) ds4.length cp4] 31)) = V at *
    have bp1 := (wcmp_bd k1 c1 s1 q1 v1 de1 ds1 k2 c2 s2 q2 v2 de2 ds2).1
    have bp2 := (wcmp_bd k1 c1 s1 q1 v1 de1 ds1 k2 c2 s2 q2 v2 de2 ds2).2
    have bq1 := (wcmp_bd k2 c2 s2 q2 v2 de2 ds2 k3 c3 s3 q3 v3 de3 ds3).1
    have bq2 := (wcmp_bd k2 c2 s2 q2 v2 de2 ds2 k3 c3 s3 q3 v3 de3 ds3).2
    have br1 := (wcmp_bd k1 c1 s1 q1 v1 de1 ds1 k3 c3 s3 q3 v3 de3 ds3).1
    have br2 := (wcmp_bd k1 c1 s1 q1 v1 de1 ds1 k3 c3 s3 q3 v3 de3 ds3).2
    have HT : Hid (T3 (wcmp k1 c1 s1 q1 v1 de1 ds1 k2 c2 s2 q2 v2 de2 ds2) (wcmp k2 c2 s2 q2 v2 de2 ds2 k3 c3 s3 q3 v3 de3 ds3) (wcmp k1 c1 s1 q1 v1 de1 ds1 k3 c3 s3 q3 v3 de3 ds3)) := wcmp_three k1 c1 s1 q1 v1 de1 ds1 k2 c2 s2 q2 v2 de2 ds2 k3 c3 s3 q3 v3 de3 ds3
    generalize hp : wcmp k1 c1 s1 q1 v1 de1 ds1 k2 c2 s2 q2 v2 de2 ds2 = p at *
    generalize hqq : wcmp k2 c2 s2 q2 v2 de2 ds2 k3 c3 s3 q3 v3 de3 ds3 = qq at *
    generalize hr : wcmp k1 c1 s1 q1 v1 de1 ds1 k3 c3 s3 q3 v3 de3 ds3 = r at *
    have HP : Hid (wcmp k1 c1 s1 q1 v1 de1 ds1 k2 c2 s2 q2 v2 de2 ds2 = p) := hp
    have HQ : Hid (wcmp k2 c2 s2 q2 v2 de2 ds2 k3 c3 s3 q3 v3 de3 ds3 = qq) := hqq
    have HR : Hid (wcmp k1 c1 s1 q1 v1 de1 ds1 k3 c3 s3 q3 v3 de3 ds3 = r) := hr
    clear hp hqq hr
    have C12 : Hid (∀ af : Aft V.heap.size V, Calls Try.prog 9 #[wrV k1 c1 s1 q1 v1 de1 (some ⟨g1, 0, none⟩) ds1.length cp1, wrV k2 c2 s2 q2 v2 de2 (some ⟨g2, 0, none⟩) ds2.length cp2] af.now fun e w' => e = .returned (.int .i64 p) ∧ Below af.now.heap.size af.now w') := fun af => implWriteCmp_is p _ _ _ _ _ _ _ _ _ _ _ _ _ _ _ _ _ _ HP.out af.now n1 n2 (Nat.lt_of_lt_of_le l1 af.below.size) (Nat.lt_of_lt_of_le l2 af.below.size) (HD1.out.below af.below l1) (HD2.out.below af.below l2)
    have C23 : Hid (∀ af : Aft V.heap.size V, Calls Try.prog 9 #[wrV k2 c2 s2 q2 v2 de2 (some ⟨g2, 0, none⟩) ds2.length cp2, wrV k3 c3 s3 q3 v3 de3 (some ⟨g3, 0, none⟩) ds3.length cp3] af.now fun e w' => e = .returned (.int .i64 qq) ∧ Below af.now.heap.size af.now w') := fun af => implWriteCmp_is qq _ _ _ _ _ _ _ _ _ _ _ _ _ _ _ _ _ _ HQ.out af.now n2 n3 (Nat.lt_of_lt_of_le l2 af.below.size) (Nat.lt_of_lt_of_le l3 af.below.size) (HD2.out.below af.below l2) (HD3.out.below af.below l3)
    have C13 : Hid (∀ af : Aft V.heap.size V, Calls Try.prog 9 #[wrV k1 c1 s1 q1 v1 de1 (some ⟨g1, 0, none⟩) ds1.length cp1, wrV k3 c3 s3 q3 v3 de3 (some ⟨g3, 0, none⟩) ds3.length cp3] af.now fun e w' => e = .returned (.int .i64 r) ∧ Below af.now.heap.size af.now w') := fun af => implWriteCmp_is r _ _ _ _ _ _ _ _ _ _ _ _ _ _ _ _ _ _ HR.out af.now n1 n3 (Nat.lt_of_lt_of_le l1 af.below.size) (Nat.lt_of_lt_of_le l3 af.below.size) (HD1.out.below af.below l1) (HD3.out.below af.below l3)
    have ge0 := aft_cell HV1.out.lt HV1.out.c0
    have ge1 := aft_cell HV1.out.lt HV1.out.c1
    have ge2 := aft_cell HV1.out.lt HV1.out.c2
    have ge3 := aft_cell HV1.out.lt HV1.out.c3
    have ge4 := aft_cell HV1.out.lt HV1.out.c4
    have ge5 := aft_cell HV1.out.lt HV1.out.c5
    have ge6 := aft_cell HV1.out.lt HV1.out.c6
    have gf0 := aft_cell HV2.out.lt HV2.out.c0
    have gf1 := aft_cell HV2.out.lt HV2.out.c1
    have gf2 := aft_cell HV2.out.lt HV2.out.c2
    have gf3 := aft_cell HV2.out.lt HV2.out.c3
    have gf4 := aft_cell HV2.out.lt HV2.out.c4
    have gf5 := aft_cell HV2.out.lt HV2.out.c5
    have gf6 := aft_cell HV2.out.lt HV2.out.c6
    have gh0 := aft_cell HX3.out.lt HX3.out.c0
    have gh1 := aft_cell HX3.out.lt HX3.out.c1
    have gh2 := aft_cell HX3.out.lt HX3.out.c2
    have gh3 := aft_cell HX3.out.lt HX3.out.c3
    have gh4 := aft_cell HX3.out.lt HX3.out.c4
    have gh5 := aft_cell HX3.out.lt HX3.out.c5
    have gh6 := aft_cell HX3.out.lt HX3.out.c6
    have ne := aft_some V
    refine wp_region_aft (by kernel_rfl) (by kernel_rfl) ?_
    repeat (first | go_big_quiet_step (first | (go_at_call_of 9 (Value.slice (some ⟨g1, 0, none⟩) ds1.length cp1); go_at_call_of 9 (Value.slice (some ⟨g2, 0, none⟩) ds2.length cp2); exact aft_of (C12.out _)) | (go_at_call_of 9 (Value.slice (some ⟨g2, 0, none⟩) ds2.length cp2); go_at_call_of 9 (Value.slice (some ⟨g3, 0, none⟩) ds3.length cp3); exact aft_of (C23.out _)) | (go_at_call_of 9 (Value.slice (some ⟨g1, 0, none⟩) ds1.length cp1); go_at_call_of 9 (Value.slice (some ⟨g3, 0, none⟩) ds3.length cp3); exact aft_of (C13.out _))))
    refine wpQuiet_nil ?_
    intro vq hq
    have HB9 : Hid (Below w0'.heap.size w0' vq) := below_step HBV.out HBV.out.size hq
    have HW1 : Hid (WBox vq u1.heap.size k1 c1 s1 q1 v1 de1 (some ⟨g1, 0, none⟩) ds1.length cp1) := below_wbox HV1.out hq
    have HW2 : Hid (WBox vq (u1.heap.size + 1) k2 c2 s2 q2 v2 de2 (some ⟨g2, 0, none⟩) ds2.length cp2) := below_wbox HV2.out hq
    have HE1 : Hid (HoldsDeps vq g1 0 ds1) := HD1.out.below hq l1
    have HE2 : Hid (HoldsDeps vq g2 0 ds2) := HD2.out.below hq l2
    have m1 : g1 < vq.heap.size := Nat.lt_of_lt_of_le l1 hq.size
    have m2 : g2 < vq.heap.size := Nat.lt_of_lt_of_le l2 hq.size
    clear hq HBV HX3 HV1 HV2 HD1 HD2 HD3 C12 C23 C13 ne l1 l2 l3 ge0 ge1 ge2 ge3 ge4 ge5 ge6 gf0 gf1 gf2 gf3 gf4 gf5 gf6 gh0 gh1 gh2 gh3 gh4 gh5 gh6
    have e0 := HW1.out.c0
    have e1 := HW1.out.c1
    have e2 := HW1.out.c2
    have e3 := HW1.out.c3
    have e4 := HW1.out.c4
    have e5 := HW1.out.c5
    have e6 := HW1.out.c6
    have f0 := HW2.out.c0
    have f1 := HW2.out.c1
    have f2 := HW2.out.c2
    have f3 := HW2.out.c3
    have f4 := HW2.out.c4
    have f5 := HW2.out.c5
    have f6 := HW2.out.c6
    by_cases ps : 0 < p
    · go_wp2_with fail
      refine (implWriteCmp_is (-p) _ _ _ _ _ _ _ _ _ _ _ _ _ _ _ _ _ _ (by rw [wcmp_neg k1 c1 s1 q1 v1 de1 ds1 k2 c2 s2 q2 v2 de2 ds2, HP.out]) _ n2 n1 m2 m1 HE2.out HE1.out).mono ?_
      rintro e va ⟨rfl, hba⟩
      have HBa : Hid (Below w0'.heap.size w0' va) := below_step HB9.out HB9.out.size hba
      have HEa1 : Hid (HoldsDeps va g1 0 ds1) := HE1.out.below hba m1
      have HEa2 : Hid (HoldsDeps va g2 0 ds2) := HE2.out.below hba m2
      have ma1 : g1 < va.heap.size := Nat.lt_of_lt_of_le m1 hba.size
      have ma2 : g2 < va.heap.size := Nat.lt_of_lt_of_le m2 hba.size
      replace e0 := held_cell hba e0 HW1.out.lt
      replace e1 := held_cell hba e1 HW1.out.lt
      replace e2 := held_cell hba e2 HW1.out.lt
      replace e3 := held_cell hba e3 HW1.out.lt
      replace e4 := held_cell hba e4 HW1.out.lt
      replace e5 := held_cell hba e5 HW1.out.lt
      replace e6 := held_cell hba e6 HW1.out.lt
      replace f0 := held_cell hba f0 HW2.out.lt
      replace f1 := held_cell hba f1 HW2.out.lt
      replace f2 := held_cell hba f2 HW2.out.lt
      replace f3 := held_cell hba f3 HW2.out.lt
      replace f4 := held_cell hba f4 HW2.out.lt
      replace f5 := held_cell hba f5 HW2.out.lt
      replace f6 := held_cell hba f6 HW2.out.lt
      clear hba
      go_wp2_with fail
      refine (specWriteCmp_is p _ _ _ _ _ _ _ _ _ _ _ _ _ _ _ _ _ _ HP.out _ n1 n2 ma1 ma2 HEa1.out HEa2.out).mono ?_
      rintro e vb ⟨rfl, hbb⟩
      have HBb : Hid (Below w0'.heap.size w0' vb) := below_step HBa.out HBa.out.size hbb
      clear hbb e0 e1 e2 e3 e4 e5 e6 f0 f1 f2 f3 f4 f5 f6
      go_wp2
      go_ret
      exact ⟨rfl, HBb.out⟩
    · have ps' : p ≤ 0 := by omega
      by_cases qs : 0 < qq
      · go_wp2_with fail
        refine (implWriteCmp_is (-p) _ _ _ _ _ _ _ _ _ _ _ _ _ _ _ _ _ _ (by rw [wcmp_neg k1 c1 s1 q1 v1 de1 ds1 k2 c2 s2 q2 v2 de2 ds2, HP.out]) _ n2 n1 m2 m1 HE2.out HE1.out).mono ?_
        rintro e va ⟨rfl, hba⟩
        have HBa : Hid (Below w0'.heap.size w0' va) := below_step HB9.out HB9.out.size hba
        have HEa1 : Hid (HoldsDeps va g1 0 ds1) := HE1.out.below hba m1
        have HEa2 : Hid (HoldsDeps va g2 0 ds2) := HE2.out.below hba m2
        have ma1 : g1 < va.heap.size := Nat.lt_of_lt_of_le m1 hba.size
        have ma2 : g2 < va.heap.size := Nat.lt_of_lt_of_le m2 hba.size
        replace e0 := held_cell hba e0 HW1.out.lt
        replace e1 := held_cell hba e1 HW1.out.lt
        replace e2 := held_cell hba e2 HW1.out.lt
        replace e3 := held_cell hba e3 HW1.out.lt
        replace e4 := held_cell hba e4 HW1.out.lt
        replace e5 := held_cell hba e5 HW1.out.lt
        replace e6 := held_cell hba e6 HW1.out.lt
        replace f0 := held_cell hba f0 HW2.out.lt
        replace f1 := held_cell hba f1 HW2.out.lt
        replace f2 := held_cell hba f2 HW2.out.lt
        replace f3 := held_cell hba f3 HW2.out.lt
        replace f4 := held_cell hba f4 HW2.out.lt
        replace f5 := held_cell hba f5 HW2.out.lt
        replace f6 := held_cell hba f6 HW2.out.lt
        clear hba
        go_wp2_with fail
        refine (specWriteCmp_is p _ _ _ _ _ _ _ _ _ _ _ _ _ _ _ _ _ _ HP.out _ n1 n2 ma1 ma2 HEa1.out HEa2.out).mono ?_
        rintro e vb ⟨rfl, hbb⟩
        have HBb : Hid (Below w0'.heap.size w0' vb) := below_step HBa.out HBa.out.size hbb
        clear hbb e0 e1 e2 e3 e4 e5 e6 f0 f1 f2 f3 f4 f5 f6
        go_wp2
        go_ret
        exact ⟨rfl, HBb.out⟩
      · have qs' : qq ≤ 0 := by omega
        rcases HT.out.on ps' qs' with rs | rs
        · go_wp2_with fail
          refine (implWriteCmp_is (-p) _ _ _ _ _ _ _ _ _ _ _ _ _ _ _ _ _ _ (by rw [wcmp_neg k1 c1 s1 q1 v1 de1 ds1 k2 c2 s2 q2 v2 de2 ds2, HP.out]) _ n2 n1 m2 m1 HE2.out HE1.out).mono ?_
          rintro e va ⟨rfl, hba⟩
          have HBa : Hid (Below w0'.heap.size w0' va) := below_step HB9.out HB9.out.size hba
          have HEa1 : Hid (HoldsDeps va g1 0 ds1) := HE1.out.below hba m1
          have HEa2 : Hid (HoldsDeps va g2 0 ds2) := HE2.out.below hba m2
          have ma1 : g1 < va.heap.size := Nat.lt_of_lt_of_le m1 hba.size
          have ma2 : g2 < va.heap.size := Nat.lt_of_lt_of_le m2 hba.size
          replace e0 := held_cell hba e0 HW1.out.lt
          replace e1 := held_cell hba e1 HW1.out.lt
          replace e2 := held_cell hba e2 HW1.out.lt
          replace e3 := held_cell hba e3 HW1.out.lt
          replace e4 := held_cell hba e4 HW1.out.lt
          replace e5 := held_cell hba e5 HW1.out.lt
          replace e6 := held_cell hba e6 HW1.out.lt
          replace f0 := held_cell hba f0 HW2.out.lt
          replace f1 := held_cell hba f1 HW2.out.lt
          replace f2 := held_cell hba f2 HW2.out.lt
          replace f3 := held_cell hba f3 HW2.out.lt
          replace f4 := held_cell hba f4 HW2.out.lt
          replace f5 := held_cell hba f5 HW2.out.lt
          replace f6 := held_cell hba f6 HW2.out.lt
          clear hba
          go_wp2_with fail
          refine (specWriteCmp_is p _ _ _ _ _ _ _ _ _ _ _ _ _ _ _ _ _ _ HP.out _ n1 n2 ma1 ma2 HEa1.out HEa2.out).mono ?_
          rintro e vb ⟨rfl, hbb⟩
          have HBb : Hid (Below w0'.heap.size w0' vb) := below_step HBa.out HBa.out.size hbb
          clear hbb e0 e1 e2 e3 e4 e5 e6 f0 f1 f2 f3 f4 f5 f6
          go_wp2
          go_ret
          exact ⟨rfl, HBb.out⟩
        · obtain ⟨rs1, rs2, rs3⟩ := rs
          have r0 : (r == 0) = true := by simp; omega
          have r1 : ¬ r < 0 := by omega
          have p0 : (p == 0) = true := by simp; omega
          have q0 : (qq == 0) = true := by simp; omega
          clear rs1 rs2 rs3
          go_wp2_with fail
          refine (implWriteCmp_is (-p) _ _ _ _ _ _ _ _ _ _ _ _ _ _ _ _ _ _ (by rw [wcmp_neg k1 c1 s1 q1 v1 de1 ds1 k2 c2 s2 q2 v2 de2 ds2, HP.out]) _ n2 n1 m2 m1 HE2.out HE1.out).mono ?_
          rintro e va ⟨rfl, hba⟩
          have HBa : Hid (Below w0'.heap.size w0' va) := below_step HB9.out HB9.out.size hba
          have HEa1 : Hid (HoldsDeps va g1 0 ds1) := HE1.out.below hba m1
          have HEa2 : Hid (HoldsDeps va g2 0 ds2) := HE2.out.below hba m2
          have ma1 : g1 < va.heap.size := Nat.lt_of_lt_of_le m1 hba.size
          have ma2 : g2 < va.heap.size := Nat.lt_of_lt_of_le m2 hba.size
          replace e0 := held_cell hba e0 HW1.out.lt
          replace e1 := held_cell hba e1 HW1.out.lt
          replace e2 := held_cell hba e2 HW1.out.lt
          replace e3 := held_cell hba e3 HW1.out.lt
          replace e4 := held_cell hba e4 HW1.out.lt
          replace e5 := held_cell hba e5 HW1.out.lt
          replace e6 := held_cell hba e6 HW1.out.lt
          replace f0 := held_cell hba f0 HW2.out.lt
          replace f1 := held_cell hba f1 HW2.out.lt
          replace f2 := held_cell hba f2 HW2.out.lt
          replace f3 := held_cell hba f3 HW2.out.lt
          replace f4 := held_cell hba f4 HW2.out.lt
          replace f5 := held_cell hba f5 HW2.out.lt
          replace f6 := held_cell hba f6 HW2.out.lt
          clear hba
          go_wp2_with fail
          refine (specWriteCmp_is p _ _ _ _ _ _ _ _ _ _ _ _ _ _ _ _ _ _ HP.out _ n1 n2 ma1 ma2 HEa1.out HEa2.out).mono ?_
          rintro e vb ⟨rfl, hbb⟩
          have HBb : Hid (Below w0'.heap.size w0' vb) := below_step HBa.out HBa.out.size hbb
          clear hbb e0 e1 e2 e3 e4 e5 e6 f0 f1 f2 f3 f4 f5 f6
          go_wp2
          go_ret
          exact ⟨rfl, HBb.out⟩

theorem walk (a : Option Addr) (len cap : Nat) (a' : Option Addr) (len' cap' : Nat) (w : World) (hr : len ≤ maxLen ∧ Bytes w a len) (hr' : len' ≤ maxLen ∧ Bytes w a' len') :
    Calls Try.prog 3 #[.slice a len cap, .slice a' len' cap'] w fun e w' => e = .returned (.bool true) ∧ Below w.heap.size w w' := by
  by_cases h : 1048576 < len ∨ 1048576 < len'
  · exact walk_big a len cap a' len' cap' w hr.1 hr'.1 h
  · exact walk_small a len cap a' len' cap' w hr.2 hr'.2 (by omega) (by omega)

set_option maxRecDepth 100000 in
theorem lifted (os : Os) (started : os.Started) (H : Type) (enc : TypeId × Value → H) :
    ReturnsInHanded {} Try.checked os 3 .any (Rows.fnTagOrderSpec.pre6 enc Try.prog Try.f3 Rows.fnTagOrderRow.domain false) (Rows.fnTagOrderSpec.post enc Try.prog Try.f3 false true false false) := by
  refine returnsInHanded_of_change (C := Try.checked) own started (by kernel_rfl) Try.func3
    (ChangeSpec.witness6 (enc := enc) (C := Try.checked) false ⟨#[], #[.slice none 0 0, .slice none 0 0], []⟩ 8 (by kernel_rfl) (by kernel_rfl) (by kernel_rfl) (by kernel_rfl)) ?_
  intro W base args ds gs before hval0 hW hcnd _
  have hval : ∀ (j : Nat) t v, Try.f3.params[j]? = some t → args[j]? = some v → Value.okWide Try.prog W .any base t v := hval0
  have hW' := hW
  obtain ⟨p, q, hA0, hV, rfl, hfz, hnd⟩ := hW
  have hA : DataW.TrodAll enc Try.prog W 0 (fun _ => true) true Try.f3.params.toList args.toList ds p := hA0
  rw [Try.params3] at hA hval
  obtain ⟨v0, v1, d0, d1, p0, p1, rfl, rfl, rfl, h0, h1⟩ := trodAll_two hA
  have k0 := h0
  have lt0 : ∀ x ∈ p0, x.block < W.heap.size := by obtain ⟨m, hm⟩ := k0; exact DataW.trod_lt m _ _ _ hm
  have k1 := h1
  have lt1 : ∀ x ∈ p1, x.block < W.heap.size := by obtain ⟨m, hm⟩ := k1; exact DataW.trod_lt m _ _ _ hm
  obtain ⟨rfl, rfl⟩ := trodVars_none hV
  obtain ⟨a0, len0, cap0, hv0, hr0⟩ := open_bytes (hval 0 22 v0 rfl rfl) h0
  subst hv0
  obtain ⟨a1, len1, cap1, hv1, hr1⟩ := open_bytes (hval 1 22 v1 rfl rfl) h1
  subst hv1
  clear hA0 hval0
  refine (walk a0 len0 cap0 a1 len1 cap1 W hr0 hr1).mono fun e W' ⟨he, bel⟩ => ?_
  subst he
  exact ⟨_, rfl, _, _, _, [], _, [], hW', trodAll_mk1 (shut_bool Try.underlying4 _), (trodAll_mk2 (Below.trod laidOut (by kernel_rfl) (of_decide_eq_true (by kernel_rfl)) k0 bel lt0) (Below.trod laidOut (by kernel_rfl) (of_decide_eq_true (by kernel_rfl)) k1 bel lt1)), rfl, bel.frame _, fun h => by cases h⟩

theorem over : Rows.fnTagOrderRow.holds Try.pinned (OpenSpec.ofChange Rows.fnTagOrderSpec) :=
  OpenClaim.holds_of_wide 3 Try.f3 rfl rfl rfl rfl rfl rfl rfl ⟨rfl, rfl, rfl, rfl, rfl⟩ rfl rfl rfl rfl rfl (by kernel_rfl) Try.func3 (by kernel_rfl)
    (of_decide_eq_true (by kernel_rfl)) (by unfold Func.isWrapper; rw [if_neg (by decide +kernel)]; exact ⟨rfl, rfl⟩)
    (fun os started H enc _ => lifted os started H enc)

end Go.Proofs.Ytjonmjgegkdceab.lawTagOrder
namespace Go.Proofs.Ytjonmjgegkdceab
theorem fnTagOrder_holds : Rows.FnTagOrderSaid := lawTagOrder.over
#print axioms fnTagOrder_holds
end Go.Proofs.Ytjonmjgegkdceab
