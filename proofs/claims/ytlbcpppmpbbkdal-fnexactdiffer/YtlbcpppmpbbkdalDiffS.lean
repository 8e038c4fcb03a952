/- The contract of spec.Differ. -/
import Derived.Test.YtlbcpppmpbbkdalTreeP
import Derived.Test.YtlbcpppmpbbkdalInts
import Derived.Lib.Hide
namespace Go.Proofs.Ytlbcpppmpbbkdal
open Go.ChangeShapes Go.WideShapes Go.ChangeAt Go.RowKit Go.Joins
attribute [local go_sem ↓] Go.wp_at_zero Go.wp_at_succ

/-- How far the looking up has come. -/
def UpTo (P : Nat → Bool) (j k : Nat) (d : Bool) : Prop := (d = true ∧ ap P j = ap P k) ∨ (d = false ∧ ap P k = false)

set_option maxRecDepth 100000 in
theorem UpTo.step {P : Nat → Bool} {j k : Nat} (h : UpTo P j k true) (h0 : 0 < j) : UpTo P ((j - 1) / 2) k (P j) := by
  rcases h with ⟨-, h⟩ | ⟨h, -⟩
  · rw [ap_step P h0] at h
    cases hp : P j
    · rw [hp, Bool.false_and] at h
      exact .inr ⟨rfl, h.symm⟩
    · rw [hp, Bool.true_and] at h
      exact .inl ⟨rfl, h⟩
  · cases h

set_option maxRecDepth 100000 in
theorem UpTo.top {P : Nat → Bool} {k : Nat} (h : UpTo P 0 k true) : ap P k = P 0 := by
  rcases h with ⟨-, h⟩ | ⟨h, -⟩
  · rw [← h, ap_zero]
  · cases h

set_option maxRecDepth 100000 in
theorem UpTo.no {P : Nat → Bool} {j k : Nat} (h : UpTo P j k false) : ap P k = false := by
  rcases h with ⟨h, -⟩ | ⟨-, h⟩
  · cases h
  · exact h

set_option maxRecDepth 100000 in
theorem told_more {xs ys : List Int} {k : Nat} {w5 : World} {base g cp : Nat} {zs : List Int} (he : leavesTo xs ys (k + 1) = zs ++ [(k : Int)]) (hown : w5.ownsRow base 3 1 (.slice (some ⟨g, 0, none⟩) (zs.length + 1) cp) (zs.length + 1) (zs.map intV ++ [intV (k : Int)])) : RowI w5 base (.slice (some ⟨g, 0, none⟩) (zs.length + 1) cp) (leavesTo xs ys (k + 1)) := by
  rw [he]
  unfold RowI
  rw [List.length_append, List.map_append]
  exact hown

set_option maxRecDepth 100000 in
set_option maxHeartbeats 2000000 in
theorem specDiffer_any (a a' : Option Addr) (n m cap cap' : Nat) (xs ys : List Int) (w : World) (hn : xs.length = n) (hm : ys.length = m) (hn1 : n ≤ 1048576) (hm1 : m ≤ 1048576) (h : IsInts w a xs) (h' : IsInts w a' ys) :
    Calls Try.prog 5 #[.slice a n cap, .slice a' m cap'] w fun e w' => ∃ v, e = .returned v ∧ RowI w' w.heap.size v (diffB xs ys) ∧ Below w.heap.size w w' := by
  have HR0 : Hid (RowI (w.alloc (.cells #[] 3)) w.heap.size (.slice (some ⟨w.heap.size, 0, none⟩) 0 0) []) := World.ownsRow_made w #[] 0 (Nat.le_refl _) (by simp [maxLen]) (by simp)
  have HB0 : Hid (Below w.heap.size w (w.alloc (.cells #[] 3))) := (Below.refl _ _).alloc (Nat.le_refl _) _
  by_cases hb : n = 15 ∧ m = 15
  rotate_left
  · have HE : Hid (diffB xs ys = []) := by
      show _ = _
      unfold diffB
      rw [if_neg (by rw [hn, hm]; exact hb)]
    clear h h' hn hm
    by_cases h1 : (n : Int) = 15
    · have h3 : n = 15 := by omega
      have h2 : ¬ (m : Int) = 15 := by omega
      subst h3
      go_enter Try.func5, Try.ntmps5
      go_wp2
      go_ret
      exact ⟨_, rfl, by rw [HE.out]; exact HR0.out, HB0.out⟩
    · go_enter Try.func5, Try.ntmps5
      go_wp2
      go_ret
      exact ⟨_, rfl, by rw [HE.out]; exact HR0.out, HB0.out⟩
  obtain ⟨rfl, rfl⟩ := hb
  have HE : Hid (diffB xs ys = leavesTo xs ys 8) := by
    show _ = _
    unfold diffB
    rw [if_pos ⟨hn, hm⟩]
    rfl
  have HH := Lib.hid h
  have HH' := Lib.hid h'
  have HN := Lib.hid hn
  have HM := Lib.hid hm
  clear h h' hn hm
  obtain ⟨i0, hi0, hx0⟩ := Option.map_eq_some_iff.1 infoInt
  simp only [Prod.mk.injEq] at hx0
  have HI0 := Lib.hid hi0
  have HX0 := Lib.hid hx0
  clear hi0 hx0
  go_enter Try.func5, Try.ntmps5
  go_wp2
  go_loopw [5, 6] (fun t i wr => ∃ (k : Nat) (v : Value), k ≤ 8 ∧ i = .int .i64 k ∧ v = t ∧ Hid (RowI wr w.heap.size v (leavesTo xs ys k)) ∧ Hid (Below w.heap.size w wr)) (fun _ i _ => 8 - (intOf i).toNat)
  case atStart => exact ⟨0, _, Nat.zero_le _, rfl, rfl, HR0, HB0⟩
  case round =>
    clear HR0 HB0
    obtain ⟨k, v, hk, rfl, rfl, HR, HB⟩ := hrel
    by_cases hk' : k < 8
    · have i1 : (0 : Int) ≤ (k : Int) := by omega
      have i2 : (k : Int) < 8 := by omega
      have hlen := leavesTo_len xs ys k
      go_wp2
      go_loopw [7, 8] (fun d i wq => ∃ (j : Nat) (bb : Bool), j < 15 ∧ i = .int .i64 j ∧ d = .bool bb ∧ Hid (UpTo (unlike xs ys) j (7 + k) bb) ∧ Hid (RowI wq w.heap.size v (leavesTo xs ys k)) ∧ Hid (Below w.heap.size w wq)) (fun _ i _ => (intOf i).toNat)
      case atStart => exact ⟨7 + k, true, by omega, by push_cast; rfl, rfl, .inl ⟨rfl, rfl⟩, HR, HB⟩
      case round =>
        clear HR HB
        obtain ⟨j, bb, hj, rfl, rfl, HU, HR, HB⟩ := hrel
        cases bb
        · have HE2 : Hid (leavesTo xs ys (k + 1) = leavesTo xs ys k) := leavesTo_no HU.out.no
          have HR2 : Hid (RowI wr w.heap.size v (leavesTo xs ys (k + 1))) := by rw [HE2.out]; exact HR
          go_wp2
          exact ⟨⟨k + 1, _, by omega, by go_num, rfl, HR2, HB⟩, by simp [intOf]; omega⟩
        · have i3 : (0 : Int) ≤ (j : Int) := by omega
          have i4 : (j : Int) < 15 := by omega
          obtain ⟨b, rfl, hz, e0⟩ := HH.out.at HB.out (show j < xs.length by rw [HN.out]; exact hj)
          obtain ⟨b', rfl, hz', f0⟩ := HH'.out.at HB.out (show j < ys.length by rw [HM.out]; exact hj)
          have HP : Hid (unlike xs ys j = decide (xs.getD j 0 ≠ ys.getD j 0)) := rfl
          generalize xs.getD j 0 = x at *
          generalize ys.getD j 0 = y at *
          go_wp2_with fail
          have ge0 := aft_cell hz e0
          have gf0 := aft_cell hz' f0
          have ne := aft_some wr
          refine wp_region_aft (by kernel_rfl) (by kernel_rfl) ?_
          repeat (first | go_big_quiet_step (fail))
          refine wpQuiet_nil ?_
          intro wq hq
          have HBQ : Hid (Below w.heap.size w wq) := below_step HB.out HB.out.size hq
          have HRQ := Lib.hid (HR.out.below hq)
          clear hq ge0 gf0 ne e0 f0 HB HR
          by_cases hj0 : j = 0
          · subst hj0
            have HT : Hid (ap (unlike xs ys) (7 + k) = unlike xs ys 0) := HU.out.top
            by_cases hxy : x = y
            · have HE2 : Hid (leavesTo xs ys (k + 1) = leavesTo xs ys k) := leavesTo_no (by rw [HT.out, HP.out]; simp [hxy])
              have HR2 : Hid (RowI wq w.heap.size v (leavesTo xs ys (k + 1))) := by rw [HE2.out]; exact HRQ
              subst hxy
              go_wp2
              exact ⟨⟨k + 1, _, by omega, by go_num, rfl, HR2, HBQ⟩, by simp [intOf]; omega⟩
            · have HE2 : Hid (leavesTo xs ys (k + 1) = leavesTo xs ys k ++ [(k : Int)]) := leavesTo_yes (by rw [HT.out, HP.out]; simpa using hxy)
              have hsz : w.heap.size ≤ wq.heap.size := HBQ.out.size
              generalize leavesTo xs ys k = zs at *
              have HBA : Hid (Below wq.heap.size wq (wq.alloc (.cells #[.int .i64 (k : Int)] 3))) := (Below.refl _ _).alloc (Nat.le_refl _) _
              have HRC := Lib.hid (HRQ.out.below HBA.out)
              have HCC := Lib.hid (oneI_cells wq 3 (k : Int))
              have HBD := Lib.hid (below_step HBQ.out HBQ.out.size HBA.out)
              go_wp2_with (at_builtin; refine wpList_append_lies _ (by rfl) _ _ _ (by rfl) w.heap.size 3 i0 (.int .i64 0) 1 8 Try.underlying22 HI0.out HX0.out.1 HX0.out.2.1 HX0.out.2.2 (by rfl) (by omega) v zs.length (zs.map intV) (by rfl) HRC.out ⟨wq.heap.size, 0, none⟩ 1 1 [intV (k : Int)] (by rfl) (by rfl) (by simpa using HCC.out) (intV_one [(k : Int)]) (by omega) (by unfold maxLen; omega) (by omega) (by simp; omega) _ rfl ?_; intro g3 cp3 w5 hown hgrow hg3 _; refine Hid.out ?_)
              refine Lib.hid ?_
              have HB5 : Hid (Below w.heap.size w w5) := HBD.out.grown hgrow HBD.out.size fun j hj => (World.ownsRow.lt HRC.out j hj).1
              have HR5 : Hid (RowI w5 w.heap.size (.slice (some ⟨g3, 0, none⟩) (zs.length + 1) cp3) (leavesTo xs ys (k + 1))) := told_more HE2.out hown
              clear hown hgrow
              go_wp2
              exact ⟨⟨k + 1, _, by omega, by go_num, rfl, HR5, HB5⟩, by simp [intOf]; omega⟩
          · have HS : Hid (UpTo (unlike xs ys) ((j - 1) / 2) (7 + k) (decide (x ≠ y))) := by
              have := HU.out.step (by omega)
              rw [HP.out] at this
              exact this
            have hne : ¬ (j : Int) = 0 := by omega
            have e1 : ((j : Int) - 1).tdiv 2 = (((j - 1) / 2 : Nat) : Int) := by
              rw [Int.tdiv_eq_ediv_of_nonneg (by omega)]
              omega
            by_cases hxy : x = y
            · have HS2 : Hid (UpTo (unlike xs ys) ((j - 1) / 2) (7 + k) false) := by
                have := HS.out
                rwa [decide_eq_false (by simpa using hxy)] at this
              subst hxy
              go_wp2
              exact ⟨⟨(j - 1) / 2, false, by omega, by simp, by simp, HS2, HRQ, HBQ⟩, by simp [intOf]; omega⟩
            · have HS2 : Hid (UpTo (unlike xs ys) ((j - 1) / 2) (7 + k) true) := by
                have := HS.out
                rwa [decide_eq_true (by simpa using hxy)] at this
              go_wp2
              exact ⟨⟨(j - 1) / 2, true, by omega, by simp, by simp [hxy], HS2, HRQ, HBQ⟩, by simp [intOf]; omega⟩
    · have hkk : k = 8 := by omega
      subst hkk
      have HF : Hid (RowI wr w.heap.size v (diffB xs ys)) := by rw [HE.out]; exact HR
      go_wp2
      go_ret
      exact ⟨_, rfl, HF.out, HB.out⟩

end Go.Proofs.Ytlbcpppmpbbkdal
