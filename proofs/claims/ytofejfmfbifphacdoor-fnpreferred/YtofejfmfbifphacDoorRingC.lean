/- spec.RingOf at every argument; impl.pointCmp. -/
import Derived.Test.YtofejfmfbifphacDoorRingS
import Derived.Test.YtofejfmfbifphacDoorTagCmp
import Derived.Deep.DrawnRows
namespace Go.Proofs.YtofejfmfbifphacDoor
open Go.ChangeShapes Go.WideShapes Go.ChangeAt Go.RowKit Go.Joins
attribute [local go_sem ↓] Go.wp_at_zero Go.wp_at_succ

set_option maxRecDepth 100000 in
set_option maxHeartbeats 2000000 in
theorem specRingOf_any (a : Option Addr) (n cap : Nat) (zs : List Int) (v : Int) (w : World) (hl : zs.length = n) (hn : n ≤ 1048576) (hh : IsInts w a zs) :
    Calls Tryd.prog 8 #[.slice a n cap, .int .i64 v] w fun e w' => ∃ r, e = .returned r ∧ RowP w' w.heap.size r (ringB zs v) ∧ Below w.heap.size w w' := by
  cases hok : nodesOkB zs
  · have HE : Hid (ringB zs v = []) := ringB_no hok
    have HR0 : Hid (RowP (w.alloc (.cells #[] 32)) w.heap.size (.slice (some ⟨w.heap.size, 0, none⟩) 0 0) []) := World.ownsRow_made w #[] 0 (Nat.le_refl _) (by simp [maxLen]) (by simp)
    have HB0 : Hid (Below w.heap.size w (w.alloc (.cells #[] 32))) := (Below.refl _ _).alloc (Nat.le_refl _) _
    go_enter Tryd.func8, Tryd.ntmps8
    go_wp2_with fail
    refine (specNodesOk_any a n cap zs _ hl hn (hh.below ((Below.refl _ _).alloc (Nat.le_refl _) _))).mono ?_
    rintro e w1 ⟨rfl, hb⟩
    have HR1 := Lib.hid (HR0.out.below hb)
    have HB1 := Lib.hid (below_step HB0.out HB0.out.size hb)
    rw [hok]
    clear hb HR0 HB0 hok
    go_wp2
    go_ret
    exact ⟨_, rfl, by rw [HE.out]; exact HR1.out, HB1.out⟩
  · cases hbv : btw v 1 6
    · have HE : Hid (ringB zs v = []) := ringB_no' hbv
      have HR0 : Hid (RowP (w.alloc (.cells #[] 32)) w.heap.size (.slice (some ⟨w.heap.size, 0, none⟩) 0 0) []) := World.ownsRow_made w #[] 0 (Nat.le_refl _) (by simp [maxLen]) (by simp)
      have HB0 : Hid (Below w.heap.size w (w.alloc (.cells #[] 32))) := (Below.refl _ _).alloc (Nat.le_refl _) _
      go_enter Tryd.func8, Tryd.ntmps8
      go_wp2_with fail
      refine (specNodesOk_any a n cap zs _ hl hn (hh.below ((Below.refl _ _).alloc (Nat.le_refl _) _))).mono ?_
      rintro e w1 ⟨rfl, hb⟩
      have HR1 := Lib.hid (HR0.out.below hb)
      have HB1 := Lib.hid (below_step HB0.out HB0.out.size hb)
      rw [hok]
      clear hb HR0 HB0 hok
      go_wp2_with fail
      refine (between_is _ _ _ false hbv _).mono ?_
      rintro e w2 ⟨rfl, rfl⟩
      go_wp2
      go_ret
      exact ⟨_, rfl, by rw [HE.out]; exact HR1.out, HB1.out⟩
    · have hv := of_decide_eq_true hbv
      obtain ⟨V, rfl⟩ : ∃ V : Nat, v = (V : Int) := ⟨v.toNat, by omega⟩
      refine (specRing_loop w a n cap V zs hl (by rw [← hl]; exact nodesOk_len hok) (by omega) (fun i hi => nodesOk_at hok (by rw [hl]; exact hi)) hh hok hbv).mono ?_
      rintro e w' ⟨r, he, hr, hb⟩
      refine ⟨r, he, ?_, hb⟩
      rw [ringB_yes hok hbv]
      exact hr

def cmpP (a b : Pt) : Int := orI [sgn a.t b.t, sgn a.n b.n]

set_option maxRecDepth 100000 in
theorem gtP_cmp (a b : Pt) : gtP a b = decide (0 < cmpP a b) := by
  unfold gtP cmpP
  refine decide_eq_decide.2 ?_
  rcases Int.lt_trichotomy a.t b.t with h | h | h
  · have e : sgn a.t b.t = -1 := by simp [sgn, h]
    simp [orI, e]
    omega
  · have e : sgn a.t b.t = 0 := sgn_zero.2 h
    simp [orI, e]
    rcases Int.lt_trichotomy a.n b.n with h' | h' | h'
    · have e : sgn a.n b.n = -1 := by simp [sgn, h']
      simp [e]
      omega
    · have e : sgn a.n b.n = 0 := sgn_zero.2 h'
      simp [e]
      omega
    · have e : sgn a.n b.n = 1 := by
        unfold sgn
        rw [if_neg (by omega), if_pos h']
      simp [e]
      omega
  · have e : sgn a.t b.t = 1 := by
      unfold sgn
      rw [if_neg (by omega), if_pos h]
    simp [orI, e]
    omega

set_option maxRecDepth 100000 in
theorem two_cells (W : World) (x y : Int) (t b : Nat) (hb : W.heap.size = b) : ∀ i, i < [x, y].length → (W.alloc (Obj.cells #[.int .i64 x, .int .i64 y] t)).drew.cell? ⟨b, i, none⟩ = some (.int .i64 ([x, y].getD i 0)) := by
  subst hb
  intro i hi
  match i, hi with
  | 0, _ => simp [go_sem]
  | 1, _ => simp [go_sem]

set_option maxRecDepth 100000 in
set_option maxHeartbeats 1000000 in
theorem pointCmp_any (a b : Pt) (w : World) :
    Calls Tryd.prog 22 #[.agg #[.int .i64 a.t, .int .i64 a.n], .agg #[.int .i64 b.t, .int .i64 b.n]] w fun e w' => e = .returned (.int .i64 (cmpP a b)) ∧ Below w.heap.size w w' := by
  obtain ⟨c, s⟩ := a
  obtain ⟨c', s'⟩ := b
  unfold cmpP
  simp only
  go_enter Tryd.func22, Tryd.ntmps22
  go_wp2_with fail
  go_region_held3 (fun w' => w'.cell? ⟨w.heap.size, 0, none⟩ = some (.int .i64 c) ∧ w'.cell? ⟨w.heap.size, 1, none⟩ = some (.int .i64 s) ∧ w'.cell? ⟨w.heap.size + 1, 0, none⟩ = some (.int .i64 c') ∧ w'.cell? ⟨w.heap.size + 1, 1, none⟩ = some (.int .i64 s')) (go_keep)
    (first | (go_at_call 35; refine (compare_any _ _ _).mono ?_; rintro e w' ⟨rfl, rfl⟩) | (go_at_call 34; refine (or_any _ [sgn c c', sgn s s'] _ _ (by simp) (by exact two_cells _ _ _ _ _ (by simp))).mono ?_; rintro e w' ⟨rfl, rfl⟩))
  all_goals
    go_wp2
    go_ret
    exact ⟨rfl, ((((Below.refl _ _).alloc (Nat.le_refl _) _).alloc (by simp) _).alloc (by simp; omega) _).drew⟩

end Go.Proofs.YtofejfmfbifphacDoor
