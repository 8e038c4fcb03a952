/- The contract of impl.RingOf. -/
import Derived.Test.YtofejfmfbifphacDoorSortBy
namespace Go.Proofs.YtofejfmfbifphacDoor
open Go.ChangeShapes Go.WideShapes Go.ChangeAt Go.RowKit Go.Joins

set_option maxRecDepth 100000 in
theorem pointsOf_any (a : Option Addr) (n cap : Nat) (v : Int) (w : World) :
    Calls Tryd.prog 21 #[.slice a n cap, .int .i64 v] w fun e w' => e = .returned (.func (.func 32) #[] #[.pointer (some ⟨w.heap.size, 0, none⟩), .pointer (some ⟨w.heap.size + 1, 0, none⟩)]) ∧ w' = (w.alloc (.cells #[.slice a n cap] 24)).alloc (.cells #[.int .i64 v] 3) := by
  go_enter Tryd.func21, Tryd.ntmps21
  go_wp2
  go_ret
  exact ⟨rfl, rfl⟩

set_option maxRecDepth 100000 in
set_option maxHeartbeats 2000000 in
theorem implRingOf_any (a : Option Addr) (n cap : Nat) (zs : List Int) (v : Int) (w : World) (hl : zs.length = n) (hn : n ≤ 1048576) (hh : IsInts w a zs) (ht : Tab w) :
    Calls Tryd.prog 7 #[.slice a n cap, .int .i64 v] w fun e w' => ∃ r, e = .returned r ∧ RowP w' w.heap.size r (ringB zs v) ∧ Below w.heap.size w w' := by
  have HT := Lib.hid ht
  have HH := Lib.hid hh
  have HL := Lib.hid hl
  clear ht hh hl
  cases hok : nodesOkB zs
  · have HE : Hid (ringB zs v = []) := ringB_no hok
    go_enter Tryd.func7, Tryd.ntmps7
    go_wp2_with fail
    refine (implNodesOk_any a n cap zs _ HL.out hn HH.out).mono ?_
    rintro e w1 ⟨rfl, hb⟩
    have HB1 := Lib.hid hb
    rw [hok]
    clear hb hok
    go_wp2
    go_ret
    exact ⟨_, rfl, by rw [HE.out]; exact World.ownsRow_nil _ _ _ _, HB1.out⟩
  · cases hbv : btw v 1 6
    · have HE : Hid (ringB zs v = []) := ringB_no' hbv
      go_enter Tryd.func7, Tryd.ntmps7
      go_wp2_with fail
      refine (implNodesOk_any a n cap zs _ HL.out hn HH.out).mono ?_
      rintro e w1 ⟨rfl, hb⟩
      have HB1 := Lib.hid hb
      rw [hok]
      clear hb hok
      go_wp2_with fail
      refine (inRange_is _ _ _ false hbv _).mono ?_
      rintro e w2 ⟨rfl, rfl⟩
      go_wp2
      go_ret
      exact ⟨_, rfl, by rw [HE.out]; exact World.ownsRow_nil _ _ _ _, HB1.out⟩
    · have hv := of_decide_eq_true hbv
      obtain ⟨V, rfl⟩ : ∃ V : Nat, v = (V : Int) := ⟨v.toNat, by omega⟩
      have HE : Hid (ringB zs (V : Int) = ringL (ptsOf zs V)) := by rw [ringB_yes hok hbv]; exact Lib.hid rfl
      have h8 : n ≤ 8 := by rw [← HL.out]; exact nodesOk_len hok
      have HZ : Hid (∀ i, i < n → 0 ≤ zs.getD i 0 ∧ zs.getD i 0 ≤ 99) := fun i hi => nodesOk_at hok (by rw [HL.out]; exact hi)
      go_enter Tryd.func7, Tryd.ntmps7
      go_wp2_with fail
      refine (implNodesOk_any a n cap zs _ HL.out hn HH.out).mono ?_
      rintro e w1 ⟨rfl, hb⟩
      have HB1 := Lib.hid hb
      have hlt : 0 < w.heap.size := HT.out.lt
      rw [hok]
      clear hb hok
      go_wp2_with fail
      refine (inRange_is _ _ _ true hbv _).mono ?_
      rintro e w2 ⟨rfl, rfl⟩
      go_wp2_with fail
      refine (pointsOf_any a n cap (V : Int) _).mono ?_
      rintro e w3 ⟨rfl, hw3⟩
      have hb3 : Below w2.heap.size w2 w3 := by rw [hw3]; exact ((Below.refl _ _).alloc (Nat.le_refl _) _).alloc (by simp) _
      have c0 : w3.cell? ⟨w2.heap.size, 0, none⟩ = some (.slice a n cap) := by
        have h1 := cell_of_row (w2.alloc (.cells #[.slice a n cap] 24)) w2.heap.size 0 #[.slice a n cap] 24 (0, 0) (heap_alloc_new w2 _)
        have h2 : Below (w2.alloc (.cells #[.slice a n cap] 24)).heap.size (w2.alloc (.cells #[.slice a n cap] 24)) w3 := by rw [hw3]; exact (Below.refl _ _).alloc (Nat.le_refl _) _
        exact (h2.cell (p := ⟨w2.heap.size, 0, none⟩) (by simp)).trans h1
      have c1 : w3.cell? ⟨w2.heap.size + 1, 0, none⟩ = some (.int .i64 (V : Int)) := by
        have h1 := cell_of_row _ _ 0 #[.int .i64 (V : Int)] 3 (0, 0) (heap_alloc_new (w2.alloc (.cells #[.slice a n cap] 24)) _)
        rw [World.size_alloc] at h1
        rw [hw3]
        exact h1
      have z3 : w3.heap.size = w2.heap.size + 2 := by rw [hw3]; simp
      have HB3 : Hid (Below w.heap.size w w3) := below_step HB1.out HB1.out.size hb3
      have HT3 := Lib.hid (HT.out.below HB3.out hlt)
      have HH3 := Lib.hid (HH.out.below HB3.out)
      clear hw3 hb3
      go_wp2_with fail
      refine (sortedBy_any w3 w2.heap.size (w2.heap.size + 1) a n cap V zs HL.out h8 (by omega) HZ.out c0 c1 (by omega) (by omega) HT3.out HH3.out).mono ?_
      rintro e w4 ⟨r, rfl, hr, hb⟩
      have HR : Hid (RowP w4 w.heap.size r (ringB zs (V : Int))) := by rw [HE.out]; exact Lib.hid (hr.mono HB3.out.size)
      have HB4 : Hid (Below w.heap.size w w4) := below_step HB3.out HB3.out.size hb
      clear hr hb
      go_wp2
      go_ret
      exact ⟨_, rfl, HR.out, HB4.out⟩

set_option maxRecDepth 100000 in
theorem ringB_len (zs : List Int) (v : Int) : (ringB zs v).length ≤ 48 := by
  cases hok : nodesOkB zs
  · rw [ringB_no hok]
    simp
  · cases hbv : btw v 1 6
    · rw [ringB_no' hbv]
      simp
    · rw [ringB_yes hok hbv, ringL_len, ptsOf_len]
      have hv := of_decide_eq_true hbv
      have h1 := nodesOk_len hok
      have h2 : zs.length * v.toNat ≤ 8 * 6 := Nat.mul_le_mul h1 (by omega)
      omega

end Go.Proofs.YtofejfmfbifphacDoor
