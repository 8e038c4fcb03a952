/- Contracts of impl.flagNum, spec.l01Bit, impl.depCmp, slices.CompareFunc over dependencies. -/
import Derived.Test.YtfapebnilbdheabPlainW
import Derived.Test.YtfapebnilbdheabTagCmp2
import Derived.Test.YtfapebnilbdheabToDepS
namespace Go.Proofs.Ytfapebnilbdheab
open Go.ChangeShapes Go.WideShapes Go.ChangeAt Go.RowKit Go.Joins
attribute [local go_sem ↓] Go.wp_at_zero Go.wp_at_succ

theorem flagNum_any (b : Bool) (w : World) :
    Calls Try.prog 37 #[.bool b] w fun e w' => e = .returned (.int .i64 (bit b)) ∧ w' = w := by
  cases b
  · go_enter Try.func37, Try.ntmps37
    go_wp2
    go_ret
    exact ⟨rfl, rfl⟩
  · go_enter Try.func37, Try.ntmps37
    go_wp2
    go_ret
    exact ⟨rfl, rfl⟩

theorem bit_any (b : Bool) (w : World) :
    Calls Try.prog 40 #[.bool b] w fun e w' => e = .returned (.int .i64 (bit b)) ∧ w' = w := by
  cases b
  · go_enter Try.func40, Try.ntmps40
    go_wp2
    go_ret
    exact ⟨rfl, rfl⟩
  · go_enter Try.func40, Try.ntmps40
    go_wp2
    go_ret
    exact ⟨rfl, rfl⟩

theorem two_cells (W : World) (x y : Int) (t b : Nat) (hb : W.heap.size = b) : ∀ i, i < [x, y].length → (W.alloc (Obj.cells #[.int .i64 x, .int .i64 y] t)).cell? ⟨b, i, none⟩ = some (.int .i64 ([x, y].getD i 0)) := by
  subst hb
  intro i hi
  match i, hi with
  | 0, _ => simp [go_sem]
  | 1, _ => simp [go_sem]

theorem alloc_held {W : World} {b o : Nat} {v : Value} (X : Obj) (h : W.cell? ⟨b, o, none⟩ = some v) (hz : b < W.heap.size) : (W.alloc X).cell? ⟨b, o, none⟩ = some v :=
  held_cell ((Below.refl _ _).alloc (Nat.le_refl _) X) h hz

theorem alloc_lt {W : World} {b : Nat} (X : Obj) (h : b < W.heap.size) : b < (W.alloc X).heap.size := by simp; omega

theorem alloc_below {w W : World} (X : Obj) (h : Below w.heap.size w W) : Below w.heap.size w (W.alloc X) := h.alloc h.size X

set_option maxHeartbeats 1000000 in
theorem depCmp_any (k c s q k' c' s' q' : Int) (w : World) :
    Calls Try.prog 39 #[depV k c s q, depV k' c' s' q'] w fun e w' => e = .returned (.int .i64 (dcmp ⟨k, c, s, q⟩ ⟨k', c', s', q'⟩)) ∧ Below w.heap.size w w' := by
  rw [← dcmp_or]
  go_enter Try.func39, Try.ntmps39
  go_wp2_with fail
  go_region_held3 (fun w' => w'.cell? ⟨w.heap.size, 0, none⟩ = some (.int .i64 k) ∧ w'.cell? ⟨w.heap.size, 1, none⟩ = some (.int .i64 c) ∧ w'.cell? ⟨w.heap.size, 2, none⟩ = some (.int .i64 s) ∧ w'.cell? ⟨w.heap.size, 3, none⟩ = some (.int .i64 q) ∧ w'.cell? ⟨w.heap.size + 1, 0, none⟩ = some (.int .i64 k') ∧ w'.cell? ⟨w.heap.size + 1, 1, none⟩ = some (.int .i64 c') ∧ w'.cell? ⟨w.heap.size + 1, 2, none⟩ = some (.int .i64 s') ∧ w'.cell? ⟨w.heap.size + 1, 3, none⟩ = some (.int .i64 q') ∧ w.heap.size + 1 < w'.heap.size ∧ Below w.heap.size w w')
    (first | (refine ⟨?_, ?_, ?_, ?_, ?_, ?_, ?_, ?_, ?_, ?_⟩ <;> first | (simp; done) | (simp; omega) | exact (((Below.refl _ _).alloc (Nat.le_refl _) _).alloc (by simp) _).drew) | (go_split_ands; refine ⟨?_, ?_, ?_, ?_, ?_, ?_, ?_, ?_, ?_, ?_⟩ <;> first | assumption | exact held_cell (by assumption) (by assumption) (by omega) | exact Nat.lt_of_lt_of_le (by assumption) (Below.size (by assumption)) | exact below_step (by assumption) (by omega) (by assumption) | exact alloc_held _ (by assumption) (by omega) | exact alloc_lt _ (by assumption) | exact alloc_below _ (by assumption)))
    (first | (go_at_call 33; refine (compare_any _ _ _).mono ?_; rintro e w1 ⟨rfl, rfl⟩) | (go_at_call 9; refine (implTagCmp_any _ _ _ _ _ _ _).mono ?_; rintro e w2 ⟨rfl, hb2⟩) | (go_at_call 32; refine (or_any _ [sgn k k', tcmp c s q c' s' q'] _ _ (by simp) (by exact two_cells _ _ _ _ _ (by simp))).mono ?_; rintro e w3 ⟨rfl, rfl⟩))
  obtain ⟨-, -, -, -, -, -, -, -, -, HB0⟩ := ‹_ ∧ _›
  have HB : Hid (Below w.heap.size w _) := HB0
  clear HB0 hb2
  go_wp2
  go_ret
  exact ⟨rfl, HB.out⟩

theorem depCmp_is (d e : Dp) (z : Int) (h : dcmp d e = z) (w : World) :
    Calls Try.prog 39 #[depV d.k d.c d.s d.q, depV e.k e.c e.s e.q] w fun r w' => r = .returned (.int .i64 z) ∧ Below w.heap.size w w' := by
  subst h
  exact depCmp_any d.k d.c d.s d.q e.k e.c e.s e.q w

set_option maxHeartbeats 1000000 in
theorem compareFunc_gen (a a' : Option Addr) (xs ys : List Dp) (cap cap' : Nat) (w : World) (hn : xs.length ≤ 1048576) (_hm : ys.length ≤ 1048576) (hh : IsDeps w a xs) (hh' : IsDeps w a' ys) :
    Calls Try.prog 38 #[.slice a xs.length cap, .slice a' ys.length cap', .func (.func 39) #[] #[]] w fun e w' => e = .returned (.int .i64 (depsCmp xs ys)) ∧ Below w.heap.size w w' := by
  have HH : Hid (IsDeps w a xs) := hh
  have HH' : Hid (IsDeps w a' ys) := hh'
  clear hh hh'
  go_enter Try.func38, Try.ntmps38
  go_wp2
  go_loopw [13] (fun i wr => ∃ k : Nat, k ≤ xs.length ∧ k ≤ ys.length ∧ i = .int .i64 k ∧ Hid (∀ j, j < k → dcmp (xs.getD j dz) (ys.getD j dz) = 0) ∧ Hid (Below w.heap.size w wr)) (fun i _ => xs.length - (intOf i).toNat)
  case atStart => exact ⟨0, Nat.zero_le _, Nat.zero_le _, rfl, fun j hj => by omega, Below.refl _ _⟩
  case round =>
    obtain ⟨k, hk, hky, rfl, HG, HB⟩ := hrel
    have i1 : (0 : Int) ≤ (k : Int) := by omega
    by_cases hk' : k < xs.length
    · obtain ⟨b, o, rfl, hz, e0, e1, e2, e3⟩ := HH.out.at HB.out hk'
      have i2 : (k : Int) < (xs.length : Int) := by omega
      by_cases hy' : k < ys.length
      · obtain ⟨b', o', rfl, hz', f0, f1, f2, f3⟩ := HH'.out.at HB.out hy'
        have i3 : (k : Int) < (ys.length : Int) := by omega
        have HBA : ∀ X Y, Hid (Below w.heap.size w ((wr.alloc X).alloc Y)) := fun X Y => (HB.out.alloc HB.out.size X).alloc (HB.out.alloc HB.out.size X).size Y
        have HN : Hid (dcmp (xs.getD k dz) (ys.getD k dz) ≠ 0 → depsCmp xs ys = dcmp (xs.getD k dz) (ys.getD k dz)) := fun h => depsCmp_first xs ys k hk' hy' HG.out h
        have HG' : Hid (dcmp (xs.getD k dz) (ys.getD k dz) = 0 → ∀ j, j < k + 1 → dcmp (xs.getD j dz) (ys.getD j dz) = 0) := fun h0 j hj => by
          by_cases h : j < k
          · exact HG.out j h
          · have : j = k := by omega
            rw [this]
            exact h0
        generalize xs.getD k dz = d at *
        generalize ys.getD k dz = e at *
        by_cases hd : dcmp d e = 0
        · have HD : Hid (dcmp d e = 0) := hd
          clear hd
          go_wp2_with fail
          refine (depCmp_is d e 0 HD.out _).mono ?_
          rintro r wq ⟨rfl, hq⟩
          have HBQ : Hid (Below w.heap.size w wq) := below_step (HBA _ _).out (HBA _ _).out.size hq
          clear hq HBA
          go_wp2
          exact ⟨⟨k + 1, by omega, by omega, by go_num, HG'.out HD.out, HBQ⟩, by simp [intOf]; omega⟩
        · have HD : Hid (depsCmp xs ys = dcmp d e) := HN.out hd
          have hd' : (dcmp d e != 0) = true := by rw [bne_iff_ne]; exact hd
          clear hd
          go_wp2_with fail
          refine (depCmp_is d e _ rfl _).mono ?_
          rintro r wq ⟨rfl, hq⟩
          have HBQ : Hid (Below w.heap.size w wq) := below_step (HBA _ _).out (HBA _ _).out.size hq
          clear hq HBA
          go_wp2
          go_ret
          exact ⟨ret_i64 HD.out.symm, HBQ.out⟩
      · have HF : Hid (depsCmp xs ys = 1) := by
          show depsCmp xs ys = 1
          have h := depsCmp_none xs ys (fun i h1 h2 => HG.out i (by omega))
          rw [h]
          unfold sgn
          rw [if_neg (by omega), if_pos (by omega)]
        go_wp2
        go_ret
        exact ⟨ret_i64 HF.out.symm, HB.out.alloc HB.out.size _⟩
    · have HF : Hid (depsCmp xs ys = sgn xs.length ys.length) := depsCmp_none xs ys (fun i h1 h2 => HG.out i (by omega))
      by_cases hl : xs.length < ys.length
      · have HS : Hid (sgn xs.length ys.length = -1) := by
          unfold sgn
          exact if_pos (by omega)
        go_wp2
        go_ret
        exact ⟨ret_i64 (by rw [HF.out, HS.out]), HB.out⟩
      · have HS : Hid (sgn xs.length ys.length = 0) := sgn_zero.2 (by omega)
        go_wp2
        go_ret
        exact ⟨ret_i64 (by rw [HF.out, HS.out]), HB.out⟩

theorem compareFunc_any (b o b' o' : Nat) (xs ys : List Dp) (cap cap' : Nat) (w : World) (hn : xs.length ≤ 1048576) (_hm : ys.length ≤ 1048576) (hlt : b < w.heap.size) (hlt' : b' < w.heap.size) (hh : HoldsDeps w b o xs) (hh' : HoldsDeps w b' o' ys) :
    Calls Try.prog 38 #[.slice (some ⟨b, o, none⟩) xs.length cap, .slice (some ⟨b', o', none⟩) ys.length cap', .func (.func 39) #[] #[]] w fun e w' => e = .returned (.int .i64 (depsCmp xs ys)) ∧ Below w.heap.size w w' :=
  compareFunc_gen _ _ xs ys cap cap' w hn _hm (.inr ⟨b, o, rfl, hlt, hh⟩) (.inr ⟨b', o', rfl, hlt', hh'⟩)

end Go.Proofs.Ytfapebnilbdheab
