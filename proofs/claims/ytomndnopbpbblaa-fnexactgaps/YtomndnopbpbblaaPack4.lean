import Derived.Test.YtomndnopbpbblaaPack3
import Derived.Test.YtomndnopbpbblaaPack2
import Derived.Maps.OwnSet
import Derived.DeepKeys4
/- The contract of spec.WriteCmp. -/
namespace Go.Proofs.Ytomndnopbpbblaa
open Go.ChangeShapes Go.WideShapes Go.ChangeAt Go.RowKit Go.Joins

set_option maxHeartbeats 1000000 in
theorem specWriteCmp_tag1 (k v : Int) (c s q c' s' q' : Int) (de : Bool) (a : Option Addr) (len cap : Nat) (k' v' : Int) (de' : Bool) (a' : Option Addr) (len' cap' : Nat) (w : World) (h : ¬ c = c') :
    Calls Try.prog 42 #[wrV k c s q v de a len cap, wrV k' c' s' q' v' de' a' len' cap'] w fun e w' => e = .returned (.int .i64 (tcmp c s q c' s' q')) ∧ Below w.heap.size w w' := by
  go_enter Try.func42, Try.ntmps42
  go_wp2_with fail
  refine (specTagCmp_any _ _ _ _ _ _ _).mono ?_
  rintro e w1 ⟨rfl, hb⟩
  have HB : Hid (Below w.heap.size w w1) := below_step (((Below.refl _ _).alloc (Nat.le_refl _) _).alloc (by simp) _) (by simp; omega) hb
  clear hb
  go_wp2
  go_ret
  exact ⟨rfl, HB.out⟩

set_option maxHeartbeats 1000000 in
theorem specWriteCmp_tag2 (k v : Int) (c s q s' q' : Int) (de : Bool) (a : Option Addr) (len cap : Nat) (k' v' : Int) (de' : Bool) (a' : Option Addr) (len' cap' : Nat) (w : World) (h : ¬ s = s') :
    Calls Try.prog 42 #[wrV k c s q v de a len cap, wrV k' c s' q' v' de' a' len' cap'] w fun e w' => e = .returned (.int .i64 (tcmp c s q c s' q')) ∧ Below w.heap.size w w' := by
  go_enter Try.func42, Try.ntmps42
  go_wp2_with fail
  refine (specTagCmp_any _ _ _ _ _ _ _).mono ?_
  rintro e w1 ⟨rfl, hb⟩
  have HB : Hid (Below w.heap.size w w1) := below_step (((Below.refl _ _).alloc (Nat.le_refl _) _).alloc (by simp) _) (by simp; omega) hb
  clear hb
  go_wp2
  go_ret
  exact ⟨rfl, HB.out⟩

set_option maxHeartbeats 1000000 in
theorem specWriteCmp_tag3 (k v : Int) (c s q q' : Int) (de : Bool) (a : Option Addr) (len cap : Nat) (k' v' : Int) (de' : Bool) (a' : Option Addr) (len' cap' : Nat) (w : World) (h : ¬ q = q') :
    Calls Try.prog 42 #[wrV k c s q v de a len cap, wrV k' c s q' v' de' a' len' cap'] w fun e w' => e = .returned (.int .i64 (tcmp c s q c s q')) ∧ Below w.heap.size w w' := by
  go_enter Try.func42, Try.ntmps42
  go_wp2_with fail
  refine (specTagCmp_any _ _ _ _ _ _ _).mono ?_
  rintro e w1 ⟨rfl, hb⟩
  have HB : Hid (Below w.heap.size w w1) := below_step (((Below.refl _ _).alloc (Nat.le_refl _) _).alloc (by simp) _) (by simp; omega) hb
  clear hb
  go_wp2
  go_ret
  exact ⟨rfl, HB.out⟩

set_option maxHeartbeats 1000000 in
theorem specWriteCmp_key (k c s q v : Int) (de : Bool) (a : Option Addr) (len cap : Nat) (k' v' : Int) (de' : Bool) (a' : Option Addr) (len' cap' : Nat) (w : World) (h : k ≠ k') :
    Calls Try.prog 42 #[wrV k c s q v de a len cap, wrV k' c s q v' de' a' len' cap'] w fun e w' => e = .returned (.int .i64 (sgn k k')) ∧ Below w.heap.size w w' := by
  have h' : (k != k') = true := by rw [bne_iff_ne]; exact h
  clear h
  go_enter Try.func42, Try.ntmps42
  go_wp2_with (go_at_call 53; refine (sign_any _ _ _).mono ?_; rintro e w' ⟨rfl, rfl⟩)
  go_ret
  exact ⟨rfl, ((Below.refl _ _).alloc (Nat.le_refl _) _).alloc (by simp) _⟩

set_option maxHeartbeats 1000000 in
theorem specWriteCmp_val (k c s q v : Int) (de : Bool) (a : Option Addr) (len cap : Nat) (v' : Int) (de' : Bool) (a' : Option Addr) (len' cap' : Nat) (w : World) (h : v ≠ v') :
    Calls Try.prog 42 #[wrV k c s q v de a len cap, wrV k c s q v' de' a' len' cap'] w fun e w' => e = .returned (.int .i64 (sgn v v')) ∧ Below w.heap.size w w' := by
  have h' : (v != v') = true := by rw [bne_iff_ne]; exact h
  clear h
  go_enter Try.func42, Try.ntmps42
  go_wp2_with (go_at_call 53; refine (sign_any _ _ _).mono ?_; rintro e w' ⟨rfl, rfl⟩)
  go_ret
  exact ⟨rfl, ((Below.refl _ _).alloc (Nat.le_refl _) _).alloc (by simp) _⟩

set_option maxHeartbeats 1000000 in
theorem specWriteCmp_dead_false (k c s q v : Int) (a : Option Addr) (len cap : Nat) (a' : Option Addr) (len' cap' : Nat) (w : World) :
    Calls Try.prog 42 #[wrV k c s q v false a len cap, wrV k c s q v true a' len' cap'] w fun e w' => e = .returned (.int .i64 (sgn (bit false) (bit true))) ∧ Below w.heap.size w w' := by
  go_enter Try.func42, Try.ntmps42
  go_wp2_with fail
  obtain ⟨e0, e1, e2, e3, e4, e5, e6, f0, f1, f2, f3, f4, f5, f6, hz, hB⟩ := two_start w k c s q v false a len cap k c s q v true a' len' cap' 37 37
  generalize ((w.alloc (.cells #[.int .i64 k, .int .i64 c, .int .i64 s, .int .i64 q, .int .i64 v, .bool false, .slice a len cap] 37)).alloc (.cells #[.int .i64 k, .int .i64 c, .int .i64 s, .int .i64 q, .int .i64 v, .bool true, .slice a' len' cap'] 37)) = W at *
  have hz0 : w.heap.size < W.heap.size := by omega
  have g5 := aft_cell hz0 e5
  have g5' := aft_cell hz f5
  have ne := aft_some W
  clear e0 e1 e2 e3 e4 e5 e6 f0 f1 f2 f3 f4 f5 f6
  refine wp_region_aft (by kernel_rfl) (by kernel_rfl) ?_
  repeat (first | go_big_quiet_step (first | (go_at_call 54; exact aft_same (bit_any _ _)) | (go_at_call 53; exact aft_same (sign_any _ _ _))))
  refine wpQuiet_nil ?_
  intro wq hq
  have HB : Hid (Below w.heap.size w wq) := below_step hB hB.size hq
  clear hq hB g5 g5' ne
  go_wp2
  go_ret
  exact ⟨rfl, HB.out⟩

set_option maxHeartbeats 1000000 in
theorem specWriteCmp_dead_true (k c s q v : Int) (a : Option Addr) (len cap : Nat) (a' : Option Addr) (len' cap' : Nat) (w : World) :
    Calls Try.prog 42 #[wrV k c s q v true a len cap, wrV k c s q v false a' len' cap'] w fun e w' => e = .returned (.int .i64 (sgn (bit true) (bit false))) ∧ Below w.heap.size w w' := by
  go_enter Try.func42, Try.ntmps42
  go_wp2_with fail
  obtain ⟨e0, e1, e2, e3, e4, e5, e6, f0, f1, f2, f3, f4, f5, f6, hz, hB⟩ := two_start w k c s q v true a len cap k c s q v false a' len' cap' 37 37
  generalize ((w.alloc (.cells #[.int .i64 k, .int .i64 c, .int .i64 s, .int .i64 q, .int .i64 v, .bool true, .slice a len cap] 37)).alloc (.cells #[.int .i64 k, .int .i64 c, .int .i64 s, .int .i64 q, .int .i64 v, .bool false, .slice a' len' cap'] 37)) = W at *
  have hz0 : w.heap.size < W.heap.size := by omega
  have g5 := aft_cell hz0 e5
  have g5' := aft_cell hz f5
  have ne := aft_some W
  clear e0 e1 e2 e3 e4 e5 e6 f0 f1 f2 f3 f4 f5 f6
  refine wp_region_aft (by kernel_rfl) (by kernel_rfl) ?_
  repeat (first | go_big_quiet_step (first | (go_at_call 54; exact aft_same (bit_any _ _)) | (go_at_call 53; exact aft_same (sign_any _ _ _))))
  refine wpQuiet_nil ?_
  intro wq hq
  have HB : Hid (Below w.heap.size w wq) := below_step hB hB.size hq
  clear hq hB g5 g5' ne
  go_wp2
  go_ret
  exact ⟨rfl, HB.out⟩

set_option maxRecDepth 100000 in
set_option maxHeartbeats 4000000 in
theorem specWriteCmp_deps (k c s q v : Int) (de : Bool) (a : Option Addr) (xs : List Dp) (cap : Nat) (a' : Option Addr) (ys : List Dp) (cap' : Nat) (w : World)
    (hn : xs.length ≤ 1048576) (_hm : ys.length ≤ 1048576) (hh : IsDeps w a xs) (hh' : IsDeps w a' ys) :
    Calls Try.prog 42 #[wrV k c s q v de a xs.length cap, wrV k c s q v de a' ys.length cap'] w fun e w' => e = .returned (.int .i64 (depsCmp xs ys)) ∧ Below w.heap.size w w' := by
  have HH : Hid (IsDeps w a xs) := hh
  have HH' : Hid (IsDeps w a' ys) := hh'
  clear hh hh'
  have HT := two_start w k c s q v de a xs.length cap k c s q v de a' ys.length cap' 37 37
  have HT' : Hid (TwoIn w k c s q v de a xs.length cap k c s q v de a' ys.length cap' ((w.alloc (.cells #[.int .i64 k, .int .i64 c, .int .i64 s, .int .i64 q, .int .i64 v, .bool de, .slice a xs.length cap] 37)).alloc (.cells #[.int .i64 k, .int .i64 c, .int .i64 s, .int .i64 q, .int .i64 v, .bool de, .slice a' ys.length cap'] 37))) := HT
  clear HT
  have hde : (de != de) = false := by cases de <;> rfl
  go_enter Try.func42, Try.ntmps42
  go_wp2
  go_loopw [5] (fun i wr => ∃ j : Nat, j ≤ xs.length ∧ j ≤ ys.length ∧ i = .int .i64 j ∧ Hid (∀ l, l < j → dcmp (xs.getD l dz) (ys.getD l dz) = 0) ∧ Hid (TwoIn w k c s q v de a xs.length cap k c s q v de a' ys.length cap' wr)) (fun i _ => xs.length - (intOf i).toNat)
  case atStart => exact ⟨0, Nat.zero_le _, Nat.zero_le _, rfl, fun l hl => by omega, HT'⟩
  case round =>
    clear HT'
    obtain ⟨j, hj, hjy, rfl, HG, HT⟩ := hrel
    obtain ⟨-, -, -, -, -, -, b6, -, -, -, -, -, -, b6', hzb', HB0⟩ := HT.out
    have HB : Hid (Below w.heap.size w wr) := HB0
    have hzb : w.heap.size < wr.heap.size := by omega
    clear HB0
    have i1 : (0 : Int) ≤ (j : Int) := by omega
    by_cases hj' : j < xs.length
    · have i2 : (j : Int) < (xs.length : Int) := by omega
      by_cases hy' : j < ys.length
      · have i3 : (j : Int) < (ys.length : Int) := by omega
        obtain ⟨g, o, rfl, hz, e0, e1, e2, e3⟩ := HH.out.at HB.out hj'
        obtain ⟨g', o', rfl, hz', f0, f1, f2, f3⟩ := HH'.out.at HB.out hy'
        clear HH HH'
        have HN : Hid (dcmp ⟨(xs.getD j dz).k, (xs.getD j dz).c, (xs.getD j dz).s, (xs.getD j dz).q⟩ ⟨(ys.getD j dz).k, (ys.getD j dz).c, (ys.getD j dz).s, (ys.getD j dz).q⟩ ≠ 0 → depsCmp xs ys = dcmp ⟨(xs.getD j dz).k, (xs.getD j dz).c, (xs.getD j dz).s, (xs.getD j dz).q⟩ ⟨(ys.getD j dz).k, (ys.getD j dz).c, (ys.getD j dz).s, (ys.getD j dz).q⟩) := fun h => depsCmp_first xs ys j hj' hy' HG.out h
        have HG' : Hid (dcmp ⟨(xs.getD j dz).k, (xs.getD j dz).c, (xs.getD j dz).s, (xs.getD j dz).q⟩ ⟨(ys.getD j dz).k, (ys.getD j dz).c, (ys.getD j dz).s, (ys.getD j dz).q⟩ = 0 → ∀ l, l < j + 1 → dcmp (xs.getD l dz) (ys.getD l dz) = 0) := fun h0 l hl => by
          by_cases h : l < j
          · exact HG.out l h
          · have : l = j := by omega
            rw [this]
            exact h0
        generalize (xs.getD j dz).k = x0 at *
        generalize (xs.getD j dz).c = x1 at *
        generalize (xs.getD j dz).s = x2 at *
        generalize (xs.getD j dz).q = x3 at *
        generalize (ys.getD j dz).k = y0 at *
        generalize (ys.getD j dz).c = y1 at *
        generalize (ys.getD j dz).s = y2 at *
        generalize (ys.getD j dz).q = y3 at *
        clear HB
        by_cases hk : x0 = y0
        · subst hk
          by_cases t1 : x1 = y1
          · subst t1
            by_cases t2 : x2 = y2
            · subst t2
              by_cases t3 : x3 = y3
              · subst t3
                have HG2 : Hid (∀ l, l < j + 1 → dcmp (xs.getD l dz) (ys.getD l dz) = 0) := HG'.out (by unfold dcmp; rw [if_neg (by simp)]; exact tcmp_self _ _ _)
                clear HN HG' HG
                go_wp2_with fail
                have ge0 := aft_cell hz e0
                have ge1 := aft_cell hz e1
                have ge2 := aft_cell hz e2
                have ge3 := aft_cell hz e3
                have gf0 := aft_cell hz' f0
                have gf1 := aft_cell hz' f1
                have gf2 := aft_cell hz' f2
                have gf3 := aft_cell hz' f3
                have gb6 := aft_cell hzb b6
                have gb6' := aft_cell hzb' b6'
                have ne := aft_some wr
                refine wp_region_aft (by kernel_rfl) (by kernel_rfl) ?_
                repeat (first | go_big_quiet_step (fail))
                refine wpQuiet_nil ?_
                intro wq hq
                replace e0 := held_cell hq e0 hz
                replace e1 := held_cell hq e1 hz
                replace e2 := held_cell hq e2 hz
                replace e3 := held_cell hq e3 hz
                replace f0 := held_cell hq f0 hz'
                replace f1 := held_cell hq f1 hz'
                replace f2 := held_cell hq f2 hz'
                replace f3 := held_cell hq f3 hz'
                replace b6 := held_cell hq b6 hzb
                replace b6' := held_cell hq b6' hzb'
                have HT1 : Hid (TwoIn w k c s q v de (some ⟨g, o, none⟩) xs.length cap k c s q v de (some ⟨g', o', none⟩) ys.length cap' wq) := two_step HT.out hq
                replace hz := Nat.lt_of_lt_of_le hz hq.size
                replace hz' := Nat.lt_of_lt_of_le hz' hq.size
                replace hzb := Nat.lt_of_lt_of_le hzb hq.size
                replace hzb' := Nat.lt_of_lt_of_le hzb' hq.size
                clear ge0 ge1 ge2 ge3 gf0 gf1 gf2 gf3 gb6 gb6' ne hq HT
                go_wp2_with fail
                have ge0 := aft_cell hz e0
                have ge1 := aft_cell hz e1
                have ge2 := aft_cell hz e2
                have ge3 := aft_cell hz e3
                have gf0 := aft_cell hz' f0
                have gf1 := aft_cell hz' f1
                have gf2 := aft_cell hz' f2
                have gf3 := aft_cell hz' f3
                have gb6 := aft_cell hzb b6
                have gb6' := aft_cell hzb' b6'
                have ne := aft_some wq
                refine wp_region_aft (by kernel_rfl) (by kernel_rfl) ?_
                repeat (first | go_big_quiet_step (fail))
                refine wpQuiet_nil ?_
                intro wu hu
                have HT2 : Hid (TwoIn w k c s q v de (some ⟨g, o, none⟩) xs.length cap k c s q v de (some ⟨g', o', none⟩) ys.length cap' wu) := two_step HT1.out hu
                clear hu HT1
                go_wp2
                exact ⟨⟨j + 1, by omega, by omega, by go_num, HG2, HT2⟩, by simp [intOf]; omega⟩
              · have HD : Hid (depsCmp xs ys = tcmp x1 x2 x3 x1 x2 y3) := by
                  have h1 : dcmp ⟨x0, x1, x2, x3⟩ ⟨x0, x1, x2, y3⟩ = tcmp x1 x2 x3 x1 x2 y3 := by unfold dcmp; rw [if_neg (by simp)]
                  show depsCmp xs ys = tcmp x1 x2 x3 x1 x2 y3
                  rw [← h1]
                  exact HN.out (by rw [h1]; intro h0; have h2 := tcmp_zero.1 h0; omega)
                clear HN HG'
                go_wp2_with fail
                have ge0 := aft_cell hz e0
                have ge1 := aft_cell hz e1
                have ge2 := aft_cell hz e2
                have ge3 := aft_cell hz e3
                have gf0 := aft_cell hz' f0
                have gf1 := aft_cell hz' f1
                have gf2 := aft_cell hz' f2
                have gf3 := aft_cell hz' f3
                have gb6 := aft_cell hzb b6
                have gb6' := aft_cell hzb' b6'
                have ne := aft_some wr
                refine wp_region_aft (by kernel_rfl) (by kernel_rfl) ?_
                repeat (first | go_big_quiet_step (fail))
                refine wpQuiet_nil ?_
                intro wq hq
                replace e0 := held_cell hq e0 hz
                replace e1 := held_cell hq e1 hz
                replace e2 := held_cell hq e2 hz
                replace e3 := held_cell hq e3 hz
                replace f0 := held_cell hq f0 hz'
                replace f1 := held_cell hq f1 hz'
                replace f2 := held_cell hq f2 hz'
                replace f3 := held_cell hq f3 hz'
                replace b6 := held_cell hq b6 hzb
                replace b6' := held_cell hq b6' hzb'
                have HT1 : Hid (TwoIn w k c s q v de (some ⟨g, o, none⟩) xs.length cap k c s q v de (some ⟨g', o', none⟩) ys.length cap' wq) := two_step HT.out hq
                replace hz := Nat.lt_of_lt_of_le hz hq.size
                replace hz' := Nat.lt_of_lt_of_le hz' hq.size
                replace hzb := Nat.lt_of_lt_of_le hzb hq.size
                replace hzb' := Nat.lt_of_lt_of_le hzb' hq.size
                clear ge0 ge1 ge2 ge3 gf0 gf1 gf2 gf3 gb6 gb6' ne hq HT
                go_wp2_with fail
                have ge0 := aft_cell hz e0
                have ge1 := aft_cell hz e1
                have ge2 := aft_cell hz e2
                have ge3 := aft_cell hz e3
                have gf0 := aft_cell hz' f0
                have gf1 := aft_cell hz' f1
                have gf2 := aft_cell hz' f2
                have gf3 := aft_cell hz' f3
                have gb6 := aft_cell hzb b6
                have gb6' := aft_cell hzb' b6'
                have ne := aft_some wq
                refine wp_region_aft (by kernel_rfl) (by kernel_rfl) ?_
                repeat (first | go_big_quiet_step (fail))
                refine wpQuiet_nil ?_
                intro wu hu
                replace e0 := held_cell hu e0 hz
                replace e1 := held_cell hu e1 hz
                replace e2 := held_cell hu e2 hz
                replace e3 := held_cell hu e3 hz
                replace f0 := held_cell hu f0 hz'
                replace f1 := held_cell hu f1 hz'
                replace f2 := held_cell hu f2 hz'
                replace f3 := held_cell hu f3 hz'
                replace b6 := held_cell hu b6 hzb
                replace b6' := held_cell hu b6' hzb'
                have HT2 : Hid (TwoIn w k c s q v de (some ⟨g, o, none⟩) xs.length cap k c s q v de (some ⟨g', o', none⟩) ys.length cap' wu) := two_step HT1.out hu
                replace hz := Nat.lt_of_lt_of_le hz hu.size
                replace hz' := Nat.lt_of_lt_of_le hz' hu.size
                replace hzb := Nat.lt_of_lt_of_le hzb hu.size
                replace hzb' := Nat.lt_of_lt_of_le hzb' hu.size
                clear ge0 ge1 ge2 ge3 gf0 gf1 gf2 gf3 gb6 gb6' ne hu HT1
                go_wp2_with fail
                have ge0 := aft_cell hz e0
                have ge1 := aft_cell hz e1
                have ge2 := aft_cell hz e2
                have ge3 := aft_cell hz e3
                have gf0 := aft_cell hz' f0
                have gf1 := aft_cell hz' f1
                have gf2 := aft_cell hz' f2
                have gf3 := aft_cell hz' f3
                have gb6 := aft_cell hzb b6
                have gb6' := aft_cell hzb' b6'
                have ne := aft_some wu
                refine wp_region_aft (by kernel_rfl) (by kernel_rfl) ?_
                repeat (first | go_big_quiet_step ((go_at_call 50; exact aft_of (specTagCmp_any _ _ _ _ _ _ _))))
                refine wpQuiet_nil ?_
                intro wp hp
                have HT3 : Hid (TwoIn w k c s q v de (some ⟨g, o, none⟩) xs.length cap k c s q v de (some ⟨g', o', none⟩) ys.length cap' wp) := two_step HT2.out hp
                clear hp
                go_wp2
                go_ret
                exact ⟨ret_i64 HD.out.symm, HT3.out.2.2.2.2.2.2.2.2.2.2.2.2.2.2.2⟩
            · have HD : Hid (depsCmp xs ys = tcmp x1 x2 x3 x1 y2 y3) := by
                have h1 : dcmp ⟨x0, x1, x2, x3⟩ ⟨x0, x1, y2, y3⟩ = tcmp x1 x2 x3 x1 y2 y3 := by unfold dcmp; rw [if_neg (by simp)]
                show depsCmp xs ys = tcmp x1 x2 x3 x1 y2 y3
                rw [← h1]
                exact HN.out (by rw [h1]; intro h0; have h2 := tcmp_zero.1 h0; omega)
              clear HN HG'
              go_wp2_with fail
              have ge0 := aft_cell hz e0
              have ge1 := aft_cell hz e1
              have ge2 := aft_cell hz e2
              have ge3 := aft_cell hz e3
              have gf0 := aft_cell hz' f0
              have gf1 := aft_cell hz' f1
              have gf2 := aft_cell hz' f2
              have gf3 := aft_cell hz' f3
              have gb6 := aft_cell hzb b6
              have gb6' := aft_cell hzb' b6'
              have ne := aft_some wr
              refine wp_region_aft (by kernel_rfl) (by kernel_rfl) ?_
              repeat (first | go_big_quiet_step (fail))
              refine wpQuiet_nil ?_
              intro wq hq
              replace e0 := held_cell hq e0 hz
              replace e1 := held_cell hq e1 hz
              replace e2 := held_cell hq e2 hz
              replace e3 := held_cell hq e3 hz
              replace f0 := held_cell hq f0 hz'
              replace f1 := held_cell hq f1 hz'
              replace f2 := held_cell hq f2 hz'
              replace f3 := held_cell hq f3 hz'
              replace b6 := held_cell hq b6 hzb
              replace b6' := held_cell hq b6' hzb'
              have HT1 : Hid (TwoIn w k c s q v de (some ⟨g, o, none⟩) xs.length cap k c s q v de (some ⟨g', o', none⟩) ys.length cap' wq) := two_step HT.out hq
              replace hz := Nat.lt_of_lt_of_le hz hq.size
              replace hz' := Nat.lt_of_lt_of_le hz' hq.size
              replace hzb := Nat.lt_of_lt_of_le hzb hq.size
              replace hzb' := Nat.lt_of_lt_of_le hzb' hq.size
              clear ge0 ge1 ge2 ge3 gf0 gf1 gf2 gf3 gb6 gb6' ne hq HT
              go_wp2_with fail
              have ge0 := aft_cell hz e0
              have ge1 := aft_cell hz e1
              have ge2 := aft_cell hz e2
              have ge3 := aft_cell hz e3
              have gf0 := aft_cell hz' f0
              have gf1 := aft_cell hz' f1
              have gf2 := aft_cell hz' f2
              have gf3 := aft_cell hz' f3
              have gb6 := aft_cell hzb b6
              have gb6' := aft_cell hzb' b6'
              have ne := aft_some wq
              refine wp_region_aft (by kernel_rfl) (by kernel_rfl) ?_
              repeat (first | go_big_quiet_step (fail))
              refine wpQuiet_nil ?_
              intro wu hu
              replace e0 := held_cell hu e0 hz
              replace e1 := held_cell hu e1 hz
              replace e2 := held_cell hu e2 hz
              replace e3 := held_cell hu e3 hz
              replace f0 := held_cell hu f0 hz'
              replace f1 := held_cell hu f1 hz'
              replace f2 := held_cell hu f2 hz'
              replace f3 := held_cell hu f3 hz'
              replace b6 := held_cell hu b6 hzb
              replace b6' := held_cell hu b6' hzb'
              have HT2 : Hid (TwoIn w k c s q v de (some ⟨g, o, none⟩) xs.length cap k c s q v de (some ⟨g', o', none⟩) ys.length cap' wu) := two_step HT1.out hu
              replace hz := Nat.lt_of_lt_of_le hz hu.size
              replace hz' := Nat.lt_of_lt_of_le hz' hu.size
              replace hzb := Nat.lt_of_lt_of_le hzb hu.size
              replace hzb' := Nat.lt_of_lt_of_le hzb' hu.size
              clear ge0 ge1 ge2 ge3 gf0 gf1 gf2 gf3 gb6 gb6' ne hu HT1
              go_wp2_with fail
              have ge0 := aft_cell hz e0
              have ge1 := aft_cell hz e1
              have ge2 := aft_cell hz e2
              have ge3 := aft_cell hz e3
              have gf0 := aft_cell hz' f0
              have gf1 := aft_cell hz' f1
              have gf2 := aft_cell hz' f2
              have gf3 := aft_cell hz' f3
              have gb6 := aft_cell hzb b6
              have gb6' := aft_cell hzb' b6'
              have ne := aft_some wu
              refine wp_region_aft (by kernel_rfl) (by kernel_rfl) ?_
              repeat (first | go_big_quiet_step ((go_at_call 50; exact aft_of (specTagCmp_any _ _ _ _ _ _ _))))
              refine wpQuiet_nil ?_
              intro wp hp
              have HT3 : Hid (TwoIn w k c s q v de (some ⟨g, o, none⟩) xs.length cap k c s q v de (some ⟨g', o', none⟩) ys.length cap' wp) := two_step HT2.out hp
              clear hp
              go_wp2
              go_ret
              exact ⟨ret_i64 HD.out.symm, HT3.out.2.2.2.2.2.2.2.2.2.2.2.2.2.2.2⟩
          · have HD : Hid (depsCmp xs ys = tcmp x1 x2 x3 y1 y2 y3) := by
              have h1 : dcmp ⟨x0, x1, x2, x3⟩ ⟨x0, y1, y2, y3⟩ = tcmp x1 x2 x3 y1 y2 y3 := by unfold dcmp; rw [if_neg (by simp)]
              show depsCmp xs ys = tcmp x1 x2 x3 y1 y2 y3
              rw [← h1]
              exact HN.out (by rw [h1]; intro h0; have h2 := tcmp_zero.1 h0; omega)
            clear HN HG'
            go_wp2_with fail
            have ge0 := aft_cell hz e0
            have ge1 := aft_cell hz e1
            have ge2 := aft_cell hz e2
            have ge3 := aft_cell hz e3
            have gf0 := aft_cell hz' f0
            have gf1 := aft_cell hz' f1
            have gf2 := aft_cell hz' f2
            have gf3 := aft_cell hz' f3
            have gb6 := aft_cell hzb b6
            have gb6' := aft_cell hzb' b6'
            have ne := aft_some wr
            refine wp_region_aft (by kernel_rfl) (by kernel_rfl) ?_
            repeat (first | go_big_quiet_step (fail))
            refine wpQuiet_nil ?_
            intro wq hq
            replace e0 := held_cell hq e0 hz
            replace e1 := held_cell hq e1 hz
            replace e2 := held_cell hq e2 hz
            replace e3 := held_cell hq e3 hz
            replace f0 := held_cell hq f0 hz'
            replace f1 := held_cell hq f1 hz'
            replace f2 := held_cell hq f2 hz'
            replace f3 := held_cell hq f3 hz'
            replace b6 := held_cell hq b6 hzb
            replace b6' := held_cell hq b6' hzb'
            have HT1 : Hid (TwoIn w k c s q v de (some ⟨g, o, none⟩) xs.length cap k c s q v de (some ⟨g', o', none⟩) ys.length cap' wq) := two_step HT.out hq
            replace hz := Nat.lt_of_lt_of_le hz hq.size
            replace hz' := Nat.lt_of_lt_of_le hz' hq.size
            replace hzb := Nat.lt_of_lt_of_le hzb hq.size
            replace hzb' := Nat.lt_of_lt_of_le hzb' hq.size
            clear ge0 ge1 ge2 ge3 gf0 gf1 gf2 gf3 gb6 gb6' ne hq HT
            go_wp2_with fail
            have ge0 := aft_cell hz e0
            have ge1 := aft_cell hz e1
            have ge2 := aft_cell hz e2
            have ge3 := aft_cell hz e3
            have gf0 := aft_cell hz' f0
            have gf1 := aft_cell hz' f1
            have gf2 := aft_cell hz' f2
            have gf3 := aft_cell hz' f3
            have gb6 := aft_cell hzb b6
            have gb6' := aft_cell hzb' b6'
            have ne := aft_some wq
            refine wp_region_aft (by kernel_rfl) (by kernel_rfl) ?_
            repeat (first | go_big_quiet_step (fail))
            refine wpQuiet_nil ?_
            intro wu hu
            replace e0 := held_cell hu e0 hz
            replace e1 := held_cell hu e1 hz
            replace e2 := held_cell hu e2 hz
            replace e3 := held_cell hu e3 hz
            replace f0 := held_cell hu f0 hz'
            replace f1 := held_cell hu f1 hz'
            replace f2 := held_cell hu f2 hz'
            replace f3 := held_cell hu f3 hz'
            replace b6 := held_cell hu b6 hzb
            replace b6' := held_cell hu b6' hzb'
            have HT2 : Hid (TwoIn w k c s q v de (some ⟨g, o, none⟩) xs.length cap k c s q v de (some ⟨g', o', none⟩) ys.length cap' wu) := two_step HT1.out hu
            replace hz := Nat.lt_of_lt_of_le hz hu.size
            replace hz' := Nat.lt_of_lt_of_le hz' hu.size
            replace hzb := Nat.lt_of_lt_of_le hzb hu.size
            replace hzb' := Nat.lt_of_lt_of_le hzb' hu.size
            clear ge0 ge1 ge2 ge3 gf0 gf1 gf2 gf3 gb6 gb6' ne hu HT1
            go_wp2_with fail
            have ge0 := aft_cell hz e0
            have ge1 := aft_cell hz e1
            have ge2 := aft_cell hz e2
            have ge3 := aft_cell hz e3
            have gf0 := aft_cell hz' f0
            have gf1 := aft_cell hz' f1
            have gf2 := aft_cell hz' f2
            have gf3 := aft_cell hz' f3
            have gb6 := aft_cell hzb b6
            have gb6' := aft_cell hzb' b6'
            have ne := aft_some wu
            refine wp_region_aft (by kernel_rfl) (by kernel_rfl) ?_
            repeat (first | go_big_quiet_step ((go_at_call 50; exact aft_of (specTagCmp_any _ _ _ _ _ _ _))))
            refine wpQuiet_nil ?_
            intro wp hp
            have HT3 : Hid (TwoIn w k c s q v de (some ⟨g, o, none⟩) xs.length cap k c s q v de (some ⟨g', o', none⟩) ys.length cap' wp) := two_step HT2.out hp
            clear hp
            go_wp2
            go_ret
            exact ⟨ret_i64 HD.out.symm, HT3.out.2.2.2.2.2.2.2.2.2.2.2.2.2.2.2⟩
        · have HD : Hid (depsCmp xs ys = sgn x0 y0) := by
            have h1 : dcmp ⟨x0, x1, x2, x3⟩ ⟨y0, y1, y2, y3⟩ = sgn x0 y0 := by unfold dcmp; rw [if_pos hk]
            show depsCmp xs ys = sgn x0 y0
            rw [← h1]
            exact HN.out (by rw [h1]; intro h0; exact hk (sgn_zero.1 h0))
          have hk' : (x0 != y0) = true := by rw [bne_iff_ne]; exact hk
          clear hk HN HG'
          go_wp2_with fail
          have ge0 := aft_cell hz e0
          have ge1 := aft_cell hz e1
          have ge2 := aft_cell hz e2
          have ge3 := aft_cell hz e3
          have gf0 := aft_cell hz' f0
          have gf1 := aft_cell hz' f1
          have gf2 := aft_cell hz' f2
          have gf3 := aft_cell hz' f3
          have gb6 := aft_cell hzb b6
          have gb6' := aft_cell hzb' b6'
          have ne := aft_some wr
          refine wp_region_aft (by kernel_rfl) (by kernel_rfl) ?_
          repeat (first | go_big_quiet_step (fail))
          refine wpQuiet_nil ?_
          intro wq hq
          replace e0 := held_cell hq e0 hz
          replace e1 := held_cell hq e1 hz
          replace e2 := held_cell hq e2 hz
          replace e3 := held_cell hq e3 hz
          replace f0 := held_cell hq f0 hz'
          replace f1 := held_cell hq f1 hz'
          replace f2 := held_cell hq f2 hz'
          replace f3 := held_cell hq f3 hz'
          replace b6 := held_cell hq b6 hzb
          replace b6' := held_cell hq b6' hzb'
          have HT1 : Hid (TwoIn w k c s q v de (some ⟨g, o, none⟩) xs.length cap k c s q v de (some ⟨g', o', none⟩) ys.length cap' wq) := two_step HT.out hq
          replace hz := Nat.lt_of_lt_of_le hz hq.size
          replace hz' := Nat.lt_of_lt_of_le hz' hq.size
          replace hzb := Nat.lt_of_lt_of_le hzb hq.size
          replace hzb' := Nat.lt_of_lt_of_le hzb' hq.size
          clear ge0 ge1 ge2 ge3 gf0 gf1 gf2 gf3 gb6 gb6' ne hq HT
          go_wp2_with fail
          have ge0 := aft_cell hz e0
          have ge1 := aft_cell hz e1
          have ge2 := aft_cell hz e2
          have ge3 := aft_cell hz e3
          have gf0 := aft_cell hz' f0
          have gf1 := aft_cell hz' f1
          have gf2 := aft_cell hz' f2
          have gf3 := aft_cell hz' f3
          have gb6 := aft_cell hzb b6
          have gb6' := aft_cell hzb' b6'
          have ne := aft_some wq
          refine wp_region_aft (by kernel_rfl) (by kernel_rfl) ?_
          repeat (first | go_big_quiet_step ((go_at_call 53; exact aft_same (sign_any _ _ _))))
          refine wpQuiet_nil ?_
          intro wp hp
          have HT2 : Hid (TwoIn w k c s q v de (some ⟨g, o, none⟩) xs.length cap k c s q v de (some ⟨g', o', none⟩) ys.length cap' wp) := two_step HT1.out hp
          clear hp
          go_wp2
          go_ret
          exact ⟨ret_i64 HD.out.symm, HT2.out.2.2.2.2.2.2.2.2.2.2.2.2.2.2.2⟩
      · have HF : Hid (depsCmp xs ys = sgn xs.length ys.length) := depsCmp_none xs ys (fun i h1 h2 => HG.out i (by omega))
        go_wp2_with (go_at_call 53; refine (sign_any _ _ _).mono ?_; rintro e w' ⟨rfl, rfl⟩)
        go_ret
        exact ⟨ret_i64 HF.out.symm, HB.out⟩
    · have HF : Hid (depsCmp xs ys = sgn xs.length ys.length) := depsCmp_none xs ys (fun i h1 h2 => HG.out i (by omega))
      go_wp2_with (go_at_call 53; refine (sign_any _ _ _).mono ?_; rintro e w' ⟨rfl, rfl⟩)
      go_ret
      exact ⟨ret_i64 HF.out.symm, HB.out⟩

theorem specWriteCmp_gen (k c s q v : Int) (de : Bool) (a : Option Addr) (xs : List Dp) (len cap : Nat) (k' c' s' q' v' : Int) (de' : Bool) (a' : Option Addr) (ys : List Dp) (len' cap' : Nat) (w : World) (hl : xs.length = len) (hl' : ys.length = len')
    (hn : len ≤ 1048576) (hm : len' ≤ 1048576) (hh : IsDeps w a xs) (hh' : IsDeps w a' ys) :
    Calls Try.prog 42 #[wrV k c s q v de a len cap, wrV k' c' s' q' v' de' a' len' cap'] w fun e w' => e = .returned (.int .i64 (wcmp k c s q v de xs k' c' s' q' v' de' ys)) ∧ Below w.heap.size w w' := by
  subst hl hl'
  by_cases h1 : c = c'
  · subst h1
    by_cases h2 : s = s'
    · subst h2
      by_cases h3 : q = q'
      · subst h3
        by_cases h4 : k = k'
        · subst h4
          by_cases h5 : v = v'
          · subst h5
            by_cases h6 : de = de'
            · subst h6
              rw [wcmp_deps]
              exact specWriteCmp_deps k c s q v de a xs cap a' ys cap' w hn hm hh hh'
            · rw [wcmp_dead h6]
              cases de
              · cases de'
                · exact absurd rfl h6
                · exact specWriteCmp_dead_false k c s q v _ _ cap _ _ cap' w
              · cases de'
                · exact specWriteCmp_dead_true k c s q v _ _ cap _ _ cap' w
                · exact absurd rfl h6
          · rw [wcmp_val h5]
            exact specWriteCmp_val k c s q v de _ _ cap v' de' _ _ cap' w h5
        · rw [wcmp_key h4]
          exact specWriteCmp_key k c s q v de _ _ cap k' v' de' _ _ cap' w h4
      · rw [wcmp_tag (fun h => h3 h.2.2)]
        exact specWriteCmp_tag3 k v c s q q' de _ _ cap k' v' de' _ _ cap' w h3
    · rw [wcmp_tag (fun h => h2 h.2.1)]
      exact specWriteCmp_tag2 k v c s q s' q' de _ _ cap k' v' de' _ _ cap' w h2
  · rw [wcmp_tag (fun h => h1 h.1)]
    exact specWriteCmp_tag1 k v c s q c' s' q' de _ _ cap k' v' de' _ _ cap' w h1

theorem specWriteCmp_any (k c s q v : Int) (de : Bool) (g : Nat) (xs : List Dp) (len cap : Nat) (k' c' s' q' v' : Int) (de' : Bool) (g' : Nat) (ys : List Dp) (len' cap' : Nat) (w : World) (hl : xs.length = len) (hl' : ys.length = len')
    (hn : len ≤ 1048576) (hm : len' ≤ 1048576) (hlt : g < w.heap.size) (hlt' : g' < w.heap.size) (hh : HoldsDeps w g 0 xs) (hh' : HoldsDeps w g' 0 ys) :
    Calls Try.prog 42 #[wrV k c s q v de (some ⟨g, 0, none⟩) len cap, wrV k' c' s' q' v' de' (some ⟨g', 0, none⟩) len' cap'] w fun e w' => e = .returned (.int .i64 (wcmp k c s q v de xs k' c' s' q' v' de' ys)) ∧ Below w.heap.size w w' :=
  specWriteCmp_gen k c s q v de _ xs len cap k' c' s' q' v' de' _ ys len' cap' w hl hl' hn hm (.inr ⟨g, 0, rfl, hlt, hh⟩) (.inr ⟨g', 0, rfl, hlt', hh'⟩)

end Go.Proofs.Ytomndnopbpbblaa

/- The contract of the specification's l02Put. -/
namespace Go.Proofs.Ytomndnopbpbblaa
open Go.ChangeShapes Go.WideShapes Go.ChangeAt Go.RowKit Go.Joins
attribute [local go_sem ↓] Go.wp_at_zero Go.wp_at_succ

abbrev cmpW (x y : Wr) : Int := wcmp x.k x.c x.s x.q x.v x.de x.xs y.k y.c y.s y.q y.v y.de y.xs

def putStep (x : Wr) (st : List Wr × Bool) (y : Wr) : List Wr × Bool :=
  if y.k = x.k then (if cmpW y x < 0 then (st.1 ++ [x], true) else (st.1 ++ [y], true))
  else if x.k < y.k ∧ st.2 = false then (st.1 ++ [x] ++ [y], true) else (st.1 ++ [y], st.2)

def putTo (ws : List Wr) (x : Wr) : List Wr × Bool := ws.foldl (putStep x) ([], false)

def putW (ws : List Wr) (x : Wr) : List Wr := if (putTo ws x).2 then (putTo ws x).1 else (putTo ws x).1 ++ [x]

theorem putTo_next (ws : List Wr) (x : Wr) (k : Nat) (h : k < ws.length) : putTo (ws.take (k + 1)) x = putStep x (putTo (ws.take k) x) (ws.getD k wz) := by
  have e : ws.take (k + 1) = ws.take k ++ [ws.getD k wz] := by
    rw [List.take_add_one, List.getElem?_eq_getElem h]
    simp [List.getD, h]
  unfold putTo
  rw [e, List.foldl_append]
  rfl

theorem putTo_len (ws : List Wr) (x : Wr) : (putTo ws x).1.length ≤ 2 * ws.length := by
  have : ∀ (l : List Wr) (st : List Wr × Bool), (l.foldl (putStep x) st).1.length ≤ st.1.length + 2 * l.length := by
    intro l
    induction l with
    | nil => intro st; simp
    | cons y r ih =>
      intro st
      have h := ih (putStep x st y)
      have h1 : (putStep x st y).1.length ≤ st.1.length + 2 := by
        unfold putStep
        split
        · split <;> simp
        · split <;> simp
      simp only [List.foldl_cons, List.length_cons]
      omega
  have := this ws ([], false)
  simpa [putTo] using this

abbrev cells7 (x : Wr) (g cp : Nat) : Array Value := #[.int .i64 x.k, .int .i64 x.c, .int .i64 x.s, .int .i64 x.q, .int .i64 x.v, .bool x.de, .slice (some ⟨g, 0, none⟩) x.xs.length cp]

theorem grow_own {w2 : World} {base g cp L : Nat} {es : List En} (h : RowEs w2 base g cp es) (hL : es.length = L) (o : Obj) : (w2.alloc o).ownsRow base 37 7 (.slice (some ⟨g, 0, none⟩) L cp) L (es.flatMap wrVals) := by
  have := (h.below ((Below.refl w2.heap.size w2).alloc (Nat.le_refl _) o)).own
  rw [hL] at this
  exact this

/-- One write more, in a row behind a box. -/
theorem grow_one {w w2 w5 : World} {k c s q v : Int} {de : Bool} {a : Option Addr} {len cap : Nat} {g cp g3 cp3 L : Nat} {es : List En} {x : Wr} {g2 cp2 : Nat} (hL : es.length = L) (hX : BoxIn w w2 k c s q v de a len cap) (hR : RowEs w2 (w.heap.size + 1) g cp es)
    (hG : HoldsDeps w2 g2 0 x.xs) (hg2 : g2 < w2.heap.size) (hg5 : g2 ≠ g) (hg6 : w.heap.size + 1 ≤ g2)
    (hown : w5.ownsRow (w.heap.size + 1) 37 7 (.slice (some ⟨g3, 0, none⟩) (L + 1) cp3) (L + 1) (es.flatMap wrVals ++ wrVals ⟨x, g2, cp2⟩)) (hgrow : (w2.alloc (.cells (cells7 x g2 cp2) 37)).grownBy w5 (some g)) (hg3 : some g = some g3 ∨ g3 = (w2.alloc (.cells (cells7 x g2 cp2) 37)).heap.size) :
    BoxIn w w5 k c s q v de a len cap ∧ RowEs w5 (w.heap.size + 1) g3 cp3 (es ++ [⟨x, g2, cp2⟩]) := by
  have hA : Below w2.heap.size w2 (w2.alloc (.cells (cells7 x g2 cp2) 37)) := (Below.refl _ _).alloc (Nat.le_refl _) _
  have hXA := hX.step hA
  have hle := hR.le
  refine ⟨hXA.other hgrow.size (hXA.below.grown hgrow hXA.below.size fun j hj => by injection hj with hj; omega) (hgrow.block _ hXA.lt (by simp; omega)), ?_⟩
  refine (hR.below hA).more ⟨hg6, by simp; omega, hg5, hG.below hA hg2⟩ (by rw [hL]; exact hown) hgrow hg3

theorem step_same_lt {x y : Wr} {es : List En} {st : List Wr × Bool} {put : Bool} {g cp : Nat} (hs : (es.map (·.x), put) = st) (h1 : y.k = x.k) (h2 : cmpW y x < 0) : ((es ++ [(⟨x, g, cp⟩ : En)]).map (·.x), true) = putStep x st y := by
  subst hs
  simp [putStep, h1, h2]

theorem step_same_ge {x y : Wr} {es : List En} {st : List Wr × Bool} {put : Bool} {g cp : Nat} (hs : (es.map (·.x), put) = st) (h1 : y.k = x.k) (h2 : ¬ cmpW y x < 0) : ((es ++ [(⟨y, g, cp⟩ : En)]).map (·.x), true) = putStep x st y := by
  subst hs
  simp [putStep, h1, h2]

theorem step_ahead {x y : Wr} {es : List En} {st : List Wr × Bool} {g cp g' cp' : Nat} (hs : (es.map (·.x), false) = st) (h1 : ¬ y.k = x.k) (h2 : x.k < y.k) : ((es ++ [(⟨x, g, cp⟩ : En)] ++ [(⟨y, g', cp'⟩ : En)]).map (·.x), true) = putStep x st y := by
  subst hs
  simp [putStep, h1, h2]

theorem step_else {x y : Wr} {es : List En} {st : List Wr × Bool} {put : Bool} {g cp : Nat} (hs : (es.map (·.x), put) = st) (h1 : ¬ y.k = x.k) (h2 : ¬ (x.k < y.k ∧ put = false)) : ((es ++ [(⟨y, g, cp⟩ : En)]).map (·.x), put) = putStep x st y := by
  subst hs
  simp only [putStep, h1, if_false]
  rw [if_neg h2]
  simp

end Go.Proofs.Ytomndnopbpbblaa

/- The orders of tags and writes: turned round they are turned round, and they go on. No Go in sight. -/
namespace Go.Proofs.Ytomndnopbpbblaa

def lexI (a b : Int) : Int := if a ≠ 0 then a else b

/-- What three answers of one order have to do with one another: of a with b, of b with c, of a with c. -/
structure T3 (x y z : Int) : Prop where
  l : x = 0 → z = y
  r : y = 0 → z = x
  n : x < 0 → y < 0 → z < 0

theorem T3.lex {x y z x' y' z' : Int} (h : T3 x y z) (h' : T3 x' y' z') : T3 (lexI x x') (lexI y y') (lexI z z') := by
  obtain ⟨l, r, n⟩ := h
  obtain ⟨l', r', n'⟩ := h'
  unfold lexI
  by_cases hx : x = 0
  · have hz := l hx
    by_cases hy : y = 0
    · have hz0 : z = 0 := by omega
      simp only [hx, hy, hz0, ne_eq, not_true_eq_false, if_false]
      exact ⟨l', r', n'⟩
    · have hz0 : z ≠ 0 := by omega
      simp only [hx, hy, hz0, ne_eq, not_true_eq_false, not_false_eq_true, if_false, if_true]
      exact ⟨fun _ => hz, fun e => absurd e hy, fun h1 h2 => by omega⟩
  · by_cases hy : y = 0
    · have hz := r hy
      have hz0 : z ≠ 0 := by omega
      simp only [hx, hy, hz0, ne_eq, not_true_eq_false, not_false_eq_true, if_false, if_true]
      exact ⟨fun e => absurd e hx, fun _ => hz, fun h1 h2 => by omega⟩
    · simp only [hx, hy, ne_eq, not_false_eq_true, if_true]
      refine ⟨fun e => absurd e hx, fun e => absurd e hy, fun h1 h2 => ?_⟩
      have := n h1 h2
      rw [if_pos (by omega)]
      exact this

theorem T3.on {x y z : Int} (h : T3 x y z) (hx : x ≤ 0) (hy : y ≤ 0) : z < 0 ∨ (z = 0 ∧ x = 0 ∧ y = 0) := by
  obtain ⟨l, r, n⟩ := h
  by_cases h0 : x = 0
  · have := l h0
    omega
  · by_cases h1 : y = 0
    · have := r h1
      omega
    · have := n (by omega) (by omega)
      omega

theorem lexI_neg (a b : Int) : lexI (-a) (-b) = -lexI a b := by
  unfold lexI
  by_cases h : a = 0
  · simp [h]
  · have h' : -a ≠ 0 := by omega
    simp [h]

theorem sgn_three (a b c : Int) : T3 (sgn a b) (sgn b c) (sgn a c) := by
  refine ⟨fun h => ?_, fun h => ?_, fun h1 h2 => ?_⟩
  · rw [sgn_zero.1 h]
  · rw [sgn_zero.1 h]
  · unfold sgn at *
    by_cases e1 : a < b
    · by_cases e2 : b < c
      · rw [if_pos (by omega)]
        omega
      · rw [if_neg e2] at h2
        split at h2 <;> omega
    · rw [if_neg e1] at h1
      split at h1 <;> omega

theorem tcmp_lex (c s q c' s' q' : Int) : tcmp c s q c' s' q' = lexI (sgn c c') (lexI (sgn s s') (sgn q q')) := by
  unfold tcmp lexI
  simp only [ne_eq, sgn_zero]

theorem tcmp_three (a1 a2 a3 b1 b2 b3 c1 c2 c3 : Int) : T3 (tcmp a1 a2 a3 b1 b2 b3) (tcmp b1 b2 b3 c1 c2 c3) (tcmp a1 a2 a3 c1 c2 c3) := by
  rw [tcmp_lex, tcmp_lex, tcmp_lex]
  exact (sgn_three _ _ _).lex ((sgn_three _ _ _).lex (sgn_three _ _ _))

theorem tcmp_neg (a1 a2 a3 b1 b2 b3 : Int) : tcmp b1 b2 b3 a1 a2 a3 = -tcmp a1 a2 a3 b1 b2 b3 := by
  rw [tcmp_lex, tcmp_lex, ← lexI_neg, ← lexI_neg, sgn_neg a1 b1, sgn_neg a2 b2, sgn_neg a3 b3]

theorem dcmp_lex (d e : Dp) : dcmp d e = lexI (sgn d.k e.k) (tcmp d.c d.s d.q e.c e.s e.q) := by
  unfold dcmp lexI
  simp only [ne_eq, sgn_zero]

theorem dcmp_three (d e f : Dp) : T3 (dcmp d e) (dcmp e f) (dcmp d f) := by
  rw [dcmp_lex, dcmp_lex, dcmp_lex]
  exact (sgn_three _ _ _).lex (tcmp_three _ _ _ _ _ _ _ _ _)

theorem dcmp_neg (d e : Dp) : dcmp e d = -dcmp d e := by
  rw [dcmp_lex, dcmp_lex, ← lexI_neg, sgn_neg d.k e.k, tcmp_neg d.c d.s d.q e.c e.s e.q]

theorem depsCmp_cons (d e : Dp) (r t : List Dp) : depsCmp (d :: r) (e :: t) = lexI (dcmp d e) (depsCmp r t) := rfl

theorem depsCmp_neg : ∀ xs ys : List Dp, depsCmp ys xs = -depsCmp xs ys
  | [], [] => rfl
  | [], _ :: _ => rfl
  | _ :: _, [] => rfl
  | d :: r, e :: t => by rw [depsCmp_cons, depsCmp_cons, dcmp_neg d e, depsCmp_neg r t, lexI_neg]

theorem depsCmp_three : ∀ xs ys zs : List Dp, T3 (depsCmp xs ys) (depsCmp ys zs) (depsCmp xs zs)
  | [], [], [] => ⟨fun _ => rfl, fun _ => rfl, fun h _ => absurd h (by simp [depsCmp])⟩
  | [], [], _ :: _ => ⟨fun _ => rfl, fun h => absurd h (by simp [depsCmp]), fun h _ => absurd h (by simp [depsCmp])⟩
  | [], _ :: _, [] => ⟨fun h => absurd h (by simp [depsCmp]), fun h => absurd h (by simp [depsCmp]), fun _ h => absurd h (by simp [depsCmp])⟩
  | [], _ :: _, _ :: _ => ⟨fun h => absurd h (by simp [depsCmp]), fun _ => rfl, fun _ _ => by simp [depsCmp]⟩
  | _ :: _, [], [] => ⟨fun h => absurd h (by simp [depsCmp]), fun _ => rfl, fun h _ => absurd h (by simp [depsCmp])⟩
  | _ :: _, [], _ :: _ => ⟨fun h => absurd h (by simp [depsCmp]), fun h => absurd h (by simp [depsCmp]), fun h _ => absurd h (by simp [depsCmp])⟩
  | _ :: _, _ :: _, [] => ⟨fun _ => rfl, fun h => absurd h (by simp [depsCmp]), fun _ h => absurd h (by simp [depsCmp])⟩
  | d :: r, e :: t, f :: u => by
    rw [depsCmp_cons, depsCmp_cons, depsCmp_cons]
    exact (dcmp_three d e f).lex (depsCmp_three r t u)

theorem wcmp_lex (k c s q v : Int) (de : Bool) (xs : List Dp) (k' c' s' q' v' : Int) (de' : Bool) (ys : List Dp) :
    wcmp k c s q v de xs k' c' s' q' v' de' ys = lexI (tcmp c s q c' s' q') (lexI (sgn k k') (lexI (sgn v v') (lexI (sgn (bit de) (bit de')) (depsCmp xs ys)))) := by
  unfold wcmp lexI
  simp only [ne_eq, sgn_zero (a := k), sgn_zero (a := v), bit_sgn]

theorem wcmp_three (k c s q v : Int) (de : Bool) (xs : List Dp) (k' c' s' q' v' : Int) (de' : Bool) (ys : List Dp) (k2 c2 s2 q2 v2 : Int) (de2 : Bool) (zs : List Dp) :
    T3 (wcmp k c s q v de xs k' c' s' q' v' de' ys) (wcmp k' c' s' q' v' de' ys k2 c2 s2 q2 v2 de2 zs) (wcmp k c s q v de xs k2 c2 s2 q2 v2 de2 zs) := by
  rw [wcmp_lex, wcmp_lex, wcmp_lex]
  exact (tcmp_three _ _ _ _ _ _ _ _ _).lex ((sgn_three _ _ _).lex ((sgn_three _ _ _).lex ((sgn_three _ _ _).lex (depsCmp_three _ _ _))))

theorem wcmp_neg (k c s q v : Int) (de : Bool) (xs : List Dp) (k' c' s' q' v' : Int) (de' : Bool) (ys : List Dp) :
    wcmp k' c' s' q' v' de' ys k c s q v de xs = -wcmp k c s q v de xs k' c' s' q' v' de' ys := by
  rw [wcmp_lex, wcmp_lex, ← lexI_neg, ← lexI_neg, ← lexI_neg, ← lexI_neg, tcmp_neg c s q, sgn_neg k k', sgn_neg v v', sgn_neg (bit de) (bit de'), depsCmp_neg xs ys]

theorem depsCmp_bd : ∀ xs ys : List Dp, -1 ≤ depsCmp xs ys ∧ depsCmp xs ys ≤ 1
  | [], [] => by simp [depsCmp]
  | [], _ :: _ => by simp [depsCmp]
  | _ :: _, [] => by simp [depsCmp]
  | d :: r, e :: t => by
    have h := depsCmp_bd r t
    have h1 := sgn_bd d.k e.k
    have h2 := tcmp_bd d.c d.s d.q e.c e.s e.q
    rw [depsCmp_cons, dcmp_lex]
    unfold lexI
    by_cases g1 : sgn d.k e.k = 0
    · by_cases g2 : tcmp d.c d.s d.q e.c e.s e.q = 0
      · simpa [g1, g2] using h
      · simpa [g1, g2] using h2
    · simpa [g1] using h1

theorem wcmp_bd (k c s q v : Int) (de : Bool) (xs : List Dp) (k' c' s' q' v' : Int) (de' : Bool) (ys : List Dp) : -1 ≤ wcmp k c s q v de xs k' c' s' q' v' de' ys ∧ wcmp k c s q v de xs k' c' s' q' v' de' ys ≤ 1 := by
  have h1 := tcmp_bd c s q c' s' q'
  have h2 := sgn_bd k k'
  have h3 := sgn_bd v v'
  have h4 := sgn_bd (bit de) (bit de')
  have h5 := depsCmp_bd xs ys
  unfold wcmp
  split
  · exact h1
  · split
    · exact h2
    · split
      · exact h3
      · split
        · exact h4
        · exact h5

end Go.Proofs.Ytomndnopbpbblaa

/- Maps as lists of writes whose keys rise: what is put, what is joined, what registers tell. No Go in sight. -/
namespace Go.Proofs.Ytomndnopbpbblaa

/-- The keys rise. -/
def Rise (ws : List Wr) : Prop := ws.Pairwise fun x y => x.k < y.k

theorem rise_of_next : ∀ {ws : List Wr}, (∀ i, i + 1 < ws.length → (ws.getD i wz).k < (ws.getD (i + 1) wz).k) → Rise ws
  | [], _ => List.Pairwise.nil
  | [x], _ => by simp [Rise]
  | x :: y :: r, h => by
    have ih : Rise (y :: r) := rise_of_next fun i hi => h (i + 1) (by simpa using hi)
    have h0 : x.k < y.k := h 0 (by simp)
    refine List.Pairwise.cons (fun z hz => ?_) ih
    rcases List.mem_cons.1 hz with e | hz
    · rw [e]; exact h0
    · have h1 : y.k < z.k := (List.pairwise_cons.1 ih).1 z hz
      omega

theorem rise_next : ∀ {ws : List Wr}, Rise ws → ∀ i, i + 1 < ws.length → (ws.getD i wz).k < (ws.getD (i + 1) wz).k
  | [], _, i, h => by simp at h
  | x :: r, hr, i, h => by
    have hp := List.pairwise_cons.1 hr
    cases i with
    | zero =>
      cases r with
      | nil => simp at h
      | cons y r => exact hp.1 y (by simp)
    | succ i => exact rise_next (ws := r) hp.2 i (by simpa using h)

theorem mapOk_iff (ws : List Wr) : mapOkB ws = true ↔ (∀ x ∈ ws, okW x = true) ∧ Rise ws := by
  unfold mapOkB
  rw [List.all_eq_true]
  constructor
  · intro h
    have h' : ∀ i, i < ws.length → okW (ws.getD i wz) = true ∧ (i = 0 ∨ (ws.getD (i - 1) wz).k < (ws.getD i wz).k) := fun i hi => by
      have := h i (List.mem_range.2 hi)
      unfold wrGood at this
      simpa only [Bool.and_eq_true, decide_eq_true_eq] using this
    refine ⟨fun x hx => ?_, rise_of_next fun i hi => ?_⟩
    · obtain ⟨i, hi, rfl⟩ := List.mem_iff_getElem.1 hx
      have := (h' i hi).1
      simpa [List.getD, hi] using this
    · rcases (h' (i + 1) hi).2 with h0 | h0
      · omega
      · simpa using h0
  · rintro ⟨h1, h2⟩ i hi
    have hi := List.mem_range.1 hi
    unfold wrGood
    simp only [Bool.and_eq_true, decide_eq_true_eq]
    refine ⟨h1 _ (by simp [List.getD, hi]), ?_⟩
    cases i with
    | zero => exact .inl rfl
    | succ i => exact .inr (by simpa using rise_next h2 i hi)

/-- A write put to a map, said by recursion. -/
def putR : List Wr → Wr → List Wr
  | [], x => [x]
  | y :: r, x => if y.k = x.k then (if cmpW y x < 0 then x else y) :: r else if x.k < y.k then x :: y :: r else y :: putR r x

theorem putStep_past (x : Wr) : ∀ (ws acc : List Wr), (∀ y ∈ ws, x.k < y.k) → ws.foldl (putStep x) (acc, true) = (acc ++ ws, true)
  | [], acc, _ => by simp
  | y :: r, acc, h => by
    have hy : x.k < y.k := h y (by simp)
    have e : putStep x (acc, true) y = (acc ++ [y], true) := by
      unfold putStep
      rw [if_neg (by omega), if_neg (by simp)]
    rw [List.foldl_cons, e, putStep_past x r _ fun z hz => h z (by simp [hz])]
    simp

theorem putStep_fold (x : Wr) : ∀ (ws acc : List Wr), Rise ws → (if (ws.foldl (putStep x) (acc, false)).2 then (ws.foldl (putStep x) (acc, false)).1 else (ws.foldl (putStep x) (acc, false)).1 ++ [x]) = acc ++ putR ws x
  | [], acc, _ => by simp [putR]
  | y :: r, acc, h => by
    have hp := List.pairwise_cons.1 h
    rw [List.foldl_cons]
    unfold putR
    by_cases h1 : y.k = x.k
    · have hr : ∀ z ∈ r, x.k < z.k := fun z hz => by have := hp.1 z hz; omega
      by_cases h2 : cmpW y x < 0
      · have e : putStep x (acc, false) y = (acc ++ [x], true) := by simp [putStep, h1, h2]
        rw [e, putStep_past x r _ hr]
        simp [h1, h2]
      · have e : putStep x (acc, false) y = (acc ++ [y], true) := by simp [putStep, h1, h2]
        rw [e, putStep_past x r _ hr]
        simp [h1, h2]
    · by_cases h2 : x.k < y.k
      · have hr : ∀ z ∈ r, x.k < z.k := fun z hz => by have := hp.1 z hz; omega
        have e : putStep x (acc, false) y = (acc ++ [x] ++ [y], true) := by simp [putStep, h1, h2]
        rw [e, putStep_past x r _ hr]
        simp [h1, h2]
      · have e : putStep x (acc, false) y = (acc ++ [y], false) := by simp [putStep, h1, h2]
        rw [e, putStep_fold x r _ hp.2]
        simp [h1, h2]

theorem putW_eq {ws : List Wr} (h : Rise ws) (x : Wr) : putW ws x = putR ws x := by
  have := putStep_fold x ws [] h
  rw [List.nil_append] at this
  exact this

/-- The later one of what is there and what comes. -/
def laterO (o : Option Wr) (x : Wr) : Wr := match o with | none => x | some y => if cmpW y x < 0 then x else y

theorem findW_cons (y : Wr) (r : List Wr) (key : Int) : findW (y :: r) key = if y.k = key then some y else findW r key := by
  unfold findW
  rw [List.find?_cons]
  by_cases h : y.k = key
  · simp [h]
  · rw [beq_eq_false_iff_ne.2 h, if_neg h]

theorem findW_past : ∀ {ws : List Wr} {key : Int}, (∀ y ∈ ws, key < y.k) → findW ws key = none
  | [], _, _ => rfl
  | y :: r, key, h => by
    rw [findW_cons, if_neg (by have := h y (by simp); omega), findW_past fun z hz => h z (by simp [hz])]

theorem later_key {o : Option Wr} {x : Wr} (h : ∀ y, o = some y → y.k = x.k) : (laterO o x).k = x.k := by
  unfold laterO
  split
  · rfl
  · split
    · rfl
    · exact h _ rfl

theorem findW_key {ws : List Wr} {key : Int} {x : Wr} (h : findW ws key = some x) : x.k = key := by
  have := List.find?_some h
  simpa using this

theorem findW_mem {ws : List Wr} {key : Int} {x : Wr} (h : findW ws key = some x) : x ∈ ws := List.mem_of_find?_eq_some h

theorem find_putR : ∀ (ws : List Wr) (x : Wr) (key : Int), Rise ws → findW (putR ws x) key = if key = x.k then some (laterO (findW ws x.k) x) else findW ws key
  | [], x, key, _ => by
    simp only [putR, findW_cons]
    by_cases h : x.k = key
    · rw [if_pos h, if_pos h.symm]
      rfl
    · rw [if_neg h, if_neg (fun e => h e.symm)]
  | y :: r, x, key, h => by
    have hp := List.pairwise_cons.1 h
    unfold putR
    by_cases h1 : y.k = x.k
    · rw [if_pos h1, findW_cons, findW_cons y r x.k, if_pos h1, findW_cons y r key]
      by_cases h2 : cmpW y x < 0
      · simp only [h2, if_true, laterO, h1, eq_comm]
        by_cases h3 : key = x.k <;> simp [h3]
      · simp only [h2, if_false, laterO, h1, eq_comm]
        by_cases h3 : key = x.k <;> simp [h3]
    · rw [if_neg h1]
      by_cases h2 : x.k < y.k
      · rw [if_pos h2, findW_cons]
        have hn : findW (y :: r) x.k = none := findW_past fun z hz => by
          rcases List.mem_cons.1 hz with e | hz
          · rw [e]; exact h2
          · have := hp.1 z hz; omega
        rw [hn]
        by_cases h3 : x.k = key
        · rw [if_pos h3, if_pos h3.symm]
          rfl
        · rw [if_neg h3, if_neg (fun e => h3 e.symm)]
      · rw [if_neg h2, findW_cons, find_putR r x key hp.2, findW_cons, if_neg h1, findW_cons]
        by_cases h3 : y.k = key
        · rw [if_pos h3, if_neg (by omega), if_pos h3]
        · rw [if_neg h3, if_neg h3]

theorem putR_mem : ∀ (ws : List Wr) (x z : Wr), z ∈ putR ws x → z = x ∨ z ∈ ws
  | [], x, z, h => by simpa [putR] using h
  | y :: r, x, z, h => by
    unfold putR at h
    by_cases h1 : y.k = x.k
    · rw [if_pos h1] at h
      by_cases h2 : cmpW y x < 0
      · rw [if_pos h2] at h
        rcases List.mem_cons.1 h with h | h
        · exact .inl h
        · exact .inr (by simp [h])
      · rw [if_neg h2] at h
        exact .inr h
    · rw [if_neg h1] at h
      by_cases h2 : x.k < y.k
      · rw [if_pos h2] at h
        rcases List.mem_cons.1 h with h | h
        · exact .inl h
        · exact .inr h
      · rw [if_neg h2] at h
        rcases List.mem_cons.1 h with h | h
        · exact .inr (by simp [h])
        · rcases putR_mem r x z h with h | h
          · exact .inl h
          · exact .inr (by simp [h])

theorem rise_putR : ∀ (ws : List Wr) (x : Wr), Rise ws → Rise (putR ws x)
  | [], x, _ => by simp [putR, Rise]
  | y :: r, x, h => by
    have hp := List.pairwise_cons.1 h
    unfold putR
    by_cases h1 : y.k = x.k
    · rw [if_pos h1]
      by_cases h2 : cmpW y x < 0
      · rw [if_pos h2]
        exact List.Pairwise.cons (fun z hz => by have := hp.1 z hz; omega) hp.2
      · rw [if_neg h2]
        exact h
    · rw [if_neg h1]
      by_cases h2 : x.k < y.k
      · rw [if_pos h2]
        refine List.Pairwise.cons (fun z hz => ?_) h
        rcases List.mem_cons.1 hz with e | hz
        · rw [e]; exact h2
        · have := hp.1 z hz; omega
      · rw [if_neg h2]
        refine List.Pairwise.cons (fun z hz => ?_) (rise_putR r x hp.2)
        rcases putR_mem r x z hz with e | hz
        · rw [e]; omega
        · exact hp.1 z hz

theorem rise_putW {ws : List Wr} (h : Rise ws) (x : Wr) : Rise (putW ws x) := by
  rw [putW_eq h]
  exact rise_putR ws x h

theorem putW_mem {ws : List Wr} (h : Rise ws) {x z : Wr} (hz : z ∈ putW ws x) : z = x ∨ z ∈ ws := by
  rw [putW_eq h] at hz
  exact putR_mem ws x z hz

theorem find_putW {ws : List Wr} (h : Rise ws) (x : Wr) (key : Int) : findW (putW ws x) key = if key = x.k then some (laterO (findW ws x.k) x) else findW ws key := by
  rw [putW_eq h]
  exact find_putR ws x key h

/-- What is told of six registers, in order. -/
def toldM (M : Int → Option Wr) : List Wr := [(0 : Int), 1, 2, 3, 4, 5].filterMap M

theorem filterMap_same {α β : Type} {f g : α → Option β} : ∀ {l : List α}, (∀ x ∈ l, f x = g x) → l.filterMap f = l.filterMap g
  | [], _ => rfl
  | x :: r, h => by rw [List.filterMap_cons, List.filterMap_cons, h x (by simp), filterMap_same fun y hy => h y (by simp [hy])]

theorem told_rise : ∀ (ks : List Int) (ws : List Wr), ks.Pairwise (· < ·) → Rise ws → (∀ x ∈ ws, x.k ∈ ks) → ks.filterMap (findW ws) = ws
  | [], [], _, _, _ => rfl
  | [], x :: r, _, _, h => by simpa using h x (by simp)
  | k :: ks, [], _, _, _ => by simp [findW, List.filterMap_eq_nil_iff]
  | k :: ks, x :: r, hk, hr, h => by
    have hpk := List.pairwise_cons.1 hk
    have hpr := List.pairwise_cons.1 hr
    by_cases e : x.k = k
    · rw [List.filterMap_cons, findW_cons, if_pos e]
      simp only
      have ih := told_rise ks r hpk.2 hpr.2 fun y hy => by
        have h1 := h y (by simp [hy])
        rcases List.mem_cons.1 h1 with h2 | h2
        · have := hpr.1 y hy; omega
        · exact h2
      congr 1
      refine (filterMap_same fun j hj => ?_).trans ih
      rw [findW_cons, if_neg (by have := hpk.1 j hj; omega)]
    · have hx : k < x.k := by
        have h1 := h x (by simp)
        rcases List.mem_cons.1 h1 with h2 | h2
        · exact absurd h2 e
        · exact hpk.1 _ h2
      have hn : findW (x :: r) k = none := findW_past fun z hz => by
        rcases List.mem_cons.1 hz with e | hz
        · rw [e]; exact hx
        · have := hpr.1 z hz; omega
      rw [List.filterMap_cons, hn]
      simp only
      refine told_rise ks (x :: r) hpk.2 hr fun y hy => ?_
      have h1 := h y hy
      rcases List.mem_cons.1 h1 with h2 | h2
      · rcases List.mem_cons.1 hy with e' | hy
        · rw [e'] at h2; exact absurd h2 e
        · have := hpr.1 y hy; omega
      · exact h2

theorem told_find {ws : List Wr} (hr : Rise ws) (hk : ∀ x ∈ ws, 0 ≤ x.k ∧ x.k ≤ 5) : toldM (findW ws) = ws := by
  refine told_rise _ ws (by decide) hr fun x hx => ?_
  have := hk x hx
  simp only [List.mem_cons, List.not_mem_nil, or_false]
  omega

/-- A write put to a register. -/
def regPut (M : Int → Option Wr) (x : Wr) : Int → Option Wr := fun key => if key = x.k then some (laterO (M x.k) x) else M key

def joinW (a b : List Wr) : List Wr := b.foldl putW a

theorem join_spec : ∀ (b a : List Wr), Rise a → Rise (joinW a b) ∧ (∀ z ∈ joinW a b, z ∈ a ∨ z ∈ b) ∧ ∀ key, findW (joinW a b) key = b.foldl regPut (findW a) key
  | [], a, h => ⟨h, fun _ hz => .inl hz, fun _ => rfl⟩
  | x :: b, a, h => by
    obtain ⟨h1, h2, h3⟩ := join_spec b (putW a x) (rise_putW h x)
    refine ⟨h1, fun z hz => ?_, fun key => ?_⟩
    · rcases h2 z hz with h4 | h4
      · rcases putW_mem h h4 with h5 | h5
        · exact .inr (by simp [h5])
        · exact .inl h5
      · exact .inr (by simp [h4])
    · have e : findW (putW a x) = regPut (findW a) x := funext fun key => find_putW h x key
      show findW (joinW (putW a x) b) key = _
      rw [h3 key, e]
      rfl

/-- A map's own writes, put one by one to empty registers, are the map. -/
theorem regs_self : ∀ (b a : List Wr), Rise (a ++ b) → b.foldl regPut (findW a) = findW (a ++ b)
  | [], a, _ => by simp
  | x :: b, a, h => by
    have h' : Rise (a ++ [x] ++ b) := by simpa using h
    have ha : ∀ y ∈ a, y.k < x.k := fun y hy => (List.pairwise_append.1 h).2.2 y hy x (by simp)
    have e : regPut (findW a) x = findW (a ++ [x]) := by
      funext key
      unfold regPut
      have hx : findW a x.k = none := by
        unfold findW
        rw [List.find?_eq_none]
        intro y hy
        have := ha y hy
        simp
        omega
      have hs : findW (a ++ [x]) key = (findW a key).or (findW [x] key) := by
        unfold findW
        rw [List.find?_append]
      rw [hs]
      by_cases hk : key = x.k
      · subst hk
        rw [if_pos rfl, hx, findW_cons, if_pos rfl]
        rfl
      · rw [if_neg hk, findW_cons, if_neg (fun e => hk e.symm)]
        cases findW a key <;> rfl
    show b.foldl regPut (regPut (findW a) x) = _
    rw [e, regs_self b (a ++ [x]) h']
    simp

theorem regs_map {a : List Wr} (h : Rise a) : a.foldl regPut (fun _ => none) = findW a := by
  have e : findW [] = fun _ => none := rfl
  have := regs_self a [] (by simpa using h)
  rw [e, List.nil_append] at this
  exact this

/-- What the registers tell at last is the join. -/
theorem told_join {a b : List Wr} (ha : Rise a) (ka : ∀ x ∈ a, 0 ≤ x.k ∧ x.k ≤ 5) (kb : ∀ x ∈ b, 0 ≤ x.k ∧ x.k ≤ 5) : toldM (b.foldl regPut (a.foldl regPut (fun _ => none))) = joinW a b := by
  obtain ⟨h1, h2, h3⟩ := join_spec b a ha
  have e : b.foldl regPut (a.foldl regPut (fun _ => none)) = findW (joinW a b) := by
    rw [regs_map ha]
    exact funext fun key => (h3 key).symm
  rw [e]
  exact told_find h1 fun x hx => by
    rcases h2 x hx with h | h
    · exact ka x h
    · exact kb x h

end Go.Proofs.Ytomndnopbpbblaa

/- What a put keeps: lengths, members. -/
namespace Go.Proofs.Ytomndnopbpbblaa
open Go.ChangeShapes Go.WideShapes Go.ChangeAt Go.RowKit Go.Joins

theorem few_iff {ws : List Wr} : Few ws ↔ ∀ x ∈ ws, x.xs.length ≤ 1048576 := by
  constructor
  · intro h x hx
    obtain ⟨i, hi, rfl⟩ := List.mem_iff_getElem.1 hx
    have := h i hi
    simpa [List.getD, hi] using this
  · intro h i hi
    exact h _ (by simp [List.getD, hi])

theorem fold_mem (x : Wr) : ∀ (ws : List Wr) (st : List Wr × Bool), ∀ z ∈ (ws.foldl (putStep x) st).1, z ∈ st.1 ∨ z = x ∨ z ∈ ws
  | [], st, z, h => .inl h
  | y :: r, st, z, h => by
    rcases fold_mem x r (putStep x st y) z h with h1 | h1 | h1
    · unfold putStep at h1
      split at h1
      · split at h1
        · rcases List.mem_append.1 h1 with h2 | h2
          · exact .inl h2
          · exact .inr (.inl (by simpa using h2))
        · rcases List.mem_append.1 h1 with h2 | h2
          · exact .inl h2
          · exact .inr (.inr (by simp at h2; simp [h2]))
      · split at h1
        · rcases List.mem_append.1 h1 with h2 | h2
          · rcases List.mem_append.1 h2 with h3 | h3
            · exact .inl h3
            · exact .inr (.inl (by simpa using h3))
          · exact .inr (.inr (by simp at h2; simp [h2]))
        · rcases List.mem_append.1 h1 with h2 | h2
          · exact .inl h2
          · exact .inr (.inr (by simp at h2; simp [h2]))
    · exact .inr (.inl h1)
    · exact .inr (.inr (by simp [h1]))

theorem put_mem (ws : List Wr) (x : Wr) : ∀ z ∈ putW ws x, z = x ∨ z ∈ ws := by
  intro z hz
  have h := fold_mem x ws ([], false) z
  unfold putW at hz
  split at hz
  · rcases h hz with h1 | h1
    · simp at h1
    · exact h1
  · rcases List.mem_append.1 hz with h1 | h1
    · rcases h h1 with h2 | h2
      · simp at h2
      · exact h2
    · exact .inl (by simpa using h1)

def pend (b : Bool) : Nat := match b with | true => 0 | false => 1

theorem fold_len (x : Wr) : ∀ (ws : List Wr) (st : List Wr × Bool), (ws.foldl (putStep x) st).1.length + pend (ws.foldl (putStep x) st).2 ≤ st.1.length + pend st.2 + ws.length
  | [], st => Nat.le_refl _
  | y :: r, st => by
    have h := fold_len x r (putStep x st y)
    have h1 : (putStep x st y).1.length + pend (putStep x st y).2 ≤ st.1.length + pend st.2 + 1 := by
      unfold putStep
      split
      · split
        · simp [pend]
        · simp [pend]
      · split
        · rename_i h2
          simp [h2.2, pend]
        · simp
          omega
    simp only [List.foldl_cons, List.length_cons]
    omega

theorem put_len (ws : List Wr) (x : Wr) : (putW ws x).length ≤ ws.length + 1 := by
  have h := fold_len x ws ([], false)
  have e : putTo ws x = ws.foldl (putStep x) ([], false) := rfl
  rw [← e] at h
  unfold putW
  cases h1 : (putTo ws x).2
  · rw [h1] at h
    simp [pend] at h ⊢
    omega
  · rw [h1] at h
    simp [pend] at h ⊢
    omega

theorem put_few {ws : List Wr} {x : Wr} (h : Few ws) (hx : x.xs.length ≤ 1048576) : Few (putW ws x) := by
  rw [few_iff] at *
  intro z hz
  rcases put_mem ws x z hz with h1 | h1
  · rw [h1]; exact hx
  · exact h z h1

theorem RowEs.mono {w : World} {base base' g cap : Nat} {es : List En} (h : RowEs w base g cap es) (hb : base' ≤ base) : RowEs w base' g cap es where
  le := Nat.le_trans hb h.le
  lt := h.lt
  own := by
    refine ⟨h.own.1, ?_⟩
    rcases h.own.2 with h1 | ⟨g, cap, cur, h1, h2, h3⟩
    · exact .inl h1
    · exact .inr ⟨g, cap, cur, h1, Nat.le_trans hb h2, h3⟩
  deps := fun e he => ⟨Nat.le_trans hb (h.deps e he).1, (h.deps e he).2⟩

theorem RowEs.setBelow {w : World} {base g cap : Nat} {es : List En} (h : RowEs w base g cap es) {X : Nat} (hX : X < base) (o : Nat) (u : Value) : RowEs (w.setCell ⟨X, o, none⟩ u) base g cap es where
  le := h.le
  lt := by simpa [World.setCell] using h.lt
  own := ownsRow_setCell_below (a := ⟨X, o, none⟩) h.own hX u
  deps := fun e he => by
    obtain ⟨h1, h2, h3, h4⟩ := h.deps e he
    have hne : ∀ o', (⟨X, o, none⟩ : Addr) ≠ ⟨e.g, o', none⟩ := fun o' hh => by
      injection hh with hb
      omega
    refine ⟨h1, by simpa [World.setCell] using h2, h3, fun i hi => ?_⟩
    obtain ⟨a0, a1, a2, a3⟩ := h4 i hi
    exact ⟨(World.cell?_setCell_other _ _ _ _ (hne _)).trans a0, (World.cell?_setCell_other _ _ _ _ (hne _)).trans a1, (World.cell?_setCell_other _ _ _ _ (hne _)).trans a2, (World.cell?_setCell_other _ _ _ _ (hne _)).trans a3⟩

end Go.Proofs.Ytomndnopbpbblaa

/- Registers: a map whose keys are arrays of one number, told as a function from keys to writes. -/
namespace Go.Proofs.Ytomndnopbpbblaa
open Go.ChangeShapes Go.WideShapes Go.ChangeAt Go.RowKit Go.Joins Go.Maps

abbrev slotV (k : Int) : Value := .agg #[.int .i64 k]

def slotL (k : Int) : Lit := .string (keyBytes [.int .i64 k])

set_option maxRecDepth 100000 in
theorem slot_int : Try.prog.cellsOf 3 = 1 := by kernel_rfl

set_option maxRecDepth 100000 in
theorem zeroW (w : World) : (zeroValue 37).run Try.prog w = .ok (wrV 0 0 0 0 0 false none 0 0) w := by kernel_rfl

/-- An element is told by itself. -/
def asIs (v : Value) : Option (DataW Value × List MemPlace) := some (.held v, [])

end Go.Proofs.Ytomndnopbpbblaa
