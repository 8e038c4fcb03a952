import Derived.Test.YtojgahcogpediaaPack3
import Derived.Test.YtojgahcogpediaaPack2
/- The contract of spec.WriteCmp. -/
namespace Go.Proofs.Ytojgahcogpediaa
open Go.ChangeShapes Go.WideShapes Go.ChangeAt Go.RowKit Go.Joins

set_option maxHeartbeats 1000000 in
theorem specWriteCmp_tag1 (k v : Int) (c s q c' s' q' : Int) (de : Bool) (a : Option Addr) (len cap : Nat) (k' v' : Int) (de' : Bool) (a' : Option Addr) (len' cap' : Nat) (w : World) (h : ¬ c = c') :
    Calls Try.prog 27 #[wrV k c s q v de a len cap, wrV k' c' s' q' v' de' a' len' cap'] w fun e w' => e = .returned (.int .i64 (tcmp c s q c' s' q')) ∧ Below w.heap.size w w' := by
  go_enter Try.func27, Try.ntmps27
  go_wp2_with fail
  refine (specTagCmp_any _ _ _ _ _ _ _).mono ?_
  rintro e w1 ⟨rfl, hb⟩
  have HB : Hid (Below w.heap.size w w1) := below_step (((Below.refl _ _).alloc (Nat.le_refl _) _).alloc (by simp) _) (by simp; omega) hb
  clear hb
  go_wp2
  go_ret
  exact ⟨rfl, HB.out⟩

set_option maxHeartbeats 1000000 in
theorem specWriteCmp_tag2 (k v : Int) (c s q s' q' : Int) (de : Bool) (a : Option Addr) (len cap : Nat) (k' v' : Int) (de' : Bool) (a' : Option Addr) (len' cap' : Nat) (w : World) (h : ¬ s = s') :
    Calls Try.prog 27 #[wrV k c s q v de a len cap, wrV k' c s' q' v' de' a' len' cap'] w fun e w' => e = .returned (.int .i64 (tcmp c s q c s' q')) ∧ Below w.heap.size w w' := by
  go_enter Try.func27, Try.ntmps27
  go_wp2_with fail
  refine (specTagCmp_any _ _ _ _ _ _ _).mono ?_
  rintro e w1 ⟨rfl, hb⟩
  have HB : Hid (Below w.heap.size w w1) := below_step (((Below.refl _ _).alloc (Nat.le_refl _) _).alloc (by simp) _) (by simp; omega) hb
  clear hb
  go_wp2
  go_ret
  exact ⟨rfl, HB.out⟩

set_option maxHeartbeats 1000000 in
theorem specWriteCmp_tag3 (k v : Int) (c s q q' : Int) (de : Bool) (a : Option Addr) (len cap : Nat) (k' v' : Int) (de' : Bool) (a' : Option Addr) (len' cap' : Nat) (w : World) (h : ¬ q = q') :
    Calls Try.prog 27 #[wrV k c s q v de a len cap, wrV k' c s q' v' de' a' len' cap'] w fun e w' => e = .returned (.int .i64 (tcmp c s q c s q')) ∧ Below w.heap.size w w' := by
  go_enter Try.func27, Try.ntmps27
  go_wp2_with fail
  refine (specTagCmp_any _ _ _ _ _ _ _).mono ?_
  rintro e w1 ⟨rfl, hb⟩
  have HB : Hid (Below w.heap.size w w1) := below_step (((Below.refl _ _).alloc (Nat.le_refl _) _).alloc (by simp) _) (by simp; omega) hb
  clear hb
  go_wp2
  go_ret
  exact ⟨rfl, HB.out⟩

set_option maxHeartbeats 1000000 in
theorem specWriteCmp_key (k c s q v : Int) (de : Bool) (a : Option Addr) (len cap : Nat) (k' v' : Int) (de' : Bool) (a' : Option Addr) (len' cap' : Nat) (w : World) (h : k ≠ k') :
    Calls Try.prog 27 #[wrV k c s q v de a len cap, wrV k' c s q v' de' a' len' cap'] w fun e w' => e = .returned (.int .i64 (sgn k k')) ∧ Below w.heap.size w w' := by
  have h' : (k != k') = true := by rw [bne_iff_ne]; exact h
  clear h
  go_enter Try.func27, Try.ntmps27
  go_wp2_with (go_at_call 62; refine (sign_any _ _ _).mono ?_; rintro e w' ⟨rfl, rfl⟩)
  go_ret
  exact ⟨rfl, ((Below.refl _ _).alloc (Nat.le_refl _) _).alloc (by simp) _⟩

set_option maxHeartbeats 1000000 in
theorem specWriteCmp_val (k c s q v : Int) (de : Bool) (a : Option Addr) (len cap : Nat) (v' : Int) (de' : Bool) (a' : Option Addr) (len' cap' : Nat) (w : World) (h : v ≠ v') :
    Calls Try.prog 27 #[wrV k c s q v de a len cap, wrV k c s q v' de' a' len' cap'] w fun e w' => e = .returned (.int .i64 (sgn v v')) ∧ Below w.heap.size w w' := by
  have h' : (v != v') = true := by rw [bne_iff_ne]; exact h
  clear h
  go_enter Try.func27, Try.ntmps27
  go_wp2_with (go_at_call 62; refine (sign_any _ _ _).mono ?_; rintro e w' ⟨rfl, rfl⟩)
  go_ret
  exact ⟨rfl, ((Below.refl _ _).alloc (Nat.le_refl _) _).alloc (by simp) _⟩

set_option maxHeartbeats 1000000 in
theorem specWriteCmp_dead_false (k c s q v : Int) (a : Option Addr) (len cap : Nat) (a' : Option Addr) (len' cap' : Nat) (w : World) :
    Calls Try.prog 27 #[wrV k c s q v false a len cap, wrV k c s q v true a' len' cap'] w fun e w' => e = .returned (.int .i64 (sgn (bit false) (bit true))) ∧ Below w.heap.size w w' := by
  go_enter Try.func27, Try.ntmps27
  go_wp2_with fail
  obtain ⟨e0, e1, e2, e3, e4, e5, e6, f0, f1, f2, f3, f4, f5, f6, hz, hB⟩ := two_start w k c s q v false a len cap k c s q v true a' len' cap' 41 41
  generalize ((w.alloc (.cells #[.int .i64 k, .int .i64 c, .int .i64 s, .int .i64 q, .int .i64 v, .bool false, .slice a len cap] 41)).alloc (.cells #[.int .i64 k, .int .i64 c, .int .i64 s, .int .i64 q, .int .i64 v, .bool true, .slice a' len' cap'] 41)) = W at *
  have hz0 : w.heap.size < W.heap.size := by omega
  have g5 := aft_cell hz0 e5
  have g5' := aft_cell hz f5
  have ne := aft_some W
  clear e0 e1 e2 e3 e4 e5 e6 f0 f1 f2 f3 f4 f5 f6
  refine wp_region_aft (by kernel_rfl) (by kernel_rfl) ?_
  repeat (first | go_big_quiet_step (first | (go_at_call 63; exact aft_same (bit_any _ _)) | (go_at_call 62; exact aft_same (sign_any _ _ _))))
  refine wpQuiet_nil ?_
  intro wq hq
  have HB : Hid (Below w.heap.size w wq) := below_step hB hB.size hq
  clear hq hB g5 g5' ne
  go_wp2
  go_ret
  exact ⟨rfl, HB.out⟩

set_option maxHeartbeats 1000000 in
theorem specWriteCmp_dead_true (k c s q v : Int) (a : Option Addr) (len cap : Nat) (a' : Option Addr) (len' cap' : Nat) (w : World) :
    Calls Try.prog 27 #[wrV k c s q v true a len cap, wrV k c s q v false a' len' cap'] w fun e w' => e = .returned (.int .i64 (sgn (bit true) (bit false))) ∧ Below w.heap.size w w' := by
  go_enter Try.func27, Try.ntmps27
  go_wp2_with fail
  obtain ⟨e0, e1, e2, e3, e4, e5, e6, f0, f1, f2, f3, f4, f5, f6, hz, hB⟩ := two_start w k c s q v true a len cap k c s q v false a' len' cap' 41 41
  generalize ((w.alloc (.cells #[.int .i64 k, .int .i64 c, .int .i64 s, .int .i64 q, .int .i64 v, .bool true, .slice a len cap] 41)).alloc (.cells #[.int .i64 k, .int .i64 c, .int .i64 s, .int .i64 q, .int .i64 v, .bool false, .slice a' len' cap'] 41)) = W at *
  have hz0 : w.heap.size < W.heap.size := by omega
  have g5 := aft_cell hz0 e5
  have g5' := aft_cell hz f5
  have ne := aft_some W
  clear e0 e1 e2 e3 e4 e5 e6 f0 f1 f2 f3 f4 f5 f6
  refine wp_region_aft (by kernel_rfl) (by kernel_rfl) ?_
  repeat (first | go_big_quiet_step (first | (go_at_call 63; exact aft_same (bit_any _ _)) | (go_at_call 62; exact aft_same (sign_any _ _ _))))
  refine wpQuiet_nil ?_
  intro wq hq
  have HB : Hid (Below w.heap.size w wq) := below_step hB hB.size hq
  clear hq hB g5 g5' ne
  go_wp2
  go_ret
  exact ⟨rfl, HB.out⟩

set_option maxRecDepth 100000 in
set_option maxHeartbeats 4000000 in
theorem specWriteCmp_deps (k c s q v : Int) (de : Bool) (a : Option Addr) (xs : List Dp) (cap : Nat) (a' : Option Addr) (ys : List Dp) (cap' : Nat) (w : World)
    (hn : xs.length ≤ 1048576) (_hm : ys.length ≤ 1048576) (hh : IsDeps w a xs) (hh' : IsDeps w a' ys) :
    Calls Try.prog 27 #[wrV k c s q v de a xs.length cap, wrV k c s q v de a' ys.length cap'] w fun e w' => e = .returned (.int .i64 (depsCmp xs ys)) ∧ Below w.heap.size w w' := by
  have HH : Hid (IsDeps w a xs) := hh
  have HH' : Hid (IsDeps w a' ys) := hh'
  clear hh hh'
  have HT := two_start w k c s q v de a xs.length cap k c s q v de a' ys.length cap' 41 41
  have HT' : Hid (TwoIn w k c s q v de a xs.length cap k c s q v de a' ys.length cap' ((w.alloc (.cells #[.int .i64 k, .int .i64 c, .int .i64 s, .int .i64 q, .int .i64 v, .bool de, .slice a xs.length cap] 41)).alloc (.cells #[.int .i64 k, .int .i64 c, .int .i64 s, .int .i64 q, .int .i64 v, .bool de, .slice a' ys.length cap'] 41))) := HT
  clear HT
  have hde : (de != de) = false := by cases de <;> rfl
  go_enter Try.func27, Try.ntmps27
  go_wp2
  go_loopw [5] (fun i wr => ∃ j : Nat, j ≤ xs.length ∧ j ≤ ys.length ∧ i = .int .i64 j ∧ Hid (∀ l, l < j → dcmp (xs.getD l dz) (ys.getD l dz) = 0) ∧ Hid (TwoIn w k c s q v de a xs.length cap k c s q v de a' ys.length cap' wr)) (fun i _ => xs.length - (intOf i).toNat)
  case atStart => exact ⟨0, Nat.zero_le _, Nat.zero_le _, rfl, fun l hl => by omega, HT'⟩
  case round =>
    clear HT'
    obtain ⟨j, hj, hjy, rfl, HG, HT⟩ := hrel
    obtain ⟨-, -, -, -, -, -, b6, -, -, -, -, -, -, b6', hzb', HB0⟩ := HT.out
    have HB : Hid (Below w.heap.size w wr) := HB0
    have hzb : w.heap.size < wr.heap.size := by omega
    clear HB0
    have i1 : (0 : Int) ≤ (j : Int) := by omega
    by_cases hj' : j < xs.length
    · have i2 : (j : Int) < (xs.length : Int) := by omega
      by_cases hy' : j < ys.length
      · have i3 : (j : Int) < (ys.length : Int) := by omega
        obtain ⟨g, o, rfl, hz, e0, e1, e2, e3⟩ := HH.out.at HB.out hj'
        obtain ⟨g', o', rfl, hz', f0, f1, f2, f3⟩ := HH'.out.at HB.out hy'
        clear HH HH'
        have HN : Hid (dcmp ⟨(xs.getD j dz).k, (xs.getD j dz).c, (xs.getD j dz).s, (xs.getD j dz).q⟩ ⟨(ys.getD j dz).k, (ys.getD j dz).c, (ys.getD j dz).s, (ys.getD j dz).q⟩ ≠ 0 → depsCmp xs ys = dcmp ⟨(xs.getD j dz).k, (xs.getD j dz).c, (xs.getD j dz).s, (xs.getD j dz).q⟩ ⟨(ys.getD j dz).k, (ys.getD j dz).c, (ys.getD j dz).s, (ys.getD j dz).q⟩) := fun h => depsCmp_first xs ys j hj' hy' HG.out h
        have HG' : Hid (dcmp ⟨(xs.getD j dz).k, (xs.getD j dz).c, (xs.getD j dz).s, (xs.getD j dz).q⟩ ⟨(ys.getD j dz).k, (ys.getD j dz).c, (ys.getD j dz).s, (ys.getD j dz).q⟩ = 0 → ∀ l, l < j + 1 → dcmp (xs.getD l dz) (ys.getD l dz) = 0) := fun h0 l hl => by
          by_cases h : l < j
          · exact HG.out l h
          · have : l = j := by omega
            rw [this]
            exact h0
        generalize (xs.getD j dz).k = x0 at *
        generalize (xs.getD j dz).c = x1 at *
        generalize (xs.getD j dz).s = x2 at *
        generalize (xs.getD j dz).q = x3 at *
        generalize (ys.getD j dz).k = y0 at *
        generalize (ys.getD j dz).c = y1 at *
        generalize (ys.getD j dz).s = y2 at *
        generalize (ys.getD j dz).q = y3 at *
        clear HB
        by_cases hk : x0 = y0
        · subst hk
          by_cases t1 : x1 = y1
          · subst t1
            by_cases t2 : x2 = y2
            · subst t2
              by_cases t3 : x3 = y3
              · subst t3
                have HG2 : Hid (∀ l, l < j + 1 → dcmp (xs.getD l dz) (ys.getD l dz) = 0) := HG'.out (by unfold dcmp; rw [if_neg (by simp)]; exact tcmp_self _ _ _)
                clear HN HG' HG
                go_wp2_with fail
                have ge0 := aft_cell hz e0
                have ge1 := aft_cell hz e1
                have ge2 := aft_cell hz e2
                have ge3 := aft_cell hz e3
                have gf0 := aft_cell hz' f0
                have gf1 := aft_cell hz' f1
                have gf2 := aft_cell hz' f2
                have gf3 := aft_cell hz' f3
                have gb6 := aft_cell hzb b6
                have gb6' := aft_cell hzb' b6'
                have ne := aft_some wr
                refine wp_region_aft (by kernel_rfl) (by kernel_rfl) ?_
                repeat (first | go_big_quiet_step (fail))
                refine wpQuiet_nil ?_
                intro wq hq
                replace e0 := held_cell hq e0 hz
                replace e1 := held_cell hq e1 hz
                replace e2 := held_cell hq e2 hz
                replace e3 := held_cell hq e3 hz
                replace f0 := held_cell hq f0 hz'
                replace f1 := held_cell hq f1 hz'
                replace f2 := held_cell hq f2 hz'
                replace f3 := held_cell hq f3 hz'
                replace b6 := held_cell hq b6 hzb
                replace b6' := held_cell hq b6' hzb'
                have HT1 : Hid (TwoIn w k c s q v de (some ⟨g, o, none⟩) xs.length cap k c s q v de (some ⟨g', o', none⟩) ys.length cap' wq) := two_step HT.out hq
                replace hz := Nat.lt_of_lt_of_le hz hq.size
                replace hz' := Nat.lt_of_lt_of_le hz' hq.size
                replace hzb := Nat.lt_of_lt_of_le hzb hq.size
                replace hzb' := Nat.lt_of_lt_of_le hzb' hq.size
                clear ge0 ge1 ge2 ge3 gf0 gf1 gf2 gf3 gb6 gb6' ne hq HT
                go_wp2_with fail
                have ge0 := aft_cell hz e0
                have ge1 := aft_cell hz e1
                have ge2 := aft_cell hz e2
                have ge3 := aft_cell hz e3
                have gf0 := aft_cell hz' f0
                have gf1 := aft_cell hz' f1
                have gf2 := aft_cell hz' f2
                have gf3 := aft_cell hz' f3
                have gb6 := aft_cell hzb b6
                have gb6' := aft_cell hzb' b6'
                have ne := aft_some wq
                refine wp_region_aft (by kernel_rfl) (by kernel_rfl) ?_
                repeat (first | go_big_quiet_step (fail))
                refine wpQuiet_nil ?_
                intro wu hu
                have HT2 : Hid (TwoIn w k c s q v de (some ⟨g, o, none⟩) xs.length cap k c s q v de (some ⟨g', o', none⟩) ys.length cap' wu) := two_step HT1.out hu
                clear hu HT1
                go_wp2
                exact ⟨⟨j + 1, by omega, by omega, by go_num, HG2, HT2⟩, by simp [intOf]; omega⟩
              · have HD : Hid (depsCmp xs ys = tcmp x1 x2 x3 x1 x2 y3) := by
                  have h1 : dcmp ⟨x0, x1, x2, x3⟩ ⟨x0, x1, x2, y3⟩ = tcmp x1 x2 x3 x1 x2 y3 := by unfold dcmp; rw [if_neg (by simp)]
                  show depsCmp xs ys = tcmp x1 x2 x3 x1 x2 y3
                  rw [← h1]
                  exact HN.out (by rw [h1]; intro h0; have h2 := tcmp_zero.1 h0; omega)
                clear HN HG'
                go_wp2_with fail
                have ge0 := aft_cell hz e0
                have ge1 := aft_cell hz e1
                have ge2 := aft_cell hz e2
                have ge3 := aft_cell hz e3
                have gf0 := aft_cell hz' f0
                have gf1 := aft_cell hz' f1
                have gf2 := aft_cell hz' f2
                have gf3 := aft_cell hz' f3
                have gb6 := aft_cell hzb b6
                have gb6' := aft_cell hzb' b6'
                have ne := aft_some wr
                refine wp_region_aft (by kernel_rfl) (by kernel_rfl) ?_
                repeat (first | go_big_quiet_step (fail))
                refine wpQuiet_nil ?_
                intro wq hq
                replace e0 := held_cell hq e0 hz
                replace e1 := held_cell hq e1 hz
                replace e2 := held_cell hq e2 hz
                replace e3 := held_cell hq e3 hz
                replace f0 := held_cell hq f0 hz'
                replace f1 := held_cell hq f1 hz'
                replace f2 := held_cell hq f2 hz'
                replace f3 := held_cell hq f3 hz'
                replace b6 := held_cell hq b6 hzb
                replace b6' := held_cell hq b6' hzb'
                have HT1 : Hid (TwoIn w k c s q v de (some ⟨g, o, none⟩) xs.length cap k c s q v de (some ⟨g', o', none⟩) ys.length cap' wq) := two_step HT.out hq
                replace hz := Nat.lt_of_lt_of_le hz hq.size
                replace hz' := Nat.lt_of_lt_of_le hz' hq.size
                replace hzb := Nat.lt_of_lt_of_le hzb hq.size
                replace hzb' := Nat.lt_of_lt_of_le hzb' hq.size
                clear ge0 ge1 ge2 ge3 gf0 gf1 gf2 gf3 gb6 gb6' ne hq HT
                go_wp2_with fail
                have ge0 := aft_cell hz e0
                have ge1 := aft_cell hz e1
                have ge2 := aft_cell hz e2
                have ge3 := aft_cell hz e3
                have gf0 := aft_cell hz' f0
                have gf1 := aft_cell hz' f1
                have gf2 := aft_cell hz' f2
                have gf3 := aft_cell hz' f3
                have gb6 := aft_cell hzb b6
                have gb6' := aft_cell hzb' b6'
                have ne := aft_some wq
                refine wp_region_aft (by kernel_rfl) (by kernel_rfl) ?_
                repeat (first | go_big_quiet_step (fail))
                refine wpQuiet_nil ?_
                intro wu hu
                replace e0 := held_cell hu e0 hz
                replace e1 := held_cell hu e1 hz
                replace e2 := held_cell hu e2 hz
                replace e3 := held_cell hu e3 hz
                replace f0 := held_cell hu f0 hz'
                replace f1 := held_cell hu f1 hz'
                replace f2 := held_cell hu f2 hz'
                replace f3 := held_cell hu f3 hz'
                replace b6 := held_cell hu b6 hzb
                replace b6' := held_cell hu b6' hzb'
                have HT2 : Hid (TwoIn w k c s q v de (some ⟨g, o, none⟩) xs.length cap k c s q v de (some ⟨g', o', none⟩) ys.length cap' wu) := two_step HT1.out hu
                replace hz := Nat.lt_of_lt_of_le hz hu.size
                replace hz' := Nat.lt_of_lt_of_le hz' hu.size
                replace hzb := Nat.lt_of_lt_of_le hzb hu.size
                replace hzb' := Nat.lt_of_lt_of_le hzb' hu.size
                clear ge0 ge1 ge2 ge3 gf0 gf1 gf2 gf3 gb6 gb6' ne hu HT1
                go_wp2_with fail
                have ge0 := aft_cell hz e0
                have ge1 := aft_cell hz e1
                have ge2 := aft_cell hz e2
                have ge3 := aft_cell hz e3
                have gf0 := aft_cell hz' f0
                have gf1 := aft_cell hz' f1
                have gf2 := aft_cell hz' f2
                have gf3 := aft_cell hz' f3
                have gb6 := aft_cell hzb b6
                have gb6' := aft_cell hzb' b6'
                have ne := aft_some wu
                refine wp_region_aft (by kernel_rfl) (by kernel_rfl) ?_
                repeat (first | go_big_quiet_step ((go_at_call 61; exact aft_of (specTagCmp_any _ _ _ _ _ _ _))))
                refine wpQuiet_nil ?_
                intro wp hp
                have HT3 : Hid (TwoIn w k c s q v de (some ⟨g, o, none⟩) xs.length cap k c s q v de (some ⟨g', o', none⟩) ys.length cap' wp) := two_step HT2.out hp
                clear hp
                go_wp2
                go_ret
                exact ⟨ret_i64 HD.out.symm, HT3.out.2.2.2.2.2.2.2.2.2.2.2.2.2.2.2⟩
            · have HD : Hid (depsCmp xs ys = tcmp x1 x2 x3 x1 y2 y3) := by
                have h1 : dcmp ⟨x0, x1, x2, x3⟩ ⟨x0, x1, y2, y3⟩ = tcmp x1 x2 x3 x1 y2 y3 := by unfold dcmp; rw [if_neg (by simp)]
                show depsCmp xs ys = tcmp x1 x2 x3 x1 y2 y3
                rw [← h1]
                exact HN.out (by rw [h1]; intro h0; have h2 := tcmp_zero.1 h0; omega)
              clear HN HG'
              go_wp2_with fail
              have ge0 := aft_cell hz e0
              have ge1 := aft_cell hz e1
              have ge2 := aft_cell hz e2
              have ge3 := aft_cell hz e3
              have gf0 := aft_cell hz' f0
              have gf1 := aft_cell hz' f1
              have gf2 := aft_cell hz' f2
              have gf3 := aft_cell hz' f3
              have gb6 := aft_cell hzb b6
              have gb6' := aft_cell hzb' b6'
              have ne := aft_some wr
              refine wp_region_aft (by kernel_rfl) (by kernel_rfl) ?_
              repeat (first | go_big_quiet_step (fail))
              refine wpQuiet_nil ?_
              intro wq hq
              replace e0 := held_cell hq e0 hz
              replace e1 := held_cell hq e1 hz
              replace e2 := held_cell hq e2 hz
              replace e3 := held_cell hq e3 hz
              replace f0 := held_cell hq f0 hz'
              replace f1 := held_cell hq f1 hz'
              replace f2 := held_cell hq f2 hz'
              replace f3 := held_cell hq f3 hz'
              replace b6 := held_cell hq b6 hzb
              replace b6' := held_cell hq b6' hzb'
              have HT1 : Hid (TwoIn w k c s q v de (some ⟨g, o, none⟩) xs.length cap k c s q v de (some ⟨g', o', none⟩) ys.length cap' wq) := two_step HT.out hq
              replace hz := Nat.lt_of_lt_of_le hz hq.size
              replace hz' := Nat.lt_of_lt_of_le hz' hq.size
              replace hzb := Nat.lt_of_lt_of_le hzb hq.size
              replace hzb' := Nat.lt_of_lt_of_le hzb' hq.size
              clear ge0 ge1 ge2 ge3 gf0 gf1 gf2 gf3 gb6 gb6' ne hq HT
              go_wp2_with fail
              have ge0 := aft_cell hz e0
              have ge1 := aft_cell hz e1
              have ge2 := aft_cell hz e2
              have ge3 := aft_cell hz e3
              have gf0 := aft_cell hz' f0
              have gf1 := aft_cell hz' f1
              have gf2 := aft_cell hz' f2
              have gf3 := aft_cell hz' f3
              have gb6 := aft_cell hzb b6
              have gb6' := aft_cell hzb' b6'
              have ne := aft_some wq
              refine wp_region_aft (by kernel_rfl) (by kernel_rfl) ?_
              repeat (first | go_big_quiet_step (fail))
              refine wpQuiet_nil ?_
              intro wu hu
              replace e0 := held_cell hu e0 hz
              replace e1 := held_cell hu e1 hz
              replace e2 := held_cell hu e2 hz
              replace e3 := held_cell hu e3 hz
              replace f0 := held_cell hu f0 hz'
              replace f1 := held_cell hu f1 hz'
              replace f2 := held_cell hu f2 hz'
              replace f3 := held_cell hu f3 hz'
              replace b6 := held_cell hu b6 hzb
              replace b6' := held_cell hu b6' hzb'
              have HT2 : Hid (TwoIn w k c s q v de (some ⟨g, o, none⟩) xs.length cap k c s q v de (some ⟨g', o', none⟩) ys.length cap' wu) := two_step HT1.out hu
              replace hz := Nat.lt_of_lt_of_le hz hu.size
              replace hz' := Nat.lt_of_lt_of_le hz' hu.size
              replace hzb := Nat.lt_of_lt_of_le hzb hu.size
              replace hzb' := Nat.lt_of_lt_of_le hzb' hu.size
              clear ge0 ge1 ge2 ge3 gf0 gf1 gf2 gf3 gb6 gb6' ne hu HT1
              go_wp2_with fail
              have ge0 := aft_cell hz e0
              have ge1 := aft_cell hz e1
              have ge2 := aft_cell hz e2
              have ge3 := aft_cell hz e3
              have gf0 := aft_cell hz' f0
              have gf1 := aft_cell hz' f1
              have gf2 := aft_cell hz' f2
              have gf3 := aft_cell hz' f3
              have gb6 := aft_cell hzb b6
              have gb6' := aft_cell hzb' b6'
              have ne := aft_some wu
              refine wp_region_aft (by kernel_rfl) (by kernel_rfl) ?_
              repeat (first | go_big_quiet_step ((go_at_call 61; exact aft_of (specTagCmp_any _ _ _ _ _ _ _))))
              refine wpQuiet_nil ?_
              intro wp hp
              have HT3 : Hid (TwoIn w k c s q v de (some ⟨g, o, none⟩) xs.length cap k c s q v de (some ⟨g', o', none⟩) ys.length cap' wp) := two_step HT2.out hp
              clear hp
              go_wp2
              go_ret
              exact ⟨ret_i64 HD.out.symm, HT3.out.2.2.2.2.2.2.2.2.2.2.2.2.2.2.2⟩
          · have HD : Hid (depsCmp xs ys = tcmp x1 x2 x3 y1 y2 y3) := by
              have h1 : dcmp ⟨x0, x1, x2, x3⟩ ⟨x0, y1, y2, y3⟩ = tcmp x1 x2 x3 y1 y2 y3 := by unfold dcmp; rw [if_neg (by simp)]
              show depsCmp xs ys = tcmp x1 x2 x3 y1 y2 y3
              rw [← h1]
              exact HN.out (by rw [h1]; intro h0; have h2 := tcmp_zero.1 h0; omega)
            clear HN HG'
            go_wp2_with fail
            have ge0 := aft_cell hz e0
            have ge1 := aft_cell hz e1
            have ge2 := aft_cell hz e2
            have ge3 := aft_cell hz e3
            have gf0 := aft_cell hz' f0
            have gf1 := aft_cell hz' f1
            have gf2 := aft_cell hz' f2
            have gf3 := aft_cell hz' f3
            have gb6 := aft_cell hzb b6
            have gb6' := aft_cell hzb' b6'
            have ne := aft_some wr
            refine wp_region_aft (by kernel_rfl) (by kernel_rfl) ?_
            repeat (first | go_big_quiet_step (fail))
            refine wpQuiet_nil ?_
            intro wq hq
            replace e0 := held_cell hq e0 hz
            replace e1 := held_cell hq e1 hz
            replace e2 := held_cell hq e2 hz
            replace e3 := held_cell hq e3 hz
            replace f0 := held_cell hq f0 hz'
            replace f1 := held_cell hq f1 hz'
            replace f2 := held_cell hq f2 hz'
            replace f3 := held_cell hq f3 hz'
            replace b6 := held_cell hq b6 hzb
            replace b6' := held_cell hq b6' hzb'
            have HT1 : Hid (TwoIn w k c s q v de (some ⟨g, o, none⟩) xs.length cap k c s q v de (some ⟨g', o', none⟩) ys.length cap' wq) := two_step HT.out hq
            replace hz := Nat.lt_of_lt_of_le hz hq.size
            replace hz' := Nat.lt_of_lt_of_le hz' hq.size
            replace hzb := Nat.lt_of_lt_of_le hzb hq.size
            replace hzb' := Nat.lt_of_lt_of_le hzb' hq.size
            clear ge0 ge1 ge2 ge3 gf0 gf1 gf2 gf3 gb6 gb6' ne hq HT
            go_wp2_with fail
            have ge0 := aft_cell hz e0
            have ge1 := aft_cell hz e1
            have ge2 := aft_cell hz e2
            have ge3 := aft_cell hz e3
            have gf0 := aft_cell hz' f0
            have gf1 := aft_cell hz' f1
            have gf2 := aft_cell hz' f2
            have gf3 := aft_cell hz' f3
            have gb6 := aft_cell hzb b6
            have gb6' := aft_cell hzb' b6'
            have ne := aft_some wq
            refine wp_region_aft (by kernel_rfl) (by kernel_rfl) ?_
            repeat (first | go_big_quiet_step (fail))
            refine wpQuiet_nil ?_
            intro wu hu
            replace e0 := held_cell hu e0 hz
            replace e1 := held_cell hu e1 hz
            replace e2 := held_cell hu e2 hz
            replace e3 := held_cell hu e3 hz
            replace f0 := held_cell hu f0 hz'
            replace f1 := held_cell hu f1 hz'
            replace f2 := held_cell hu f2 hz'
            replace f3 := held_cell hu f3 hz'
            replace b6 := held_cell hu b6 hzb
            replace b6' := held_cell hu b6' hzb'
            have HT2 : Hid (TwoIn w k c s q v de (some ⟨g, o, none⟩) xs.length cap k c s q v de (some ⟨g', o', none⟩) ys.length cap' wu) := two_step HT1.out hu
            replace hz := Nat.lt_of_lt_of_le hz hu.size
            replace hz' := Nat.lt_of_lt_of_le hz' hu.size
            replace hzb := Nat.lt_of_lt_of_le hzb hu.size
            replace hzb' := Nat.lt_of_lt_of_le hzb' hu.size
            clear ge0 ge1 ge2 ge3 gf0 gf1 gf2 gf3 gb6 gb6' ne hu HT1
            go_wp2_with fail
            have ge0 := aft_cell hz e0
            have ge1 := aft_cell hz e1
            have ge2 := aft_cell hz e2
            have ge3 := aft_cell hz e3
            have gf0 := aft_cell hz' f0
            have gf1 := aft_cell hz' f1
            have gf2 := aft_cell hz' f2
            have gf3 := aft_cell hz' f3
            have gb6 := aft_cell hzb b6
            have gb6' := aft_cell hzb' b6'
            have ne := aft_some wu
            refine wp_region_aft (by kernel_rfl) (by kernel_rfl) ?_
            repeat (first | go_big_quiet_step ((go_at_call 61; exact aft_of (specTagCmp_any _ _ _ _ _ _ _))))
            refine wpQuiet_nil ?_
            intro wp hp
            have HT3 : Hid (TwoIn w k c s q v de (some ⟨g, o, none⟩) xs.length cap k c s q v de (some ⟨g', o', none⟩) ys.length cap' wp) := two_step HT2.out hp
            clear hp
            go_wp2
            go_ret
            exact ⟨ret_i64 HD.out.symm, HT3.out.2.2.2.2.2.2.2.2.2.2.2.2.2.2.2⟩
        · have HD : Hid (depsCmp xs ys = sgn x0 y0) := by
            have h1 : dcmp ⟨x0, x1, x2, x3⟩ ⟨y0, y1, y2, y3⟩ = sgn x0 y0 := by unfold dcmp; rw [if_pos hk]
            show depsCmp xs ys = sgn x0 y0
            rw [← h1]
            exact HN.out (by rw [h1]; intro h0; exact hk (sgn_zero.1 h0))
          have hk' : (x0 != y0) = true := by rw [bne_iff_ne]; exact hk
          clear hk HN HG'
          go_wp2_with fail
          have ge0 := aft_cell hz e0
          have ge1 := aft_cell hz e1
          have ge2 := aft_cell hz e2
          have ge3 := aft_cell hz e3
          have gf0 := aft_cell hz' f0
          have gf1 := aft_cell hz' f1
          have gf2 := aft_cell hz' f2
          have gf3 := aft_cell hz' f3
          have gb6 := aft_cell hzb b6
          have gb6' := aft_cell hzb' b6'
          have ne := aft_some wr
          refine wp_region_aft (by kernel_rfl) (by kernel_rfl) ?_
          repeat (first | go_big_quiet_step (fail))
          refine wpQuiet_nil ?_
          intro wq hq
          replace e0 := held_cell hq e0 hz
          replace e1 := held_cell hq e1 hz
          replace e2 := held_cell hq e2 hz
          replace e3 := held_cell hq e3 hz
          replace f0 := held_cell hq f0 hz'
          replace f1 := held_cell hq f1 hz'
          replace f2 := held_cell hq f2 hz'
          replace f3 := held_cell hq f3 hz'
          replace b6 := held_cell hq b6 hzb
          replace b6' := held_cell hq b6' hzb'
          have HT1 : Hid (TwoIn w k c s q v de (some ⟨g, o, none⟩) xs.length cap k c s q v de (some ⟨g', o', none⟩) ys.length cap' wq) := two_step HT.out hq
          replace hz := Nat.lt_of_lt_of_le hz hq.size
          replace hz' := Nat.lt_of_lt_of_le hz' hq.size
          replace hzb := Nat.lt_of_lt_of_le hzb hq.size
          replace hzb' := Nat.lt_of_lt_of_le hzb' hq.size
          clear ge0 ge1 ge2 ge3 gf0 gf1 gf2 gf3 gb6 gb6' ne hq HT
          go_wp2_with fail
          have ge0 := aft_cell hz e0
          have ge1 := aft_cell hz e1
          have ge2 := aft_cell hz e2
          have ge3 := aft_cell hz e3
          have gf0 := aft_cell hz' f0
          have gf1 := aft_cell hz' f1
          have gf2 := aft_cell hz' f2
          have gf3 := aft_cell hz' f3
          have gb6 := aft_cell hzb b6
          have gb6' := aft_cell hzb' b6'
          have ne := aft_some wq
          refine wp_region_aft (by kernel_rfl) (by kernel_rfl) ?_
          repeat (first | go_big_quiet_step ((go_at_call 62; exact aft_same (sign_any _ _ _))))
          refine wpQuiet_nil ?_
          intro wp hp
          have HT2 : Hid (TwoIn w k c s q v de (some ⟨g, o, none⟩) xs.length cap k c s q v de (some ⟨g', o', none⟩) ys.length cap' wp) := two_step HT1.out hp
          clear hp
          go_wp2
          go_ret
          exact ⟨ret_i64 HD.out.symm, HT2.out.2.2.2.2.2.2.2.2.2.2.2.2.2.2.2⟩
      · have HF : Hid (depsCmp xs ys = sgn xs.length ys.length) := depsCmp_none xs ys (fun i h1 h2 => HG.out i (by omega))
        go_wp2_with (go_at_call 62; refine (sign_any _ _ _).mono ?_; rintro e w' ⟨rfl, rfl⟩)
        go_ret
        exact ⟨ret_i64 HF.out.symm, HB.out⟩
    · have HF : Hid (depsCmp xs ys = sgn xs.length ys.length) := depsCmp_none xs ys (fun i h1 h2 => HG.out i (by omega))
      go_wp2_with (go_at_call 62; refine (sign_any _ _ _).mono ?_; rintro e w' ⟨rfl, rfl⟩)
      go_ret
      exact ⟨ret_i64 HF.out.symm, HB.out⟩

theorem specWriteCmp_gen (k c s q v : Int) (de : Bool) (a : Option Addr) (xs : List Dp) (len cap : Nat) (k' c' s' q' v' : Int) (de' : Bool) (a' : Option Addr) (ys : List Dp) (len' cap' : Nat) (w : World) (hl : xs.length = len) (hl' : ys.length = len')
    (hn : len ≤ 1048576) (hm : len' ≤ 1048576) (hh : IsDeps w a xs) (hh' : IsDeps w a' ys) :
    Calls Try.prog 27 #[wrV k c s q v de a len cap, wrV k' c' s' q' v' de' a' len' cap'] w fun e w' => e = .returned (.int .i64 (wcmp k c s q v de xs k' c' s' q' v' de' ys)) ∧ Below w.heap.size w w' := by
  subst hl hl'
  by_cases h1 : c = c'
  · subst h1
    by_cases h2 : s = s'
    · subst h2
      by_cases h3 : q = q'
      · subst h3
        by_cases h4 : k = k'
        · subst h4
          by_cases h5 : v = v'
          · subst h5
            by_cases h6 : de = de'
            · subst h6
              rw [wcmp_deps]
              exact specWriteCmp_deps k c s q v de a xs cap a' ys cap' w hn hm hh hh'
            · rw [wcmp_dead h6]
              cases de
              · cases de'
                · exact absurd rfl h6
                · exact specWriteCmp_dead_false k c s q v _ _ cap _ _ cap' w
              · cases de'
                · exact specWriteCmp_dead_true k c s q v _ _ cap _ _ cap' w
                · exact absurd rfl h6
          · rw [wcmp_val h5]
            exact specWriteCmp_val k c s q v de _ _ cap v' de' _ _ cap' w h5
        · rw [wcmp_key h4]
          exact specWriteCmp_key k c s q v de _ _ cap k' v' de' _ _ cap' w h4
      · rw [wcmp_tag (fun h => h3 h.2.2)]
        exact specWriteCmp_tag3 k v c s q q' de _ _ cap k' v' de' _ _ cap' w h3
    · rw [wcmp_tag (fun h => h2 h.2.1)]
      exact specWriteCmp_tag2 k v c s q s' q' de _ _ cap k' v' de' _ _ cap' w h2
  · rw [wcmp_tag (fun h => h1 h.1)]
    exact specWriteCmp_tag1 k v c s q c' s' q' de _ _ cap k' v' de' _ _ cap' w h1

theorem specWriteCmp_any (k c s q v : Int) (de : Bool) (g : Nat) (xs : List Dp) (len cap : Nat) (k' c' s' q' v' : Int) (de' : Bool) (g' : Nat) (ys : List Dp) (len' cap' : Nat) (w : World) (hl : xs.length = len) (hl' : ys.length = len')
    (hn : len ≤ 1048576) (hm : len' ≤ 1048576) (hlt : g < w.heap.size) (hlt' : g' < w.heap.size) (hh : HoldsDeps w g 0 xs) (hh' : HoldsDeps w g' 0 ys) :
    Calls Try.prog 27 #[wrV k c s q v de (some ⟨g, 0, none⟩) len cap, wrV k' c' s' q' v' de' (some ⟨g', 0, none⟩) len' cap'] w fun e w' => e = .returned (.int .i64 (wcmp k c s q v de xs k' c' s' q' v' de' ys)) ∧ Below w.heap.size w w' :=
  specWriteCmp_gen k c s q v de _ xs len cap k' c' s' q' v' de' _ ys len' cap' w hl hl' hn hm (.inr ⟨g, 0, rfl, hlt, hh⟩) (.inr ⟨g', 0, rfl, hlt', hh'⟩)

end Go.Proofs.Ytojgahcogpediaa

/- A row of writes that grows; the contract of the specification's l02Copies. -/
namespace Go.Proofs.Ytojgahcogpediaa
open Go.ChangeShapes Go.WideShapes Go.ChangeAt Go.RowKit Go.Joins
attribute [local go_sem ↓] Go.wp_at_zero Go.wp_at_succ

/-- A write, the block of its dependencies, and their room. -/
structure En where
  x : Wr
  g : Nat
  cp : Nat

def ez : En := ⟨wz, 0, 0⟩

def wrVals (e : En) : List Value := [.int .i64 e.x.k, .int .i64 e.x.c, .int .i64 e.x.s, .int .i64 e.x.q, .int .i64 e.x.v, .bool e.x.de, .slice (some ⟨e.g, 0, none⟩) e.x.xs.length e.cp]

theorem vals_len : ∀ es : List En, (es.flatMap wrVals).length = es.length * 7
  | [] => rfl
  | e :: r => by
    rw [List.flatMap_cons, List.length_append, vals_len r]
    simp [wrVals]
    omega

theorem vals_at : ∀ (es : List En) (i c : Nat), i < es.length → c < 7 → (es.flatMap wrVals)[i * 7 + c]? = (wrVals (es.getD i ez))[c]?
  | [], i, c, hi, _ => by simp at hi
  | e :: r, 0, c, _, hc => by
    rw [List.flatMap_cons, List.getElem?_append_left (by simp [wrVals]; omega)]
    simp
  | e :: r, i + 1, c, hi, hc => by
    rw [List.flatMap_cons, List.getElem?_append_right (by simp [wrVals]; omega)]
    have := vals_at r i c (by simpa using hi) hc
    rw [show (i + 1) * 7 + c - (wrVals e).length = i * 7 + c by simp [wrVals]; omega, this]
    simp

theorem vals_one (es : List En) : ∀ u ∈ es.flatMap wrVals, u.oneCell' = true := by
  intro u hu
  obtain ⟨e, _, h⟩ := List.mem_flatMap.1 hu
  simp only [wrVals, List.mem_cons, List.not_mem_nil, or_false] at h
  rcases h with rfl | rfl | rfl | rfl | rfl | rfl | rfl <;> rfl

/-- A row of writes of one's own, from block number base on. -/
structure RowEs (w : World) (base g cap : Nat) (es : List En) : Prop where
  le : base ≤ g
  lt : g < w.heap.size
  own : w.ownsRow base 41 7 (.slice (some ⟨g, 0, none⟩) es.length cap) es.length (es.flatMap wrVals)
  deps : ∀ e ∈ es, base ≤ e.g ∧ e.g < w.heap.size ∧ e.g ≠ g ∧ HoldsDeps w e.g 0 e.x.xs

theorem RowEs.below {w w' : World} {base g cap : Nat} {es : List En} (h : RowEs w base g cap es) (hb : Below w.heap.size w w') : RowEs w' base g cap es where
  le := h.le
  lt := Nat.lt_of_lt_of_le h.lt hb.size
  own := h.own.kept (row := none) ⟨hb.os, hb.tape, hb.output, hb.size, fun k hk _ => hb.block k hk⟩ (.inr (by simp [Value.ownBlock]))
  deps := fun e he => ⟨(h.deps e he).1, Nat.lt_of_lt_of_le (h.deps e he).2.1 hb.size, (h.deps e he).2.2.1, (h.deps e he).2.2.2.below hb (h.deps e he).2.1⟩

theorem rowEs_start (w : World) (base : Nat) (hb : base ≤ w.heap.size) : RowEs (w.alloc (.cells #[] 41)) base w.heap.size 0 [] where
  le := hb
  lt := by simp
  own := World.ownsRow_made w #[] 0 hb (by simp [maxLen]) (by simp)
  deps := fun e he => by simp at he

def gamma (es : List En) (i : Nat) : Nat := (es.getD i ez).g

theorem RowEs.holds {w : World} {base g cap : Nat} {es : List En} (h : RowEs w base g cap es) {ws : List Wr} (hw : es.map (·.x) = ws) : HoldsWs w g ws (gamma es) := by
  subst hw
  refine ⟨h.lt, fun i hi => ?_⟩
  have hi' : i < es.length := by simpa using hi
  have hx : (es.map (·.x)).getD i wz = (es.getD i ez).x := by simp [List.getD, hi']
  have hm : es.getD i ez ∈ es := by simp [List.getD, hi']
  rw [hx]
  have c : ∀ c, c < 7 → w.cell? ⟨g, i * 7 + c, none⟩ = (wrVals (es.getD i ez))[c]? := fun c hc => by rw [h.own.cellAt _ (by omega), vals_at es i c hi' hc]
  exact ⟨⟨(es.getD i ez).cp, c 0 (by omega), c 1 (by omega), c 2 (by omega), c 3 (by omega), c 4 (by omega), c 5 (by omega), c 6 (by omega)⟩, (h.deps _ hm).2.1, (h.deps _ hm).2.2.2⟩

/-- One write more. -/
theorem RowEs.more {w w5 : World} {base g cap g5 cap5 : Nat} {es : List En} {e : En} (h : RowEs w base g cap es) (he : base ≤ e.g ∧ e.g < w.heap.size ∧ e.g ≠ g ∧ HoldsDeps w e.g 0 e.x.xs)
    (hown : w5.ownsRow base 41 7 (.slice (some ⟨g5, 0, none⟩) (es.length + 1) cap5) (es.length + 1) (es.flatMap wrVals ++ wrVals e)) (hgrow : w.grownBy w5 (some g)) (hg : some g = some g5 ∨ g5 = w.heap.size) : RowEs w5 base g5 cap5 (es ++ [e]) where
  le := (hown.lt g5 rfl).1
  lt := (hown.lt g5 rfl).2
  own := by
    rw [List.length_append, List.flatMap_append]
    simpa using hown
  deps := by
    have : ∀ d : En, (base ≤ d.g ∧ d.g < w.heap.size ∧ d.g ≠ g ∧ HoldsDeps w d.g 0 d.x.xs) → base ≤ d.g ∧ d.g < w5.heap.size ∧ d.g ≠ g5 ∧ HoldsDeps w5 d.g 0 d.x.xs := fun d ⟨h1, h2, h3, h4⟩ =>
      ⟨h1, Nat.lt_of_lt_of_le h2 hgrow.size, by
        rcases hg with hg | hg
        · injection hg with hg
          rw [← hg]
          exact h3
        · omega, fun i hi => by
        have e' : ∀ o, w5.cell? ⟨d.g, o, none⟩ = w.cell? ⟨d.g, o, none⟩ := fun o => World.cell?_of_block (a := ⟨d.g, o, none⟩) (hgrow.block d.g h2 (by simpa using h3))
        obtain ⟨a0, a1, a2, a3⟩ := h4 i hi
        exact ⟨(e' _).trans a0, (e' _).trans a1, (e' _).trans a2, (e' _).trans a3⟩⟩
    intro d hd
    rcases List.mem_append.1 hd with hd | hd
    · exact this d (h.deps d hd)
    · have hd : d = e := by simpa using hd
      subst hd
      exact this d he

theorem one_cells (w : World) (t : Nat) (e : En) : ∀ j u, (wrVals e)[j]? = some u → (w.alloc (.cells #[.int .i64 e.x.k, .int .i64 e.x.c, .int .i64 e.x.s, .int .i64 e.x.q, .int .i64 e.x.v, .bool e.x.de, .slice (some ⟨e.g, 0, none⟩) e.x.xs.length e.cp] t)).cell? ((⟨w.heap.size, 0, none⟩ : Addr).add j) = some u := by
  intro j u hu
  have e1 : (⟨w.heap.size, 0, none⟩ : Addr).add j = ⟨w.heap.size, j, none⟩ := by
    unfold Addr.add
    split
    · rename_i h
      rw [h]
    · simp
  rw [e1, cell_of_row _ _ j _ t (0, 0) (heap_alloc_new w _), ← hu]
  simp [wrVals]

set_option maxHeartbeats 2000000 in
theorem copies_gen (a : Option Addr) (n cap : Nat) (ws : List Wr) (w : World) (hn : ws.length = n) (hm : n ≤ 1048576) (hx : Few ws) (hh : IsWs w a ws) :
    Calls Try.prog 88 #[.slice a n cap] w fun e w' => ∃ g cp es, e = .returned (.slice (some ⟨g, 0, none⟩) n cp) ∧ es.map (·.x) = ws ∧ RowEs w' w.heap.size g cp es ∧ Below w.heap.size w w' := by
  have HH : Hid (IsWs w a ws) := hh
  have HN : Hid (ws.length = n) := hn
  have HX : Hid (Few ws) := hx
  clear hh hn hx
  obtain ⟨i0, hi0, hx0⟩ := Option.map_eq_some_iff.1 infoWr
  simp only [Prod.mk.injEq] at hx0
  have HI0 := Lib.hid hi0
  have HX0 := Lib.hid hx0
  clear hi0 hx0
  go_enter Try.func88, Try.ntmps88
  go_wp2
  go_loopw [3, 4] (fun t i wr => ∃ (k g cp : Nat) (es : List En), k ≤ n ∧ i = .int .i64 k ∧ t = .slice (some ⟨g, 0, none⟩) k cp ∧ Hid (es.map (·.x) = ws.take k) ∧ Hid (es.length = k) ∧ Hid (RowEs wr w.heap.size g cp es) ∧ Hid (Below w.heap.size w wr)) (fun _ i _ => n - (intOf i).toNat)
  case atStart => exact ⟨0, w.heap.size, 0, [], Nat.zero_le _, rfl, rfl, by simp [Hid], rfl, rowEs_start w _ (Nat.le_refl _), (Below.refl _ _).alloc (Nat.le_refl _) _⟩
  case round =>
    obtain ⟨k, g, cp, es, hk, rfl, rfl, HE, HL, HR, HB⟩ := hrel
    by_cases hk' : k < n
    · obtain ⟨b, o, ad, cq, rfl, hz, ⟨e0, e1, e2, e3, e4, e5, e6⟩, hd⟩ := HH.out.at HB.out HN.out hk'
      have i1 : (0 : Int) ≤ (k : Int) := by omega
      have i2 : (k : Int) < (n : Int) := by omega
      have hxl := HX.out k (by rw [HN.out]; exact hk')
      have HD : Hid (IsDeps wr ad (ws.getD k wz).xs) := hd
      have HT : Hid (ws.take (k + 1) = ws.take k ++ [ws.getD k wz]) := by
        have hkw : k < ws.length := by rw [HN.out]; exact hk'
        rw [List.take_add_one, List.getElem?_eq_getElem hkw]
        simp [List.getD, hkw, Hid]
      clear hd
      generalize ws.getD k wz = x at *
      obtain ⟨xk, xc, xs', xq, xv, xd, xx⟩ := x
      simp only at e0 e1 e2 e3 e4 e5 e6 hxl HD
      go_wp2_with fail
      refine (copy_any ⟨xk, xc, xs', xq, xv, xd, xx⟩ _ _ _ hxl HD.out).mono ?_
      rintro e w2 ⟨g2, cp2, rfl, hg1, hg2, hg3, hb⟩
      have HB2 : Hid (Below w.heap.size w w2) := below_step HB.out HB.out.size hb
      have HR2 : Hid (RowEs w2 w.heap.size g cp es) := HR.out.below hb
      have HG : Hid (HoldsDeps w2 g2 0 xx) := hg3
      have hg5 : g2 ≠ g := by have := HR.out.lt; omega
      have hg6 : w.heap.size ≤ g2 := Nat.le_trans HB.out.size hg1
      clear hb hg3 hg1 HD
      have HW : Hid (RowEs (w2.alloc (.cells #[.int .i64 xk, .int .i64 xc, .int .i64 xs', .int .i64 xq, .int .i64 xv, .bool xd, .slice (some ⟨g2, 0, none⟩) xx.length cp2] 41)) w.heap.size g cp es) := HR2.out.below ((Below.refl _ _).alloc (Nat.le_refl _) _)
      have HOW : Hid ((w2.alloc (.cells #[.int .i64 xk, .int .i64 xc, .int .i64 xs', .int .i64 xq, .int .i64 xv, .bool xd, .slice (some ⟨g2, 0, none⟩) xx.length cp2] 41)).ownsRow w.heap.size 41 7 (.slice (some ⟨g, 0, none⟩) k cp) k (es.flatMap wrVals)) := by
        have := HW.out.own
        rw [HL.out] at this
        exact this
      have hsz : w.heap.size ≤ w2.heap.size := HB2.out.size
      go_wp2_with (at_builtin; refine wpList_append_lies _ (by rfl) _ _ _ (by rfl) w.heap.size 41 i0 (wrV 0 0 0 0 0 false none 0 0) 7 72 Try.underlying44 HI0.out HX0.out.1 HX0.out.2.1 HX0.out.2.2 (by rfl) (by omega) (.slice (some ⟨g, 0, none⟩) k cp) k (es.flatMap wrVals) (by rfl) HOW.out ⟨w2.heap.size, 0, none⟩ 1 1 (wrVals ⟨⟨xk, xc, xs', xq, xv, xd, xx⟩, g2, cp2⟩) (by rfl) (by rfl) (one_cells w2 _ ⟨⟨xk, xc, xs', xq, xv, xd, xx⟩, g2, cp2⟩) (by simpa using vals_one [⟨⟨xk, xc, xs', xq, xv, xd, xx⟩, g2, cp2⟩]) (by omega) (by unfold maxLen; omega) (by omega) (by simp; omega) _ rfl ?_; intro g3 cp3 w5 hown hgrow hg3 _; refine Hid.out ?_)
      refine Lib.hid ?_
      have HB5 : Hid (Below w.heap.size w w5) := (HB2.out.alloc hsz _).grown hgrow (by simp; omega) fun j hj => by simp only [Value.ownBlock, Option.some.injEq] at hj; have := HR2.out.le; omega
      have HR5 : Hid (RowEs w5 w.heap.size g3 cp3 (es ++ [⟨⟨xk, xc, xs', xq, xv, xd, xx⟩, g2, cp2⟩])) := by
        refine HW.out.more ⟨hg6, by simp; omega, hg5, HG.out.below ((Below.refl w2.heap.size w2).alloc (Nat.le_refl _) _) hg2⟩ (by rw [HL.out]; exact hown) hgrow hg3
      have HE5 : Hid ((es ++ [(⟨⟨xk, xc, xs', xq, xv, xd, xx⟩, g2, cp2⟩ : En)]).map (·.x) = ws.take (k + 1)) := by
        rw [HT.out, List.map_append, HE.out]
        exact Lib.hid rfl
      have HL5 : Hid ((es ++ [(⟨⟨xk, xc, xs', xq, xv, xd, xx⟩, g2, cp2⟩ : En)]).length = k + 1) := by
        rw [List.length_append, HL.out]
        exact Lib.hid rfl
      clear hown hgrow HW HOW
      go_wp2
      exact ⟨⟨k + 1, g3, cp3, _, by omega, by go_num, rfl, HE5, HL5, HR5, HB5⟩, by simp [intOf]; omega⟩
    · have hkk : k = n := by omega
      subst hkk
      go_wp2
      go_ret
      refine ⟨g, cp, es, rfl, ?_, HR.out, HB.out⟩
      rw [HE.out, List.take_of_length_le (by rw [HN.out]; exact Nat.le_refl _)]

theorem copies_any (b n cap : Nat) (ws : List Wr) (γ : Nat → Nat) (w : World) (hn : ws.length = n) (hm : n ≤ 1048576) (hx : Few ws) (hh : HoldsWs w b ws γ) :
    Calls Try.prog 88 #[.slice (some ⟨b, 0, none⟩) n cap] w fun e w' => ∃ g cp es, e = .returned (.slice (some ⟨g, 0, none⟩) n cp) ∧ es.map (·.x) = ws ∧ RowEs w' w.heap.size g cp es ∧ Below w.heap.size w w' :=
  copies_gen _ n cap ws w hn hm hx (hh.isWs hx)

end Go.Proofs.Ytojgahcogpediaa
