/- The contract of spec.WriteCmp. -/
import Derived.Test.YtojgahcogpediaaPack3
namespace Go.Proofs.Ytojgahcogpediaa
open Go.ChangeShapes Go.WideShapes Go.ChangeAt Go.RowKit Go.Joins

set_option maxHeartbeats 1000000 in
theorem specWriteCmp_tag1 (k v : Int) (c s q c' s' q' : Int) (de : Bool) (a : Option Addr) (len cap : Nat) (k' v' : Int) (de' : Bool) (a' : Option Addr) (len' cap' : Nat) (w : World) (h : ¬ c = c') :
    Calls Try.prog 27 #[wrV k c s q v de a len cap, wrV k' c' s' q' v' de' a' len' cap'] w fun e w' => e = .returned (.int .i64 (tcmp c s q c' s' q')) ∧ Below w.heap.size w w' := by
  go_enter Try.func27, Try.ntmps27
  go_wp2_with fail
  refine (specTagCmp_any _ _ _ _ _ _ _).mono ?_
  rintro e w1 ⟨rfl, hb⟩
  have HB : Hid (Below w.heap.size w w1) := below_step (((Below.refl _ _).alloc (Nat.le_refl _) _).alloc (by simp) _) (by simp; omega) hb
  clear hb
  go_wp2
  go_ret
  exact ⟨rfl, HB.out⟩

set_option maxHeartbeats 1000000 in
theorem specWriteCmp_tag2 (k v : Int) (c s q s' q' : Int) (de : Bool) (a : Option Addr) (len cap : Nat) (k' v' : Int) (de' : Bool) (a' : Option Addr) (len' cap' : Nat) (w : World) (h : ¬ s = s') :
    Calls Try.prog 27 #[wrV k c s q v de a len cap, wrV k' c s' q' v' de' a' len' cap'] w fun e w' => e = .returned (.int .i64 (tcmp c s q c s' q')) ∧ Below w.heap.size w w' := by
  go_enter Try.func27, Try.ntmps27
  go_wp2_with fail
  refine (specTagCmp_any _ _ _ _ _ _ _).mono ?_
  rintro e w1 ⟨rfl, hb⟩
  have HB : Hid (Below w.heap.size w w1) := below_step (((Below.refl _ _).alloc (Nat.le_refl _) _).alloc (by simp) _) (by simp; omega) hb
  clear hb
  go_wp2
  go_ret
  exact ⟨rfl, HB.out⟩

set_option maxHeartbeats 1000000 in
theorem specWriteCmp_tag3 (k v : Int) (c s q q' : Int) (de : Bool) (a : Option Addr) (len cap : Nat) (k' v' : Int) (de' : Bool) (a' : Option Addr) (len' cap' : Nat) (w : World) (h : ¬ q = q') :
    Calls Try.prog 27 #[wrV k c s q v de a len cap, wrV k' c s q' v' de' a' len' cap'] w fun e w' => e = .returned (.int .i64 (tcmp c s q c s q')) ∧ Below w.heap.size w w' := by
  go_enter Try.func27, Try.ntmps27
  go_wp2_with fail
  refine (specTagCmp_any _ _ _ _ _ _ _).mono ?_
  rintro e w1 ⟨rfl, hb⟩
  have HB : Hid (Below w.heap.size w w1) := below_step (((Below.refl _ _).alloc (Nat.le_refl _) _).alloc (by simp) _) (by simp; omega) hb
  clear hb
  go_wp2
  go_ret
  exact ⟨rfl, HB.out⟩

set_option maxHeartbeats 1000000 in
theorem specWriteCmp_key (k c s q v : Int) (de : Bool) (a : Option Addr) (len cap : Nat) (k' v' : Int) (de' : Bool) (a' : Option Addr) (len' cap' : Nat) (w : World) (h : k ≠ k') :
    Calls Try.prog 27 #[wrV k c s q v de a len cap, wrV k' c s q v' de' a' len' cap'] w fun e w' => e = .returned (.int .i64 (sgn k k')) ∧ Below w.heap.size w w' := by
  have h' : (k != k') = true := by rw [bne_iff_ne]; exact h
  clear h
  go_enter Try.func27, Try.ntmps27
  go_wp2_with (go_at_call 62; refine (sign_any _ _ _).mono ?_; rintro e w' ⟨rfl, rfl⟩)
  go_ret
  exact ⟨rfl, ((Below.refl _ _).alloc (Nat.le_refl _) _).alloc (by simp) _⟩

set_option maxHeartbeats 1000000 in
theorem specWriteCmp_val (k c s q v : Int) (de : Bool) (a : Option Addr) (len cap : Nat) (v' : Int) (de' : Bool) (a' : Option Addr) (len' cap' : Nat) (w : World) (h : v ≠ v') :
    Calls Try.prog 27 #[wrV k c s q v de a len cap, wrV k c s q v' de' a' len' cap'] w fun e w' => e = .returned (.int .i64 (sgn v v')) ∧ Below w.heap.size w w' := by
  have h' : (v != v') = true := by rw [bne_iff_ne]; exact h
  clear h
  go_enter Try.func27, Try.ntmps27
  go_wp2_with (go_at_call 62; refine (sign_any _ _ _).mono ?_; rintro e w' ⟨rfl, rfl⟩)
  go_ret
  exact ⟨rfl, ((Below.refl _ _).alloc (Nat.le_refl _) _).alloc (by simp) _⟩

set_option maxHeartbeats 1000000 in
theorem specWriteCmp_dead_false (k c s q v : Int) (a : Option Addr) (len cap : Nat) (a' : Option Addr) (len' cap' : Nat) (w : World) :
    Calls Try.prog 27 #[wrV k c s q v false a len cap, wrV k c s q v true a' len' cap'] w fun e w' => e = .returned (.int .i64 (sgn (bit false) (bit true))) ∧ Below w.heap.size w w' := by
  go_enter Try.func27, Try.ntmps27
  go_wp2_with fail
  obtain ⟨e0, e1, e2, e3, e4, e5, e6, f0, f1, f2, f3, f4, f5, f6, hz, hB⟩ := two_start w k c s q v false a len cap k c s q v true a' len' cap' 41 41
  generalize ((w.alloc (.cells #[.int .i64 k, .int .i64 c, .int .i64 s, .int .i64 q, .int .i64 v, .bool false, .slice a len cap] 41)).alloc (.cells #[.int .i64 k, .int .i64 c, .int .i64 s, .int .i64 q, .int .i64 v, .bool true, .slice a' len' cap'] 41)) = W at *
  have hz0 : w.heap.size < W.heap.size := by omega
  have g5 := aft_cell hz0 e5
  have g5' := aft_cell hz f5
  have ne := aft_some W
  clear e0 e1 e2 e3 e4 e5 e6 f0 f1 f2 f3 f4 f5 f6
  refine wp_region_aft (by kernel_rfl) (by kernel_rfl) ?_
  repeat (first | go_big_quiet_step (first | (go_at_call 63; exact aft_same (bit_any _ _)) | (go_at_call 62; exact aft_same (sign_any _ _ _))))
  refine wpQuiet_nil ?_
  intro wq hq
  have HB : Hid (Below w.heap.size w wq) := below_step hB hB.size hq
  clear hq hB g5 g5' ne
  go_wp2
  go_ret
  exact ⟨rfl, HB.out⟩

set_option maxHeartbeats 1000000 in
theorem specWriteCmp_dead_true (k c s q v : Int) (a : Option Addr) (len cap : Nat) (a' : Option Addr) (len' cap' : Nat) (w : World) :
    Calls Try.prog 27 #[wrV k c s q v true a len cap, wrV k c s q v false a' len' cap'] w fun e w' => e = .returned (.int .i64 (sgn (bit true) (bit false))) ∧ Below w.heap.size w w' := by
  go_enter Try.func27, Try.ntmps27
  go_wp2_with fail
  obtain ⟨e0, e1, e2, e3, e4, e5, e6, f0, f1, f2, f3, f4, f5, f6, hz, hB⟩ := two_start w k c s q v true a len cap k c s q v false a' len' cap' 41 41
  generalize ((w.alloc (.cells #[.int .i64 k, .int .i64 c, .int .i64 s, .int .i64 q, .int .i64 v, .bool true, .slice a len cap] 41)).alloc (.cells #[.int .i64 k, .int .i64 c, .int .i64 s, .int .i64 q, .int .i64 v, .bool false, .slice a' len' cap'] 41)) = W at *
  have hz0 : w.heap.size < W.heap.size := by omega
  have g5 := aft_cell hz0 e5
  have g5' := aft_cell hz f5
  have ne := aft_some W
  clear e0 e1 e2 e3 e4 e5 e6 f0 f1 f2 f3 f4 f5 f6
  refine wp_region_aft (by kernel_rfl) (by kernel_rfl) ?_
  repeat (first | go_big_quiet_step (first | (go_at_call 63; exact aft_same (bit_any _ _)) | (go_at_call 62; exact aft_same (sign_any _ _ _))))
  refine wpQuiet_nil ?_
  intro wq hq
  have HB : Hid (Below w.heap.size w wq) := below_step hB hB.size hq
  clear hq hB g5 g5' ne
  go_wp2
  go_ret
  exact ⟨rfl, HB.out⟩

set_option maxRecDepth 100000 in
set_option maxHeartbeats 4000000 in
theorem specWriteCmp_deps (k c s q v : Int) (de : Bool) (a : Option Addr) (xs : List Dp) (cap : Nat) (a' : Option Addr) (ys : List Dp) (cap' : Nat) (w : World)
    (hn : xs.length ≤ 1048576) (_hm : ys.length ≤ 1048576) (hh : IsDeps w a xs) (hh' : IsDeps w a' ys) :
    Calls Try.prog 27 #[wrV k c s q v de a xs.length cap, wrV k c s q v de a' ys.length cap'] w fun e w' => e = .returned (.int .i64 (depsCmp xs ys)) ∧ Below w.heap.size w w' := by
  have HH : Hid (IsDeps w a xs) := hh
  have HH' : Hid (IsDeps w a' ys) := hh'
  clear hh hh'
  have HT := two_start w k c s q v de a xs.length cap k c s q v de a' ys.length cap' 41 41
  have HT' : Hid (TwoIn w k c s q v de a xs.length cap k c s q v de a' ys.length cap' ((w.alloc (.cells #[.int .i64 k, .int .i64 c, .int .i64 s, .int .i64 q, .int .i64 v, .bool de, .slice a xs.length cap] 41)).alloc (.cells #[.int .i64 k, .int .i64 c, .int .i64 s, .int .i64 q, .int .i64 v, .bool de, .slice a' ys.length cap'] 41))) := HT
  clear HT
  have hde : (de != de) = false := by cases de <;> rfl
  go_enter Try.func27, Try.ntmps27
  go_wp2
  go_loopw [5] (fun i wr => ∃ j : Nat, j ≤ xs.length ∧ j ≤ ys.length ∧ i = .int .i64 j ∧ Hid (∀ l, l < j → dcmp (xs.getD l dz) (ys.getD l dz) = 0) ∧ Hid (TwoIn w k c s q v de a xs.length cap k c s q v de a' ys.length cap' wr)) (fun i _ => xs.length - (intOf i).toNat)
  case atStart => exact ⟨0, Nat.zero_le _, Nat.zero_le _, rfl, fun l hl => by omega, HT'⟩
  case round =>
    clear HT'
    obtain ⟨j, hj, hjy, rfl, HG, HT⟩ := hrel
    obtain ⟨-, -, -, -, -, -, b6, -, -, -, -, -, -, b6', hzb', HB0⟩ := HT.out
    have HB : Hid (Below w.heap.size w wr) := HB0
    have hzb : w.heap.size < wr.heap.size := by omega
    clear HB0
    have i1 : (0 : Int) ≤ (j : Int) := by omega
    by_cases hj' : j < xs.length
    · have i2 : (j : Int) < (xs.length : Int) := by omega
      by_cases hy' : j < ys.length
      · have i3 : (j : Int) < (ys.length : Int) := by omega
        obtain ⟨g, o, rfl, hz, e0, e1, e2, e3⟩ := HH.out.at HB.out hj'
        obtain ⟨g', o', rfl, hz', f0, f1, f2, f3⟩ := HH'.out.at HB.out hy'
        clear HH HH'
        have HN : Hid (dcmp ⟨(xs.getD j dz).k, (xs.getD j dz).c, (xs.getD j dz).s, (xs.getD j dz).q⟩ ⟨(ys.getD j dz).k, (ys.getD j dz).c, (ys.getD j dz).s, (ys.getD j dz).q⟩ ≠ 0 → depsCmp xs ys = dcmp ⟨(xs.getD j dz).k, (xs.getD j dz).c, (xs.getD j dz).s, (xs.getD j dz).q⟩ ⟨(ys.getD j dz).k, (ys.getD j dz).c, (ys.getD j dz).s, (ys.getD j dz).q⟩) := fun h => depsCmp_first xs ys j hj' hy' HG.out h
        have HG' : Hid (dcmp ⟨(xs.getD j dz).k, (xs.getD j dz).c, (xs.getD j dz).s, (xs.getD j dz).q⟩ ⟨(ys.getD j dz).k, (ys.getD j dz).c, (ys.getD j dz).s, (ys.getD j dz).q⟩ = 0 → ∀ l, l < j + 1 → dcmp (xs.getD l dz) (ys.getD l dz) = 0) := fun h0 l hl => by
          by_cases h : l < j
          · exact HG.out l h
          · have : l = j := by omega
            rw [this]
            exact h0
        generalize (xs.getD j dz).k = x0 at *
        generalize (xs.getD j dz).c = x1 at *
        generalize (xs.getD j dz).s = x2 at *
        generalize (xs.getD j dz).q = x3 at *
        generalize (ys.getD j dz).k = y0 at *
        generalize (ys.getD j dz).c = y1 at *
        generalize (ys.getD j dz).s = y2 at *
        generalize (ys.getD j dz).q = y3 at *
        clear HB
        by_cases hk : x0 = y0
        · subst hk
          by_cases t1 : x1 = y1
          · subst t1
            by_cases t2 : x2 = y2
            · subst t2
              by_cases t3 : x3 = y3
              · subst t3
                have HG2 : Hid (∀ l, l < j + 1 → dcmp (xs.getD l dz) (ys.getD l dz) = 0) := HG'.out (by unfold dcmp; rw [if_neg (by simp)]; exact tcmp_self _ _ _)
                clear HN HG' HG
                go_wp2_with fail
                have ge0 := aft_cell hz e0
                have ge1 := aft_cell hz e1
                have ge2 := aft_cell hz e2
                have ge3 := aft_cell hz e3
                have gf0 := aft_cell hz' f0
                have gf1 := aft_cell hz' f1
                have gf2 := aft_cell hz' f2
                have gf3 := aft_cell hz' f3
                have gb6 := aft_cell hzb b6
                have gb6' := aft_cell hzb' b6'
                have ne := aft_some wr
                refine wp_region_aft (by kernel_rfl) (by kernel_rfl) ?_
                repeat (first | go_big_quiet_step (fail))
                refine wpQuiet_nil ?_
                intro wq hq
                replace e0 := held_cell hq e0 hz
                replace e1 := held_cell hq e1 hz
                replace e2 := held_cell hq e2 hz
                replace e3 := held_cell hq e3 hz
                replace f0 := held_cell hq f0 hz'
                replace f1 := held_cell hq f1 hz'
                replace f2 := held_cell hq f2 hz'
                replace f3 := held_cell hq f3 hz'
                replace b6 := held_cell hq b6 hzb
                replace b6' := held_cell hq b6' hzb'
                have HT1 : Hid (TwoIn w k c s q v de (some ⟨g, o, none⟩) xs.length cap k c s q v de (some ⟨g', o', none⟩) ys.length cap' wq) := two_step HT.out hq
                replace hz := Nat.lt_of_lt_of_le hz hq.size
                replace hz' := Nat.lt_of_lt_of_le hz' hq.size
                replace hzb := Nat.lt_of_lt_of_le hzb hq.size
                replace hzb' := Nat.lt_of_lt_of_le hzb' hq.size
                clear ge0 ge1 ge2 ge3 gf0 gf1 gf2 gf3 gb6 gb6' ne hq HT
                go_wp2_with fail
                have ge0 := aft_cell hz e0
                have ge1 := aft_cell hz e1
                have ge2 := aft_cell hz e2
                have ge3 := aft_cell hz e3
                have gf0 := aft_cell hz' f0
                have gf1 := aft_cell hz' f1
                have gf2 := aft_cell hz' f2
                have gf3 := aft_cell hz' f3
                have gb6 := aft_cell hzb b6
                have gb6' := aft_cell hzb' b6'
                have ne := aft_some wq
                refine wp_region_aft (by kernel_rfl) (by kernel_rfl) ?_
                repeat (first | go_big_quiet_step (fail))
                refine wpQuiet_nil ?_
                intro wu hu
                have HT2 : Hid (TwoIn w k c s q v de (some ⟨g, o, none⟩) xs.length cap k c s q v de (some ⟨g', o', none⟩) ys.length cap' wu) := two_step HT1.out hu
                clear hu HT1
                go_wp2
                exact ⟨⟨j + 1, by omega, by omega, by go_num, HG2, HT2⟩, by simp [intOf]; omega⟩
              · have HD : Hid (depsCmp xs ys = tcmp x1 x2 x3 x1 x2 y3) := by
                  have h1 : dcmp ⟨x0, x1, x2, x3⟩ ⟨x0, x1, x2, y3⟩ = tcmp x1 x2 x3 x1 x2 y3 := by unfold dcmp; rw [if_neg (by simp)]
                  show depsCmp xs ys = tcmp x1 x2 x3 x1 x2 y3
                  rw [← h1]
                  exact HN.out (by rw [h1]; intro h0; have h2 := tcmp_zero.1 h0; omega)
                clear HN HG'
                go_wp2_with fail
                have ge0 := aft_cell hz e0
                have ge1 := aft_cell hz e1
                have ge2 := aft_cell hz e2
                have ge3 := aft_cell hz e3
                have gf0 := aft_cell hz' f0
                have gf1 := aft_cell hz' f1
                have gf2 := aft_cell hz' f2
                have gf3 := aft_cell hz' f3
                have gb6 := aft_cell hzb b6
                have gb6' := aft_cell hzb' b6'
                have ne := aft_some wr
                refine wp_region_aft (by kernel_rfl) (by kernel_rfl) ?_
                repeat (first | go_big_quiet_step (fail))
                refine wpQuiet_nil ?_
                intro wq hq
                replace e0 := held_cell hq e0 hz
                replace e1 := held_cell hq e1 hz
                replace e2 := held_cell hq e2 hz
                replace e3 := held_cell hq e3 hz
                replace f0 := held_cell hq f0 hz'
                replace f1 := held_cell hq f1 hz'
                replace f2 := held_cell hq f2 hz'
                replace f3 := held_cell hq f3 hz'
                replace b6 := held_cell hq b6 hzb
                replace b6' := held_cell hq b6' hzb'
                have HT1 : Hid (TwoIn w k c s q v de (some ⟨g, o, none⟩) xs.length cap k c s q v de (some ⟨g', o', none⟩) ys.length cap' wq) := two_step HT.out hq
                replace hz := Nat.lt_of_lt_of_le hz hq.size
                replace hz' := Nat.lt_of_lt_of_le hz' hq.size
                replace hzb := Nat.lt_of_lt_of_le hzb hq.size
                replace hzb' := Nat.lt_of_lt_of_le hzb' hq.size
                clear ge0 ge1 ge2 ge3 gf0 gf1 gf2 gf3 gb6 gb6' ne hq HT
                go_wp2_with fail
                have ge0 := aft_cell hz e0
                have ge1 := aft_cell hz e1
                have ge2 := aft_cell hz e2
                have ge3 := aft_cell hz e3
                have gf0 := aft_cell hz' f0
                have gf1 := aft_cell hz' f1
                have gf2 := aft_cell hz' f2
                have gf3 := aft_cell hz' f3
                have gb6 := aft_cell hzb b6
                have gb6' := aft_cell hzb' b6'
                have ne := aft_some wq
                refine wp_region_aft (by kernel_rfl) (by kernel_rfl) ?_
                repeat (first | go_big_quiet_step (fail))
                refine wpQuiet_nil ?_
                intro wu hu
                replace e0 := held_cell hu e0 hz
                replace e1 := held_cell hu e1 hz
                replace e2 := held_cell hu e2 hz
                replace e3 := held_cell hu e3 hz
                replace f0 := held_cell hu f0 hz'
                replace f1 := held_cell hu f1 hz'
                replace f2 := held_cell hu f2 hz'
                replace f3 := held_cell hu f3 hz'
                replace b6 := held_cell hu b6 hzb
                replace b6' := held_cell hu b6' hzb'
                have HT2 : Hid (TwoIn w k c s q v de (some ⟨g, o, none⟩) xs.length cap k c s q v de (some ⟨g', o', none⟩) ys.length cap' wu) := two_step HT1.out hu
                replace hz := Nat.lt_of_lt_of_le hz hu.size
                replace hz' := Nat.lt_of_lt_of_le hz' hu.size
                replace hzb := Nat.lt_of_lt_of_le hzb hu.size
                replace hzb' := Nat.lt_of_lt_of_le hzb' hu.size
                clear ge0 ge1 ge2 ge3 gf0 gf1 gf2 gf3 gb6 gb6' ne hu HT1
                go_wp2_with fail
                have ge0 := aft_cell hz e0
                have ge1 := aft_cell hz e1
                have ge2 := aft_cell hz e2
                have ge3 := aft_cell hz e3
                have gf0 := aft_cell hz' f0
                have gf1 := aft_cell hz' f1
                have gf2 := aft_cell hz' f2
                have gf3 := aft_cell hz' f3
                have gb6 := aft_cell hzb b6
                have gb6' := aft_cell hzb' b6'
                have ne := aft_some wu
                refine wp_region_aft (by kernel_rfl) (by kernel_rfl) ?_
                repeat (first | go_big_quiet_step ((go_at_call 61; exact aft_of (specTagCmp_any _ _ _ _ _ _ _))))
                refine wpQuiet_nil ?_
                intro wp hp
                have HT3 : Hid (TwoIn w k c s q v de (some ⟨g, o, none⟩) xs.length cap k c s q v de (some ⟨g', o', none⟩) ys.length cap' wp) := two_step HT2.out hp
                clear hp
                go_wp2
                go_ret
                exact ⟨ret_i64 HD.out.symm, HT3.out.2.2.2.2.2.2.2.2.2.2.2.2.2.2.2⟩
            · have HD : Hid (depsCmp xs ys = tcmp x1 x2 x3 x1 y2 y3) := by
                have h1 : dcmp ⟨x0, x1, x2, x3⟩ ⟨x0, x1, y2, y3⟩ = tcmp x1 x2 x3 x1 y2 y3 := by unfold dcmp; rw [if_neg (by simp)]
                show depsCmp xs ys = tcmp x1 x2 x3 x1 y2 y3
                rw [← h1]
                exact HN.out (by rw [h1]; intro h0; have h2 := tcmp_zero.1 h0; omega)
              clear HN HG'
              go_wp2_with fail
              have ge0 := aft_cell hz e0
              have ge1 := aft_cell hz e1
              have ge2 := aft_cell hz e2
              have ge3 := aft_cell hz e3
              have gf0 := aft_cell hz' f0
              have gf1 := aft_cell hz' f1
              have gf2 := aft_cell hz' f2
              have gf3 := aft_cell hz' f3
              have gb6 := aft_cell hzb b6
              have gb6' := aft_cell hzb' b6'
              have ne := aft_some wr
              refine wp_region_aft (by kernel_rfl) (by kernel_rfl) ?_
              repeat (first | go_big_quiet_step (fail))
              refine wpQuiet_nil ?_
              intro wq hq
              replace e0 := held_cell hq e0 hz
              replace e1 := held_cell hq e1 hz
              replace e2 := held_cell hq e2 hz
              replace e3 := held_cell hq e3 hz
              replace f0 := held_cell hq f0 hz'
              replace f1 := held_cell hq f1 hz'
              replace f2 := held_cell hq f2 hz'
              replace f3 := held_cell hq f3 hz'
              replace b6 := held_cell hq b6 hzb
              replace b6' := held_cell hq b6' hzb'
              have HT1 : Hid (TwoIn w k c s q v de (some ⟨g, o, none⟩) xs.length cap k c s q v de (some ⟨g', o', none⟩) ys.length cap' wq) := two_step HT.out hq
              replace hz := Nat.lt_of_lt_of_le hz hq.size
              replace hz' := Nat.lt_of_lt_of_le hz' hq.size
              replace hzb := Nat.lt_of_lt_of_le hzb hq.size
              replace hzb' := Nat.lt_of_lt_of_le hzb' hq.size
              clear ge0 ge1 ge2 ge3 gf0 gf1 gf2 gf3 gb6 gb6' ne hq HT
              go_wp2_with fail
              have ge0 := aft_cell hz e0
              have ge1 := aft_cell hz e1
              have ge2 := aft_cell hz e2
              have ge3 := aft_cell hz e3
              have gf0 := aft_cell hz' f0
              have gf1 := aft_cell hz' f1
              have gf2 := aft_cell hz' f2
              have gf3 := aft_cell hz' f3
              have gb6 := aft_cell hzb b6
              have gb6' := aft_cell hzb' b6'
              have ne := aft_some wq
              refine wp_region_aft (by kernel_rfl) (by kernel_rfl) ?_
              repeat (first | go_big_quiet_step (fail))
              refine wpQuiet_nil ?_
              intro wu hu
              replace e0 := held_cell hu e0 hz
              replace e1 := held_cell hu e1 hz
              replace e2 := held_cell hu e2 hz
              replace e3 := held_cell hu e3 hz
              replace f0 := held_cell hu f0 hz'
              replace f1 := held_cell hu f1 hz'
              replace f2 := held_cell hu f2 hz'
              replace f3 := held_cell hu f3 hz'
              replace b6 := held_cell hu b6 hzb
              replace b6' := held_cell hu b6' hzb'
              have HT2 : Hid (TwoIn w k c s q v de (some ⟨g, o, none⟩) xs.length cap k c s q v de (some ⟨g', o', none⟩) ys.length cap' wu) := two_step HT1.out hu
              replace hz := Nat.lt_of_lt_of_le hz hu.size
              replace hz' := Nat.lt_of_lt_of_le hz' hu.size
              replace hzb := Nat.lt_of_lt_of_le hzb hu.size
              replace hzb' := Nat.lt_of_lt_of_le hzb' hu.size
              clear ge0 ge1 ge2 ge3 gf0 gf1 gf2 gf3 gb6 gb6' ne hu HT1
              go_wp2_with fail
              have ge0 := aft_cell hz e0
              have ge1 := aft_cell hz e1
              have ge2 := aft_cell hz e2
              have ge3 := aft_cell hz e3
              have gf0 := aft_cell hz' f0
              have gf1 := aft_cell hz' f1
              have gf2 := aft_cell hz' f2
              have gf3 := aft_cell hz' f3
              have gb6 := aft_cell hzb b6
              have gb6' := aft_cell hzb' b6'
              have ne := aft_some wu
              refine wp_region_aft (by kernel_rfl) (by kernel_rfl) ?_
              repeat (first | go_big_quiet_step ((go_at_call 61; exact aft_of (specTagCmp_any _ _ _ _ _ _ _))))
              refine wpQuiet_nil ?_
              intro wp hp
              have HT3 : Hid (TwoIn w k c s q v de (some ⟨g, o, none⟩) xs.length cap k c s q v de (some ⟨g', o', none⟩) ys.length cap' wp) := two_step HT2.out hp
              clear hp
              go_wp2
              go_ret
              exact ⟨ret_i64 HD.out.symm, HT3.out.2.2.2.2.2.2.2.2.2.2.2.2.2.2.2⟩
          · have HD : Hid (depsCmp xs ys = tcmp x1 x2 x3 y1 y2 y3) := by
              have h1 : dcmp ⟨x0, x1, x2, x3⟩ ⟨x0, y1, y2, y3⟩ = tcmp x1 x2 x3 y1 y2 y3 := by unfold dcmp; rw [if_neg (by simp)]
              show depsCmp xs ys = tcmp x1 x2 x3 y1 y2 y3
              rw [← h1]
              exact HN.out (by rw [h1]; intro h0; have h2 := tcmp_zero.1 h0; omega)
            clear HN HG'
            go_wp2_with fail
            have ge0 := aft_cell hz e0
            have ge1 := aft_cell hz e1
            have ge2 := aft_cell hz e2
            have ge3 := aft_cell hz e3
            have gf0 := aft_cell hz' f0
            have gf1 := aft_cell hz' f1
            have gf2 := aft_cell hz' f2
            have gf3 := aft_cell hz' f3
            have gb6 := aft_cell hzb b6
            have gb6' := aft_cell hzb' b6'
            have ne := aft_some wr
            refine wp_region_aft (by kernel_rfl) (by kernel_rfl) ?_
            repeat (first | go_big_quiet_step (fail))
            refine wpQuiet_nil ?_
            intro wq hq
            replace e0 := held_cell hq e0 hz
            replace e1 := held_cell hq e1 hz
            replace e2 := held_cell hq e2 hz
            replace e3 := held_cell hq e3 hz
            replace f0 := held_cell hq f0 hz'
            replace f1 := held_cell hq f1 hz'
            replace f2 := held_cell hq f2 hz'
            replace f3 := held_cell hq f3 hz'
            replace b6 := held_cell hq b6 hzb
            replace b6' := held_cell hq b6' hzb'
            have HT1 : Hid (TwoIn w k c s q v de (some ⟨g, o, none⟩) xs.length cap k c s q v de (some ⟨g', o', none⟩) ys.length cap' wq) := two_step HT.out hq
            replace hz := Nat.lt_of_lt_of_le hz hq.size
            replace hz' := Nat.lt_of_lt_of_le hz' hq.size
            replace hzb := Nat.lt_of_lt_of_le hzb hq.size
            replace hzb' := Nat.lt_of_lt_of_le hzb' hq.size
            clear ge0 ge1 ge2 ge3 gf0 gf1 gf2 gf3 gb6 gb6' ne hq HT
            go_wp2_with fail
            have ge0 := aft_cell hz e0
            have ge1 := aft_cell hz e1
            have ge2 := aft_cell hz e2
            have ge3 := aft_cell hz e3
            have gf0 := aft_cell hz' f0
            have gf1 := aft_cell hz' f1
            have gf2 := aft_cell hz' f2
            have gf3 := aft_cell hz' f3
            have gb6 := aft_cell hzb b6
            have gb6' := aft_cell hzb' b6'
            have ne := aft_some wq
            refine wp_region_aft (by kernel_rfl) (by kernel_rfl) ?_
            repeat (first | go_big_quiet_step (fail))
            refine wpQuiet_nil ?_
            intro wu hu
            replace e0 := held_cell hu e0 hz
            replace e1 := held_cell hu e1 hz
            replace e2 := held_cell hu e2 hz
            replace e3 := held_cell hu e3 hz
            replace f0 := held_cell hu f0 hz'
            replace f1 := held_cell hu f1 hz'
            replace f2 := held_cell hu f2 hz'
            replace f3 := held_cell hu f3 hz'
            replace b6 := held_cell hu b6 hzb
            replace b6' := held_cell hu b6' hzb'
            have HT2 : Hid (TwoIn w k c s q v de (some ⟨g, o, none⟩) xs.length cap k c s q v de (some ⟨g', o', none⟩) ys.length cap' wu) := two_step HT1.out hu
            replace hz := Nat.lt_of_lt_of_le hz hu.size
            replace hz' := Nat.lt_of_lt_of_le hz' hu.size
            replace hzb := Nat.lt_of_lt_of_le hzb hu.size
            replace hzb' := Nat.lt_of_lt_of_le hzb' hu.size
            clear ge0 ge1 ge2 ge3 gf0 gf1 gf2 gf3 gb6 gb6' ne hu HT1
            go_wp2_with fail
            have ge0 := aft_cell hz e0
            have ge1 := aft_cell hz e1
            have ge2 := aft_cell hz e2
            have ge3 := aft_cell hz e3
            have gf0 := aft_cell hz' f0
            have gf1 := aft_cell hz' f1
            have gf2 := aft_cell hz' f2
            have gf3 := aft_cell hz' f3
            have gb6 := aft_cell hzb b6
            have gb6' := aft_cell hzb' b6'
            have ne := aft_some wu
            refine wp_region_aft (by kernel_rfl) (by kernel_rfl) ?_
            repeat (first | go_big_quiet_step ((go_at_call 61; exact aft_of (specTagCmp_any _ _ _ _ _ _ _))))
            refine wpQuiet_nil ?_
            intro wp hp
            have HT3 : Hid (TwoIn w k c s q v de (some ⟨g, o, none⟩) xs.length cap k c s q v de (some ⟨g', o', none⟩) ys.length cap' wp) := two_step HT2.out hp
            clear hp
            go_wp2
            go_ret
            exact ⟨ret_i64 HD.out.symm, HT3.out.2.2.2.2.2.2.2.2.2.2.2.2.2.2.2⟩
        · have HD : Hid (depsCmp xs ys = sgn x0 y0) := by
            have h1 : dcmp ⟨x0, x1, x2, x3⟩ ⟨y0, y1, y2, y3⟩ = sgn x0 y0 := by unfold dcmp; rw [if_pos hk]
            show depsCmp xs ys = sgn x0 y0
            rw [← h1]
            exact HN.out (by rw [h1]; intro h0; exact hk (sgn_zero.1 h0))
          have hk' : (x0 != y0) = true := by rw [bne_iff_ne]; exact hk
          clear hk HN HG'
          go_wp2_with fail
          have ge0 := aft_cell hz e0
          have ge1 := aft_cell hz e1
          have ge2 := aft_cell hz e2
          have ge3 := aft_cell hz e3
          have gf0 := aft_cell hz' f0
          have gf1 := aft_cell hz' f1
          have gf2 := aft_cell hz' f2
          have gf3 := aft_cell hz' f3
          have gb6 := aft_cell hzb b6
          have gb6' := aft_cell hzb' b6'
          have ne := aft_some wr
          refine wp_region_aft (by kernel_rfl) (by kernel_rfl) ?_
          repeat (first | go_big_quiet_step (fail))
          refine wpQuiet_nil ?_
          intro wq hq
          replace e0 := held_cell hq e0 hz
          replace e1 := held_cell hq e1 hz
          replace e2 := held_cell hq e2 hz
          replace e3 := held_cell hq e3 hz
          replace f0 := held_cell hq f0 hz'
          replace f1 := held_cell hq f1 hz'
          replace f2 := held_cell hq f2 hz'
          replace f3 := held_cell hq f3 hz'
          replace b6 := held_cell hq b6 hzb
          replace b6' := held_cell hq b6' hzb'
          have HT1 : Hid (TwoIn w k c s q v de (some ⟨g, o, none⟩) xs.length cap k c s q v de (some ⟨g', o', none⟩) ys.length cap' wq) := two_step HT.out hq
          replace hz := Nat.lt_of_lt_of_le hz hq.size
          replace hz' := Nat.lt_of_lt_of_le hz' hq.size
          replace hzb := Nat.lt_of_lt_of_le hzb hq.size
          replace hzb' := Nat.lt_of_lt_of_le hzb' hq.size
          clear ge0 ge1 ge2 ge3 gf0 gf1 gf2 gf3 gb6 gb6' ne hq HT
          go_wp2_with fail
          have ge0 := aft_cell hz e0
          have ge1 := aft_cell hz e1
          have ge2 := aft_cell hz e2
          have ge3 := aft_cell hz e3
          have gf0 := aft_cell hz' f0
          have gf1 := aft_cell hz' f1
          have gf2 := aft_cell hz' f2
          have gf3 := aft_cell hz' f3
          have gb6 := aft_cell hzb b6
          have gb6' := aft_cell hzb' b6'
          have ne := aft_some wq
          refine wp_region_aft (by kernel_rfl) (by kernel_rfl) ?_
          repeat (first | go_big_quiet_step ((go_at_call 62; exact aft_same (sign_any _ _ _))))
          refine wpQuiet_nil ?_
          intro wp hp
          have HT2 : Hid (TwoIn w k c s q v de (some ⟨g, o, none⟩) xs.length cap k c s q v de (some ⟨g', o', none⟩) ys.length cap' wp) := two_step HT1.out hp
          clear hp
          go_wp2
          go_ret
          exact ⟨ret_i64 HD.out.symm, HT2.out.2.2.2.2.2.2.2.2.2.2.2.2.2.2.2⟩
      · have HF : Hid (depsCmp xs ys = sgn xs.length ys.length) := depsCmp_none xs ys (fun i h1 h2 => HG.out i (by omega))
        go_wp2_with (go_at_call 62; refine (sign_any _ _ _).mono ?_; rintro e w' ⟨rfl, rfl⟩)
        go_ret
        exact ⟨ret_i64 HF.out.symm, HB.out⟩
    · have HF : Hid (depsCmp xs ys = sgn xs.length ys.length) := depsCmp_none xs ys (fun i h1 h2 => HG.out i (by omega))
      go_wp2_with (go_at_call 62; refine (sign_any _ _ _).mono ?_; rintro e w' ⟨rfl, rfl⟩)
      go_ret
      exact ⟨ret_i64 HF.out.symm, HB.out⟩

theorem specWriteCmp_gen (k c s q v : Int) (de : Bool) (a : Option Addr) (xs : List Dp) (len cap : Nat) (k' c' s' q' v' : Int) (de' : Bool) (a' : Option Addr) (ys : List Dp) (len' cap' : Nat) (w : World) (hl : xs.length = len) (hl' : ys.length = len')
    (hn : len ≤ 1048576) (hm : len' ≤ 1048576) (hh : IsDeps w a xs) (hh' : IsDeps w a' ys) :
    Calls Try.prog 27 #[wrV k c s q v de a len cap, wrV k' c' s' q' v' de' a' len' cap'] w fun e w' => e = .returned (.int .i64 (wcmp k c s q v de xs k' c' s' q' v' de' ys)) ∧ Below w.heap.size w w' := by
  subst hl hl'
  by_cases h1 : c = c'
  · subst h1
    by_cases h2 : s = s'
    · subst h2
      by_cases h3 : q = q'
      · subst h3
        by_cases h4 : k = k'
        · subst h4
          by_cases h5 : v = v'
          · subst h5
            by_cases h6 : de = de'
            · subst h6
              rw [wcmp_deps]
              exact specWriteCmp_deps k c s q v de a xs cap a' ys cap' w hn hm hh hh'
            · rw [wcmp_dead h6]
              cases de
              · cases de'
                · exact absurd rfl h6
                · exact specWriteCmp_dead_false k c s q v _ _ cap _ _ cap' w
              · cases de'
                · exact specWriteCmp_dead_true k c s q v _ _ cap _ _ cap' w
                · exact absurd rfl h6
          · rw [wcmp_val h5]
            exact specWriteCmp_val k c s q v de _ _ cap v' de' _ _ cap' w h5
        · rw [wcmp_key h4]
          exact specWriteCmp_key k c s q v de _ _ cap k' v' de' _ _ cap' w h4
      · rw [wcmp_tag (fun h => h3 h.2.2)]
        exact specWriteCmp_tag3 k v c s q q' de _ _ cap k' v' de' _ _ cap' w h3
    · rw [wcmp_tag (fun h => h2 h.2.1)]
      exact specWriteCmp_tag2 k v c s q s' q' de _ _ cap k' v' de' _ _ cap' w h2
  · rw [wcmp_tag (fun h => h1 h.1)]
    exact specWriteCmp_tag1 k v c s q c' s' q' de _ _ cap k' v' de' _ _ cap' w h1

theorem specWriteCmp_any (k c s q v : Int) (de : Bool) (g : Nat) (xs : List Dp) (len cap : Nat) (k' c' s' q' v' : Int) (de' : Bool) (g' : Nat) (ys : List Dp) (len' cap' : Nat) (w : World) (hl : xs.length = len) (hl' : ys.length = len')
    (hn : len ≤ 1048576) (hm : len' ≤ 1048576) (hlt : g < w.heap.size) (hlt' : g' < w.heap.size) (hh : HoldsDeps w g 0 xs) (hh' : HoldsDeps w g' 0 ys) :
    Calls Try.prog 27 #[wrV k c s q v de (some ⟨g, 0, none⟩) len cap, wrV k' c' s' q' v' de' (some ⟨g', 0, none⟩) len' cap'] w fun e w' => e = .returned (.int .i64 (wcmp k c s q v de xs k' c' s' q' v' de' ys)) ∧ Below w.heap.size w w' :=
  specWriteCmp_gen k c s q v de _ xs len cap k' c' s' q' v' de' _ ys len' cap' w hl hl' hn hm (.inr ⟨g, 0, rfl, hlt, hh⟩) (.inr ⟨g', 0, rfl, hlt', hh'⟩)

end Go.Proofs.Ytojgahcogpediaa
