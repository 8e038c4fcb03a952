/- The contract of spec.Prefer. -/
import Derived.Test.YtofejfmfbifphacDoorPreferP
import Derived.Deep.AppendLies
namespace Go.Proofs.YtofejfmfbifphacDoor
open Go.ChangeShapes Go.WideShapes Go.ChangeAt Go.RowKit Go.Joins
attribute [local go_sem ↓] Go.wp_at_zero Go.wp_at_succ

set_option maxRecDepth 100000 in
set_option maxHeartbeats 8000000 in
theorem specPrefer_any (a : Option Addr) (n cap : Nat) (ps : List Pt) (s : ByteArray) (m : Int) (w : World) (hn : ps.length = n) (hm : n ≤ 1048576) (hs : s.size ≤ 9223372036854775807) (hh : IsPts w a ps) :
    Calls Tryd.prog 11 #[.slice a n cap, .string s, .int .i64 m] w fun e w' => ∃ v, e = .returned v ∧ RowI w' w.heap.size v (preferL (seqN ps (firstS ps (hashL s.data.toList))) m) ∧ Below w.heap.size w w' := by
  have HH : Hid (IsPts w a ps) := hh
  have HN : Hid (ps.length = n) := hn
  clear hh hn
  obtain ⟨i0, hi0, hx0⟩ := Option.map_eq_some_iff.1 infoInt
  simp only [Prod.mk.injEq] at hx0
  have HI0 := Lib.hid hi0
  have HX0 := Lib.hid hx0
  clear hi0 hx0
  have HR0 : Hid (RowI (w.alloc (.cells #[] 3)) w.heap.size (.slice (some ⟨w.heap.size, 0, none⟩) 0 0) []) := World.ownsRow_made w #[] 0 (Nat.le_refl _) (by simp [maxLen]) (by simp)
  have HB0 : Hid (Below w.heap.size w (w.alloc (.cells #[] 3))) := (Below.refl _ _).alloc (Nat.le_refl _) _
  go_enter Tryd.func11, Tryd.ntmps11
  go_wp2_with fail
  refine (specHash_any s _ hs).mono ?_
  rintro e w1 ⟨rfl, rfl⟩
  obtain ⟨W0, hW0⟩ : ∃ W0, w.alloc (.cells #[] 3) = W0 := ⟨_, rfl⟩
  rw [hW0] at HR0 HB0 ⊢
  obtain ⟨h, hhs⟩ : ∃ h, hashL s.data.toList = h := ⟨_, rfl⟩
  have HHS := Lib.hid hhs
  rw [hhs]
  clear hhs
  clear hW0
  go_wp2
  go_loopw [9] (fun i wr => ∃ k : Nat, k ≤ n ∧ i = .int .i64 k ∧ Hid (∀ j, j < k → (ps.getD j pz).t < h) ∧ wr = W0) (fun i _ => n - (intOf i).toNat)
  case atStart => exact ⟨0, Nat.zero_le _, rfl, fun j hj => by omega, rfl⟩
  case round =>
    obtain ⟨k, hk, rfl, HG, rfl⟩ := hrel
    by_cases hgo : k < n ∧ (ps.getD k pz).t < h
    · obtain ⟨hk', hlt⟩ := hgo
      obtain ⟨b, o, rfl, hz, e0, e1⟩ := HH.out.at HB0.out (show k < ps.length by rw [HN.out]; exact hk')
      have i1 : (0 : Int) ≤ (k : Int) := by omega
      have i2 : (k : Int) < (n : Int) := by omega
      have HG2 : Hid (∀ j, j < k + 1 → (ps.getD j pz).t < h) := fun j hj => by
        by_cases h' : j < k
        · exact HG.out j h'
        · have : j = k := by omega
          rw [this]
          exact hlt
      clear HH
      generalize (ps.getD k pz).t = x at *
      generalize (ps.getD k pz).n = y at *
      go_wp2
      exact ⟨⟨k + 1, by omega, by go_num, HG2, trivial⟩, by simp [intOf]; omega⟩
    · have HFI : Hid (firstS ps h = k) := firstS_is ps h k (by rw [HN.out]; exact hk) HG.out (fun hk' => by
        rw [HN.out] at hk'
        have : ¬ (ps.getD k pz).t < h := fun h' => hgo ⟨hk', h'⟩
        omega)
      have HLEN : Hid ((seqN ps k).length = n) := by rw [seqN_len, HN.out]; exact Lib.hid rfl
      have HE : Hid (seqN ps (firstS ps h) = seqN ps k) := by rw [HFI.out]; exact Lib.hid rfl
      have HAT : Hid (∀ j, j < n → (seqN ps k).getD j 0 = (ps.getD ((k + j) % n) pz).n) := fun j hj => by
        rw [seqN_at (by rw [HN.out]; exact hj), HN.out]
      have HR1 : Hid (RowI wr w.heap.size (.slice (some ⟨w.heap.size, 0, none⟩) 0 0) (preferL ((seqN ps k).take 0) m)) := HR0.out
      have hend : (k < n ∧ ¬ (ps.getD k pz).t < h) ∨ ¬ k < n := by
        by_cases h' : k < n
        · exact .inl ⟨h', fun h'' => hgo ⟨h', h''⟩⟩
        · exact .inr h'
      clear hgo HFI HG HR0
      rcases hend with ⟨hk', hge⟩ | hk'
      · obtain ⟨b, o, hab, hz, e0, e1⟩ := HH.out.at HB0.out (show k < ps.length by rw [HN.out]; exact hk')
        subst hab
        have i1 : (0 : Int) ≤ (k : Int) := by omega
        have i2 : (k : Int) < (n : Int) := by omega
        generalize (ps.getD k pz).t = x at *
        generalize (ps.getD k pz).n = y at *
        go_wp2
        clear e0 e1 hge i1 i2 hz
        generalize seqN ps k = xs at *
        go_loopw [7, 10] (fun t i wx => ∃ (j : Nat) (v : Value), j ≤ n ∧ i = .int .i64 j ∧ v = t ∧ Hid (RowI wx w.heap.size v (preferL (xs.take j) m)) ∧ Hid (Below w.heap.size w wx)) (fun _ i _ => n - (intOf i).toNat)
        case atStart => exact ⟨0, _, Nat.zero_le _, rfl, rfl, HR1, HB0⟩
        case round =>
          clear HR1 HB0
          obtain ⟨j, v, hj, rfl, rfl, HR, HB⟩ := hrel
          have hln := prefer_len xs m j
          by_cases hj' : j < n
          · have hjx : j < xs.length := by rw [HLEN.out]; exact hj'
            have HNX := Lib.hid (prefer_next xs m hjx)
            have HST : Hid (m ≤ ((preferL (xs.take j) m).length : Int) → preferL xs m = preferL (xs.take j) m) := prefer_stop xs m j
            rw [HAT.out j hj'] at HNX
            have hq : (k + j) % n < n := Nat.mod_lt _ (by omega)
            obtain ⟨av, cv, hv, ho⟩ := HR.out.form
            have HO := Lib.hid ho
            clear ho
            generalize preferL (xs.take j) m = zs at *
            subst hv
            have i1 : (0 : Int) ≤ (j : Int) := by omega
            have i2 : (j : Int) < (n : Int) := by omega
            by_cases hlm : (zs.length : Int) < m
            · obtain ⟨b2, o2, ha2, hz, e0, e1⟩ := HH.out.at HB.out (show (k + j) % n < ps.length by rw [HN.out]; exact hq)
              injection ha2 with ha2
              injection ha2 with ha2 ha3
              subst ha2 ha3
              have hmod : Int.tmod ((k : Int) + (j : Int)) (n : Int) = (((k + j) % n : Nat) : Int) := tmod_nat (k + j) n
              generalize (k + j) % n = q at *
              generalize (ps.getD q pz).t = x2 at *
              generalize (ps.getD q pz).n = y2 at *
              have j1 : (0 : Int) ≤ (q : Int) := by omega
              have j2 : (q : Int) < (n : Int) := by omega
              have hn0 : ¬ ((n : Int) = 0) := by omega
              go_wp2
              obtain ⟨W1, hW1⟩ : ∃ W1, wr.alloc (.cells #[.int .i64 x2, .int .i64 y2] 32) = W1 := ⟨_, rfl⟩
              have HBX : Hid (Below wr.heap.size wr W1) := by rw [← hW1]; exact Lib.hid ((Below.refl _ _).alloc (Nat.le_refl _) _)
              have HB1 : Hid (Below w.heap.size w W1) := below_step HB.out HB.out.size HBX.out
              have HO1 : Hid (IsInts W1 av zs) := (HO.out.below HBX.out).isInts
              have HR1 : Hid (RowI W1 w.heap.size (.slice av zs.length cv) zs) := HR.out.below HBX.out
              have hp1 : W1.cell? ⟨wr.heap.size, 1, none⟩ = some (.int .i64 y2) := by rw [← hW1]; exact cell_of_row _ _ 1 _ _ (0, 0) (heap_alloc_new wr _)
              have hpz : wr.heap.size < W1.heap.size := by rw [← hW1]; simp
              rw [hW1]
              clear hW1 HBX HO HR HB e0 e1 hmod j1 j2 hn0
              generalize wr.heap.size = N1 at *
              go_loopw [12, 13] (fun t i wr => ∃ (r : Nat), r ≤ zs.length ∧ i = .int .i64 r ∧ t = .bool (decide (y2 ∈ zs.take r)) ∧ Hid (Below W1.heap.size W1 wr)) (fun _ i _ => zs.length - (intOf i).toNat)
              case atStart => exact ⟨0, Nat.zero_le _, rfl, by simp, Below.refl _ _⟩
              case round =>
                obtain ⟨r, hr, rfl, rfl, HY⟩ := hrel
                by_cases hr' : r < zs.length
                · obtain ⟨b3, rfl, hz3, f0⟩ := HO1.out.at HY.out hr'
                  have hpy : wr.cell? ⟨N1, 1, none⟩ = some (.int .i64 y2) := held_cell HY.out hp1 hpz
                  have hpyz : N1 < wr.heap.size := Nat.lt_of_lt_of_le hpz HY.out.size
                  have i3 : (0 : Int) ≤ (r : Int) := by omega
                  have i4 : (r : Int) < (zs.length : Int) := by omega
                  have HMT := Lib.hid (mem_take_next hr' y2)
                  generalize zs.getD r 0 = z at *
                  cases hd : decide (y2 ∈ zs.take r)
                  · have hdn : y2 ∉ zs.take r := of_decide_eq_false hd
                    have HD2 : Hid ((z == y2) = decide (y2 ∈ zs.take (r + 1))) := by
                      rw [show (z == y2) = decide (z = y2) from rfl]
                      exact decide_eq_decide.2 ⟨fun h => HMT.out.2 (.inr h), fun h => (HMT.out.1 h).resolve_left hdn⟩
                    go_wp2_with fail
                    have gf0 := aft_cell hz3 f0
                    have gp0 := aft_cell hpyz hpy
                    have ne := aft_some wr
                    refine wp_region_aft (by kernel_rfl) (by kernel_rfl) ?_
                    repeat (first | go_big_quiet_step (fail))
                    refine wpQuiet_nil ?_
                    intro wq hq'
                    have HYQ : Hid (Below W1.heap.size W1 wq) := below_step HY.out HY.out.size hq'
                    clear hq'
                    go_wp2
                    exact ⟨⟨r + 1, hr', by go_num, by rw [← HD2.out], HYQ⟩, by simp [intOf]; omega⟩
                  · have hdy : y2 ∈ zs.take r := of_decide_eq_true hd
                    have HD2 : Hid (decide (y2 ∈ zs.take (r + 1)) = true) := decide_eq_true (HMT.out.2 (.inl hdy))
                    go_wp2_with fail
                    have gf0 := aft_cell hz3 f0
                    have gp0 := aft_cell hpyz hpy
                    have ne := aft_some wr
                    refine wp_region_aft (by kernel_rfl) (by kernel_rfl) ?_
                    repeat (first | go_big_quiet_step (fail))
                    refine wpQuiet_nil ?_
                    intro wq hq'
                    have HYQ : Hid (Below W1.heap.size W1 wq) := below_step HY.out HY.out.size hq'
                    clear hq'
                    go_wp2
                    exact ⟨⟨r + 1, hr', by go_num, by rw [HD2.out], HYQ⟩, by simp [intOf]; omega⟩
                · have hre : zs.take r = zs := List.take_of_length_le (by omega)
                  rw [hre]
                  have HRY : Hid (RowI wr w.heap.size (.slice av zs.length cv) zs) := HR1.out.below HY.out
                  have HBY : Hid (Below w.heap.size w wr) := below_step HB1.out HB1.out.size HY.out
                  have hpy : wr.cell? ⟨N1, 1, none⟩ = some (.int .i64 y2) := held_cell HY.out hp1 hpz
                  have hwr : w.heap.size ≤ wr.heap.size := HBY.out.size
                  cases hd : decide (y2 ∈ zs)
                  · have HE2 : Hid (preferL (xs.take (j + 1)) m = zs ++ [y2]) := by
                      rw [HNX.out]
                      exact Lib.hid (prefStep_out hlm (of_decide_eq_false hd))
                    have HBC : Hid (Below wr.heap.size wr (wr.alloc (.cells #[.int .i64 y2] 3))) := (Below.refl _ _).alloc (Nat.le_refl _) _
                    have HRC := Lib.hid (HRY.out.below HBC.out)
                    have HCC := Lib.hid (oneI_cells wr 3 y2)
                    have HBD := Lib.hid (below_step HBY.out HBY.out.size HBC.out)
                    go_wp2_with (at_builtin; refine wpList_append_lies _ (by rfl) _ _ _ (by rfl) w.heap.size 3 i0 (.int .i64 0) 1 8 Tryd.underlying24 HI0.out HX0.out.1 HX0.out.2.1 HX0.out.2.2 (by rfl) (by omega) (.slice av zs.length cv) zs.length (zs.map intV) (by rfl) HRC.out ⟨wr.heap.size, 0, none⟩ 1 1 [intV y2] (by rfl) (by rfl) HCC.out (intV_one [y2]) (by omega) (by unfold maxLen; omega) (by omega) (by simp; omega) _ rfl ?_; intro g3 cp3 w5 hown hgrow hg3 _; refine Hid.out ?_)
                    refine Lib.hid ?_
                    have HB5 : Hid (Below w.heap.size w w5) := HBD.out.grown hgrow HBD.out.size fun j hj => (World.ownsRow.lt HRC.out j hj).1
                    have HR5 : Hid (RowI w5 w.heap.size (.slice (some ⟨g3, 0, none⟩) (zs.length + 1) cp3) (preferL (xs.take (j + 1)) m)) := by
                      rw [HE2.out]
                      unfold RowI
                      rw [List.length_append, List.map_append]
                      exact hown
                    clear hown hgrow
                    go_wp2
                    exact ⟨⟨j + 1, _, by omega, by go_num, rfl, HR5, HB5⟩, by simp [intOf]; omega⟩
                  · have HE2 : Hid (RowI wr w.heap.size (.slice av zs.length cv) (preferL (xs.take (j + 1)) m)) := by
                      rw [HNX.out, prefStep_in (of_decide_eq_true hd)]
                      exact HRY
                    go_wp2
                    exact ⟨⟨j + 1, _, by omega, by go_num, rfl, HE2, HBY⟩, by simp [intOf]; omega⟩
            · have HRE : Hid (RowI wr w.heap.size (.slice av zs.length cv) (preferL xs m)) := by
                rw [HST.out (by omega)]
                exact HR
              go_wp2
              go_ret
              exact ⟨_, rfl, by rw [HHS.out, HE.out]; exact HRE.out, HB.out⟩
          · have hje : xs.take j = xs := List.take_of_length_le (by rw [HLEN.out]; omega)
            rw [hje] at HR
            go_wp2
            go_ret
            exact ⟨_, rfl, by rw [HHS.out, HE.out]; exact HR.out, HB.out⟩
      · go_wp2
        generalize seqN ps k = xs at *
        go_loopw [7, 10] (fun t i wx => ∃ (j : Nat) (v : Value), j ≤ n ∧ i = .int .i64 j ∧ v = t ∧ Hid (RowI wx w.heap.size v (preferL (xs.take j) m)) ∧ Hid (Below w.heap.size w wx)) (fun _ i _ => n - (intOf i).toNat)
        case atStart => exact ⟨0, _, Nat.zero_le _, rfl, rfl, HR1, HB0⟩
        case round =>
          clear HR1 HB0
          obtain ⟨j, v, hj, rfl, rfl, HR, HB⟩ := hrel
          have hln := prefer_len xs m j
          by_cases hj' : j < n
          · have hjx : j < xs.length := by rw [HLEN.out]; exact hj'
            have HNX := Lib.hid (prefer_next xs m hjx)
            have HST : Hid (m ≤ ((preferL (xs.take j) m).length : Int) → preferL xs m = preferL (xs.take j) m) := prefer_stop xs m j
            rw [HAT.out j hj'] at HNX
            have hq : (k + j) % n < n := Nat.mod_lt _ (by omega)
            obtain ⟨av, cv, hv, ho⟩ := HR.out.form
            have HO := Lib.hid ho
            clear ho
            generalize preferL (xs.take j) m = zs at *
            subst hv
            have i1 : (0 : Int) ≤ (j : Int) := by omega
            have i2 : (j : Int) < (n : Int) := by omega
            by_cases hlm : (zs.length : Int) < m
            · obtain ⟨b2, o2, ha2, hz, e0, e1⟩ := HH.out.at HB.out (show (k + j) % n < ps.length by rw [HN.out]; exact hq)
              subst ha2
              have hmod : Int.tmod ((k : Int) + (j : Int)) (n : Int) = (((k + j) % n : Nat) : Int) := tmod_nat (k + j) n
              generalize (k + j) % n = q at *
              generalize (ps.getD q pz).t = x2 at *
              generalize (ps.getD q pz).n = y2 at *
              have j1 : (0 : Int) ≤ (q : Int) := by omega
              have j2 : (q : Int) < (n : Int) := by omega
              have hn0 : ¬ ((n : Int) = 0) := by omega
              go_wp2
              obtain ⟨W1, hW1⟩ : ∃ W1, wr.alloc (.cells #[.int .i64 x2, .int .i64 y2] 32) = W1 := ⟨_, rfl⟩
              have HBX : Hid (Below wr.heap.size wr W1) := by rw [← hW1]; exact Lib.hid ((Below.refl _ _).alloc (Nat.le_refl _) _)
              have HB1 : Hid (Below w.heap.size w W1) := below_step HB.out HB.out.size HBX.out
              have HO1 : Hid (IsInts W1 av zs) := (HO.out.below HBX.out).isInts
              have HR1 : Hid (RowI W1 w.heap.size (.slice av zs.length cv) zs) := HR.out.below HBX.out
              have hp1 : W1.cell? ⟨wr.heap.size, 1, none⟩ = some (.int .i64 y2) := by rw [← hW1]; exact cell_of_row _ _ 1 _ _ (0, 0) (heap_alloc_new wr _)
              have hpz : wr.heap.size < W1.heap.size := by rw [← hW1]; simp
              rw [hW1]
              clear hW1 HBX HO HR HB e0 e1 hmod j1 j2 hn0
              generalize wr.heap.size = N1 at *
              go_loopw [12, 13] (fun t i wr => ∃ (r : Nat), r ≤ zs.length ∧ i = .int .i64 r ∧ t = .bool (decide (y2 ∈ zs.take r)) ∧ Hid (Below W1.heap.size W1 wr)) (fun _ i _ => zs.length - (intOf i).toNat)
              case atStart => exact ⟨0, Nat.zero_le _, rfl, by simp, Below.refl _ _⟩
              case round =>
                obtain ⟨r, hr, rfl, rfl, HY⟩ := hrel
                by_cases hr' : r < zs.length
                · obtain ⟨b3, rfl, hz3, f0⟩ := HO1.out.at HY.out hr'
                  have hpy : wr.cell? ⟨N1, 1, none⟩ = some (.int .i64 y2) := held_cell HY.out hp1 hpz
                  have hpyz : N1 < wr.heap.size := Nat.lt_of_lt_of_le hpz HY.out.size
                  have i3 : (0 : Int) ≤ (r : Int) := by omega
                  have i4 : (r : Int) < (zs.length : Int) := by omega
                  have HMT := Lib.hid (mem_take_next hr' y2)
                  generalize zs.getD r 0 = z at *
                  cases hd : decide (y2 ∈ zs.take r)
                  · have hdn : y2 ∉ zs.take r := of_decide_eq_false hd
                    have HD2 : Hid ((z == y2) = decide (y2 ∈ zs.take (r + 1))) := by
                      rw [show (z == y2) = decide (z = y2) from rfl]
                      exact decide_eq_decide.2 ⟨fun h => HMT.out.2 (.inr h), fun h => (HMT.out.1 h).resolve_left hdn⟩
                    go_wp2_with fail
                    have gf0 := aft_cell hz3 f0
                    have gp0 := aft_cell hpyz hpy
                    have ne := aft_some wr
                    refine wp_region_aft (by kernel_rfl) (by kernel_rfl) ?_
                    repeat (first | go_big_quiet_step (fail))
                    refine wpQuiet_nil ?_
                    intro wq hq'
                    have HYQ : Hid (Below W1.heap.size W1 wq) := below_step HY.out HY.out.size hq'
                    clear hq'
                    go_wp2
                    exact ⟨⟨r + 1, hr', by go_num, by rw [← HD2.out], HYQ⟩, by simp [intOf]; omega⟩
                  · have hdy : y2 ∈ zs.take r := of_decide_eq_true hd
                    have HD2 : Hid (decide (y2 ∈ zs.take (r + 1)) = true) := decide_eq_true (HMT.out.2 (.inl hdy))
                    go_wp2_with fail
                    have gf0 := aft_cell hz3 f0
                    have gp0 := aft_cell hpyz hpy
                    have ne := aft_some wr
                    refine wp_region_aft (by kernel_rfl) (by kernel_rfl) ?_
                    repeat (first | go_big_quiet_step (fail))
                    refine wpQuiet_nil ?_
                    intro wq hq'
                    have HYQ : Hid (Below W1.heap.size W1 wq) := below_step HY.out HY.out.size hq'
                    clear hq'
                    go_wp2
                    exact ⟨⟨r + 1, hr', by go_num, by rw [HD2.out], HYQ⟩, by simp [intOf]; omega⟩
                · have hre : zs.take r = zs := List.take_of_length_le (by omega)
                  rw [hre]
                  have HRY : Hid (RowI wr w.heap.size (.slice av zs.length cv) zs) := HR1.out.below HY.out
                  have HBY : Hid (Below w.heap.size w wr) := below_step HB1.out HB1.out.size HY.out
                  have hpy : wr.cell? ⟨N1, 1, none⟩ = some (.int .i64 y2) := held_cell HY.out hp1 hpz
                  have hwr : w.heap.size ≤ wr.heap.size := HBY.out.size
                  cases hd : decide (y2 ∈ zs)
                  · have HE2 : Hid (preferL (xs.take (j + 1)) m = zs ++ [y2]) := by
                      rw [HNX.out]
                      exact Lib.hid (prefStep_out hlm (of_decide_eq_false hd))
                    have HBC : Hid (Below wr.heap.size wr (wr.alloc (.cells #[.int .i64 y2] 3))) := (Below.refl _ _).alloc (Nat.le_refl _) _
                    have HRC := Lib.hid (HRY.out.below HBC.out)
                    have HCC := Lib.hid (oneI_cells wr 3 y2)
                    have HBD := Lib.hid (below_step HBY.out HBY.out.size HBC.out)
                    go_wp2_with (at_builtin; refine wpList_append_lies _ (by rfl) _ _ _ (by rfl) w.heap.size 3 i0 (.int .i64 0) 1 8 Tryd.underlying24 HI0.out HX0.out.1 HX0.out.2.1 HX0.out.2.2 (by rfl) (by omega) (.slice av zs.length cv) zs.length (zs.map intV) (by rfl) HRC.out ⟨wr.heap.size, 0, none⟩ 1 1 [intV y2] (by rfl) (by rfl) HCC.out (intV_one [y2]) (by omega) (by unfold maxLen; omega) (by omega) (by simp; omega) _ rfl ?_; intro g3 cp3 w5 hown hgrow hg3 _; refine Hid.out ?_)
                    refine Lib.hid ?_
                    have HB5 : Hid (Below w.heap.size w w5) := HBD.out.grown hgrow HBD.out.size fun j hj => (World.ownsRow.lt HRC.out j hj).1
                    have HR5 : Hid (RowI w5 w.heap.size (.slice (some ⟨g3, 0, none⟩) (zs.length + 1) cp3) (preferL (xs.take (j + 1)) m)) := by
                      rw [HE2.out]
                      unfold RowI
                      rw [List.length_append, List.map_append]
                      exact hown
                    clear hown hgrow
                    go_wp2
                    exact ⟨⟨j + 1, _, by omega, by go_num, rfl, HR5, HB5⟩, by simp [intOf]; omega⟩
                  · have HE2 : Hid (RowI wr w.heap.size (.slice av zs.length cv) (preferL (xs.take (j + 1)) m)) := by
                      rw [HNX.out, prefStep_in (of_decide_eq_true hd)]
                      exact HRY
                    go_wp2
                    exact ⟨⟨j + 1, _, by omega, by go_num, rfl, HE2, HBY⟩, by simp [intOf]; omega⟩
            · have HRE : Hid (RowI wr w.heap.size (.slice av zs.length cv) (preferL xs m)) := by
                rw [HST.out (by omega)]
                exact HR
              go_wp2
              go_ret
              exact ⟨_, rfl, by rw [HHS.out, HE.out]; exact HRE.out, HB.out⟩
          · have hje : xs.take j = xs := List.take_of_length_le (by rw [HLEN.out]; omega)
            rw [hje] at HR
            go_wp2
            go_ret
            exact ⟨_, rfl, by rw [HHS.out, HE.out]; exact HR.out, HB.out⟩

end Go.Proofs.YtofejfmfbifphacDoor
