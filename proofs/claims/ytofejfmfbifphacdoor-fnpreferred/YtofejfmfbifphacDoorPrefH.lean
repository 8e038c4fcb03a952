/- The laws' own small functions that FnPreferred calls: big, same, pick. -/
import Derived.Test.YtofejfmfbifphacDoorRingD3
import Derived.Test.YtofejfmfbifphacDoorPreferP
namespace Go.Proofs.YtofejfmfbifphacDoor
open Go.ChangeShapes Go.WideShapes Go.ChangeAt Go.RowKit Go.Joins

namespace lawFnPreferred

set_option maxRecDepth 100000 in
theorem big_is (a : Option Addr) (len cap : Nat) (r : Bool) (h : decide (1048576 < len) = r) (hm : len ≤ maxLen) (w : World) :
    Calls Tryd.prog 4 #[.slice a len cap] w fun e w' => e = .returned (.bool r) ∧ w' = w := by
  unfold maxLen at hm
  cases r
  · have h' : len ≤ 1048576 := by simpa using h
    clear h
    go_enter Tryd.func4, Tryd.ntmps4
    go_wp2
    go_ret
    exact ⟨by simp; omega, rfl⟩
  · have h' : 1048576 < len := by simpa using h
    clear h
    go_enter Tryd.func4, Tryd.ntmps4
    go_wp2
    go_ret
    exact ⟨by simp; omega, rfl⟩

set_option maxRecDepth 100000 in
theorem open_bytes {H : Type} {enc : TypeId × Value → H} {w : World} {base b0 : Nat} {held : Bool} {r : Go.Reach} {v : Value} {d : DataW H} {p : List MemPlace} (hv : Value.okWide Tryd.prog w r b0 22 v) (h : DataW.Trod enc Tryd.prog w base (fun _ => true) held 22 v d p) :
    ∃ (a : Option Addr) (len cap : Nat), v = .slice a len cap ∧ (len ≤ maxLen ∧ Bytes w a len) := by
  obtain ⟨a, len, cap, rfl⟩ := okWide_slice Tryd.underlying22 hv
  obtain ⟨fuel, hf⟩ := h
  refine ⟨a, len, cap, rfl, ?_⟩
  rcases open_ints Tryd.underlying22 Tryd.underlying5 (by kernel_rfl) hf with ⟨hcs, _⟩ | ⟨x, l, c, zs, hcs, _, hl, hm, hz, _, hcell, hwz⟩
  · simp [Value.cells] at hcs
    obtain ⟨rfl, rfl, rfl⟩ := hcs
    exact ⟨Nat.zero_le _, .inl rfl⟩
  · simp [Value.cells] at hcs
    obtain ⟨rfl, rfl, rfl⟩ := hcs
    refine ⟨by omega, ?_⟩
    by_cases h0 : len = 0
    · exact .inl h0
    · have hzl : zs.length = cap := by simpa using hz
      have hx : x = ⟨x.block, x.off, none⟩ := by
        have h1 := hcell 0 (by omega)
        simp [Addr.add] at h1
        cases x with
        | mk b o s =>
          cases s with
          | none => rfl
          | some s =>
            simp only [World.cell?] at h1
            split at h1 <;> simp at h1
      refine .inr ⟨x.block, x.off, by rw [← hx], ?_, fun i hi => ?_⟩
      · have h1 := hcell 0 (by omega)
        have := World.block_lt_of_cell? w _ h1
        simpa [Addr.add] using this
      · have h1 := hcell i (by omega)
        have hw : (Lit.int .u8 (zs.getD i 0)).wf = true := hwz _ (by rw [List.getD_eq_getElem?_getD, List.getElem?_eq_getElem (by omega)]; exact List.getElem_mem _)
        have hb := bounds_u8 hw
        refine ⟨zs.getD i 0, hb.1, hb.2, ?_⟩
        rw [hx] at h1
        have e : (Addr.mk x.block x.off none).add i = ⟨x.block, x.off + i, none⟩ := by
          unfold Addr.add
          split
          · rename_i h
            rw [h]
            rfl
          · rfl
        rw [e] at h1
        exact h1

end lawFnPreferred

set_option maxRecDepth 100000 in
set_option maxHeartbeats 1000000 in
theorem same_any (a a' : Option Addr) (n cap cap' : Nat) (zs : List Int) (w : World) (hn : zs.length = n) (hm : n ≤ 1048576) (hh : IsInts w a zs) (hh' : IsInts w a' zs) :
    Calls Tryd.prog 10 #[.slice a n cap, .slice a' n cap'] w fun e w' => e = .returned (.bool true) ∧ Below w.heap.size w w' := by
  have HH : Hid (IsInts w a zs) := hh
  have HH' : Hid (IsInts w a' zs) := hh'
  have HN : Hid (zs.length = n) := hn
  clear hh hh' hn
  go_enter Tryd.func10, Tryd.ntmps10
  go_wp2
  go_loopw [5] (fun i wr => ∃ k : Nat, k ≤ n ∧ i = .int .i64 k ∧ Hid (Below w.heap.size w wr)) (fun i _ => n - (intOf i).toNat)
  case atStart => exact ⟨0, Nat.zero_le _, rfl, Below.refl _ _⟩
  case round =>
    obtain ⟨k, hk, rfl, HB⟩ := hrel
    by_cases hk' : k < n
    · obtain ⟨b, rfl, hz, e0⟩ := HH.out.at HB.out (show k < zs.length by rw [HN.out]; exact hk')
      obtain ⟨b', rfl, hz', f0⟩ := HH'.out.at HB.out (show k < zs.length by rw [HN.out]; exact hk')
      have i1 : (0 : Int) ≤ (k : Int) := by omega
      have i2 : (k : Int) < (n : Int) := by omega
      clear HH HH'
      generalize zs.getD k 0 = x at *
      go_wp2_with fail
      have ge0 := aft_cell hz e0
      have gf0 := aft_cell hz' f0
      have ne := aft_some wr
      refine wp_region_aft (by kernel_rfl) (by kernel_rfl) ?_
      repeat (first | go_big_quiet_step (fail))
      refine wpQuiet_nil ?_
      intro wq hq
      have HBQ : Hid (Below w.heap.size w wq) := below_step HB.out HB.out.size hq
      clear hq
      go_wp2
      exact ⟨⟨k + 1, by omega, by go_num, HBQ⟩, by simp [intOf]; omega⟩
    · have hkk : k = n := by omega
      subst hkk
      go_wp2
      go_ret
      exact ⟨rfl, HB.out⟩


set_option maxRecDepth 100000 in
set_option maxHeartbeats 2000000 in
theorem pickL_any (a : Option Addr) (len cap n : Nat) (w : World) (h : Bytes w a len) (hl : len ≤ 1048576) (hn : n ≤ 1000) :
    Calls Tryd.prog 12 #[.slice a len cap, .int .i64 1, .int .i64 n] w fun e w' => ∃ k : Nat, e = .returned (.int .i64 (k : Int)) ∧ (1 ≤ n → k < n) ∧ w' = w := by
  have HY := Lib.hid h
  clear h
  go_enter Tryd.func12, Tryd.ntmps12
  by_cases h0 : len = 0
  · subst h0
    go_wp2
    go_ret
    exact ⟨0, rfl, fun h => h, rfl⟩
  by_cases h1 : n < 2
  · have e0 : ¬ ((len : Int) = 0) := by omega
    have e1 : (n : Int) < 2 := by omega
    go_wp2
    go_ret
    exact ⟨0, rfl, fun h => h, rfl⟩
  have e0 : ¬ ((len : Int) = 0) := by omega
  have e1 : ¬ ((n : Int) < 2) := by omega
  have e2 : ¬ ((n : Int) = 0) := by omega
  obtain ⟨b, o, rfl, hbl, hby⟩ := HY.out.resolve_left h0
  have HBY := Lib.hid hby
  clear hby HY
  go_wp2
  go_loopw [7, 8] (fun x i wr => ∃ k y : Nat, i = .int .i64 k ∧ x = .int .i64 y ∧ (k = 0 ∧ y = 0 ∨ k = 1 ∧ y ≤ 255 ∨ k = 2 ∧ y ≤ 8160 ∨ k = 3 ∧ y ≤ 253215) ∧ wr = w) (fun _ i _ => 3 - (intOf i).toNat)
  case atStart => exact ⟨0, 0, rfl, rfl, .inl ⟨rfl, rfl⟩, rfl⟩
  case round =>
    obtain ⟨k, y, rfl, rfl, hy, rfl⟩ := hrel
    by_cases hk : k < 3
    · have hlen : 0 < len := by omega
      have hmod : Int.tmod (1 + (k : Int)) (len : Int) = (((1 + k) % len : Nat) : Int) := tmod_nat (1 + k) len
      obtain ⟨q, hq⟩ : ∃ q, (1 + k) % len = q := ⟨_, rfl⟩
      rw [hq] at hmod
      have hql : q < len := by rw [← hq]; exact Nat.mod_lt _ hlen
      clear hq
      have i1 : (0 : Int) ≤ (q : Int) := by omega
      have i2 : (q : Int) < (len : Int) := by omega
      obtain ⟨z, z0, z1, hz⟩ := HBY.out q hql
      have i3 : (k : Int) < 3 := by omega
      have hwz : wrap64 z = z := by unfold wrap64; omega
      go_wp2
      refine ⟨⟨k + 1, 31 * y + z.toNat, by go_num, ?_, by omega, trivial⟩, by simp [intOf]; omega⟩
      congr 1
      omega
    · have i3 : ¬ ((k : Int) < 3) := by omega
      have hmod : Int.tmod ((y : Int) + 1) (n : Int) = (((y + 1) % n : Nat) : Int) := tmod_nat (y + 1) n
      have hml : (y + 1) % n < n := Nat.mod_lt _ (by omega)
      go_wp2
      go_ret
      exact ⟨_, rfl, fun _ => hml, rfl⟩

end Go.Proofs.YtofejfmfbifphacDoor
