/- The iterator impl.pointsOf: its contract for a loop over it. -/
import Derived.RangeFuncNested
import Derived.RangeFuncBound
import Derived.RangeFuncCalls
import Derived.RangeFuncLeaves
import Derived.RangeFuncBox
import Derived.Shelf.Abstract
import Derived.Shelf.RegionOpen
import Derived.WalkKit
import Derived.OwnWalkIn
import Derived.TacticsInMore
import Derived.LoopNIn
import Derived.LoopIn
import Derived.Test.YtofejfmfbifphacDoorRingC
import Derived.Test.YtofejfmfbifphacDoorImplNum
namespace Go.Proofs.YtofejfmfbifphacDoor
open Go.ChangeShapes Go.WideShapes Go.ChangeAt Go.RowKit Go.Joins Go.Shelf
attribute [local go_sem] Oper.semAt_some

set_option maxRecDepth 100000 in
set_option maxHeartbeats 4000000 in
theorem points1_in (n : Nat) (hn : 1 ≤ n) (l Br Bv n₀ : Nat) (a : Option Addr) (len cap V : Nat) (zs : List Int) (hl : zs.length = len) (h8 : len ≤ 8) (hV : V ≤ 6) (hz : ∀ i, i < len → 0 ≤ zs.getD i 0 ∧ zs.getD i 0 ≤ 99) (J Jx : List Pt → World → Prop)
    (hJg : ∀ pre W W', J pre W → Below W.heap.size W W' → J pre W')
    (hY : ∀ pre x W, J pre W → pre.length < 54 → YieldAt Fence.wide (n - 1) Tryd.prog l #[.agg #[.int .i64 x.t, .int .i64 x.n]] W fun e W' =>
      (e = .returned (.bool true) ∧ J (pre ++ [x]) W' ∧ Below n₀ W W') ∨ (e = .returned (.bool false) ∧ Jx (pre ++ [x]) W'))
    (W : World) (hBr : W.cell? ⟨Br, 0, none⟩ = some (.slice a len cap)) (hBv : W.cell? ⟨Bv, 0, none⟩ = some (.int .i64 V)) (hv : Bv < n₀) (hn₀ : n₀ ≤ W.heap.size) (ht : Tab W) (htl : 0 < n₀)
    (hp : zs = [] ∨ ∃ b, a = some ⟨b, 0, none⟩ ∧ b < n₀ ∧ ∀ i, i < zs.length → W.cell? ⟨b, i, none⟩ = some (.int .i64 (zs.getD i 0))) (h0 : J [] W) :
    CallsIn Fence.wide n Tryd.prog 32 #[.func (.yield l) #[] #[], .pointer (some ⟨Br, 0, none⟩), .pointer (some ⟨Bv, 0, none⟩)] W fun e W' => (∃ v, e = .returned v) ∧
      ((∃ ys, ys = ptsOf zs V ∧ J ys W') ∨ (∃ pre, True ∧ Jx pre W')) := by
  have HP := Lib.hid hp
  have HL := Lib.hid hl
  have HZ := Lib.hid hz
  have HT := Lib.hid ht
  clear hp hl hz ht
  refine callsIn_of_wp Tryd.func32 rfl trivial ?_ rfl
  simp only [Tryd.ntmps32, List.size_toArray, List.length_cons, List.length_nil, Nat.reduceAdd, Nat.reduceSub, Array.replicate_succ, Array.replicate_zero, List.push_toArray, List.append_toArray, List.nil_append, List.cons_append]
  gi_wp2
  gi_loopw [10] (fun i wr => ∃ a0 : Nat, a0 ≤ len ∧ i = .int .i64 a0 ∧ J (ptsPre zs V a0 0) wr ∧ Hid (Below n₀ W wr)) (fun i _ => len - (intOf i).toNat)
  case atStart => exact ⟨0, Nat.zero_le _, rfl, by rw [ptsPre_zero]; exact h0, Below.refl _ _⟩
  case round =>
    obtain ⟨a0, ha0, rfl, hJs, HK⟩ := hrel
    by_cases hlt : a0 < len
    · obtain ⟨b, hab, hbl, hh⟩ : ∃ b, a = some ⟨b, 0, none⟩ ∧ b < n₀ ∧ ∀ i, i < zs.length → W.cell? ⟨b, i, none⟩ = some (.int .i64 (zs.getD i 0)) := by
        rcases HP.out with h | h
        · rw [h] at HL
          have := HL.out
          simp at this
          omega
        · exact h
      subst hab
      have c1 : wr.cell? ⟨b, a0, none⟩ = some (.int .i64 (zs.getD a0 0)) := (HK.out.cell (p := ⟨b, a0, none⟩) hbl).trans (hh a0 (by rw [HL.out]; exact hlt))
      have cv : wr.cell? ⟨Bv, 0, none⟩ = some (.int .i64 V) := (HK.out.cell (p := ⟨Bv, 0, none⟩) hv).trans hBv
      have i1 : (0 : Int) ≤ (a0 : Int) := by omega
      have i2 : (a0 : Int) < (len : Int) := by omega
      obtain ⟨x, hx⟩ : ∃ x, zs.getD a0 0 = x := ⟨_, rfl⟩
      have HX := Lib.hid hx
      obtain ⟨x0, x1⟩ := HZ.out a0 hlt
      rw [hx] at c1 x0 x1
      clear hx hh
      gi_wp2
      gi_loopw [15] (fun i wx => ∃ b0 : Nat, b0 ≤ V ∧ i = .int .i64 b0 ∧ J (ptsPre zs V a0 b0) wx ∧ Hid (Below n₀ W wx)) (fun i _ => V - (intOf i).toNat)
      case atStart => exact ⟨0, Nat.zero_le _, rfl, hJs, HK⟩
      case round =>
        clear hJs HK c1 cv
        obtain ⟨b0, hb0, rfl, hJs, HK⟩ := hrel
        by_cases hbt : b0 < V
        · have i3 : (0 : Int) ≤ (b0 : Int) := by omega
          have i4 : (b0 : Int) < (V : Int) := by omega
          have z1 : (⟨(Lib.itoa x).toArray⟩ : ByteArray).size ≤ 21 := itoa_size x0 x1
          have z2 : (⟨(Lib.itoa (b0 : Int)).toArray⟩ : ByteArray).size ≤ 21 := itoa_size (by omega) (by omega)
          have z3 : (⟨#[46]⟩ : ByteArray).size = 1 := rfl
          have HHS := Lib.hid (ring_hash x b0)
          have hlen : (ptsPre zs V a0 b0).length < 54 := by
            have h1 := ptsPre_len (nodes := zs) (V := V) (a := a0) (b := b0 + 1) (by rw [HL.out]; exact h8) hV hbt
            rw [ptsPre_next, List.length_append] at h1
            simp at h1
            omega
          have HNX : Hid (ptsPre zs V a0 b0 ++ [pointOf x b0] = ptsPre zs V a0 (b0 + 1)) := by rw [ptsPre_next, HX.out]; exact Lib.hid rfl
          have HTW := Lib.hid (HT.out.below HK.out htl)
          gi_wp2
          refine ⟨trivial, ?_⟩
          refine (callsIn_wide.2 (implNum x _ (by omega) (by omega) HTW.out)).mono ?_
          rintro e w1 ⟨rfl, hb1⟩
          have hJ1 := hJg _ _ _ hJs hb1
          have HK1 : Hid (Below n₀ W w1) := HK.out.trans (hb1.mono (Nat.le_trans hn₀ HK.out.size))
          have HT1 := Lib.hid (HT.out.below HK1.out htl)
          clear hJs hb1 HTW
          gi_wp2
          refine ⟨trivial, ?_⟩
          refine (callsIn_wide.2 (implNum (b0 : Int) _ (by omega) (by omega) HT1.out)).mono ?_
          rintro e w2 ⟨rfl, hb2⟩
          have hJ2 := hJg _ _ _ hJ1 hb2
          have HK2 : Hid (Below n₀ W w2) := HK1.out.trans (hb2.mono (Nat.le_trans hn₀ HK1.out.size))
          clear hJ1 hb2 HT1
          have z4 : (⟨(Lib.itoa x).toArray⟩ ++ (⟨#[46]⟩ : ByteArray)).size = (⟨(Lib.itoa x).toArray⟩ : ByteArray).size + 1 := by simp [z3]
          gi_wp2
          refine ⟨trivial, ?_⟩
          refine (callsIn_wide.2 (implHash_any _ _ (by simp; omega))).mono ?_
          rintro e w3 ⟨rfl, rfl⟩
          have e1 : hashL (⟨(Lib.itoa x).toArray⟩ ++ (⟨#[46]⟩ : ByteArray) ++ ⟨(Lib.itoa (b0 : Int)).toArray⟩ : ByteArray).data.toList = (pointOf x b0).t := HHS.out
          rw [e1]
          clear e1
          obtain ⟨fn, tmps, assign, body, hy, hR⟩ := hY (ptsPre zs V a0 b0) (pointOf x b0) w3 hJ2 hlen
          have hpn : (pointOf x b0).n = x := rfl
          rw [hpn] at hy
          have HR := Lib.hid hR
          clear hR hJ2 hpn
          generalize (pointOf x b0).t = h at *
          gi_wp2
          refine HR.out.mono ?_
          rintro e W3 (⟨rfl, hJ3, hk3⟩ | ⟨rfl, hJx3⟩)
          · have HK3 : Hid (Below n₀ W W3) := HK2.out.trans hk3
            rw [HNX.out] at hJ3
            gi_wp2
            go_roundw
            case rel => exact ⟨b0 + 1, by omega, by go_num, hJ3, HK3⟩
            case measure => simp [intOf]; omega
          · gi_wp2
            refine bodyPost_ret (results_none rfl _ _ _) rfl ?_
            exact ⟨⟨_, rfl⟩, .inr ⟨_, trivial, hJx3⟩⟩
        · have hbe : b0 = V := by omega
          subst hbe
          rw [← ptsPre_row zs b0 a0 (by rw [HL.out]; exact hlt)] at hJs
          gi_wp2
          go_roundw
          case rel => exact ⟨a0 + 1, by omega, by go_num, hJs, HK⟩
          case measure => simp [intOf]; omega
    · have hae : len ≤ a0 := by omega
      rw [ptsPre_all zs V a0 (by rw [HL.out]; exact hae)] at hJs
      gi_wp2
      go_end0
      exact ⟨⟨_, rfl⟩, .inl ⟨_, rfl, hJs⟩⟩

end Go.Proofs.YtofejfmfbifphacDoor
