/- Contracts of the specification's l02Join, MapJoin, MapPut. -/
import Derived.Test.YtfapebnilbdheabPlainM
import Derived.Test.YtfapebnilbdheabPutMore
import Derived.Test.YtfapebnilbdheabITold
namespace Go.Proofs.Ytfapebnilbdheab
open Go.ChangeShapes Go.WideShapes Go.ChangeAt Go.RowKit Go.Joins
attribute [local go_sem ↓] Go.wp_at_zero Go.wp_at_succ

theorem join_few : ∀ (vs us : List Wr), Few us → Few vs → Few (joinW us vs)
  | [], us, h, _ => h
  | x :: r, us, h, h' => by
    rw [few_iff] at h'
    exact join_few r (putW us x) (put_few h (h' x (by simp))) (few_iff.2 fun z hz => h' z (by simp [hz]))

theorem few_take {ws : List Wr} (h : Few ws) (k : Nat) : Few (ws.take k) := by
  rw [few_iff] at *
  exact fun x hx => h x (List.mem_of_mem_take hx)

set_option maxHeartbeats 4000000 in
theorem l02Join_gen (a b : Option Addr) (n m cap cap' : Nat) (us vs : List Wr) (w : World) (hn : us.length = n) (hm : vs.length = m) (hs : n + m ≤ 1048576) (hx : Few us) (hy : Few vs) (hi : IsWs w a us) (hj : IsWs w b vs) :
    Calls Try.prog 45 #[.slice a n cap, .slice b m cap'] w fun e w' => ∃ g cp es L, e = .returned (.slice (some ⟨g, 0, none⟩) L cp) ∧ es.length = L ∧ es.map (·.x) = joinW us vs ∧ RowEs w' w.heap.size g cp es ∧ Below w.heap.size w w' := by
  have HI : Hid (IsWs w a us) := hi
  have HJ : Hid (IsWs w b vs) := hj
  have HN : Hid (us.length = n) := hn
  have HM : Hid (vs.length = m) := hm
  have HX : Hid (Few us) := hx
  have HY : Hid (Few vs) := hy
  clear hi hj hn hm hx hy
  go_enter Try.func45, Try.ntmps45
  go_wp2_with fail
  refine (copies_gen a n cap us _ HN.out (by omega) HX.out HI.out).mono ?_
  rintro e w1 ⟨g0, cp0, es0, rfl, he0, hr0, hb0⟩
  have HE0 := Lib.hid he0
  have HR0 := Lib.hid hr0
  have HB0 := Lib.hid hb0
  clear he0 hr0 hb0
  go_wp2
  go_loopw [5, 6] (fun t i wr => ∃ (k L g cp : Nat) (es : List En), k ≤ m ∧ L ≤ n + k ∧ i = .int .i64 k ∧ t = .slice (some ⟨g, 0, none⟩) L cp ∧ Hid (es.length = L) ∧ Hid (es.map (·.x) = joinW us (vs.take k)) ∧ Hid (RowEs wr w.heap.size g cp es) ∧ Hid (Below w.heap.size w wr)) (fun _ i _ => m - (intOf i).toNat)
  case atStart => exact ⟨0, n, g0, cp0, es0, Nat.zero_le _, Nat.le_refl _, rfl, rfl, by have := congrArg List.length HE0.out; simp at this; exact this.trans HN.out, HE0, HR0, HB0⟩
  case round =>
    clear HE0 HR0 HB0
    obtain ⟨k, L, g, cp, es, hk, hL, rfl, rfl, HL, HE, HR, HB⟩ := hrel
    by_cases hk' : k < m
    · obtain ⟨bb, oo, ad, cq, rfl, hz, ⟨e0, e1, e2, e3, e4, e5, e6⟩, hd⟩ := HJ.out.at HB.out HM.out hk'
      have i1 : (0 : Int) ≤ (k : Int) := by omega
      have i2 : (k : Int) < (m : Int) := by omega
      have hkb : k < vs.length := by rw [HM.out]; exact hk'
      have hxl := HY.out k hkb
      have HD := Lib.hid hd
      have HW : Hid (HoldsWs wr g (joinW us (vs.take k)) (gamma es)) := HR.out.holds HE.out
      have HF : Hid (Few (joinW us (vs.take k))) := join_few _ _ HX.out (few_take HY.out k)
      have HLL : Hid ((joinW us (vs.take k)).length = L) := by
        rw [← HE.out, List.length_map]
        exact HL
      have HT : Hid (joinW us (vs.take (k + 1)) = putW (joinW us (vs.take k)) (vs.getD k wz)) := foldl_take putW vs us k hkb
      clear hd HJ
      generalize vs.getD k wz = x at *
      obtain ⟨xk, xc, xs', xq, xv, xd, xx⟩ := x
      simp only at e0 e1 e2 e3 e4 e5 e6 hxl HD
      generalize joinW us (vs.take k) = ms at *
      go_wp2_with fail
      refine (put_gen _ L cp ms ⟨xk, xc, xs', xq, xv, xd, xx⟩ ad cq _ HLL.out (by omega) HF.out (HW.out.isWs HF.out) hxl HD.out).mono ?_
      rintro e w2 ⟨g2, cp2, es2, L2, rfl, hl2, he2, hr2, hb2⟩
      have hL2 : L2 ≤ L + 1 := by
        have h1 := put_len ms ⟨xk, xc, xs', xq, xv, xd, xx⟩
        rw [← he2, HLL.out, List.length_map, hl2] at h1
        exact h1
      have HL2 := Lib.hid hl2
      have HE2 : Hid (es2.map (·.x) = joinW us (vs.take (k + 1))) := he2.trans HT.out.symm
      have HR2 := Lib.hid (hr2.mono (Nat.le_trans HB.out.size (Nat.le_succ _)))
      have HB2 := Lib.hid (below_step HB.out HB.out.size hb2)
      clear hl2 he2 hr2 hb2
      go_wp2
      exact ⟨⟨k + 1, L2, g2, cp2, es2, by omega, by omega, by go_num, rfl, HL2, HE2, HR2, HB2⟩, by simp [intOf]; omega⟩
    · have hkk : k = m := by omega
      subst hkk
      have HF : Hid (es.map (·.x) = joinW us vs) := by
        have h := HE.out
        rw [List.take_of_length_le (by rw [HM.out]; exact Nat.le_refl _)] at h
        exact h
      go_wp2
      go_ret
      exact ⟨g, cp, es, L, rfl, HL.out, HF.out, HR.out, HB.out⟩

theorem l02Join_any (b c n m cap cap' : Nat) (us vs : List Wr) (γ δ : Nat → Nat) (w : World) (hn : us.length = n) (hm : vs.length = m) (hs : n + m ≤ 1048576) (hx : Few us) (hy : Few vs) (hi : HoldsWs w b us γ) (hj : HoldsWs w c vs δ) :
    Calls Try.prog 45 #[.slice (some ⟨b, 0, none⟩) n cap, .slice (some ⟨c, 0, none⟩) m cap'] w fun e w' => ∃ g cp es L, e = .returned (.slice (some ⟨g, 0, none⟩) L cp) ∧ es.length = L ∧ es.map (·.x) = joinW us vs ∧ RowEs w' w.heap.size g cp es ∧ Below w.heap.size w w' :=
  l02Join_gen _ _ n m cap cap' us vs w hn hm hs hx hy (hi.isWs hx) (hj.isWs hy)

end Go.Proofs.Ytfapebnilbdheab
