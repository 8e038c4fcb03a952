/- Contracts of Alive of both sides. -/
import Derived.Test.YtfapebnilbdheajInts
import Derived.Test.YtfapebnilbdheajIMap
namespace Go.Proofs.Ytfapebnilbdheaj
open Go.ChangeShapes Go.WideShapes Go.ChangeAt Go.RowKit Go.Joins
attribute [local go_sem ↓] Go.wp_at_zero Go.wp_at_succ

def aliveW (ws : List Wr) : List Int := (ws.filter fun x => !x.de).map (·.k)

def aliveB (ws : List Wr) : List Int := if mapOkB ws = true then aliveW ws else []

theorem alive_dead {ws : List Wr} {k : Nat} (h : k < ws.length) (hd : (ws.getD k wz).de = true) : aliveW (ws.take (k + 1)) = aliveW (ws.take k) := by
  have e : ws.take (k + 1) = ws.take k ++ [ws.getD k wz] := by
    rw [List.take_add_one, List.getElem?_eq_getElem h]
    simp [List.getD, h]
  unfold aliveW
  rw [e, List.filter_append]
  generalize ws.getD k wz = x at *
  simp [hd]

theorem alive_more {ws : List Wr} {k : Nat} (h : k < ws.length) (hd : (ws.getD k wz).de = false) : aliveW (ws.take (k + 1)) = aliveW (ws.take k) ++ [(ws.getD k wz).k] := by
  have e : ws.take (k + 1) = ws.take k ++ [ws.getD k wz] := by
    rw [List.take_add_one, List.getElem?_eq_getElem h]
    simp [List.getD, h]
  unfold aliveW
  rw [e, List.filter_append]
  generalize ws.getD k wz = x at *
  simp [hd]

theorem alive_len (ws : List Wr) (k : Nat) : (aliveW (ws.take k)).length ≤ k := by
  unfold aliveW
  rw [List.length_map]
  have h1 := List.length_filter_le (fun x : Wr => !x.de) (ws.take k)
  have h2 : (ws.take k).length ≤ k := by simp; omega
  omega

theorem aliveB_len (ws : List Wr) : (aliveB ws).length ≤ ws.length := by
  unfold aliveB
  split
  · have := alive_len ws ws.length
    rwa [List.take_length] at this
  · simp

set_option maxHeartbeats 2000000 in
theorem implAlive_any (a : Option Addr) (n cap : Nat) (ws : List Wr) (w : World) (hn : ws.length = n) (hm : n ≤ 1048576) (hx : Few ws) (hh : IsWs w a ws) :
    Calls Try.prog 7 #[.slice a n cap] w fun e w' => ∃ v, e = .returned v ∧ RowI w' w.heap.size v (aliveB ws) ∧ Below w.heap.size w w' := by
  have HH : Hid (IsWs w a ws) := hh
  have HN : Hid (ws.length = n) := hn
  have HX : Hid (Few ws) := hx
  clear hh hn hx
  obtain ⟨i0, hi0, hx0⟩ := Option.map_eq_some_iff.1 infoInt
  simp only [Prod.mk.injEq] at hx0
  have HI0 := Lib.hid hi0
  have HX0 := Lib.hid hx0
  clear hi0 hx0
  cases hok : mapOkB ws
  · have HE : Hid (aliveB ws = []) := by unfold aliveB; rw [hok]; exact Lib.hid rfl
    have HC : Hid (∀ W, Below w.heap.size w W → Calls Try.prog 16 #[.slice a n cap] W fun e w' => e = .returned (.bool false) ∧ Below W.heap.size W w') := fun W hW => by
      rw [← hok]
      exact implMapOk_any a n cap ws W HN.out hm HX.out (HH.out.below hW)
    clear hok
    go_enter Try.func7, Try.ntmps7
    go_wp2_with fail
    refine (HC.out _ (Below.refl _ _)).mono ?_
    rintro e w1 ⟨rfl, hb⟩
    have HB1 := Lib.hid hb
    clear hb
    go_wp2
    go_ret
    refine ⟨_, rfl, ?_, HB1.out⟩
    rw [HE.out]
    exact World.ownsRow_nil _ _ _ _
  have HE : Hid (aliveB ws = aliveW ws) := by unfold aliveB; rw [hok]; exact Lib.hid rfl
  have HC : Hid (∀ W, Below w.heap.size w W → Calls Try.prog 16 #[.slice a n cap] W fun e w' => e = .returned (.bool true) ∧ Below W.heap.size W w') := fun W hW => by
    rw [← hok]
    exact implMapOk_any a n cap ws W HN.out hm HX.out (HH.out.below hW)
  clear hok
  go_enter Try.func7, Try.ntmps7
  go_wp2_with fail
  refine (HC.out _ (Below.refl _ _)).mono ?_
  rintro e w1 ⟨rfl, hb⟩
  have HB1 := Lib.hid hb
  clear hb HC
  go_wp2
  go_loopw [3, 11] (fun t i wr => ∃ (k : Nat) (v : Value), k ≤ n ∧ i = .int .i64 k ∧ v = t ∧ Hid (RowI wr w.heap.size v (aliveW (ws.take k))) ∧ Hid (Below w.heap.size w wr)) (fun _ i _ => n - (intOf i).toNat)
  case atStart => exact ⟨0, _, Nat.zero_le _, rfl, rfl, World.ownsRow_nil _ _ _ _, HB1⟩
  case round =>
    clear HB1
    obtain ⟨k, v, hk, rfl, rfl, HR, HB⟩ := hrel
    by_cases hk' : k < n
    · obtain ⟨b, o, ad, cp, rfl, hz, ⟨e0, e1, e2, e3, e4, e5, e6⟩, -⟩ := HH.out.at HB.out HN.out hk'
      have i1 : (0 : Int) ≤ (k : Int) := by omega
      have i2 : (k : Int) < (n : Int) := by omega
      have hkw : k < ws.length := by rw [HN.out]; exact hk'
      have hln := alive_len ws k
      have HD : Hid ((ws.getD k wz).de = true → aliveW (ws.take (k + 1)) = aliveW (ws.take k)) := alive_dead hkw
      have HM : Hid ((ws.getD k wz).de = false → aliveW (ws.take (k + 1)) = aliveW (ws.take k) ++ [(ws.getD k wz).k]) := alive_more hkw
      clear HH
      generalize ws.getD k wz = x at *
      obtain ⟨xk, xc, xs', xq, xv, xd, xx⟩ := x
      simp only at e0 e1 e2 e3 e4 e5 e6 HD HM
      generalize aliveW (ws.take k) = zs at *
      have HBA : Hid (Below wr.heap.size wr (wr.alloc (.cells #[.int .i64 xk, .int .i64 xc, .int .i64 xs', .int .i64 xq, .int .i64 xv, .bool xd, .slice ad xx.length cp] 43))) := (Below.refl _ _).alloc (Nat.le_refl _) _
      have hwr : w.heap.size ≤ wr.heap.size := HB.out.size
      cases xd
      · have HE2 := Lib.hid (HM.out rfl)
        have HBC : Hid (Below wr.heap.size wr ((wr.alloc (.cells #[.int .i64 xk, .int .i64 xc, .int .i64 xs', .int .i64 xq, .int .i64 xv, .bool false, .slice ad xx.length cp] 43)).alloc (.cells #[.int .i64 xk] 3))) := HBA.out.alloc (by simp) _
        have HRC := Lib.hid (HR.out.below HBC.out)
        have HCC := Lib.hid (oneI_cells (wr.alloc (.cells #[.int .i64 xk, .int .i64 xc, .int .i64 xs', .int .i64 xq, .int .i64 xv, .bool false, .slice ad xx.length cp] 43)) 3 xk)
        have HBD := Lib.hid (below_step HB.out HB.out.size HBC.out)
        clear HD HM
        go_wp2_with (at_builtin; refine wpList_append_lies _ (by rfl) _ _ _ (by rfl) w.heap.size 3 i0 (.int .i64 0) 1 8 Try.underlying24 HI0.out HX0.out.1 HX0.out.2.1 HX0.out.2.2 (by rfl) (by omega) v zs.length (zs.map intV) (by rfl) HRC.out ⟨wr.heap.size + 1, 0, none⟩ 1 1 [intV xk] (by rfl) (by rfl) (by simpa using HCC.out) (intV_one [xk]) (by omega) (by unfold maxLen; omega) (by omega) (by simp; omega) _ rfl ?_; intro g3 cp3 w5 hown hgrow hg3 _; refine Hid.out ?_)
        refine Lib.hid ?_
        have HB5 : Hid (Below w.heap.size w w5) := HBD.out.grown hgrow HBD.out.size fun j hj => (World.ownsRow.lt HRC.out j hj).1
        have HR5 : Hid (RowI w5 w.heap.size (.slice (some ⟨g3, 0, none⟩) (zs.length + 1) cp3) (aliveW (ws.take (k + 1)))) := by
          rw [HE2.out]
          unfold RowI
          rw [List.length_append, List.map_append]
          exact hown
        clear hown hgrow
        go_wp2
        exact ⟨⟨k + 1, _, by omega, by go_num, rfl, HR5, HB5⟩, by simp [intOf]; omega⟩
      · have HE2 := Lib.hid (HD.out rfl)
        have HB5 := Lib.hid (below_step HB.out HB.out.size HBA.out)
        have HR5 : Hid (RowI (wr.alloc (.cells #[.int .i64 xk, .int .i64 xc, .int .i64 xs', .int .i64 xq, .int .i64 xv, .bool true, .slice ad xx.length cp] 43)) w.heap.size v (aliveW (ws.take (k + 1)))) := by
          rw [HE2.out]
          exact HR.out.below HBA.out
        clear HD HM
        go_wp2
        exact ⟨⟨k + 1, _, by omega, by go_num, rfl, HR5, HB5⟩, by simp [intOf]; omega⟩
    · have hkk : k = n := by omega
      subst hkk
      have HF : Hid (RowI wr w.heap.size v (aliveB ws)) := by
        have h := HR.out
        rw [List.take_of_length_le (by rw [HN.out]; exact Nat.le_refl _), ← HE.out] at h
        exact h
      go_wp2
      go_ret
      exact ⟨_, rfl, HF.out, HB.out⟩

set_option maxHeartbeats 2000000 in
theorem specAlive_any (b n cap : Nat) (ws : List Wr) (γ : Nat → Nat) (w : World) (hn : ws.length = n) (hm : n ≤ 1048576) (hx : Few ws) (hh : HoldsWs w b ws γ) :
    Calls Try.prog 5 #[.slice (some ⟨b, 0, none⟩) n cap] w fun e w' => ∃ v, e = .returned v ∧ RowI w' w.heap.size v (aliveB ws) ∧ Below w.heap.size w w' := by
  have HH : Hid (HoldsWs w b ws γ) := hh
  have HN : Hid (ws.length = n) := hn
  have HX : Hid (Few ws) := hx
  clear hh hn hx
  obtain ⟨i0, hi0, hx0⟩ := Option.map_eq_some_iff.1 infoInt
  simp only [Prod.mk.injEq] at hx0
  have HI0 := Lib.hid hi0
  have HX0 := Lib.hid hx0
  clear hi0 hx0
  have HC : Hid (∀ W, Below w.heap.size w W → Calls Try.prog 14 #[.slice (some ⟨b, 0, none⟩) n cap] W fun e w' => e = .returned (.bool (mapOkB ws)) ∧ Below W.heap.size W w') := fun W hW =>
    specMapOk_any b n cap ws γ W HN.out hm HX.out (HH.out.below hW)
  have HR0 : Hid (RowI (w.alloc (.cells #[] 3)) w.heap.size (.slice (some ⟨w.heap.size, 0, none⟩) 0 0) (aliveW (ws.take 0))) := World.ownsRow_made w #[] 0 (Nat.le_refl _) (by simp [maxLen]) (by simp)
  go_enter Try.func5, Try.ntmps5
  go_wp2
  go_loopw [3, 4] (fun t i wr => ∃ (k : Nat) (v : Value), k ≤ n ∧ i = .int .i64 k ∧ v = t ∧ Hid (0 < k → mapOkB ws = true) ∧ Hid (RowI wr w.heap.size v (aliveW (ws.take k))) ∧ Hid (Below w.heap.size w wr)) (fun _ i _ => n - (intOf i).toNat)
  case atStart => exact ⟨0, _, Nat.zero_le _, rfl, rfl, fun h => absurd h (Nat.lt_irrefl 0), HR0, (Below.refl _ _).alloc (Nat.le_refl _) _⟩
  case round =>
    clear HR0
    obtain ⟨k, v, hk, rfl, rfl, HOK, HR, HB⟩ := hrel
    by_cases hk' : k < n
    · cases hok : mapOkB ws
      · have hk0 : k = 0 := by
          by_cases h : 0 < k
          · have := HOK.out h
            rw [hok] at this
            cases this
          · omega
        subst hk0
        have HE : Hid (aliveB ws = []) := by unfold aliveB; rw [hok]; exact Lib.hid rfl
        rw [hok] at HC
        have i1 : (0 : Int) < (n : Int) := by omega
        clear hok HOK
        go_wp2_with fail
        refine (HC.out _ HB.out).mono ?_
        rintro e w2 ⟨rfl, hb⟩
        have HB2 := Lib.hid (below_step HB.out HB.out.size hb)
        have HR2 : Hid (RowI w2 w.heap.size v (aliveB ws)) := by
          rw [HE.out]
          exact HR.out.below hb
        clear hb
        go_wp2
        go_ret
        exact ⟨_, rfl, HR2.out, HB2.out⟩
      · have HK1 : Hid (0 < k + 1 → mapOkB ws = true) := fun _ => hok
        rw [hok] at HC
        clear hok HOK
        have i1 : (0 : Int) ≤ (k : Int) := by omega
        have i2 : (k : Int) < (n : Int) := by omega
        have hkw : k < ws.length := by rw [HN.out]; exact hk'
        have hln := alive_len ws k
        go_wp2_with fail
        refine (HC.out _ HB.out).mono ?_
        rintro e w2 ⟨rfl, hb⟩
        have HB2 := Lib.hid (below_step HB.out HB.out.size hb)
        have HR2 := Lib.hid (HR.out.below hb)
        clear hb HB HR
        obtain ⟨cp, hz, ⟨e0, e1, e2, e3, e4, e5, e6⟩, -⟩ := HH.out.get HB2.out HN.out hk'
        have HD : Hid ((ws.getD k wz).de = true → aliveW (ws.take (k + 1)) = aliveW (ws.take k)) := alive_dead hkw
        have HM : Hid ((ws.getD k wz).de = false → aliveW (ws.take (k + 1)) = aliveW (ws.take k) ++ [(ws.getD k wz).k]) := alive_more hkw
        generalize ws.getD k wz = x at *
        obtain ⟨xk, xc, xs', xq, xv, xd, xx⟩ := x
        simp only at e0 e1 e2 e3 e4 e5 e6 HD HM
        generalize aliveW (ws.take k) = zs at *
        have hwr : w.heap.size ≤ w2.heap.size := HB2.out.size
        cases xd
        · have HE2 := Lib.hid (HM.out rfl)
          have HBC : Hid (Below w2.heap.size w2 (w2.alloc (.cells #[.int .i64 xk] 3))) := (Below.refl _ _).alloc (Nat.le_refl _) _
          have HRC := Lib.hid (HR2.out.below HBC.out)
          have HCC := Lib.hid (oneI_cells w2 3 xk)
          have HBD := Lib.hid (below_step HB2.out HB2.out.size HBC.out)
          clear HD HM
          go_wp2_with (at_builtin; refine wpList_append_lies _ (by rfl) _ _ _ (by rfl) w.heap.size 3 i0 (.int .i64 0) 1 8 Try.underlying24 HI0.out HX0.out.1 HX0.out.2.1 HX0.out.2.2 (by rfl) (by omega) v zs.length (zs.map intV) (by rfl) HRC.out ⟨w2.heap.size, 0, none⟩ 1 1 [intV xk] (by rfl) (by rfl) HCC.out (intV_one [xk]) (by omega) (by unfold maxLen; omega) (by omega) (by simp; omega) _ rfl ?_; intro g3 cp3 w5 hown hgrow hg3 _; refine Hid.out ?_)
          refine Lib.hid ?_
          have HB5 : Hid (Below w.heap.size w w5) := HBD.out.grown hgrow HBD.out.size fun j hj => (World.ownsRow.lt HRC.out j hj).1
          have HR5 : Hid (RowI w5 w.heap.size (.slice (some ⟨g3, 0, none⟩) (zs.length + 1) cp3) (aliveW (ws.take (k + 1)))) := by
            rw [HE2.out]
            unfold RowI
            rw [List.length_append, List.map_append]
            exact hown
          clear hown hgrow
          go_wp2
          exact ⟨⟨k + 1, _, by omega, by go_num, rfl, (by first | exact HK1 | exact Lib.hid (fun _ => trivial)), HR5, HB5⟩, by simp [intOf]; omega⟩
        · have HE2 := Lib.hid (HD.out rfl)
          have HR5 : Hid (RowI w2 w.heap.size v (aliveW (ws.take (k + 1)))) := by
            rw [HE2.out]
            exact HR2
          clear HD HM
          go_wp2
          exact ⟨⟨k + 1, _, by omega, by go_num, rfl, (by first | exact HK1 | exact Lib.hid (fun _ => trivial)), HR5, HB2⟩, by simp [intOf]; omega⟩
    · have hkk : k = n := by omega
      subst hkk
      have HF : Hid (RowI wr w.heap.size v (aliveB ws)) := by
        have h := HR.out
        rw [List.take_of_length_le (by rw [HN.out]; exact Nat.le_refl _)] at h
        by_cases hk0 : 0 < k
        · have hok := HOK.out hk0
          unfold aliveB
          rw [if_pos hok]
          exact h
        · have hw : ws = [] := List.length_eq_zero_iff.1 (by have := HN.out; omega)
          subst hw
          exact h
      go_wp2
      go_ret
      exact ⟨_, rfl, HF.out, HB.out⟩

end Go.Proofs.Ytfapebnilbdheaj
