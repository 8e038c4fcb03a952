import Derived.Test.YtionfpjjlghanakPack10
import Derived.Test.YtionfpjjlghanakPack4
import Derived.Test.YtionfpjjlghanakPack9
import Derived.Test.YtionfpjjlghanakPack7
import Derived.Test.YtionfpjjlghanakPack2
import Derived.Deep.Slices
import Derived.Deep.Strs
import Derived.Test.YtionfpjjlghanakPack3
/- Contracts of the placeSet's others, of impl.writesAt. -/
namespace Go.Proofs.Ytionfpjjlghanak
open Go.ChangeShapes Go.WideShapes Go.ChangeAt Go.RowKit Go.Joins
attribute [local go_sem ↓] Go.wp_at_zero Go.wp_at_succ

def notW (F : Nat → Nat) : Nat → Nat := fun j => 18446744073709551615 - F j

theorem bit_not (F : Nat → Nat) (hF : ∀ j, F j < 18446744073709551616) (j : Nat) : bitOf (notW F) j = !bitOf F j := by
  unfold bitOf notW
  have h := Nat.testBit_two_pow_sub_succ (n := 64) (hF (j / 64)) (j % 64)
  have e : 2 ^ 64 - (F (j / 64) + 1) = 18446744073709551615 - F (j / 64) := by omega
  rw [e] at h
  rw [h]
  have : j % 64 < 64 := Nat.mod_lt _ (by omega)
  simp [this]

theorem xor_all (x : Nat) (h : x < 18446744073709551616) : 18446744073709551615 ^^^ x = 18446744073709551615 - x := by
  apply Nat.eq_of_testBit_eq
  intro i
  have h1 := Nat.testBit_two_pow_sub_one 64 i
  have h2 := Nat.testBit_two_pow_sub_succ (n := 64) h i
  have e1 : 2 ^ 64 - 1 = 18446744073709551615 := by decide
  have e2 : 2 ^ 64 - (x + 1) = 18446744073709551615 - x := by omega
  rw [e1] at h1
  rw [e2] at h2
  rw [Nat.testBit_xor, h1, h2]
  by_cases hi : i < 64
  · simp [hi]
  · have : x.testBit i = false := Nat.testBit_lt_two_pow (Nat.lt_of_lt_of_le h (by
      have := Nat.pow_le_pow_right (n := 2) (by omega) (Nat.not_lt.1 hi)
      omega))
    simp [hi, this]

theorem bits_not (x : Nat) (h : x < 18446744073709551616) : bits BinOp.xor IntKind.u64 (if IntKind.u64.signed = true then -1 else IntKind.u64.max) (x : Int) = ((18446744073709551615 - x : Nat) : Int) := by
  have e : (if IntKind.u64.signed = true then (-1 : Int) else IntKind.u64.max) = ((18446744073709551615 : Nat) : Int) := by decide
  rw [e, u64_xor_nat _ _ (by omega) h, xor_all x h]

set_option maxHeartbeats 2000000 in
theorem others_any (g N c : Nat) (F : Nat → Nat) (w : World) (hF : BitW w g N F) (hN : N ≤ 1048576) :
    Calls Try.prog 17 #[.slice (some ⟨g, 0, none⟩) N c] w fun e w' => ∃ g', e = .returned (.slice (some ⟨g', 0, none⟩) N N) ∧ BitW w' g' N (notW F) ∧ Below w.heap.size w w' := by
  have HF := Lib.hid hF
  clear hF
  have hmk := run_make_words N hN
  have HB0 : Hid (Below w.heap.size w (w.alloc (.cells (madeCells #[.int .u64 0] N) 57))) := (Below.refl _ _).alloc (Nat.le_refl _) _
  have HW0 := Lib.hid (words_made w N 57)
  go_enter Try.func17, Try.ntmps17
  go_wp2
  clear hmk
  go_loopw [11] (fun i wr => ∃ k : Nat, k ≤ N ∧ i = .int .i64 k ∧ Hid (BitW wr w.heap.size N (fun j => if j < k then 18446744073709551615 - F j else 0)) ∧ Hid (Below w.heap.size w wr)) (fun i _ => N - (intOf i).toNat)
  case atStart => exact ⟨0, Nat.zero_le _, rfl, by simpa using HW0, HB0⟩
  case round =>
    clear HW0 HB0
    obtain ⟨k, hk, rfl, HW, HB⟩ := hrel
    by_cases hk' : k < N
    · have i1 : (0 : Int) ≤ (k : Int) := by omega
      have i2 : (k : Int) < (N : Int) := by omega
      have c0 : wr.cell? ⟨g, k, none⟩ = some (.int .u64 (F k : Int)) := (HF.out.below HB.out).cells k hk'
      have hs := HF.out.small k
      have d0 := HW.out.cells k hk'
      have df := HW.out.nf
      have hx := bits_not (F k) hs
      have HW2 : Hid (BitW (wr.setCell ⟨w.heap.size, k, none⟩ (.int .u64 (bits BinOp.xor IntKind.u64 (if IntKind.u64.signed = true then -1 else IntKind.u64.max) (F k : Int)))) w.heap.size N (fun j => if j < k + 1 then 18446744073709551615 - F j else 0)) := by
        rw [hx]
        refine ⟨by simpa using HW.out.lt, (HW.out.cells.set hk' _).congr fun o _ => ?_, fun o => by rw [World.frozen?_setCell]; exact HW.out.nf o, fun j => ?_⟩
        · by_cases e : o = k
          · subst e
            rw [if_pos rfl, if_pos (by omega)]
          · rw [if_neg e]
            by_cases e2 : o < k
            · rw [if_pos e2, if_pos (by omega)]
            · rw [if_neg e2, if_neg (by omega)]
        · by_cases e2 : j < k + 1
          · simp only [if_pos e2]
            omega
          · simp only [if_neg e2]
            omega
      have HB2 : Hid (Below w.heap.size w (wr.setCell ⟨w.heap.size, k, none⟩ (.int .u64 (bits BinOp.xor IntKind.u64 (if IntKind.u64.signed = true then -1 else IntKind.u64.max) (F k : Int))))) := HB.out.setCell (p := ⟨w.heap.size, k, none⟩) (Nat.le_refl _) _
      clear hx HW HB
      go_wp2
      exact ⟨⟨k + 1, by omega, by go_num, HW2, HB2⟩, by simp [intOf]; omega⟩
    · have hkk : k = N := by omega
      subst hkk
      have HWE : Hid (BitW wr w.heap.size k (notW F)) := ⟨HW.out.lt, HW.out.cells.congr fun o ho => by simp only [if_pos ho]; rfl, HW.out.nf, fun j => by unfold notW; omega⟩
      go_wp2
      go_ret
      exact ⟨_, rfl, HWE.out, HB.out⟩

theorem those_not (vs : List Wr) (F : Nat → Nat) (hF : ∀ j, F j < 18446744073709551616) : ∀ k, thoseTo vs (bitOf (notW F)) true k = thoseTo vs (bitOf F) false k
  | 0 => rfl
  | k + 1 => by
    have ih := those_not vs F hF k
    unfold thoseTo
    rw [ih, bit_not F hF]
    cases bitOf F k <;> rfl

set_option maxRecDepth 100000 in
set_option maxHeartbeats 8000000 in
theorem writesAt_any (a : Option Addr) (n cap g N c : Nat) (ws : List Wr) (F : Nat → Nat) (w : World) (hn : ws.length = n) (hm : n ≤ 1048576) (hx : Few ws) (hi : IsWs w a ws) (hF : BitW w g N F) (hN : n ≤ N * 64) :
    Calls Try.prog 15 #[.slice a n cap, .slice (some ⟨g, 0, none⟩) N c] w fun e w' => ∃ v es, e = .returned v ∧ es.map (·.x) = thoseTo ws (bitOf F) true n ∧ RowG w' w.heap.size v es ∧ Below w.heap.size w w' := by
  have HI := Lib.hid hi
  have HN := Lib.hid hn
  have HX := Lib.hid hx
  have HF := Lib.hid hF
  clear hi hn hx hF
  obtain ⟨i0, hi0, hx0⟩ := Option.map_eq_some_iff.1 infoWr
  simp only [Prod.mk.injEq] at hx0
  have HI0 := Lib.hid hi0
  have HX0 := Lib.hid hx0
  clear hi0 hx0
  go_enter Try.func15, Try.ntmps15
  go_wp2
  go_loopw [5, 10] (fun t i wr => ∃ (k : Nat) (v : Value) (es : List EnG), k ≤ n ∧ i = .int .i64 k ∧ v = t ∧ Hid (es.map (·.x) = thoseTo ws (bitOf F) true k) ∧ Hid (RowG wr w.heap.size v es) ∧ Hid (Below w.heap.size w wr)) (fun _ i _ => n - (intOf i).toNat)
  case atStart => exact ⟨0, _, [], Nat.zero_le _, rfl, rfl, rfl, rowG_nil _ _, Below.refl _ _⟩
  case round =>
    obtain ⟨k, v, es, hk, rfl, rfl, HE, HR, HB⟩ := hrel
    have hln : es.length ≤ k := by
      have h1 := those_len ws (bitOf F) true k
      rw [← HE.out, List.length_map] at h1
      exact h1
    by_cases hk' : k < n
    · obtain ⟨bb, oo, ad, cq, rfl, hz, ⟨e0, e1, e2, e3, e4, e5, e6⟩, hd⟩ := HI.out.at HB.out HN.out hk'
      have i1 : (0 : Int) ≤ (k : Int) := by omega
      have i2 : (k : Int) < (n : Int) := by omega
      have hxl := HX.out k (by rw [HN.out]; exact hk')
      have HD := Lib.hid hd
      have hbk : (F (k / 64)).testBit (k % 64) = bitOf F k := rfl
      have HPH : Hid (∀ W, Below wr.heap.size wr W → Calls Try.prog 29 #[.slice (some ⟨g, 0, none⟩) N c, .int .i64 (k : Int)] W fun e w' => e = .returned (.bool (bitOf F k)) ∧ w' = W) := fun W hW => placeHas_any g N c k F W ((HF.out.below HB.out).below hW) (by omega) (by omega)
      have HTY : Hid (bitOf F k = true → thoseTo ws (bitOf F) true (k + 1) = thoseTo ws (bitOf F) true k ++ [ws.getD k wz]) := fun h => those_yes h
      have HTN : Hid (bitOf F k = false → thoseTo ws (bitOf F) true (k + 1) = thoseTo ws (bitOf F) true k) := fun h => those_no (by rw [h]; simp)
      clear hd HI hbk
      generalize ws.getD k wz = x at *
      obtain ⟨xk, xc, xs', xq, xv, xd, xx⟩ := x
      simp only at e0 e1 e2 e3 e4 e5 e6 HD hxl HTY
      have HBX : Hid (Below wr.heap.size wr (wr.alloc (.cells #[.int .i64 xk, .int .i64 xc, .int .i64 xs', .int .i64 xq, .int .i64 xv, .bool xd, .slice ad xx.length cq] 40))) := (Below.refl _ _).alloc (Nat.le_refl _) _
      have HR1 := Lib.hid (HR.out.below HBX.out)
      have HB1 := Lib.hid (below_step HB.out HB.out.size HBX.out)
      cases hb : bitOf F k
      · have HE1 : Hid (es.map (·.x) = thoseTo ws (bitOf F) true (k + 1)) := HE.out.trans (HTN.out hb).symm
        rw [hb] at HPH
        clear hb HTY HTN HE HR HB
        go_wp2_with fail
        refine (HPH.out _ HBX.out).mono ?_
        rintro e w1 ⟨rfl, rfl⟩
        go_wp2
        exact ⟨⟨k + 1, _, es, by omega, by go_num, rfl, HE1, HR1, HB1⟩, by simp [intOf]; omega⟩
      · have HTE := Lib.hid (HTY.out hb)
        rw [hb] at HPH
        clear hb HTY HTN
        have hwr : w.heap.size ≤ wr.heap.size := HB.out.size
        go_wp2_with fail
        refine (HPH.out _ HBX.out).mono ?_
        rintro e w1 ⟨rfl, rfl⟩
        go_wp2_with fail
        refine (icopy_any ⟨xk, xc, xs', xq, xv, xd, xx⟩ ad cq _ hxl (HD.out.below HBX.out)).mono ?_
        rintro e w2 ⟨a2, g2, cp2, rfl, hg, hb⟩
        have HB2 : Hid (Below w.heap.size w w2) := below_step HB1.out HB1.out.size hb
        have HG : Hid (FreshDeps wr.heap.size w2 a2 g2 xx) := hg.mono HBX.out.size
        have HR2 : Hid (RowG w2 w.heap.size _ es) := HR1.out.below hb
        have HAP : Hid (∀ d ∈ es, 0 < d.x.xs.length → 0 < xx.length → d.g ≠ g2) := fun d hd hp hq => by
          have h1 := ((HR.out.deps d hd).1 hp).2.2.1
          have h2 := (HG.out hq).2.1
          omega
        have HV : Hid (0 < xx.length → v.ownBlock ≠ some g2) := fun hq e => by
          have h1 := (HR.out.own.lt g2 e).2
          have h2 := (HG.out hq).2.1
          omega
        clear hb hg HB1 HBX HD HR1 HR HB HPH
        have HBC : Hid (Below w2.heap.size w2 (w2.alloc (.cells #[.int .i64 xk, .int .i64 xc, .int .i64 xs', .int .i64 xq, .int .i64 xv, .bool xd, .slice a2 xx.length cp2] 40))) := (Below.refl _ _).alloc (Nat.le_refl _) _
        have HRC := Lib.hid (HR2.out.below HBC.out)
        have hsz : w.heap.size ≤ w2.heap.size := HB2.out.size
        go_wp2_with (at_builtin; refine wpList_append_lies _ (by rfl) _ _ _ (by rfl) w.heap.size 40 i0 (wrV 0 0 0 0 0 false none 0 0) 7 72 Try.underlying24 HI0.out HX0.out.1 HX0.out.2.1 HX0.out.2.2 (by rfl) (by omega) v es.length (es.flatMap wrValsG) (by rfl) HRC.out.own ⟨w2.heap.size, 0, none⟩ 1 1 (wrValsG ⟨⟨xk, xc, xs', xq, xv, xd, xx⟩, a2, g2, cp2⟩) (by rfl) (by rfl) (oneG_cells w2 _ ⟨⟨xk, xc, xs', xq, xv, xd, xx⟩, a2, g2, cp2⟩) (by simpa using valsG_one [⟨⟨xk, xc, xs', xq, xv, xd, xx⟩, a2, g2, cp2⟩]) (by omega) (by unfold maxLen; omega) (by omega) (by simp; omega) _ rfl ?_; intro g3 cp3 w5 hown hgrow hg3 _; refine Hid.out ?_)
        refine Lib.hid ?_
        have HB5 : Hid (Below w.heap.size w w5) := (HB2.out.alloc hsz _).grown hgrow (by simp; omega) fun j hj => (HR2.out.own.lt j hj).1
        have HR5 : Hid (RowG w5 w.heap.size (.slice (some ⟨g3, 0, none⟩) (es.length + 1) cp3) (es ++ [⟨⟨xk, xc, xs', xq, xv, xd, xx⟩, a2, g2, cp2⟩])) :=
          HRC.out.more ((HG.out.below HBC.out).mono hwr) HV.out HAP.out hown hgrow hg3
        have HE5 : Hid ((es ++ [(⟨⟨xk, xc, xs', xq, xv, xd, xx⟩, a2, g2, cp2⟩ : EnG)]).map (·.x) = thoseTo ws (bitOf F) true (k + 1)) := by
          rw [HTE.out, List.map_append, HE.out]
          exact Lib.hid rfl
        clear hown hgrow HRC HBC
        go_wp2
        exact ⟨⟨k + 1, _, _, by omega, by go_num, rfl, HE5, HR5, HB5⟩, by simp [intOf]; omega⟩
    · have hkk : k = n := by omega
      subst hkk
      go_wp2
      go_ret
      exact ⟨_, es, rfl, HE.out, HR.out, HB.out⟩

end Go.Proofs.Ytionfpjjlghanak

/- Contracts of impl.allWriteOk, impl.mayBeSeen. -/
namespace Go.Proofs.Ytionfpjjlghanak
open Go.ChangeShapes Go.WideShapes Go.ChangeAt Go.RowKit Go.Joins
attribute [local go_sem ↓] Go.wp_at_zero Go.wp_at_succ

theorem all_false {vs : List Wr} {k : Nat} (h : k < vs.length) (hk : okW (vs.getD k wz) = false) : vs.all okW = false := by
  rw [List.all_eq_false]
  refine ⟨vs.getD k wz, ?_, by rw [hk]; simp⟩
  have e : vs.getD k wz = vs[k] := by simp [List.getD, h]
  rw [e]
  exact List.getElem_mem h

theorem all_true {vs : List Wr} {n : Nat} (hn : vs.length = n) (h : ∀ j, j < n → okW (vs.getD j wz) = true) : vs.all okW = true := by
  rw [List.all_eq_true]
  intro x hx
  obtain ⟨i, hi, rfl⟩ := List.mem_iff_getElem.1 hx
  have := h i (by rw [← hn]; exact hi)
  simpa [List.getD, hi] using this

set_option maxHeartbeats 2000000 in
theorem allOk_any (a : Option Addr) (n cap : Nat) (ws : List Wr) (w : World) (hn : ws.length = n) (hm : n ≤ 1048576) (hx : Few ws) (hh : IsWs w a ws) :
    Calls Try.prog 28 #[.slice a n cap] w fun e w' => e = .returned (.bool (ws.all okW)) ∧ Below w.heap.size w w' := by
  have HH : Hid (IsWs w a ws) := hh
  have HN : Hid (ws.length = n) := hn
  have HX : Hid (Few ws) := hx
  clear hh hn hx
  go_enter Try.func28, Try.ntmps28
  go_wp2
  go_loopw [7] (fun i wr => ∃ k : Nat, k ≤ n ∧ i = .int .i64 k ∧ Hid (∀ j, j < k → okW (ws.getD j wz) = true) ∧ Hid (Below w.heap.size w wr)) (fun i _ => n - (intOf i).toNat)
  case atStart => exact ⟨0, Nat.zero_le _, rfl, fun j hj => absurd hj (Nat.not_lt_zero j), Below.refl _ _⟩
  case round =>
    obtain ⟨k, hk, rfl, HK, HB⟩ := hrel
    by_cases hk' : k < n
    · obtain ⟨b, o, ad, cp, rfl, hz, ⟨e0, e1, e2, e3, e4, e5, e6⟩, hd⟩ := HH.out.at HB.out HN.out hk'
      have i1 : (0 : Int) ≤ (k : Int) := by omega
      have i2 : (k : Int) < (n : Int) := by omega
      have hkm : k < ws.length := by rw [HN.out]; exact hk'
      have HC : Hid (∀ W, Below wr.heap.size wr W → Calls Try.prog 42 #[wrOf (ws.getD k wz) ad cp] W fun e w' => e = .returned (.bool (okW (ws.getD k wz))) ∧ Below W.heap.size W w') := fun W hW =>
        implWriteOk_gen _ _ _ _ _ _ _ (ws.getD k wz).xs _ _ _ rfl (HX.out k hkm) (hd.below hW)
      have HK1 : Hid (okW (ws.getD k wz) = true → ∀ j, j < k + 1 → okW (ws.getD j wz) = true) := fun h1 => upto_next HK.out h1
      have HF1 : Hid (okW (ws.getD k wz) = false → ws.all okW = false) := fun h1 => all_false hkm h1
      clear hd HH HK
      cases h1 : okW (ws.getD k wz)
      · have HF := Lib.hid (HF1.out h1)
        rw [h1] at HC
        clear h1 HK1 HF1
        generalize ws.getD k wz = x at *
        obtain ⟨xk, xc, xs', xq, xv, xd, xx⟩ := x
        simp only at e0 e1 e2 e3 e4 e5 e6 HC
        go_wp2_with fail
        refine (HC.out _ ((Below.refl _ _).alloc (Nat.le_refl _) _)).mono ?_
        rintro e w2 ⟨rfl, hb⟩
        have HB2 : Hid (Below w.heap.size w w2) := below_step HB.out HB.out.size (BoxIn.start hb).below
        clear hb
        go_wp2
        go_ret
        exact ⟨ret_bool HF.out.symm, HB2.out⟩
      · have HK2 := Lib.hid (HK1.out h1)
        rw [h1] at HC
        clear h1 HK1 HF1
        generalize ws.getD k wz = x at *
        obtain ⟨xk, xc, xs', xq, xv, xd, xx⟩ := x
        simp only at e0 e1 e2 e3 e4 e5 e6 HC
        go_wp2_with fail
        refine (HC.out _ ((Below.refl _ _).alloc (Nat.le_refl _) _)).mono ?_
        rintro e w2 ⟨rfl, hb⟩
        have HB2 : Hid (Below w.heap.size w w2) := below_step HB.out HB.out.size (BoxIn.start hb).below
        clear hb
        go_wp2
        exact ⟨⟨k + 1, by omega, by go_num, HK2, HB2⟩, by simp [intOf]; omega⟩
    · have hkk : k = n := by omega
      subst hkk
      have HF : Hid (ws.all okW = true) := all_true HN.out HK.out
      go_wp2
      go_ret
      exact ⟨ret_bool HF.out.symm, HB.out⟩

set_option maxHeartbeats 2000000 in
theorem seen_any (a b : Option Addr) (n m cap cap' : Nat) (us vs : List Wr) (w : World) (hn : us.length = n) (hm : vs.length = m) (hn1 : n ≤ 1048576) (hm1 : m ≤ 1048576) (hx : Few us) (hy : Few vs) (hi : IsWs w a us) (hj : IsWs w b vs) :
    Calls Try.prog 14 #[.slice a n cap, .slice b m cap'] w fun e w' => e = .returned (.bool (rightB us vs)) ∧ Below w.heap.size w w' := by
  have HJ : Hid (∀ W, Below w.heap.size w W → Calls Try.prog 28 #[.slice b m cap'] W fun e w' => e = .returned (.bool (vs.all okW)) ∧ Below W.heap.size W w') := fun W hW => allOk_any b m cap' vs W hm hm1 hy (hj.below hW)
  have HC : Hid (Calls Try.prog 27 #[.slice a n cap] w fun e w' => e = .returned (.bool (mapOkB us)) ∧ Below w.heap.size w w') := implMapOk_any a n cap us w hn hn1 hx hi
  have HE : Hid (rightB us vs = (mapOkB us && vs.all okW)) := rfl
  clear hi hj hn hm hx hy
  generalize rightB us vs = r at *
  generalize vs.all okW = r2 at *
  cases ha : mapOkB us
  · rw [ha] at HC HE
    have HE' : Hid (r = false) := by rw [HE.out, Bool.false_and]; exact Lib.hid rfl
    clear ha HE
    go_enter Try.func14, Try.ntmps14
    go_wp2_with fail
    refine HC.out.mono ?_
    rintro e w1 ⟨rfl, hb⟩
    have HB1 := Lib.hid hb
    clear hb
    go_wp2
    go_ret
    exact ⟨ret_bool HE'.out.symm, HB1.out⟩
  · rw [ha] at HC HE
    have HE' : Hid (r = r2) := by rw [HE.out, Bool.true_and]; exact Lib.hid rfl
    clear ha HE
    go_enter Try.func14, Try.ntmps14
    go_wp2_with fail
    refine HC.out.mono ?_
    rintro e w1 ⟨rfl, hb⟩
    have HB1 := Lib.hid hb
    clear hb
    go_wp2_with fail
    refine (HJ.out _ HB1.out).mono ?_
    rintro e w2 ⟨rfl, hb⟩
    have HB2 : Hid (Below w.heap.size w w2) := below_step HB1.out HB1.out.size hb
    clear hb
    go_wp2
    go_ret
    exact ⟨ret_bool HE'.out.symm, HB2.out⟩

end Go.Proofs.Ytionfpjjlghanak

/- Contracts of impl.fittingPlaces, impl.Fitting, impl.Held. -/
namespace Go.Proofs.Ytionfpjjlghanak
open Go.ChangeShapes Go.WideShapes Go.ChangeAt Go.RowKit Go.Joins
attribute [local go_sem ↓] Go.wp_at_zero Go.wp_at_succ

set_option maxRecDepth 100000 in
set_option maxHeartbeats 400000 in
theorem fitPlaces_any (a b : Option Addr) (n m N cap cap' : Nat) (us vs : List Wr) (w : World) (hn : us.length = n) (hm : vs.length = m) (hs : n + m ≤ 1048576) (hx : Few us) (hy : Few vs) (hi : IsWs w a us) (hj : IsWs w b vs) (hr : Rise us) (hu : ∀ x ∈ us, okW x = true) (hv : ∀ x ∈ vs, okW x = true) (hN : N = (m + 63) / 64) :
    Calls Try.prog 16 #[.slice a n cap, .slice b m cap'] w fun e w' => ∃ g F, e = .returned (.slice (some ⟨g, 0, none⟩) N N) ∧ BitW w' g N F ∧ (∀ j, j < m → bitOf F j = fixS us vs j) ∧ Below w.heap.size w w' := by
  have HC := Lib.hid (widest_any a b n m cap cap' us vs w hn hm hs hx hy hi hj hr hu hv)
  have HJ := Lib.hid hj
  have HM := Lib.hid hm
  have HY := Lib.hid hy
  have HV := Lib.hid hv
  clear hi hj hn hm hx hy hr hu hv
  have dN : ((m : Int) + 64 - 1) / 64 = (N : Int) := by omega
  have hmk : ∀ W, (Instr.makeSlice 44 (.int .i64 (((m : Int) + 64 - 1) / 64)) (.int .i64 (((m : Int) + 64 - 1) / 64))).run Try.prog W = .ok (.slice (some ⟨W.heap.size, 0, none⟩) N N) (W.alloc (.cells (madeCells #[.int .u64 0] N) 57)) := fun W => by
    rw [dN]
    exact run_make_words N (by omega) W
  have n64 : m ≤ N * 64 := by omega
  clear dN hN
  go_enter Try.func16, Try.ntmps16
  go_wp2_with fail
  refine HC.out.mono ?_
  rintro e w1 ⟨c, rfl, hc, hb⟩
  have HB1 := Lib.hid hb
  have HCX := Lib.hid hc
  clear hb hc HC
  have HCB : Hid (Box6 ((w1.alloc (.cells (covCells c) 59)).alloc (.cells (madeCells #[.int .u64 0] N) 57)) w1.heap.size (covU c)) := (box6_new w1 _ _ _ rfl).below ((Below.refl _ _).alloc (Nat.le_refl _) _)
  have HW0 : Hid (BitW ((w1.alloc (.cells (covCells c) 59)).alloc (.cells (madeCells #[.int .u64 0] N) 57)) (w1.heap.size + 1) N (fun _ => 0)) := by
    have e : (w1.alloc (.cells (covCells c) 59)).heap.size = w1.heap.size + 1 := by simp
    rw [← e]
    exact words_made _ N 57
  have HB2 : Hid (Below w.heap.size w ((w1.alloc (.cells (covCells c) 59)).alloc (.cells (madeCells #[.int .u64 0] N) 57))) := (HB1.out.alloc HB1.out.size _).alloc (by have := HB1.out.size; simp; omega) _
  have hw1 : w.heap.size ≤ w1.heap.size := HB1.out.size
  go_wp2
  clear hmk
  go_loopw [20] (fun i wr => ∃ (k : Nat) (F : Nat → Nat), k ≤ m ∧ i = .int .i64 k ∧ Hid (∀ j, bitOf F j = (decide (j < k) && chas c (vs.getD j wz).xs)) ∧ Hid (BitW wr (w1.heap.size + 1) N F) ∧ Hid (Box6 wr w1.heap.size (covU c)) ∧ Hid (Below w.heap.size w wr)) (fun i _ => m - (intOf i).toNat)
  case atStart => exact ⟨0, fun _ => 0, Nat.zero_le _, rfl, fun j => by simp [bitOf], HW0, HCB, HB2⟩
  case round =>
    clear HW0 HCB HB2
    obtain ⟨k, F, hk, rfl, HE, HW, HCB, HB⟩ := hrel
    by_cases hk' : k < m
    · obtain ⟨bb, oo, ad, cq, rfl, hz, ⟨e0, e1, e2, e3, e4, e5, e6⟩, hd⟩ := HJ.out.at HB.out HM.out hk'
      have i1 : (0 : Int) ≤ (k : Int) := by omega
      have i2 : (k : Int) < (m : Int) := by omega
      have hkm : k < vs.length := by rw [HM.out]; exact hk'
      have HCH : Hid (∀ W, Below wr.heap.size wr W → Calls Try.prog 32 #[covV c, .slice ad (vs.getD k wz).xs.length cq] W fun e w' => e = .returned (.bool (chas c (vs.getD k wz).xs)) ∧ Below W.heap.size W w') := fun W hW => covHas_any c ad _ cq _ W rfl (HY.out k hkm) (hd.below hW) (okW_parts (HV.out _ (getV_mem hkm))).2.2
      have HEY : Hid (chas c (vs.getD k wz).xs = true → ∀ j, bitOf (addBit F k) j = (decide (j < k + 1) && chas c (vs.getD j wz).xs)) := fun h j => by
        rw [bit_add, HE.out j]
        by_cases e : j = k
        · rw [e, h]
          simp
        · have : (decide (j < k + 1)) = decide (j < k) := by simp only [decide_eq_decide]; omega
          rw [this, decide_eq_false e, Bool.false_or]
      have HEN : Hid (chas c (vs.getD k wz).xs = false → ∀ j, bitOf F j = (decide (j < k + 1) && chas c (vs.getD j wz).xs)) := fun h j => by
        rw [HE.out j]
        by_cases e : j = k
        · rw [e, h]
          simp
        · have : (decide (j < k + 1)) = decide (j < k) := by simp only [decide_eq_decide]; omega
          rw [this]
      clear hd HJ HE
      have z0 := HCB.out.cells 0 (by omega)
      have z1 := HCB.out.cells 1 (by omega)
      have z2 := HCB.out.cells 2 (by omega)
      have z3 := HCB.out.cells 3 (by omega)
      have z4 := HCB.out.cells 4 (by omega)
      have z5 := HCB.out.cells 5 (by omega)
      unfold covU at z0 z1 z2 z3 z4 z5
      have hzc := HCB.out.lt
      generalize vs.getD k wz = x at *
      obtain ⟨xk, xc, xs', xq, xv, xd, xx⟩ := x
      simp only at e0 e1 e2 e3 e4 e5 e6 HCH HEY HEN
      have HBX : Hid (Below wr.heap.size wr (wr.alloc (.cells #[.int .i64 xk, .int .i64 xc, .int .i64 xs', .int .i64 xq, .int .i64 xv, .bool xd, .slice ad xx.length cq] 40))) := (Below.refl _ _).alloc (Nat.le_refl _) _
      replace z0 := held_cell HBX.out z0 hzc
      replace z1 := held_cell HBX.out z1 hzc
      replace z2 := held_cell HBX.out z2 hzc
      replace z3 := held_cell HBX.out z3 hzc
      replace z4 := held_cell HBX.out z4 hzc
      replace z5 := held_cell HBX.out z5 hzc
      cases hc : chas c xx
      · have HE2 := Lib.hid (HEN.out hc)
        rw [hc] at HCH
        clear hc HEN HEY
        go_wp2_with fail
        refine (HCH.out _ HBX.out).mono ?_
        rintro e w2 ⟨rfl, hb⟩
        have hb2 := below_step HBX.out HBX.out.size hb
        have HW2 := Lib.hid (HW.out.below hb2)
        have HC2 := Lib.hid (HCB.out.below hb2)
        have HB2 := Lib.hid (below_step HB.out HB.out.size hb2)
        clear hb hb2 HW HCB HB HCH HBX z0 z1 z2 z3 z4 z5
        go_wp2
        exact ⟨⟨k + 1, F, by omega, by go_num, HE2, HW2, HC2, HB2⟩, by simp [intOf]; omega⟩
      · have HE2 := Lib.hid (HEY.out hc)
        rw [hc] at HCH
        clear hc HEN HEY
        go_wp2_with fail
        refine (HCH.out _ HBX.out).mono ?_
        rintro e w2 ⟨rfl, hb⟩
        have hb2 := below_step HBX.out HBX.out.size hb
        have HW2 := Lib.hid (HW.out.below hb2)
        have HC2 := Lib.hid (HCB.out.below hb2)
        have HB2 := Lib.hid (below_step HB.out HB.out.size hb2)
        clear hb hb2 HW HCB HB HCH HBX z0 z1 z2 z3 z4 z5
        go_wp2_with fail
        refine (placeAdd_any (w1.heap.size + 1) N N k F _ HW2.out (by omega) (by omega)).mono ?_
        rintro e w3 ⟨rfl, hw, hg⟩
        have HW3 := Lib.hid hw
        have HC3 : Hid (Box6 w3 w1.heap.size (covU c)) := HC2.out.of_block hg.size (hg.block _ HC2.out.lt (by simp))
        have HB3 : Hid (Below w.heap.size w w3) := HB2.out.grown hg HB2.out.size fun b hb => by injection hb with hb; omega
        clear hw hg HW2 HC2 HB2
        go_wp2
        exact ⟨⟨k + 1, _, by omega, by go_num, HE2, HW3, HC3, HB3⟩, by simp [intOf]; omega⟩
    · have hkk : k = m := by omega
      subst hkk
      have HE2 : Hid (∀ j, j < k → bitOf F j = fixS us vs j) := fun j hj => by
        rw [HE.out j, HCX.out j (by rw [HM.out]; exact hj)]
        simp [hj]
      go_wp2
      go_ret
      exact ⟨_, F, rfl, HW.out, HE2.out, HB.out⟩

end Go.Proofs.Ytionfpjjlghanak

/- What fits, what is held: plain facts. -/
namespace Go.Proofs.Ytionfpjjlghanak
open Go.ChangeShapes Go.WideShapes Go.ChangeAt Go.RowKit Go.Joins

theorem those_mem (vs : List Wr) (st : Nat → Bool) (fit : Bool) : ∀ k, k ≤ vs.length → ∀ x ∈ thoseTo vs st fit k, x ∈ vs
  | 0, _, x, hx => by simp [thoseTo] at hx
  | k + 1, hk, x, hx => by
    unfold thoseTo at hx
    split at hx
    · rcases List.mem_append.1 hx with h | h
      · exact those_mem vs st fit k (by omega) x h
      · have : x = vs.getD k wz := by simpa using h
        rw [this]
        have e : vs.getD k wz = vs[k] := by simp [List.getD, show k < vs.length by omega]
        rw [e]
        exact List.getElem_mem (by omega)
    · exact those_mem vs st fit k (by omega) x hx

theorem bulk_app : ∀ (xs ys : List Wr), bulk (xs ++ ys) = bulk xs + bulk ys
  | [], ys => by simp [bulk]
  | x :: r, ys => by
    have ih := bulk_app r ys
    show x.xs.length + bulk (r ++ ys) = x.xs.length + bulk r + bulk ys
    omega

theorem those_bulk (vs : List Wr) (st : Nat → Bool) (fit : Bool) : ∀ k, k ≤ vs.length → bulk (thoseTo vs st fit k) ≤ bulk (vs.take k)
  | 0, _ => by simp [thoseTo, bulk]
  | k + 1, hk => by
    have ih := those_bulk vs st fit k (by omega)
    have e := bulk_take vs k (by omega)
    unfold thoseTo
    split
    · rw [bulk_app, e]
      have : bulk [vs.getD k wz] = (vs.getD k wz).xs.length := by simp [bulk]
      omega
    · omega

theorem fitL_mem {us vs : List Wr} {fit : Bool} {x : Wr} (h : x ∈ fitL us vs fit) : x ∈ vs := by
  unfold fitL at h
  cases hr : rightB us vs
  · rw [hr] at h
    simp at h
  · rw [hr] at h
    exact those_mem vs _ fit _ (Nat.le_refl _) x h

theorem fitL_len (us vs : List Wr) (fit : Bool) : (fitL us vs fit).length ≤ vs.length := by
  unfold fitL
  cases rightB us vs
  · exact Nat.zero_le _
  · exact those_len vs _ fit _

theorem fitL_bulk (us vs : List Wr) (fit : Bool) : bulk (fitL us vs fit) ≤ bulk vs := by
  unfold fitL
  cases rightB us vs
  · simp [bulk]
  · have := those_bulk vs (fixS us vs) fit vs.length (Nat.le_refl _)
    rw [List.take_of_length_le (Nat.le_refl _)] at this
    exact this

theorem fitL_few {us vs : List Wr} (hy : Few vs) (fit : Bool) : Few (fitL us vs fit) := fun i hi => by
  have hm : (fitL us vs fit).getD i wz ∈ fitL us vs fit := by
    have e : (fitL us vs fit).getD i wz = (fitL us vs fit)[i] := by simp [List.getD, hi]
    rw [e]
    exact List.getElem_mem hi
  obtain ⟨j, hj, e⟩ := List.mem_iff_getElem.1 (fitL_mem hm)
  have := hy j hj
  rw [← e]
  simpa [List.getD, hj] using this

set_option maxRecDepth 100000 in
theorem right_parts {us vs : List Wr} (h : rightB us vs = true) : Rise us ∧ (∀ x ∈ us, okW x = true) ∧ ∀ x ∈ vs, okW x = true := by
  unfold rightB at h
  rw [Bool.and_eq_true] at h
  exact ⟨((mapOk_iff us).1 h.1).2, ((mapOk_iff us).1 h.1).1, fun x hx => List.all_eq_true.1 h.2 x hx⟩

set_option maxRecDepth 100000 in
theorem fitL_right {us vs : List Wr} (h : rightB us vs = true) (fit : Bool) : fitL us vs fit = thoseTo vs (fixS us vs) fit vs.length := by
  unfold fitL
  rw [h]

set_option maxRecDepth 100000 in
theorem fitL_wrong {us vs : List Wr} (h : rightB us vs = false) (fit : Bool) : fitL us vs fit = [] := by
  unfold fitL
  rw [h]

end Go.Proofs.Ytionfpjjlghanak

/- Contracts of impl.Fitting, impl.Held. -/
namespace Go.Proofs.Ytionfpjjlghanak
open Go.ChangeShapes Go.WideShapes Go.ChangeAt Go.RowKit Go.Joins
attribute [local go_sem ↓] Go.wp_at_zero Go.wp_at_succ

set_option maxRecDepth 100000 in
set_option maxHeartbeats 2000000 in
theorem implHeld_any (a b : Option Addr) (n m cap cap' : Nat) (us vs : List Wr) (w : World) (hn : us.length = n) (hm : vs.length = m) (hs : n + m ≤ 1048576) (hx : Few us) (hy : Few vs) (hi : IsWs w a us) (hj : IsWs w b vs) :
    Calls Try.prog 7 #[.slice a n cap, .slice b m cap'] w fun e w' => ∃ v es, e = .returned v ∧ es.map (·.x) = fitL us vs false ∧ RowG w' w.heap.size v es ∧ Below w.heap.size w w' := by
  have HI := Lib.hid hi
  have HJ := Lib.hid hj
  have HN := Lib.hid hn
  have HM := Lib.hid hm
  have HX := Lib.hid hx
  have HY := Lib.hid hy
  have HC := Lib.hid (seen_any a b n m cap cap' us vs w hn hm (by omega) (by omega) hx hy hi hj)
  clear hi hj hn hm hx hy
  cases hr : rightB us vs
  · have HF := Lib.hid (fitL_wrong hr false)
    rw [hr] at HC
    clear hr
    go_enter Try.func7, Try.ntmps7
    go_wp2_with fail
    refine HC.out.mono ?_
    rintro e w1 ⟨rfl, hb⟩
    have HB1 := Lib.hid hb
    clear hb
    go_wp2
    go_ret
    exact ⟨_, [], rfl, HF.out.symm, rowG_nil _ _, HB1.out⟩
  · have HF := Lib.hid (fitL_right hr false)
    have HP := Lib.hid (right_parts hr)
    rw [hr] at HC
    clear hr
    obtain ⟨N, hN⟩ : ∃ N, N = (m + 63) / 64 := ⟨_, rfl⟩
    have n64 : m ≤ N * 64 := by omega
    have nN : N ≤ 1048576 := by omega
    have HNN := Lib.hid hN
    clear hN
    go_enter Try.func7, Try.ntmps7
    go_wp2_with fail
    refine HC.out.mono ?_
    rintro e w1 ⟨rfl, hb⟩
    have HB1 := Lib.hid hb
    clear hb HC
    go_wp2_with fail
    refine (fitPlaces_any a b n m N cap cap' us vs _ HN.out HM.out hs HX.out HY.out (HI.out.below HB1.out) (HJ.out.below HB1.out) HP.out.1 HP.out.2.1 HP.out.2.2 HNN.out).mono ?_
    rintro e w2 ⟨g, F, rfl, hw, hf, hb⟩
    have HB2 := Lib.hid (below_step HB1.out HB1.out.size hb)
    have HW := Lib.hid hw
    have HFX := Lib.hid hf
    clear hb hw hf HB1
    go_wp2_with fail
    refine (others_any g N N F _ HW.out nN).mono ?_
    rintro e w2' ⟨g', rfl, hw, hb⟩
    have HB2' := Lib.hid (below_step HB2.out HB2.out.size hb)
    have HW' := Lib.hid hw
    have HSM := Lib.hid HW.out.small
    clear hb hw HB2 HW
    go_wp2_with fail
    refine (writesAt_any b m cap' g' N N vs (notW F) _ HM.out (by omega) HY.out (HJ.out.below HB2'.out) HW'.out n64).mono ?_
    rintro e w3 ⟨v, es, rfl, he, hrow, hb⟩
    have HE : Hid (es.map (·.x) = fitL us vs false) := by
      rw [he, HF.out, HM.out, those_not vs F HSM.out]
      exact Lib.hid (those_congr fun j hj => HFX.out j hj)
    have HR := Lib.hid (hrow.mono HB2'.out.size)
    have HB3 := Lib.hid (below_step HB2'.out HB2'.out.size hb)
    clear he hrow hb
    go_wp2
    go_ret
    exact ⟨v, es, rfl, HE.out, HR.out, HB3.out⟩

end Go.Proofs.Ytionfpjjlghanak

/- What comes in, opened: tags, dependencies, slices of them, writes. -/
namespace Go.Proofs.Ytionfpjjlghanak
open Go.ChangeShapes Go.WideShapes Go.ChangeAt Go.RowKit Go.Joins Go.Deep
set_option maxRecDepth 100000

theorem cellsInt : Try.prog.cellsOf 3 = 1 := by kernel_rfl

theorem cellsTag : Try.prog.cellsOf 32 = 3 := by kernel_rfl

theorem cellsDep : Try.prog.cellsOf 73 = 4 := by kernel_rfl

section
variable {H : Type} {enc : TypeId × Value → H} {w : World} {base : Nat} {spare : Nat → Bool} {held : Bool}

theorem tag_cells {fuel : Nat} {cs : List Value} {x : DataW H × List MemPlace} (h : DataW.trod enc Try.prog w base spare held fuel 32 cs = some x) : ∃ c s q : Int, cs = [.int .i64 c, .int .i64 s, .int .i64 q] := by
  obtain ⟨y0, y1, y2, n, _, hl, h0, h1, h2⟩ := trod_struct3 Try.underlying32 h
  rw [cellsTag] at hl
  match cs, hl with
  | [v0, v1, v2], _ =>
    obtain ⟨a0, e0, _, _⟩ := DataW.trod_int Try.underlying3 h0
    obtain ⟨a1, e1, _, _⟩ := DataW.trod_int Try.underlying3 h1
    obtain ⟨a2, e2, _, _⟩ := DataW.trod_int Try.underlying3 h2
    simp [cellsInt] at e0 e1 e2
    subst e0 e1 e2
    exact ⟨a0, a1, a2, rfl⟩

theorem dep_cells {fuel : Nat} {cs : List Value} {x : DataW H × List MemPlace} (h : DataW.trod enc Try.prog w base spare held fuel 73 cs = some x) : ∃ d : Dp, cs = [.int .i64 d.k, .int .i64 d.c, .int .i64 d.s, .int .i64 d.q] := by
  obtain ⟨y0, y1, n, _, hl, h0, h1⟩ := trod_struct2 Try.underlying73 h
  rw [cellsDep] at hl
  match cs, hl with
  | [v0, v1, v2, v3], _ =>
    obtain ⟨a0, e0, _, _⟩ := DataW.trod_int Try.underlying3 h0
    obtain ⟨c, s, q, e1⟩ := tag_cells h1
    simp [cellsInt] at e0
    simp [cellsTag] at e1
    obtain ⟨e1, e2, e3⟩ := e1
    subst e0 e1 e2 e3
    exact ⟨⟨a0, c, s, q⟩, rfl⟩

theorem add_form {a : Addr} {v : Value} (h : w.cell? a = some v) : a = ⟨a.block, a.off, none⟩ := by
  cases a with
  | mk b o s =>
    cases s with
    | none => rfl
    | some s =>
      simp only [World.cell?] at h
      split at h <;> simp at h

theorem add_plain (b o i : Nat) : (Addr.mk b o none).add i = ⟨b, o + i, none⟩ := by
  unfold Addr.add
  split
  · rename_i h
    rw [h]
    rfl
  · rfl

theorem deps_cells {fuel : Nat} {a : Option Addr} {len cap : Nat} {x : DataW H × List MemPlace} (h : DataW.trod enc Try.prog w base spare held fuel 33 [.slice a len cap] = some x) :
    ∃ xs : List Dp, xs.length = len ∧ len ≤ maxLen ∧ IsDeps w a xs := by
  rcases open_slice Try.underlying33 h with ⟨hcs, _⟩ | ⟨a', len', cap', m, n, D, Pl, hcs, _, hl, hm, hmm, _, hel⟩
  · simp at hcs
    obtain ⟨rfl, rfl, rfl⟩ := hcs
    exact ⟨[], rfl, Nat.zero_le _, .inl rfl⟩
  · simp at hcs
    obtain ⟨rfl, rfl, rfl⟩ := hcs
    have hml : len ≤ m := by rw [hmm]; split <;> omega
    have hd : ∀ i, i < len → ∃ d : Dp, w.cell? (a'.add (i * 4)) = some (.int .i64 d.k) ∧ w.cell? (a'.add (i * 4 + 1)) = some (.int .i64 d.c) ∧ w.cell? (a'.add (i * 4 + 2)) = some (.int .i64 d.s) ∧ w.cell? (a'.add (i * 4 + 3)) = some (.int .i64 d.q) := by
      intro i hi
      obtain ⟨cs', h1, h2⟩ := hel i (by omega)
      rw [cellsDep] at h1
      obtain ⟨_, _, hc⟩ := World.cells?_some h1
      obtain ⟨d, hdd⟩ := dep_cells h2
      rw [hdd] at hc
      have c0 := hc 0 (by omega)
      have c1 := hc 1 (by omega)
      have c2 := hc 2 (by omega)
      have c3 := hc 3 (by omega)
      rw [add_add] at c0 c1 c2 c3
      exact ⟨d, by simpa using c0, by simpa using c1, by simpa using c2, by simpa using c3⟩
    by_cases h0 : len = 0
    · subst h0
      exact ⟨[], rfl, Nat.zero_le _, .inl rfl⟩
    have : Inhabited Dp := ⟨dz⟩
    obtain ⟨f, hf⟩ := choose_lt hd
    have ha : a' = ⟨a'.block, a'.off, none⟩ := by
      have h1 := (hf 0 (by omega)).1
      simp [Addr.add] at h1
      exact add_form h1
    refine ⟨(List.range len).map f, by simp, by omega, .inr ⟨a'.block, a'.off, by rw [← ha], ?_, ?_⟩⟩
    · obtain ⟨cs', h1, _⟩ := hel 0 (by omega)
      rw [cellsDep] at h1
      have h2 := World.cells?_block h1 (by omega)
      simpa [Addr.add] using h2
    · intro i hi
      have hi' : i < len := by simpa using hi
      have hg : ((List.range len).map f).getD i dz = f i := by simp [List.getD, hi']
      rw [hg]
      obtain ⟨h1, h2, h3, h4⟩ := hf i hi'
      rw [ha] at h1 h2 h3 h4
      rw [add_plain] at h1 h2 h3 h4
      exact ⟨h1, h2, h3, h4⟩

theorem open_deps {b0 : Nat} {r : Reach} {v : Value} {d : DataW H} {p : List MemPlace} (hv : Value.okWide Try.prog w r b0 33 v) (h : DataW.Trod enc Try.prog w base (fun _ => true) held 33 v d p) :
    ∃ (a : Option Addr) (len cap : Nat) (xs : List Dp), v = .slice a len cap ∧ (xs.length = len ∧ len ≤ maxLen ∧ IsDeps w a xs) := by
  obtain ⟨a, len, cap, rfl⟩ := okWide_slice Try.underlying33 hv
  obtain ⟨fuel, hf⟩ := h
  obtain ⟨xs, hx⟩ := deps_cells (by simpa [Value.cells] using hf)
  exact ⟨a, len, cap, xs, rfl, hx⟩

theorem cellsBool : Try.prog.cellsOf 4 = 1 := by kernel_rfl

theorem cellsDepS : Try.prog.cellsOf 33 = 1 := by kernel_rfl

theorem cellsWrite : Try.prog.cellsOf 35 = 7 := by kernel_rfl

theorem slice_cells {fuel : Nat} {v : Value} {x : DataW H × List MemPlace} (h : DataW.trod enc Try.prog w base spare held fuel 33 [v] = some x) : ∃ a len cap, v = .slice a len cap := by
  rcases open_slice Try.underlying33 h with ⟨hcs, _⟩ | ⟨a', len', cap', m, n, D, Pl, hcs, _⟩
  · simp at hcs
    exact ⟨_, _, _, hcs⟩
  · simp at hcs
    exact ⟨_, _, _, hcs⟩

theorem open_write {b0 : Nat} {r : Reach} {v : Value} {d : DataW H} {p : List MemPlace} (hv : Value.okWide Try.prog w r b0 35 v) (h : DataW.Trod enc Try.prog w base (fun _ => true) held 35 v d p) :
    ∃ (k c s q va : Int) (de : Bool) (a : Option Addr) (len cap : Nat) (xs : List Dp), v = .agg #[.int .i64 k, .int .i64 c, .int .i64 s, .int .i64 q, .int .i64 va, .bool de, .slice a len cap] ∧ (xs.length = len ∧ len ≤ maxLen ∧ IsDeps w a xs) := by
  obtain ⟨cs, rfl, hsz⟩ := okWide_struct Try.underlying35 hv
  rw [cellsWrite] at hsz
  obtain ⟨fuel, hf⟩ := h
  obtain ⟨xs', n, _, _, _, hlen, hfd⟩ := DataW.trod_struct Try.underlying35 hf
  cases cs with
  | mk l =>
    have hl : l.length = 7 := by simpa using hsz
    match l, hl, xs', hlen with
    | [v0, v1, v2, v3, v4, v5, v6], _, [y0, y1, y2, y3, y4], _ =>
      have g0 := hfd 0 _ rfl
      have g1 := hfd 1 _ rfl
      have g2 := hfd 2 _ rfl
      have g3 := hfd 3 _ rfl
      have g4 := hfd 4 _ rfl
      simp [Value.cells, cellsInt, cellsTag, cellsBool, cellsDepS] at g0 g1 g2 g3 g4
      obtain ⟨k, e0, _, _⟩ := DataW.trod_int Try.underlying3 g0
      obtain ⟨c, s, q, e1⟩ := tag_cells g1
      obtain ⟨va, e2, _, _⟩ := DataW.trod_int Try.underlying3 g2
      obtain ⟨de, e3, _⟩ := DataW.trod_bool Try.underlying4 g3
      obtain ⟨a, len, cap, e4⟩ := slice_cells g4
      simp at e0 e1 e2 e3
      obtain ⟨e1, e1', e1''⟩ := e1
      subst e0 e1 e1' e1'' e2 e3 e4
      obtain ⟨xs, hx⟩ := deps_cells g4
      exact ⟨k, c, s, q, va, de, a, len, cap, xs, rfl, hx⟩

end
end Go.Proofs.Ytionfpjjlghanak

/- What comes in, opened: slices of writes. -/
namespace Go.Proofs.Ytionfpjjlghanak
open Go.ChangeShapes Go.WideShapes Go.ChangeAt Go.RowKit Go.Joins Go.Deep
set_option maxRecDepth 100000

section
variable {H : Type} {enc : TypeId × Value → H} {w : World} {base : Nat} {spare : Nat → Bool} {held : Bool}

theorem write_cells {fuel : Nat} {cs : List Value} {x : DataW H × List MemPlace} (h : DataW.trod enc Try.prog w base spare held fuel 35 cs = some x) :
    ∃ (y : Wr) (a : Option Addr) (cap : Nat), cs = [.int .i64 y.k, .int .i64 y.c, .int .i64 y.s, .int .i64 y.q, .int .i64 y.v, .bool y.de, .slice a y.xs.length cap] ∧ y.xs.length ≤ maxLen ∧ IsDeps w a y.xs := by
  obtain ⟨xs', n, hl0, _, _, hlen, hfd⟩ := DataW.trod_struct Try.underlying35 h
  have hl : cs.length = 7 := by rw [cellsWrite] at *; assumption
  match cs, hl, xs', hlen with
  | [v0, v1, v2, v3, v4, v5, v6], _, [y0, y1, y2, y3, y4], _ =>
    have g0 := hfd 0 _ rfl
    have g1 := hfd 1 _ rfl
    have g2 := hfd 2 _ rfl
    have g3 := hfd 3 _ rfl
    have g4 := hfd 4 _ rfl
    simp [cellsInt, cellsTag, cellsBool, cellsDepS] at g0 g1 g2 g3 g4
    obtain ⟨k, e0, _, _⟩ := DataW.trod_int Try.underlying3 g0
    obtain ⟨c, s, q, e1⟩ := tag_cells g1
    obtain ⟨va, e2, _, _⟩ := DataW.trod_int Try.underlying3 g2
    obtain ⟨de, e3, _⟩ := DataW.trod_bool Try.underlying4 g3
    obtain ⟨a, len, cap, e4⟩ := slice_cells g4
    simp at e0 e1 e2 e3
    obtain ⟨e1, e1', e1''⟩ := e1
    subst e0 e1 e1' e1'' e2 e3 e4
    obtain ⟨xs, hx1, hx2, hx3⟩ := deps_cells g4
    subst hx1
    exact ⟨⟨k, c, s, q, va, de, xs⟩, a, cap, rfl, hx2, hx3⟩

theorem ws_cells {fuel : Nat} {a : Option Addr} {len cap : Nat} {x : DataW H × List MemPlace} (h : DataW.trod enc Try.prog w base spare held fuel 22 [.slice a len cap] = some x) :
    ∃ ws : List Wr, ws.length = len ∧ len ≤ maxLen ∧ IsWs w a ws := by
  rcases open_slice Try.underlying22 h with ⟨hcs, _⟩ | ⟨a', len', cap', m, n, D, Pl, hcs, _, hl, hm, hmm, _, hel⟩
  · simp at hcs
    obtain ⟨rfl, rfl, rfl⟩ := hcs
    exact ⟨[], rfl, Nat.zero_le _, .inl rfl⟩
  · simp at hcs
    obtain ⟨rfl, rfl, rfl⟩ := hcs
    have hml : len ≤ m := by rw [hmm]; split <;> omega
    have hd : ∀ i, i < len → ∃ y : Wr, ∃ (ad : Option Addr) (cp : Nat), w.cell? (a'.add (i * 7)) = some (.int .i64 y.k) ∧ w.cell? (a'.add (i * 7 + 1)) = some (.int .i64 y.c) ∧ w.cell? (a'.add (i * 7 + 2)) = some (.int .i64 y.s) ∧ w.cell? (a'.add (i * 7 + 3)) = some (.int .i64 y.q) ∧ w.cell? (a'.add (i * 7 + 4)) = some (.int .i64 y.v) ∧ w.cell? (a'.add (i * 7 + 5)) = some (.bool y.de) ∧ w.cell? (a'.add (i * 7 + 6)) = some (.slice ad y.xs.length cp) ∧ y.xs.length ≤ maxLen ∧ IsDeps w ad y.xs := by
      intro i hi
      obtain ⟨cs', h1, h2⟩ := hel i (by omega)
      rw [cellsWrite] at h1
      obtain ⟨_, _, hc⟩ := World.cells?_some h1
      obtain ⟨y, ad, cp, hdd, hy1, hy2⟩ := write_cells h2
      rw [hdd] at hc
      have c0 := hc 0 (by omega)
      have c1 := hc 1 (by omega)
      have c2 := hc 2 (by omega)
      have c3 := hc 3 (by omega)
      have c4 := hc 4 (by omega)
      have c5 := hc 5 (by omega)
      have c6 := hc 6 (by omega)
      rw [add_add] at c0 c1 c2 c3 c4 c5 c6
      exact ⟨y, ad, cp, by simpa using c0, by simpa using c1, by simpa using c2, by simpa using c3, by simpa using c4, by simpa using c5, by simpa using c6, hy1, hy2⟩
    by_cases h0 : len = 0
    · subst h0
      exact ⟨[], rfl, Nat.zero_le _, .inl rfl⟩
    have : Inhabited Wr := ⟨wz⟩
    obtain ⟨f, hf⟩ := choose_lt hd
    have ha : a' = ⟨a'.block, a'.off, none⟩ := by
      obtain ⟨_, _, h1, _⟩ := hf 0 (by omega)
      simp [Addr.add] at h1
      exact add_form h1
    refine ⟨(List.range len).map f, by simp, by omega, .inr ⟨a'.block, a'.off, by rw [← ha], ?_, ?_⟩⟩
    · obtain ⟨cs', h1, _⟩ := hel 0 (by omega)
      rw [cellsWrite] at h1
      have h2 := World.cells?_block h1 (by omega)
      simpa [Addr.add] using h2
    · intro i hi
      have hi' : i < len := by simpa using hi
      have hg : ((List.range len).map f).getD i wz = f i := by simp [List.getD, hi']
      rw [hg]
      obtain ⟨ad, cp, h1, h2, h3, h4, h5, h6, h7, h8, h9⟩ := hf i hi'
      rw [ha] at h1 h2 h3 h4 h5 h6 h7
      rw [add_plain] at h1 h2 h3 h4 h5 h6 h7
      exact ⟨ad, cp, ⟨h1, h2, h3, h4, h5, h6, h7⟩, h8, h9⟩

theorem open_ws {b0 : Nat} {r : Reach} {v : Value} {d : DataW H} {p : List MemPlace} (hv : Value.okWide Try.prog w r b0 22 v) (h : DataW.Trod enc Try.prog w base (fun _ => true) held 22 v d p) :
    ∃ (a : Option Addr) (len cap : Nat) (ws : List Wr), v = .slice a len cap ∧ (ws.length = len ∧ len ≤ maxLen ∧ IsWs w a ws) := by
  obtain ⟨a, len, cap, rfl⟩ := okWide_slice Try.underlying22 hv
  obtain ⟨fuel, hf⟩ := h
  obtain ⟨ws, hx⟩ := ws_cells (by simpa [Value.cells] using hf)
  exact ⟨a, len, cap, ws, rfl, hx⟩

end
end Go.Proofs.Ytionfpjjlghanak
