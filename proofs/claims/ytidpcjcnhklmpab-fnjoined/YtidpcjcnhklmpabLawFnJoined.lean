/- At every two codes the law FnJoined answers true: whichever drawn maps are joined first, the same comes. No conditions. -/
import Derived.Test.YtidpcjcnhklmpabPack11
import Derived.Test.YtidpcjcnhklmpabPack12
namespace Go.Proofs.Ytidpcjcnhklmpab.lawFnJoined
open Go.ChangeShapes Go.WideShapes Go.ChangeAt Go.RowKit Go.Joins
attribute [local go_sem ↓] Go.wp_at_zero Go.wp_at_succ

theorem big_is (a : Option Addr) (len cap : Nat) (r : Bool) (h : decide (1048576 < len) = r) (hm : len ≤ maxLen) (w : World) :
    Calls Try.prog 7 #[.slice a len cap] w fun e w' => e = .returned (.bool r) ∧ w' = w := by
  unfold maxLen at hm
  cases r
  · have h' : len ≤ 1048576 := by simpa using h
    clear h
    go_enter Try.func7, Try.ntmps7
    go_wp2
    go_ret
    exact ⟨by simp; omega, rfl⟩
  · have h' : 1048576 < len := by simpa using h
    clear h
    go_enter Try.func7, Try.ntmps7
    go_wp2
    go_ret
    exact ⟨by simp; omega, rfl⟩

theorem open_bytes {H : Type} {enc : TypeId × Value → H} {w : World} {base b0 : Nat} {held : Bool} {r : Go.Reach} {v : Value} {d : DataW H} {p : List MemPlace} (hv : Value.okWide Try.prog w r b0 22 v) (h : DataW.Trod enc Try.prog w base (fun _ => true) held 22 v d p) :
    ∃ (a : Option Addr) (len cap : Nat), v = .slice a len cap ∧ (len ≤ maxLen ∧ Bytes w a len) := by
  obtain ⟨a, len, cap, rfl⟩ := okWide_slice Try.underlying22 hv
  obtain ⟨fuel, hf⟩ := h
  refine ⟨a, len, cap, rfl, ?_⟩
  rcases open_ints Try.underlying22 Try.underlying5 (by kernel_rfl) hf with ⟨hcs, _⟩ | ⟨x, l, c, zs, hcs, _, hl, hm, hz, _, hcell, hwz⟩
  · simp [Value.cells] at hcs
    obtain ⟨rfl, rfl, rfl⟩ := hcs
    exact ⟨Nat.zero_le _, .inl rfl⟩
  · simp [Value.cells] at hcs
    obtain ⟨rfl, rfl, rfl⟩ := hcs
    refine ⟨by omega, ?_⟩
    by_cases h0 : len = 0
    · exact .inl h0
    · have hzl : zs.length = cap := by simpa using hz
      have hx : x = ⟨x.block, x.off, none⟩ := by
        have h1 := hcell 0 (by omega)
        simp [Addr.add] at h1
        cases x with
        | mk b o s =>
          cases s with
          | none => rfl
          | some s =>
            simp only [World.cell?] at h1
            split at h1 <;> simp at h1
      refine .inr ⟨x.block, x.off, by rw [← hx], ?_, fun i hi => ?_⟩
      · have h1 := hcell 0 (by omega)
        have := World.block_lt_of_cell? w _ h1
        simpa [Addr.add] using this
      · have h1 := hcell i (by omega)
        have hw : (Lit.int .u8 (zs.getD i 0)).wf = true := hwz _ (by rw [List.getD_eq_getElem?_getD, List.getElem?_eq_getElem (by omega)]; exact List.getElem_mem _)
        have hb := bounds_u8 hw
        refine ⟨zs.getD i 0, hb.1, hb.2, ?_⟩
        rw [hx] at h1
        have e : (Addr.mk x.block x.off none).add i = ⟨x.block, x.off + i, none⟩ := by
          unfold Addr.add
          split
          · rename_i h
            rw [h]
            rfl
          · rfl
        rw [e] at h1
        exact h1

set_option maxHeartbeats 1000000 in
theorem walk_big (a : Option Addr) (len cap : Nat) (a' : Option Addr) (len' cap' : Nat) (w : World) (hm : len ≤ maxLen) (hm' : len' ≤ maxLen) (h : 1048576 < len ∨ 1048576 < len') :
    Calls Try.prog 4 #[.slice a len cap, .slice a' len' cap'] w fun e w' => e = .returned (.bool true) ∧ Below w.heap.size w w' := by
  by_cases h1 : 1048576 < len
  · have d1 : decide (1048576 < len) = true := by simpa using h1
    clear h h1
    go_enter Try.func4, Try.ntmps4
    go_wp2_with (go_at_call 7; refine (big_is _ _ _ true d1 hm _).mono ?_; rintro e w1 ⟨rfl, rfl⟩)
    go_ret
    exact ⟨rfl, Below.refl _ _⟩
  · have d1 : decide (1048576 < len) = false := by simpa using h1
    have d2 : decide (1048576 < len') = true := by simp; omega
    clear h h1
    go_enter Try.func4, Try.ntmps4
    go_wp2_with fail
    refine (big_is _ _ _ false d1 hm _).mono ?_
    rintro e w1 ⟨rfl, rfl⟩
    go_wp2_with fail
    refine (big_is _ _ _ true d2 hm' _).mono ?_
    rintro e w2 ⟨rfl, rfl⟩
    go_wp2
    go_ret
    exact ⟨rfl, Below.refl _ _⟩

theorem join_is (a b : Option Addr) (n m cap cap' : Nat) (us vs : List Wr) (w : World) (hn : us.length = n) (hm : vs.length = m) (hn1 : n ≤ 1000) (hm1 : m ≤ 1000) (hx : Few us) (hy : Few vs) (hi : IsWs w a us) (hj : IsWs w b vs) :
    Calls Try.prog 15 #[.slice a n cap, .slice b m cap'] w fun e w' => ∃ ad L cpd, e = .returned (.slice ad L cpd) ∧ (joinB us vs).length = L ∧ L ≤ 6 ∧ IsWs w' ad (joinB us vs) ∧ Below w.heap.size w w' := by
  refine (implMapJoin_any a b n m cap cap' us vs w hn hm (by omega) (by omega) hx hy hi hj).mono ?_
  rintro e w' ⟨v, es, rfl, he, hr, hb⟩
  obtain ⟨ad, cpd, hv, -⟩ := hr.form
  subst hv
  have h := hr.isWs (by rw [he]; exact joinB_few _ _)
  have hl : (joinB us vs).length = es.length := by rw [← he]; simp
  rw [he] at h
  exact ⟨ad, _, cpd, rfl, hl, by have := joinB_len us vs; omega, h, hb⟩

theorem specJoin_is (a b : Option Addr) (n m cap cap' : Nat) (us vs : List Wr) (w : World) (hn : us.length = n) (hm : vs.length = m) (hn1 : n ≤ 1000) (hm1 : m ≤ 1000) (hx : Few us) (hy : Few vs) (hi : IsWs w a us) (hj : IsWs w b vs) :
    Calls Try.prog 17 #[.slice a n cap, .slice b m cap'] w fun e w' => ∃ ad L cpd, e = .returned (.slice ad L cpd) ∧ (joinB us vs).length = L ∧ L ≤ 6 ∧ IsWs w' ad (joinB us vs) ∧ Below w.heap.size w w' := by
  refine (specMapJoin_gen a b n m cap cap' us vs w hn hm (by omega) hx hy hi hj).mono ?_
  rintro e w' ⟨g, cp, es, L, rfl, rfl, he, hr, hb⟩
  have hl : (joinB us vs).length = es.length := by rw [← he]; simp
  exact ⟨_, _, cp, rfl, hl, by have := joinB_len us vs; omega, (hr.holds he).isWs (joinB_few _ _), hb⟩

theorem same_is (r : Bool) (a b : Option Addr) (n m cap cap' : Nat) (us vs : List Wr) (w : World) (hr : sameB us vs = r) (hn : us.length = n) (hm : vs.length = m) (hn1 : n ≤ 1000) (hm1 : m ≤ 1000) (hx : Few us) (hy : Few vs) (hi : IsWs w a us) (hj : IsWs w b vs) :
    Calls Try.prog 16 #[.slice a n cap, .slice b m cap'] w fun e w' => e = .returned (.bool r) ∧ Below w.heap.size w w' := by
  subst hr
  exact sameWrites_gen a b n m cap cap' us vs w hn hm (by omega) (by omega) hx hy hi hj

theorem within_is (r : Bool) (a b : Option Addr) (n m cap cap' : Nat) (us vs : List Wr) (w : World) (hr : withinB us vs = r) (hn : us.length = n) (hm : vs.length = m) (hn1 : n ≤ 1000) (hm1 : m ≤ 1000) (hx : Few us) (hy : Few vs) (hi : IsWs w a us) (hj : IsWs w b vs) :
    Calls Try.prog 20 #[.slice a n cap, .slice b m cap'] w fun e w' => e = .returned (.bool r) ∧ Below w.heap.size w w' := by
  subst hr
  exact implWithin_any a b n m cap cap' us vs w hn hm (by omega) (by omega) hx hy hi hj

theorem specOk_is (r : Bool) (a : Option Addr) (n cap : Nat) (us : List Wr) (w : World) (hr : mapOkB us = r) (hn : us.length = n) (hn1 : n ≤ 1000) (hx : Few us) (hi : IsWs w a us) :
    Calls Try.prog 18 #[.slice a n cap] w fun e w' => e = .returned (.bool r) ∧ Below w.heap.size w w' := by
  subst hr
  exact specMapOk_gen a n cap us w hn (by omega) hx hi

theorem implOk_is (r : Bool) (a : Option Addr) (n cap : Nat) (us : List Wr) (w : World) (hr : mapOkB us = r) (hn : us.length = n) (hn1 : n ≤ 1000) (hx : Few us) (hi : IsWs w a us) :
    Calls Try.prog 19 #[.slice a n cap] w fun e w' => e = .returned (.bool r) ∧ Below w.heap.size w w' := by
  subst hr
  exact implMapOk_any a n cap us w hn (by omega) hx hi

theorem joined_laws {us vs : List Wr} (h : mapOkB us = true) (h' : mapOkB vs = true) : joinB us vs = joinB vs us ∧ joinB us us = us ∧ withinB us (joinB us vs) = true ∧ withinB vs (joinB us vs) = true := by
  have a := okM h
  have b := okM h'
  have e := joinB_mapOk us vs
  rw [joinB_yes h h'] at *
  rw [joinB_yes h' h, joinB_yes h h]
  refine ⟨join_comm a b, join_self a, (within_iff _ _).2 ⟨h, e, ?_⟩, (within_iff _ _).2 ⟨h', e, ?_⟩⟩
  · rw [← join_assoc a a b, join_self a]
  · rw [join_comm a b, ← join_assoc b b a, join_self b]

theorem joined_third {us vs ws : List Wr} (h : mapOkB us = true) (h' : mapOkB vs = true) (h2 : mapOkB ws = true) : joinB (joinB us vs) ws = joinB us (joinB vs ws) := by
  have e1 := joinB_mapOk us vs
  have e2 := joinB_mapOk vs ws
  rw [joinB_yes e1 h2, joinB_yes h e2, joinB_yes h h', joinB_yes h' h2, join_assoc (okM h) (okM h') (okM h2)]

set_option maxRecDepth 100000 in
set_option maxHeartbeats 8000000 in
theorem walk_small (a : Option Addr) (len cap : Nat) (a' : Option Addr) (len' cap' : Nat) (w : World) (hy : Bytes w a len) (hy' : Bytes w a' len') (hl : len ≤ 1048576) (hl' : len' ≤ 1048576) :
    Calls Try.prog 4 #[.slice a len cap, .slice a' len' cap'] w fun e w' => e = .returned (.bool true) ∧ Below w.heap.size w w' := by
  have HY : Hid (Bytes w a len) := hy
  have HY' : Hid (Bytes w a' len') := hy'
  have d1 : decide (1048576 < len) = false := by simp; omega
  have d2 : decide (1048576 < len') = false := by simp; omega
  clear hy hy'
  go_enter Try.func4, Try.ntmps4
  go_wp2_with fail
  refine (big_is _ _ _ false d1 (by unfold maxLen; omega) _).mono ?_
  rintro e w0 ⟨rfl, rfl⟩
  go_wp2_with fail
  refine (big_is _ _ _ false d2 (by unfold maxLen; omega) _).mono ?_
  rintro e w0' ⟨rfl, rfl⟩
  clear d1 d2
  go_wp2_with fail
  refine (drawJoin_any _ _ _ _ HY.out hl).mono ?_
  rintro e w1 ⟨v1, v2, es1, es2, rfl, ⟨g1, cp1, rfl, l1, f1, r1⟩, ⟨g2, cp2, rfl, l2, f2, r2⟩, hb1⟩
  have HFa := Lib.hid (few_of f1)
  have HFb := Lib.hid (few_of f2)
  have HI1 := Lib.hid ((r1.holds rfl).isWs HFa.out)
  have HI2 := Lib.hid ((r2.holds rfl).isWs HFb.out)
  have HB1 := Lib.hid hb1
  clear f1 f2 r1 r2 hb1
  go_wp2_with fail
  refine (drawJoin_any _ _ _ _ (HY'.out.below HB1.out) hl').mono ?_
  rintro e w2 ⟨v3, v4, es3, es4, rfl, ⟨g3, cp3, rfl, l3, f3, r3⟩, ⟨g4, cp4, rfl, l4, f4, r4⟩, hb2⟩
  have HFc := Lib.hid (few_of f3)
  have HIc2 := Lib.hid ((r3.holds rfl).isWs HFc.out)
  have HIa2 := Lib.hid (HI1.out.below hb2)
  have HIb2 := Lib.hid (HI2.out.below hb2)
  have HB2 := Lib.hid (below_step HB1.out HB1.out.size hb2)
  clear f3 r3 f4 r4 hb2 HI1 HI2 HB1 HY HY'
  have HNa : Hid ((es1.map (·.x)).length = es1.length) := by simp [Hid]
  have HNb : Hid ((es2.map (·.x)).length = es2.length) := by simp [Hid]
  have HNc : Hid ((es3.map (·.x)).length = es3.length) := by simp [Hid]
  generalize es1.map (·.x) = xa at *
  generalize es2.map (·.x) = xb at *
  generalize es3.map (·.x) = xc at *
  generalize es1.length = n1 at *
  generalize es2.length = n2 at *
  generalize es3.length = n3 at *
  have HFx := Lib.hid (joinB_few xa xb)
  go_wp2_with fail
  refine (join_is _ _ _ _ _ _ xa xb _ HNa.out HNb.out (by omega) (by omega) HFa.out HFb.out HIa2.out HIb2.out).mono ?_
  rintro e w3 ⟨adx, Lx, cx, rfl, hlx, hmx, hix, hb⟩
  have HIa3 := Lib.hid (HIa2.out.below hb)
  have HIb3 := Lib.hid (HIb2.out.below hb)
  have HIc3 := Lib.hid (HIc2.out.below hb)
  have HB3 := Lib.hid (below_step HB2.out HB2.out.size hb)
  have HNx := Lib.hid hlx
  have HIx3 := Lib.hid hix
  clear hb HB2 HIa2 HIb2 HIc2 hlx hix
  have HFs := Lib.hid (joinB_few xa xb)
  go_wp2_with fail
  refine (specJoin_is _ _ _ _ _ _ xa xb _ HNa.out HNb.out (by omega) (by omega) HFa.out HFb.out HIa3.out HIb3.out).mono ?_
  rintro e w4 ⟨ads, Ls, cs, rfl, hls, hms, his, hb⟩
  have HIa4 := Lib.hid (HIa3.out.below hb)
  have HIb4 := Lib.hid (HIb3.out.below hb)
  have HIc4 := Lib.hid (HIc3.out.below hb)
  have HIx4 := Lib.hid (HIx3.out.below hb)
  have HB4 := Lib.hid (below_step HB3.out HB3.out.size hb)
  have HNs := Lib.hid hls
  have HIs4 := Lib.hid his
  clear hb HB3 HIa3 HIb3 HIc3 HIx3 hls his
  go_wp2_with fail
  refine (same_is true _ _ _ _ _ _ (joinB xa xb) (joinB xa xb) _ ((same_iff _ _).2 rfl) HNx.out HNs.out (by omega) (by omega) HFx.out HFs.out HIx4.out HIs4.out).mono ?_
  rintro e w5 ⟨rfl, hb⟩
  have HIa5 := Lib.hid (HIa4.out.below hb)
  have HIb5 := Lib.hid (HIb4.out.below hb)
  have HIc5 := Lib.hid (HIc4.out.below hb)
  have HIx5 := Lib.hid (HIx4.out.below hb)
  have HIs5 := Lib.hid (HIs4.out.below hb)
  have HB5 := Lib.hid (below_step HB4.out HB4.out.size hb)
  clear hb HB4 HIa4 HIb4 HIc4 HIx4 HIs4
  cases hma : mapOkB xa
  · skip
    go_wp2_with fail
    refine (specOk_is false _ _ _ xa _ (hma) HNa.out (by omega) HFa.out HIa5.out).mono ?_
    rintro e w6 ⟨rfl, hb⟩
    have HIa6 := Lib.hid (HIa5.out.below hb)
    have HIb6 := Lib.hid (HIb5.out.below hb)
    have HIc6 := Lib.hid (HIc5.out.below hb)
    have HIx6 := Lib.hid (HIx5.out.below hb)
    have HB6 := Lib.hid (below_step HB5.out HB5.out.size hb)
    clear hb HB5 HIa5 HIb5 HIc5 HIx5
    have h0 : Lx = 0 := by
      rw [← HNx.out, joinB_not (.inl hma)]
      rfl
    subst h0
    go_wp2
    go_ret
    exact ⟨rfl, HB6.out⟩
  cases hmb : mapOkB xb
  · skip
    go_wp2_with fail
    refine (specOk_is true _ _ _ xa _ (hma) HNa.out (by omega) HFa.out HIa5.out).mono ?_
    rintro e w6 ⟨rfl, hb⟩
    have HIa6 := Lib.hid (HIa5.out.below hb)
    have HIb6 := Lib.hid (HIb5.out.below hb)
    have HIc6 := Lib.hid (HIc5.out.below hb)
    have HIx6 := Lib.hid (HIx5.out.below hb)
    have HB6 := Lib.hid (below_step HB5.out HB5.out.size hb)
    clear hb HB5 HIa5 HIb5 HIc5 HIx5
    go_wp2_with fail
    refine (specOk_is false _ _ _ xb _ (hmb) HNb.out (by omega) HFb.out HIb6.out).mono ?_
    rintro e w7 ⟨rfl, hb⟩
    have HIa7 := Lib.hid (HIa6.out.below hb)
    have HIb7 := Lib.hid (HIb6.out.below hb)
    have HIc7 := Lib.hid (HIc6.out.below hb)
    have HIx7 := Lib.hid (HIx6.out.below hb)
    have HB7 := Lib.hid (below_step HB6.out HB6.out.size hb)
    clear hb HB6 HIa6 HIb6 HIc6 HIx6
    have h0 : Lx = 0 := by
      rw [← HNx.out, joinB_not (.inr hmb)]
      rfl
    subst h0
    go_wp2
    go_ret
    exact ⟨rfl, HB7.out⟩
  have HL := Lib.hid (joined_laws hma hmb)
  go_wp2_with fail
  refine (specOk_is true _ _ _ xa _ (hma) HNa.out (by omega) HFa.out HIa5.out).mono ?_
  rintro e w6 ⟨rfl, hb⟩
  have HIa6 := Lib.hid (HIa5.out.below hb)
  have HIb6 := Lib.hid (HIb5.out.below hb)
  have HIc6 := Lib.hid (HIc5.out.below hb)
  have HIx6 := Lib.hid (HIx5.out.below hb)
  have HB6 := Lib.hid (below_step HB5.out HB5.out.size hb)
  clear hb HB5 HIa5 HIb5 HIc5 HIx5
  go_wp2_with fail
  refine (specOk_is true _ _ _ xb _ (hmb) HNb.out (by omega) HFb.out HIb6.out).mono ?_
  rintro e w7 ⟨rfl, hb⟩
  have HIa7 := Lib.hid (HIa6.out.below hb)
  have HIb7 := Lib.hid (HIb6.out.below hb)
  have HIc7 := Lib.hid (HIc6.out.below hb)
  have HIx7 := Lib.hid (HIx6.out.below hb)
  have HB7 := Lib.hid (below_step HB6.out HB6.out.size hb)
  clear hb HB6 HIa6 HIb6 HIc6 HIx6
  go_wp2_with fail
  refine (implOk_is true _ _ _ (joinB xa xb) _ (joinB_mapOk _ _) HNx.out (by omega) HFx.out HIx7.out).mono ?_
  rintro e w8 ⟨rfl, hb⟩
  have HIa8 := Lib.hid (HIa7.out.below hb)
  have HIb8 := Lib.hid (HIb7.out.below hb)
  have HIc8 := Lib.hid (HIc7.out.below hb)
  have HIx8 := Lib.hid (HIx7.out.below hb)
  have HB8 := Lib.hid (below_step HB7.out HB7.out.size hb)
  clear hb HB7 HIa7 HIb7 HIc7 HIx7
  have HFr := Lib.hid (joinB_few xb xa)
  go_wp2_with fail
  refine (join_is _ _ _ _ _ _ xb xa _ HNb.out HNa.out (by omega) (by omega) HFb.out HFa.out HIb8.out HIa8.out).mono ?_
  rintro e w9 ⟨adr, Lr, cr, rfl, hlr, hmr, hir, hb⟩
  have HIa9 := Lib.hid (HIa8.out.below hb)
  have HIb9 := Lib.hid (HIb8.out.below hb)
  have HIc9 := Lib.hid (HIc8.out.below hb)
  have HIx9 := Lib.hid (HIx8.out.below hb)
  have HB9 := Lib.hid (below_step HB8.out HB8.out.size hb)
  have HNr := Lib.hid hlr
  have HIr9 := Lib.hid hir
  clear hb HB8 HIa8 HIb8 HIc8 HIx8 hlr hir
  go_wp2_with fail
  refine (same_is true _ _ _ _ _ _ (joinB xa xb) (joinB xb xa) _ ((same_iff _ _).2 HL.out.1) HNx.out HNr.out (by omega) (by omega) HFx.out HFr.out HIx9.out HIr9.out).mono ?_
  rintro e w10 ⟨rfl, hb⟩
  have HIa10 := Lib.hid (HIa9.out.below hb)
  have HIb10 := Lib.hid (HIb9.out.below hb)
  have HIc10 := Lib.hid (HIc9.out.below hb)
  have HIx10 := Lib.hid (HIx9.out.below hb)
  have HIr10 := Lib.hid (HIr9.out.below hb)
  have HB10 := Lib.hid (below_step HB9.out HB9.out.size hb)
  clear hb HB9 HIa9 HIb9 HIc9 HIx9 HIr9
  have HFt := Lib.hid (joinB_few xa xa)
  go_wp2_with fail
  refine (join_is _ _ _ _ _ _ xa xa _ HNa.out HNa.out (by omega) (by omega) HFa.out HFa.out HIa10.out HIa10.out).mono ?_
  rintro e w11 ⟨adt, Lt, ct, rfl, hlt, hmt, hit, hb⟩
  have HIa11 := Lib.hid (HIa10.out.below hb)
  have HIb11 := Lib.hid (HIb10.out.below hb)
  have HIc11 := Lib.hid (HIc10.out.below hb)
  have HIx11 := Lib.hid (HIx10.out.below hb)
  have HB11 := Lib.hid (below_step HB10.out HB10.out.size hb)
  have HNt := Lib.hid hlt
  have HIt11 := Lib.hid hit
  clear hb HB10 HIa10 HIb10 HIc10 HIx10 hlt hit
  go_wp2_with fail
  refine (same_is true _ _ _ _ _ _ (joinB xa xa) xa _ ((same_iff _ _).2 HL.out.2.1) HNt.out HNa.out (by omega) (by omega) HFt.out HFa.out HIt11.out HIa11.out).mono ?_
  rintro e w12 ⟨rfl, hb⟩
  have HIa12 := Lib.hid (HIa11.out.below hb)
  have HIb12 := Lib.hid (HIb11.out.below hb)
  have HIc12 := Lib.hid (HIc11.out.below hb)
  have HIx12 := Lib.hid (HIx11.out.below hb)
  have HIt12 := Lib.hid (HIt11.out.below hb)
  have HB12 := Lib.hid (below_step HB11.out HB11.out.size hb)
  clear hb HB11 HIa11 HIb11 HIc11 HIx11 HIt11
  go_wp2_with fail
  refine (within_is true _ _ _ _ _ _ xa (joinB xa xb) _ (HL.out.2.2.1) HNa.out HNx.out (by omega) (by omega) HFa.out HFx.out HIa12.out HIx12.out).mono ?_
  rintro e w13 ⟨rfl, hb⟩
  have HIa13 := Lib.hid (HIa12.out.below hb)
  have HIb13 := Lib.hid (HIb12.out.below hb)
  have HIc13 := Lib.hid (HIc12.out.below hb)
  have HIx13 := Lib.hid (HIx12.out.below hb)
  have HB13 := Lib.hid (below_step HB12.out HB12.out.size hb)
  clear hb HB12 HIa12 HIb12 HIc12 HIx12
  go_wp2_with fail
  refine (within_is true _ _ _ _ _ _ xb (joinB xa xb) _ (HL.out.2.2.2) HNb.out HNx.out (by omega) (by omega) HFb.out HFx.out HIb13.out HIx13.out).mono ?_
  rintro e w14 ⟨rfl, hb⟩
  have HIa14 := Lib.hid (HIa13.out.below hb)
  have HIb14 := Lib.hid (HIb13.out.below hb)
  have HIc14 := Lib.hid (HIc13.out.below hb)
  have HIx14 := Lib.hid (HIx13.out.below hb)
  have HB14 := Lib.hid (below_step HB13.out HB13.out.size hb)
  clear hb HB13 HIa13 HIb13 HIc13 HIx13
  cases hmc : mapOkB xc
  · skip
    go_wp2_with fail
    refine (specOk_is false _ _ _ xc _ (hmc) HNc.out (by omega) HFc.out HIc14.out).mono ?_
    rintro e w15 ⟨rfl, hb⟩
    have HIa15 := Lib.hid (HIa14.out.below hb)
    have HIb15 := Lib.hid (HIb14.out.below hb)
    have HIc15 := Lib.hid (HIc14.out.below hb)
    have HIx15 := Lib.hid (HIx14.out.below hb)
    have HB15 := Lib.hid (below_step HB14.out HB14.out.size hb)
    clear hb HB14 HIa14 HIb14 HIc14 HIx14
    go_wp2
    go_ret
    exact ⟨rfl, HB15.out⟩
  have HT := Lib.hid (joined_third hma hmb hmc)
  go_wp2_with fail
  refine (specOk_is true _ _ _ xc _ (hmc) HNc.out (by omega) HFc.out HIc14.out).mono ?_
  rintro e w15 ⟨rfl, hb⟩
  have HIa15 := Lib.hid (HIa14.out.below hb)
  have HIb15 := Lib.hid (HIb14.out.below hb)
  have HIc15 := Lib.hid (HIc14.out.below hb)
  have HIx15 := Lib.hid (HIx14.out.below hb)
  have HB15 := Lib.hid (below_step HB14.out HB14.out.size hb)
  clear hb HB14 HIa14 HIb14 HIc14 HIx14
  have HFp := Lib.hid (joinB_few (joinB xa xb) xc)
  go_wp2_with fail
  refine (join_is _ _ _ _ _ _ (joinB xa xb) xc _ HNx.out HNc.out (by omega) (by omega) HFx.out HFc.out HIx15.out HIc15.out).mono ?_
  rintro e w16 ⟨adp, Lp, cp, rfl, hlp, hmp, hip, hb⟩
  have HIa16 := Lib.hid (HIa15.out.below hb)
  have HIb16 := Lib.hid (HIb15.out.below hb)
  have HIc16 := Lib.hid (HIc15.out.below hb)
  have HIx16 := Lib.hid (HIx15.out.below hb)
  have HB16 := Lib.hid (below_step HB15.out HB15.out.size hb)
  have HNp := Lib.hid hlp
  have HIp16 := Lib.hid hip
  clear hb HB15 HIa15 HIb15 HIc15 HIx15 hlp hip
  have HFq := Lib.hid (joinB_few xb xc)
  go_wp2_with fail
  refine (join_is _ _ _ _ _ _ xb xc _ HNb.out HNc.out (by omega) (by omega) HFb.out HFc.out HIb16.out HIc16.out).mono ?_
  rintro e w17 ⟨adq, Lq, cq, rfl, hlq, hmq, hiq, hb⟩
  have HIa17 := Lib.hid (HIa16.out.below hb)
  have HIb17 := Lib.hid (HIb16.out.below hb)
  have HIc17 := Lib.hid (HIc16.out.below hb)
  have HIx17 := Lib.hid (HIx16.out.below hb)
  have HIp17 := Lib.hid (HIp16.out.below hb)
  have HB17 := Lib.hid (below_step HB16.out HB16.out.size hb)
  have HNq := Lib.hid hlq
  have HIq17 := Lib.hid hiq
  clear hb HB16 HIa16 HIb16 HIc16 HIx16 HIp16 hlq hiq
  have HFz := Lib.hid (joinB_few xa (joinB xb xc))
  go_wp2_with fail
  refine (join_is _ _ _ _ _ _ xa (joinB xb xc) _ HNa.out HNq.out (by omega) (by omega) HFa.out HFq.out HIa17.out HIq17.out).mono ?_
  rintro e w18 ⟨adz, Lz, cz, rfl, hlz, hmz, hiz, hb⟩
  have HIa18 := Lib.hid (HIa17.out.below hb)
  have HIb18 := Lib.hid (HIb17.out.below hb)
  have HIc18 := Lib.hid (HIc17.out.below hb)
  have HIx18 := Lib.hid (HIx17.out.below hb)
  have HIp18 := Lib.hid (HIp17.out.below hb)
  have HIq18 := Lib.hid (HIq17.out.below hb)
  have HB18 := Lib.hid (below_step HB17.out HB17.out.size hb)
  have HNz := Lib.hid hlz
  have HIz18 := Lib.hid hiz
  clear hb HB17 HIa17 HIb17 HIc17 HIx17 HIp17 HIq17 hlz hiz
  go_wp2_with fail
  refine (same_is true _ _ _ _ _ _ (joinB (joinB xa xb) xc) (joinB xa (joinB xb xc)) _ ((same_iff _ _).2 HT.out) HNp.out HNz.out (by omega) (by omega) HFp.out HFz.out HIp18.out HIz18.out).mono ?_
  rintro e w19 ⟨rfl, hb⟩
  have HIa19 := Lib.hid (HIa18.out.below hb)
  have HIb19 := Lib.hid (HIb18.out.below hb)
  have HIc19 := Lib.hid (HIc18.out.below hb)
  have HIx19 := Lib.hid (HIx18.out.below hb)
  have HIp19 := Lib.hid (HIp18.out.below hb)
  have HIq19 := Lib.hid (HIq18.out.below hb)
  have HIz19 := Lib.hid (HIz18.out.below hb)
  have HB19 := Lib.hid (below_step HB18.out HB18.out.size hb)
  clear hb HB18 HIa18 HIb18 HIc18 HIx18 HIp18 HIq18 HIz18
  go_wp2
  go_ret
  exact ⟨rfl, HB19.out⟩

theorem walk (a : Option Addr) (len cap : Nat) (a' : Option Addr) (len' cap' : Nat) (w : World) (hr : len ≤ maxLen ∧ Bytes w a len) (hr' : len' ≤ maxLen ∧ Bytes w a' len') :
    Calls Try.prog 4 #[.slice a len cap, .slice a' len' cap'] w fun e w' => e = .returned (.bool true) ∧ Below w.heap.size w w' := by
  by_cases h : 1048576 < len ∨ 1048576 < len'
  · exact walk_big a len cap a' len' cap' w hr.1 hr'.1 h
  · exact walk_small a len cap a' len' cap' w hr.2 hr'.2 (by omega) (by omega)

set_option maxRecDepth 100000 in
theorem lifted (os : Os) (started : os.Started) (H : Type) (enc : TypeId × Value → H) :
    ReturnsInHanded {} Try.checked os 4 .any (Rows.fnJoinedSpec.pre6 enc Try.prog Try.f4 Rows.fnJoinedRow.domain false) (Rows.fnJoinedSpec.post enc Try.prog Try.f4 false true false false) := by
  refine returnsInHanded_of_change (C := Try.checked) own started (by kernel_rfl) Try.func4
    (ChangeSpec.witness6 (enc := enc) (C := Try.checked) false ⟨#[], #[.slice none 0 0, .slice none 0 0], []⟩ 8 (by kernel_rfl) (by kernel_rfl) (by kernel_rfl) (by kernel_rfl)) ?_
  intro W base args ds gs before hval0 hW hcnd _
  have hval : ∀ (j : Nat) t v, Try.f4.params[j]? = some t → args[j]? = some v → Value.okWide Try.prog W .any base t v := hval0
  have hW' := hW
  obtain ⟨p, q, hA0, hV, rfl, hfz, hnd⟩ := hW
  have hA : DataW.TrodAll enc Try.prog W 0 (fun _ => true) true Try.f4.params.toList args.toList ds p := hA0
  rw [Try.params4] at hA hval
  obtain ⟨v0, v1, d0, d1, p0, p1, rfl, rfl, rfl, h0, h1⟩ := trodAll_two hA
  have k0 := h0
  have lt0 : ∀ x ∈ p0, x.block < W.heap.size := by obtain ⟨m, hm⟩ := k0; exact DataW.trod_lt m _ _ _ hm
  have k1 := h1
  have lt1 : ∀ x ∈ p1, x.block < W.heap.size := by obtain ⟨m, hm⟩ := k1; exact DataW.trod_lt m _ _ _ hm
  obtain ⟨rfl, rfl⟩ := trodVars_none hV
  obtain ⟨a0, len0, cap0, hv0, hr0⟩ := open_bytes (hval 0 22 v0 rfl rfl) h0
  subst hv0
  obtain ⟨a1, len1, cap1, hv1, hr1⟩ := open_bytes (hval 1 22 v1 rfl rfl) h1
  subst hv1
  clear hA0 hval0
  refine (walk a0 len0 cap0 a1 len1 cap1 W hr0 hr1).mono fun e W' ⟨he, bel⟩ => ?_
  subst he
  exact ⟨_, rfl, _, _, _, [], _, [], hW', trodAll_mk1 (shut_bool Try.underlying4 _), (trodAll_mk2 (Below.trod laidOut (by kernel_rfl) (of_decide_eq_true (by kernel_rfl)) k0 bel lt0) (Below.trod laidOut (by kernel_rfl) (of_decide_eq_true (by kernel_rfl)) k1 bel lt1)), rfl, bel.frame _, fun h => by cases h⟩

theorem over : Rows.fnJoinedRow.holds Try.pinned (OpenSpec.ofChange Rows.fnJoinedSpec) :=
  OpenClaim.holds_of_wide 4 Try.f4 rfl rfl rfl rfl rfl rfl rfl ⟨rfl, rfl, rfl, rfl, rfl⟩ rfl rfl rfl rfl rfl (by kernel_rfl) Try.func4 (by kernel_rfl)
    (of_decide_eq_true (by kernel_rfl)) (by unfold Func.isWrapper; rw [if_neg (by decide +kernel)]; exact ⟨rfl, rfl⟩)
    (fun os started H enc _ => lifted os started H enc)

end Go.Proofs.Ytidpcjcnhklmpab.lawFnJoined
namespace Go.Proofs.Ytidpcjcnhklmpab

theorem fnJoined_holds : Rows.FnJoinedSaid := lawFnJoined.over
#print axioms fnJoined_holds
end Go.Proofs.Ytidpcjcnhklmpab
