/- At every code the law FnMapKept answers true: what is put is there, or something later; all other keys are as they were. No conditions. -/
import Derived.Test.YtidpcjcnhklmpabPack11
import Derived.Test.YtidpcjcnhklmpabPack12
import Derived.Test.YtidpcjcnhklmpabPack7
namespace Go.Proofs.Ytidpcjcnhklmpab.lawFnMapKept
open Go.ChangeShapes Go.WideShapes Go.ChangeAt Go.RowKit Go.Joins
attribute [local go_sem ↓] Go.wp_at_zero Go.wp_at_succ

theorem big_is (a : Option Addr) (len cap : Nat) (r : Bool) (h : decide (1048576 < len) = r) (hm : len ≤ maxLen) (w : World) :
    Calls Try.prog 7 #[.slice a len cap] w fun e w' => e = .returned (.bool r) ∧ w' = w := by
  unfold maxLen at hm
  cases r
  · have h' : len ≤ 1048576 := by simpa using h
    clear h
    go_enter Try.func7, Try.ntmps7
    go_wp2
    go_ret
    exact ⟨by simp; omega, rfl⟩
  · have h' : 1048576 < len := by simpa using h
    clear h
    go_enter Try.func7, Try.ntmps7
    go_wp2
    go_ret
    exact ⟨by simp; omega, rfl⟩

theorem open_bytes {H : Type} {enc : TypeId × Value → H} {w : World} {base b0 : Nat} {held : Bool} {r : Go.Reach} {v : Value} {d : DataW H} {p : List MemPlace} (hv : Value.okWide Try.prog w r b0 22 v) (h : DataW.Trod enc Try.prog w base (fun _ => true) held 22 v d p) :
    ∃ (a : Option Addr) (len cap : Nat), v = .slice a len cap ∧ (len ≤ maxLen ∧ Bytes w a len) := by
  obtain ⟨a, len, cap, rfl⟩ := okWide_slice Try.underlying22 hv
  obtain ⟨fuel, hf⟩ := h
  refine ⟨a, len, cap, rfl, ?_⟩
  rcases open_ints Try.underlying22 Try.underlying5 (by kernel_rfl) hf with ⟨hcs, _⟩ | ⟨x, l, c, zs, hcs, _, hl, hm, hz, _, hcell, hwz⟩
  · simp [Value.cells] at hcs
    obtain ⟨rfl, rfl, rfl⟩ := hcs
    exact ⟨Nat.zero_le _, .inl rfl⟩
  · simp [Value.cells] at hcs
    obtain ⟨rfl, rfl, rfl⟩ := hcs
    refine ⟨by omega, ?_⟩
    by_cases h0 : len = 0
    · exact .inl h0
    · have hzl : zs.length = cap := by simpa using hz
      have hx : x = ⟨x.block, x.off, none⟩ := by
        have h1 := hcell 0 (by omega)
        simp [Addr.add] at h1
        cases x with
        | mk b o s =>
          cases s with
          | none => rfl
          | some s =>
            simp only [World.cell?] at h1
            split at h1 <;> simp at h1
      refine .inr ⟨x.block, x.off, by rw [← hx], ?_, fun i hi => ?_⟩
      · have h1 := hcell 0 (by omega)
        have := World.block_lt_of_cell? w _ h1
        simpa [Addr.add] using this
      · have h1 := hcell i (by omega)
        have hw : (Lit.int .u8 (zs.getD i 0)).wf = true := hwz _ (by rw [List.getD_eq_getElem?_getD, List.getElem?_eq_getElem (by omega)]; exact List.getElem_mem _)
        have hb := bounds_u8 hw
        refine ⟨zs.getD i 0, hb.1, hb.2, ?_⟩
        rw [hx] at h1
        have e : (Addr.mk x.block x.off none).add i = ⟨x.block, x.off + i, none⟩ := by
          unfold Addr.add
          split
          · rename_i h
            rw [h]
            rfl
          · rfl
        rw [e] at h1
        exact h1

set_option maxHeartbeats 1000000 in
theorem walk_big (a : Option Addr) (len cap : Nat) (w : World) (hm : len ≤ maxLen) (h : 1048576 < len) :
    Calls Try.prog 5 #[.slice a len cap] w fun e w' => e = .returned (.bool true) ∧ Below w.heap.size w w' := by
  have d1 : decide (1048576 < len) = true := by simpa using h
  clear h
  go_enter Try.func5, Try.ntmps5
  go_wp2_with (go_at_call 7; refine (big_is _ _ _ true d1 hm _).mono ?_; rintro e w1 ⟨rfl, rfl⟩)
  go_ret
  exact ⟨rfl, Below.refl _ _⟩

theorem same_is (r : Bool) (a b : Option Addr) (n m cap cap' : Nat) (us vs : List Wr) (w : World) (hr : sameB us vs = r) (hn : us.length = n) (hm : vs.length = m) (hn1 : n ≤ 1000) (hm1 : m ≤ 1000) (hx : Few us) (hy : Few vs) (hi : IsWs w a us) (hj : IsWs w b vs) :
    Calls Try.prog 16 #[.slice a n cap, .slice b m cap'] w fun e w' => e = .returned (.bool r) ∧ Below w.heap.size w w' := by
  subst hr
  exact sameWrites_gen a b n m cap cap' us vs w hn hm (by omega) (by omega) hx hy hi hj

theorem specOk_is (r : Bool) (a : Option Addr) (n cap : Nat) (us : List Wr) (w : World) (hr : mapOkB us = r) (hn : us.length = n) (hn1 : n ≤ 1000) (hx : Few us) (hi : IsWs w a us) :
    Calls Try.prog 18 #[.slice a n cap] w fun e w' => e = .returned (.bool r) ∧ Below w.heap.size w w' := by
  subst hr
  exact specMapOk_gen a n cap us w hn (by omega) hx hi

theorem implOk_is (r : Bool) (a : Option Addr) (n cap : Nat) (us : List Wr) (w : World) (hr : mapOkB us = r) (hn : us.length = n) (hn1 : n ≤ 1000) (hx : Few us) (hi : IsWs w a us) :
    Calls Try.prog 19 #[.slice a n cap] w fun e w' => e = .returned (.bool r) ∧ Below w.heap.size w w' := by
  subst hr
  exact implMapOk_any a n cap us w hn (by omega) hx hi

theorem put_is (a ad : Option Addr) (n cap cp : Nat) (us : List Wr) (x : Wr) (w : World) (hn : us.length = n) (hn1 : n ≤ 1000) (hx : Few us) (hxl : x.xs.length ≤ 10) (hi : IsWs w a us) (hd : IsDeps w ad x.xs) :
    Calls Try.prog 22 #[.slice a n cap, wrOf x ad cp] w fun e w' => ∃ ad' L cpd, e = .returned (.slice ad' L cpd) ∧ (joinB us [x]).length = L ∧ L ≤ 6 ∧ IsWs w' ad' (joinB us [x]) ∧ Below w.heap.size w w' := by
  refine (implMapPut_any a ad n cap cp us x w hn (by omega) hx (by omega) hi hd).mono ?_
  rintro e w' ⟨v, es, rfl, he, hr, hb⟩
  obtain ⟨ad', cpd, hv, -⟩ := hr.form
  subst hv
  have h := hr.isWs (by rw [he]; exact joinB_few _ _)
  have hl : (joinB us [x]).length = es.length := by rw [← he]; simp
  rw [he] at h
  exact ⟨ad', _, cpd, rfl, hl, by have := joinB_len us [x]; omega, h, hb⟩

theorem specPut_is (a ad : Option Addr) (n cap cp : Nat) (us : List Wr) (x : Wr) (w : World) (hn : us.length = n) (hn1 : n ≤ 1000) (hx : Few us) (hxl : x.xs.length ≤ 10) (hi : IsWs w a us) (hd : IsDeps w ad x.xs) :
    Calls Try.prog 23 #[.slice a n cap, wrOf x ad cp] w fun e w' => ∃ ad' L cpd, e = .returned (.slice ad' L cpd) ∧ (joinB us [x]).length = L ∧ L ≤ 6 ∧ IsWs w' ad' (joinB us [x]) ∧ Below w.heap.size w w' := by
  refine (specMapPut_gen a ad n cap cp us x w hn (by omega) hx (by omega) hi hd).mono ?_
  rintro e w' ⟨g, cp', es, L, rfl, rfl, he, hr, hb⟩
  have hl : (joinB us [x]).length = es.length := by rw [← he]; simp
  exact ⟨_, _, cp', rfl, hl, by have := joinB_len us [x]; omega, (hr.holds he).isWs (joinB_few _ _), hb⟩

theorem writeOk_is (r : Bool) (x : Wr) (ad : Option Addr) (cp : Nat) (w : World) (hr : okW x = r) (hxl : x.xs.length ≤ 10) (hd : IsDeps w ad x.xs) :
    Calls Try.prog 24 #[wrOf x ad cp] w fun e w' => e = .returned (.bool r) ∧ Below w.heap.size w w' := by
  subst hr
  exact specWriteOk_gen _ _ _ _ _ _ ad x.xs _ cp w rfl (by omega) hd

theorem has_is (r : Bool) (a : Option Addr) (n cap : Nat) (key c s q : Int) (us : List Wr) (w : World) (hr : hasB us key c s q = r) (hn : us.length = n) (hn1 : n ≤ 1000) (hi : IsWs w a us) :
    Calls Try.prog 25 #[.slice a n cap, .int .i64 key, tagV c s q] w fun e w' => e = .returned (.bool r) ∧ Below w.heap.size w w' := by
  subst hr
  exact implMapHas_any a n cap key c s q us w hn (by omega) hi

theorem WBox.below {w w' : World} {b : Nat} {k c s q v : Int} {de : Bool} {x : Option Addr} {len cap : Nat} (h : WBox w b k c s q v de x len cap) (hb : Below w.heap.size w w') : WBox w' b k c s q v de x len cap := h.of_block hb.size (hb.block b h.lt)

theorem toldF {ws : List Wr} {key : Int} {B : Nat} {w' : World} {v : Value} (hf : Few ws) (h : ToldG ws key B w' v) : ∃ (y : Wr) (one : Bool) (a : Option Addr) (cp : Nat), v = .tuple #[wrOf y a cp, .bool one] ∧ y.xs.length ≤ 1048576 ∧ IsDeps w' a y.xs ∧ findW ws key = if one = true then some y else none := by
  rcases h with ⟨i, a, g, cp, h1, h2, h3⟩ | ⟨h1, h2⟩
  · exact ⟨ws.getD i wz, true, a, cp, h2, hf i h1.1, h3.isDeps, find_first h1⟩
  · exact ⟨wz, false, none, 0, h2, by simp [wz], .inl rfl, find_none h1⟩

theorem one_ok (x : Wr) : mapOkB [x] = okW x := by
  rw [Bool.eq_iff_iff, mapOk_iff]
  constructor
  · intro h
    exact h.1 x (by simp)
  · intro h
    exact ⟨fun y hy => by simp at hy; rw [hy]; exact h, List.pairwise_singleton _ _⟩

theorem find_one (x : Wr) (key : Int) : findW [x] key = if x.k = key then some x else none := by
  rw [findW_cons]
  rfl

theorem tcmp_later (o : Option Wr) (x : Wr) : 0 ≤ tcmp (laterO o x).c (laterO o x).s (laterO o x).q x.c x.s x.q := by
  cases o with
  | none =>
    show 0 ≤ tcmp x.c x.s x.q x.c x.s x.q
    rw [tcmp_self]
    omega
  | some y =>
    by_cases hc : cmpW y x < 0
    · have e : laterO (some y) x = x := by
        unfold laterO
        exact if_pos hc
      rw [e, tcmp_self]
      omega
    · have e : laterO (some y) x = y := by
        unfold laterO
        exact if_neg hc
      rw [e]
      unfold cmpW wcmp at hc
      by_cases ht : tcmp y.c y.s y.q x.c x.s x.q = 0
      · omega
      · rw [if_pos ht] at hc
        omega

theorem kept_laws {us : List Wr} {x : Wr} (h : mapOkB us = true) (hx : okW x = true) : hasB (joinB us [x]) x.k x.c x.s x.q = true ∧ joinB (joinB us [x]) [x] = joinB us [x] ∧ ∀ key, key ≠ x.k → findW (joinB us [x]) key = findW us key := by
  have h1 : mapOkB [x] = true := (one_ok x).trans hx
  have e := joinB_mapOk us [x]
  rw [joinB_yes h h1] at *
  have a := okM h
  have b := okM h1
  refine ⟨?_, ?_, fun key hk => ?_⟩
  · unfold hasB
    rw [find_join a.rise b.rise, find_one, if_pos rfl]
    show decide (0 ≤ tcmp (laterO (findW us x.k) x).c (laterO (findW us x.k) x).s (laterO (findW us x.k) x).q x.c x.s x.q) = true
    rw [decide_eq_true_eq]
    exact tcmp_later _ x
  · rw [joinB_yes e h1, join_assoc a b b, join_self b]
  · rw [find_join a.rise b.rise, find_one, if_neg (Ne.symm hk)]
    rfl

theorem kept_not {us : List Wr} {x : Wr} (h : mapOkB us = false ∨ okW x = false) : joinB us [x] = [] := joinB_not (h.imp id fun h => (one_ok x).trans h)

set_option maxRecDepth 100000 in
set_option maxHeartbeats 8000000 in
theorem walk_small (a : Option Addr) (len cap : Nat) (w : World) (hy : Bytes w a len) (hl : len ≤ 1048576) :
    Calls Try.prog 5 #[.slice a len cap] w fun e w' => e = .returned (.bool true) ∧ Below w.heap.size w w' := by
  have HY : Hid (Bytes w a len) := hy
  have d1 : decide (1048576 < len) = false := by simp; omega
  clear hy
  go_enter Try.func5, Try.ntmps5
  go_wp2_with fail
  refine (big_is _ _ _ false d1 (by unfold maxLen; omega) _).mono ?_
  rintro e w0 ⟨rfl, rfl⟩
  clear d1
  go_wp2_with fail
  refine (drawPut_any _ _ _ _ HY.out hl).mono ?_
  rintro e w1 ⟨v1, es1, x, ad, cpx, rfl, ⟨g1, cp1, rfl, l1, f1, r1⟩, hxl, hdx, hb1⟩
  have HFa := Lib.hid (few_of f1)
  have HIa1 := Lib.hid ((r1.holds rfl).isWs HFa.out)
  have HB1 := Lib.hid hb1
  have HD1 := Lib.hid hdx
  have HNa : Hid ((es1.map (·.x)).length = es1.length) := by simp [Hid]
  clear f1 r1 hb1 hdx HY
  generalize es1.map (·.x) = xa at *
  generalize es1.length = n1 at *
  obtain ⟨xk, xc, xs', xq, xv, xd, xx⟩ := x
  simp only at hxl HD1
  go_upto_region 4 with fail
  have HBA : Hid (Below w1.heap.size w1 (w1.alloc (.cells #[.int .i64 xk, .int .i64 xc, .int .i64 xs', .int .i64 xq, .int .i64 xv, .bool xd, .slice ad xx.length cpx] 31))) := (Below.refl _ _).alloc (Nat.le_refl _) _
  have HW2 : Hid (WBox (w1.alloc (.cells #[.int .i64 xk, .int .i64 xc, .int .i64 xs', .int .i64 xq, .int .i64 xv, .bool xd, .slice ad xx.length cpx] 31)) w1.heap.size xk xc xs' xq xv xd ad xx.length cpx) := WBox.start _ _ _ _ _ _ _ _ _ _ _
  have HIa2 := Lib.hid (HIa1.out.below HBA.out)
  have HD2 := Lib.hid (HD1.out.below HBA.out)
  have HB2 := Lib.hid (below_step HB1.out HB1.out.size HBA.out)
  clear HBA HIa1 HD1 HB1
  generalize w1.alloc (.cells #[.int .i64 xk, .int .i64 xc, .int .i64 xs', .int .i64 xq, .int .i64 xv, .bool xd, .slice ad xx.length cpx] 31) = w2 at *
  generalize w1.heap.size = R at *
  have HFx := Lib.hid (joinB_few xa [⟨xk, xc, xs', xq, xv, xd, xx⟩])
  have y0 := HW2.out.c0
  have y1 := HW2.out.c1
  have y2 := HW2.out.c2
  have y3 := HW2.out.c3
  have y4 := HW2.out.c4
  have y5 := HW2.out.c5
  have y6 := HW2.out.c6
  go_wp2_with fail
  refine (put_is _ ad _ _ cpx xa ⟨xk, xc, xs', xq, xv, xd, xx⟩ _ HNa.out (by omega) HFa.out hxl HIa2.out HD2.out).mono ?_
  rintro e w3 ⟨adx, Lx, cx, rfl, hlx, hmx, hix, hb⟩
  have HIa3 := Lib.hid (HIa2.out.below hb)
  have HW3 := Lib.hid (WBox.below HW2.out hb)
  have HD3 := Lib.hid (HD2.out.below hb)
  have HB3 := Lib.hid (below_step HB2.out HB2.out.size hb)
  have HNx := Lib.hid hlx
  have HIx3 := Lib.hid hix
  clear hb HB2 HW2 HD2 y0 y1 y2 y3 y4 y5 y6 HIa2 hlx hix
  have HFs := Lib.hid (joinB_few xa [⟨xk, xc, xs', xq, xv, xd, xx⟩])
  have y0 := HW3.out.c0
  have y1 := HW3.out.c1
  have y2 := HW3.out.c2
  have y3 := HW3.out.c3
  have y4 := HW3.out.c4
  have y5 := HW3.out.c5
  have y6 := HW3.out.c6
  go_wp2_with fail
  refine (specPut_is _ ad _ _ cpx xa ⟨xk, xc, xs', xq, xv, xd, xx⟩ _ HNa.out (by omega) HFa.out hxl HIa3.out HD3.out).mono ?_
  rintro e w4 ⟨ads, Ls, cs, rfl, hls, hms, his, hb⟩
  have HIa4 := Lib.hid (HIa3.out.below hb)
  have HIx4 := Lib.hid (HIx3.out.below hb)
  have HW4 := Lib.hid (WBox.below HW3.out hb)
  have HD4 := Lib.hid (HD3.out.below hb)
  have HB4 := Lib.hid (below_step HB3.out HB3.out.size hb)
  have HNs := Lib.hid hls
  have HIs4 := Lib.hid his
  clear hb HB3 HW3 HD3 y0 y1 y2 y3 y4 y5 y6 HIa3 HIx3 hls his
  have y0 := HW4.out.c0
  have y1 := HW4.out.c1
  have y2 := HW4.out.c2
  have y3 := HW4.out.c3
  have y4 := HW4.out.c4
  have y5 := HW4.out.c5
  have y6 := HW4.out.c6
  go_wp2_with fail
  refine (same_is true _ _ _ _ _ _ (joinB xa [⟨xk, xc, xs', xq, xv, xd, xx⟩]) (joinB xa [⟨xk, xc, xs', xq, xv, xd, xx⟩]) _ ((same_iff _ _).2 rfl) HNx.out HNs.out (by omega) (by omega) HFx.out HFs.out HIx4.out HIs4.out).mono ?_
  rintro e w5 ⟨rfl, hb⟩
  have HIa5 := Lib.hid (HIa4.out.below hb)
  have HIx5 := Lib.hid (HIx4.out.below hb)
  have HIs5 := Lib.hid (HIs4.out.below hb)
  have HW5 := Lib.hid (WBox.below HW4.out hb)
  have HD5 := Lib.hid (HD4.out.below hb)
  have HB5 := Lib.hid (below_step HB4.out HB4.out.size hb)
  clear hb HB4 HW4 HD4 y0 y1 y2 y3 y4 y5 y6 HIa4 HIx4 HIs4
  cases hma : mapOkB xa
  · skip
    have y0 := HW5.out.c0
    have y1 := HW5.out.c1
    have y2 := HW5.out.c2
    have y3 := HW5.out.c3
    have y4 := HW5.out.c4
    have y5 := HW5.out.c5
    have y6 := HW5.out.c6
    go_wp2_with fail
    refine (specOk_is false _ _ _ xa _ (hma) HNa.out (by omega) HFa.out HIa5.out).mono ?_
    rintro e w6 ⟨rfl, hb⟩
    have HIa6 := Lib.hid (HIa5.out.below hb)
    have HIx6 := Lib.hid (HIx5.out.below hb)
    have HW6 := Lib.hid (WBox.below HW5.out hb)
    have HD6 := Lib.hid (HD5.out.below hb)
    have HB6 := Lib.hid (below_step HB5.out HB5.out.size hb)
    clear hb HB5 HW5 HD5 y0 y1 y2 y3 y4 y5 y6 HIa5 HIx5
    have h0 : Lx = 0 := by
      rw [← HNx.out, kept_not (.inl hma)]
      rfl
    subst h0
    go_wp2
    go_ret
    exact ⟨rfl, HB6.out⟩
  cases hok : okW ⟨xk, xc, xs', xq, xv, xd, xx⟩
  · skip
    have y0 := HW5.out.c0
    have y1 := HW5.out.c1
    have y2 := HW5.out.c2
    have y3 := HW5.out.c3
    have y4 := HW5.out.c4
    have y5 := HW5.out.c5
    have y6 := HW5.out.c6
    go_wp2_with fail
    refine (specOk_is true _ _ _ xa _ (hma) HNa.out (by omega) HFa.out HIa5.out).mono ?_
    rintro e w6 ⟨rfl, hb⟩
    have HIa6 := Lib.hid (HIa5.out.below hb)
    have HIx6 := Lib.hid (HIx5.out.below hb)
    have HW6 := Lib.hid (WBox.below HW5.out hb)
    have HD6 := Lib.hid (HD5.out.below hb)
    have HB6 := Lib.hid (below_step HB5.out HB5.out.size hb)
    clear hb HB5 HW5 HD5 y0 y1 y2 y3 y4 y5 y6 HIa5 HIx5
    have y0 := HW6.out.c0
    have y1 := HW6.out.c1
    have y2 := HW6.out.c2
    have y3 := HW6.out.c3
    have y4 := HW6.out.c4
    have y5 := HW6.out.c5
    have y6 := HW6.out.c6
    go_wp2_with fail
    refine (writeOk_is false ⟨xk, xc, xs', xq, xv, xd, xx⟩ ad cpx _ (hok) hxl HD6.out).mono ?_
    rintro e w7 ⟨rfl, hb⟩
    have HIa7 := Lib.hid (HIa6.out.below hb)
    have HIx7 := Lib.hid (HIx6.out.below hb)
    have HW7 := Lib.hid (WBox.below HW6.out hb)
    have HD7 := Lib.hid (HD6.out.below hb)
    have HB7 := Lib.hid (below_step HB6.out HB6.out.size hb)
    clear hb HB6 HW6 HD6 y0 y1 y2 y3 y4 y5 y6 HIa6 HIx6
    have h0 : Lx = 0 := by
      rw [← HNx.out, kept_not (.inr hok)]
      rfl
    subst h0
    go_wp2
    go_ret
    exact ⟨rfl, HB7.out⟩
  have HL := Lib.hid (kept_laws hma hok)
  have y0 := HW5.out.c0
  have y1 := HW5.out.c1
  have y2 := HW5.out.c2
  have y3 := HW5.out.c3
  have y4 := HW5.out.c4
  have y5 := HW5.out.c5
  have y6 := HW5.out.c6
  go_wp2_with fail
  refine (specOk_is true _ _ _ xa _ (hma) HNa.out (by omega) HFa.out HIa5.out).mono ?_
  rintro e w6 ⟨rfl, hb⟩
  have HIa6 := Lib.hid (HIa5.out.below hb)
  have HIx6 := Lib.hid (HIx5.out.below hb)
  have HW6 := Lib.hid (WBox.below HW5.out hb)
  have HD6 := Lib.hid (HD5.out.below hb)
  have HB6 := Lib.hid (below_step HB5.out HB5.out.size hb)
  clear hb HB5 HW5 HD5 y0 y1 y2 y3 y4 y5 y6 HIa5 HIx5
  have y0 := HW6.out.c0
  have y1 := HW6.out.c1
  have y2 := HW6.out.c2
  have y3 := HW6.out.c3
  have y4 := HW6.out.c4
  have y5 := HW6.out.c5
  have y6 := HW6.out.c6
  go_wp2_with fail
  refine (writeOk_is true ⟨xk, xc, xs', xq, xv, xd, xx⟩ ad cpx _ (hok) hxl HD6.out).mono ?_
  rintro e w7 ⟨rfl, hb⟩
  have HIa7 := Lib.hid (HIa6.out.below hb)
  have HIx7 := Lib.hid (HIx6.out.below hb)
  have HW7 := Lib.hid (WBox.below HW6.out hb)
  have HD7 := Lib.hid (HD6.out.below hb)
  have HB7 := Lib.hid (below_step HB6.out HB6.out.size hb)
  clear hb HB6 HW6 HD6 y0 y1 y2 y3 y4 y5 y6 HIa6 HIx6
  have y0 := HW7.out.c0
  have y1 := HW7.out.c1
  have y2 := HW7.out.c2
  have y3 := HW7.out.c3
  have y4 := HW7.out.c4
  have y5 := HW7.out.c5
  have y6 := HW7.out.c6
  go_wp2_with fail
  refine (implOk_is true _ _ _ (joinB xa [⟨xk, xc, xs', xq, xv, xd, xx⟩]) _ (joinB_mapOk _ _) HNx.out (by omega) HFx.out HIx7.out).mono ?_
  rintro e w8 ⟨rfl, hb⟩
  have HIa8 := Lib.hid (HIa7.out.below hb)
  have HIx8 := Lib.hid (HIx7.out.below hb)
  have HW8 := Lib.hid (WBox.below HW7.out hb)
  have HD8 := Lib.hid (HD7.out.below hb)
  have HB8 := Lib.hid (below_step HB7.out HB7.out.size hb)
  clear hb HB7 HW7 HD7 y0 y1 y2 y3 y4 y5 y6 HIa7 HIx7
  have y0 := HW8.out.c0
  have y1 := HW8.out.c1
  have y2 := HW8.out.c2
  have y3 := HW8.out.c3
  have y4 := HW8.out.c4
  have y5 := HW8.out.c5
  have y6 := HW8.out.c6
  go_wp2_with fail
  refine (has_is true _ _ _ xk xc xs' xq (joinB xa [⟨xk, xc, xs', xq, xv, xd, xx⟩]) _ (HL.out.1) HNx.out (by omega) HIx8.out).mono ?_
  rintro e w9 ⟨rfl, hb⟩
  have HIa9 := Lib.hid (HIa8.out.below hb)
  have HIx9 := Lib.hid (HIx8.out.below hb)
  have HW9 := Lib.hid (WBox.below HW8.out hb)
  have HD9 := Lib.hid (HD8.out.below hb)
  have HB9 := Lib.hid (below_step HB8.out HB8.out.size hb)
  clear hb HB8 HW8 HD8 y0 y1 y2 y3 y4 y5 y6 HIa8 HIx8
  have HFr := Lib.hid (joinB_few (joinB xa [⟨xk, xc, xs', xq, xv, xd, xx⟩]) [⟨xk, xc, xs', xq, xv, xd, xx⟩])
  have y0 := HW9.out.c0
  have y1 := HW9.out.c1
  have y2 := HW9.out.c2
  have y3 := HW9.out.c3
  have y4 := HW9.out.c4
  have y5 := HW9.out.c5
  have y6 := HW9.out.c6
  go_wp2_with fail
  refine (put_is _ ad _ _ cpx (joinB xa [⟨xk, xc, xs', xq, xv, xd, xx⟩]) ⟨xk, xc, xs', xq, xv, xd, xx⟩ _ HNx.out (by omega) HFx.out hxl HIx9.out HD9.out).mono ?_
  rintro e w10 ⟨adr, Lr, cr, rfl, hlr, hmr, hir, hb⟩
  have HIa10 := Lib.hid (HIa9.out.below hb)
  have HIx10 := Lib.hid (HIx9.out.below hb)
  have HW10 := Lib.hid (WBox.below HW9.out hb)
  have HD10 := Lib.hid (HD9.out.below hb)
  have HB10 := Lib.hid (below_step HB9.out HB9.out.size hb)
  have HNr := Lib.hid hlr
  have HIr10 := Lib.hid hir
  clear hb HB9 HW9 HD9 y0 y1 y2 y3 y4 y5 y6 HIa9 HIx9 hlr hir
  have y0 := HW10.out.c0
  have y1 := HW10.out.c1
  have y2 := HW10.out.c2
  have y3 := HW10.out.c3
  have y4 := HW10.out.c4
  have y5 := HW10.out.c5
  have y6 := HW10.out.c6
  go_wp2_with fail
  refine (same_is true _ _ _ _ _ _ (joinB (joinB xa [⟨xk, xc, xs', xq, xv, xd, xx⟩]) [⟨xk, xc, xs', xq, xv, xd, xx⟩]) (joinB xa [⟨xk, xc, xs', xq, xv, xd, xx⟩]) _ ((same_iff _ _).2 HL.out.2.1) HNr.out HNx.out (by omega) (by omega) HFr.out HFx.out HIr10.out HIx10.out).mono ?_
  rintro e w11 ⟨rfl, hb⟩
  have HIa11 := Lib.hid (HIa10.out.below hb)
  have HIx11 := Lib.hid (HIx10.out.below hb)
  have HIr11 := Lib.hid (HIr10.out.below hb)
  have HW11 := Lib.hid (WBox.below HW10.out hb)
  have HD11 := Lib.hid (HD10.out.below hb)
  have HB11 := Lib.hid (below_step HB10.out HB10.out.size hb)
  clear hb HB10 HW10 HD10 y0 y1 y2 y3 y4 y5 y6 HIa10 HIx10 HIr10
  go_wp2
  have HLK : Hid (∀ key, key ≠ xk → findW (joinB xa [⟨xk, xc, xs', xq, xv, xd, xx⟩]) key = findW xa key) := HL.out.2.2
  clear HL
  go_loopw [6] (fun i wr => ∃ k : Nat, k ≤ 6 ∧ i = .int .i64 k ∧ Hid (IsWs wr (some ⟨g1, 0, none⟩) xa) ∧ Hid (IsWs wr adx (joinB xa [⟨xk, xc, xs', xq, xv, xd, xx⟩])) ∧ Hid (WBox wr R xk xc xs' xq xv xd ad xx.length cpx) ∧ Hid (Below w0.heap.size w0 wr)) (fun i _ => 6 - (intOf i).toNat)
  case atStart => exact ⟨0, by omega, rfl, HIa11, HIx11, HW11, HB11⟩
  case round =>
    clear HIa11 HIx11 HW11 HB11 HD11
    obtain ⟨k, hk, rfl, HIA, HIX, HWB, HBB⟩ := hrel
    by_cases hk' : k < 6
    · have i1 : (k : Int) < 6 := by omega
      go_wp2_with fail
      refine (implMapAt_any _ n1 cp1 k xa _ HNa.out (by omega) HFa.out HIA.out).mono ?_
      rintro e u1 ⟨v, rfl, ht, hb⟩
      obtain ⟨y, one, ya, ycp, rfl, hyl, hyd, hyf⟩ := toldF HFa.out ht
      obtain ⟨yk, yc, ys, yq, yv, yd, yx⟩ := y
      simp only at hyl hyd
      have HYF := Lib.hid hyf
      have HBA : Hid (Below u1.heap.size u1 (u1.alloc (.cells #[.int .i64 yk, .int .i64 yc, .int .i64 ys, .int .i64 yq, .int .i64 yv, .bool yd, .slice ya yx.length ycp] 31))) := (Below.refl _ _).alloc (Nat.le_refl _) _
      have HBC := Lib.hid (below_step hb hb.size HBA.out)
      have HIA1 := Lib.hid (HIA.out.below HBC.out)
      have HIX1 := Lib.hid (HIX.out.below HBC.out)
      have HWB1 := Lib.hid (WBox.below HWB.out HBC.out)
      have HBB1 := Lib.hid (below_step HBB.out HBB.out.size HBC.out)
      have HY1 : Hid (WBox (u1.alloc (.cells #[.int .i64 yk, .int .i64 yc, .int .i64 ys, .int .i64 yq, .int .i64 yv, .bool yd, .slice ya yx.length ycp] 31)) u1.heap.size yk yc ys yq yv yd ya yx.length ycp) := WBox.start _ _ _ _ _ _ _ _ _ _ _
      have HYD1 := Lib.hid (hyd.below HBA.out)
      clear hb ht hyf hyd HIA HIX HWB HBB HBA HBC
      go_wp2_with fail
      generalize u1.alloc (.cells #[.int .i64 yk, .int .i64 yc, .int .i64 ys, .int .i64 yq, .int .i64 yv, .bool yd, .slice ya yx.length ycp] 31) = u2 at *
      refine (implMapAt_any _ Lx cx k _ _ HNx.out (by omega) HFx.out HIX1.out).mono ?_
      rintro e u3 ⟨v, rfl, ht, hb⟩
      obtain ⟨z, two, za, zcp, rfl, hzl, hzd, hzf⟩ := toldF HFx.out ht
      obtain ⟨zk, zc, zs, zq, zv, zd, zx⟩ := z
      simp only at hzl hzd
      have HZF := Lib.hid hzf
      have HBA : Hid (Below u3.heap.size u3 (u3.alloc (.cells #[.int .i64 zk, .int .i64 zc, .int .i64 zs, .int .i64 zq, .int .i64 zv, .bool zd, .slice za zx.length zcp] 31))) := (Below.refl _ _).alloc (Nat.le_refl _) _
      have HBC := Lib.hid (below_step hb hb.size HBA.out)
      have HIA2 := Lib.hid (HIA1.out.below HBC.out)
      have HIX2 := Lib.hid (HIX1.out.below HBC.out)
      have HWB2 := Lib.hid (WBox.below HWB1.out HBC.out)
      have HBB2 := Lib.hid (below_step HBB1.out HBB1.out.size HBC.out)
      have HY2 := Lib.hid (WBox.below HY1.out HBC.out)
      have HYD2 := Lib.hid (HYD1.out.below HBC.out)
      have HZ2 : Hid (WBox (u3.alloc (.cells #[.int .i64 zk, .int .i64 zc, .int .i64 zs, .int .i64 zq, .int .i64 zv, .bool zd, .slice za zx.length zcp] 31)) u3.heap.size zk zc zs zq zv zd za zx.length zcp) := WBox.start _ _ _ _ _ _ _ _ _ _ _
      have HZD2 := Lib.hid (hzd.below HBA.out)
      clear hb ht hzf hzd HIA1 HIX1 HWB1 HBB1 HY1 HYD1 HBA HBC
      go_upto_region 16 with fail
      generalize u3.alloc (.cells #[.int .i64 zk, .int .i64 zc, .int .i64 zs, .int .i64 zq, .int .i64 zv, .bool zd, .slice za zx.length zcp] 31) = u4 at *
      generalize u3.heap.size = b3 at *
      generalize u1.heap.size = b1 at *
      have y0 := HWB2.out.c0
      by_cases hkx : (k : Int) = xk
      · have hne : ((k : Int) != xk) = false := by simp [hkx]
        go_wp2
        exact ⟨⟨k + 1, by omega, by go_num, HIA2, HIX2, HWB2, HBB2⟩, by simp [intOf]; omega⟩
      · have hne : ((k : Int) != xk) = true := by rw [bne_iff_ne]; exact hkx
        have HEQ := Lib.hid (HZF.out.symm.trans ((HLK.out k hkx).trans HYF.out))
        clear hkx HYF HZF
        cases one <;> cases two
        · clear HEQ
          go_wp2
          exact ⟨⟨k + 1, by omega, by go_num, HIA2, HIX2, HWB2, HBB2⟩, by simp [intOf]; omega⟩
        · have h := HEQ.out
          simp at h
        · have h := HEQ.out
          simp at h
        · have h := HEQ.out
          simp only [if_true, Option.some.injEq, Wr.mk.injEq] at h
          obtain ⟨rfl, rfl, rfl, rfl, rfl, rfl, rfl⟩ := h
          have hw : wcmp zk zc zs zq zv zd zx zk zc zs zq zv zd zx = 0 := cmpW_self ⟨zk, zc, zs, zq, zv, zd, zx⟩
          have HCW := Lib.hid (specWriteCmp_gen zk zc zs zq zv zd ya zx zx.length ycp zk zc zs zq zv zd za zx zx.length zcp u4 rfl rfl hzl hzl HYD2.out HZD2.out)
          rw [hw] at HCW
          clear hw HEQ
          obtain ⟨-, p0, p1, p2, p3, p4, p5, p6, -⟩ := HY2.out
          obtain ⟨-, q0, q1, q2, q3, q4, q5, q6, -⟩ := HZ2.out
          go_wp2_with fail
          refine HCW.out.mono ?_
          rintro e u5 ⟨rfl, hb⟩
          have HIA3 := Lib.hid (HIA2.out.below hb)
          have HIX3 := Lib.hid (HIX2.out.below hb)
          have HWB3 := Lib.hid (WBox.below HWB2.out hb)
          have HBB3 := Lib.hid (below_step HBB2.out HBB2.out.size hb)
          clear hb p0 p1 p2 p3 p4 p5 p6 q0 q1 q2 q3 q4 q5 q6
          go_wp2
          exact ⟨⟨k + 1, by omega, by go_num, HIA3, HIX3, HWB3, HBB3⟩, by simp [intOf]; omega⟩
    · have hkk : k = 6 := by omega
      subst hkk
      go_wp2
      go_ret
      exact ⟨rfl, HBB.out⟩

theorem walk (a : Option Addr) (len cap : Nat) (w : World) (hr : len ≤ maxLen ∧ Bytes w a len) :
    Calls Try.prog 5 #[.slice a len cap] w fun e w' => e = .returned (.bool true) ∧ Below w.heap.size w w' := by
  by_cases h : 1048576 < len
  · exact walk_big a len cap w hr.1 h
  · exact walk_small a len cap w hr.2 (by omega)

set_option maxRecDepth 100000 in
theorem lifted (os : Os) (started : os.Started) (H : Type) (enc : TypeId × Value → H) :
    ReturnsInHanded {} Try.checked os 5 .any (Rows.fnMapKeptSpec.pre6 enc Try.prog Try.f5 Rows.fnMapKeptRow.domain false) (Rows.fnMapKeptSpec.post enc Try.prog Try.f5 false true false false) := by
  refine returnsInHanded_of_change (C := Try.checked) own started (by kernel_rfl) Try.func5
    (ChangeSpec.witness6 (enc := enc) (C := Try.checked) false ⟨#[], #[.slice none 0 0], []⟩ 8 (by kernel_rfl) (by kernel_rfl) (by kernel_rfl) (by kernel_rfl)) ?_
  intro W base args ds gs before hval0 hW hcnd _
  have hval : ∀ (j : Nat) t v, Try.f5.params[j]? = some t → args[j]? = some v → Value.okWide Try.prog W .any base t v := hval0
  have hW' := hW
  obtain ⟨p, q, hA0, hV, rfl, hfz, hnd⟩ := hW
  have hA : DataW.TrodAll enc Try.prog W 0 (fun _ => true) true Try.f5.params.toList args.toList ds p := hA0
  rw [Try.params5] at hA hval
  obtain ⟨v0, d0, rfl, rfl, h0⟩ := trodAll_one hA
  have k0 := h0
  have lt0 : ∀ x ∈ p, x.block < W.heap.size := by obtain ⟨m, hm⟩ := k0; exact DataW.trod_lt m _ _ _ hm
  obtain ⟨rfl, rfl⟩ := trodVars_none hV
  obtain ⟨a0, len0, cap0, hv0, hr0⟩ := open_bytes (hval 0 22 v0 rfl rfl) h0
  subst hv0
  clear hA0 hval0
  refine (walk a0 len0 cap0 W hr0).mono fun e W' ⟨he, bel⟩ => ?_
  subst he
  exact ⟨_, rfl, _, _, _, [], _, [], hW', trodAll_mk1 (shut_bool Try.underlying4 _), (trodAll_mk1 (Below.trod laidOut (by kernel_rfl) (of_decide_eq_true (by kernel_rfl)) k0 bel lt0)), rfl, bel.frame _, fun h => by cases h⟩

theorem over : Rows.fnMapKeptRow.holds Try.pinned (OpenSpec.ofChange Rows.fnMapKeptSpec) :=
  OpenClaim.holds_of_wide 5 Try.f5 rfl rfl rfl rfl rfl rfl rfl ⟨rfl, rfl, rfl, rfl, rfl⟩ rfl rfl rfl rfl rfl (by kernel_rfl) Try.func5 (by kernel_rfl)
    (of_decide_eq_true (by kernel_rfl)) (by unfold Func.isWrapper; rw [if_neg (by decide +kernel)]; exact ⟨rfl, rfl⟩)
    (fun os started H enc _ => lifted os started H enc)

end Go.Proofs.Ytidpcjcnhklmpab.lawFnMapKept
namespace Go.Proofs.Ytidpcjcnhklmpab
theorem fnMapKept_holds : Rows.FnMapKeptSaid := lawFnMapKept.over
#print axioms fnMapKept_holds
end Go.Proofs.Ytidpcjcnhklmpab
