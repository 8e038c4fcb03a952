/- At every two codes the law FnWithin answers true: of drawn maps, within is an order. No conditions. -/
import Derived.Test.YtidpcjcnhklmpabPack11
import Derived.Test.YtidpcjcnhklmpabPack12
namespace Go.Proofs.Ytidpcjcnhklmpab.lawFnWithin
open Go.ChangeShapes Go.WideShapes Go.ChangeAt Go.RowKit Go.Joins
attribute [local go_sem ↓] Go.wp_at_zero Go.wp_at_succ

theorem big_is (a : Option Addr) (len cap : Nat) (r : Bool) (h : decide (1048576 < len) = r) (hm : len ≤ maxLen) (w : World) :
    Calls Try.prog 7 #[.slice a len cap] w fun e w' => e = .returned (.bool r) ∧ w' = w := by
  unfold maxLen at hm
  cases r
  · have h' : len ≤ 1048576 := by simpa using h
    clear h
    go_enter Try.func7, Try.ntmps7
    go_wp2
    go_ret
    exact ⟨by simp; omega, rfl⟩
  · have h' : 1048576 < len := by simpa using h
    clear h
    go_enter Try.func7, Try.ntmps7
    go_wp2
    go_ret
    exact ⟨by simp; omega, rfl⟩

theorem open_bytes {H : Type} {enc : TypeId × Value → H} {w : World} {base b0 : Nat} {held : Bool} {r : Go.Reach} {v : Value} {d : DataW H} {p : List MemPlace} (hv : Value.okWide Try.prog w r b0 22 v) (h : DataW.Trod enc Try.prog w base (fun _ => true) held 22 v d p) :
    ∃ (a : Option Addr) (len cap : Nat), v = .slice a len cap ∧ (len ≤ maxLen ∧ Bytes w a len) := by
  obtain ⟨a, len, cap, rfl⟩ := okWide_slice Try.underlying22 hv
  obtain ⟨fuel, hf⟩ := h
  refine ⟨a, len, cap, rfl, ?_⟩
  rcases open_ints Try.underlying22 Try.underlying5 (by kernel_rfl) hf with ⟨hcs, _⟩ | ⟨x, l, c, zs, hcs, _, hl, hm, hz, _, hcell, hwz⟩
  · simp [Value.cells] at hcs
    obtain ⟨rfl, rfl, rfl⟩ := hcs
    exact ⟨Nat.zero_le _, .inl rfl⟩
  · simp [Value.cells] at hcs
    obtain ⟨rfl, rfl, rfl⟩ := hcs
    refine ⟨by omega, ?_⟩
    by_cases h0 : len = 0
    · exact .inl h0
    · have hzl : zs.length = cap := by simpa using hz
      have hx : x = ⟨x.block, x.off, none⟩ := by
        have h1 := hcell 0 (by omega)
        simp [Addr.add] at h1
        cases x with
        | mk b o s =>
          cases s with
          | none => rfl
          | some s =>
            simp only [World.cell?] at h1
            split at h1 <;> simp at h1
      refine .inr ⟨x.block, x.off, by rw [← hx], ?_, fun i hi => ?_⟩
      · have h1 := hcell 0 (by omega)
        have := World.block_lt_of_cell? w _ h1
        simpa [Addr.add] using this
      · have h1 := hcell i (by omega)
        have hw : (Lit.int .u8 (zs.getD i 0)).wf = true := hwz _ (by rw [List.getD_eq_getElem?_getD, List.getElem?_eq_getElem (by omega)]; exact List.getElem_mem _)
        have hb := bounds_u8 hw
        refine ⟨zs.getD i 0, hb.1, hb.2, ?_⟩
        rw [hx] at h1
        have e : (Addr.mk x.block x.off none).add i = ⟨x.block, x.off + i, none⟩ := by
          unfold Addr.add
          split
          · rename_i h
            rw [h]
            rfl
          · rfl
        rw [e] at h1
        exact h1

set_option maxHeartbeats 1000000 in
theorem walk_big (a : Option Addr) (len cap : Nat) (a' : Option Addr) (len' cap' : Nat) (w : World) (hm : len ≤ maxLen) (hm' : len' ≤ maxLen) (h : 1048576 < len ∨ 1048576 < len') :
    Calls Try.prog 6 #[.slice a len cap, .slice a' len' cap'] w fun e w' => e = .returned (.bool true) ∧ Below w.heap.size w w' := by
  by_cases h1 : 1048576 < len
  · have d1 : decide (1048576 < len) = true := by simpa using h1
    clear h h1
    go_enter Try.func6, Try.ntmps6
    go_wp2_with (go_at_call 7; refine (big_is _ _ _ true d1 hm _).mono ?_; rintro e w1 ⟨rfl, rfl⟩)
    go_ret
    exact ⟨rfl, Below.refl _ _⟩
  · have d1 : decide (1048576 < len) = false := by simpa using h1
    have d2 : decide (1048576 < len') = true := by simp; omega
    clear h h1
    go_enter Try.func6, Try.ntmps6
    go_wp2_with fail
    refine (big_is _ _ _ false d1 hm _).mono ?_
    rintro e w1 ⟨rfl, rfl⟩
    go_wp2_with fail
    refine (big_is _ _ _ true d2 hm' _).mono ?_
    rintro e w2 ⟨rfl, rfl⟩
    go_wp2
    go_ret
    exact ⟨rfl, Below.refl _ _⟩

set_option maxRecDepth 100000 in
set_option maxHeartbeats 8000000 in
theorem walk_small (a : Option Addr) (len cap : Nat) (a' : Option Addr) (len' cap' : Nat) (w : World) (hy : Bytes w a len) (hy' : Bytes w a' len') (hl : len ≤ 1048576) (hl' : len' ≤ 1048576) :
    Calls Try.prog 6 #[.slice a len cap, .slice a' len' cap'] w fun e w' => e = .returned (.bool true) ∧ Below w.heap.size w w' := by
  have HY : Hid (Bytes w a len) := hy
  have HY' : Hid (Bytes w a' len') := hy'
  have d1 : decide (1048576 < len) = false := by simp; omega
  have d2 : decide (1048576 < len') = false := by simp; omega
  clear hy hy'
  go_enter Try.func6, Try.ntmps6
  go_wp2_with fail
  refine (big_is _ _ _ false d1 (by unfold maxLen; omega) _).mono ?_
  rintro e w0 ⟨rfl, rfl⟩
  go_wp2_with fail
  refine (big_is _ _ _ false d2 (by unfold maxLen; omega) _).mono ?_
  rintro e w0' ⟨rfl, rfl⟩
  clear d1 d2
  go_wp2_with fail
  refine (drawWithin_any _ _ _ _ HY.out hl).mono ?_
  rintro e w1 ⟨v1, v2, es1, es2, rfl, ⟨g1, cp1, rfl, l1, f1, r1⟩, ⟨g2, cp2, rfl, l2, f2, r2⟩, hb1⟩
  have HX1 := Lib.hid (few_of f1)
  have HX2 := Lib.hid (few_of f2)
  have HI1 := Lib.hid ((r1.holds rfl).isWs HX1.out)
  have HI2 := Lib.hid ((r2.holds rfl).isWs HX2.out)
  have HB1 := Lib.hid hb1
  clear f1 f2 r1 r2 hb1
  go_wp2_with fail
  refine (drawWithin_any _ _ _ _ (HY'.out.below HB1.out) hl').mono ?_
  rintro e w2 ⟨v3, v4, es3, es4, rfl, ⟨g3, cp3, rfl, l3, f3, r3⟩, ⟨g4, cp4, rfl, l4, f4, r4⟩, hb2⟩
  have HX3 := Lib.hid (few_of f3)
  have HI3 := Lib.hid ((r3.holds rfl).isWs HX3.out)
  have HJ1 := Lib.hid (HI1.out.below hb2)
  have HJ2 := Lib.hid (HI2.out.below hb2)
  have HB2 := Lib.hid (below_step HB1.out HB1.out.size hb2)
  clear f3 r3 f4 r4 hb2 HI1 HI2 HB1 HY HY'
  have HN1 : Hid ((es1.map (·.x)).length = es1.length) := by simp [Hid]
  have HN2 : Hid ((es2.map (·.x)).length = es2.length) := by simp [Hid]
  have HN3 : Hid ((es3.map (·.x)).length = es3.length) := by simp [Hid]
  generalize es1.map (·.x) = xa at *
  generalize es2.map (·.x) = xb at *
  generalize es3.map (·.x) = xc at *
  generalize es1.length = n1 at *
  generalize es2.length = n2 at *
  generalize es3.length = n3 at *
  go_wp2_with fail
  refine (implWithin_any _ _ n1 n2 cp1 cp2 xa xb _ HN1.out HN2.out (by omega) (by omega) HX1.out HX2.out HJ1.out HJ2.out).mono ?_
  rintro e w3 ⟨rfl, hb⟩
  have HB3 := Lib.hid hb
  clear hb
  go_wp2_with fail
  refine (implWithin_any _ _ n2 n1 cp2 cp1 xb xa _ HN2.out HN1.out (by omega) (by omega) HX2.out HX1.out (HJ2.out.below HB3.out) (HJ1.out.below HB3.out)).mono ?_
  rintro e w4 ⟨rfl, hb⟩
  have HB4 := Lib.hid (below_step HB3.out HB3.out.size hb)
  clear hb HB3
  go_wp2_with fail
  refine (specWithin_gen _ _ n1 n2 cp1 cp2 xa xb _ HN1.out HN2.out (by omega) HX1.out HX2.out (HJ1.out.below HB4.out) (HJ2.out.below HB4.out)).mono ?_
  rintro e w5 ⟨rfl, hb⟩
  have HB5 := Lib.hid (below_step HB4.out HB4.out.size hb)
  clear hb HB4
  have HLW := Lib.hid (within_law xa xb xc)
  have HSF := Lib.hid (within_self xa)
  obtain ⟨x, hx⟩ : ∃ x, withinB xa xb = x := ⟨_, rfl⟩
  obtain ⟨y, hy⟩ : ∃ y, withinB xb xa = y := ⟨_, rfl⟩
  obtain ⟨m, hm⟩ : ∃ m, mapOkB xa = m := ⟨_, rfl⟩
  rw [hx, hy] at HLW
  rw [hx, hy]
  rw [hm] at HSF
  clear hx hy
  go_wp2_with fail
  refine (implWithin_any _ _ n1 n1 cp1 cp1 xa xa _ HN1.out HN1.out (by omega) (by omega) HX1.out HX1.out (HJ1.out.below HB5.out) (HJ1.out.below HB5.out)).mono ?_
  rintro e w6 ⟨rfl, hb⟩
  have HB6 := Lib.hid (below_step HB5.out HB5.out.size hb)
  clear hb HB5
  rw [HSF.out]
  go_wp2_with fail
  refine (specMapOk_gen _ n1 cp1 xa _ HN1.out (by omega) HX1.out (HJ1.out.below HB6.out)).mono ?_
  rintro e w7 ⟨rfl, hb⟩
  have HB7 := Lib.hid (below_step HB6.out HB6.out.size hb)
  clear hb HB6
  rw [hm]
  clear hm HSF
  have HC7 : Hid (∀ wk, Below w2.heap.size w2 wk → Calls Try.prog 15 #[.slice (some ⟨g2, 0, none⟩) n2 cp2, .slice (some ⟨g3, 0, none⟩) n3 cp3] wk fun e w' => ∃ v es, e = .returned v ∧ es.map (·.x) = joinB xb xc ∧ RowG w' wk.heap.size v es ∧ Below wk.heap.size wk w') := fun wk hb =>
    implMapJoin_any _ _ n2 n3 cp2 cp3 xb xc _ HN2.out HN3.out (by omega) (by omega) HX2.out HX3.out (HJ2.out.below hb) (HI3.out.below hb)
  have HCS : Hid (∀ wk, Below w2.heap.size w2 wk → Calls Try.prog 16 #[.slice (some ⟨g1, 0, none⟩) n1 cp1, .slice (some ⟨g2, 0, none⟩) n2 cp2] wk fun e w' => e = .returned (.bool (sameB xa xb)) ∧ Below wk.heap.size wk w') := fun wk hb =>
    sameWrites_gen _ _ n1 n2 cp1 cp2 xa xb _ HN1.out HN2.out (by omega) (by omega) HX1.out HX2.out (HJ1.out.below hb) (HJ2.out.below hb)
  have HCM : Hid (∀ wk, Below w2.heap.size w2 wk → Calls Try.prog 18 #[.slice (some ⟨g3, 0, none⟩) n3 cp3] wk fun e w' => e = .returned (.bool (mapOkB xc)) ∧ Below wk.heap.size wk w') := fun wk hb =>
    specMapOk_gen _ n3 cp3 xc _ HN3.out (by omega) HX3.out (HI3.out.below hb)
  have HCW : Hid (∀ (ad : Option Addr) (L cpd : Nat) wk, Below w2.heap.size w2 wk → (joinB xb xc).length = L → IsWs wk ad (joinB xb xc) → Calls Try.prog 20 #[.slice (some ⟨g1, 0, none⟩) n1 cp1, .slice ad L cpd] wk fun e w' => e = .returned (.bool (withinB xa (joinB xb xc))) ∧ Below wk.heap.size wk w') := fun ad L cpd wk hb h1 h2 =>
    implWithin_any _ _ n1 L cp1 cpd xa _ _ HN1.out h1 (by omega) (by have := joinB_len xb xc; omega) HX1.out (joinB_few _ _) (HJ1.out.below hb) h2
  have HJF := Lib.hid (And.intro (joinB_few xb xc) (joinB_len xb xc))
  clear HX1 HX2 HX3 HI3 HJ1 HJ2 HN1 HN2 HN3
  cases x
  · -- not within: the rest is asked nothing
    cases m <;> cases y <;>
    · go_wp2_with fail
      refine (HC7.out _ HB7.out).mono ?_
      rintro e w8 ⟨v, es, rfl, -, -, hb⟩
      have HB8 := Lib.hid (below_step HB2.out HB2.out.size (below_step HB7.out HB7.out.size hb))
      clear hb
      go_wp2
      go_ret
      exact ⟨rfl, HB8.out⟩
  · have HW2 : Hid (mapOkB xc = true → withinB xa (joinB xb xc) = true) := HLW.out.2 rfl
    cases y
    · cases m <;>
      ·
        go_wp2_with fail
        refine (HC7.out _ HB7.out).mono ?_
        rintro e w8 ⟨v, es, rfl, he, hr, hb⟩
        have HB8 := Lib.hid (below_step HB7.out HB7.out.size hb)
        obtain ⟨ad, cpd, hv, -⟩ := hr.form
        subst hv
        have HLE : Hid ((joinB xb xc).length = es.length) := by rw [← he]; simp [Hid]
        have HIW : Hid (IsWs w8 ad (joinB xb xc)) := by
          have h := hr.isWs (by rw [he]; exact HJF.out.1)
          rw [he] at h
          exact h
        clear he hr hb
        cases hmc : mapOkB xc
        · rw [hmc] at HCM
          go_wp2_with fail
          refine (HCM.out _ HB8.out).mono ?_
          rintro e w9 ⟨rfl, hb⟩
          have HB9 := Lib.hid (below_step HB2.out HB2.out.size (below_step HB8.out HB8.out.size hb))
          clear hb
          go_wp2
          go_ret
          exact ⟨rfl, HB9.out⟩
        · have HWT := Lib.hid (HW2.out hmc)
          rw [hmc] at HCM
          go_wp2_with fail
          refine (HCM.out _ HB8.out).mono ?_
          rintro e w9 ⟨rfl, hb⟩
          have HB9 := Lib.hid (below_step HB8.out HB8.out.size hb)
          have HIW9 := Lib.hid (HIW.out.below hb)
          clear hb
          go_wp2_with fail
          refine (HCW.out ad es.length cpd _ HB9.out HLE.out HIW9.out).mono ?_
          rintro e w10 ⟨rfl, hb⟩
          have HB10 := Lib.hid (below_step HB2.out HB2.out.size (below_step HB9.out HB9.out.size hb))
          clear hb
          rw [HWT.out]
          go_wp2
          go_ret
          exact ⟨rfl, HB10.out⟩
    · have HSM := Lib.hid (HLW.out.1 rfl rfl)
      rw [HSM.out] at HCS
      cases m <;>
      · go_wp2_with fail
        refine (HCS.out _ HB7.out).mono ?_
        rintro e w7' ⟨rfl, hb⟩
        have HB7' := Lib.hid (below_step HB7.out HB7.out.size hb)
        clear hb
        go_wp2_with fail
        refine (HC7.out _ HB7'.out).mono ?_
        rintro e w8 ⟨v, es, rfl, he, hr, hb⟩
        have HB8 := Lib.hid (below_step HB7'.out HB7'.out.size hb)
        obtain ⟨ad, cpd, hv, -⟩ := hr.form
        subst hv
        have HLE : Hid ((joinB xb xc).length = es.length) := by rw [← he]; simp [Hid]
        have HIW : Hid (IsWs w8 ad (joinB xb xc)) := by
          have h := hr.isWs (by rw [he]; exact HJF.out.1)
          rw [he] at h
          exact h
        clear he hr hb
        cases hmc : mapOkB xc
        · rw [hmc] at HCM
          go_wp2_with fail
          refine (HCM.out _ HB8.out).mono ?_
          rintro e w9 ⟨rfl, hb⟩
          have HB9 := Lib.hid (below_step HB2.out HB2.out.size (below_step HB8.out HB8.out.size hb))
          clear hb
          go_wp2
          go_ret
          exact ⟨rfl, HB9.out⟩
        · have HWT := Lib.hid (HW2.out hmc)
          rw [hmc] at HCM
          go_wp2_with fail
          refine (HCM.out _ HB8.out).mono ?_
          rintro e w9 ⟨rfl, hb⟩
          have HB9 := Lib.hid (below_step HB8.out HB8.out.size hb)
          have HIW9 := Lib.hid (HIW.out.below hb)
          clear hb
          go_wp2_with fail
          refine (HCW.out ad es.length cpd _ HB9.out HLE.out HIW9.out).mono ?_
          rintro e w10 ⟨rfl, hb⟩
          have HB10 := Lib.hid (below_step HB2.out HB2.out.size (below_step HB9.out HB9.out.size hb))
          clear hb
          rw [HWT.out]
          go_wp2
          go_ret
          exact ⟨rfl, HB10.out⟩

theorem walk (a : Option Addr) (len cap : Nat) (a' : Option Addr) (len' cap' : Nat) (w : World) (hr : len ≤ maxLen ∧ Bytes w a len) (hr' : len' ≤ maxLen ∧ Bytes w a' len') :
    Calls Try.prog 6 #[.slice a len cap, .slice a' len' cap'] w fun e w' => e = .returned (.bool true) ∧ Below w.heap.size w w' := by
  by_cases h : 1048576 < len ∨ 1048576 < len'
  · exact walk_big a len cap a' len' cap' w hr.1 hr'.1 h
  · exact walk_small a len cap a' len' cap' w hr.2 hr'.2 (by omega) (by omega)

set_option maxRecDepth 100000 in
theorem lifted (os : Os) (started : os.Started) (H : Type) (enc : TypeId × Value → H) :
    ReturnsInHanded {} Try.checked os 6 .any (Rows.fnWithinSpec.pre6 enc Try.prog Try.f6 Rows.fnWithinRow.domain false) (Rows.fnWithinSpec.post enc Try.prog Try.f6 false true false false) := by
  refine returnsInHanded_of_change (C := Try.checked) own started (by kernel_rfl) Try.func6
    (ChangeSpec.witness6 (enc := enc) (C := Try.checked) false ⟨#[], #[.slice none 0 0, .slice none 0 0], []⟩ 8 (by kernel_rfl) (by kernel_rfl) (by kernel_rfl) (by kernel_rfl)) ?_
  intro W base args ds gs before hval0 hW hcnd _
  have hval : ∀ (j : Nat) t v, Try.f6.params[j]? = some t → args[j]? = some v → Value.okWide Try.prog W .any base t v := hval0
  have hW' := hW
  obtain ⟨p, q, hA0, hV, rfl, hfz, hnd⟩ := hW
  have hA : DataW.TrodAll enc Try.prog W 0 (fun _ => true) true Try.f6.params.toList args.toList ds p := hA0
  rw [Try.params6] at hA hval
  obtain ⟨v0, v1, d0, d1, p0, p1, rfl, rfl, rfl, h0, h1⟩ := trodAll_two hA
  have k0 := h0
  have lt0 : ∀ x ∈ p0, x.block < W.heap.size := by obtain ⟨m, hm⟩ := k0; exact DataW.trod_lt m _ _ _ hm
  have k1 := h1
  have lt1 : ∀ x ∈ p1, x.block < W.heap.size := by obtain ⟨m, hm⟩ := k1; exact DataW.trod_lt m _ _ _ hm
  obtain ⟨rfl, rfl⟩ := trodVars_none hV
  obtain ⟨a0, len0, cap0, hv0, hr0⟩ := open_bytes (hval 0 22 v0 rfl rfl) h0
  subst hv0
  obtain ⟨a1, len1, cap1, hv1, hr1⟩ := open_bytes (hval 1 22 v1 rfl rfl) h1
  subst hv1
  clear hA0 hval0
  refine (walk a0 len0 cap0 a1 len1 cap1 W hr0 hr1).mono fun e W' ⟨he, bel⟩ => ?_
  subst he
  exact ⟨_, rfl, _, _, _, [], _, [], hW', trodAll_mk1 (shut_bool Try.underlying4 _), (trodAll_mk2 (Below.trod laidOut (by kernel_rfl) (of_decide_eq_true (by kernel_rfl)) k0 bel lt0) (Below.trod laidOut (by kernel_rfl) (of_decide_eq_true (by kernel_rfl)) k1 bel lt1)), rfl, bel.frame _, fun h => by cases h⟩

theorem over : Rows.fnWithinRow.holds Try.pinned (OpenSpec.ofChange Rows.fnWithinSpec) :=
  OpenClaim.holds_of_wide 6 Try.f6 rfl rfl rfl rfl rfl rfl rfl ⟨rfl, rfl, rfl, rfl, rfl⟩ rfl rfl rfl rfl rfl (by kernel_rfl) Try.func6 (by kernel_rfl)
    (of_decide_eq_true (by kernel_rfl)) (by unfold Func.isWrapper; rw [if_neg (by decide +kernel)]; exact ⟨rfl, rfl⟩)
    (fun os started H enc _ => lifted os started H enc)

end Go.Proofs.Ytidpcjcnhklmpab.lawFnWithin
namespace Go.Proofs.Ytidpcjcnhklmpab

theorem fnWithin_holds : Rows.FnWithinSaid := lawFnWithin.over
#print axioms fnWithin_holds
end Go.Proofs.Ytidpcjcnhklmpab
