/- At every code the law FnNewest answers true: the newest of drawn writes of one key is one of them, and none comes behind it. No conditions. -/
import Derived.Test.YtojgahcogpediaaPack11
import Derived.Test.YtojgahcogpediaaPack12
namespace Go.Proofs.Ytojgahcogpediaa.lawFnNewest
open Go.ChangeShapes Go.WideShapes Go.ChangeAt Go.RowKit Go.Joins
attribute [local go_sem ↓] Go.wp_at_zero Go.wp_at_succ

set_option maxRecDepth 100000 in
theorem big_is (a : Option Addr) (len cap : Nat) (r : Bool) (h : decide (1048576 < len) = r) (hm : len ≤ maxLen) (w : World) :
    Calls Try.prog 25 #[.slice a len cap] w fun e w' => e = .returned (.bool r) ∧ w' = w := by
  unfold maxLen at hm
  cases r
  · have h' : len ≤ 1048576 := by simpa using h
    clear h
    go_enter Try.func25, Try.ntmps25
    go_wp2
    go_ret
    exact ⟨by simp; omega, rfl⟩
  · have h' : 1048576 < len := by simpa using h
    clear h
    go_enter Try.func25, Try.ntmps25
    go_wp2
    go_ret
    exact ⟨by simp; omega, rfl⟩

set_option maxRecDepth 100000 in
theorem open_bytes {H : Type} {enc : TypeId × Value → H} {w : World} {base b0 : Nat} {held : Bool} {r : Go.Reach} {v : Value} {d : DataW H} {p : List MemPlace} (hv : Value.okWide Try.prog w r b0 53 v) (h : DataW.Trod enc Try.prog w base (fun _ => true) held 53 v d p) :
    ∃ (a : Option Addr) (len cap : Nat), v = .slice a len cap ∧ (len ≤ maxLen ∧ Bytes w a len) := by
  obtain ⟨a, len, cap, rfl⟩ := okWide_slice Try.underlying53 hv
  obtain ⟨fuel, hf⟩ := h
  refine ⟨a, len, cap, rfl, ?_⟩
  rcases open_ints Try.underlying53 Try.underlying5 (by kernel_rfl) hf with ⟨hcs, _⟩ | ⟨x, l, c, zs, hcs, _, hl, hm, hz, _, hcell, hwz⟩
  · simp [Value.cells] at hcs
    obtain ⟨rfl, rfl, rfl⟩ := hcs
    exact ⟨Nat.zero_le _, .inl rfl⟩
  · simp [Value.cells] at hcs
    obtain ⟨rfl, rfl, rfl⟩ := hcs
    refine ⟨by omega, ?_⟩
    by_cases h0 : len = 0
    · exact .inl h0
    · have hzl : zs.length = cap := by simpa using hz
      have hx : x = ⟨x.block, x.off, none⟩ := by
        have h1 := hcell 0 (by omega)
        simp [Addr.add] at h1
        cases x with
        | mk b o s =>
          cases s with
          | none => rfl
          | some s =>
            simp only [World.cell?] at h1
            split at h1 <;> simp at h1
      refine .inr ⟨x.block, x.off, by rw [← hx], ?_, fun i hi => ?_⟩
      · have h1 := hcell 0 (by omega)
        have := World.block_lt_of_cell? w _ h1
        simpa [Addr.add] using this
      · have h1 := hcell i (by omega)
        have hw : (Lit.int .u8 (zs.getD i 0)).wf = true := hwz _ (by rw [List.getD_eq_getElem?_getD, List.getElem?_eq_getElem (by omega)]; exact List.getElem_mem _)
        have hb := bounds_u8 hw
        refine ⟨zs.getD i 0, hb.1, hb.2, ?_⟩
        rw [hx] at h1
        have e : (Addr.mk x.block x.off none).add i = ⟨x.block, x.off + i, none⟩ := by
          unfold Addr.add
          split
          · rename_i h
            rw [h]
            rfl
          · rfl
        rw [e] at h1
        exact h1

set_option maxRecDepth 100000 in
set_option maxHeartbeats 1000000 in
theorem walk_big (a : Option Addr) (len cap : Nat) (w : World) (hm : len ≤ maxLen) (h : 1048576 < len) :
    Calls Try.prog 6 #[.slice a len cap] w fun e w' => e = .returned (.bool true) ∧ Below w.heap.size w w' := by
  have d1 : decide (1048576 < len) = true := by simpa using h
  clear h
  go_enter Try.func6, Try.ntmps6
  go_wp2_with (go_at_call 25; refine (big_is _ _ _ true d1 hm _).mono ?_; rintro e w1 ⟨rfl, rfl⟩)
  go_ret
  exact ⟨rfl, Below.refl _ _⟩

set_option maxRecDepth 100000 in
set_option maxHeartbeats 8000000 in
theorem walk_small (a : Option Addr) (len cap : Nat) (w : World) (hy : Bytes w a len) (hl : len ≤ 1048576) :
    Calls Try.prog 6 #[.slice a len cap] w fun e w' => e = .returned (.bool true) ∧ Below w.heap.size w w' := by
  have HY : Hid (Bytes w a len) := hy
  have d1 : decide (1048576 < len) = false := by simp; omega
  clear hy
  go_enter Try.func6, Try.ntmps6
  go_wp2_with fail
  refine (big_is _ _ _ false d1 (by unfold maxLen; omega) _).mono ?_
  rintro e w0 ⟨rfl, rfl⟩
  clear d1
  go_wp2_with fail
  refine (drawNewest_any _ _ _ _ HY.out hl).mono ?_
  rintro e w1 ⟨v1, es1, rfl, ⟨g1, cp1, rfl, l1, f1, r1⟩, hb1⟩
  have HX := Lib.hid (few_of f1)
  have HI := Lib.hid ((r1.holds rfl).isWs HX.out)
  have HB1 := Lib.hid hb1
  clear f1 r1 hb1 HY
  have HN : Hid ((es1.map (·.x)).length = es1.length) := by simp [Hid]
  generalize es1.map (·.x) = xa at *
  generalize es1.length = n1 at *
  go_wp2_with fail
  refine (implNewest_any _ n1 cp1 xa _ HN.out (by omega) HX.out HI.out).mono ?_
  rintro e w2 ⟨x, ok, ad, g, cp, rfl, hg, hnew, hb⟩
  have HNEW := Lib.hid hnew
  have hxl := new_len HX.out hnew
  have HD2 := Lib.hid hg.isDeps
  have HI2 := Lib.hid (HI.out.below hb)
  have HB2 := Lib.hid (below_step HB1.out HB1.out.size hb)
  clear hb hnew hg HI HB1
  obtain ⟨xk, xc, xs', xq, xv, xd, xx⟩ := x
  simp only at hxl HD2
  have HBA : Hid (Below w2.heap.size w2 (w2.alloc (.cells #[.int .i64 xk, .int .i64 xc, .int .i64 xs', .int .i64 xq, .int .i64 xv, .bool xd, .slice ad xx.length cp] 41))) := (Below.refl _ _).alloc (Nat.le_refl _) _
  go_wp2_with fail
  refine (specNewest_any _ n1 cp1 xa _ HN.out (by omega) HX.out (HI2.out.below HBA.out)).mono ?_
  rintro e w3 ⟨y, ok', as_, cs, rfl, hs, hnew, hb⟩
  obtain ⟨rfl, rfl⟩ := new_same HNEW.out hnew
  have HX3 : Hid (NBox w3 w2.heap.size xk xc xs' xq xv xd ad xx.length cp) := (NBox.start w2 xk xc xs' xq xv xd ad xx.length cp _).step hb
  have hbb := Lib.hid (below_step HBA.out HBA.out.size hb)
  have HD3 := Lib.hid (HD2.out.below hbb.out)
  have HI3 := Lib.hid (HI2.out.below hbb.out)
  have HB3 := Lib.hid (below_step HB2.out HB2.out.size hbb.out)
  have HS3 : Hid (IsDeps w3 as_ xx) := hs
  clear hb hbb hnew hs HD2 HI2 HB2 HBA
  have HBA : Hid (Below w3.heap.size w3 (w3.alloc (.cells #[.int .i64 xk, .int .i64 xc, .int .i64 xs', .int .i64 xq, .int .i64 xv, .bool xd, .slice as_ xx.length cs] 41))) := (Below.refl _ _).alloc (Nat.le_refl _) _
  have s0 := HX3.out.c0
  have s1 := HX3.out.c1
  have s2 := HX3.out.c2
  have s3 := HX3.out.c3
  have s4 := HX3.out.c4
  have s5 := HX3.out.c5
  have s6 := HX3.out.c6
  have hlt := HX3.out.lt
  go_wp2_with fail
  refine (specWriteCmp_gen xk xc xs' xq xv xd ad xx _ cp xk xc xs' xq xv xd as_ xx _ cs _ rfl rfl hxl hxl (HD3.out.below HBA.out) (HS3.out.below HBA.out)).mono ?_
  rintro e w4 ⟨rfl, hb⟩
  rw [show wcmp xk xc xs' xq xv xd xx xk xc xs' xq xv xd xx = 0 from cmpW_self ⟨xk, xc, xs', xq, xv, xd, xx⟩]
  have hbb := Lib.hid (below_step HBA.out HBA.out.size hb)
  have HX4 := Lib.hid (HX3.out.step hbb.out)
  have HD4 := Lib.hid (HD3.out.below hbb.out)
  have HI4 := Lib.hid (HI3.out.below hbb.out)
  have HB4 := Lib.hid (below_step HB3.out HB3.out.size hbb.out)
  clear hb hbb HX3 HD3 HI3 HB3 HS3 HBA s0 s1 s2 s3 s4 s5 s6 hlt
  have s0 := HX4.out.c0
  have s1 := HX4.out.c1
  have s2 := HX4.out.c2
  have s3 := HX4.out.c3
  have s4 := HX4.out.c4
  have s5 := HX4.out.c5
  have s6 := HX4.out.c6
  cases ok
  · obtain ⟨-, hx0, -⟩ : ¬ OneKey xa ∧ (⟨xk, xc, xs', xq, xv, xd, xx⟩ : Wr) = wz ∧ false = false := by
      rcases HNEW.out with ⟨-, -, h⟩ | h
      · cases h
      · exact h
    unfold wz at hx0
    injection hx0 with h1 h2 h3 h4 h5 h6 h7
    subst h1 h2 h3 h4 h5 h6 h7
    go_wp2
    go_ret
    exact ⟨rfl, HB4.out⟩
  · obtain ⟨h1k, hx0, -⟩ : OneKey xa ∧ (⟨xk, xc, xs', xq, xv, xd, xx⟩ : Wr) = newAt xa xa.length ∧ true = true := by
      rcases HNEW.out with h | ⟨-, -, h⟩
      · exact h
      · cases h
    have HNONE : Hid (∀ j, j < n1 → cmpW (xa.getD j wz) ⟨xk, xc, xs', xq, xv, xd, xx⟩ ≤ 0) := fun j hj => by
      rw [hx0]
      exact new_none xa xa.length (Nat.le_refl _) j (by rw [HN.out]; exact hj)
    have HHAS : Hid (hasL xa ⟨xk, xc, xs', xq, xv, xd, xx⟩ = true) := by
      obtain ⟨j, hj, e⟩ := newAt_mem xa h1k.1 xa.length (Nat.le_refl _)
      exact hasL_hit hj (by rw [hx0, e]; exact cmpW_self _)
    clear h1k hx0 HNEW
    go_wp2
    go_loopw [8] (fun i wr => ∃ k : Nat, k ≤ n1 ∧ i = .int .i64 k ∧ Hid (Below w4.heap.size w4 wr)) (fun i _ => n1 - (intOf i).toNat)
    case atStart => exact ⟨0, Nat.zero_le _, rfl, Below.refl _ _⟩
    case round =>
      obtain ⟨k, hk, rfl, HB⟩ := hrel
      have HXr := Lib.hid (HX4.out.step HB.out)
      have HBW := Lib.hid (below_step HB4.out HB4.out.size HB.out)
      by_cases hk' : k < n1
      · have i1 : (0 : Int) ≤ (k : Int) := by omega
        have i2 : (k : Int) < (n1 : Int) := by omega
        obtain ⟨b, o, ad2, cp2, he, hz, ⟨e0, e1, e2, e3, e4, e5, e6⟩, hde⟩ := HI4.out.at HB.out HN.out hk'
        injection he with he
        injection he with e8 e9
        subst e8 e9
        have hyl := HX.out k (by rw [HN.out]; exact hk')
        have HZ0 := Lib.hid (HNONE.out k hk')
        have HDY := Lib.hid hde
        clear hde
        generalize xa.getD k wz = y at *
        obtain ⟨yk, yc, ys, yq, yv, yd, yy⟩ := y
        simp only at e0 e1 e2 e3 e4 e5 e6 hyl HDY
        simp only [Nat.zero_add] at e0 e1 e2 e3 e4 e5 e6
        obtain ⟨z, hz0⟩ : ∃ z, cmpW ⟨yk, yc, ys, yq, yv, yd, yy⟩ ⟨xk, xc, xs', xq, xv, xd, xx⟩ = z := ⟨_, rfl⟩
        have hz1 : ¬ 0 < z := by have := HZ0.out; rw [hz0] at this; omega
        have HC : Hid (∀ p : Aft wr.heap.size wr, Calls Try.prog 28 #[wrV yk yc ys yq yv yd ad2 yy.length cp2, wrV xk xc xs' xq xv xd ad xx.length cp] p.now fun e w' => e = .returned (.int .i64 z) ∧ Below p.now.heap.size p.now w') := fun p => by
          have := implWriteCmp_gen yk yc ys yq yv yd ad2 yy _ cp2 xk xc xs' xq xv xd ad xx _ cp p.now rfl rfl hyl hxl (HDY.out.below p.below) (HD4.out.below (below_step HB.out HB.out.size p.below))
          rw [← hz0]
          exact this
        go_wp2_with fail
        have gr0 := aft_cell hz e0
        have gr1 := aft_cell hz e1
        have gr2 := aft_cell hz e2
        have gr3 := aft_cell hz e3
        have gr4 := aft_cell hz e4
        have gr5 := aft_cell hz e5
        have gr6 := aft_cell hz e6
        have gs0 := aft_cell HXr.out.lt HXr.out.c0
        have gs1 := aft_cell HXr.out.lt HXr.out.c1
        have gs2 := aft_cell HXr.out.lt HXr.out.c2
        have gs3 := aft_cell HXr.out.lt HXr.out.c3
        have gs4 := aft_cell HXr.out.lt HXr.out.c4
        have gs5 := aft_cell HXr.out.lt HXr.out.c5
        have gs6 := aft_cell HXr.out.lt HXr.out.c6
        have ne := aft_some wr
        refine wp_region_aft (by kernel_rfl) (by kernel_rfl) ?_
        repeat (first | go_big_quiet_step (first | (go_at_call 28; exact aft_of (HC.out _))))
        refine wpQuiet_nil ?_
        intro wq hq
        have HBQ := Lib.hid (below_step HB.out HB.out.size hq)
        clear hq gr0 gr1 gr2 gr3 gr4 gr5 gr6 gs0 gs1 gs2 gs3 gs4 gs5 gs6 ne HC
        go_wp2
        exact ⟨⟨k + 1, by omega, by go_num, HBQ⟩, by simp [intOf]; omega⟩
      · have hkk : k = n1 := by omega
        subst hkk
        have t0 := HXr.out.c0
        have t1 := HXr.out.c1
        have t2 := HXr.out.c2
        have t3 := HXr.out.c3
        have t4 := HXr.out.c4
        have t5 := HXr.out.c5
        have t6 := HXr.out.c6
        go_wp2_with fail
        refine (lawHas_any _ k cp1 xa ⟨xk, xc, xs', xq, xv, xd, xx⟩ ad cp _ HN.out (by omega) HX.out hxl (HI4.out.below HB.out) (HD4.out.below HB.out)).mono ?_
        rintro e w5 ⟨rfl, hb⟩
        rw [HHAS.out]
        have HBE := Lib.hid (below_step HBW.out HBW.out.size hb)
        clear hb
        go_wp2
        go_ret
        exact ⟨rfl, HBE.out⟩

set_option maxRecDepth 100000 in
theorem walk (a : Option Addr) (len cap : Nat) (w : World) (hr : len ≤ maxLen ∧ Bytes w a len) :
    Calls Try.prog 6 #[.slice a len cap] w fun e w' => e = .returned (.bool true) ∧ Below w.heap.size w w' := by
  by_cases h : 1048576 < len
  · exact walk_big a len cap w hr.1 h
  · exact walk_small a len cap w hr.2 (by omega)

set_option maxRecDepth 100000 in
theorem lifted (os : Os) (started : os.Started) (H : Type) (enc : TypeId × Value → H) :
    ReturnsInHanded {} Try.checked os 6 .any (Rows.fnNewestSpec.pre6 enc Try.prog Try.f6 Rows.fnNewestRow.domain false) (Rows.fnNewestSpec.post enc Try.prog Try.f6 false true false false) := by
  refine returnsInHanded_of_change (C := Try.checked) own started (by kernel_rfl) Try.func6
    (ChangeSpec.witness6 (enc := enc) (C := Try.checked) false ⟨#[], #[.slice none 0 0], []⟩ 8 (by kernel_rfl) (by kernel_rfl) (by kernel_rfl) (by kernel_rfl)) ?_
  intro W base args ds gs before hval0 hW hcnd _
  have hval : ∀ (j : Nat) t v, Try.f6.params[j]? = some t → args[j]? = some v → Value.okWide Try.prog W .any base t v := hval0
  have hW' := hW
  obtain ⟨p, q, hA0, hV, rfl, hfz, hnd⟩ := hW
  have hA : DataW.TrodAll enc Try.prog W 0 (fun _ => true) true Try.f6.params.toList args.toList ds p := hA0
  rw [Try.params6] at hA hval
  obtain ⟨v0, d0, rfl, rfl, h0⟩ := trodAll_one hA
  have k0 := h0
  have lt0 : ∀ x ∈ p, x.block < W.heap.size := by obtain ⟨m, hm⟩ := k0; exact DataW.trod_lt m _ _ _ hm
  obtain ⟨rfl, rfl⟩ := trodVars_none hV
  obtain ⟨a0, len0, cap0, hv0, hr0⟩ := open_bytes (hval 0 53 v0 rfl rfl) h0
  subst hv0
  clear hA0 hval0
  refine (walk a0 len0 cap0 W hr0).mono fun e W' ⟨he, bel⟩ => ?_
  subst he
  exact ⟨_, rfl, _, _, _, [], _, [], hW', trodAll_mk1 (shut_bool Try.underlying4 _), (trodAll_mk1 (Below.trod laidOut (by kernel_rfl) (of_decide_eq_true (by kernel_rfl)) k0 bel lt0)), rfl, bel.frame _, fun h => by cases h⟩

set_option maxRecDepth 100000 in
theorem over : Rows.fnNewestRow.holds Try.pinned (OpenSpec.ofChange Rows.fnNewestSpec) :=
  OpenClaim.holds_of_wide 6 Try.f6 rfl rfl rfl rfl rfl rfl rfl ⟨rfl, rfl, rfl, rfl, rfl⟩ rfl rfl rfl rfl rfl (by kernel_rfl) Try.func6 (by kernel_rfl)
    (of_decide_eq_true (by kernel_rfl)) (by unfold Func.isWrapper; rw [if_neg (by decide +kernel)]; exact ⟨rfl, rfl⟩)
    (fun os started H enc _ => lifted os started H enc)

end Go.Proofs.Ytojgahcogpediaa.lawFnNewest
namespace Go.Proofs.Ytojgahcogpediaa
set_option maxRecDepth 100000 in
theorem fnNewest_holds : Rows.FnNewestSaid := lawFnNewest.over
#print axioms fnNewest_holds
end Go.Proofs.Ytojgahcogpediaa
