/- At every two codes the law FnWider answers true: with more that has come no less is shown; seen again nothing changes. No conditions. -/
import Derived.Test.YtidpcjcnhklmpacPack12
import Derived.Test.YtidpcjcnhklmpacPack13
import Derived.Test.YtidpcjcnhklmpacPack15
import Derived.Test.YtidpcjcnhklmpacPack16
namespace Go.Proofs.Ytidpcjcnhklmpac.lawFnWider
open Go.ChangeShapes Go.WideShapes Go.ChangeAt Go.RowKit Go.Joins
attribute [local go_sem ↓] Go.wp_at_zero Go.wp_at_succ

set_option maxRecDepth 100000 in
theorem big_is (a : Option Addr) (len cap : Nat) (r : Bool) (h : decide (1048576 < len) = r) (hm : len ≤ maxLen) (w : World) :
    Calls Try.prog 6 #[.slice a len cap] w fun e w' => e = .returned (.bool r) ∧ w' = w := by
  unfold maxLen at hm
  cases r
  · have h' : len ≤ 1048576 := by simpa using h
    clear h
    go_enter Try.func6, Try.ntmps6
    go_wp2
    go_ret
    exact ⟨by simp; omega, rfl⟩
  · have h' : 1048576 < len := by simpa using h
    clear h
    go_enter Try.func6, Try.ntmps6
    go_wp2
    go_ret
    exact ⟨by simp; omega, rfl⟩

set_option maxRecDepth 100000 in
theorem open_bytes {H : Type} {enc : TypeId × Value → H} {w : World} {base b0 : Nat} {held : Bool} {r : Go.Reach} {v : Value} {d : DataW H} {p : List MemPlace} (hv : Value.okWide Try.prog w r b0 22 v) (h : DataW.Trod enc Try.prog w base (fun _ => true) held 22 v d p) :
    ∃ (a : Option Addr) (len cap : Nat), v = .slice a len cap ∧ (len ≤ maxLen ∧ Bytes w a len) := by
  obtain ⟨a, len, cap, rfl⟩ := okWide_slice Try.underlying22 hv
  obtain ⟨fuel, hf⟩ := h
  refine ⟨a, len, cap, rfl, ?_⟩
  rcases open_ints Try.underlying22 Try.underlying5 (by kernel_rfl) hf with ⟨hcs, _⟩ | ⟨x, l, c, zs, hcs, _, hl, hm, hz, _, hcell, hwz⟩
  · simp [Value.cells] at hcs
    obtain ⟨rfl, rfl, rfl⟩ := hcs
    exact ⟨Nat.zero_le _, .inl rfl⟩
  · simp [Value.cells] at hcs
    obtain ⟨rfl, rfl, rfl⟩ := hcs
    refine ⟨by omega, ?_⟩
    by_cases h0 : len = 0
    · exact .inl h0
    · have hzl : zs.length = cap := by simpa using hz
      have hx : x = ⟨x.block, x.off, none⟩ := by
        have h1 := hcell 0 (by omega)
        simp [Addr.add] at h1
        cases x with
        | mk b o s =>
          cases s with
          | none => rfl
          | some s =>
            simp only [World.cell?] at h1
            split at h1 <;> simp at h1
      refine .inr ⟨x.block, x.off, by rw [← hx], ?_, fun i hi => ?_⟩
      · have h1 := hcell 0 (by omega)
        have := World.block_lt_of_cell? w _ h1
        simpa [Addr.add] using this
      · have h1 := hcell i (by omega)
        have hw : (Lit.int .u8 (zs.getD i 0)).wf = true := hwz _ (by rw [List.getD_eq_getElem?_getD, List.getElem?_eq_getElem (by omega)]; exact List.getElem_mem _)
        have hb := bounds_u8 hw
        refine ⟨zs.getD i 0, hb.1, hb.2, ?_⟩
        rw [hx] at h1
        have e : (Addr.mk x.block x.off none).add i = ⟨x.block, x.off + i, none⟩ := by
          unfold Addr.add
          split
          · rename_i h
            rw [h]
            rfl
          · rfl
        rw [e] at h1
        exact h1

set_option maxRecDepth 100000 in
set_option maxHeartbeats 1000000 in
theorem walk_big (a : Option Addr) (len cap : Nat) (a' : Option Addr) (len' cap' : Nat) (w : World) (hm : len ≤ maxLen) (hm' : len' ≤ maxLen) (h : 1048576 < len ∨ 1048576 < len') :
    Calls Try.prog 3 #[.slice a len cap, .slice a' len' cap'] w fun e w' => e = .returned (.bool true) ∧ Below w.heap.size w w' := by
  by_cases h1 : 1048576 < len
  · have d1 : decide (1048576 < len) = true := by simpa using h1
    clear h h1
    go_enter Try.func3, Try.ntmps3
    go_wp2_with (go_at_call 6; refine (big_is _ _ _ true d1 hm _).mono ?_; rintro e w1 ⟨rfl, rfl⟩)
    go_ret
    exact ⟨rfl, Below.refl _ _⟩
  · have d1 : decide (1048576 < len) = false := by simpa using h1
    have d2 : decide (1048576 < len') = true := by simp; omega
    clear h h1
    go_enter Try.func3, Try.ntmps3
    go_wp2_with fail
    refine (big_is _ _ _ false d1 hm _).mono ?_
    rintro e w1 ⟨rfl, rfl⟩
    go_wp2_with fail
    refine (big_is _ _ _ true d2 hm' _).mono ?_
    rintro e w2 ⟨rfl, rfl⟩
    go_wp2
    go_ret
    exact ⟨rfl, Below.refl _ _⟩

set_option maxRecDepth 100000 in
theorem same_true (a b : Option Addr) (n m cap cap' : Nat) (us vs : List Wr) (h : us = vs) (w : World) (hn : us.length = n) (hm : vs.length = m) (hn1 : n ≤ 1048576) (hm1 : m ≤ 1048576) (hx : Few us) (hi : IsWs w a us) (hj : IsWs w b vs) :
    Calls Try.prog 9 #[.slice a n cap, .slice b m cap'] w fun e w' => e = .returned (.bool true) ∧ Below w.heap.size w w' := by
  have := sameWrites_gen a b n m cap cap' us vs w hn hm hn1 hm1 hx (h ▸ hx) hi hj
  rw [(same_iff us vs).2 h] at this
  exact this

set_option maxRecDepth 100000 in
theorem within_true (a b : Option Addr) (n m cap cap' : Nat) (us vs : List Wr) (h : withinB us vs = true) (w : World) (hn : us.length = n) (hm : vs.length = m) (hn1 : n ≤ 1048576) (hm1 : m ≤ 1048576) (hx : Few us) (hy : Few vs) (hi : IsWs w a us) (hj : IsWs w b vs) :
    Calls Try.prog 13 #[.slice a n cap, .slice b m cap'] w fun e w' => e = .returned (.bool true) ∧ Below w.heap.size w w' := by
  have := implWithin_any a b n m cap cap' us vs w hn hm hn1 hm1 hx hy hi hj
  rw [h] at this
  exact this

theorem take_all {vs : List Wr} {k : Nat} (hk : k < vs.length) : (vs.take (k + 1)).all okW = ((vs.take k).all okW && okW (vs.getD k wz)) := by
  have e : vs.getD k wz = vs[k] := by simp [List.getD, hk]
  rw [e, List.take_succ_eq_append_getElem hk, List.all_append]
  simp

theorem few_append {us vs : List Wr} (h : Few us) (h' : Few vs) : Few (us ++ vs) := few_iff.2 fun y hy => by
  rcases List.mem_append.1 hy with hy | hy
  · exact few_iff.1 h y hy
  · exact few_iff.1 h' y hy

set_option maxRecDepth 100000 in
set_option maxHeartbeats 8000000 in
theorem walk_small (a : Option Addr) (len cap : Nat) (a' : Option Addr) (len' cap' : Nat) (w : World) (hy : Bytes w a len) (hy' : Bytes w a' len') (hl : len ≤ 1048576) (hl' : len' ≤ 1048576) :
    Calls Try.prog 3 #[.slice a len cap, .slice a' len' cap'] w fun e w' => e = .returned (.bool true) ∧ Below w.heap.size w w' := by
  have HY : Hid (Bytes w a len) := hy
  have HY' : Hid (Bytes w a' len') := hy'
  have d1 : decide (1048576 < len) = false := by simp; omega
  have d2 : decide (1048576 < len') = false := by simp; omega
  clear hy hy'
  go_enter Try.func3, Try.ntmps3
  go_wp2_with fail
  refine (big_is _ _ _ false d1 (by unfold maxLen; omega) _).mono ?_
  rintro e w0 ⟨rfl, rfl⟩
  go_wp2_with fail
  refine (big_is _ _ _ false d2 (by unfold maxLen; omega) _).mono ?_
  rintro e w0' ⟨rfl, rfl⟩
  clear d1 d2
  go_wp2_with fail
  refine (drawWidest_any _ _ _ _ HY.out hl).mono ?_
  rintro e w1 ⟨v1, v2, es1, es2, rfl, ⟨g1, cp1, rfl, l1, f1, r1⟩, ⟨g2, cp2, rfl, l2, f2, r2⟩, hb1⟩
  have HX1 := Lib.hid (few_of f1)
  have HX2 := Lib.hid (few_of f2)
  have HI1 := Lib.hid ((r1.holds rfl).isWs HX1.out)
  have HR1 := Lib.hid r2
  have HB1 := Lib.hid hb1
  clear f1 r1 f2 r2 hb1
  go_wp2_with fail
  refine (drawWidest_any _ _ _ _ (HY'.out.below HB1.out) hl').mono ?_
  rintro e w2 ⟨v3, v4, es3, es4, rfl, ⟨g3, cp3, rfl, l3, f3, r3⟩, ⟨g4, cp4, rfl, l4, f4, r4⟩, hb2⟩
  have HX4 := Lib.hid (few_of f4)
  have HA2 := Lib.hid (HI1.out.below hb2)
  have HR2 := Lib.hid ((HR1.out.below hb2).mono (Nat.zero_le _))
  have HR4 := Lib.hid (r4.mono (Nat.zero_le _))
  have HB2 := Lib.hid (below_step HB1.out HB1.out.size hb2)
  clear f3 r3 f4 r4 hb2 HI1 HR1 HB1 HY HY' l3
  have HBA : Hid (Below w2.heap.size w2 (w2.alloc (.cells #[] 35))) := (Below.refl _ _).alloc (Nat.le_refl _) _
  have HR0 : Hid (RowEs (w2.alloc (.cells #[] 35)) 0 w2.heap.size 0 []) := rowEs_start w2 _ (Nat.zero_le _)
  have HRA2 := Lib.hid (HR2.out.below HBA.out)
  have HRA4 := Lib.hid (HR4.out.below HBA.out)
  have HD2 : Hid (∀ e ∈ es2, e.g < w2.heap.size) := fun e he => (HR2.out.deps e he).2.1
  have HD4 : Hid (∀ e ∈ es4, e.g < w2.heap.size) := fun e he => (HR4.out.deps e he).2.1
  go_wp2_with (at_builtin; refine append_es (by rfl) _ _ (by rfl) w2.heap.size w2.heap.size 0 0 [] rfl (by rfl) HR0.out (Nat.le_refl _) g2 cp2 es2.length es2 rfl (by rfl) HRA2.out HD2.out es2.length (by omega) (by omega) ?_; intro g5 cp5 w5 hrow hS hbb; refine Hid.out ?_)
  refine Lib.hid ?_
  have HR5 : Hid (RowEs w5 0 g5 cp5 es2) := hrow
  have HB5 : Hid (Below w2.heap.size w2 w5) := HBA.out.trans hbb
  have HRA5 := Lib.hid (HR4.out.below HB5.out)
  clear hrow hbb HRA2 HRA4 HR0 HBA
  go_wp2_with (at_builtin; refine append_es (by rfl) _ _ (by rfl) w2.heap.size g5 cp5 es2.length es2 rfl (by rfl) HR5.out hS g4 cp4 es4.length es4 rfl (by rfl) HRA5.out HD4.out (es2.length + es4.length) rfl (by omega) ?_; intro g6 cp6 w6 hrow hS6 hbb; refine Hid.out ?_)
  refine Lib.hid ?_
  have HX6 := Lib.hid (few_append HX2.out HX4.out)
  have HW6 : Hid (IsWs w6 (some ⟨g6, 0, none⟩) (es2.map (·.x) ++ es4.map (·.x))) := by
    have := (hrow.holds (List.map_append ..)).isWs HX6.out
    exact this
  have HBB := Lib.hid (HB5.out.trans hbb)
  have HW2 := Lib.hid (((HR2.out.below HBB.out).holds rfl).isWs HX2.out)
  have HA6 := Lib.hid (HA2.out.below HBB.out)
  have HB6 := Lib.hid (below_step HB2.out HB2.out.size HBB.out)
  clear hrow hbb hS hS6 HR5 HB5 HRA5 HD2 HD4 HR2 HR4 HA2 HB2 HBB
  have HN1 : Hid ((es1.map (·.x)).length = es1.length) := by simp [Hid]
  have HN2 : Hid ((es2.map (·.x)).length = es2.length) := by simp [Hid]
  have HN4 : Hid ((es2.map (·.x) ++ es4.map (·.x)).length = es2.length + es4.length) := by simp [Hid]
  generalize es1.map (·.x) = xa at *
  generalize es2.map (·.x) = xb at *
  generalize es4.map (·.x) = xd at *
  have hN4 : es2.length + es4.length ≤ 80 := by omega
  generalize es2.length + es4.length = n4 at *
  generalize es1.length = n1 at *
  generalize es2.length = n2 at *
  have HJF : ∀ us vs : List Wr, Hid (Few (widL us vs)) := fun us vs => few_of_bulk (by have := mapOk_bulk (widL_mapOk us vs); omega)
  have HJL : ∀ us vs : List Wr, Hid ((widL us vs).length ≤ 1048576) := fun us vs => by have := mapOk_len (widL_mapOk us vs); exact Lib.hid (by omega)
  have HRB : Hid (rightB xa (xb ++ xd) = (mapOkB xa && (xb ++ xd).all okW)) := rfl
  have HWD : Hid (rightB xa (xb ++ xd) = true → withinB (widL xa xb) (widL xa (xb ++ xd)) = true) := wider
  have HAG : Hid (rightB xa (xb ++ xd) = true → widL (widL xa xb) xb = widL xa xb) := fun h => by
    obtain ⟨_, _, hm⟩ := right_keys h
    obtain ⟨_, _, h2⟩ := right_parts h
    exact wid_again (right_of hm fun x hx => h2 x (by simp [hx]))
  go_wp2_with fail
  refine (implWidest_any _ _ n1 n2 _ _ xa xb _ HN1.out HN2.out (by omega) HX1.out HX2.out HA6.out HW2.out).mono ?_
  rintro e w7 ⟨v7, es7, rfl, hes, hrow, hbb⟩
  obtain ⟨ga, gc, L7, rfl, hl7, hg7⟩ := hrow.ownA hes
  have HV7 := Lib.hid (hg7.isWs (HJF xa xb).out)
  have hL7 : L7 ≤ 1048576 := by rw [← hl7]; exact (HJL xa xb).out
  have HL7 := Lib.hid hl7
  have HA7 := Lib.hid (HA6.out.below hbb)
  have HC7 := Lib.hid (HW2.out.below hbb)
  have HD7 := Lib.hid (HW6.out.below hbb)
  have HB7 := Lib.hid (below_step HB6.out HB6.out.size hbb)
  clear hbb hg7 hl7 hrow hes HA6 HW2 HW6 HB6
  go_wp2_with fail
  refine (specWidest_any _ _ n1 n2 _ _ xa xb _ HN1.out HN2.out (by omega) HX1.out HX2.out HA7.out HC7.out).mono ?_
  rintro e w8 ⟨gs, cs, ess, L8, rfl, hLs, hes, hrow, hbb⟩
  have HL8 : Hid ((widL xa xb).length = L8) := by
    rw [← hes, List.length_map]
    exact hLs
  have HS8 : Hid (IsWs w8 (some ⟨gs, 0, none⟩) (widL xa xb)) := (hrow.holds hes).isWs (HJF xa xb).out
  have hL8 : L8 ≤ 1048576 := by rw [← HL8.out]; exact (HJL xa xb).out
  have HV8 := Lib.hid (HV7.out.below hbb)
  have HA8 := Lib.hid (HA7.out.below hbb)
  have HC8 := Lib.hid (HC7.out.below hbb)
  have HD8 := Lib.hid (HD7.out.below hbb)
  have HB8 := Lib.hid (below_step HB7.out HB7.out.size hbb)
  clear hbb hrow hes hLs HV7 HA7 HC7 HD7 HB7
  go_wp2_with fail
  refine (same_true _ _ L7 L8 _ _ _ _ rfl _ HL7.out HL8.out hL7 hL8 (HJF xa xb).out HV8.out HS8.out).mono ?_
  rintro e w9 ⟨rfl, hbb⟩
  have HV9 := Lib.hid (HV8.out.below hbb)
  have HA9 := Lib.hid (HA8.out.below hbb)
  have HC9 := Lib.hid (HC8.out.below hbb)
  have HD9 := Lib.hid (HD8.out.below hbb)
  have HB9 := Lib.hid (below_step HB8.out HB8.out.size hbb)
  clear hbb HV8 HA8 HC8 HD8 HB8 HS8 HL8
  go_wp2_with fail
  refine (specMapOk_gen _ n1 _ xa _ HN1.out (by omega) HX1.out HA9.out).mono ?_
  rintro e w10 ⟨rfl, hbb⟩
  have HV10 := Lib.hid (HV9.out.below hbb)
  have HA10 := Lib.hid (HA9.out.below hbb)
  have HC10 := Lib.hid (HC9.out.below hbb)
  have HD10 := Lib.hid (HD9.out.below hbb)
  have HB10 := Lib.hid (below_step HB9.out HB9.out.size hbb)
  clear hbb HV9 HA9 HC9 HD9 HB9
  generalize xb ++ xd = xs at *
  generalize hm0 : mapOkB xa = m0 at *
  go_wp2
  go_loopw [11, 12] (fun t i wr => ∃ (k : Nat) (b : Bool), k ≤ n4 ∧ i = .int .i64 k ∧ t = .bool b ∧ Hid (b = (m0 && (xs.take k).all okW)) ∧ Hid (Below w10.heap.size w10 wr)) (fun _ i _ => n4 - (intOf i).toNat)
  case atStart => exact ⟨0, m0, Nat.zero_le _, rfl, rfl, by simp [Hid], Below.refl _ _⟩
  case round =>
    obtain ⟨k, b, hk, rfl, rfl, HK, HB⟩ := hrel
    by_cases hk' : k < n4
    · have i1 : (0 : Int) ≤ (k : Int) := by omega
      have i2 : (k : Int) < (n4 : Int) := by omega
      have hkm : k < xs.length := by rw [HN4.out]; exact hk'
      have HT := Lib.hid (take_all hkm)
      cases b
      · have HK2 : Hid (false = (m0 && (xs.take (k + 1)).all okW)) := by
          rw [HT.out, ← Bool.and_assoc, ← HK.out]
          exact Lib.hid rfl
        clear HT HK
        go_wp2
        exact ⟨⟨k + 1, false, hk', rfl, rfl, HK2, HB⟩, by simp [intOf]; omega⟩
      · obtain ⟨b1, o1, ad, cp, hba, hz, ⟨e0, e1, e2, e3, e4, e5, e6⟩, hd⟩ := HD10.out.at HB.out HN4.out hk'
        injection hba with hba
        injection hba with hba1 hba2
        subst hba1
        subst hba2
        have HWO : Hid (Calls Try.prog 12 #[wrOf (xs.getD k wz) ad cp] wr fun e w' => e = .returned (.bool (okW (xs.getD k wz))) ∧ Below wr.heap.size wr w') := specWriteOk_gen _ _ _ _ _ _ ad (xs.getD k wz).xs _ cp wr rfl (HX6.out k hkm) hd
        have HK2 : Hid (okW (xs.getD k wz) = (m0 && (xs.take (k + 1)).all okW)) := by
          rw [HT.out, ← Bool.and_assoc, ← HK.out]
          exact Lib.hid rfl
        clear hd HT HK
        generalize okW (xs.getD k wz) = bk at *
        generalize xs.getD k wz = x at *
        obtain ⟨xk, xc, xs', xq, xv, xd', xx⟩ := x
        simp only [Nat.zero_add] at e0 e1 e2 e3 e4 e5 e6
        go_wp2_with fail
        refine HWO.out.mono ?_
        rintro e w11 ⟨rfl, hb⟩
        have HB2 : Hid (Below w10.heap.size w10 w11) := below_step HB.out HB.out.size hb
        clear hb
        go_wp2
        exact ⟨⟨k + 1, bk, hk', rfl, rfl, HK2, HB2⟩, by simp [intOf]; omega⟩
    · have hke : k = n4 := by omega
      subst hke
      have HR : Hid (b = rightB xa xs) := by
        rw [HRB.out, HK.out, ← HN4.out, List.take_length]
        exact Lib.hid rfl
      have HVa := Lib.hid (HV10.out.below HB.out)
      have HAa := Lib.hid (HA10.out.below HB.out)
      have HCa := Lib.hid (HC10.out.below HB.out)
      have HDa := Lib.hid (HD10.out.below HB.out)
      have HBa := Lib.hid (below_step HB10.out HB10.out.size HB.out)
      clear HK HB HV10 HA10 HC10 HD10 HB10
      cases b
      · go_wp2
        go_ret
        exact ⟨rfl, HBa.out⟩
      · have HT := Lib.hid (HWD.out HR.out.symm)
        have HG := Lib.hid (HAG.out HR.out.symm)
        clear HWD HAG HR HRB
        go_wp2_with fail
        refine (implWidest_any _ _ n1 k _ _ xa xs _ HN1.out HN4.out (by omega) HX1.out HX6.out HAa.out HDa.out).mono ?_
        rintro e wb ⟨vb, esb, rfl, hes, hrow, hbb⟩
        obtain ⟨gb, cb, Lb, rfl, hlb, hgb⟩ := hrow.ownA hes
        have HYb := Lib.hid (hgb.isWs (HJF xa xs).out)
        have hLb : Lb ≤ 1048576 := by rw [← hlb]; exact (HJL xa xs).out
        have HLb := Lib.hid hlb
        have HVb := Lib.hid (HVa.out.below hbb)
        have HCb := Lib.hid (HCa.out.below hbb)
        have HBb := Lib.hid (below_step HBa.out HBa.out.size hbb)
        clear hbb hgb hlb hrow hes HVa HAa HCa HDa HBa
        go_wp2_with fail
        refine (within_true _ _ L7 Lb _ _ _ _ HT.out _ HL7.out HLb.out hL7 hLb (HJF xa xb).out (HJF xa xs).out HVb.out HYb.out).mono ?_
        rintro e wc ⟨rfl, hbb⟩
        have HVc := Lib.hid (HVb.out.below hbb)
        have HCc := Lib.hid (HCb.out.below hbb)
        have HBc := Lib.hid (below_step HBb.out HBb.out.size hbb)
        clear hbb HVb HCb HBb HYb HLb hLb
        have hL76 : L7 ≤ 6 := by rw [← HL7.out]; exact mapOk_len (widL_mapOk xa xb)
        go_wp2_with fail
        refine (implWidest_any _ _ L7 n2 _ _ (widL xa xb) xb _ HL7.out HN2.out (by omega) (HJF xa xb).out HX2.out HVc.out HCc.out).mono ?_
        rintro e wd ⟨vd, esd, rfl, hes, hrow, hbb⟩
        obtain ⟨gd, cd, Ld, rfl, hld, hgd⟩ := hrow.ownA hes
        have HYd := Lib.hid (hgd.isWs (HJF _ _).out)
        have hLd : Ld ≤ 1048576 := by rw [← hld]; exact (HJL _ _).out
        have HLd := Lib.hid hld
        have HVd := Lib.hid (HVc.out.below hbb)
        have HBd := Lib.hid (below_step HBc.out HBc.out.size hbb)
        clear hbb hgd hld hrow hes HVc HCc HBc
        go_wp2_with fail
        refine (same_true _ _ Ld L7 _ _ _ _ HG.out _ HLd.out HL7.out hLd hL7 (HJF _ _).out HYd.out HVd.out).mono ?_
        rintro e we ⟨rfl, hbb⟩
        have HBe := Lib.hid (below_step HBd.out HBd.out.size hbb)
        clear hbb
        go_wp2
        go_ret
        exact ⟨rfl, HBe.out⟩

set_option maxRecDepth 100000 in
theorem walk (a : Option Addr) (len cap : Nat) (a' : Option Addr) (len' cap' : Nat) (w : World) (hr : len ≤ maxLen ∧ Bytes w a len) (hr' : len' ≤ maxLen ∧ Bytes w a' len') :
    Calls Try.prog 3 #[.slice a len cap, .slice a' len' cap'] w fun e w' => e = .returned (.bool true) ∧ Below w.heap.size w w' := by
  by_cases h : 1048576 < len ∨ 1048576 < len'
  · exact walk_big a len cap a' len' cap' w hr.1 hr'.1 h
  · exact walk_small a len cap a' len' cap' w hr.2 hr'.2 (by omega) (by omega)

set_option maxRecDepth 100000 in
theorem lifted (os : Os) (started : os.Started) (H : Type) (enc : TypeId × Value → H) :
    ReturnsInHanded {} Try.checked os 3 .any (Rows.fnWiderSpec.pre6 enc Try.prog Try.f3 Rows.fnWiderRow.domain false) (Rows.fnWiderSpec.post enc Try.prog Try.f3 false true false false) := by
  refine returnsInHanded_of_change (C := Try.checked) own started (by kernel_rfl) Try.func3
    (ChangeSpec.witness6 (enc := enc) (C := Try.checked) false ⟨#[], #[.slice none 0 0, .slice none 0 0], []⟩ 8 (by kernel_rfl) (by kernel_rfl) (by kernel_rfl) (by kernel_rfl)) ?_
  intro W base args ds gs before hval0 hW hcnd _
  have hval : ∀ (j : Nat) t v, Try.f3.params[j]? = some t → args[j]? = some v → Value.okWide Try.prog W .any base t v := hval0
  have hW' := hW
  obtain ⟨p, q, hA0, hV, rfl, hfz, hnd⟩ := hW
  have hA : DataW.TrodAll enc Try.prog W 0 (fun _ => true) true Try.f3.params.toList args.toList ds p := hA0
  rw [Try.params3] at hA hval
  obtain ⟨v0, v1, d0, d1, p0, p1, rfl, rfl, rfl, h0, h1⟩ := trodAll_two hA
  have k0 := h0
  have lt0 : ∀ x ∈ p0, x.block < W.heap.size := by obtain ⟨m, hm⟩ := k0; exact DataW.trod_lt m _ _ _ hm
  have k1 := h1
  have lt1 : ∀ x ∈ p1, x.block < W.heap.size := by obtain ⟨m, hm⟩ := k1; exact DataW.trod_lt m _ _ _ hm
  obtain ⟨rfl, rfl⟩ := trodVars_none hV
  obtain ⟨a0, len0, cap0, hv0, hr0⟩ := open_bytes (hval 0 22 v0 rfl rfl) h0
  subst hv0
  obtain ⟨a1, len1, cap1, hv1, hr1⟩ := open_bytes (hval 1 22 v1 rfl rfl) h1
  subst hv1
  clear hA0 hval0
  refine (walk a0 len0 cap0 a1 len1 cap1 W hr0 hr1).mono fun e W' ⟨he, bel⟩ => ?_
  subst he
  exact ⟨_, rfl, _, _, _, [], _, [], hW', trodAll_mk1 (shut_bool Try.underlying4 _), (trodAll_mk2 (Below.trod laidOut (by kernel_rfl) (of_decide_eq_true (by kernel_rfl)) k0 bel lt0) (Below.trod laidOut (by kernel_rfl) (of_decide_eq_true (by kernel_rfl)) k1 bel lt1)), rfl, bel.frame _, fun h => by cases h⟩

set_option maxRecDepth 100000 in
theorem over : Rows.fnWiderRow.holds Try.pinned (OpenSpec.ofChange Rows.fnWiderSpec) :=
  OpenClaim.holds_of_wide 3 Try.f3 rfl rfl rfl rfl rfl rfl rfl ⟨rfl, rfl, rfl, rfl, rfl⟩ rfl rfl rfl rfl rfl (by kernel_rfl) Try.func3 (by kernel_rfl)
    (of_decide_eq_true (by kernel_rfl)) (by unfold Func.isWrapper; rw [if_neg (by decide +kernel)]; exact ⟨rfl, rfl⟩)
    (fun os started H enc _ => lifted os started H enc)

end Go.Proofs.Ytidpcjcnhklmpac.lawFnWider
namespace Go.Proofs.Ytidpcjcnhklmpac

set_option maxRecDepth 100000 in
theorem fnWider_holds : Rows.FnWiderSaid := lawFnWider.over
#print axioms fnWider_holds
end Go.Proofs.Ytidpcjcnhklmpac
