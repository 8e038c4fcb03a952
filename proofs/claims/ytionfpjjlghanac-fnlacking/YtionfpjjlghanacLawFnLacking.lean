/- At every code the law FnLacking answers true: what is lacking of drawn dependencies is just what is not covered by a drawn map, in order. No conditions. -/
import Derived.Test.YtionfpjjlghanacPack12
import Derived.Test.YtionfpjjlghanacPack13
namespace Go.Proofs.Ytionfpjjlghanac.lawFnLacking
open Go.ChangeShapes Go.WideShapes Go.ChangeAt Go.RowKit Go.Joins
attribute [local go_sem ↓] Go.wp_at_zero Go.wp_at_succ

set_option maxRecDepth 100000 in
theorem lack_at {ws : List Wr} {ds : List Dp} {k : Nat} (hk : k < ds.length) (hd : lacking ws (ds.getD k dz) = true) : (lacksL ws (ds.take k)).length < (lacksL ws ds).length ∧ (lacksL ws ds).getD (lacksL ws (ds.take k)).length dz = ds.getD k dz := by
  have e : lacksL ws ds = lacksL ws (ds.take k) ++ ds.getD k dz :: lacksL ws (ds.drop (k + 1)) := by
    have h1 : ds = ds.take k ++ ds.getD k dz :: ds.drop (k + 1) := by
      have e1 : ds.getD k dz = ds[k] := by simp [List.getD, hk]
      rw [e1, List.getElem_cons_drop, List.take_append_drop]
    unfold lacksL
    conv => lhs; rw [h1]
    rw [List.filter_append, List.filter_cons_of_pos hd]
  rw [e]
  constructor
  · simp
  · simp [List.getD]

set_option maxRecDepth 100000 in
theorem big_is (a : Option Addr) (len cap : Nat) (r : Bool) (h : decide (1048576 < len) = r) (hm : len ≤ maxLen) (w : World) :
    Calls Try.prog 6 #[.slice a len cap] w fun e w' => e = .returned (.bool r) ∧ w' = w := by
  unfold maxLen at hm
  cases r
  · have h' : len ≤ 1048576 := by simpa using h
    clear h
    go_enter Try.func6, Try.ntmps6
    go_wp2
    go_ret
    exact ⟨by simp; omega, rfl⟩
  · have h' : 1048576 < len := by simpa using h
    clear h
    go_enter Try.func6, Try.ntmps6
    go_wp2
    go_ret
    exact ⟨by simp; omega, rfl⟩

set_option maxRecDepth 100000 in
theorem open_bytes {H : Type} {enc : TypeId × Value → H} {w : World} {base b0 : Nat} {held : Bool} {r : Go.Reach} {v : Value} {d : DataW H} {p : List MemPlace} (hv : Value.okWide Try.prog w r b0 22 v) (h : DataW.Trod enc Try.prog w base (fun _ => true) held 22 v d p) :
    ∃ (a : Option Addr) (len cap : Nat), v = .slice a len cap ∧ (len ≤ maxLen ∧ Bytes w a len) := by
  obtain ⟨a, len, cap, rfl⟩ := okWide_slice Try.underlying22 hv
  obtain ⟨fuel, hf⟩ := h
  refine ⟨a, len, cap, rfl, ?_⟩
  rcases open_ints Try.underlying22 Try.underlying5 (by kernel_rfl) hf with ⟨hcs, _⟩ | ⟨x, l, c, zs, hcs, _, hl, hm, hz, _, hcell, hwz⟩
  · simp [Value.cells] at hcs
    obtain ⟨rfl, rfl, rfl⟩ := hcs
    exact ⟨Nat.zero_le _, .inl rfl⟩
  · simp [Value.cells] at hcs
    obtain ⟨rfl, rfl, rfl⟩ := hcs
    refine ⟨by omega, ?_⟩
    by_cases h0 : len = 0
    · exact .inl h0
    · have hzl : zs.length = cap := by simpa using hz
      have hx : x = ⟨x.block, x.off, none⟩ := by
        have h1 := hcell 0 (by omega)
        simp [Addr.add] at h1
        cases x with
        | mk b o s =>
          cases s with
          | none => rfl
          | some s =>
            simp only [World.cell?] at h1
            split at h1 <;> simp at h1
      refine .inr ⟨x.block, x.off, by rw [← hx], ?_, fun i hi => ?_⟩
      · have h1 := hcell 0 (by omega)
        have := World.block_lt_of_cell? w _ h1
        simpa [Addr.add] using this
      · have h1 := hcell i (by omega)
        have hw : (Lit.int .u8 (zs.getD i 0)).wf = true := hwz _ (by rw [List.getD_eq_getElem?_getD, List.getElem?_eq_getElem (by omega)]; exact List.getElem_mem _)
        have hb := bounds_u8 hw
        refine ⟨zs.getD i 0, hb.1, hb.2, ?_⟩
        rw [hx] at h1
        have e : (Addr.mk x.block x.off none).add i = ⟨x.block, x.off + i, none⟩ := by
          unfold Addr.add
          split
          · rename_i h
            rw [h]
            rfl
          · rfl
        rw [e] at h1
        exact h1

set_option maxRecDepth 100000 in
set_option maxHeartbeats 1000000 in
theorem walk_big (a : Option Addr) (len cap : Nat) (w : World) (hm : len ≤ maxLen) (h : 1048576 < len) :
    Calls Try.prog 5 #[.slice a len cap] w fun e w' => e = .returned (.bool true) ∧ Below w.heap.size w w' := by
  have d1 : decide (1048576 < len) = true := by simpa using h
  clear h
  go_enter Try.func5, Try.ntmps5
  go_wp2_with (go_at_call 6; refine (big_is _ _ _ true d1 hm _).mono ?_; rintro e w1 ⟨rfl, rfl⟩)
  go_ret
  exact ⟨rfl, Below.refl _ _⟩

set_option maxRecDepth 100000 in
set_option maxHeartbeats 8000000 in
theorem walk_small (a : Option Addr) (len cap : Nat) (w : World) (hy : Bytes w a len) (hl : len ≤ 1048576) :
    Calls Try.prog 5 #[.slice a len cap] w fun e w' => e = .returned (.bool true) ∧ Below w.heap.size w w' := by
  have HY : Hid (Bytes w a len) := hy
  have d1 : decide (1048576 < len) = false := by simp; omega
  clear hy
  go_enter Try.func5, Try.ntmps5
  go_wp2_with fail
  refine (big_is _ _ _ false d1 (by unfold maxLen; omega) _).mono ?_
  rintro e w0 ⟨rfl, rfl⟩
  clear d1
  go_wp2_with fail
  refine (drawLacks_any _ _ _ _ HY.out hl).mono ?_
  rintro e w1 ⟨v1, es1, ad, cpd, ds, rfl, ⟨g1, cp1, rfl, l1, f1, r1⟩, hd10, hdd, hb1⟩
  have HX := Lib.hid (few_of f1)
  have HI := Lib.hid ((r1.holds rfl).isWs HX.out)
  have HD := Lib.hid hdd
  have HB1 := Lib.hid hb1
  clear f1 r1 hdd hb1 HY
  have HN : Hid ((es1.map (·.x)).length = es1.length) := by simp [Hid]
  generalize es1.map (·.x) = xa at *
  generalize es1.length = n1 at *
  obtain ⟨m, hm⟩ : ∃ m, ds.length = m := ⟨_, rfl⟩
  have HM := Lib.hid hm
  rw [hm] at hd10 ⊢
  clear hm
  have HLL := Lib.hid (lacks_len xa ds m)
  have hlt : ds.take m = ds := List.take_of_length_le (by rw [HM.out]; exact Nat.le_refl _)
  rw [hlt] at HLL
  clear hlt
  go_wp2_with fail
  refine (implLacks_any _ ad n1 m cp1 cpd xa ds _ HN.out (by omega) HM.out (by omega) HI.out HD.out).mono ?_
  rintro e w2 ⟨v2, rfl, hrow, hb⟩
  obtain ⟨la, lc, rfl, hl2⟩ := hrow.form
  have HI2 := Lib.hid (HI.out.below hb)
  have HD2 := Lib.hid (HD.out.below hb)
  have HL2 := Lib.hid hl2.isDeps
  have HB2 := Lib.hid (below_step HB1.out HB1.out.size hb)
  clear hb hrow hl2 HI HD HB1
  obtain ⟨ls, hls⟩ : ∃ ls, lacksL xa ds = ls := ⟨_, rfl⟩
  have HLS := Lib.hid hls
  obtain ⟨p, hp⟩ : ∃ p, ls.length = p := ⟨_, rfl⟩
  have HPL := Lib.hid hp
  rw [hls] at HLL HL2 ⊢
  rw [hp] at HLL ⊢
  clear hls hp
  have hpm : p ≤ m := HLL.out
  go_wp2_with fail
  refine (specLacks_any _ ad n1 m cp1 cpd xa ds _ HN.out (by omega) HX.out HM.out (by omega) HI2.out HD2.out).mono ?_
  rintro e w3 ⟨v3, rfl, hrow, hb⟩
  rw [HLS.out] at hrow
  obtain ⟨sa, sc, rfl, hl3⟩ := hrow.form
  rw [HPL.out]
  have HI3 := Lib.hid (HI2.out.below hb)
  have HD3 := Lib.hid (HD2.out.below hb)
  have HL3 := Lib.hid (HL2.out.below hb)
  have HS3 := Lib.hid hl3.isDeps
  have HB3 := Lib.hid (below_step HB2.out HB2.out.size hb)
  clear hb hrow hl3 HI2 HD2 HL2 HB2
  go_wp2_with fail
  refine (sameDeps_same la sa p lc sc ls _ HPL.out (by omega) HL3.out HS3.out).mono ?_
  rintro e w4 ⟨rfl, hb⟩
  have HI4 := Lib.hid (HI3.out.below hb)
  have HD4 := Lib.hid (HD3.out.below hb)
  have HL4 := Lib.hid (HL3.out.below hb)
  have HB4 := Lib.hid (below_step HB3.out HB3.out.size hb)
  clear hb HI3 HD3 HL3 HS3 HB3
  have hcv : covB xa ds = decide (p = 0) := by
    unfold covB
    rw [HLS.out, HPL.out]
    rfl
  have HCC := Lib.hid (implCovered_any (some ⟨g1, 0, none⟩) ad n1 m cp1 cpd xa ds w4 HN.out (by omega) HM.out (by omega) HI4.out HD4.out)
  rw [hcv] at HCC
  clear hcv
  have hce : ((p : Int) == 0) = decide (p = 0) := by
    rw [Bool.eq_iff_iff]
    simp
  go_wp2_with fail
  refine HCC.out.mono ?_
  rintro e w5 ⟨rfl, hb⟩
  have HI5 := Lib.hid (HI4.out.below hb)
  have HD5 := Lib.hid (HD4.out.below hb)
  have HL5 := Lib.hid (HL4.out.below hb)
  have HB5 := Lib.hid (below_step HB4.out HB4.out.size hb)
  clear hb HI4 HD4 HL4 HB4 HCC
  go_wp2
  clear hce
  go_loopw [6, 7] (fun t i wr => ∃ k q : Nat, k ≤ m ∧ q ≤ k ∧ i = .int .i64 k ∧ t = .int .i64 q ∧ Hid ((lacksL xa (ds.take k)).length = q) ∧ Hid (Below w5.heap.size w5 wr)) (fun _ i _ => m - (intOf i).toNat)
  case atStart => exact ⟨0, 0, Nat.zero_le _, Nat.le_refl _, rfl, rfl, rfl, Below.refl _ _⟩
  case round =>
    obtain ⟨k, q, hk, hqk, rfl, rfl, HQ, HB⟩ := hrel
    by_cases hk' : k < m
    · have hkd : k < ds.length := by rw [HM.out]; exact hk'
      obtain ⟨b2, o2, rfl, hz, e0, e1, e2, e3⟩ := HD5.out.at HB.out hkd
      have i1 : (0 : Int) ≤ (k : Int) := by omega
      have i2 : (k : Int) < (m : Int) := by omega
      have HC : Hid (∀ p : Aft wr.heap.size wr, Calls Try.prog 23 #[.slice (some ⟨g1, 0, none⟩) n1 cp1, .int .i64 (ds.getD k dz).k, tagV (ds.getD k dz).c (ds.getD k dz).s (ds.getD k dz).q] p.now fun e w' => e = .returned (.bool (hasB xa (ds.getD k dz).k (ds.getD k dz).c (ds.getD k dz).s (ds.getD k dz).q)) ∧ Below p.now.heap.size p.now w') := fun p =>
        implMapHas_any _ n1 cp1 _ _ _ _ xa _ HN.out (by omega) (HI5.out.below (below_step HB.out HB.out.size p.below))
      cases hb : hasB xa (ds.getD k dz).k (ds.getD k dz).c (ds.getD k dz).s (ds.getD k dz).q
      · have hlk : lacking xa (ds.getD k dz) = true := by unfold lacking; rw [hb]; rfl
        obtain ⟨hq1, hq2⟩ := lack_at hkd hlk
        rw [HQ.out, HLS.out] at hq1 hq2
        have HQ2 : Hid ((lacksL xa (ds.take (k + 1))).length = q + 1) := by
          rw [lacks_more hkd hlk, List.length_append, HQ.out]
          exact Lib.hid rfl
        obtain ⟨b3, o3, rfl, hz3, f0, f1, f2, f3⟩ := HL5.out.at HB.out hq1
        rw [hq2] at f0 f1 f2 f3
        rw [HPL.out] at hq1
        rw [hb] at HC
        clear hb hlk hq2 HQ
        have i3 : (0 : Int) ≤ (q : Int) := by omega
        have i4 : (q : Int) < (p : Int) := by omega
        have i5 : ¬ (p : Int) ≤ (q : Int) := by omega
        have i6 : ¬ p ≤ q := by omega
        generalize (ds.getD k dz).k = dk at *
        generalize (ds.getD k dz).c = dc at *
        generalize (ds.getD k dz).s = dd at *
        generalize (ds.getD k dz).q = dq at *
        go_wp2_with fail
        have ge0 := aft_cell hz e0
        have ge1 := aft_cell hz e1
        have ge2 := aft_cell hz e2
        have ge3 := aft_cell hz e3
        have ne := aft_some wr
        refine wp_region_aft (by kernel_rfl) (by kernel_rfl) ?_
        repeat (first | go_big_quiet_step (first | (go_at_call 23; exact aft_of (HC.out _))))
        refine wpQuiet_nil ?_
        intro wq hq
        have HBQ := Lib.hid (below_step HB.out HB.out.size hq)
        replace e0 := held_cell hq e0 hz
        replace e1 := held_cell hq e1 hz
        replace e2 := held_cell hq e2 hz
        replace e3 := held_cell hq e3 hz
        replace f0 := held_cell hq f0 hz3
        replace f1 := held_cell hq f1 hz3
        replace f2 := held_cell hq f2 hz3
        replace f3 := held_cell hq f3 hz3
        have hzq : b2 < wq.heap.size := Nat.lt_of_lt_of_le hz hq.size
        have hzq3 : b3 < wq.heap.size := Nat.lt_of_lt_of_le hz3 hq.size
        clear hq ge0 ge1 ge2 ge3 ne HC HB hz hz3
        go_wp2_with fail
        have ge0 := aft_cell hzq e0
        have ge1 := aft_cell hzq e1
        have ge2 := aft_cell hzq e2
        have ge3 := aft_cell hzq e3
        have gf0 := aft_cell hzq3 f0
        have gf1 := aft_cell hzq3 f1
        have gf2 := aft_cell hzq3 f2
        have gf3 := aft_cell hzq3 f3
        have ne := aft_some wq
        refine wp_region_aft (by kernel_rfl) (by kernel_rfl) ?_
        repeat (first | go_big_quiet_step (fail))
        refine wpQuiet_nil ?_
        intro wq2 hq2
        have HBQ2 := Lib.hid (below_step HBQ.out HBQ.out.size hq2)
        clear hq2 ge0 ge1 ge2 ge3 gf0 gf1 gf2 gf3 ne HBQ
        go_wp2
        exact ⟨⟨k + 1, q + 1, by omega, by omega, by go_num, by go_num, HQ2, HBQ2⟩, by simp [intOf]; omega⟩
      · have hlk : lacking xa (ds.getD k dz) = false := by unfold lacking; rw [hb]; rfl
        have HQ2 : Hid ((lacksL xa (ds.take (k + 1))).length = q) := by
          rw [lacks_same hkd hlk]
          exact HQ
        rw [hb] at HC
        clear hb hlk HQ
        generalize (ds.getD k dz).k = dk at *
        generalize (ds.getD k dz).c = dc at *
        generalize (ds.getD k dz).s = dd at *
        generalize (ds.getD k dz).q = dq at *
        go_wp2_with fail
        have ge0 := aft_cell hz e0
        have ge1 := aft_cell hz e1
        have ge2 := aft_cell hz e2
        have ge3 := aft_cell hz e3
        have ne := aft_some wr
        refine wp_region_aft (by kernel_rfl) (by kernel_rfl) ?_
        repeat (first | go_big_quiet_step (first | (go_at_call 23; exact aft_of (HC.out _))))
        refine wpQuiet_nil ?_
        intro wq hq
        have HBQ := Lib.hid (below_step HB.out HB.out.size hq)
        clear hq ge0 ge1 ge2 ge3 ne HC HB
        go_wp2
        exact ⟨⟨k + 1, q, by omega, by omega, by go_num, rfl, HQ2, HBQ⟩, by simp [intOf]; omega⟩
    · have hkk : k = m := by omega
      subst hkk
      have hqp : q = p := by
        have := HQ.out
        rw [List.take_of_length_le (by rw [HM.out]; exact Nat.le_refl _), HLS.out, HPL.out] at this
        exact this.symm
      subst hqp
      have HBE := Lib.hid (below_step HB5.out HB5.out.size HB.out)
      go_wp2
      go_ret
      exact ⟨rfl, HBE.out⟩

set_option maxRecDepth 100000 in
theorem walk (a : Option Addr) (len cap : Nat) (w : World) (hr : len ≤ maxLen ∧ Bytes w a len) :
    Calls Try.prog 5 #[.slice a len cap] w fun e w' => e = .returned (.bool true) ∧ Below w.heap.size w w' := by
  by_cases h : 1048576 < len
  · exact walk_big a len cap w hr.1 h
  · exact walk_small a len cap w hr.2 (by omega)

set_option maxRecDepth 100000 in
theorem lifted (os : Os) (started : os.Started) (H : Type) (enc : TypeId × Value → H) :
    ReturnsInHanded {} Try.checked os 5 .any (Rows.fnLackingSpec.pre6 enc Try.prog Try.f5 Rows.fnLackingRow.domain false) (Rows.fnLackingSpec.post enc Try.prog Try.f5 false true false false) := by
  refine returnsInHanded_of_change (C := Try.checked) own started (by kernel_rfl) Try.func5
    (ChangeSpec.witness6 (enc := enc) (C := Try.checked) false ⟨#[], #[.slice none 0 0], []⟩ 8 (by kernel_rfl) (by kernel_rfl) (by kernel_rfl) (by kernel_rfl)) ?_
  intro W base args ds gs before hval0 hW hcnd _
  have hval : ∀ (j : Nat) t v, Try.f5.params[j]? = some t → args[j]? = some v → Value.okWide Try.prog W .any base t v := hval0
  have hW' := hW
  obtain ⟨p, q, hA0, hV, rfl, hfz, hnd⟩ := hW
  have hA : DataW.TrodAll enc Try.prog W 0 (fun _ => true) true Try.f5.params.toList args.toList ds p := hA0
  rw [Try.params5] at hA hval
  obtain ⟨v0, d0, rfl, rfl, h0⟩ := trodAll_one hA
  have k0 := h0
  have lt0 : ∀ x ∈ p, x.block < W.heap.size := by obtain ⟨m, hm⟩ := k0; exact DataW.trod_lt m _ _ _ hm
  obtain ⟨rfl, rfl⟩ := trodVars_none hV
  obtain ⟨a0, len0, cap0, hv0, hr0⟩ := open_bytes (hval 0 22 v0 rfl rfl) h0
  subst hv0
  clear hA0 hval0
  refine (walk a0 len0 cap0 W hr0).mono fun e W' ⟨he, bel⟩ => ?_
  subst he
  exact ⟨_, rfl, _, _, _, [], _, [], hW', trodAll_mk1 (shut_bool Try.underlying4 _), (trodAll_mk1 (Below.trod laidOut (by kernel_rfl) (of_decide_eq_true (by kernel_rfl)) k0 bel lt0)), rfl, bel.frame _, fun h => by cases h⟩

set_option maxRecDepth 100000 in
theorem over : Rows.fnLackingRow.holds Try.pinned (OpenSpec.ofChange Rows.fnLackingSpec) :=
  OpenClaim.holds_of_wide 5 Try.f5 rfl rfl rfl rfl rfl rfl rfl ⟨rfl, rfl, rfl, rfl, rfl⟩ rfl rfl rfl rfl rfl (by kernel_rfl) Try.func5 (by kernel_rfl)
    (of_decide_eq_true (by kernel_rfl)) (by unfold Func.isWrapper; rw [if_neg (by decide +kernel)]; exact ⟨rfl, rfl⟩)
    (fun os started H enc _ => lifted os started H enc)

end Go.Proofs.Ytionfpjjlghanac.lawFnLacking
namespace Go.Proofs.Ytionfpjjlghanac
set_option maxRecDepth 100000 in
theorem fnLacking_holds : Rows.FnLackingSaid := lawFnLacking.over
#print axioms fnLacking_holds
end Go.Proofs.Ytionfpjjlghanac
