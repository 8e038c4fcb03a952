/- At every code the law FnBecause answers true: the causes of a drawn map and mask are right, covered by a cut, and fewer with fewer keys. No conditions. -/
import Derived.Test.YtbbmpfkijhhemaaPack14
namespace Go.Proofs.Ytbbmpfkijhhemaa.lawFnBecause
open Go.ChangeShapes Go.WideShapes Go.ChangeAt Go.RowKit Go.Joins lawBytes
attribute [local go_sem ↓] Go.wp_at_zero Go.wp_at_succ

set_option maxRecDepth 100000 in
set_option maxHeartbeats 1000000 in
theorem walk_big (a : Option Addr) (len cap : Nat) (w : World) (hm : len ≤ maxLen) (h : 1048576 < len) :
    Calls Try.prog 3 #[.slice a len cap] w fun e w' => e = .returned (.bool true) ∧ Below w.heap.size w w' := by
  have d1 : decide (1048576 < len) = true := by simpa using h
  clear h
  go_enter Try.func3, Try.ntmps3
  go_wp2_with (go_at_call 5; refine (big_is _ _ _ true d1 hm _).mono ?_; rintro e w1 ⟨rfl, rfl⟩)
  go_ret
  exact ⟨rfl, Below.refl _ _⟩

/-- Whether one of these is of this key, and as late. -/
def asLate (e d : Dp) : Bool := decide (d.k = e.k ∧ 0 ≤ tcmp d.c d.s d.q e.c e.s e.q)

set_option maxRecDepth 100000 in
theorem late_take (e : Dp) (ds : List Dp) (k : Nat) (h : k < ds.length) : (ds.take (k + 1)).any (asLate e) = ((ds.take k).any (asLate e) || asLate e (ds.getD k dz)) := by
  have e1 : ds.take (k + 1) = ds.take k ++ [ds.getD k dz] := by
    rw [List.take_add_one, List.getElem?_eq_getElem h]
    simp [List.getD, h]
  rw [e1, List.any_append]
  simp

set_option maxRecDepth 100000 in
set_option maxHeartbeats 16000000 in
theorem walk_small (a : Option Addr) (len cap : Nat) (w : World) (hy : Bytes w a len) (hl : len ≤ 1048576) :
    Calls Try.prog 3 #[.slice a len cap] w fun e w' => e = .returned (.bool true) ∧ Below w.heap.size w w' := by
  have HY : Hid (Bytes w a len) := hy
  have d1 : decide (1048576 < len) = false := by simp; omega
  clear hy
  go_enter Try.func3, Try.ntmps3
  go_wp2_with fail
  refine (big_is _ _ _ false d1 (by unfold maxLen; omega) _).mono ?_
  rintro e w0 ⟨rfl, rfl⟩
  clear d1
  go_wp2_with fail
  refine (drawBec_any _ _ _ _ HY.out hl).mono ?_
  rintro e w1 ⟨v1, es1, mk, rfl, ⟨g1, cp1, rfl, l1, f1, r1⟩, hmk, hb1⟩
  have HX := Lib.hid (few_of f1)
  have HI := Lib.hid ((r1.holds rfl).isWs HX.out)
  have HB1 := Lib.hid hb1
  clear f1 r1 hb1 HY
  have HN : Hid ((es1.map (·.x)).length = es1.length) := by simp [Hid]
  generalize es1.map (·.x) = xa at *
  generalize es1.length = n1 at *
  go_wp2_with fail
  refine (implBecause_any _ n1 cp1 xa mk _ HN.out (by omega) HX.out HI.out hmk).mono ?_
  rintro e w2 ⟨v2, rfl, hrow, hb⟩
  obtain ⟨da, dc, rfl, hd2⟩ := hrow.form
  have HI2 := Lib.hid (HI.out.below hb)
  have HD2 := Lib.hid hd2.isDeps
  have HB2 := Lib.hid (below_step HB1.out HB1.out.size hb)
  clear hb hrow hd2 HI HB1
  obtain ⟨D, hD⟩ : ∃ D, D = becB xa mk := ⟨_, rfl⟩
  have HDE := Lib.hid hD
  have hD42 : D.length ≤ 42 := by
    rw [hD]
    unfold becB
    split
    · rename_i h
      have := becL_len h.1 mk xa.length
      rwa [List.take_length] at this
    · simp
  rw [← hD] at HD2
  rw [← hD]
  clear hD
  obtain ⟨p, hp⟩ : ∃ p, D.length = p := ⟨_, rfl⟩
  rw [hp] at hD42 ⊢
  have HPL := Lib.hid hp
  clear hp
  go_wp2_with fail
  refine (specBecause_any _ n1 cp1 xa mk _ HN.out (by omega) HX.out HI2.out hmk).mono ?_
  rintro e w3 ⟨v3, rfl, hrow, hb⟩
  rw [← HDE.out] at hrow
  obtain ⟨sa, sc, rfl, hs3⟩ := hrow.form
  rw [HPL.out]
  have HI3 := Lib.hid (HI2.out.below hb)
  have HD3 := Lib.hid (HD2.out.below hb)
  have HS3 := Lib.hid hs3.isDeps
  have HB3 := Lib.hid (below_step HB2.out HB2.out.size hb)
  clear hb hrow hs3 HI2 HD2 HB2
  go_wp2_with fail
  refine (sameDeps_same da sa p dc sc D _ HPL.out (by omega) HD3.out HS3.out).mono ?_
  rintro e w4 ⟨rfl, hb⟩
  have HI4 := Lib.hid (HI3.out.below hb)
  have HD4 := Lib.hid (HD3.out.below hb)
  have HB4 := Lib.hid (below_step HB3.out HB3.out.size hb)
  clear hb HI3 HD3 HS3 HB3
  go_wp2_with fail
  refine (specMapOk_gen _ n1 cp1 xa _ HN.out (by omega) HX.out HI4.out).mono ?_
  rintro e w5 ⟨rfl, hb⟩
  have HI5 := Lib.hid (HI4.out.below hb)
  have HD5 := Lib.hid (HD4.out.below hb)
  have HB5 := Lib.hid (below_step HB4.out HB4.out.size hb)
  clear hb HI4 HD4 HB4
  cases hok : mapOkB xa
  · have hp0 : p = 0 := by
      have h := HDE.out
      unfold becB at h
      rw [if_neg (by simp [hok])] at h
      rw [← HPL.out, h]
      rfl
    subst hp0
    clear hok
    go_wp2
    go_ret
    exact ⟨rfl, HB5.out⟩
  by_cases hm0 : mk < 0
  · have hp0 : p = 0 := by
      have h := HDE.out
      unfold becB at h
      rw [if_neg (by omega)] at h
      rw [← HPL.out, h]
      rfl
    subst hp0
    go_wp2
    go_ret
    exact ⟨rfl, HB5.out⟩
  have hm0' : 0 ≤ mk := by omega
  have HDL : Hid (D = becL xa mk) := by
    have h := HDE.out
    unfold becB at h
    rw [if_pos ⟨hok, hm0'⟩] at h
    exact h
  have HOK := Lib.hid hok
  have HDO := Lib.hid (implDepsOk_gen da D dc w5 (by rw [HPL.out]; omega) HD5.out)
  have hdo : depsOkB D = true := by rw [HDL.out]; exact becL_ok hok mk
  rw [hdo, HPL.out] at HDO
  clear hok hdo HDE
  go_wp2_with fail
  refine HDO.out.mono ?_
  rintro e w6 ⟨rfl, hb⟩
  have HI6 := Lib.hid (HI5.out.below hb)
  have HD6 := Lib.hid (HD5.out.below hb)
  have HB6 := Lib.hid (below_step HB5.out HB5.out.size hb)
  clear hb HI5 HD5 HB5 HDO
  go_wp2_with fail
  refine (specIsCut_any _ n1 cp1 xa _ HN.out (by omega) HX.out HI6.out).mono ?_
  rintro e w7 ⟨rfl, hb⟩
  have HI7 := Lib.hid (HI6.out.below hb)
  have HD7 := Lib.hid (HD6.out.below hb)
  have HB7 := Lib.hid (below_step HB6.out HB6.out.size hb)
  clear hb HI6 HD6 HB6
  obtain ⟨m21, hand, hm21, hsub⟩ := and21 hm0' hmk
  have HSUB := Lib.hid hsub
  have HFE := Lib.hid (fewer HOK.out (m1 := (m21 : Int)) (m2 := mk) fun k _ h => hsub k h)
  rw [← HDL.out] at HFE
  have HEL : Hid (becB xa (m21 : Int) = becL xa (m21 : Int)) := by unfold becB; rw [if_pos ⟨HOK.out, by omega⟩]; exact Lib.hid rfl
  rw [← HEL.out] at HFE
  clear hsub HEL
  have HGO : Hid (∀ (w8 : World), Below w7.heap.size w7 w8 → Calls Try.prog 7 #[.slice (some ⟨g1, 0, none⟩) n1 cp1, .int .i64 (m21 : Int)] w8 fun e w' => ∃ v, e = .returned v ∧ RowD w' w8.heap.size v (becB xa (m21 : Int)) ∧ Below w8.heap.size w8 w') := fun w8 h8 => implBecause_any _ n1 cp1 xa (m21 : Int) w8 HN.out (by omega) HX.out (HI7.out.below h8) (by omega)
  obtain ⟨E, hE⟩ : ∃ E, becB xa (m21 : Int) = E := ⟨_, rfl⟩
  rw [hE] at HFE HGO
  have hE42 : E.length ≤ p := by have := HFE.out.1; rw [HPL.out] at this; exact this
  clear hE
  have HLOOP : Hid (∀ e ∈ E, D.any (asLate e) = true) := fun e he => by
    obtain ⟨d, h1, h2, h3⟩ := HFE.out.2 e he
    rw [List.any_eq_true]
    exact ⟨d, h1, by unfold asLate; simp [h2, h3]⟩
  clear HFE
  obtain ⟨q, hq⟩ : ∃ q, E.length = q := ⟨_, rfl⟩
  rw [hq] at hE42
  have HQL := Lib.hid hq
  clear hq
  cases hcut : cutB xa
  case' true =>
    have HCV := Lib.hid (implCovered_any _ da n1 p cp1 dc xa D _ HN.out (by omega) HPL.out (by omega) HI7.out HD7.out)
    have hcv : covB xa D = true := by rw [HDL.out]; exact becL_cov hcut mk
    rw [hcv] at HCV
    clear hcv hcut
    go_wp2_with fail
    refine HCV.out.mono ?_
    rintro e w8 ⟨rfl, hb8⟩
    clear HCV
  case' false =>
    clear hcut
    obtain ⟨w8, hw8⟩ : ∃ w8, w8 = w7 := ⟨_, rfl⟩
    have hb8 : Below w7.heap.size w7 w8 := by rw [hw8]; exact Below.refl _ _
    rw [← hw8]
    clear hw8
  all_goals
    have HD8 := Lib.hid (HD7.out.below hb8)
    have HB8 := Lib.hid (below_step HB7.out HB7.out.size hb8)
    have HG8 := Lib.hid (HGO.out w8 hb8)
    clear hb8
    go_wp2_with fail
    refine HG8.out.mono ?_
    rintro e w9 ⟨v9, rfl, hrow, hb⟩
    obtain ⟨ea, ec, rfl, he9⟩ := hrow.form
    rw [HQL.out]
    have HD9 := Lib.hid (HD8.out.below hb)
    have HE9 := Lib.hid he9.isDeps
    have HB9 := Lib.hid (below_step HB8.out HB8.out.size hb)
    clear hb hrow he9 HG8
    go_wp2
    go_loopw [7] (fun i wr => ∃ k : Nat, k ≤ q ∧ i = .int .i64 k ∧ Hid (Below w9.heap.size w9 wr)) (fun i _ => q - (intOf i).toNat)
    case atStart => exact ⟨0, Nat.zero_le _, rfl, Below.refl _ _⟩
    case round =>
      obtain ⟨k, hk, rfl, HB⟩ := hrel
      by_cases hk' : k < q
      · have hkq : k < E.length := by rw [HQL.out]; exact hk'
        have i1 : (0 : Int) ≤ (k : Int) := by omega
        have i2 : (k : Int) < (q : Int) := by omega
        have HEA := Lib.hid (HLOOP.out (E.getD k dz) (by simp [List.getD, hkq]))
        have HEC : Hid (∀ w', Below w9.heap.size w9 w' → ∃ b o, ea = some ⟨b, o, none⟩ ∧ b < w'.heap.size ∧ w'.cell? ⟨b, o + k * 4, none⟩ = some (.int .i64 (E.getD k dz).k) ∧ w'.cell? ⟨b, o + k * 4 + 1, none⟩ = some (.int .i64 (E.getD k dz).c) ∧ w'.cell? ⟨b, o + k * 4 + 2, none⟩ = some (.int .i64 (E.getD k dz).s) ∧ w'.cell? ⟨b, o + k * 4 + 3, none⟩ = some (.int .i64 (E.getD k dz).q)) := fun w' hb' => HE9.out.at hb' hkq
        generalize E.getD k dz = ee at *
        obtain ⟨fk, fc, fs, fq⟩ := ee
        simp only at HEC
        go_wp2
        go_loopw [8, 9] (fun f i wq => ∃ (j : Nat) (fb : Bool), j ≤ p ∧ i = .int .i64 j ∧ f = .bool fb ∧ Hid (fb = (D.take j).any (asLate ⟨fk, fc, fs, fq⟩)) ∧ Hid (Below w9.heap.size w9 wq)) (fun _ i _ => p - (intOf i).toNat)
        case atStart => exact ⟨0, false, Nat.zero_le _, rfl, rfl, Lib.hid (by simp), HB⟩
        case round =>
          clear HB
          obtain ⟨j, fb, hj, rfl, rfl, HFB, HB⟩ := hrel
          by_cases hj' : j < p
          · have hjp : j < D.length := by rw [HPL.out]; exact hj'
            have j1 : (0 : Int) ≤ (j : Int) := by omega
            have j2 : (j : Int) < (p : Int) := by omega
            obtain ⟨b2, o2, rfl, hz2, f0, f1, f2, f3⟩ := HEC.out _ HB.out
            obtain ⟨b1, o1, rfl, hz1, e0, e1, e2, e3⟩ := HD9.out.at HB.out hjp
            have HT := Lib.hid (late_take ⟨fk, fc, fs, fq⟩ D j hjp)
            rw [← HFB.out] at HT
            generalize D.getD j dz = dd at *
            obtain ⟨yk, yc, ys, yq⟩ := dd
            simp only at e0 e1 e2 e3
            have ge0 := aft_cell hz1 e0
            have ge1 := aft_cell hz1 e1
            have ge2 := aft_cell hz1 e2
            have ge3 := aft_cell hz1 e3
            have gf0 := aft_cell hz2 f0
            have gf1 := aft_cell hz2 f1
            have gf2 := aft_cell hz2 f2
            have gf3 := aft_cell hz2 f3
            have ne := aft_some wr
            cases fb
            · by_cases hkk : yk = fk
              · subst hkk
                have hbq : (yk == yk) = true := by simp
                have HT2 : Hid (decide (0 ≤ tcmp yc ys yq fc fs fq) = (D.take (j + 1)).any (asLate ⟨yk, fc, fs, fq⟩)) := by rw [HT.out]; unfold asLate; exact Lib.hid (by simp)
                go_wp2_with fail
                refine wp_region_aft (by kernel_rfl) (by kernel_rfl) ?_
                repeat (first | go_big_quiet_step (first | (go_at_call 14; exact aft_of (specTagCmp_any _ _ _ _ _ _ _))))
                refine wpQuiet_nil ?_
                intro wq hq
                have HBQ := Lib.hid (below_step HB.out HB.out.size hq)
                clear hq ge0 ge1 ge2 ge3 gf0 gf1 gf2 gf3 ne
                go_wp2
                exact ⟨⟨j + 1, _, by omega, by go_num, rfl, HT2, HBQ⟩, by simp [intOf]; omega⟩
              · have hbq : (yk == fk) = false := by simpa using hkk
                have HT2 : Hid (false = (D.take (j + 1)).any (asLate ⟨fk, fc, fs, fq⟩)) := by rw [HT.out]; unfold asLate; exact Lib.hid (by simp [hkk])
                go_wp2_with fail
                refine wp_region_aft (by kernel_rfl) (by kernel_rfl) ?_
                repeat (first | go_big_quiet_step (fail))
                refine wpQuiet_nil ?_
                intro wq hq
                have HBQ := Lib.hid (below_step HB.out HB.out.size hq)
                clear hq ge0 ge1 ge2 ge3 gf0 gf1 gf2 gf3 ne
                go_wp2
                exact ⟨⟨j + 1, false, by omega, by go_num, rfl, HT2, HBQ⟩, by simp [intOf]; omega⟩
            · have HT2 : Hid (true = (D.take (j + 1)).any (asLate ⟨fk, fc, fs, fq⟩)) := by rw [HT.out]; exact Lib.hid (by simp)
              go_wp2_with fail
              refine wp_region_aft (by kernel_rfl) (by kernel_rfl) ?_
              repeat (first | go_big_quiet_step (fail))
              refine wpQuiet_nil ?_
              intro wq hq
              have HBQ := Lib.hid (below_step HB.out HB.out.size hq)
              clear hq ge0 ge1 ge2 ge3 gf0 gf1 gf2 gf3 ne
              go_wp2
              exact ⟨⟨j + 1, true, by omega, by go_num, rfl, HT2, HBQ⟩, by simp [intOf]; omega⟩
          · have hjj : j = p := by omega
            subst hjj
            have hft : fb = true := by
              have h := HFB.out
              rw [List.take_of_length_le (by rw [HPL.out]; exact Nat.le_refl _), HEA.out] at h
              exact h
            subst hft
            go_wp2
            exact ⟨⟨k + 1, by omega, by go_num, HB⟩, by simp [intOf]; omega⟩
      · have hkk : k = q := by omega
        subst hkk
        have HBE := Lib.hid (below_step HB9.out HB9.out.size HB.out)
        have hle : (k : Int) ≤ (p : Int) := by omega
        go_wp2
        go_ret
        exact ⟨by first | (simp; done) | (simp; omega), HBE.out⟩

set_option maxRecDepth 100000 in
theorem walk (a : Option Addr) (len cap : Nat) (w : World) (hr : len ≤ maxLen ∧ Bytes w a len) :
    Calls Try.prog 3 #[.slice a len cap] w fun e w' => e = .returned (.bool true) ∧ Below w.heap.size w w' := by
  by_cases h : 1048576 < len
  · exact walk_big a len cap w hr.1 h
  · exact walk_small a len cap w hr.2 (by omega)

set_option maxRecDepth 100000 in
theorem lifted (os : Os) (started : os.Started) (H : Type) (enc : TypeId × Value → H) :
    ReturnsInHanded {} Try.checked os 3 .any (Rows.fnBecauseSpec.pre6 enc Try.prog Try.f3 Rows.fnBecauseRow.domain false) (Rows.fnBecauseSpec.post enc Try.prog Try.f3 false true false false) := by
  refine returnsInHanded_of_change (C := Try.checked) own started (by kernel_rfl) Try.func3
    (ChangeSpec.witness6 (enc := enc) (C := Try.checked) false ⟨#[], #[.slice none 0 0], []⟩ 8 (by kernel_rfl) (by kernel_rfl) (by kernel_rfl) (by kernel_rfl)) ?_
  intro W base args ds gs before hval0 hW hcnd _
  have hval : ∀ (j : Nat) t v, Try.f3.params[j]? = some t → args[j]? = some v → Value.okWide Try.prog W .any base t v := hval0
  have hW' := hW
  obtain ⟨p, q, hA0, hV, rfl, hfz, hnd⟩ := hW
  have hA : DataW.TrodAll enc Try.prog W 0 (fun _ => true) true Try.f3.params.toList args.toList ds p := hA0
  rw [Try.params3] at hA hval
  obtain ⟨v0, d0, rfl, rfl, h0⟩ := trodAll_one hA
  have k0 := h0
  have lt0 : ∀ x ∈ p, x.block < W.heap.size := by obtain ⟨m, hm⟩ := k0; exact DataW.trod_lt m _ _ _ hm
  obtain ⟨rfl, rfl⟩ := trodVars_none hV
  obtain ⟨a0, len0, cap0, hv0, hr0⟩ := open_bytes (hval 0 22 v0 rfl rfl) h0
  subst hv0
  clear hA0 hval0
  refine (walk a0 len0 cap0 W hr0).mono fun e W' ⟨he, bel⟩ => ?_
  subst he
  exact ⟨_, rfl, _, _, _, [], _, [], hW', trodAll_mk1 (shut_bool Try.underlying4 _), (trodAll_mk1 (Below.trod laidOut (by kernel_rfl) (of_decide_eq_true (by kernel_rfl)) k0 bel lt0)), rfl, bel.frame _, fun h => by cases h⟩

set_option maxRecDepth 100000 in
theorem over : Rows.fnBecauseRow.holds Try.pinned (OpenSpec.ofChange Rows.fnBecauseSpec) :=
  OpenClaim.holds_of_wide 3 Try.f3 rfl rfl rfl rfl rfl rfl rfl ⟨rfl, rfl, rfl, rfl, rfl⟩ rfl rfl rfl rfl rfl (by kernel_rfl) Try.func3 (by kernel_rfl)
    (of_decide_eq_true (by kernel_rfl)) (by unfold Func.isWrapper; rw [if_neg (by decide +kernel)]; exact ⟨rfl, rfl⟩)
    (fun os started H enc _ => lifted os started H enc)

end Go.Proofs.Ytbbmpfkijhhemaa.lawFnBecause
namespace Go.Proofs.Ytbbmpfkijhhemaa
set_option maxRecDepth 100000 in
theorem fnBecause_holds : Rows.FnBecauseSaid := lawFnBecause.over
#print axioms fnBecause_holds
end Go.Proofs.Ytbbmpfkijhhemaa
