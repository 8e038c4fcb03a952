/- At every code the law FnWidest answers true: the widest of a cut is one, and has all of the cut; all that fits is covered in it, nothing that is held is. No conditions. -/
import Derived.Test.YtidpcjcnhklmpabGreatPack12
import Derived.Test.YtidpcjcnhklmpabGreatPack13
import Derived.Test.YtidpcjcnhklmpabGreatPack16
namespace Go.Proofs.YtidpcjcnhklmpabGreat.lawFnWidest
open Go.ChangeShapes Go.WideShapes Go.ChangeAt Go.RowKit Go.Joins
attribute [local go_sem ↓] Go.wp_at_zero Go.wp_at_succ

set_option maxRecDepth 100000 in
theorem big_is (a : Option Addr) (len cap : Nat) (r : Bool) (h : decide (1048576 < len) = r) (hm : len ≤ maxLen) (w : World) :
    Calls Tryz.prog 4 #[.slice a len cap] w fun e w' => e = .returned (.bool r) ∧ w' = w := by
  unfold maxLen at hm
  cases r
  · have h' : len ≤ 1048576 := by simpa using h
    clear h
    go_enter Tryz.func4, Tryz.ntmps4
    go_wp2
    go_ret
    exact ⟨by simp; omega, rfl⟩
  · have h' : 1048576 < len := by simpa using h
    clear h
    go_enter Tryz.func4, Tryz.ntmps4
    go_wp2
    go_ret
    exact ⟨by simp; omega, rfl⟩

set_option maxRecDepth 100000 in
theorem open_bytes {H : Type} {enc : TypeId × Value → H} {w : World} {base b0 : Nat} {held : Bool} {r : Go.Reach} {v : Value} {d : DataW H} {p : List MemPlace} (hv : Value.okWide Tryz.prog w r b0 22 v) (h : DataW.Trod enc Tryz.prog w base (fun _ => true) held 22 v d p) :
    ∃ (a : Option Addr) (len cap : Nat), v = .slice a len cap ∧ (len ≤ maxLen ∧ Bytes w a len) := by
  obtain ⟨a, len, cap, rfl⟩ := okWide_slice Tryz.underlying22 hv
  obtain ⟨fuel, hf⟩ := h
  refine ⟨a, len, cap, rfl, ?_⟩
  rcases open_ints Tryz.underlying22 Tryz.underlying5 (by kernel_rfl) hf with ⟨hcs, _⟩ | ⟨x, l, c, zs, hcs, _, hl, hm, hz, _, hcell, hwz⟩
  · simp [Value.cells] at hcs
    obtain ⟨rfl, rfl, rfl⟩ := hcs
    exact ⟨Nat.zero_le _, .inl rfl⟩
  · simp [Value.cells] at hcs
    obtain ⟨rfl, rfl, rfl⟩ := hcs
    refine ⟨by omega, ?_⟩
    by_cases h0 : len = 0
    · exact .inl h0
    · have hzl : zs.length = cap := by simpa using hz
      have hx : x = ⟨x.block, x.off, none⟩ := by
        have h1 := hcell 0 (by omega)
        simp [Addr.add] at h1
        cases x with
        | mk b o s =>
          cases s with
          | none => rfl
          | some s =>
            simp only [World.cell?] at h1
            split at h1 <;> simp at h1
      refine .inr ⟨x.block, x.off, by rw [← hx], ?_, fun i hi => ?_⟩
      · have h1 := hcell 0 (by omega)
        have := World.block_lt_of_cell? w _ h1
        simpa [Addr.add] using this
      · have h1 := hcell i (by omega)
        have hw : (Lit.int .u8 (zs.getD i 0)).wf = true := hwz _ (by rw [List.getD_eq_getElem?_getD, List.getElem?_eq_getElem (by omega)]; exact List.getElem_mem _)
        have hb := bounds_u8 hw
        refine ⟨zs.getD i 0, hb.1, hb.2, ?_⟩
        rw [hx] at h1
        have e : (Addr.mk x.block x.off none).add i = ⟨x.block, x.off + i, none⟩ := by
          unfold Addr.add
          split
          · rename_i h
            rw [h]
            rfl
          · rfl
        rw [e] at h1
        exact h1

set_option maxRecDepth 100000 in
set_option maxHeartbeats 1000000 in
theorem walk_big (a : Option Addr) (len cap : Nat) (w : World) (hm : len ≤ maxLen) (h : 1048576 < len) :
    Calls Tryz.prog 3 #[.slice a len cap] w fun e w' => e = .returned (.bool true) ∧ Below w.heap.size w w' := by
  have d1 : decide (1048576 < len) = true := by simpa using h
  clear h
  go_enter Tryz.func3, Tryz.ntmps3
  go_wp2_with (go_at_call 4; refine (big_is _ _ _ true d1 hm _).mono ?_; rintro e w1 ⟨rfl, rfl⟩)
  go_ret
  exact ⟨rfl, Below.refl _ _⟩

set_option maxRecDepth 100000 in
theorem same_is (r : Bool) (a b : Option Addr) (n m cap cap' : Nat) (us vs : List Wr) (h : sameB us vs = r) (w : World) (hn : us.length = n) (hm : vs.length = m) (hn1 : n ≤ 1048576) (hm1 : m ≤ 1048576) (hx : Few us) (hy : Few vs) (hi : IsWs w a us) (hj : IsWs w b vs) :
    Calls Tryz.prog 9 #[.slice a n cap, .slice b m cap'] w fun e w' => e = .returned (.bool r) ∧ Below w.heap.size w w' := by
  subst h
  exact sameWrites_gen a b n m cap cap' us vs w hn hm hn1 hm1 hx hy hi hj

set_option maxRecDepth 100000 in
theorem within_true (a b : Option Addr) (n m cap cap' : Nat) (us vs : List Wr) (h : withinB us vs = true) (w : World) (hn : us.length = n) (hm : vs.length = m) (hn1 : n ≤ 1048576) (hm1 : m ≤ 1048576) (hx : Few us) (hy : Few vs) (hi : IsWs w a us) (hj : IsWs w b vs) :
    Calls Tryz.prog 16 #[.slice a n cap, .slice b m cap'] w fun e w' => e = .returned (.bool true) ∧ Below w.heap.size w w' := by
  have := implWithin_any a b n m cap cap' us vs w hn hm hn1 hm1 hx hy hi hj
  rw [h] at this
  exact this

set_option maxRecDepth 100000 in
theorem implCut_is (r : Bool) (a : Option Addr) (n cap : Nat) (ws : List Wr) (h : cutB ws = r) (w : World) (hn : ws.length = n) (hm : n ≤ 1048576) (hx : Few ws) (hh : IsWs w a ws) :
    Calls Tryz.prog 17 #[.slice a n cap] w fun e w' => e = .returned (.bool r) ∧ Below w.heap.size w w' := by
  subst h
  exact implIsCut_any a n cap ws w hn hm hx hh

/-- Rows of writes that lie in a later world. -/
def AllW (w W : World) (A : List (Option Addr × List Wr)) : Prop := Below w.heap.size w W ∧ ∀ p ∈ A, IsWs W p.1 p.2

theorem AllW.step {w W W' : World} {A : List (Option Addr × List Wr)} (h : AllW w W A) (hb : Below W.heap.size W W') : AllW w W' A :=
  ⟨below_step h.1 h.1.size hb, fun p hp => (h.2 p hp).below hb⟩

theorem AllW.more {w W W' : World} {A : List (Option Addr × List Wr)} {a : Option Addr} {ws : List Wr} (h : AllW w W A) (hb : Below W.heap.size W W') (hi : IsWs W' a ws) : AllW w W' ((a, ws) :: A) :=
  ⟨(h.step hb).1, fun p hp => by
    rcases List.mem_cons.1 hp with rfl | hp
    · exact hi
    · exact (h.step hb).2 p hp⟩

set_option maxRecDepth 100000 in
set_option maxHeartbeats 16000000 in
theorem walk_small (a : Option Addr) (len cap : Nat) (w : World) (hy : Bytes w a len) (hl : len ≤ 1048576) :
    Calls Tryz.prog 3 #[.slice a len cap] w fun e w' => e = .returned (.bool true) ∧ Below w.heap.size w w' := by
  have HY : Hid (Bytes w a len) := hy
  have d1 : decide (1048576 < len) = false := by simp; omega
  clear hy
  go_enter Tryz.func3, Tryz.ntmps3
  go_wp2_with fail
  refine (big_is _ _ _ false d1 (by unfold maxLen; omega) _).mono ?_
  rintro e w ⟨rfl, rfl⟩
  clear d1
  go_wp2_with fail
  refine (drawWidest_any _ _ _ _ HY.out hl).mono ?_
  rintro e w1 ⟨v1, v2, es1, es2, rfl, ⟨g1, cp1, rfl, l1, f1, r1⟩, ⟨g2, cp2, rfl, l2, f2, r2⟩, hb1⟩
  have HX1 := Lib.hid (few_of f1)
  have HX2 := Lib.hid (few_of f2)
  have HA1 : Hid (AllW w w1 [(some ⟨g1, 0, none⟩, es1.map (·.x)), (some ⟨g2, 0, none⟩, es2.map (·.x))]) := ⟨hb1, fun p hp => by
    simp only [List.mem_cons, List.not_mem_nil, or_false] at hp
    rcases hp with rfl | rfl
    · exact (r1.holds rfl).isWs HX1.out
    · exact (r2.holds rfl).isWs HX2.out⟩
  clear f1 r1 f2 r2 hb1 HY
  have HN1 : Hid ((es1.map (·.x)).length = es1.length) := by simp [Hid]
  have HN2 : Hid ((es2.map (·.x)).length = es2.length) := by simp [Hid]
  generalize es1.map (·.x) = xa at *
  generalize es2.map (·.x) = xb at *
  generalize es1.length = n1 at *
  generalize es2.length = n2 at *
  have HWF : Hid (Few (widL xa xb)) := few_of_bulk (by have := mapOk_bulk (widL_mapOk xa xb); omega)
  have HWL : Hid ((widL xa xb).length ≤ 6) := mapOk_len (widL_mapOk xa xb)
  have HFF := Lib.hid (fitL_few (us := xa) HX2.out true)
  have HHF := Lib.hid (fitL_few (us := xa) HX2.out false)
  have HFL : Hid ((fitL xa xb true).length ≤ n2) := by
    have := fitL_len xa xb true
    rw [HN2.out] at this
    exact this
  have HHL : Hid ((fitL xa xb false).length ≤ n2) := by
    have := fitL_len xa xb false
    rw [HN2.out] at this
    exact this
  have HCF : Hid (∀ x ∈ fitL xa xb true, covB (widL xa xb) x.xs = true ∧ hasB (widL xa xb) x.k x.c x.s x.q = true) := fun x hx => fit_cov hx
  have HCH : Hid (∀ x ∈ fitL xa xb false, covB (widL xa xb) x.xs = false) := fun x hx => held_not hx
  have HRT : Hid (rightB xa xb = true → (fitL xa xb true).length + (fitL xa xb false).length = n2 ∧ withinB xa (widL xa xb) = true ∧ (cutB xa = true → cutB (widL xa xb) = true) ∧ (n2 = 0 → widL xa xb = xa)) := fun h => ⟨by rw [fit_sum h, HN2.out], wid_has h, wid_cut h, fun h0 => by
    have : xb = [] := List.length_eq_zero_iff.1 (by rw [HN2.out]; exact h0)
    subst this
    exact wid_nil h⟩
  have HRF : Hid (rightB xa xb = false → (fitL xa xb true).length = 0 ∧ (fitL xa xb false).length = 0 ∧ (widL xa xb).length = 0) := fun h => by
    rw [fitL_wrong h, fitL_wrong h, widL_wrong h]
    exact ⟨rfl, rfl, rfl⟩
  go_wp2_with fail
  refine (implWidest_any _ _ n1 n2 _ _ xa xb _ HN1.out HN2.out (by omega) HX1.out HX2.out (HA1.out.2 (some ⟨g1, 0, none⟩, xa) (by simp)) (HA1.out.2 (some ⟨g2, 0, none⟩, xb) (by simp))).mono ?_
  rintro e w2 ⟨v, es, rfl, hes, hrow, hbb⟩
  obtain ⟨aw, cw, Lw, rfl, hl', hg⟩ := hrow.ownA hes
  have HA2 := Lib.hid (HA1.out.more hbb (hg.isWs HWF.out))
  have HLW := Lib.hid hl'
  clear hbb hg hl' hrow hes HA1
  have hLw : Lw ≤ 6 := by rw [← HLW.out]; exact HWL.out
  go_wp2_with fail
  refine (implFitting_any _ _ n1 n2 _ _ xa xb _ HN1.out HN2.out (by omega) HX1.out HX2.out (HA2.out.2 (some ⟨g1, 0, none⟩, xa) (by simp)) (HA2.out.2 (some ⟨g2, 0, none⟩, xb) (by simp))).mono ?_
  rintro e w3 ⟨v, es, rfl, hes, hrow, hbb⟩
  obtain ⟨af, cf, Lf, rfl, hl', hg⟩ := hrow.ownA hes
  have HA3 := Lib.hid (HA2.out.more hbb (hg.isWs HFF.out))
  have HLF := Lib.hid hl'
  clear hbb hg hl' hrow hes HA2
  have hLf : Lf ≤ 40 := by have := HFL.out; rw [HLF.out] at this; omega
  go_wp2_with fail
  refine (implHeld_any _ _ n1 n2 _ _ xa xb _ HN1.out HN2.out (by omega) HX1.out HX2.out (HA3.out.2 (some ⟨g1, 0, none⟩, xa) (by simp)) (HA3.out.2 (some ⟨g2, 0, none⟩, xb) (by simp))).mono ?_
  rintro e w4 ⟨v, es, rfl, hes, hrow, hbb⟩
  obtain ⟨ah, ch, Lh, rfl, hl', hg⟩ := hrow.ownA hes
  have HA4 := Lib.hid (HA3.out.more hbb (hg.isWs HHF.out))
  have HLH := Lib.hid hl'
  clear hbb hg hl' hrow hes HA3
  have hLh : Lh ≤ 40 := by have := HHL.out; rw [HLH.out] at this; omega
  go_wp2_with fail
  refine (specWidest_any _ _ n1 n2 _ _ xa xb _ HN1.out HN2.out (by omega) HX1.out HX2.out (HA4.out.2 (some ⟨g1, 0, none⟩, xa) (by simp)) (HA4.out.2 (some ⟨g2, 0, none⟩, xb) (by simp))).mono ?_
  rintro e w5 ⟨gs, cs, ess, L5, rfl, hLs, hes, hrow, hbb⟩
  have HL5 : Hid ((widL xa xb).length = L5) := by
    rw [← hes, List.length_map]
    exact hLs
  have hL5 : L5 ≤ 6 := by rw [← HL5.out]; exact HWL.out
  have HS5 := Lib.hid ((hrow.holds hes).isWs HWF.out)
  have HA5 := Lib.hid (HA4.out.step hbb)
  clear hbb hrow hes hLs HA4
  go_wp2_with fail
  refine (same_is true _ _ Lw L5 _ _ _ _ ((same_iff _ _).2 rfl) _ HLW.out HL5.out (by omega) (by omega) HWF.out HWF.out (HA5.out.2 (aw, widL xa xb) (by simp)) HS5.out).mono ?_
  rintro e w6 ⟨rfl, hbb⟩
  have HA6 := Lib.hid (HA5.out.step hbb)
  clear hbb HA5 HS5 HL5 hL5
  go_wp2_with fail
  refine (specFitting_any _ _ n1 n2 _ _ xa xb _ HN1.out HN2.out (by omega) HX1.out HX2.out (HA6.out.2 (some ⟨g1, 0, none⟩, xa) (by simp)) (HA6.out.2 (some ⟨g2, 0, none⟩, xb) (by simp))).mono ?_
  rintro e w7 ⟨gs7, cs7, ess, L7, rfl, hLs, hes, hrow, hbb⟩
  have HL7 : Hid ((fitL xa xb true).length = L7) := by
    rw [← hes, List.length_map]
    exact hLs
  have hL7 : L7 ≤ 40 := by have := HFL.out; rw [HL7.out] at this; omega
  have HS7 := Lib.hid ((hrow.holds hes).isWs HFF.out)
  have HA7 := Lib.hid (HA6.out.step hbb)
  clear hbb hrow hes hLs HA6
  go_wp2_with fail
  refine (same_is true _ _ Lf L7 _ _ _ _ ((same_iff _ _).2 rfl) _ HLF.out HL7.out (by omega) (by omega) HFF.out HFF.out (HA7.out.2 (af, fitL xa xb true) (by simp)) HS7.out).mono ?_
  rintro e w8 ⟨rfl, hbb⟩
  have HA8 := Lib.hid (HA7.out.step hbb)
  clear hbb HA7 HS7 HL7 hL7
  go_wp2_with fail
  refine (specHeld_any _ _ n1 n2 _ _ xa xb _ HN1.out HN2.out (by omega) HX1.out HX2.out (HA8.out.2 (some ⟨g1, 0, none⟩, xa) (by simp)) (HA8.out.2 (some ⟨g2, 0, none⟩, xb) (by simp))).mono ?_
  rintro e w9 ⟨gs9, cs9, ess, L9, rfl, hLs, hes, hrow, hbb⟩
  have HL9 : Hid ((fitL xa xb false).length = L9) := by
    rw [← hes, List.length_map]
    exact hLs
  have hL9 : L9 ≤ 40 := by have := HHL.out; rw [HL9.out] at this; omega
  have HS9 := Lib.hid ((hrow.holds hes).isWs HHF.out)
  have HA9 := Lib.hid (HA8.out.step hbb)
  clear hbb hrow hes hLs HA8
  go_wp2_with fail
  refine (same_is true _ _ Lh L9 _ _ _ _ ((same_iff _ _).2 rfl) _ HLH.out HL9.out (by omega) (by omega) HHF.out HHF.out (HA9.out.2 (ah, fitL xa xb false) (by simp)) HS9.out).mono ?_
  rintro e w10 ⟨rfl, hbb⟩
  have HA := Lib.hid (HA9.out.step hbb)
  clear hbb HA9 HS9 HL9 hL9
  have HFL2 := HFL
  clear HFL HHL
  by_cases h0 : Lf + Lh = 0
  · have hf0 : Lf = 0 := by omega
    have hh0 : Lh = 0 := by omega
    subst hf0
    subst hh0
    clear h0 hLf hLh
    cases hr : rightB xa xb
    · have hw0 : Lw = 0 := by rw [← HLW.out]; exact (HRF.out hr).2.2
      subst hw0
      by_cases h2 : n2 = 0
      · subst h2
        cases hs : sameB (widL xa xb) xa
        · go_wp2_with fail
          refine (same_is false _ _ 0 n1 _ _ _ _ hs _ HLW.out HN1.out (by omega) (by omega) HWF.out HX1.out (HA.out.2 (aw, widL xa xb) (by simp)) (HA.out.2 (some ⟨g1, 0, none⟩, xa) (by simp))).mono ?_
          rintro e w11 ⟨rfl, hbb⟩
          have HB := Lib.hid (HA.out.step hbb).1
          clear hbb
          go_wp2
          go_ret
          exact ⟨rfl, HB.out⟩
        · go_wp2_with fail
          refine (same_is true _ _ 0 n1 _ _ _ _ hs _ HLW.out HN1.out (by omega) (by omega) HWF.out HX1.out (HA.out.2 (aw, widL xa xb) (by simp)) (HA.out.2 (some ⟨g1, 0, none⟩, xa) (by simp))).mono ?_
          rintro e w11 ⟨rfl, hbb⟩
          have HB := Lib.hid (HA.out.step hbb).1
          clear hbb
          go_wp2
          go_ret
          exact ⟨rfl, HB.out⟩
      · have i1 : ¬ (n2 : Int) = 0 := by omega
        have i2 : ((n2 : Int) == 0) = false := by simp; omega
        have HB := Lib.hid HA.out.1
        go_wp2
        go_ret
        exact ⟨rfl, HB.out⟩
    · have h2 : n2 = 0 := by
        have := (HRT.out hr).1
        rw [HLF.out, HLH.out] at this
        omega
      have hs : sameB (widL xa xb) xa = true := (same_iff _ _).2 ((HRT.out hr).2.2.2 h2)
      subst h2
      go_wp2_with fail
      refine (same_is true _ _ Lw n1 _ _ _ _ hs _ HLW.out HN1.out (by omega) (by omega) HWF.out HX1.out (HA.out.2 (aw, widL xa xb) (by simp)) (HA.out.2 (some ⟨g1, 0, none⟩, xa) (by simp))).mono ?_
      rintro e w11 ⟨rfl, hbb⟩
      have HB := Lib.hid (HA.out.step hbb).1
      clear hbb
      go_wp2
      go_ret
      exact ⟨rfl, HB.out⟩
  · have hr : rightB xa xb = true := by
      cases hr : rightB xa xb
      · have := HRF.out hr
        rw [HLF.out, HLH.out] at this
        omega
      · rfl
    obtain ⟨hsum, hwi, hcut, _⟩ := HRT.out hr
    rw [HLF.out, HLH.out] at hsum
    have HWI := Lib.hid hwi
    have HCU := Lib.hid hcut
    have HSU := Lib.hid hsum
    clear hsum hwi hcut hr HRT HRF
    have j1 : ¬ (Lf : Int) + (Lh : Int) = 0 := by omega
    have j2 : ((Lf : Int) + (Lh : Int) == 0) = false := by simp; omega
    go_wp2
    clear j1 j2
    go_loopw [8] (fun i wr => ∃ k : Nat, k ≤ Lf ∧ i = .int .i64 k ∧ Hid (AllW w wr [(ah, fitL xa xb false), (af, fitL xa xb true), (aw, widL xa xb), (some ⟨g1, 0, none⟩, xa), (some ⟨g2, 0, none⟩, xb)])) (fun i _ => Lf - (intOf i).toNat)
    case atStart => exact ⟨0, Nat.zero_le _, rfl, HA⟩
    case round =>
      clear HA
      obtain ⟨k, hk, rfl, HA⟩ := hrel
      by_cases hk' : k < Lf
      · have hkl : k < (fitL xa xb true).length := by rw [HLF.out]; exact hk'
        obtain ⟨hcv, hhs⟩ := HCF.out _ (getV_mem hkl)
        have hxl := HFF.out k hkl
        obtain ⟨b1, o1, ad, cp, rfl, hz, ⟨e0, e1, e2, e3, e4, e5, e6⟩, hd⟩ := (HA.out.2 (af, fitL xa xb true) (by simp)).at (Below.refl _ _) HLF.out hk'
        have i1 : (0 : Int) ≤ (k : Int) := by omega
        have i2 : (k : Int) < (Lf : Int) := by omega
        clear hkl
        generalize (fitL xa xb true).getD k wz = x at e0 e1 e2 e3 e4 e5 e6 hcv hhs hxl hd
        obtain ⟨xk, xc, xs', xq, xv, xd, xx⟩ := x
        simp only at e0 e1 e2 e3 e4 e5 e6 hcv hhs hxl hd
        have HC : Hid (∀ p : Aft wr.heap.size wr, Calls Tryz.prog 14 #[.slice aw Lw cw, .slice ad xx.length cp] p.now fun e w' => e = .returned (.bool true) ∧ Below p.now.heap.size p.now w') := fun p => by
          have := implCovered_any aw ad Lw xx.length cw cp (widL xa xb) xx p.now HLW.out (by omega) rfl hxl ((HA.out.2 (aw, widL xa xb) (by simp)).below p.below) (hd.below p.below)
          rw [hcv] at this
          exact this
        have HM : Hid (∀ p : Aft wr.heap.size wr, Calls Tryz.prog 15 #[.slice aw Lw cw, .int .i64 xk, tagV xc xs' xq] p.now fun e w' => e = .returned (.bool true) ∧ Below p.now.heap.size p.now w') := fun p => by
          have := implMapHas_any aw Lw cw xk xc xs' xq (widL xa xb) p.now HLW.out (by omega) ((HA.out.2 (aw, widL xa xb) (by simp)).below p.below)
          rw [hhs] at this
          exact this
        clear hcv hhs hd
        go_wp2_with fail
        have ge0 := aft_cell hz e0
        have ge1 := aft_cell hz e1
        have ge2 := aft_cell hz e2
        have ge3 := aft_cell hz e3
        have ge6 := aft_cell hz e6
        have ne := aft_some wr
        refine wp_region_aft (by kernel_rfl) (by kernel_rfl) ?_
        repeat (first | go_big_quiet_step (first | (go_at_call 14; exact aft_of (HC.out _)) | (go_at_call 15; exact aft_of (HM.out _))))
        refine wpQuiet_nil ?_
        intro wq hq
        have HAq := Lib.hid (HA.out.step hq)
        clear hq ge0 ge1 ge2 ge3 ge6 ne HC HM HA
        go_wp2
        exact ⟨⟨k + 1, by omega, by go_num, HAq⟩, by simp [intOf]; omega⟩
      · have hke : k = Lf := by omega
        subst hke
        clear hk hk'
        go_wp2
        go_loopw [9] (fun i wr => ∃ k : Nat, k ≤ Lh ∧ i = .int .i64 k ∧ Hid (AllW w wr [(ah, fitL xa xb false), (af, fitL xa xb true), (aw, widL xa xb), (some ⟨g1, 0, none⟩, xa), (some ⟨g2, 0, none⟩, xb)])) (fun i _ => Lh - (intOf i).toNat)
        case atStart => exact ⟨0, Nat.zero_le _, rfl, HA⟩
        case round =>
          clear HA
          obtain ⟨k2, hk, rfl, HA⟩ := hrel
          by_cases hk' : k2 < Lh
          · have hkl : k2 < (fitL xa xb false).length := by rw [HLH.out]; exact hk'
            have hcv := HCH.out _ (getV_mem hkl)
            have hxl := HHF.out k2 hkl
            obtain ⟨b1, o1, ad, cp, rfl, hz, ⟨e0, e1, e2, e3, e4, e5, e6⟩, hd⟩ := (HA.out.2 (ah, fitL xa xb false) (by simp)).at (Below.refl _ _) HLH.out hk'
            have i1 : (0 : Int) ≤ (k2 : Int) := by omega
            have i2 : (k2 : Int) < (Lh : Int) := by omega
            clear hkl e0 e1 e2 e3 e4 e5
            generalize (fitL xa xb false).getD k2 wz = x at e6 hcv hxl hd
            obtain ⟨xk, xc, xs', xq, xv, xd, xx⟩ := x
            simp only at e6 hcv hxl hd
            have HC := Lib.hid (implCovered_any aw ad Lw xx.length cw cp (widL xa xb) xx _ HLW.out (by omega) rfl hxl (HA.out.2 (aw, widL xa xb) (by simp)) hd)
            rw [hcv] at HC
            clear hcv hd
            go_wp2_with fail
            refine HC.out.mono ?_
            rintro e wq ⟨rfl, hq⟩
            have HAq := Lib.hid (HA.out.step hq)
            clear hq HC HA
            go_wp2
            exact ⟨⟨k2 + 1, by omega, by go_num, HAq⟩, by simp [intOf]; omega⟩
          · have hke : k2 = Lh := by omega
            subst hke
            clear hk hk'
            have j4 : (k : Int) + (k2 : Int) = (n2 : Int) := by have := HSU.out; omega
            have j5 : ((k : Int) + (k2 : Int) == (n2 : Int)) = true := by rw [j4]; simp
            go_wp2_with fail
            refine (within_true _ _ n1 Lw _ _ _ _ HWI.out _ HN1.out HLW.out (by omega) (by omega) HX1.out HWF.out (HA.out.2 (some ⟨g1, 0, none⟩, xa) (by simp)) (HA.out.2 (aw, widL xa xb) (by simp))).mono ?_
            rintro e w12 ⟨rfl, hbb⟩
            have HA12 := Lib.hid (HA.out.step hbb)
            clear hbb HA
            cases hc : cutB xa
            · go_wp2_with fail
              refine (implCut_is false _ n1 _ _ hc _ HN1.out (by omega) HX1.out (HA12.out.2 (some ⟨g1, 0, none⟩, xa) (by simp))).mono ?_
              rintro e w13 ⟨rfl, hbb⟩
              have HB := Lib.hid (HA12.out.step hbb).1
              clear hbb
              go_wp2
              go_ret
              exact ⟨rfl, HB.out⟩
            · go_wp2_with fail
              refine (implCut_is true _ n1 _ _ hc _ HN1.out (by omega) HX1.out (HA12.out.2 (some ⟨g1, 0, none⟩, xa) (by simp))).mono ?_
              rintro e w13 ⟨rfl, hbb⟩
              have HA13 := Lib.hid (HA12.out.step hbb)
              clear hbb HA12
              go_wp2_with fail
              refine (implCut_is true _ Lw _ _ (HCU.out hc) _ HLW.out (by omega) HWF.out (HA13.out.2 (aw, widL xa xb) (by simp))).mono ?_
              rintro e w14 ⟨rfl, hbb⟩
              have HB := Lib.hid (HA13.out.step hbb).1
              clear hbb
              go_wp2
              go_ret
              exact ⟨rfl, HB.out⟩

set_option maxRecDepth 100000 in
theorem walk (a : Option Addr) (len cap : Nat) (w : World) (hr : len ≤ maxLen ∧ Bytes w a len) :
    Calls Tryz.prog 3 #[.slice a len cap] w fun e w' => e = .returned (.bool true) ∧ Below w.heap.size w w' := by
  by_cases h : 1048576 < len
  · exact walk_big a len cap w hr.1 h
  · exact walk_small a len cap w hr.2 (by omega)

set_option maxRecDepth 100000 in
theorem lifted (os : Os) (started : os.Started) (H : Type) (enc : TypeId × Value → H) :
    ReturnsInHanded {} Tryz.checked os 3 .any (Rows.fnWidestSpec.pre6 enc Tryz.prog Tryz.f3 Rows.fnWidestRow.domain false) (Rows.fnWidestSpec.post enc Tryz.prog Tryz.f3 false true false false) := by
  refine returnsInHanded_of_change (C := Tryz.checked) own started (by kernel_rfl) Tryz.func3
    (ChangeSpec.witness6 (enc := enc) (C := Tryz.checked) false ⟨#[], #[.slice none 0 0], []⟩ 8 (by kernel_rfl) (by kernel_rfl) (by kernel_rfl) (by kernel_rfl)) ?_
  intro W base args ds gs before hval0 hW hcnd _
  have hval : ∀ (j : Nat) t v, Tryz.f3.params[j]? = some t → args[j]? = some v → Value.okWide Tryz.prog W .any base t v := hval0
  have hW' := hW
  obtain ⟨p, q, hA0, hV, rfl, hfz, hnd⟩ := hW
  have hA : DataW.TrodAll enc Tryz.prog W 0 (fun _ => true) true Tryz.f3.params.toList args.toList ds p := hA0
  rw [Tryz.params3] at hA hval
  obtain ⟨v0, d0, rfl, rfl, h0⟩ := trodAll_one hA
  have k0 := h0
  have lt0 : ∀ x ∈ p, x.block < W.heap.size := by obtain ⟨m, hm⟩ := k0; exact DataW.trod_lt m _ _ _ hm
  obtain ⟨rfl, rfl⟩ := trodVars_none hV
  obtain ⟨a0, len0, cap0, hv0, hr0⟩ := open_bytes (hval 0 22 v0 rfl rfl) h0
  subst hv0
  clear hA0 hval0
  refine (walk a0 len0 cap0 W hr0).mono fun e W' ⟨he, bel⟩ => ?_
  subst he
  exact ⟨_, rfl, _, _, _, [], _, [], hW', trodAll_mk1 (shut_bool Tryz.underlying4 _), (trodAll_mk1 (Below.trod laidOut (by kernel_rfl) (of_decide_eq_true (by kernel_rfl)) k0 bel lt0)), rfl, bel.frame _, fun h => by cases h⟩

set_option maxRecDepth 100000 in
theorem over : Rows.fnWidestRow.holds Tryz.pinned (OpenSpec.ofChange Rows.fnWidestSpec) :=
  OpenClaim.holds_of_wide 3 Tryz.f3 rfl rfl rfl rfl rfl rfl rfl ⟨rfl, rfl, rfl, rfl, rfl⟩ rfl rfl rfl rfl rfl (by kernel_rfl) Tryz.func3 (by kernel_rfl)
    (of_decide_eq_true (by kernel_rfl)) (by unfold Func.isWrapper; rw [if_neg (by decide +kernel)]; exact ⟨rfl, rfl⟩)
    (fun os started H enc _ => lifted os started H enc)

end Go.Proofs.YtidpcjcnhklmpabGreat.lawFnWidest
namespace Go.Proofs.YtidpcjcnhklmpabGreat
set_option maxRecDepth 100000 in
theorem fnWidest_holds : Rows.FnWidestSaid := lawFnWidest.over
#print axioms fnWidest_holds
end Go.Proofs.YtidpcjcnhklmpabGreat
