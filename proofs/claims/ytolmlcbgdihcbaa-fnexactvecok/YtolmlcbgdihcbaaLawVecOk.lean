/- At every vector the law FnExactVecOk answers true: impl.VecOk answers as spec.VecOk and leaves the vector as it was. No conditions. -/
import Derived.Test.YtolmlcbgdihcbaaPack2
import Derived.Test.YtolmlcbgdihcbaaRows
import Derived.Deep.RegionHeld3
namespace Go.Proofs.Ytolmlcbgdihcbaa.lawVecOk
open Go.ChangeShapes Go.WideShapes Go.ChangeAt Go.RowKit Go.Joins
attribute [local go_sem ↓] Go.wp_at_zero Go.wp_at_succ

set_option maxHeartbeats 1000000 in
theorem walk_big (a : Option Addr) (len cap : Nat) (w : World) (hm : len ≤ maxLen) (h : 1048576 < len) :
    Calls Try.prog 3 #[vecV a len cap] w fun e w' => e = .returned (.bool true) ∧ Below w.heap.size w w' := by
  go_enter Try.func3, Try.ntmps3
  go_wp2_with fail
  refine (szVec_big _ _ _ _ _ (by omega) (by omega) (by omega) hm).mono ?_
  rintro e w1 ⟨rfl, hb⟩
  have HB : Hid (Below w.heap.size w w1) := below_step ((Below.refl _ _).alloc (Nat.le_refl _) _) (by simp) hb
  clear hb
  go_wp2
  go_ret
  exact ⟨rfl, HB.out⟩

set_option maxRecDepth 100000 in
set_option maxHeartbeats 2000000 in
theorem walk_small (a : Option Addr) (n cap : Nat) (zs : List Int) (w : World) (hl : zs.length = n) (hi : IsIs w a zs) (h : n ≤ 1048576) :
    Calls Try.prog 3 #[vecV a n cap] w fun e w' => e = .returned (.bool true) ∧ Below w.heap.size w w' := by
  have HI : Hid (IsIs w a zs) := hi
  have HN : Hid (zs.length = n) := hl
  have hm : n ≤ maxLen := by unfold maxLen; omega
  clear hi hl
  go_enter Try.func3, Try.ntmps3
  go_wp2_with fail
  refine (szVec_small _ _ _ _ _ (by omega) (by omega) (by omega)).mono ?_
  rintro e w1 ⟨rfl, hb⟩
  have HB1 : Hid (Below w.heap.size w w1) := below_step ((Below.refl _ _).alloc (Nat.le_refl _) _) (by simp) hb
  have b1 : w1.cell? ⟨w.heap.size, 0, none⟩ = some (.slice a n cap) := (hb.cell (p := ⟨w.heap.size, 0, none⟩) (by simp)).trans (by go_simp)
  have z1 : w.heap.size < w1.heap.size := by have := hb.size; simp at this; omega
  clear hb
  go_wp2_with fail
  refine (toVec_own a n cap zs _ HN.out h (HI.out.below HB1.out)).mono ?_
  rintro e w2 ⟨g2, rfl, ho2, hb⟩
  have HB2 : Hid (Below w.heap.size w w2) := below_step HB1.out HB1.out.size hb
  have b2 : w2.cell? ⟨w.heap.size, 0, none⟩ = some (.slice a n cap) := (hb.cell (p := ⟨w.heap.size, 0, none⟩) z1).trans b1
  have z2 : w.heap.size < w2.heap.size := Nat.lt_of_lt_of_le z1 hb.size
  have HO2 := Lib.hid ho2.isIs
  clear hb ho2 b1 z1 HB1
  go_wp2_with fail
  refine (specVecOk_any _ n n zs _ HN.out hm HO2.out).mono ?_
  rintro e w3 ⟨rfl, hb⟩
  have HB3 : Hid (Below w.heap.size w w3) := below_step HB2.out HB2.out.size hb
  have b3 : w3.cell? ⟨w.heap.size, 0, none⟩ = some (.slice a n cap) := (hb.cell (p := ⟨w.heap.size, 0, none⟩) z2).trans b2
  have z3 : w.heap.size < w3.heap.size := Nat.lt_of_lt_of_le z2 hb.size
  clear hb b2 z2 HB2 HO2
  go_wp2_with fail
  refine (toVec_own a n cap zs _ HN.out h (HI.out.below HB3.out)).mono ?_
  rintro e w4 ⟨g4, rfl, ho4, hb⟩
  have HB4 : Hid (Below w.heap.size w w4) := below_step HB3.out HB3.out.size hb
  have b4 : w4.cell? ⟨w.heap.size, 0, none⟩ = some (.slice a n cap) := (hb.cell (p := ⟨w.heap.size, 0, none⟩) z3).trans b3
  have z4 : w.heap.size < w4.heap.size := Nat.lt_of_lt_of_le z3 hb.size
  have HO4 := Lib.hid ho4.isInts
  clear hb ho4 b3 z3 HB3
  go_wp2_with fail
  have HA4 : Hid (Below w4.heap.size w4 (w4.alloc (.cells #[.slice (some ⟨g4, 0, none⟩) n n] 27))) := (Below.refl _ _).alloc (Nat.le_refl _) _
  refine (implVecOk_any _ n n zs _ HN.out hm (HO4.out.isIs.below HA4.out)).mono ?_
  rintro e w5 ⟨rfl, hb⟩
  have HS5 : Hid (Below w4.heap.size w4 w5) := below_step HA4.out HA4.out.size hb
  have HB5 : Hid (Below w.heap.size w w5) := below_step HB4.out HB4.out.size HS5.out
  have b5 : w5.cell? ⟨w.heap.size, 0, none⟩ = some (.slice a n cap) := (HS5.out.cell (p := ⟨w.heap.size, 0, none⟩) z4).trans b4
  have z5 : w.heap.size < w5.heap.size := Nat.lt_of_lt_of_le z4 HS5.out.size
  have c5 : w5.cell? ⟨w4.heap.size, 0, none⟩ = some (.slice (some ⟨g4, 0, none⟩) n n) := (hb.cell (p := ⟨w4.heap.size, 0, none⟩) (by simp)).trans (by go_simp)
  have y5 : w4.heap.size < w5.heap.size := by have := hb.size; simp at this; omega
  have HO5 : Hid (IsInts w5 (some ⟨g4, 0, none⟩) zs) := HO4.out.below HS5.out
  clear hb HA4 HS5 b4 z4 HB4 HO4
  go_wp2_with fail
  go_region_held3 (fun w' => w'.cell? ⟨w.heap.size, 0, none⟩ = some (.slice a n cap) ∧ w'.cell? ⟨w4.heap.size, 0, none⟩ = some (.slice (some ⟨g4, 0, none⟩) n n) ∧ w.heap.size < w'.heap.size ∧ w4.heap.size < w'.heap.size ∧ Below w.heap.size w w' ∧ IsInts w' (some ⟨g4, 0, none⟩) zs)
    (first | exact ⟨b5, c5, z5, y5, HB5.out.drew, HO5.out⟩ | (go_split_ands; refine ⟨?_, ?_, ?_, ?_, ?_, ?_⟩ <;> first | exact held_cell (by assumption) (by assumption) (by omega) | exact Nat.lt_of_lt_of_le (by assumption) (Below.size (by assumption)) | exact below_step (by assumption) (by omega) (by assumption) | exact IsInts.below (by assumption) (by assumption)))
    (first | (go_at_call 11; refine (toVec_own a n cap zs _ HN.out h (HI.out.below HB5.out.drew)).mono ?_; rintro e w7 ⟨g7, rfl, ho7, hb7⟩) | (go_at_call 13; refine (eqVec_same _ _ n n n zs _ HN.out h ((show IsInts w5.drew (some ⟨g4, 0, none⟩) zs from HO5.out).below hb7) ho7.isInts).mono ?_; rintro e w8 ⟨rfl, hb8⟩))
  obtain ⟨-, -, -, -, HB0, -⟩ := ‹_ ∧ _›
  have HB : Hid (Below w.heap.size w w8) := HB0
  clear HB0 hb8 hb7
  go_wp2
  go_ret
  exact ⟨rfl, HB.out⟩

theorem walk (a : Option Addr) (len cap : Nat) (zs : List Int) (w : World) (hr : VecIn w a len zs) :
    Calls Try.prog 3 #[vecV a len cap] w fun e w' => e = .returned (.bool true) ∧ Below w.heap.size w w' := by
  obtain ⟨h1, h2, h3, _⟩ := hr
  by_cases h : len ≤ 1048576
  · exact walk_small a len cap zs w h1 h3 h
  · exact walk_big a len cap w h2 (by omega)

set_option maxRecDepth 100000 in
theorem lifted (os : Os) (started : os.Started) (H : Type) (enc : TypeId × Value → H) :
    ReturnsInHanded {} Try.checked os 3 .any (Rows.fnExactVecOkSpec.pre6 enc Try.prog Try.f3 Rows.fnExactVecOkRow.domain false) (Rows.fnExactVecOkSpec.post enc Try.prog Try.f3 false true false false) := by
  refine returnsInHanded_of_change (C := Try.checked) own started (by kernel_rfl) Try.func3
    (ChangeSpec.witness6 (enc := enc) (C := Try.checked) false ⟨#[], #[.agg #[.slice none 0 0]], []⟩ 8 (by kernel_rfl) (by kernel_rfl) (by kernel_rfl) (by kernel_rfl)) ?_
  intro W base args ds gs before hval0 hW hcnd _
  have hval : ∀ (j : Nat) t v, Try.f3.params[j]? = some t → args[j]? = some v → Value.okWide Try.prog W .any base t v := hval0
  have hW' := hW
  obtain ⟨p, q, hA0, hV, rfl, hfz, hnd⟩ := hW
  have hA : DataW.TrodAll enc Try.prog W 0 (fun _ => true) true Try.f3.params.toList args.toList ds p := hA0
  rw [Try.params3] at hA hval
  obtain ⟨v0, d0, rfl, rfl, h0⟩ := trodAll_one hA
  have k0 := h0
  have lt0 : ∀ x ∈ p, x.block < W.heap.size := by obtain ⟨m, hm⟩ := k0; exact DataW.trod_lt m _ _ _ hm
  obtain ⟨rfl, rfl⟩ := trodVars_none hV
  obtain ⟨a0, len0, cap0, zs0, hv0, hr0⟩ := open_vec (hval 0 24 v0 rfl rfl) h0
  subst hv0
  clear hA0 hval0
  refine (walk a0 len0 cap0 zs0 W hr0).mono fun e W' ⟨he, bel⟩ => ?_
  subst he
  exact ⟨_, rfl, _, _, _, [], _, [], hW', trodAll_mk1 (shut_bool Try.underlying4 _), (trodAll_mk1 (Below.trod laidOut (by kernel_rfl) (of_decide_eq_true (by kernel_rfl)) k0 bel lt0)), rfl, bel.frame _, fun h => by cases h⟩

theorem over : Rows.fnExactVecOkRow.holds Try.pinned (OpenSpec.ofChange Rows.fnExactVecOkSpec) :=
  OpenClaim.holds_of_wide 3 Try.f3 rfl rfl rfl rfl rfl rfl rfl ⟨rfl, rfl, rfl, rfl, rfl⟩ rfl rfl rfl rfl rfl (by kernel_rfl) Try.func3 (by kernel_rfl)
    (of_decide_eq_true (by kernel_rfl)) (by unfold Func.isWrapper; rw [if_neg (by decide +kernel)]; exact ⟨rfl, rfl⟩)
    (fun os started H enc _ => lifted os started H enc)

end Go.Proofs.Ytolmlcbgdihcbaa.lawVecOk
namespace Go.Proofs.Ytolmlcbgdihcbaa
theorem fnExactVecOk_holds : Rows.FnExactVecOkSaid := lawVecOk.over
#print axioms fnExactVecOk_holds
end Go.Proofs.Ytolmlcbgdihcbaa
