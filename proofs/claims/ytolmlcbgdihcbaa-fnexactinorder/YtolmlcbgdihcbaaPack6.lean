/- Posts: the contracts of the laws' toPost, szPost, eqPost. -/
import Derived.Test.YtolmlcbgdihcbaaPack5
namespace Go.Proofs.Ytolmlcbgdihcbaa
open Go.ChangeShapes Go.WideShapes Go.ChangeAt Go.RowKit Go.Joins
attribute [local go_sem ↓] Go.wp_at_zero Go.wp_at_succ

theorem szPost_small (f : Int) (a : Option Addr) (len cap : Nat) (y left : Int) (w : World) (h0 : 0 ≤ left) (h1 : left ≤ 1048576) (h : (len : Int) ≤ left) :
    Calls Try.prog 22 #[postV f a len cap y, .int .i64 left] w fun e w' => e = .returned (.int .i64 (left - len)) ∧ Below w.heap.size w w' := by
  go_enter Try.func22, Try.ntmps22
  go_wp2_with (go_at_call 34; refine (szIntS_small _ _ _ _ _ h0 h1 h).mono ?_; rintro e w' ⟨rfl, rfl⟩)
  go_ret
  exact ⟨rfl, (Below.refl _ _).alloc (Nat.le_refl _) _⟩

theorem szPost_big (f : Int) (a : Option Addr) (len cap : Nat) (y left : Int) (w : World) (h0 : 0 ≤ left) (h1 : left ≤ 1048576) (h : left < (len : Int)) (hm : len ≤ maxLen) :
    Calls Try.prog 22 #[postV f a len cap y, .int .i64 left] w fun e w' => e = .returned (.int .i64 (-1)) ∧ Below w.heap.size w w' := by
  go_enter Try.func22, Try.ntmps22
  go_wp2_with (go_at_call 34; refine (szIntS_big _ _ _ _ _ h0 h1 h hm).mono ?_; rintro e w' ⟨rfl, rfl⟩)
  go_ret
  exact ⟨rfl, (Below.refl _ _).alloc (Nat.le_refl _) _⟩

set_option maxRecDepth 100000 in
set_option maxHeartbeats 2000000 in
theorem toPost_own (f : Int) (a : Option Addr) (n cap : Nat) (y : Int) (zs : List Int) (w : World) (hl : zs.length = n) (hn : n ≤ 1048576) (hh : IsIs w a zs) :
    Calls Try.prog 24 #[postV f a n cap y] w fun e w' => ∃ g, e = .returned (postV f (some ⟨g, 0, none⟩) n n y) ∧ OwnI w' w.heap.size w'.heap.size (some ⟨g, 0, none⟩) zs ∧ Below w.heap.size w w' := by
  have HH : Hid (IsIs w a zs) := hh
  have HN : Hid (zs.length = n) := hl
  clear hh hl
  go_enter Try.func24, Try.ntmps24
  go_wp2_with fail
  have HB0 : Hid (Below w.heap.size w (((w.alloc (.cells #[.int .i64 f, .slice a n cap, .int .i64 y] 39)).alloc (.cells #[.int .i64 0, .slice none 0 0, .int .i64 0] 42)).alloc (.cells #[.int .i64 f, .slice none 0 0, .int .i64 0] 42))) := (((Below.refl _ _).alloc (Nat.le_refl _) _).alloc (by simp) _).alloc (by simp; omega) _
  refine (toIntS_lt a n cap zs _ HN.out hn (HH.out.below HB0.out)).mono ?_
  rintro e w1 ⟨rfl, hlt, ho, hb⟩
  have HB1 : Hid (Below w.heap.size w w1) := below_step HB0.out HB0.out.size hb
  obtain ⟨hc, hf⟩ := bcell hb
  have hz : w.heap.size + 1 + 1 + 1 < w1.heap.size := by simpa using hlt
  have hz2 : w.heap.size + 1 + 1 < w1.heap.size := by omega
  have hz1 : w.heap.size + 1 < w1.heap.size := by omega
  have hz0 : w.heap.size < w1.heap.size := by omega
  have HO : Hid (OwnI w1 (w.heap.size + 1 + 1 + 1) (w.heap.size + 1 + 1 + 1 + 1) (some ⟨w.heap.size + 1 + 1 + 1, 0, none⟩) zs) := by
    show OwnI _ _ _ _ _
    simpa using ho
  clear ho hb hlt
  go_wp2
  refine bodyPost_ret (v := postV f (some ⟨w.heap.size + 1 + 1 + 1, 0, none⟩) n n y) (by simp [results, go_sem, hc]) rfl ⟨w.heap.size + 1 + 1 + 1, rfl, ?_, ?_⟩
  · exact (((((HO.out.aside (p := ⟨w.heap.size + 1 + 1, 1, none⟩) (by show w.heap.size + 1 + 1 < w.heap.size + 1 + 1 + 1; omega) _).aside (p := ⟨w.heap.size + 1 + 1, 2, none⟩) (by show w.heap.size + 1 + 1 < w.heap.size + 1 + 1 + 1; omega) _).aside (p := ⟨w.heap.size + 1, 0, none⟩) (by show w.heap.size + 1 < w.heap.size + 1 + 1 + 1; omega) _).aside (p := ⟨w.heap.size + 1, 1, none⟩) (by show w.heap.size + 1 < w.heap.size + 1 + 1 + 1; omega) _).aside (p := ⟨w.heap.size + 1, 2, none⟩) (by show w.heap.size + 1 < w.heap.size + 1 + 1 + 1; omega) _).wider (by omega) (by simp; omega)
  · exact (((((HB1.out.setCell (p := ⟨w.heap.size + 1 + 1, 1, none⟩) (by show w.heap.size ≤ w.heap.size + 1 + 1; omega) _).setCell (p := ⟨w.heap.size + 1 + 1, 2, none⟩) (by show w.heap.size ≤ w.heap.size + 1 + 1; omega) _).setCell (p := ⟨w.heap.size + 1, 0, none⟩) (by show w.heap.size ≤ w.heap.size + 1; omega) _).setCell (p := ⟨w.heap.size + 1, 1, none⟩) (by show w.heap.size ≤ w.heap.size + 1; omega) _).setCell (p := ⟨w.heap.size + 1, 2, none⟩) (by show w.heap.size ≤ w.heap.size + 1; omega) _)

set_option maxRecDepth 100000 in
theorem eqPost_same (f : Int) (a a' : Option Addr) (n cap cap' : Nat) (y : Int) (zs : List Int) (w : World) (hl : zs.length = n) (hn : n ≤ 1048576) (hh : IsInts w a zs) (hh' : IsInts w a' zs) :
    Calls Try.prog 26 #[postV f a n cap y, postV f a' n cap' y] w fun e w' => e = .returned (.bool true) ∧ Below w.heap.size w w' := by
  have HH : Hid (IsInts w a zs) := hh
  have HH' : Hid (IsInts w a' zs) := hh'
  have HN : Hid (zs.length = n) := hl
  clear hh hh' hl
  have HB : Hid (Below w.heap.size w ((w.alloc (.cells #[.int .i64 f, .slice a n cap, .int .i64 y] 42)).alloc (.cells #[.int .i64 f, .slice a' n cap', .int .i64 y] 42))) := ((Below.refl _ _).alloc (Nat.le_refl _) _).alloc (by simp) _
  go_enter Try.func26, Try.ntmps26
  go_wp2_with fail
  refine (eqIntS_same a a' n cap cap' zs _ HN.out hn (HH.out.below HB.out) (HH'.out.below HB.out)).mono ?_
  rintro e w1 ⟨rfl, hb⟩
  have HB1 : Hid (Below w.heap.size w w1) := below_step HB.out HB.out.size hb
  obtain ⟨hc, hf⟩ := bcell hb
  have hz : w.heap.size + 1 < w1.heap.size := by have := hb.size; simp at this; omega
  have hz0 : w.heap.size < w1.heap.size := by omega
  clear hb
  go_wp2
  go_ret
  exact ⟨rfl, HB1.out⟩

/-- A post of one's own. -/
def PostF (B : Nat) (f : Int) (n : Nat) (y : Int) (zs : List Int) : Fact := fun v w => ∃ g, v = postV f (some ⟨g, 0, none⟩) n n y ∧ OwnI w B w.heap.size (some ⟨g, 0, none⟩) zs

theorem lasts_postF (B : Nat) (f : Int) (n : Nat) (y : Int) (zs : List Int) : lasts LowR (PostF B f n y zs) := by
  rintro v w w' ⟨g, h1, h2⟩ hr
  exact ⟨g, h1, (h2.below hr).wider (Nat.le_refl _) hr.size⟩

end Go.Proofs.Ytolmlcbgdihcbaa
