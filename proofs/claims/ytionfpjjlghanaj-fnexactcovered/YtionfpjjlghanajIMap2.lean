/- Contracts of impl.MapAt and impl.MapHas. -/
import Derived.Test.YtionfpjjlghanajIMap
namespace Go.Proofs.Ytionfpjjlghanaj
open Go.ChangeShapes Go.WideShapes Go.ChangeAt Go.RowKit Go.Joins
attribute [local go_sem ↓] Go.wp_at_zero Go.wp_at_succ

/-- What a look at a map tells: a write of one's own, or nothing. -/
def ToldG (ws : List Wr) (key : Int) (B : Nat) (w' : World) (v : Value) : Prop :=
  (∃ i a g cp, FirstAt ws key i ∧ v = .tuple #[wrOf (ws.getD i wz) a cp, .bool true] ∧ FreshDeps B w' a g (ws.getD i wz).xs) ∨
  (NoneAt ws key ∧ v = .tuple #[wrV 0 0 0 0 0 false none 0 0, .bool false])

theorem fresh_set7 {B : Nat} {w : World} {g : Nat} {xs : List Dp} {a : Option Addr} (h : FreshDeps B w a g xs) {b : Nat} (hne : b < B) (o0 o1 o2 o3 o4 o5 o6 : Nat) (v0 v1 v2 v3 v4 v5 v6 : Value) :
    FreshDeps B (((((((w.setCell ⟨b, o0, none⟩ v0).setCell ⟨b, o1, none⟩ v1).setCell ⟨b, o2, none⟩ v2).setCell ⟨b, o3, none⟩ v3).setCell ⟨b, o4, none⟩ v4).setCell ⟨b, o5, none⟩ v5).setCell ⟨b, o6, none⟩ v6) a g xs := fun hp => by
  obtain ⟨h1, h2, h3⟩ := h hp
  have hn : b ≠ g := by omega
  exact ⟨h1, h2, fresh_set (fresh_set (fresh_set (fresh_set (fresh_set (fresh_set (fresh_set h3 hn _) hn _) hn _) hn _) hn _) hn _) hn _⟩

theorem FreshDeps.mono {B B' : Nat} {w : World} {a : Option Addr} {g : Nat} {xs : List Dp} (h : FreshDeps B w a g xs) (hb : B' ≤ B) : FreshDeps B' w a g xs := fun hp => by
  obtain ⟨h1, h2, h3⟩ := h hp
  exact ⟨h1, Nat.le_trans hb h2, h3⟩

set_option maxHeartbeats 2000000 in
theorem implMapHas_any (a : Option Addr) (n cap : Nat) (key c s q : Int) (ws : List Wr) (w : World) (hn : ws.length = n) (hm : n ≤ 1048576) (hh : IsWs w a ws) :
    Calls Try.prog 42 #[.slice a n cap, .int .i64 key, tagV c s q] w fun e w' => e = .returned (.bool (hasB ws key c s q)) ∧ Below w.heap.size w w' := by
  have HH : Hid (IsWs w a ws) := hh
  have HN : Hid (ws.length = n) := hn
  clear hh hn
  have HB0 : Hid (Below w.heap.size w (w.alloc (.cells #[.int .i64 c, .int .i64 s, .int .i64 q] 50))) := (Below.refl _ _).alloc (Nat.le_refl _) _
  go_enter Try.func42, Try.ntmps42
  go_wp2_with fail
  refine (placeOfKey_any a n cap key ws _ HN.out hm (HH.out.below HB0.out)).mono ?_
  rintro e w1 ⟨r, rfl, hp, hb⟩
  have HB1 : Hid (Below w.heap.size w w1) := below_step HB0.out HB0.out.size hb
  have z0 : w1.cell? ⟨w.heap.size, 0, none⟩ = some (.int .i64 c) := box_cells hb 0 (by simp)
  have z1 : w1.cell? ⟨w.heap.size, 1, none⟩ = some (.int .i64 s) := box_cells hb 1 (by simp)
  have z2 : w1.cell? ⟨w.heap.size, 2, none⟩ = some (.int .i64 q) := box_cells hb 2 (by simp)
  have hz1 : w.heap.size < w1.heap.size := by have := hb.size; simp at this; omega
  clear hb HB0
  rcases hp with ⟨i, hf, rfl⟩ | ⟨hno, rfl⟩
  · have hi : i < n := by rw [← HN.out]; exact hf.1
    obtain ⟨b, o, ad, cp, rfl, hz, ⟨e0, e1, e2, e3, e4, e5, e6⟩, -⟩ := HH.out.at HB1.out HN.out hi
    have i1 : (0 : Int) ≤ (i : Int) := by omega
    have i2 : (i : Int) < (n : Int) := by omega
    have HE : Hid (hasB ws key c s q = decide (0 ≤ tcmp (ws.getD i wz).c (ws.getD i wz).s (ws.getD i wz).q c s q)) := by simp [hasB, find_first hf, Hid]
    clear HH hf
    generalize ws.getD i wz = x at *
    obtain ⟨xk, xc, xs', xq, xv, xd, xx⟩ := x
    simp only at e0 e1 e2 e3 e4 e5 e6 HE
    go_wp2_with fail
    have ge1 := aft_cell hz e1
    have ge2 := aft_cell hz e2
    have ge3 := aft_cell hz e3
    have gz0 := aft_cell hz1 z0
    have gz1 := aft_cell hz1 z1
    have gz2 := aft_cell hz1 z2
    have ne := aft_some w1
    refine wp_region_aft (by kernel_rfl) (by kernel_rfl) ?_
    repeat (first | go_big_quiet_step (first | (go_at_call 58; exact aft_of (implTagCmp_any _ _ _ _ _ _ _))))
    refine wpQuiet_nil ?_
    intro wq hq
    have HB2 : Hid (Below w.heap.size w wq) := below_step HB1.out HB1.out.size hq
    clear hq
    go_wp2
    go_ret
    rw [HE.out]
    exact ⟨rfl, HB2.out⟩
  · have HE : Hid (hasB ws key c s q = false) := by simp [hasB, find_none hno, Hid]
    clear hno HH
    go_wp2_with fail
    have gz0 := aft_cell hz1 z0
    have ne := aft_some w1
    refine wp_region_aft (by kernel_rfl) (by kernel_rfl) ?_
    repeat (first | go_big_quiet_step (fail))
    refine wpQuiet_nil ?_
    intro wq hq
    have HB2 : Hid (Below w.heap.size w wq) := below_step HB1.out HB1.out.size hq
    clear hq
    go_wp2
    go_ret
    rw [HE.out]
    exact ⟨rfl, HB2.out⟩

end Go.Proofs.Ytionfpjjlghanaj
