/- Contracts of impl.MapAt and impl.MapHas. -/
import Derived.Test.YtlbcpppmpbbkdalDoorIMap
namespace Go.Proofs.YtlbcpppmpbbkdalDoor
open Go.ChangeShapes Go.WideShapes Go.ChangeAt Go.RowKit Go.Joins
attribute [local go_sem ↓] Go.wp_at_zero Go.wp_at_succ

/-- What a look at a map tells: a write of one's own, or nothing. -/
def ToldG (ws : List Wr) (key : Int) (B : Nat) (w' : World) (v : Value) : Prop :=
  (∃ i a g cp, FirstAt ws key i ∧ v = .tuple #[wrOf (ws.getD i wz) a cp, .bool true] ∧ FreshDeps B w' a g (ws.getD i wz).xs) ∨
  (NoneAt ws key ∧ v = .tuple #[wrV 0 0 0 0 0 false none 0 0, .bool false])

theorem fresh_set7 {B : Nat} {w : World} {g : Nat} {xs : List Dp} {a : Option Addr} (h : FreshDeps B w a g xs) {b : Nat} (hne : b < B) (o0 o1 o2 o3 o4 o5 o6 : Nat) (v0 v1 v2 v3 v4 v5 v6 : Value) :
    FreshDeps B (((((((w.setCell ⟨b, o0, none⟩ v0).setCell ⟨b, o1, none⟩ v1).setCell ⟨b, o2, none⟩ v2).setCell ⟨b, o3, none⟩ v3).setCell ⟨b, o4, none⟩ v4).setCell ⟨b, o5, none⟩ v5).setCell ⟨b, o6, none⟩ v6) a g xs := fun hp => by
  obtain ⟨h1, h2, h3⟩ := h hp
  have hn : b ≠ g := by omega
  exact ⟨h1, h2, fresh_set (fresh_set (fresh_set (fresh_set (fresh_set (fresh_set (fresh_set h3 hn _) hn _) hn _) hn _) hn _) hn _) hn _⟩

theorem FreshDeps.mono {B B' : Nat} {w : World} {a : Option Addr} {g : Nat} {xs : List Dp} (h : FreshDeps B w a g xs) (hb : B' ≤ B) : FreshDeps B' w a g xs := fun hp => by
  obtain ⟨h1, h2, h3⟩ := h hp
  exact ⟨h1, Nat.le_trans hb h2, h3⟩

set_option maxHeartbeats 2000000 in
theorem implMapAt_any (a : Option Addr) (n cap : Nat) (key : Int) (ws : List Wr) (w : World) (hn : ws.length = n) (hm : n ≤ 1048576) (hx : Few ws) (hh : IsWs w a ws) :
    Calls Tryd.prog 51 #[.slice a n cap, .int .i64 key] w fun e w' => ∃ v, e = .returned v ∧ ToldG ws key w.heap.size w' v ∧ Below w.heap.size w w' := by
  have HH : Hid (IsWs w a ws) := hh
  have HN : Hid (ws.length = n) := hn
  have HX : Hid (Few ws) := hx
  clear hh hn hx
  have HB0 : Hid (Below w.heap.size w (w.alloc (.cells #[.int .i64 0, .int .i64 0, .int .i64 0, .int .i64 0, .int .i64 0, .bool false, .slice none 0 0] 48))) := (Below.refl _ _).alloc (Nat.le_refl _) _
  go_enter Tryd.func51, Tryd.ntmps51
  go_wp2_with fail
  refine (placeOfKey_any a n cap key ws _ HN.out hm (HH.out.below HB0.out)).mono ?_
  rintro e w1 ⟨r, rfl, hp, hb⟩
  have HX1 := Lib.hid (BoxIn.start hb)
  have HB1 : Hid (Below w.heap.size w w1) := below_step HB0.out HB0.out.size hb
  have z0 := HX1.out.c0
  have z1 := HX1.out.c1
  have z2 := HX1.out.c2
  have z3 := HX1.out.c3
  have z4 := HX1.out.c4
  have z5 := HX1.out.c5
  have z6 := HX1.out.c6
  have f1 : ∀ o, w1.frozen? ⟨w.heap.size, o, none⟩ = false := fun o => (hb.frozen (p := ⟨w.heap.size, o, none⟩) (by simp)).trans (frozen_of_row _ _ o _ _ (heap_alloc_new w _))
  have hz1 := HX1.out.lt
  clear hb HB0
  rcases hp with ⟨i, hf, rfl⟩ | ⟨hno, rfl⟩
  · have hi : i < n := by rw [← HN.out]; exact hf.1
    obtain ⟨b, o, ad, cp, rfl, hz, ⟨e0, e1, e2, e3, e4, e5, e6⟩, hd⟩ := HH.out.at HB1.out HN.out hi
    have i1 : (0 : Int) ≤ (i : Int) := by omega
    have i2 : (i : Int) < (n : Int) := by omega
    have hxl := HX.out i (by rw [HN.out]; exact hi)
    have HD := Lib.hid hd
    have HE : Hid (∀ w2 a' g cp, FreshDeps w.heap.size w2 a' g (ws.getD i wz).xs → ToldG ws key w.heap.size w2 (.tuple #[wrOf (ws.getD i wz) a' cp, .bool true])) := fun w2 a' g cp h1 => .inl ⟨i, a', g, cp, hf, rfl, h1⟩
    clear hd HH hf
    generalize ws.getD i wz = x at *
    obtain ⟨xk, xc, xs', xq, xv, xd, xx⟩ := x
    simp only at e0 e1 e2 e3 e4 e5 e6 HD HE hxl
    go_wp2_with fail
    refine (icopy_any ⟨xk, xc, xs', xq, xv, xd, xx⟩ ad cp _ hxl HD.out).mono ?_
    rintro e w2 ⟨a', g, cp2, rfl, hg, hb⟩
    have HB2 : Hid (Below w.heap.size w w2) := below_step HB1.out HB1.out.size hb
    have HG := Lib.hid (hg.mono hz1)
    have HX2 := Lib.hid (HX1.out.step hb)
    have y0 := HX2.out.c0
    have y1 := HX2.out.c1
    have y2 := HX2.out.c2
    have y3 := HX2.out.c3
    have y4 := HX2.out.c4
    have y5 := HX2.out.c5
    have y6 := HX2.out.c6
    have f2 : ∀ o, w2.frozen? ⟨w.heap.size, o, none⟩ = false := fun o => (hb.frozen (p := ⟨w.heap.size, o, none⟩) hz1).trans (f1 o)
    have hz2 := HX2.out.lt
    clear hb hg z0 z1 z2 z3 z4 z5 z6 f1 hz1 HX1 HX2 HB1
    go_wp2
    refine bodyPost_ret (v := .tuple #[wrV xk xc xs' xq xv xd a' xx.length cp2, .bool true]) (by simp [results, Tryd.results51, go_sem, y0, y1, y2, y3, y4, y5, y6]) rfl ⟨_, rfl, HE.out _ a' g cp2 ((fresh_set7 HG.out (Nat.lt_succ_self _) _ _ _ _ _ _ _ _ _ _ _ _ _ _).mono (Nat.le_succ _)), ?_⟩
    exact ((((((HB2.out.setCell (by simp) _).setCell (by simp) _).setCell (by simp) _).setCell (by simp) _).setCell (by simp) _).setCell (by simp) _).setCell (by simp) _
  · have HNo := Lib.hid hno
    clear hno
    go_wp2
    refine bodyPost_ret (v := .tuple #[wrV 0 0 0 0 0 false none 0 0, .bool false]) (by simp [results, Tryd.results51, go_sem, z0, z1, z2, z3, z4, z5, z6]) rfl ⟨_, rfl, .inr ⟨HNo.out, rfl⟩, ?_⟩
    exact ((((((HB1.out.setCell (by simp) _).setCell (by simp) _).setCell (by simp) _).setCell (by simp) _).setCell (by simp) _).setCell (by simp) _).setCell (by simp) _

end Go.Proofs.YtlbcpppmpbbkdalDoor
