import Derived.Test.YtbbmpfkijhhemaaGreatDoorPack15
import Derived.Test.YtbbmpfkijhhemaaGreatDoorPack10
import Derived.Test.YtbbmpfkijhhemaaGreatDoorPack6
import Derived.Test.YtbbmpfkijhhemaaGreatDoorPack7
import Derived.Test.YtbbmpfkijhhemaaGreatDoorPack9
import Derived.WalkKit
import Derived.LaidEql
import Derived.Stop.Asserts
import Derived.RowKitTokens
import Derived.Test.YtbbmpfkijhhemaaGreatDoorPack11
namespace Go.Proofs.YtbbmpfkijhhemaaGreatDoor
open Go.ChangeShapes Go.WideShapes Go.ChangeAt Go.RowKit Go.Joins
set_option maxRecDepth 100000
attribute [local go_sem ↓] Go.wp_at_zero Go.wp_at_succ

def WriteAns (s : ByteArray) (p B : Nat) (w w' : World) (e : Ending) : Prop :=
  Hole B w w' ∧ ((∃ l r x a cp, s.data.toList.drop p = l ++ 10 :: r ∧ (10 : UInt8) ∉ l ∧ IsText l x ∧ e = .returned (.tuple #[wrV x.k x.c x.s x.q x.v x.de a x.xs.length cp, .nilIface]) ∧ RowD w' w.heap.size (.slice a x.xs.length cp) x.xs ∧ Rdr w' B s (p + l.length + 1)) ∨
    (((10 : UInt8) ∉ s.data.toList.drop p ∨ ∃ l r, s.data.toList.drop p = l ++ 10 :: r ∧ (10 : UInt8) ∉ l ∧ ∀ x, ¬ IsText l x) ∧ ∃ t v, e = .returned (.tuple #[wrV 0 0 0 0 0 false none 0 0, .iface t v])))

theorem trim_line (l : List UInt8) : (⟨(Lib.trimSuffix (str (l ++ [10])).data.toList (⟨#[10]⟩ : ByteArray).data.toList).toArray⟩ : ByteArray) = str l := by
  have e1 : (str (l ++ [10])).data.toList = l ++ [10] := by simp [str]
  have e2 : (⟨#[10]⟩ : ByteArray).data.toList = [10] := rfl
  have h : Lib.hasSuffix (l ++ [10]) [10] = true := by
    unfold Lib.hasSuffix
    rw [List.isSuffixOf_iff_suffix]
    exact List.suffix_append _ _
  rw [e1, e2]
  unfold Lib.trimSuffix
  rw [if_pos h]
  unfold str
  congr 1
  simp

theorem hole_put7New {B R : Nat} {w w' : World} (h : Hole B w w') (hR : w.heap.size ≤ R) (k c s q v : Int) (de : Bool) (x : Option Addr) (l p : Nat) : Hole B w (put7 w' R k c s q v de x l p) := by
  unfold put7
  have h0 := h.setNew hR 0 (.int .i64 k)
  generalize w'.setCell ⟨R, 0, none⟩ (.int .i64 k) = w0 at *
  have h1 := h0.setNew hR 1 (.int .i64 c)
  generalize w0.setCell ⟨R, 1, none⟩ (.int .i64 c) = w1 at *
  have h2 := h1.setNew hR 2 (.int .i64 s)
  generalize w1.setCell ⟨R, 2, none⟩ (.int .i64 s) = w2 at *
  have h3 := h2.setNew hR 3 (.int .i64 q)
  generalize w2.setCell ⟨R, 3, none⟩ (.int .i64 q) = w3 at *
  have h4 := h3.setNew hR 4 (.int .i64 v)
  generalize w3.setCell ⟨R, 4, none⟩ (.int .i64 v) = w4 at *
  have h5 := h4.setNew hR 5 (.bool de)
  generalize w4.setCell ⟨R, 5, none⟩ (.bool de) = w5 at *
  exact h5.setNew hR 6 (.slice x l p)

theorem Rdr.of_block {w w' : World} {B p : Nat} {s : ByteArray} (h : Rdr w B s p) (hs : w.heap.size ≤ w'.heap.size) (hb : w'.heap[B]? = w.heap[B]?) : Rdr w' B s p :=
  ⟨Nat.lt_of_lt_of_le h.lt hs, (World.cell?_of_block (a := ⟨B, 0, none⟩) hb).trans h.c0, (World.cell?_of_block (a := ⟨B, 1, none⟩) hb).trans h.c1, fun o => (frozen_ofb hb).trans (h.fz o)⟩

set_option maxHeartbeats 8000000 in
theorem rdWrite_any (w0 : World) (s : ByteArray) (p B : Nat) (w : World) (hs : s.size ≤ 1048576) (hp : p ≤ s.size) (hE : EV w0) (hV : RV w0) (hT : Tab w0) (hb : Below w0.heap.size w0 w) (hB : w0.heap.size ≤ B) (hr : Rdr w B s p) :
    Calls Tryz.prog 169 #[.pointer (some ⟨B, 0, none⟩)] w fun e w' => WriteAns s p B w w' e := by
  have hlt : 6 < w0.heap.size := hT.lt
  have HE := Lib.hid hE
  have HV := Lib.hid hV
  have HT := Lib.hid hT
  have hBw : B < w.heap.size := hr.lt
  have HR0 : Hid (RBox (w.alloc (.cells #[.int .i64 0, .int .i64 0, .int .i64 0, .int .i64 0, .int .i64 0, .bool false, .slice none 0 0] 33)) w.heap.size 0 0 0 0 0 false none 0 0) := RBox.start w 0 0 0 0 0 false none 0 0 _
  have HA0 : Hid (Below w.heap.size w (w.alloc (.cells #[.int .i64 0, .int .i64 0, .int .i64 0, .int .i64 0, .int .i64 0, .bool false, .slice none 0 0] 33))) := (Below.refl _ _).alloc (Nat.le_refl _) _
  have hz0 : w.heap.size < (w.alloc (.cells #[.int .i64 0, .int .i64 0, .int .i64 0, .int .i64 0, .int .i64 0, .bool false, .slice none 0 0] 33)).heap.size := by simp
  have HB0 := Lib.hid (below_step hb hb.size HA0.out)
  have HD0 := Lib.hid (hr.below HA0.out)
  have hs0 : w0.heap.size ≤ w.heap.size := hb.size
  clear hE hV hT hb hr
  go_enter Tryz.func169, Tryz.ntmps169
  go_wp2_with fail
  generalize w.alloc (.cells #[.int .i64 0, .int .i64 0, .int .i64 0, .int .i64 0, .int .i64 0, .bool false, .slice none 0 0] 33) = W0 at *
  refine (rdLine_any w0 s p B _ hs hp HE.out HB0.out HD0.out).mono ?_
  rintro e w1 ⟨hh, ⟨l, r, hlr, hl, rfl, hr1⟩ | ⟨hno, t, v, rfl⟩⟩
  rotate_left
  · have HX1 : Hid (RBox w1 w.heap.size 0 0 0 0 0 false none 0 0) := HR0.out.of_block hh.size (hh.block _ hz0 (by omega))
    have HH1 := Lib.hid ((Hole.of_below (B := B) HA0.out).trans hh)
    have HNO := Lib.hid hno
    clear hh hno
    obtain ⟨yl, y0, y1, y2, y3, y4, y5, y6, yf⟩ := HX1.out
    go_wp2
    obtain ⟨X, hX⟩ : ∃ X, put7 w1 w.heap.size 0 0 0 0 0 false none 0 0 = X := ⟨_, rfl⟩
    have HZX : Hid (RBox X w.heap.size 0 0 0 0 0 false none 0 0) := by rw [← hX]; exact HX1.out.put7 0 0 0 0 0 false none 0 0
    have HHX : Hid (Hole B w X) := by rw [← hX]; exact hole_put7New HH1.out (Nat.le_refl _) 0 0 0 0 0 false none 0 0
    unfold put7 at hX
    rw [hX]
    clear hX
    obtain ⟨zl, z0, z1, z2, z3, z4, z5, z6, zf⟩ := HZX.out
    refine bodyPost_ret (v := .tuple #[wrV 0 0 0 0 0 false none 0 0, .iface t v]) (by simp [results, Tryz.results169, go_sem, z0, z1, z2, z3, z4, z5, z6]) rfl ?_
    exact ⟨HHX.out, .inr ⟨.inl HNO.out, _, _, rfl⟩⟩
  have HX1 : Hid (RBox w1 w.heap.size 0 0 0 0 0 false none 0 0) := HR0.out.of_block hh.size (hh.block _ hz0 (by omega))
  have HH1 := Lib.hid ((Hole.of_below (B := B) HA0.out).trans hh)
  have HB1 : Hid (Below w0.heap.size w0 w1) := Hole.below HB0.out hh hB HB0.out.size
  have HD1 := Lib.hid hr1
  have HLR := Lib.hid hlr
  have HL := Lib.hid hl
  have hls : (str l).size ≤ 1048576 := by
    have := line_fits hlr
    rw [str_size]
    omega
  have hl1 : (str (l ++ [10])).size ≤ 9223372036854775807 := by
    have := line_fits hlr
    rw [str_size]
    simp
    omega
  have hs1 : w.heap.size < w1.heap.size := HX1.out.lt
  have HSL : Hid ((str l).data.toList = l) := by simp [str, Hid]
  clear hh hr1 hlr hl HB0 HD0 HR0 HA0
  go_wp2_with fail
  refine (Tryz.strings_TrimSuffix (str (l ++ [10])) ⟨#[10]⟩ _ hl1).mono ?_
  rintro e w2 ⟨rfl, hw⟩
  subst w2
  rw [trim_line]
  go_wp2_with fail
  refine (implRead_any (str l) _ hls (HV.out.below HB1.out) (HT.out.below HB1.out hlt)).mono ?_
  rintro e w2 ⟨hb, ⟨x, a, cp, rfl, htx, hrow⟩ | ⟨hno, rfl⟩⟩
  · obtain ⟨xk, xc, xs', xq, xv, xd, xx⟩ := x
    simp only at hrow
    rw [HSL.out] at htx
    have HTX := Lib.hid htx
    have HAB : Hid (Below w2.heap.size w2 (w2.alloc (.cells #[.int .i64 xk, .int .i64 xc, .int .i64 xs', .int .i64 xq, .int .i64 xv, .bool xd, .slice a xx.length cp] 33))) := (Below.refl _ _).alloc (Nat.le_refl _) _
    have HX2 := Lib.hid ((HX1.out.below hb hs1).below HAB.out (Nat.lt_of_lt_of_le hs1 hb.size))
    have HH2 := Lib.hid ((HH1.out.trans (Hole.of_below hb)).trans (Hole.of_below HAB.out))
    have HD2 := Lib.hid ((HD1.out.below hb).below HAB.out)
    have HW2 := Lib.hid (hrow.below HAB.out)
    clear htx hrow hb HX1 HH1 HD1 HAB
    obtain ⟨yl, y0, y1, y2, y3, y4, y5, y6, yf⟩ := HX2.out
    go_wp2
    generalize w2.alloc (.cells #[.int .i64 xk, .int .i64 xc, .int .i64 xs', .int .i64 xq, .int .i64 xv, .bool xd, .slice a xx.length cp] 33) = W2 at *
    obtain ⟨X, hX⟩ : ∃ X, put7 W2 w.heap.size xk xc xs' xq xv xd a xx.length cp = X := ⟨_, rfl⟩
    have HZX : Hid (RBox X w.heap.size xk xc xs' xq xv xd a xx.length cp) := by rw [← hX]; exact HX2.out.put7 xk xc xs' xq xv xd a xx.length cp
    have HHX : Hid (Hole B w X) := by rw [← hX]; exact hole_put7New HH2.out (Nat.le_refl _) xk xc xs' xq xv xd a xx.length cp
    have HDX : Hid (Rdr X B s (p + l.length + 1)) := by rw [← hX]; exact HD2.out.of_block ((Hole.refl w.heap.size W2).put7 xk xc xs' xq xv xd a xx.length cp).size (((Hole.refl w.heap.size W2).put7 xk xc xs' xq xv xd a xx.length cp).block B HD2.out.lt (by omega))
    have HWX : Hid (RowD X w.heap.size (.slice a xx.length cp) xx) := by rw [← hX]; exact (HW2.out.holeQ ((Hole.refl w.heap.size W2).put7 xk xc xs' xq xv xd a xx.length cp) hs1).mono (Nat.le_of_lt hs1)
    unfold put7 at hX
    rw [hX]
    clear hX
    obtain ⟨zl, z0, z1, z2, z3, z4, z5, z6, zf⟩ := HZX.out
    refine bodyPost_ret (v := .tuple #[wrV xk xc xs' xq xv xd a xx.length cp, .nilIface]) (by simp [results, Tryz.results169, go_sem, z0, z1, z2, z3, z4, z5, z6]) rfl ?_
    exact ⟨HHX.out, .inl ⟨l, r, ⟨xk, xc, xs', xq, xv, xd, xx⟩, a, cp, HLR.out, HL.out, HTX.out, rfl, HWX.out, HDX.out⟩⟩
  · rw [HSL.out] at hno
    have HNO := Lib.hid hno
    have HAB : Hid (Below w2.heap.size w2 (w2.alloc (.cells #[.int .i64 0, .int .i64 0, .int .i64 0, .int .i64 0, .int .i64 0, .bool false, .slice none 0 0] 33))) := (Below.refl _ _).alloc (Nat.le_refl _) _
    have HX2 := Lib.hid ((HX1.out.below hb hs1).below HAB.out (Nat.lt_of_lt_of_le hs1 hb.size))
    have HH2 := Lib.hid ((HH1.out.trans (Hole.of_below hb)).trans (Hole.of_below HAB.out))
    have HB2 := Lib.hid (below_step (below_step HB1.out HB1.out.size hb) (Nat.le_trans HB1.out.size hb.size) HAB.out)
    obtain ⟨lt0, tE, vE, cE0⟩ := HE.out.2.2.1
    have cE := (HB2.out.cell (p := ⟨2, 0, none⟩) lt0).trans cE0
    clear hno hb HX1 HH1 HD1 HAB cE0
    obtain ⟨yl, y0, y1, y2, y3, y4, y5, y6, yf⟩ := HX2.out
    have hne : w.heap.size ≠ 2 := by omega
    have hne2 : 2 ≠ w.heap.size := by omega
    go_wp2_with fail
    generalize w2.alloc (.cells #[.int .i64 0, .int .i64 0, .int .i64 0, .int .i64 0, .int .i64 0, .bool false, .slice none 0 0] 33) = W2 at *
    go_region
    obtain ⟨X, hX⟩ : ∃ X, put7 W2 w.heap.size 0 0 0 0 0 false none 0 0 = X := ⟨_, rfl⟩
    have HZX : Hid (RBox X w.heap.size 0 0 0 0 0 false none 0 0) := by rw [← hX]; exact HX2.out.put7 0 0 0 0 0 false none 0 0
    have HHX : Hid (Hole B w X) := by rw [← hX]; exact hole_put7New HH2.out (Nat.le_refl _) 0 0 0 0 0 false none 0 0
    unfold put7 at hX
    rw [hX]
    clear hX
    obtain ⟨zl, z0, z1, z2, z3, z4, z5, z6, zf⟩ := HZX.out
    go_wp2
    refine bodyPost_ret (v := .tuple #[wrV 0 0 0 0 0 false none 0 0, .iface tE vE]) (by simp [results, Tryz.results169, go_sem, z0, z1, z2, z3, z4, z5, z6]) rfl ?_
    exact ⟨HHX.out.drew, .inr ⟨.inr ⟨l, r, HLR.out, HL.out, HNO.out⟩, _, _, rfl⟩⟩

def SumAns (s : ByteArray) (p B : Nat) (body : List UInt8) (w w' : World) (e : Ending) : Prop :=
  Hole B w w' ∧ ((∃ r, s.data.toList.drop p = sumL body ++ 10 :: r ∧ e = .returned .nilIface ∧ Rdr w' B s (p + (sumL body).length + 1)) ∨
    (((10 : UInt8) ∉ s.data.toList.drop p ∨ ∃ l r, s.data.toList.drop p = l ++ 10 :: r ∧ (10 : UInt8) ∉ l ∧ l ≠ sumL body) ∧ ∃ t v, e = .returned (.iface t v)))

set_option maxHeartbeats 4000000 in
theorem rdSum_any (w0 : World) (s body : ByteArray) (p B : Nat) (w : World) (hs : s.size ≤ 1048576) (hbs : body.size ≤ 1048576) (hp : p ≤ s.size) (hE : EV w0) (hT : Tab w0) (hb : Below w0.heap.size w0 w) (hB : w0.heap.size ≤ B) (hr : Rdr w B s p) :
    Calls Tryz.prog 170 #[.pointer (some ⟨B, 0, none⟩), .string body] w fun e w' => SumAns s p B body.data.toList w w' e := by
  have HE := Lib.hid hE
  have HT := Lib.hid hT
  have hlt : 6 < w0.heap.size := hT.lt
  have HB0 := Lib.hid hb
  have HR := Lib.hid hr
  clear hE hT hb hr
  go_enter Tryz.func170, Tryz.ntmps170
  go_wp2_with fail
  refine (rdLine_any w0 s p B _ hs hp HE.out HB0.out HR.out).mono ?_
  rintro e w1 ⟨hh, ⟨l, r, hlr, hl, rfl, hr1⟩ | ⟨hno, t, v, rfl⟩⟩
  rotate_left
  · have HH := Lib.hid hh
    have HNO := Lib.hid hno
    clear hh hno
    go_wp2
    go_ret
    exact ⟨HH.out, .inr ⟨.inl HNO.out, _, _, rfl⟩⟩
  have HH1 := Lib.hid hh
  have HB1 : Hid (Below w0.heap.size w0 w1) := Hole.below HB0.out hh hB HB0.out.size
  have HR1 := Lib.hid hr1
  have HLR := Lib.hid hlr
  have HL := Lib.hid hl
  clear hh hr1 hlr hl HB0 HR
  go_wp2_with fail
  refine (sumLine_any body _ hbs (HT.out.below HB1.out hlt)).mono ?_
  rintro e w2 ⟨rfl, hb⟩
  have HB2 := Lib.hid (below_step HB1.out HB1.out.size hb)
  have HH2 := Lib.hid (HH1.out.trans (Hole.of_below hb))
  have HR2 := Lib.hid (HR1.out.below hb)
  clear hb
  have hq := str_beq (l ++ [10]) (sumL body.data.toList ++ [10])
  by_cases he : l = sumL body.data.toList
  · have hq2 : ((str (l ++ [10])).toList == (str (sumL body.data.toList ++ [10])).toList) = true := by rw [hq, he]; simp
    clear hq
    have HE2 : Hid (s.data.toList.drop p = sumL body.data.toList ++ 10 :: r) := by rw [← he]; exact HLR
    have HR3 : Hid (Rdr w2 B s (p + (sumL body.data.toList).length + 1)) := by rw [← he]; exact HR2
    go_wp2
    go_ret
    exact ⟨HH2.out, .inl ⟨r, HE2.out, rfl, HR3.out⟩⟩
  · have hq2 : ((str (l ++ [10])).toList == (str (sumL body.data.toList ++ [10])).toList) = false := by rw [hq]; simp [he]
    clear hq
    have HNE := Lib.hid he
    obtain ⟨lt0, tE, vE, cE0⟩ := HE.out.2.2.2
    have cE := (HB2.out.cell (p := ⟨3, 0, none⟩) lt0).trans cE0
    clear he cE0
    go_wp2
    go_ret
    exact ⟨HH2.out, .inr ⟨.inr ⟨l, r, HLR.out, HL.out, HNE.out⟩, _, _, rfl⟩⟩

end Go.Proofs.YtbbmpfkijhhemaaGreatDoor

namespace Go.Proofs.YtbbmpfkijhhemaaGreatDoor
open Go.ChangeShapes Go.WideShapes Go.ChangeAt Go.RowKit Go.Joins
set_option maxRecDepth 100000
attribute [local go_sem ↓] Go.wp_at_zero Go.wp_at_succ

def Eaten (t : List UInt8) (m q : Nat) (xs : List Wr) (r : List UInt8) : Prop := t = headB m ++ 10 :: xs.flatMap lineW ++ r ∧ q = (headB m ++ 10 :: xs.flatMap lineW).length

theorem eaten_head {t r : List UInt8} {m : Nat} (h : t = headB m ++ 10 :: r) : Eaten t m ((headB m).length + 1) [] r := ⟨by rw [h]; simp, by simp⟩

theorem eaten_next {t r l r' : List UInt8} {m q : Nat} {xs : List Wr} {x : Wr} (h : Eaten t m q xs r) (hr : r = l ++ 10 :: r') (hx : IsText l x) : Eaten t m (q + l.length + 1) (xs ++ [x]) r' := by
  have e : lineW x = l ++ [10] := by
    unfold lineW
    rw [hx.2]
  refine ⟨?_, ?_⟩
  · rw [h.1, hr, List.flatMap_append]
    simp [e]
  · rw [h.2, List.flatMap_append]
    simp [e]
    omega

theorem sofar_head {t r : List UInt8} {m : Nat} (hm : m ≤ 6) (h : t = headB m ++ 10 :: r) : Sofar t m 0 ((headB m).length + 1) [] r := by
  intro ws hv
  obtain ⟨e, hr⟩ := valid_head hv h (no_line_head hm)
  have hn := okWs_len hv.1
  unfold headB at e
  have e1 := itoa_inj (rng_small hm) (rng_small hn.2) (List.append_cancel_left e)
  have e2 : ws.length = m := by omega
  refine ⟨e2, rfl, ?_, hr⟩
  unfold farB accB
  rw [e2]
  simp

theorem eaten_body {t r : List UInt8} {m q : Nat} {xs : List Wr} (h : Eaten t m q xs r) (hl : xs.length = m) : t = bodyB xs ++ r ∧ t.take q = bodyB xs ∧ q = (bodyB xs).length := by
  have e : headB m ++ 10 :: xs.flatMap lineW = bodyB xs := by
    unfold bodyB
    rw [hl]
  rw [e.symm]
  refine ⟨h.1, ?_, h.2⟩
  rw [h.1, h.2]
  exact List.take_left

theorem eaten_valid {t r r' : List UInt8} {m q : Nat} {xs : List Wr} (h : Eaten t m q xs r) (hl : xs.length = m) (hm : 1 ≤ m ∧ m ≤ 6) (ho : ∀ x ∈ xs, okR x = true) (hr : r = sumL (bodyB xs) ++ 10 :: r') : ValidAt t xs ∧ (batchT xs).length = q + (sumL (bodyB xs)).length + 1 := by
  have hok : okWs xs = true := by
    unfold okWs
    simp only [Bool.and_eq_true, decide_eq_true_eq, List.all_eq_true]
    exact ⟨by omega, ho⟩
  obtain ⟨e1, -, e3⟩ := eaten_body h hl
  have e2 : batchT xs = bodyB xs ++ (sumL (bodyB xs) ++ [10]) := by
    unfold batchT
    rw [if_pos hok]
    rfl
  refine ⟨⟨hok, ?_⟩, ?_⟩
  · rw [e2, e1, hr]
    exact ⟨r', by simp⟩
  · rw [e2, e3]
    simp
    omega

theorem sofar_sum {t l r r' : List UInt8} {m q : Nat} {xs : List Wr} (h : Sofar t m m q xs r) (hr : r = l ++ 10 :: r') (hl : (10 : UInt8) ∉ l) (hne : l ≠ sumL (bodyB xs)) : ∀ ws, ¬ ValidAt t ws := by
  intro ws hv
  obtain ⟨h1, h2, h3, h4⟩ := h ws hv
  subst h1
  rw [List.take_length] at h2
  subst h2
  exact hne (valid_last h4 hr hl)

def BatAns (s : ByteArray) (i B : Nat) (w w' : World) (e : Ending) : Prop :=
  Hole B w w' ∧ ((∃ a cap es, e = .returned (.tuple #[.slice a (List.length es) cap, .nilIface]) ∧ ValidAt (s.data.toList.drop i) (es.map (·.x)) ∧ RowG w' w.heap.size (.slice a es.length cap) es ∧ Rdr w' B s (i + (batchT (es.map (·.x))).length)) ∨
    ((∀ ws, ¬ ValidAt (s.data.toList.drop i) ws) ∧ ∃ t v, e = .returned (.tuple #[.slice none 0 0, .iface t v])))

set_option maxHeartbeats 8000000 in
theorem rdBatch_any (w0 : World) (s : ByteArray) (i B : Nat) (w : World) (hs : s.size ≤ 1048576) (hi : i ≤ s.size) (hE : EV w0) (hV : RV w0) (hT : Tab w0) (hb : Below w0.heap.size w0 w) (hB : w0.heap.size ≤ B) (hr : Rdr w B s i) :
    Calls Tryz.prog 146 #[.pointer (some ⟨B, 0, none⟩)] w fun e w' => BatAns s i B w w' e := by
  obtain ⟨i0, hi0, hx0⟩ := Option.map_eq_some_iff.1 infoWr
  simp only [Prod.mk.injEq] at hx0
  have HI0 := Lib.hid hi0
  have HX0 := Lib.hid hx0
  clear hi0 hx0
  have HE := Lib.hid hE
  have HV := Lib.hid hV
  have HT := Lib.hid hT
  have HB0 := Lib.hid hb
  have HR0 := Lib.hid hr
  have hBw : B < w.heap.size := hr.lt
  have c1 := hr.c1
  have hsz0 : w0.heap.size ≤ w.heap.size := hb.size
  clear hE hV hT hb hr
  go_enter Tryz.func146, Tryz.ntmps146
  go_wp2_with fail
  refine (rdHead_any w0 s i B _ hs hi HE.out HT.out HB0.out hB HR0.out).mono ?_
  rintro e w1 ⟨hh, ⟨m, r, hm1, hm6, hlr, rfl, hr1⟩ | ⟨hno, t, v, rfl⟩⟩
  rotate_left
  · have HH := Lib.hid hh
    have HNO := Lib.hid hno
    clear hh hno
    go_wp2
    refine bodyPost_ret (v := .tuple #[.slice none 0 0, .iface t v]) (by simp [results, Tryz.results146, go_sem]) rfl ?_
    exact ⟨HH.out, .inr ⟨HNO.out, _, _, rfl⟩⟩
  have hfit := line_fits hlr
  have hq0 : i + ((headB m).length + 1) ≤ s.size := by omega
  have hdr : s.data.toList.drop (i + ((headB m).length + 1)) = r := drop_line hlr
  have HS0 : Hid (Sofar (s.data.toList.drop i) m 0 ((headB m).length + 1) [] (s.data.toList.drop (i + ((headB m).length + 1)))) := by rw [hdr]; exact Lib.hid (sofar_head hm6 hlr)
  have HT0 : Hid (Eaten (s.data.toList.drop i) m ((headB m).length + 1) [] (s.data.toList.drop (i + ((headB m).length + 1)))) := by rw [hdr]; exact Lib.hid (eaten_head hlr)
  have HR1 : Hid (Rdr w1 B s (i + ((headB m).length + 1))) := hr1
  have HH1 := Lib.hid hh
  clear hh hr1 hlr hdr HR0 c1
  clear hfit
  generalize (headB m).length + 1 = q0 at *
  go_wp2
  go_loopw [7, 24] (fun o kk wr => ∃ (k q : Nat) (a : Option Addr) (cap : Nat) (es : List EnG), k ≤ m ∧ kk = .int .i64 k ∧ o = .slice a k cap ∧ i + q ≤ s.size ∧ es.length = k ∧ w.heap.size ≤ wr.heap.size ∧ Hid (∀ d ∈ es, okR d.x = true) ∧ Hid (Sofar (s.data.toList.drop i) m k q (es.map (·.x)) (s.data.toList.drop (i + q))) ∧ Hid (Eaten (s.data.toList.drop i) m q (es.map (·.x)) (s.data.toList.drop (i + q))) ∧ Hid (RowG wr w.heap.size (.slice a k cap) es) ∧ Hid (Rdr wr B s (i + q)) ∧ Hid (Hole B w wr)) (fun _ kk _ => m - (intOf kk).toNat)
  case atStart => exact ⟨0, q0, none, 0, [], Nat.zero_le _, rfl, rfl, hq0, rfl, HH1.out.size, fun d hd => by simp at hd, HS0, HT0, rowG_nil _ _, HR1, HH1⟩
  case round =>
    clear HS0 HT0 HR1 HH1 hq0
    obtain ⟨k, q, a, cap, es, hk, rfl, rfl, hq, hel, hwr, HOK, HS, HET, HR, HD, HH⟩ := hrel
    by_cases hk' : k < m
    · have i1 : (0 : Int) ≤ (k : Int) := by omega
      have i2 : (k : Int) < (m : Int) := by omega
      have HBR : Hid (Below w0.heap.size w0 wr) := Hole.below HB0.out HH.out hB hsz0
      go_wp2_with fail
      refine (rdWrite_any w0 s (i + q) B _ hs hq HE.out HV.out HT.out HBR.out hB HD.out).mono ?_
      rintro e w2 ⟨hh, ⟨l, r', x, ya, ycp, hd, hnl, htx, rfl, hrd, hdr⟩ | ⟨hbad, t, v, rfl⟩⟩
      rotate_left
      · have HNO : Hid (∀ ws, ¬ ValidAt (s.data.toList.drop i) ws) := by
          rcases hbad with hno | ⟨l, r', hd, hnl, hnt⟩
          · exact Lib.hid (sofar_none HS.out hk hno)
          · exact Lib.hid (sofar_bad HS.out hk' hd hnl hnt)
        have HH2 := Lib.hid ((HH.out.trans hh).trans (Hole.of_below ((Below.refl w2.heap.size w2).alloc (Nat.le_refl _) (.cells #[.int .i64 0, .int .i64 0, .int .i64 0, .int .i64 0, .int .i64 0, .bool false, .slice none 0 0] 33))))
        clear hh hbad HS HET
        go_wp2
        refine bodyPost_ret (v := .tuple #[.slice none 0 0, .iface t v]) (by simp [results, Tryz.results146, go_sem]) rfl ?_
        exact ⟨HH2.out, .inr ⟨HNO.out, _, _, rfl⟩⟩
      have hfit := line_fits hd
      have hdl : s.data.toList.drop (i + (q + l.length + 1)) = r' := by
        have e2 := drop_line hd
        rw [show i + q + (l.length + 1) = i + (q + l.length + 1) by omega] at e2
        exact e2
      have HS2 : Hid (Sofar (s.data.toList.drop i) m (k + 1) (q + l.length + 1) (es.map (·.x) ++ [x]) (s.data.toList.drop (i + (q + l.length + 1)))) := by rw [hdl]; exact Lib.hid (sofar_next HS.out hk' hd hnl htx)
      have HET2 : Hid (Eaten (s.data.toList.drop i) m (q + l.length + 1) (es.map (·.x) ++ [x]) (s.data.toList.drop (i + (q + l.length + 1)))) := by rw [hdl]; exact Lib.hid (eaten_next HET.out hd htx)
      have HD2 : Hid (Rdr w2 B s (i + (q + l.length + 1))) := by rw [show i + (q + l.length + 1) = i + q + l.length + 1 by omega]; exact Lib.hid hdr
      obtain ⟨g2, hg⟩ := fresh_row hrd
      have HOX := Lib.hid htx.1
      have HG : Hid (FreshDeps wr.heap.size w2 ya g2 x.xs) := hg
      have HH2 := Lib.hid (HH.out.trans hh)
      have HR2 := Lib.hid (HR.out.holeQ hh hBw)
      have hs2 : wr.heap.size ≤ w2.heap.size := hh.size
      clear hrd hg htx HS HET hd hnl hdr hdl HD
      obtain ⟨yk, yc, ys, yq, yv, yd, yx⟩ := x
      simp only at HG
      have HAP : Hid (∀ d ∈ es, 0 < d.x.xs.length → 0 < yx.length → d.g ≠ g2) := fun d hd hp hq => by
        have h1 := ((HR.out.deps d hd).1 hp).2.2.1
        have h2 := (HG.out hq).2.1
        omega
      have HVV : Hid (0 < yx.length → (Value.slice a k cap).ownBlock ≠ some g2) := fun hq e => by
        have h1 := (HR.out.own.lt g2 e).2
        have h2 := (HG.out hq).2.1
        omega
      clear HR hh HH
      have HBA : Hid (Below w2.heap.size w2 (w2.alloc (.cells #[.int .i64 yk, .int .i64 yc, .int .i64 ys, .int .i64 yq, .int .i64 yv, .bool yd, .slice ya yx.length ycp] 33))) := (Below.refl _ _).alloc (Nat.le_refl _) _
      have HR3 := Lib.hid (HR2.out.below HBA.out)
      have HG3 := Lib.hid (HG.out.below HBA.out)
      have HD3 := Lib.hid (HD2.out.below HBA.out)
      have hs3 : w2.heap.size + 1 = (w2.alloc (.cells #[.int .i64 yk, .int .i64 yc, .int .i64 ys, .int .i64 yq, .int .i64 yv, .bool yd, .slice ya yx.length ycp] 33)).heap.size := by simp
      have HOC := Lib.hid (oneG_cells (w2.alloc (.cells #[.int .i64 yk, .int .i64 yc, .int .i64 ys, .int .i64 yq, .int .i64 yv, .bool yd, .slice ya yx.length ycp] 33)) 33 ⟨⟨yk, yc, ys, yq, yv, yd, yx⟩, ya, g2, ycp⟩)
      have HBC : Hid (Below (w2.heap.size + 1) (w2.alloc (.cells #[.int .i64 yk, .int .i64 yc, .int .i64 ys, .int .i64 yq, .int .i64 yv, .bool yd, .slice ya yx.length ycp] 33)) ((w2.alloc (.cells #[.int .i64 yk, .int .i64 yc, .int .i64 ys, .int .i64 yq, .int .i64 yv, .bool yd, .slice ya yx.length ycp] 33)).alloc (.cells #[.int .i64 yk, .int .i64 yc, .int .i64 ys, .int .i64 yq, .int .i64 yv, .bool yd, .slice ya yx.length ycp] 33))) := (Below.refl _ _).alloc (by simp) _
      have HRC := Lib.hid (HR3.out.below (hs3 ▸ HBC.out))
      have HGC := Lib.hid (HG3.out.below (hs3 ▸ HBC.out))
      have HDC := Lib.hid (HD3.out.below (hs3 ▸ HBC.out))
      have HHC : Hid (Hole B w ((w2.alloc (.cells #[.int .i64 yk, .int .i64 yc, .int .i64 ys, .int .i64 yq, .int .i64 yv, .bool yd, .slice ya yx.length ycp] 33)).alloc (.cells #[.int .i64 yk, .int .i64 yc, .int .i64 ys, .int .i64 yq, .int .i64 yv, .bool yd, .slice ya yx.length ycp] 33))) := (HH2.out.trans (Hole.of_below HBA.out)).trans (Hole.of_below (hs3 ▸ HBC.out))
      have hsz : w.heap.size ≤ w2.heap.size := by omega
      have HOW : Hid (((w2.alloc (.cells #[.int .i64 yk, .int .i64 yc, .int .i64 ys, .int .i64 yq, .int .i64 yv, .bool yd, .slice ya yx.length ycp] 33)).alloc (.cells #[.int .i64 yk, .int .i64 yc, .int .i64 ys, .int .i64 yq, .int .i64 yv, .bool yd, .slice ya yx.length ycp] 33)).ownsRow w.heap.size 33 7 (.slice a k cap) k (es.flatMap wrValsG)) := by
        have h := HRC.out.own
        rw [hel] at h
        exact Lib.hid h
      clear hs3 HBC HR3 HG3 HD3 HBA
      go_wp2_with (at_builtin; refine wpList_append_lies _ (by rfl) _ _ _ (by rfl) w.heap.size 33 i0 (wrV 0 0 0 0 0 false none 0 0) 7 72 Tryz.underlying24 HI0.out HX0.out.1 HX0.out.2.1 HX0.out.2.2 (by rfl) (by omega) (.slice a k cap) k (es.flatMap wrValsG) (by rfl) HOW.out ⟨w2.heap.size + 1, 0, none⟩ 1 1 (wrValsG ⟨⟨yk, yc, ys, yq, yv, yd, yx⟩, ya, g2, ycp⟩) (by rfl) (by rfl) (by simpa using HOC.out) (by simpa using valsG_one [⟨⟨yk, yc, ys, yq, yv, yd, yx⟩, ya, g2, ycp⟩]) (by omega) (by unfold maxLen; omega) (by omega) (by simp; omega) _ rfl ?_; intro g3 cp3 w5 hown hgrow hg3 _; refine Hid.out ?_)
      refine Lib.hid ?_
      have hobB : (Value.slice a k cap).ownBlock ≠ some B := fun e => by have := (HRC.out.own.lt _ e).1; omega
      have HH5 : Hid (Hole B w w5) := ⟨hgrow.os.trans HHC.out.os, hgrow.tape.trans HHC.out.tape, hgrow.output.trans HHC.out.output, Nat.le_trans HHC.out.size hgrow.size, fun b hb hne => (hgrow.block b (Nat.lt_of_lt_of_le hb HHC.out.size) (fun e => by have := (HRC.out.own.lt _ e.symm).1; omega)).trans (HHC.out.block b hb hne)⟩
      have hown2 : w5.ownsRow w.heap.size 33 7 (.slice (some ⟨g3, 0, none⟩) (es.length + 1) cp3) (es.length + 1) (es.flatMap wrValsG ++ wrValsG ⟨⟨yk, yc, ys, yq, yv, yd, yx⟩, ya, g2, ycp⟩) := by rw [hel]; exact hown
      have HR5 : Hid (RowG w5 w.heap.size (.slice (some ⟨g3, 0, none⟩) (k + 1) cp3) (es ++ [⟨⟨yk, yc, ys, yq, yv, yd, yx⟩, ya, g2, ycp⟩])) := by
        have h := HRC.out.more (HGC.out.mono hwr) HVV.out HAP.out hown2 hgrow hg3
        rw [hel] at h
        exact Lib.hid h
      have HD5 : Hid (Rdr w5 B s (i + (q + l.length + 1))) := HDC.out.of_block hgrow.size (hgrow.block _ HDC.out.lt (fun e => hobB e.symm))
      have hs5 : w.heap.size ≤ w5.heap.size := HH5.out.size
      have HS6 : Hid (Sofar (s.data.toList.drop i) m (k + 1) (q + l.length + 1) ((es ++ [(⟨⟨yk, yc, ys, yq, yv, yd, yx⟩, ya, g2, ycp⟩ : EnG)]).map (·.x)) (s.data.toList.drop (i + (q + l.length + 1)))) := by
        rw [List.map_append]
        exact HS2
      have HET6 : Hid (Eaten (s.data.toList.drop i) m (q + l.length + 1) ((es ++ [(⟨⟨yk, yc, ys, yq, yv, yd, yx⟩, ya, g2, ycp⟩ : EnG)]).map (·.x)) (s.data.toList.drop (i + (q + l.length + 1)))) := by
        rw [List.map_append]
        exact HET2
      have HOK6 : Hid (∀ d ∈ es ++ [(⟨⟨yk, yc, ys, yq, yv, yd, yx⟩, ya, g2, ycp⟩ : EnG)], okR d.x = true) := fun d hd => by
        rcases List.mem_append.1 hd with hd | hd
        · exact HOK.out d hd
        · obtain rfl : d = _ := by simpa using hd
          exact HOX.out
      clear hown hown2 hgrow HRC HS2 HET2 HOW HOC HHC HDC
      go_wp2
      exact ⟨⟨k + 1, q + l.length + 1, _, _, _, by omega, by go_num, rfl, by omega, by simp [hel], hs5, HOK6, HS6, HET6, HR5, HD5, HH5⟩, by simp [intOf]; omega⟩
    · have hkk : k = m := by omega
      subst hkk
      have hxl : (es.map (·.x)).length = k := by simp [hel]
      obtain ⟨b1, b2, b3⟩ := eaten_body HET.out hxl
      have HEX : Hid ((s.extract i (i + q)).data.toList = bodyB (es.map (·.x))) := by
        rw [extract_take]
        exact Lib.hid b2
      have hbz : (s.extract i (i + q)).size ≤ 1048576 := by
        have h := congrArg List.length HEX.out
        rw [← b3] at h
        have h2 : (s.extract i (i + q)).data.toList.length = (s.extract i (i + q)).size := Array.length_toList
        omega
      have HYES : Hid (∀ r', s.data.toList.drop (i + q) = sumL (bodyB (es.map (·.x))) ++ 10 :: r' → ValidAt (s.data.toList.drop i) (es.map (·.x)) ∧ (batchT (es.map (·.x))).length = q + (sumL (bodyB (es.map (·.x)))).length + 1) := fun r' hr' => eaten_valid HET.out hxl ⟨hm1, hm6⟩ (fun x hx => by
        obtain ⟨d, hd, rfl⟩ := List.mem_map.1 hx
        exact HOK.out d hd) hr'
      have HNO1 : Hid ((10 : UInt8) ∉ s.data.toList.drop (i + q) → ∀ ws, ¬ ValidAt (s.data.toList.drop i) ws) := fun h => sofar_none HS.out hk h
      have HNO2 : Hid (∀ l r', s.data.toList.drop (i + q) = l ++ 10 :: r' → (10 : UInt8) ∉ l → l ≠ sumL (bodyB (es.map (·.x))) → ∀ ws, ¬ ValidAt (s.data.toList.drop i) ws) := fun l r' h1 h2 h3 => sofar_sum HS.out h1 h2 h3
      have HBR : Hid (Below w0.heap.size w0 wr.drew) := (Hole.below HB0.out HH.out hB hsz0).drew
      have x0 : (0 : Int) ≤ (i : Int) := by omega
      have x1 : (i : Int) ≤ ((i + q : Nat) : Int) := by omega
      have x2 : ((i + q : Nat) : Int) ≤ (s.size : Int) := by omega
      have c0 := HD.out.c0
      have c1 := HD.out.c1
      have HD2 : Hid (Rdr wr.drew B s (i + q)) := HD.out.below (Below.refl _ _).drew
      have HR2 : Hid (RowG wr.drew w.heap.size (.slice a k cap) es) := HR.out.below (Below.refl _ _).drew
      have HH2 : Hid (Hole B w wr.drew) := HH.out.drew
      clear b1 b2 b3 HS HET HR HH
      generalize hX : i + q = X at *
      go_wp2_with fail
      refine wp_region_slots 11 [[(0, false)], [(0, false)], [(40, true)], [(41, true)], [(42, true)], [(4, false)], [(0, false)], [(45, true)], [(46, true)], [(47, true)], [(43, true), (44, true), (48, true)]] (fun w' => w' = wr.drew) (fun w w' => w' = w) (by kernel_rfl) (by kernel_rfl) (by rfl) rfl (fun w w' h1 h2 => h2.trans h1) ?_
      iterate 11 (apply slot_eq; · (rintro ρ w' ⟨p1, p2, p3⟩ rfl hn; simp at hn; go_simp; exact ⟨rfl, rfl⟩))
      refine slot_end ?_
      rintro tv w4 rfl hF
      simp at hF
      obtain ⟨f49, f48, f47, f46, f45, f44, f43, f42, f41, f40, f39⟩ := hF
      simp only [List.take_succ_cons, List.take_zero, List.drop_succ_cons, List.drop_zero, putAll, f49, f48, f47, f46, f45, f44, f43, f42, f41, f40, f39]
      clear f49 f48 f47 f46 f45 f44 f43 f42 f41 f40 f39
      simp only [Act.put, List.setIfInBounds_toArray, List.set_cons_succ, List.set_cons_zero]
      go_wp2_with fail
      refine (rdSum_any w0 s (s.extract i X) X B _ hs hbz (by omega) HE.out HT.out HBR.out hB HD2.out).mono ?_
      rintro e w5 ⟨hh, ⟨r', hlr, rfl, hr5⟩ | ⟨hbad, t, v, rfl⟩⟩
      · rw [HEX.out] at hlr hr5
        obtain ⟨hv, hl⟩ := HYES.out r' hlr
        have HVA := Lib.hid hv
        have HR5 : Hid (Rdr w5 B s (i + (batchT (es.map (·.x))).length)) := by
          rw [hl, show i + (q + (sumL (bodyB (es.map (·.x)))).length + 1) = X + (sumL (bodyB (es.map (·.x)))).length + 1 by omega]
          exact Lib.hid hr5
        have HRW := Lib.hid (HR2.out.holeQ hh hBw)
        have HH5 := Lib.hid (HH2.out.trans hh)
        clear hh hlr hr5 hv hl HYES HNO1 HNO2
        go_wp2
        refine bodyPost_ret (v := .tuple #[.slice a k cap, .nilIface]) (by simp [results, Tryz.results146, go_sem]) rfl ?_
        refine ⟨HH5.out, .inl ⟨a, cap, es, by rw [hel], HVA.out, by rw [hel]; exact HRW.out, HR5.out⟩⟩
      · rw [HEX.out] at hbad
        have HNO : Hid (∀ ws, ¬ ValidAt (s.data.toList.drop i) ws) := by
          rcases hbad with hno | ⟨l, r', h1, h2, h3⟩
          · exact Lib.hid (HNO1.out hno)
          · exact Lib.hid (HNO2.out l r' h1 h2 h3)
        have HH5 := Lib.hid (HH2.out.trans hh)
        clear hh hbad HYES HNO1 HNO2
        go_wp2
        refine bodyPost_ret (v := .tuple #[.slice none 0 0, .iface t v]) (by simp [results, Tryz.results146, go_sem]) rfl ?_
        exact ⟨HH5.out, .inr ⟨HNO.out, _, _, rfl⟩⟩

end Go.Proofs.YtbbmpfkijhhemaaGreatDoor

namespace Go.Proofs.YtbbmpfkijhhemaaGreatDoor
open Go.ChangeShapes Go.WideShapes Go.ChangeAt Go.RowKit Go.Joins Go.Extern.Stop Go.Stop Go.Extern
set_option maxRecDepth 100000

theorem as_nil (t : Value) (w : World) :
    Calls Tryz.prog 116 #[.nilIface, t] w fun e w' => e = .returned (.bool false) ∧ w' = w := by
  go_enter Tryz.func116, Tryz.ntmps116
  go_wp2
  go_ret
  exact ⟨rfl, rfl⟩

namespace asf

theorem valueOfP (t : Addr) (w : World) : (ReflectliteValue.unpack (.iface 131 (.pointer (some t)))).run Tryz.prog w = .ok (.agg #[.pointer (some ⟨13, 131, none⟩), .pointer (some ⟨w.heap.size, 0, none⟩), .int .u64 150]) (w.alloc (.cells #[.pointer (some t)] 131)) := by kernel_rfl

theorem typeP (a : Addr) (w : World) : (ReflectliteValue.methodAny (ReflectliteValue.valueError "reflectlite.Value.Type" 0) (fun t _ _ _ => ReflectliteType.toType t) #[.agg #[.pointer (some ⟨13, 131, none⟩), .pointer (some a), .int .u64 150]]).run Tryz.prog w = .ok (.iface 193 (.agg #[.pointer (some ⟨13, 131, none⟩)])) w := by kernel_rfl

theorem methodKind (h : Value) (w : World) : (Go.method 424 193 (.agg #[h]) "Kind").run Tryz.prog w = .ok (277, h) w := by kernel_rfl

theorem kindP (w : World) : ((ReflectliteType.abiMethod fun t => (fun a : Nat => Value.int IntKind.u8 (a : Int)) <$> Rtype.kind t) #[.pointer (some ⟨13, 131, none⟩)]).run Tryz.prog w = .ok (.int .u8 22) w := by kernel_rfl

theorem kindT (w : World) : ((ReflectliteType.abiMethod fun t => (fun a : Nat => Value.int IntKind.u8 (a : Int)) <$> Rtype.kind t) #[.pointer (some ⟨13, 129, none⟩)]).run Tryz.prog w = .ok (.int .u8 25) w := by kernel_rfl

theorem rlm (z : Sem Value) (f : TypeId → Addr → Nat → Nat → Sem Value) (v : Value) :
    ReflectliteValue.method z f #[v] = (do match ← ReflectliteValue.parts v with | none => z | some (t, a, fl) => f t a fl (fl % 32)) := rfl

theorem partsP (a : Addr) (w : World) : (ReflectliteValue.parts (.agg #[.pointer (some ⟨13, 131, none⟩), .pointer (some a), .int .u64 150])).run Tryz.prog w = .ok (some (131, a, 150)) w := by kernel_rfl

theorem isNilP (a p : Addr) (W : World) (ha : W.cell? a = some (.pointer (some p))) :
    (ReflectliteValue.method (ReflectliteValue.valueError "reflectlite.Value.IsNil" 0) ReflectliteValue.isNil #[.agg #[.pointer (some ⟨13, 131, none⟩), .pointer (some a), .int .u64 150]]).run Tryz.prog W = .ok (.bool false) W := by
  rw [rlm]
  simp only [Sem.run_bind, partsP, Result.andThen]
  simp [ReflectliteValue.isNil, loadVar, isAgg, underlying, Tryz.underlying131, ha, Result.andThen]

theorem methodElem (h : Value) (w : World) : (Go.method 424 193 (.agg #[h]) "Elem").run Tryz.prog w = .ok (289, .agg #[h]) w := by kernel_rfl

theorem methodImplements (h : Value) (w : World) : (Go.method 424 193 (.agg #[h]) "Implements").run Tryz.prog w = .ok (290, .agg #[h]) w := by kernel_rfl

theorem methodAssignableTo (h : Value) (w : World) : (Go.method 424 193 (.agg #[h]) "AssignableTo").run Tryz.prog w = .ok (287, .agg #[h]) w := by kernel_rfl

theorem elemP (w : World) : (ReflectliteType.method ReflectliteType.elem #[.agg #[.pointer (some ⟨13, 131, none⟩)]]).run Tryz.prog w = .ok (.iface 193 (.agg #[.pointer (some ⟨13, 129, none⟩)])) w := by kernel_rfl

theorem implementsT (w : World) : (ReflectliteType.relation "Implements" ReflectliteType.implements_ #[.agg #[.pointer (some ⟨13, 129, none⟩)], .iface 193 (.agg #[.pointer (some ⟨13, 125, none⟩)])]).run Tryz.prog w = .ok (.bool true) w := by kernel_rfl

theorem typeOfT (v : Value) (w : World) : (ReflectliteType.typeOf #[.iface 129 v]).run Tryz.prog w = .ok (.iface 193 (.agg #[.pointer (some ⟨13, 129, none⟩)])) w := by kernel_rfl

theorem assignableT (w : World) : (ReflectliteType.relation "AssignableTo" ReflectliteType.assignableTo #[.agg #[.pointer (some ⟨13, 129, none⟩)], .iface 193 (.agg #[.pointer (some ⟨13, 129, none⟩)])]).run Tryz.prog w = .ok (.bool true) w := by kernel_rfl

theorem valueOfT (x y : Value) (w : World) : (ReflectliteValue.unpack (.iface 129 (.agg #[x, y]))).run Tryz.prog w = .ok (.agg #[.pointer (some ⟨13, 129, none⟩), .pointer (some ⟨w.heap.size, 0, none⟩), .int .u64 153]) (w.alloc (.cells #[x, y] 129)) := by kernel_rfl

theorem elemOfP (w : World) : (Rtype.elem? 131).run Tryz.prog w = .ok (some 129) w := by kernel_rfl

theorem mkT (p : Addr) (w : World) : (ReflectliteValue.mk 129 p ReflectliteValue.flagAddr).run Tryz.prog w = .ok (.agg #[.pointer (some ⟨13, 129, none⟩), .pointer (some p), .int .u64 409]) w := by kernel_rfl

theorem elemV (a p : Addr) (W : World) (ha : W.cell? a = some (.pointer (some p))) :
    (ReflectliteValue.method (ReflectliteValue.valueError "reflectlite.Value.Elem" 0) ReflectliteValue.elem #[.agg #[.pointer (some ⟨13, 131, none⟩), .pointer (some a), .int .u64 150]]).run Tryz.prog W = .ok (.agg #[.pointer (some ⟨13, 129, none⟩), .pointer (some p), .int .u64 409]) W := by
  rw [rlm]
  simp only [Sem.run_bind, partsP, Result.andThen]
  simp [ReflectliteValue.elem, loadVar, isAgg, underlying, Tryz.underlying131, ha, Result.andThen, elemOfP, mkT]

theorem rls (v x : Value) : ReflectliteValue.set #[v, x] = (do
    let (some (dst, a, fl), some (src, b, _)) := (← ReflectliteValue.parts v, ← ReflectliteValue.parts x)
      | unsupported (.noEntry "extern/(internal/reflectlite.Value).Set.zeroValue")
    if fl / ReflectliteValue.flagAddr % 2 == 0 then unsupported (.noEntry "extern/(internal/reflectlite.Value).Set.unaddressable")
    let val ← loadVar src b
    if ← Rtype.directlyAssignable dst src then storeVar dst a val
    else if ← Rtype.implements dst src then
      if (← Rtype.kind src) == 20 then
        match val with
        | .nilIface => unsupported (.noEntry "extern/reflectlite: a nil value of one interface type handed on as a value of another")
        | _ => storeVar dst a val
      else storeVar dst a (.iface src val)
    else panicString ("reflectlite.Set: value of type " ++ (← Rtype.spelt src) ++ " is not assignable to type " ++ (← Rtype.spelt dst))
    pure (.tuple #[])) := rfl

theorem partsTa (a : Addr) (w : World) : (ReflectliteValue.parts (.agg #[.pointer (some ⟨13, 129, none⟩), .pointer (some a), .int .u64 409])).run Tryz.prog w = .ok (some (129, a, 409)) w := by kernel_rfl

theorem partsT (a : Addr) (w : World) : (ReflectliteValue.parts (.agg #[.pointer (some ⟨13, 129, none⟩), .pointer (some a), .int .u64 153])).run Tryz.prog w = .ok (some (129, a, 153)) w := by kernel_rfl

theorem directT (w : World) : (Rtype.directlyAssignable 129 129).run Tryz.prog w = .ok true w := by kernel_rfl

theorem setT (c b : Nat) (x y ox oy : Value) (W : World) (hx : W.cell? ⟨b, 0, none⟩ = some x) (hy : W.cell? ⟨b, 1, none⟩ = some y) (h0 : W.cell? ⟨c, 0, none⟩ = some ox) (h1 : W.cell? ⟨c, 1, none⟩ = some oy) (hf : ∀ o, W.frozen? ⟨c, o, none⟩ = false) (x1 : x.oneCell' = true) (y1 : y.oneCell' = true) :
    (ReflectliteValue.set #[.agg #[.pointer (some ⟨13, 129, none⟩), .pointer (some ⟨c, 0, none⟩), .int .u64 409], .agg #[.pointer (some ⟨13, 129, none⟩), .pointer (some ⟨b, 0, none⟩), .int .u64 153]]).run Tryz.prog W = .ok (.tuple #[]) ((W.setCell ⟨c, 0, none⟩ x).setCell ⟨c, 1, none⟩ y) := by
  have h3 : (W.setCell ⟨c, 0, none⟩ x).cell? ⟨c, 1, none⟩ = some oy := cell_set_off h1 (by omega)
  have h4 : (W.setCell ⟨c, 0, none⟩ x).frozen? ⟨c, 1, none⟩ = false := by rw [World.frozen?_setCell]; exact hf 1
  have h5 := hf 0
  rw [rls]
  simp only [Sem.run_bind, partsTa, partsT, Result.andThen]
  simp [ReflectliteValue.flagAddr, loadVar, loadCells, loadCellsFrom, hx, hy, Result.andThen, directT, storeVar, Value.cells, storeCells, Addr.add]
  rw [run_store Tryz.prog W ⟨c, 0, none⟩ _ _ x1]
  simp only [h0, h5]
  simp only [Bool.false_eq_true, if_false]
  rw [run_store Tryz.prog _ ⟨c, 1, none⟩ _ _ y1]
  simp only [h3, h4]
  simp

end asf

def ET (w : World) : Prop := w.cell? ⟨0, 0, none⟩ = some (.iface 193 (.agg #[.pointer (some ⟨13, 125, none⟩)]))

set_option maxHeartbeats 8000000 in
theorem as_hit (c : Nat) (x y ox oy : Value) (w : World) (hg : ET w) (h0 : w.cell? ⟨c, 0, none⟩ = some ox) (h1 : w.cell? ⟨c, 1, none⟩ = some oy) (hf : ∀ o, w.frozen? ⟨c, o, none⟩ = false) (x1 : x.oneCell' = true) (y1 : y.oneCell' = true) :
    Calls Tryz.prog 116 #[.iface 129 (.agg #[x, y]), .iface 131 (.pointer (some ⟨c, 0, none⟩))] w fun ev w' => ev = .returned (.bool true) ∧ w' = (((((w.alloc (.cells #[.pointer (some ⟨c, 0, none⟩)] 131)).alloc (.cells #[.pointer (some ⟨13, 131, none⟩), .pointer (some ⟨w.heap.size, 0, none⟩), .int .u64 150] 162)).alloc (.cells #[.pointer (some ⟨13, 131, none⟩), .pointer (some ⟨w.heap.size, 0, none⟩), .int .u64 150] 162)).alloc (.cells #[x, y] 129)).setCell ⟨c, 0, none⟩ x).setCell ⟨c, 1, none⟩ y := by
  have hV := @run_callFunc_extern Tryz.prog 147 _ (fun args => ReflectliteValue.unpack (args.getD 0 (.tuple #[]))) Tryz.func147 (by kernel_rfl) (by kernel_rfl) (by kernel_rfl) (by kernel_rfl)
  have hTy := @run_callFunc_extern Tryz.prog 148 _ (ReflectliteValue.methodAny (ReflectliteValue.valueError "reflectlite.Value.Type" 0) (fun t _ _ _ => ReflectliteType.toType t)) Tryz.func148 (by kernel_rfl) (by kernel_rfl) (by kernel_rfl) (by kernel_rfl)
  have hN := @run_callFunc_extern Tryz.prog 149 _ (ReflectliteValue.method (ReflectliteValue.valueError "reflectlite.Value.IsNil" 0) ReflectliteValue.isNil) Tryz.func149 (by kernel_rfl) (by kernel_rfl) (by kernel_rfl) (by kernel_rfl)
  have hK := @run_callFunc_extern Tryz.prog 277 _ (ReflectliteType.abiMethod fun t => do pure (.int .u8 (← Rtype.kind t))) Tryz.func277 (by kernel_rfl) (by kernel_rfl) (by kernel_rfl) (by kernel_rfl)
  have hRE := @run_callFunc_extern Tryz.prog 289 _ (ReflectliteType.method ReflectliteType.elem) Tryz.func289 (by kernel_rfl) (by kernel_rfl) (by kernel_rfl) (by kernel_rfl)
  have hRI := @run_callFunc_extern Tryz.prog 290 _ (ReflectliteType.relation "Implements" ReflectliteType.implements_) Tryz.func290 (by kernel_rfl) (by kernel_rfl) (by kernel_rfl) (by kernel_rfl)
  have hTO := @run_callFunc_extern Tryz.prog 171 _ (ReflectliteType.typeOf) Tryz.func171 (by kernel_rfl) (by kernel_rfl) (by kernel_rfl) (by kernel_rfl)
  have hRA := @run_callFunc_extern Tryz.prog 287 _ (ReflectliteType.relation "AssignableTo" ReflectliteType.assignableTo) Tryz.func287 (by kernel_rfl) (by kernel_rfl) (by kernel_rfl) (by kernel_rfl)
  have hEl := @run_callFunc_extern Tryz.prog 172 _ (ReflectliteValue.method (ReflectliteValue.valueError "reflectlite.Value.Elem" 0) ReflectliteValue.elem) Tryz.func172 (by kernel_rfl) (by kernel_rfl) (by kernel_rfl) (by kernel_rfl)
  have hSe := @run_callFunc_extern Tryz.prog 173 _ (ReflectliteValue.set) Tryz.func173 (by kernel_rfl) (by kernel_rfl) (by kernel_rfl) (by kernel_rfl)
  have tO := asf.typeOfT
  have mA := asf.methodAssignableTo
  have aT := asf.assignableT
  have vT := asf.valueOfT
  have vP := asf.valueOfP
  have tP := asf.typeP
  have mK := asf.methodKind
  have mE := asf.methodElem
  have mI := asf.methodImplements
  have kP := asf.kindP
  have kT := asf.kindT
  have eP := asf.elemP
  have iT := asf.implementsT
  have n8 := asf.isNilP ⟨w.heap.size, 0, none⟩ ⟨c, 0, none⟩ ((w.alloc (.cells #[.pointer (some ⟨c, 0, none⟩)] 131)).alloc (.cells #[.pointer (some ⟨13, 131, none⟩), .pointer (some ⟨w.heap.size, 0, none⟩), .int .u64 150] 162)) (by simp)
  have hlt : 0 < w.heap.size := World.block_lt_of_cell? w _ hg
  have hcl : c < w.heap.size := World.block_lt_of_cell? w _ h0
  have hg2 : ((w.alloc (.cells #[.pointer (some ⟨c, 0, none⟩)] 131)).alloc (.cells #[.pointer (some ⟨13, 131, none⟩), .pointer (some ⟨w.heap.size, 0, none⟩), .int .u64 150] 162)).cell? ⟨0, 0, none⟩ = some (.iface 193 (.agg #[.pointer (some ⟨13, 125, none⟩)])) := by
    rw [World.cell?_alloc_lt _ _ ⟨0, 0, none⟩ (by simp <;> omega), World.cell?_alloc_lt _ _ ⟨0, 0, none⟩ hlt]; exact hg
  have el := asf.elemV ⟨w.heap.size, 0, none⟩ ⟨c, 0, none⟩ (((w.alloc (.cells #[.pointer (some ⟨c, 0, none⟩)] 131)).alloc (.cells #[.pointer (some ⟨13, 131, none⟩), .pointer (some ⟨w.heap.size, 0, none⟩), .int .u64 150] 162)).alloc (.cells #[.pointer (some ⟨13, 131, none⟩), .pointer (some ⟨w.heap.size, 0, none⟩), .int .u64 150] 162)) (by rw [World.cell?_alloc_lt _ _ ⟨w.heap.size, 0, none⟩ (by simp <;> omega)]; simp)
  have hold : Below w.heap.size w ((((w.alloc (.cells #[.pointer (some ⟨c, 0, none⟩)] 131)).alloc (.cells #[.pointer (some ⟨13, 131, none⟩), .pointer (some ⟨w.heap.size, 0, none⟩), .int .u64 150] 162)).alloc (.cells #[.pointer (some ⟨13, 131, none⟩), .pointer (some ⟨w.heap.size, 0, none⟩), .int .u64 150] 162)).alloc (.cells #[x, y] 129)) := ((((Below.refl _ _).alloc (Nat.le_refl _) _).alloc (by simp) _).alloc (by simp <;> omega) _).alloc (by simp <;> omega) _
  have st := asf.setT c (w.heap.size + 1 + 1 + 1) x y ox oy ((((w.alloc (.cells #[.pointer (some ⟨c, 0, none⟩)] 131)).alloc (.cells #[.pointer (some ⟨13, 131, none⟩), .pointer (some ⟨w.heap.size, 0, none⟩), .int .u64 150] 162)).alloc (.cells #[.pointer (some ⟨13, 131, none⟩), .pointer (some ⟨w.heap.size, 0, none⟩), .int .u64 150] 162)).alloc (.cells #[x, y] 129)) (by rw [World.cell?_alloc_at _ _ _ _ (by simp)]; rfl) (by rw [World.cell?_alloc_at _ _ _ _ (by simp)]; rfl) ((hold.cell (p := ⟨c, 0, none⟩) hcl).trans h0) ((hold.cell (p := ⟨c, 1, none⟩) hcl).trans h1) (fun o => (hold.frozen (p := ⟨c, o, none⟩) hcl).trans (hf o)) x1 y1
  clear hold
  go_enter Tryz.func116, Tryz.ntmps116
  go_wp2
  refine wp_loop_rounds 1 ?_
  rw [rounds_succ]
  go_wp2
  go_ret
  exact ⟨rfl, rfl⟩

end Go.Proofs.YtbbmpfkijhhemaaGreatDoor

namespace Go.Proofs.YtbbmpfkijhhemaaGreatDoor
open Go.ChangeShapes Go.WideShapes Go.ChangeAt Go.RowKit Go.Joins
set_option maxRecDepth 100000
attribute [local go_sem ↓] Go.wp_at_zero Go.wp_at_succ

theorem RowB.holeQ {w w' : World} {B base : Nat} {v : Value} {es : List Bat} (h : RowB w base v es) (hh : Hole B w w') (hB : B < base) : RowB w' base v es where
  own := World.ownsRow.kept (row := some B) h.own ⟨hh.os, hh.tape, hh.output, hh.size, fun k hk hn => hh.block k hk (fun e => hn (by rw [e]))⟩ (by
    by_cases e : v.ownBlock = none
    · exact .inl e
    · refine .inr fun e2 => ?_
      have := (World.ownsRow.lt h.own B e2).1
      omega)
  laid := fun i hi => ⟨(h.laid i hi).1, Nat.le_trans (h.laid i hi).2.1 hh.size, (h.laid i hi).2.2.kept hh.size fun x x1 _ x3 => hh.block x x3 (by have := (h.laid i hi).1; omega)⟩
  order := h.order
  apart := h.apart

theorem OwnB.mono {w : World} {lo lo' hi : Nat} {a : Option Addr} {es : List Bat} (h : OwnB w lo hi a es) (hl : lo' ≤ lo) : OwnB w lo' hi a es := by
  rcases h with h | ⟨b, h1, h2, h3, h4, h5, h6, h7⟩
  · exact .inl h
  · exact .inr ⟨b, h1, Nat.le_trans hl h2, h3, h4, h5, fun i hi => ⟨Nat.le_trans hl (h6 i hi).1, (h6 i hi).2⟩, h7⟩

def rdAt (B : Nat) (w : World) : Nat := match w.cell? ⟨B, 1, none⟩ with
  | some (.int _ z) => z.toNat
  | _ => 0

theorem rdAt_is {w : World} {B p : Nat} {s : ByteArray} (h : Rdr w B s p) : rdAt B w = p := by
  unfold rdAt
  rw [h.c1]
  simp

theorem log_all {s : List UInt8} {bs : List (List Wr)} (h : ∀ b ∈ bs, okWs b = true) (hp : logT bs <+: s) (hl : s.length ≤ (logT bs).length) : IsLog s bs := ⟨h, hp, fun b hb hq => by
  have h1 := hq.length_le
  have h2 := batch_pos hb
  rw [List.length_append] at h1
  omega⟩

def LogsAns (s : ByteArray) (w w' : World) (e : Ending) : Prop :=
  Below w.heap.size w w' ∧ ∃ a cap es p, es.length ≤ s.size ∧ IsLog s.data.toList (batsOf es) ∧ (logT (batsOf es)).length = p ∧ OwnB w' w.heap.size w'.heap.size a es ∧
    ((p = s.size ∧ e = .returned (.tuple #[.slice a (List.length es) cap, .nilIface])) ∨ ∃ t v, e = .returned (.tuple #[.slice a (List.length es) cap, .iface 129 (.agg #[.int .i64 (p : Int), .iface t v])]))

set_option maxHeartbeats 8000000 in
theorem batchesOf_any (s : ByteArray) (w : World) (hs : s.size ≤ 1048576) (hE : EV w) (hV : RV w) (hT : Tab w) :
    Calls Tryz.prog 115 #[.string s] w fun e w' => LogsAns s w w' e := by
  obtain ⟨i0, hi0, hx0⟩ := Option.map_eq_some_iff.1 infoBatch
  simp only [Prod.mk.injEq] at hx0
  have HI0 := Lib.hid hi0
  have HX0 := Lib.hid hx0
  clear hi0 hx0
  have hdl : s.data.toList.length = s.size := by simp
  have HDL := Lib.hid hdl
  clear hdl
  have HE := Lib.hid hE
  have HV := Lib.hid hV
  have HT := Lib.hid hT
  clear hE hV hT
  have HD0 : Hid (Rdr (w.alloc (.cells #[.string s, .int .i64 0] 156)) w.heap.size s 0) := ⟨by simp, by simp [go_sem], by simp [go_sem], fun o => by simp [go_sem]⟩
  have HB0 : Hid (Below w.heap.size w (w.alloc (.cells #[.string s, .int .i64 0] 156))) := (Below.refl _ _).alloc (Nat.le_refl _) _
  have HR0 : Hid (RowB (w.alloc (.cells #[.string s, .int .i64 0] 156)) (w.heap.size + 1) (.slice none 0 0) []) := ⟨World.ownsRow_nil _ _ _ _, fun i hi => by simp at hi, fun i j _ hj => by simp at hj, fun b _ i hi => by simp at hi⟩
  have hz0 : w.heap.size + 1 ≤ (w.alloc (.cells #[.string s, .int .i64 0] 156)).heap.size := by simp
  go_enter Tryz.func115, Tryz.ntmps115
  go_wp2
  generalize w.alloc (.cells #[.string s, .int .i64 0] 156) = W0 at *
  go_loopw [4] (fun o wr => ∃ (p : Nat) (a : Option Addr) (n cap : Nat) (es : List Bat), p ≤ s.size ∧ o = .slice a n cap ∧ es.length = n ∧ n ≤ p ∧ w.heap.size + 1 ≤ wr.heap.size ∧ Hid (∀ b ∈ batsOf es, okWs b = true) ∧ Hid ((logT (batsOf es)).length = p) ∧ Hid (logT (batsOf es) <+: s.data.toList) ∧ Hid (RowB wr (w.heap.size + 1) (.slice a n cap) es) ∧ Hid (Rdr wr w.heap.size s p) ∧ Hid (Below w.heap.size w wr)) (fun _ wr => s.size - rdAt w.heap.size wr)
  case atStart => exact ⟨0, _, 0, _, [], Nat.zero_le _, rfl, rfl, Nat.le_refl _, hz0, fun b hb => by simp [batsOf] at hb, rfl, List.nil_prefix, HR0, HD0, HB0⟩
  case round =>
    clear HR0 HB0 HD0 hz0
    obtain ⟨p, a, n, cap, es, hp, rfl, hel, hnp, hwr, HOK, HLN, HPR, HR, HD, HB⟩ := hrel
    have c1 := HD.out.c1
    by_cases hp' : p < s.size
    rotate_left
    · have hpe : p = s.size := by omega
      have q2 : ¬ (p : Int) < (s.size : Int) := by omega
      have HIS : Hid (IsLog s.data.toList (batsOf es)) := log_all HOK.out HPR.out (by rw [HLN.out, HDL.out]; omega)
      go_wp2
      refine bodyPost_ret (v := .tuple #[.slice a n cap, .nilIface]) (by simp [results, Tryz.results115, go_sem]) rfl ?_
      exact ⟨HB.out, a, cap, es, p, by omega, HIS.out, HLN.out, HR.out.ownB.2.mono (Nat.le_succ _), .inl ⟨hpe, by rw [hel]⟩⟩
    have q2 : (p : Int) < (s.size : Int) := by omega
    go_wp2_with fail
    refine (rdBatch_any w s p w.heap.size _ hs hp HE.out HV.out HT.out HB.out (Nat.le_refl _) HD.out).mono ?_
    rintro e w2 ⟨hh, hans⟩
    have HB2 : Hid (Below w.heap.size w w2) := Hole.below HB.out hh (Nat.le_refl _) HB.out.size
    have HR2 := Lib.hid (HR.out.holeQ hh (Nat.lt_succ_self _))
    have hs2 : wr.heap.size ≤ w2.heap.size := hh.size
    clear hh c1
    rcases hans with ⟨ya, ycp, ys, rfl, hv, hrow, hrd⟩ | ⟨hno, t, v, rfl⟩
    rotate_left
    · have HIS : Hid (IsLog s.data.toList (batsOf es)) := ⟨HOK.out, HPR.out, fun b hb h => hno b ⟨hb, by
        have := prefix_drop h
        rw [HLN.out] at this
        exact this⟩⟩
      clear hno
      go_wp2
      refine bodyPost_ret (v := .tuple #[.slice a n cap, .iface 129 (.agg #[.int .i64 (p : Int), .iface t v])]) (by simp [results, Tryz.results115, go_sem]) rfl ?_
      exact ⟨HB2.out, a, cap, es, p, by omega, HIS.out, HLN.out, HR2.out.ownB.2.mono (Nat.le_succ _), .inr ⟨t, v, by rw [hel]⟩⟩
    have hpos := batch_pos hv.1
    have hle : p + (batchT (ys.map (·.x))).length ≤ s.size := by
      have h := hv.2.length_le
      rw [List.length_drop, HDL.out] at h
      omega
    have HPR2 : Hid (logT (batsOf es) ++ batchT (ys.map (·.x)) <+: s.data.toList) := prefix_join HPR.out (by rw [HLN.out]; exact hv.2)
    have HOKX := Lib.hid hv.1
    obtain ⟨a', cap', n', e', hn', hO⟩ := hrow.ownA rfl
    obtain ⟨rfl, rfl, rfl⟩ : ya = a' ∧ ys.length = n' ∧ ycp = cap' := by
      simpa only [Value.slice.injEq] using e'
    have HO := Lib.hid hO
    have HYL : Hid ((ys.map (·.x)).length = ys.length) := hn'
    have HD2 := Lib.hid hrd
    clear hv hrow e' hn' hO hrd
    generalize gammaG ys = γ at *
    generalize ys.map (·.x) = ws at *
    generalize ys.length = m at *
    obtain ⟨z, hz⟩ : ∃ z, (batchT ws).length = z := ⟨_, rfl⟩
    rw [hz] at hpos hle HD2
    have HZ := Lib.hid hz
    clear hz
    have HBA : Hid (Below w2.heap.size w2 (w2.alloc (.cells #[.slice ya m ycp] 95))) := (Below.refl _ _).alloc (Nat.le_refl _) _
    have HBD := Lib.hid (below_step HB2.out HB2.out.size HBA.out)
    have HRC := Lib.hid (HR2.out.below HBA.out)
    have HOC := Lib.hid (HO.out.below HBA.out)
    have HDC := Lib.hid (HD2.out.below HBA.out)
    have HCE : Hid (∀ j u, [Value.slice ya m ycp][j]? = some u → (w2.alloc (.cells #[.slice ya m ycp] 95)).cell? ((⟨w2.heap.size, 0, none⟩ : Addr).add j) = some u) := by
      refine Lib.hid fun j u hu => ?_
      match j, hu with
      | 0, hu =>
        obtain rfl : Value.slice ya m ycp = u := by simpa using hu
        simp [go_sem]
    have HOW : Hid ((w2.alloc (.cells #[.slice ya m ycp] 95)).ownsRow (w.heap.size + 1) 95 1 (.slice a n cap) n (es.map batV)) := by
      have h := HRC.out.own
      rw [hel] at h
      exact Lib.hid h
    clear HBA
    go_wp2_with (at_builtin; refine wpList_append_lies _ (by rfl) _ _ _ (by rfl) (w.heap.size + 1) 95 i0 (.agg #[.slice none 0 0]) 1 24 Tryz.underlying89 HI0.out HX0.out.1 HX0.out.2.1 HX0.out.2.2 (by rfl) (by omega) (.slice a n cap) n (es.map batV) (by rfl) HOW.out ⟨w2.heap.size, 0, none⟩ 1 1 [.slice ya m ycp] (by rfl) (by rfl) (by simpa using HCE.out) (by simp [Value.oneCell']) (by omega) (by unfold maxLen; omega) (by omega) (by simp; omega) _ rfl ?_; intro g3 cp3 w5 hown hgrow hg3 _; refine Hid.out ?_)
    refine Lib.hid ?_
    have HB5 : Hid (Below w.heap.size w w5) := HBD.out.grown hgrow HBD.out.size fun j hj => by have := (HR2.out.own.lt j hj).1; omega
    have hbv : batV ⟨ws, ya, ycp, wr.heap.size, w2.heap.size, γ⟩ = .slice ya m ycp := by
      unfold batV
      rw [HYL.out]
    have HR5 : Hid (RowB w5 (w.heap.size + 1) (.slice (some ⟨g3, 0, none⟩) (n + 1) cp3) (es ++ [⟨ws, ya, ycp, wr.heap.size, w2.heap.size, γ⟩])) := by
      subst hel
      refine Lib.hid (HRC.out.more HOC.out hwr (by simp) (fun i hi => (HR.out.laid i hi).2.1) (fun b hb => .inl (HR.out.own.lt b hb).2) ?_ hgrow hg3)
      rw [hbv]
      exact hown
    have hobB : (Value.slice a n cap).ownBlock ≠ some w.heap.size := fun e => by have := (HR2.out.own.lt _ e).1; omega
    have HD5 : Hid (Rdr w5 w.heap.size s (p + z)) := HDC.out.of_block hgrow.size (hgrow.block _ HDC.out.lt (fun e => hobB e.symm))
    have hs5 : w.heap.size + 1 ≤ w5.heap.size := HD5.out.lt
    have HOK5 : Hid (∀ b ∈ batsOf (es ++ [(⟨ws, ya, ycp, wr.heap.size, w2.heap.size, γ⟩ : Bat)]), okWs b = true) := fun b hb => by
      unfold batsOf at hb
      rw [List.map_append] at hb
      rcases List.mem_append.1 hb with hb | hb
      · exact HOK.out b hb
      · obtain rfl : b = ws := by simpa using hb
        exact HOKX.out
    have HLE : Hid (logT (batsOf (es ++ [(⟨ws, ya, ycp, wr.heap.size, w2.heap.size, γ⟩ : Bat)])) = logT (batsOf es) ++ batchT ws) := by
      show _ = _
      unfold batsOf
      rw [List.map_append]
      exact logT_snoc _ _
    have HLN5 : Hid ((logT (batsOf (es ++ [(⟨ws, ya, ycp, wr.heap.size, w2.heap.size, γ⟩ : Bat)]))).length = p + z) := by
      show _ = _
      rw [HLE.out, List.length_append, HLN.out, HZ.out]
    have HPR5 : Hid (logT (batsOf (es ++ [(⟨ws, ya, ycp, wr.heap.size, w2.heap.size, γ⟩ : Bat)])) <+: s.data.toList) := by
      rw [HLE.out]
      exact HPR2
    clear hown hgrow HRC HOW HCE HOC HDC
    go_wp2
    exact ⟨⟨p + z, _, n + 1, _, _, by omega, rfl, by simp [hel], by omega, hs5, HOK5, HLN5, HPR5, HR5, HD5, HB5⟩, by rw [rdAt_is HD5.out, rdAt_is HD.out]; omega⟩

theorem OwnB.wide {w : World} {lo hi hi' : Nat} {a : Option Addr} {es : List Bat} (h : OwnB w lo hi a es) (hl : hi ≤ hi') : OwnB w lo hi' a es := by
  rcases h with h | ⟨b, h1, h2, h3, h4, h5, h6, h7⟩
  · exact .inl h
  · exact .inr ⟨b, h1, h2, Nat.lt_of_lt_of_le h3 hl, h4, h5, fun i hi => ⟨(h6 i hi).1, Nat.le_trans (h6 i hi).2.1 hl, (h6 i hi).2.2⟩, h7⟩

theorem ET.below {w w' : World} (h : ET w) (hb : Below w.heap.size w w') : ET w' :=
  (hb.cell (p := ⟨0, 0, none⟩) (World.block_lt_of_cell? w _ h)).trans h

set_option maxHeartbeats 8000000 in
theorem implLog_any (s : ByteArray) (w : World) (hs : s.size ≤ 1048576) (hE : EV w) (hV : RV w) (hT : Tab w) (hY : ET w) :
    Calls Tryz.prog 65 #[.string s] w fun e w' => ∃ a cap es, e = .returned (.tuple #[.slice a (List.length es) cap, .int .i64 (((logT (batsOf es)).length : Nat) : Int)]) ∧ IsLog s.data.toList (batsOf es) ∧ es.length ≤ s.size ∧ OwnB w' w.heap.size w'.heap.size a es ∧ Below w.heap.size w w' := by
  have HE := Lib.hid hE
  have HV := Lib.hid hV
  have HT := Lib.hid hT
  have HY := Lib.hid hY
  clear hE hV hT hY
  go_enter Tryz.func65, Tryz.ntmps65
  go_wp2_with fail
  refine (batchesOf_any s _ hs HE.out HV.out HT.out).mono ?_
  rintro e w1 ⟨hb, a, cap, es, p, hel, hlog, hp, hown, hans⟩
  have HB1 := Lib.hid hb
  have HLG := Lib.hid hlog
  have HP := Lib.hid hp
  have HO := Lib.hid hown
  clear hb hlog hp hown
  generalize hn : es.length = n at *
  have HN := Lib.hid hn
  clear hn
  have HA1 : Hid (Below w1.heap.size w1 (w1.alloc (.cells #[.int .i64 0, .nilIface] 129))) := (Below.refl _ _).alloc (Nat.le_refl _) _
  have HB2 := Lib.hid (below_step HB1.out HB1.out.size HA1.out)
  rcases hans with ⟨hpe, rfl⟩ | ⟨t, v, rfl⟩
  · have HO2 : Hid (OwnB (w1.alloc (.cells #[.int .i64 0, .nilIface] 129)) w.heap.size (w1.alloc (.cells #[.int .i64 0, .nilIface] 129)).heap.size a es) := (HO.out.below HA1.out).wide HA1.out.size
    go_wp2_with fail
    refine (as_nil _ _).mono ?_
    rintro e w2 ⟨rfl, hw⟩
    subst w2
    go_wp2
    refine bodyPost_ret (v := .tuple #[.slice a n cap, .int .i64 (s.size : Int)]) (by simp [results, Tryz.results65, go_sem]) rfl ?_
    exact ⟨a, cap, es, by rw [HN.out, HP.out, hpe], HLG.out, by rw [HN.out]; exact hel, HO2.out, HB2.out⟩
  · have z0 : (w1.alloc (.cells #[.int .i64 0, .nilIface] 129)).cell? ⟨w1.heap.size, 0, none⟩ = some (.int .i64 0) := by simp [go_sem]
    have z1 : (w1.alloc (.cells #[.int .i64 0, .nilIface] 129)).cell? ⟨w1.heap.size, 1, none⟩ = some .nilIface := by simp [go_sem]
    have zf : ∀ o, (w1.alloc (.cells #[.int .i64 0, .nilIface] 129)).frozen? ⟨w1.heap.size, o, none⟩ = false := fun o => by simp [go_sem]
    have HC := Lib.hid (as_hit w1.heap.size (.int .i64 (p : Int)) (.iface t v) (.int .i64 0) .nilIface _ (HY.out.below HB2.out) z0 z1 zf rfl rfl)
    go_wp2_with fail
    generalize hW : w1.alloc (.cells #[.int .i64 0, .nilIface] 129) = W1 at *
    refine HC.out.mono ?_
    rintro e w2 ⟨rfl, hw⟩
    have hsz : w1.heap.size < W1.heap.size := by rw [← hW]; simp
    clear hW HC zf
    have hbb : Below W1.heap.size W1 ((((W1.alloc (.cells #[.pointer (some ⟨w1.heap.size, 0, none⟩)] 131)).alloc (.cells #[.pointer (some ⟨13, 131, none⟩), .pointer (some ⟨W1.heap.size, 0, none⟩), .int .u64 150] 162)).alloc (.cells #[.pointer (some ⟨13, 131, none⟩), .pointer (some ⟨W1.heap.size, 0, none⟩), .int .u64 150] 162)).alloc (.cells #[.int .i64 (p : Int), .iface t v] 129)) := ((((Below.refl _ _).alloc (Nat.le_refl _) _).alloc (by simp) _).alloc (by simp <;> omega) _).alloc (by simp <;> omega) _
    have y0 := (hbb.cell (p := ⟨w1.heap.size, 0, none⟩) hsz).trans z0
    generalize ((((W1.alloc (.cells #[.pointer (some ⟨w1.heap.size, 0, none⟩)] 131)).alloc (.cells #[.pointer (some ⟨13, 131, none⟩), .pointer (some ⟨W1.heap.size, 0, none⟩), .int .u64 150] 162)).alloc (.cells #[.pointer (some ⟨13, 131, none⟩), .pointer (some ⟨W1.heap.size, 0, none⟩), .int .u64 150] 162)).alloc (.cells #[.int .i64 (p : Int), .iface t v] 129)) = X at *
    have hc : w2.cell? ⟨w1.heap.size, 0, none⟩ = some (.int .i64 (p : Int)) := by
      rw [hw]
      exact cell_set_off (cell_set_same y0) (by omega)
    have HB3 : Hid (Below w1.heap.size w1 w2) := by
      rw [hw]
      exact Lib.hid (((below_step HA1.out HA1.out.size hbb).setCell (p := ⟨w1.heap.size, 0, none⟩) (Nat.le_refl _) _).setCell (p := ⟨w1.heap.size, 1, none⟩) (Nat.le_refl _) _)
    clear hw hbb y0 z0 z1
    have HB4 := Lib.hid (below_step HB1.out HB1.out.size HB3.out)
    have HO4 : Hid (OwnB w2 w.heap.size w2.heap.size a es) := (HO.out.below HB3.out).wide HB3.out.size
    go_wp2_with fail
    go_quiet (fail)
    go_wp2
    refine bodyPost_ret (v := .tuple #[.slice a n cap, .int .i64 (p : Int)]) (by simp [results, Tryz.results65, go_sem]) rfl ?_
    refine ⟨a, cap, es, by rw [HN.out, HP.out], HLG.out, by rw [HN.out]; exact hel, ?_, below_drewN HB4.out _⟩
    exact HO4.out.below (below_drewN (Below.refl _ _) _)

end Go.Proofs.YtbbmpfkijhhemaaGreatDoor

namespace Go.Proofs.YtbbmpfkijhhemaaGreatDoor
open Go.ChangeShapes Go.WideShapes Go.ChangeAt Go.RowKit Go.Joins
attribute [local go_sem ↓] Go.wp_at_zero Go.wp_at_succ

end Go.Proofs.YtbbmpfkijhhemaaGreatDoor

namespace Go.Proofs.YtbbmpfkijhhemaaGreatDoor
open Go.ChangeShapes Go.WideShapes Go.ChangeAt Go.RowKit Go.Joins

end Go.Proofs.YtbbmpfkijhhemaaGreatDoor

namespace Go.Proofs.YtbbmpfkijhhemaaGreatDoor
open Go.ChangeShapes Go.WideShapes Go.ChangeAt Go.RowKit Go.Joins
set_option maxRecDepth 100000
attribute [local go_sem ↓] Go.wp_at_zero Go.wp_at_succ

def LV (w : World) : Prop := EV w ∧ RV w ∧ Tab w ∧ ET w

theorem LV.below {w w' : World} (h : LV w) (hb : Below w.heap.size w w') : LV w' := ⟨h.1.below hb, h.2.1.below hb, h.2.2.1.below hb h.2.2.1.lt, h.2.2.2.below hb⟩

end Go.Proofs.YtbbmpfkijhhemaaGreatDoor
