/- The walk of the law FnExactWriteRead. -/
import Derived.Test.YtofejfmfbifphahDoorPack9
import Derived.Test.YtofejfmfbifphahDoorPack5
namespace Go.Proofs.YtofejfmfbifphahDoor
open Go.ChangeShapes Go.WideShapes Go.ChangeAt Go.RowKit Go.Joins
attribute [local go_sem ↓] Go.wp_at_zero Go.wp_at_succ

/-- Dependencies that lie in a block of their own. -/
def FreshQ (B : Nat) (w : World) (a : Option Addr) (g : Nat) (xs : List Dp) : Prop := 0 < xs.length → a = some ⟨g, 0, none⟩ ∧ B ≤ g ∧ g < w.heap.size ∧ HoldsDeps w g 0 xs ∧ ∀ o, w.frozen? ⟨g, o, none⟩ = false

set_option maxRecDepth 100000 in
theorem rowD_fresh {w : World} {base : Nat} {a : Option Addr} {n cap : Nat} {ds : List Dp} (h : RowD w base (.slice a n cap) ds) : ∃ g, FreshQ base w a g ds := by
  obtain ⟨a', c', e, ho⟩ := h.form
  injection e with e1 e2 e3
  subst e1
  rcases ho with h0 | ⟨g, h1, h2, -, h3, h4, h5⟩
  · exact ⟨0, fun hp => by rw [h0] at hp; simp at hp⟩
  · exact ⟨g, fun _ => ⟨h1, h2, h3, h4, h5⟩⟩

set_option maxRecDepth 100000 in
theorem FreshQ.below {B : Nat} {w w' : World} {a : Option Addr} {g : Nat} {xs : List Dp} (h : FreshQ B w a g xs) (hb : Below w.heap.size w w') : FreshQ B w' a g xs := fun hp => by
  obtain ⟨h1, h2, h3, h4, h5⟩ := h hp
  exact ⟨h1, h2, Nat.lt_of_lt_of_le h3 hb.size, h4.below hb h3, fun o => (hb.frozen (p := ⟨g, o, none⟩) h3).trans (h5 o)⟩

set_option maxRecDepth 100000 in
theorem FreshQ.isDeps {B : Nat} {w : World} {a : Option Addr} {g : Nat} {xs : List Dp} (h : FreshQ B w a g xs) : IsDeps w a xs := by
  by_cases hp : 0 < xs.length
  · obtain ⟨h1, -, h3, h4, -⟩ := h hp
    exact .inr ⟨g, 0, h1, h3, h4⟩
  · exact .inl (List.length_eq_zero_iff.1 (by omega))

/-- What a reading tells. -/
def ReadIs (bs : List UInt8) (x : Wr) (ok : Bool) : Prop := (IsText bs x ∧ ok = true) ∨ ((∀ y, ¬ IsText bs y) ∧ x = ⟨0, 0, 0, 0, 0, false, []⟩ ∧ ok = false)

set_option maxRecDepth 100000 in
theorem read_tell {w w' : World} {bs : List UInt8} {e : Ending} (h : ReadAns w w' bs e) : ∃ x ok a cp, e = .returned (.tuple #[wrV x.k x.c x.s x.q x.v x.de a x.xs.length cp, .bool ok]) ∧ RowD w' w.heap.size (.slice a x.xs.length cp) x.xs ∧ ReadIs bs x ok ∧ Below w.heap.size w w' := by
  obtain ⟨hb, ⟨x, a, cp, he, ht, hr⟩ | ⟨hno, he⟩⟩ := h
  · exact ⟨x, true, a, cp, he, hr, .inl ⟨ht, rfl⟩, hb⟩
  · exact ⟨⟨0, 0, 0, 0, 0, false, []⟩, false, none, 0, he, World.ownsRow_nil _ _ _ _, .inr ⟨hno, rfl, rfl⟩, hb⟩

set_option maxRecDepth 100000 in
theorem read_one {bs : List UInt8} {x y : Wr} {p q : Bool} (h : ReadIs bs x p) (h' : ReadIs bs y q) : x = y ∧ p = q := by
  rcases h with ⟨h1, h2⟩ | ⟨h1, h2, h3⟩
  · rcases h' with ⟨g1, g2⟩ | ⟨g1, -, -⟩
    · exact ⟨text_is_one h1 g1, h2.trans g2.symm⟩
    · exact (g1 x h1).elim
  · rcases h' with ⟨g1, -⟩ | ⟨g1, g2, g3⟩
    · exact (h1 y g1).elim
    · exact ⟨h2.trans g2.symm, h3.trans g3.symm⟩

set_option maxRecDepth 100000 in
theorem read_len {bs : List UInt8} {x : Wr} {p : Bool} (h : ReadIs bs x p) : x.xs.length ≤ 1048576 := by
  rcases h with ⟨h1, -⟩ | ⟨-, h2, -⟩
  · have := depR_len (ok_parts h1.1).2.2.2.1
    omega
  · rw [h2]
    simp

set_option maxRecDepth 100000 in
set_option maxHeartbeats 16000000 in
theorem readWalk (s : ByteArray) (w : World) (hsz : s.size ≤ 9223372036854775807) (hv : RV w) (ht : Tab w) :
    Calls Tryd.prog 4 #[.string s] w fun e w' => e = .returned (.bool true) ∧ Below w.heap.size w w' := by
  by_cases hbig : 1048576 < s.size
  · have hb' : (1048576 : Int) < (s.size : Int) := by omega
    go_enter Tryd.func4, Tryd.ntmps4
    go_wp2
    go_ret
    exact ⟨rfl, Below.refl _ _⟩
  have hb' : ¬ (1048576 : Int) < (s.size : Int) := by omega
  have hlt : 3 < w.heap.size := ht.lt
  have HV := Lib.hid hv
  have HT := Lib.hid ht
  clear hv ht
  go_enter Tryd.func4, Tryd.ntmps4
  go_wp2_with fail
  refine (specRead_any s _ (by omega)).mono ?_
  rintro e w1 hans
  obtain ⟨x, ok, as_, cs, rfl, hrow, hread, hb⟩ := read_tell hans
  have HRD := Lib.hid hread
  have hxl := read_len hread
  have HSD := Lib.hid (deps0_of hrow).1.isDeps
  have HB1 := Lib.hid hb
  clear hans hrow hread hb
  obtain ⟨xk, xc, xs', xq, xv, xd, xx⟩ := x
  simp only at hxl HSD
  have HBA : Hid (Below w1.heap.size w1 (w1.alloc (.cells #[.int .i64 xk, .int .i64 xc, .int .i64 xs', .int .i64 xq, .int .i64 xv, .bool xd, .slice as_ xx.length cs] 32))) := (Below.refl _ _).alloc (Nat.le_refl _) _
  have HS1 : Hid (RBox (w1.alloc (.cells #[.int .i64 xk, .int .i64 xc, .int .i64 xs', .int .i64 xq, .int .i64 xv, .bool xd, .slice as_ xx.length cs] 32)) w1.heap.size xk xc xs' xq xv xd as_ xx.length cs) := RBox.start w1 xk xc xs' xq xv xd as_ xx.length cs _
  have hz1 : w1.heap.size < (w1.alloc (.cells #[.int .i64 xk, .int .i64 xc, .int .i64 xs', .int .i64 xq, .int .i64 xv, .bool xd, .slice as_ xx.length cs] 32)).heap.size := by simp
  have HBW1 : Hid (Below w.heap.size w (w1.alloc (.cells #[.int .i64 xk, .int .i64 xc, .int .i64 xs', .int .i64 xq, .int .i64 xv, .bool xd, .slice as_ xx.length cs] 32))) := below_step HB1.out HB1.out.size HBA.out
  have HV1 := Lib.hid (HV.out.below HBW1.out)
  have HT1 := Lib.hid (HT.out.below HBW1.out hlt)
  go_wp2_with fail
  generalize w1.alloc (.cells #[.int .i64 xk, .int .i64 xc, .int .i64 xs', .int .i64 xq, .int .i64 xv, .bool xd, .slice as_ xx.length cs] 32) = A1 at *
  refine (implRead_any s _ (by omega) HV1.out HT1.out).mono ?_
  rintro e w2 hans
  obtain ⟨y, ok', ag, cg, rfl, hrow, hread, hb⟩ := read_tell hans
  obtain ⟨rfl, rfl⟩ := read_one HRD.out hread
  obtain ⟨gg, hfr⟩ := rowD_fresh hrow
  have HG2 : Hid (FreshQ A1.heap.size w2 ag gg xx) := hfr
  have HGG : Hid (0 < xx.length → A1.heap.size ≤ gg ∧ gg < w2.heap.size) := fun hp => ⟨(hfr hp).2.1, (hfr hp).2.2.1⟩
  have HS2 := Lib.hid (HS1.out.below hb hz1)
  have HD2 : Hid (Below w1.heap.size w1 w2) := below_step HBA.out HBA.out.size hb
  have HB2 : Hid (Below w.heap.size w w2) := below_step HBW1.out HBW1.out.size hb
  have hs12 : A1.heap.size ≤ w2.heap.size := hb.size
  have HSW : Hid (w.heap.size ≤ A1.heap.size) := HBW1.out.size
  clear hans hrow hread hb hfr HBA HS1 HBW1 HV1 HT1 HB1
  have HBA : Hid (Below w2.heap.size w2 (w2.alloc (.cells #[.int .i64 xk, .int .i64 xc, .int .i64 xs', .int .i64 xq, .int .i64 xv, .bool xd, .slice ag xx.length cg] 32))) := (Below.refl _ _).alloc (Nat.le_refl _) _
  have HY3 : Hid (RBox (w2.alloc (.cells #[.int .i64 xk, .int .i64 xc, .int .i64 xs', .int .i64 xq, .int .i64 xv, .bool xd, .slice ag xx.length cg] 32)) w2.heap.size xk xc xs' xq xv xd ag xx.length cg) := RBox.start w2 xk xc xs' xq xv xd ag xx.length cg _
  have HS3 := Lib.hid (HS2.out.below HBA.out HS2.out.lt)
  have HG3 := Lib.hid (HG2.out.below HBA.out)
  have HD3 : Hid (Below w1.heap.size w1 (w2.alloc (.cells #[.int .i64 xk, .int .i64 xc, .int .i64 xs', .int .i64 xq, .int .i64 xv, .bool xd, .slice ag xx.length cg] 32))) := below_step HD2.out HD2.out.size HBA.out
  have HB3 : Hid (Below w.heap.size w (w2.alloc (.cells #[.int .i64 xk, .int .i64 xc, .int .i64 xs', .int .i64 xq, .int .i64 xv, .bool xd, .slice ag xx.length cg] 32))) := below_step HB2.out HB2.out.size HBA.out
  obtain ⟨sl, s0, s1, s2, s3, s4, s5, s6, sf⟩ := HS2.out
  go_wp2_with fail
  generalize w2.alloc (.cells #[.int .i64 xk, .int .i64 xc, .int .i64 xs', .int .i64 xq, .int .i64 xv, .bool xd, .slice ag xx.length cg] 32) = A2 at *
  refine (eqWrite_gen xk xc xs' xq xv xd ag as_ _ cg cs xx _ hxl rfl HG3.out.isDeps (HSD.out.below HD3.out)).mono ?_
  rintro e w4 ⟨rfl, hb⟩
  have HB4 : Hid (Below w.heap.size w w4) := below_step HB3.out HB3.out.size hb
  have HS4 := Lib.hid (HS3.out.below hb HS3.out.lt)
  have HY4 := Lib.hid (HY3.out.below hb HY3.out.lt)
  have HD4 : Hid (Below w1.heap.size w1 w4) := below_step HD3.out HD3.out.size hb
  have HG4 := Lib.hid (HG3.out.below hb)
  have hs4 : A1.heap.size ≤ w4.heap.size := by have := hb.size; have := HBA.out.size; omega
  clear hb HB3 HS3 HY3 HD3 HG3 HG2 HS2 HD2 HB2 HBA sl s0 s1 s2 s3 s4 s5 s6 sf
  cases ok
  all_goals
    obtain ⟨yl, y0, y1, y2, y3, y4, y5, y6, yf⟩ := HY4.out
    go_wp2_with fail
    refine (markWrite_any xk xc xs' xq xv xd ag gg xx.length cg 1 (fun o => .int .i64 (depCell xx o)) _ hxl (by omega) (by omega) (fun hp => (HG4.out hp).2.2.1) (fun hp => (HG4.out hp).1) (fun o ho => by
      have hp : 0 < xx.length := by omega
      have := holds_cells (HG4.out hp).2.2.2.1 ho
      rwa [Nat.zero_add] at this) (fun hp => (HG4.out hp).2.2.2.2)).mono ?_
    rintro e w5 ⟨wm, rfl, hmk, hbm, ho⟩
    have hsz5 : wm.heap.size ≤ w5.heap.size := by rw [ho.size]; exact Nat.le_refl _
    have hgw : 0 < xx.length → gg < w5.heap.size := fun hp => Nat.lt_of_lt_of_le (HG4.out hp).2.2.1 (Nat.le_trans hbm.size hsz5)
    have hga : 0 < xx.length → ag = some ⟨gg, 0, none⟩ := fun hp => (HG4.out hp).1
    have hb5 : Below A1.heap.size w4 w5 := (hbm.mono hs4).trans (ho.below fun x hx => by have := hx.2; have := (HGG.out hx.1).1; omega)
    have HB5 : Hid (Below w.heap.size w w5) := HB4.out.trans (hb5.mono (by have := HB4.out.size; have := HSW.out; omega))
    have HD5 : Hid (Below w1.heap.size w1 w5) := HD4.out.trans (hb5.mono (by omega))
    have HS5 := Lib.hid (HS4.out.below hb5 hz1)
    have HYm := Lib.hid (HY4.out.below hbm HY4.out.lt)
    have HY5 : Hid (RBox w5 w2.heap.size xk xc xs' xq xv xd ag xx.length cg) := HYm.out.of_block hsz5 (ho.block _ fun e => by have h1 := (HGG.out e.1).2; have h2 := e.2; omega)
    have HM5 : Hid (CellsAre w5 gg (xx.length * 4) (markFn 1)) := hmk
    have HGA := Lib.hid hga
    have HGW := Lib.hid hgw
    clear hsz5 hgw hga hb5 hmk hbm ho HB4 HD4 HS4 HY4 HG4 HYm yl y0 y1 y2 y3 y4 y5 y6 yf
    obtain ⟨yl, y0, y1, y2, y3, y4, y5, y6, yf⟩ := HY5.out
    go_wp2_with fail
    refine (heldWrite_any xk xc xs' xq xv xd ag gg xx.length cg 1 _ hxl (by omega) (by omega) HGW.out HGA.out HM5.out).mono ?_
    rintro e w6 ⟨rfl, hb⟩
    have HB6 : Hid (Below w.heap.size w w6) := below_step HB5.out HB5.out.size hb
    have HS6 := Lib.hid (HS5.out.below hb HS5.out.lt)
    have HY6 := Lib.hid (HY5.out.below hb HY5.out.lt)
    have HD6 : Hid (Below w1.heap.size w1 w6) := below_step HD5.out HD5.out.size hb
    have HM6 : Hid (CellsAre w6 gg (xx.length * 4) (markFn 1)) := by
      by_cases hp : 0 < xx.length
      · exact HM5.out.of_block (hb.block _ (HGW.out hp))
      · exact fun o ho => by omega
    have HGW6 : Hid (0 < xx.length → gg < w6.heap.size) := fun hp => Nat.lt_of_lt_of_le (HGW.out hp) hb.size
    have HV6 := Lib.hid (HV.out.below HB6.out)
    have HT6 := Lib.hid (HT.out.below HB6.out hlt)
    have k4 : 0 ≤ 1 + 4 * (xx.length : Int) := by omega
    clear hb HB5 HS5 HY5 HD5 HM5 HGW yl y0 y1 y2 y3 y4 y5 y6 yf
    go_wp2_with fail
    refine (implRead_any s _ (by omega) HV6.out HT6.out).mono ?_
    rintro e w7 hans
    obtain ⟨y, ok', ah, ch, rfl, hrow, hread, hb⟩ := read_tell hans
    obtain ⟨rfl, rfl⟩ := read_one HRD.out hread
    obtain ⟨gh, hfr⟩ := rowD_fresh hrow
    have HG7 : Hid (FreshQ w6.heap.size w7 ah gh xx) := hfr
    have HB7 : Hid (Below w.heap.size w w7) := below_step HB6.out HB6.out.size hb
    have HS7 := Lib.hid (HS6.out.below hb HS6.out.lt)
    have HY7 := Lib.hid (HY6.out.below hb HY6.out.lt)
    have HD7 : Hid (Below w1.heap.size w1 w7) := below_step HD6.out HD6.out.size hb
    have HM7 : Hid (CellsAre w7 gg (xx.length * 4) (markFn 1)) := by
      by_cases hp : 0 < xx.length
      · exact HM6.out.of_block (hb.block _ (HGW6.out hp))
      · exact fun o ho => by omega
    have HGW7 : Hid (0 < xx.length → gg < w7.heap.size) := fun hp => Nat.lt_of_lt_of_le (HGW6.out hp) hb.size
    clear hans hrow hread hb hfr HB6 HS6 HY6 HD6 HM6 HGW6 HV6 HT6
    have HBA : Hid (Below w7.heap.size w7 (w7.alloc (.cells #[.int .i64 xk, .int .i64 xc, .int .i64 xs', .int .i64 xq, .int .i64 xv, .bool xd, .slice ah xx.length ch] 32))) := (Below.refl _ _).alloc (Nat.le_refl _) _
    have HD8 : Hid (Below w1.heap.size w1 (w7.alloc (.cells #[.int .i64 xk, .int .i64 xc, .int .i64 xs', .int .i64 xq, .int .i64 xv, .bool xd, .slice ah xx.length ch] 32))) := below_step HD7.out HD7.out.size HBA.out
    have HG8 := Lib.hid (HG7.out.below HBA.out)
    obtain ⟨sl, s0, s1, s2, s3, s4, s5, s6, sf⟩ := HS7.out
    go_wp2_with fail
    refine (eqWrite_gen xk xc xs' xq xv xd ah as_ _ ch cs xx _ hxl rfl HG8.out.isDeps (HSD.out.below HD8.out)).mono ?_
    rintro e w9 ⟨rfl, hb⟩
    have hbb := below_step HBA.out HBA.out.size hb
    have HB9 : Hid (Below w.heap.size w w9) := below_step HB7.out HB7.out.size hbb
    have HY9 := Lib.hid (HY7.out.below hbb HY7.out.lt)
    have HM9 : Hid (CellsAre w9 gg (xx.length * 4) (markFn 1)) := by
      by_cases hp : 0 < xx.length
      · exact HM7.out.of_block (hbb.block _ (HGW7.out hp))
      · exact fun o ho => by omega
    have HGW9 : Hid (0 < xx.length → gg < w9.heap.size) := fun hp => Nat.lt_of_lt_of_le (HGW7.out hp) hbb.size
    clear hb hbb HB7 HS7 HY7 HD7 HD8 HM7 HGW7 HG7 HG8 HBA sl s0 s1 s2 s3 s4 s5 s6 sf
    obtain ⟨yl, y0, y1, y2, y3, y4, y5, y6, yf⟩ := HY9.out
    go_wp2_with fail
    refine (heldWrite_any xk xc xs' xq xv xd ag gg xx.length cg 1 _ hxl (by omega) (by omega) HGW9.out HGA.out HM9.out).mono ?_
    rintro e w10 ⟨rfl, hb⟩
    have HB10 : Hid (Below w.heap.size w w10) := below_step HB9.out HB9.out.size hb
    clear hb
    go_wp2
    go_ret
    exact ⟨rfl, HB10.out⟩

end Go.Proofs.YtofejfmfbifphahDoor
