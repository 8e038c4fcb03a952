/- At every code the law FnWriteBack answers true: a drawn write that is WriteOk is read from its text as it was, of another the text is empty; what is read from a drawn text has just this text and is WriteOk. The variables of Go's library that it reads are listed in the row and tied to the program's text by the card. -/
import Derived.Test.YtlbcpppmpbbkdabDoorPack8
import Derived.Test.YtlbcpppmpbbkdabDoorPack10
import Derived.Test.YtlbcpppmpbbkdabDoorPack11
import Derived.Test.YtlbcpppmpbbkdabDoorTie
import Derived.Test.YtlbcpppmpbbkdabDoorCards
import Derived.LaidMore
import Derived.Stop.LaidErr
import Derived.Lib.LaidTab
import Derived.SevenTiedAt
import Derived.HandedShaped
import Derived.Lay
namespace Go.Proofs.YtlbcpppmpbbkdabDoor.lawWriteBack
open Go.ChangeShapes Go.WideShapes Go.ChangeAt Go.RowKit Go.Joins
open Go.Proofs.YtlbcpppmpbbkdabDoor.lawBytes
attribute [local go_sem ↓] Go.wp_at_zero Go.wp_at_succ

/-- What a reading tells. -/
def ReadIs (bs : List UInt8) (x : Wr) (ok : Bool) : Prop := (IsText bs x ∧ ok = true) ∨ ((∀ y, ¬ IsText bs y) ∧ x = ⟨0, 0, 0, 0, 0, false, []⟩ ∧ ok = false)

set_option maxRecDepth 100000 in
theorem read_tell {w w' : World} {bs : List UInt8} {e : Ending} (h : ReadAns w w' bs e) : ∃ x ok a cp, e = .returned (.tuple #[wrV x.k x.c x.s x.q x.v x.de a x.xs.length cp, .bool ok]) ∧ RowD w' w.heap.size (.slice a x.xs.length cp) x.xs ∧ ReadIs bs x ok ∧ Below w.heap.size w w' := by
  obtain ⟨hb, ⟨x, a, cp, he, ht, hr⟩ | ⟨hno, he⟩⟩ := h
  · exact ⟨x, true, a, cp, he, hr, .inl ⟨ht, rfl⟩, hb⟩
  · exact ⟨⟨0, 0, 0, 0, 0, false, []⟩, false, none, 0, he, World.ownsRow_nil _ _ _ _, .inr ⟨hno, rfl, rfl⟩, hb⟩

set_option maxRecDepth 100000 in
theorem read_one {bs : List UInt8} {x y : Wr} {p q : Bool} (h : ReadIs bs x p) (h' : ReadIs bs y q) : x = y ∧ p = q := by
  rcases h with ⟨h1, h2⟩ | ⟨h1, h2, h3⟩
  · rcases h' with ⟨g1, g2⟩ | ⟨g1, -, -⟩
    · exact ⟨text_is_one h1 g1, h2.trans g2.symm⟩
    · exact (g1 x h1).elim
  · rcases h' with ⟨g1, -⟩ | ⟨g1, g2, g3⟩
    · exact (h1 y g1).elim
    · exact ⟨h2.trans g2.symm, h3.trans g3.symm⟩

set_option maxRecDepth 100000 in
theorem read_len {bs : List UInt8} {x : Wr} {p : Bool} (h : ReadIs bs x p) : x.xs.length ≤ 1048576 := by
  rcases h with ⟨h1, -⟩ | ⟨-, h2, -⟩
  · have := depR_len (ok_parts h1.1).2.2.2.1
    omega
  · rw [h2]
    simp

set_option maxRecDepth 100000 in
set_option maxHeartbeats 16000000 in
theorem walk_small (a : Option Addr) (len cap : Nat) (w : World) (h : Bytes w a len) (hl : len ≤ 1048576) (hv : RV w) (ht : Tab w) :
    Calls Tryd.prog 3 #[.slice a len cap] w fun e w' => e = .returned (.bool true) ∧ Below w.heap.size w w' := by
  have HO := Lib.hid (drawText_any a len cap w h hl)
  have HY := Lib.hid h
  have HV := Lib.hid hv
  have HT := Lib.hid ht
  have hlt : 3 < w.heap.size := ht.lt
  have d1 : decide (1048576 < len) = false := by simpa using hl
  clear h hv ht
  go_enter Tryd.func3, Tryd.ntmps3
  go_wp2_with fail
  refine (big_is _ _ _ false d1 (by unfold maxLen; omega) _).mono ?_
  rintro e w0 ⟨rfl, hw0⟩
  subst w0
  clear d1
  go_wp2_with fail
  refine HO.out.mono ?_
  rintro e w1 ⟨k, c, s, q, v, de, g, cp, ds, rfl, hd, hg1, hg2, hD, hb⟩
  have HB1 := Lib.hid hb
  have HD1 : Hid (Deps0 w1 (some ⟨g, 0, none⟩) ds) := .inr ⟨g, rfl, hg2, hD⟩
  clear hb hD HO
  have HBA : Hid (Below w1.heap.size w1 (w1.alloc (.cells #[.int .i64 k, .int .i64 c, .int .i64 s, .int .i64 q, .int .i64 v, .bool de, .slice (some ⟨g, 0, none⟩) ds.length cp] 28))) := (Below.refl _ _).alloc (Nat.le_refl _) _
  have HX2 : Hid (RBox (w1.alloc (.cells #[.int .i64 k, .int .i64 c, .int .i64 s, .int .i64 q, .int .i64 v, .bool de, .slice (some ⟨g, 0, none⟩) ds.length cp] 28)) w1.heap.size k c s q v de (some ⟨g, 0, none⟩) ds.length cp) := RBox.start w1 k c s q v de _ ds.length cp _
  have HB2 : Hid (Below w.heap.size w (w1.alloc (.cells #[.int .i64 k, .int .i64 c, .int .i64 s, .int .i64 q, .int .i64 v, .bool de, .slice (some ⟨g, 0, none⟩) ds.length cp] 28))) := below_step HB1.out HB1.out.size HBA.out
  have HD2 := Lib.hid (deps0_below HD1.out HBA.out)
  clear HBA HB1 HD1
  obtain ⟨t, htx⟩ : ∃ t, str (writeText k c s q v de ds) = t := ⟨_, rfl⟩
  have HTX := Lib.hid htx
  have htz : t.size ≤ 700 := by rw [← htx, str_size]; exact writeText_le ..
  clear htx
  go_wp2_with fail
  generalize w1.alloc (.cells #[.int .i64 k, .int .i64 c, .int .i64 s, .int .i64 q, .int .i64 v, .bool de, .slice (some ⟨g, 0, none⟩) ds.length cp] 28) = W2 at *
  refine (implText_gen k c s q v de _ ds _ cp _ rfl (by omega) HD2.out (HT.out.below HB2.out hlt)).mono ?_
  rintro e w3 ⟨rfl, hb⟩
  rw [HTX.out]
  have HB3 : Hid (Below w.heap.size w w3) := below_step HB2.out HB2.out.size hb
  have HX3 := Lib.hid (HX2.out.below hb HX2.out.lt)
  have HD3 := Lib.hid (deps0_below HD2.out hb)
  clear hb HB2 HX2 HD2
  obtain ⟨xl, c0, c1, c2, c3, c4, c5, c6, xf⟩ := HX3.out
  cases hok : writeOkB k c s q v de ds
  · have ht0 : t = ⟨#[]⟩ := by
      rw [← HTX.out]
      unfold writeText
      rw [hok]
      rfl
    subst ht0
    go_wp2_with fail
    refine (specWriteOk_gen k c s q v de _ ds _ cp _ rfl (by omega) HD3.out.isDeps).mono ?_
    rintro e w4 ⟨rfl, hb⟩
    rw [hok]
    have HBC : Hid (Below w.heap.size w w4) := below_step HB3.out HB3.out.size hb
    clear hb HB3 HX3 HD3 xl c0 c1 c2 c3 c4 c5 c6 xf hok HTX
    go_wp2_with fail
    refine (drawRead_any a len cap _ (HY.out.below HBC.out) hl).mono ?_
    rintro e w10 ⟨tt, rfl, hts, hb⟩
    have HB10 : Hid (Below w.heap.size w w10) := below_step HBC.out HBC.out.size hb
    clear hb HBC
    go_wp2_with fail
    refine (implRead_any tt _ (by omega) (HV.out.below HB10.out) (HT.out.below HB10.out hlt)).mono ?_
    rintro e w11 hans
    obtain ⟨x, ok, ax, cx, rfl, hrow, hread, hb⟩ := read_tell hans
    have HRD := Lib.hid hread
    have hxl := read_len hread
    have HD11 := Lib.hid (deps0_of hrow).1
    have HB11 : Hid (Below w.heap.size w w11) := below_step HB10.out HB10.out.size hb
    clear hans hrow hread hb HB10
    obtain ⟨xk, xc, xs', xq, xv, xd, xx⟩ := x
    simp only at hxl HD11
    have HBA : Hid (Below w11.heap.size w11 (w11.alloc (.cells #[.int .i64 xk, .int .i64 xc, .int .i64 xs', .int .i64 xq, .int .i64 xv, .bool xd, .slice ax xx.length cx] 28))) := (Below.refl _ _).alloc (Nat.le_refl _) _
    have HX12 : Hid (RBox (w11.alloc (.cells #[.int .i64 xk, .int .i64 xc, .int .i64 xs', .int .i64 xq, .int .i64 xv, .bool xd, .slice ax xx.length cx] 28)) w11.heap.size xk xc xs' xq xv xd ax xx.length cx) := RBox.start w11 xk xc xs' xq xv xd ax xx.length cx _
    have HB12 : Hid (Below w.heap.size w (w11.alloc (.cells #[.int .i64 xk, .int .i64 xc, .int .i64 xs', .int .i64 xq, .int .i64 xv, .bool xd, .slice ax xx.length cx] 28))) := below_step HB11.out HB11.out.size HBA.out
    have HD12 := Lib.hid (deps0_below HD11.out HBA.out)
    clear HBA HB11 HD11
    go_wp2_with fail
    generalize w11.alloc (.cells #[.int .i64 xk, .int .i64 xc, .int .i64 xs', .int .i64 xq, .int .i64 xv, .bool xd, .slice ax xx.length cx] 28) = W12 at *
    refine (specRead_any tt _ (by omega)).mono ?_
    rintro e w13 hans
    obtain ⟨y, ok', ay, cy, rfl, hrow, hread, hb⟩ := read_tell hans
    obtain ⟨rfl, rfl⟩ := read_one HRD.out hread
    have HB13 : Hid (Below w.heap.size w w13) := below_step HB12.out HB12.out.size hb
    have HX13 := Lib.hid (HX12.out.below hb HX12.out.lt)
    have HD13 := Lib.hid (deps0_below HD12.out hb)
    clear hans hrow hread hb HB12 HX12 HD12
    have HBA : Hid (Below w13.heap.size w13 (w13.alloc (.cells #[.int .i64 xk, .int .i64 xc, .int .i64 xs', .int .i64 xq, .int .i64 xv, .bool xd, .slice ay xx.length cy] 28))) := (Below.refl _ _).alloc (Nat.le_refl _) _
    have HX14 := Lib.hid (HX13.out.below HBA.out HX13.out.lt)
    have HB14 : Hid (Below w.heap.size w (w13.alloc (.cells #[.int .i64 xk, .int .i64 xc, .int .i64 xs', .int .i64 xq, .int .i64 xv, .bool xd, .slice ay xx.length cy] 28))) := below_step HB13.out HB13.out.size HBA.out
    have HD14 := Lib.hid (deps0_below HD13.out HBA.out)
    clear HBA HB13 HX13 HD13
    cases ok
    · go_wp2
      go_ret
      exact ⟨rfl, HB14.out⟩
    have HTT : Hid (str (writeText xk xc xs' xq xv xd xx) = tt ∧ writeOkB xk xc xs' xq xv xd xx = true) := by
      rcases HRD.out with ⟨⟨h1, h2⟩, -⟩ | ⟨-, -, h3⟩
      · have e : writeText xk xc xs' xq xv xd xx = tt.data.toList := h2
        exact ⟨by rw [e]; rfl, h1⟩
      · cases h3
    obtain ⟨xl, c0, c1, c2, c3, c4, c5, c6, xf⟩ := HX14.out
    go_wp2_with fail
    generalize w13.alloc (.cells #[.int .i64 xk, .int .i64 xc, .int .i64 xs', .int .i64 xq, .int .i64 xv, .bool xd, .slice ay xx.length cy] 28) = W14 at *
    refine (implText_gen xk xc xs' xq xv xd ax xx _ cx _ rfl hxl HD14.out (HT.out.below HB14.out hlt)).mono ?_
    rintro e w15 ⟨rfl, hb⟩
    rw [HTT.out.1]
    have HB15 : Hid (Below w.heap.size w w15) := below_step HB14.out HB14.out.size hb
    have HX15 := Lib.hid (HX14.out.below hb HX14.out.lt)
    have HD15 := Lib.hid (deps0_below HD14.out hb)
    clear hb HB14 HX14 HD14 xl c0 c1 c2 c3 c4 c5 c6 xf
    obtain ⟨xl, c0, c1, c2, c3, c4, c5, c6, xf⟩ := HX15.out
    go_wp2_with fail
    refine (implWriteOk_gen xk xc xs' xq xv xd ax xx _ cx _ rfl hxl HD15.out.isDeps).mono ?_
    rintro e w16 ⟨rfl, hb⟩
    rw [HTT.out.2]
    have HB16 : Hid (Below w.heap.size w w16) := below_step HB15.out HB15.out.size hb
    clear hb
    go_wp2
    go_ret
    exact ⟨rfl, HB16.out⟩
  · have HRW : Hid (ReadIs t.data.toList ⟨k, c, s, q, v, de, ds⟩ true) := .inl ⟨⟨hok, by rw [← HTX.out]; rfl⟩, rfl⟩
    go_wp2_with fail
    refine (specWriteOk_gen k c s q v de _ ds _ cp _ rfl (by omega) HD3.out.isDeps).mono ?_
    rintro e w4 ⟨rfl, hb⟩
    rw [hok]
    have HB4 : Hid (Below w.heap.size w w4) := below_step HB3.out HB3.out.size hb
    have HX4 := Lib.hid (HX3.out.below hb HX3.out.lt)
    have HD4 := Lib.hid (deps0_below HD3.out hb)
    clear hb HB3 HX3 HD3 xl c0 c1 c2 c3 c4 c5 c6 xf hok HTX
    go_wp2_with fail
    refine (implRead_any t _ (by omega) (HV.out.below HB4.out) (HT.out.below HB4.out hlt)).mono ?_
    rintro e w5 hans
    obtain ⟨x, ok, ax, cx, rfl, hrow, hread, hb⟩ := read_tell hans
    obtain ⟨rfl, rfl⟩ := read_one HRW.out hread
    have HB5 : Hid (Below w.heap.size w w5) := below_step HB4.out HB4.out.size hb
    have HX5 := Lib.hid (HX4.out.below hb HX4.out.lt)
    have HD5 := Lib.hid (deps0_below HD4.out hb)
    have HE5 : Hid (Deps0 w5 ax ds) := (deps0_of hrow).1
    clear hans hrow hread hb HB4 HX4 HD4 HRW
    have HBA : Hid (Below w5.heap.size w5 (w5.alloc (.cells #[.int .i64 k, .int .i64 c, .int .i64 s, .int .i64 q, .int .i64 v, .bool de, .slice ax ds.length cx] 28))) := (Below.refl _ _).alloc (Nat.le_refl _) _
    have HB6 : Hid (Below w.heap.size w (w5.alloc (.cells #[.int .i64 k, .int .i64 c, .int .i64 s, .int .i64 q, .int .i64 v, .bool de, .slice ax ds.length cx] 28))) := below_step HB5.out HB5.out.size HBA.out
    have HX6 := Lib.hid (HX5.out.below HBA.out HX5.out.lt)
    have HD6 := Lib.hid (deps0_below HD5.out HBA.out)
    have HE6 := Lib.hid (deps0_below HE5.out HBA.out)
    clear HBA HB5 HD5 HE5
    have HWC : Hid (wcmp k c s q v de ds k c s q v de ds = 0) := wb.wcmp_self k c s q v de ds
    obtain ⟨xl, c0, c1, c2, c3, c4, c5, c6, xf⟩ := HX5.out
    go_wp2_with fail
    generalize w5.alloc (.cells #[.int .i64 k, .int .i64 c, .int .i64 s, .int .i64 q, .int .i64 v, .bool de, .slice ax ds.length cx] 28) = W6 at *
    refine (specWriteCmp_gen k c s q v de ax ds _ cx k c s q v de _ ds _ cp _ rfl rfl (by omega) (by omega) HE6.out.isDeps HD6.out.isDeps).mono ?_
    rintro e w7 ⟨rfl, hb⟩
    rw [HWC.out]
    have HBC : Hid (Below w.heap.size w w7) := below_step HB6.out HB6.out.size hb
    clear hb HB6 HX6 HD6 HE6 HX5 xl c0 c1 c2 c3 c4 c5 c6 xf HWC
    go_wp2_with fail
    refine (drawRead_any a len cap _ (HY.out.below HBC.out) hl).mono ?_
    rintro e w10 ⟨tt, rfl, hts, hb⟩
    have HB10 : Hid (Below w.heap.size w w10) := below_step HBC.out HBC.out.size hb
    clear hb HBC
    go_wp2_with fail
    refine (implRead_any tt _ (by omega) (HV.out.below HB10.out) (HT.out.below HB10.out hlt)).mono ?_
    rintro e w11 hans
    obtain ⟨x, ok, ax, cx, rfl, hrow, hread, hb⟩ := read_tell hans
    have HRD := Lib.hid hread
    have hxl := read_len hread
    have HD11 := Lib.hid (deps0_of hrow).1
    have HB11 : Hid (Below w.heap.size w w11) := below_step HB10.out HB10.out.size hb
    clear hans hrow hread hb HB10
    obtain ⟨xk, xc, xs', xq, xv, xd, xx⟩ := x
    simp only at hxl HD11
    have HBA : Hid (Below w11.heap.size w11 (w11.alloc (.cells #[.int .i64 xk, .int .i64 xc, .int .i64 xs', .int .i64 xq, .int .i64 xv, .bool xd, .slice ax xx.length cx] 28))) := (Below.refl _ _).alloc (Nat.le_refl _) _
    have HX12 : Hid (RBox (w11.alloc (.cells #[.int .i64 xk, .int .i64 xc, .int .i64 xs', .int .i64 xq, .int .i64 xv, .bool xd, .slice ax xx.length cx] 28)) w11.heap.size xk xc xs' xq xv xd ax xx.length cx) := RBox.start w11 xk xc xs' xq xv xd ax xx.length cx _
    have HB12 : Hid (Below w.heap.size w (w11.alloc (.cells #[.int .i64 xk, .int .i64 xc, .int .i64 xs', .int .i64 xq, .int .i64 xv, .bool xd, .slice ax xx.length cx] 28))) := below_step HB11.out HB11.out.size HBA.out
    have HD12 := Lib.hid (deps0_below HD11.out HBA.out)
    clear HBA HB11 HD11
    go_wp2_with fail
    generalize w11.alloc (.cells #[.int .i64 xk, .int .i64 xc, .int .i64 xs', .int .i64 xq, .int .i64 xv, .bool xd, .slice ax xx.length cx] 28) = W12 at *
    refine (specRead_any tt _ (by omega)).mono ?_
    rintro e w13 hans
    obtain ⟨y, ok', ay, cy, rfl, hrow, hread, hb⟩ := read_tell hans
    obtain ⟨rfl, rfl⟩ := read_one HRD.out hread
    have HB13 : Hid (Below w.heap.size w w13) := below_step HB12.out HB12.out.size hb
    have HX13 := Lib.hid (HX12.out.below hb HX12.out.lt)
    have HD13 := Lib.hid (deps0_below HD12.out hb)
    clear hans hrow hread hb HB12 HX12 HD12
    have HBA : Hid (Below w13.heap.size w13 (w13.alloc (.cells #[.int .i64 xk, .int .i64 xc, .int .i64 xs', .int .i64 xq, .int .i64 xv, .bool xd, .slice ay xx.length cy] 28))) := (Below.refl _ _).alloc (Nat.le_refl _) _
    have HX14 := Lib.hid (HX13.out.below HBA.out HX13.out.lt)
    have HB14 : Hid (Below w.heap.size w (w13.alloc (.cells #[.int .i64 xk, .int .i64 xc, .int .i64 xs', .int .i64 xq, .int .i64 xv, .bool xd, .slice ay xx.length cy] 28))) := below_step HB13.out HB13.out.size HBA.out
    have HD14 := Lib.hid (deps0_below HD13.out HBA.out)
    clear HBA HB13 HX13 HD13
    cases ok
    · go_wp2
      go_ret
      exact ⟨rfl, HB14.out⟩
    have HTT : Hid (str (writeText xk xc xs' xq xv xd xx) = tt ∧ writeOkB xk xc xs' xq xv xd xx = true) := by
      rcases HRD.out with ⟨⟨h1, h2⟩, -⟩ | ⟨-, -, h3⟩
      · have e : writeText xk xc xs' xq xv xd xx = tt.data.toList := h2
        exact ⟨by rw [e]; rfl, h1⟩
      · cases h3
    obtain ⟨xl, c0, c1, c2, c3, c4, c5, c6, xf⟩ := HX14.out
    go_wp2_with fail
    generalize w13.alloc (.cells #[.int .i64 xk, .int .i64 xc, .int .i64 xs', .int .i64 xq, .int .i64 xv, .bool xd, .slice ay xx.length cy] 28) = W14 at *
    refine (implText_gen xk xc xs' xq xv xd ax xx _ cx _ rfl hxl HD14.out (HT.out.below HB14.out hlt)).mono ?_
    rintro e w15 ⟨rfl, hb⟩
    rw [HTT.out.1]
    have HB15 : Hid (Below w.heap.size w w15) := below_step HB14.out HB14.out.size hb
    have HX15 := Lib.hid (HX14.out.below hb HX14.out.lt)
    have HD15 := Lib.hid (deps0_below HD14.out hb)
    clear hb HB14 HX14 HD14 xl c0 c1 c2 c3 c4 c5 c6 xf
    obtain ⟨xl, c0, c1, c2, c3, c4, c5, c6, xf⟩ := HX15.out
    go_wp2_with fail
    refine (implWriteOk_gen xk xc xs' xq xv xd ax xx _ cx _ rfl hxl HD15.out.isDeps).mono ?_
    rintro e w16 ⟨rfl, hb⟩
    rw [HTT.out.2]
    have HB16 : Hid (Below w.heap.size w w16) := below_step HB15.out HB15.out.size hb
    clear hb
    go_wp2
    go_ret
    exact ⟨rfl, HB16.out⟩

set_option maxRecDepth 100000 in
set_option maxHeartbeats 1000000 in
theorem walk_big (a : Option Addr) (len cap : Nat) (w : World) (hm : len ≤ maxLen) (h : 1048576 < len) :
    Calls Tryd.prog 3 #[.slice a len cap] w fun e w' => e = .returned (.bool true) ∧ Below w.heap.size w w' := by
  have d1 : decide (1048576 < len) = true := by simpa using h
  clear h
  go_enter Tryd.func3, Tryd.ntmps3
  go_wp2_with fail
  refine (big_is _ _ _ true d1 hm _).mono ?_
  rintro e w1 ⟨rfl, rfl⟩
  go_wp2
  go_ret
  exact ⟨rfl, Below.refl _ _⟩

set_option maxRecDepth 100000 in
theorem walk (a : Option Addr) (len cap : Nat) (w : World) (hr : len ≤ maxLen ∧ Bytes w a len) (ht : RV w ∧ Tab w) :
    Calls Tryd.prog 3 #[.slice a len cap] w fun e w' => e = .returned (.bool true) ∧ Below w.heap.size w w' := by
  by_cases h : 1048576 < len
  · exact walk_big a len cap w hr.1 h
  · exact walk_small a len cap w hr.2 (by omega) ht.1 ht.2

/-- A wrap with what the row lays, and the world's shape beside it. -/
theorem lift_laid_shaped {H : Type} {enc : TypeId × Value → H} {a : Assume} {C : Checked} {os : Os} {f : FuncId} {fn : Func} {s : ChangeSpec} {conds : List PathCond} {apart fresh handsOn again : Bool} {X : World → Array Value → Prop}
    (hX : ∀ (w w' : World) (args : Array Value), w.heap = w'.heap → X w args → X w' args)
    (own : ownKnob C.prog.godebug = none) (started : os.Started) (noInit : C.prog.inits.idxOf? f = none) (hfn : C.prog.funcs[f]? = some fn)
    (witness : ∃ (w : World) (tape : Tape) (i : Input), w.os = os ∧ (w.forCall tape i).Shaped C.prog ∧ i.vars = [] ∧ Input.okWide C.prog (w.forCall tape i) .any w.heap.size f i ∧
      ((s.pre enc C.prog fn conds apart (w.forCall tape i).memory i.args ∧ X (w.forCall tape i).memory i.args) ∧ sizedMet enc C.prog fn (OpenSpec.ofChange s) apart (w.forCall tape i).memory i.args) ∧ a.holds C.prog (lone (Frame.enter C.prog f i.args .normal) [] (w.forCall tape i)))
    (contract : ∀ (W : World) (base : Nat) (args : Array Value) (ds gs : List (DataW H)) (before : List MemPlace),
      (∀ (j : Nat) t v, fn.params[j]? = some t → args[j]? = some v → Value.okWide C.prog W .any base t v) →
      DataW.Whole enc C.prog fn.params.toList s.vars apart W args.toList ds gs before → X W args → W.ShapedOpen C.prog →
      Calls C.prog f args W fun e W' => ∃ v, e = .returned v ∧ s.post enc C.prog fn apart fresh handsOn again W args v W') :
    ReturnsInHanded a C os f .any (fun w args => (s.pre enc C.prog fn conds apart w args ∧ X w args) ∧ sizedMet enc C.prog fn (OpenSpec.ofChange s) apart w args) (s.post enc C.prog fn apart fresh handsOn again) := by
  refine returnsInHanded_of_calls own started noInit witness ?_
  intro w tape i _ hsh _ hok hpre _
  obtain ⟨_, _, _, fn', hfn', _, _, _, _, hval⟩ := hok
  obtain rfl : fn' = fn := Option.some.inj (hfn'.symm.trans hfn)
  obtain ⟨⟨⟨ds, gs, before, hw, _⟩, hx⟩, _⟩ := hpre
  refine (contract (w.forCall tape i) w.heap.size i.args ds gs before hval (DataW.Whole.of_heap (w' := w.forCall tape i) (by rfl) hw) (hX _ _ _ (by rfl) hx) hsh).mono fun e W' ⟨v, he, hp⟩ => ?_
  subst he
  exact ChangeSpec.post_blind hp

abbrev laid := Rows.fnWriteBackRow.laid

set_option maxRecDepth 100000 in
theorem pow_same : (Rows.laid_internal_strconv_uint64pow10 : DataW Unit) = Lib.tabData .u64 Lib.pow10Tab := by kernel_rfl

set_option maxRecDepth 100000 in
theorem tab_of {W : World} (h : laidMetH Tryd.prog laid W) : Tab W := by
  rw [MakeChecks.laidMetH_plain _ _ _ (by kernel_rfl)] at h
  have h2 := h.tail.tail
  rw [pow_same] at h2
  exact Lib.tabIs_of_head gPow (by kernel_rfl) Tryd.underlying110 Tryd.underlying60 (by kernel_rfl) (by kernel_rfl) h2

theorem gMax : Tryd.prog.globalNamed "internal/bytealg.MaxLen" = some 0 := by kernel_rfl

theorem gSyn : Tryd.prog.globalNamed "strconv.ErrSyntax" = some 1 := by kernel_rfl

theorem gRan : Tryd.prog.globalNamed "strconv.ErrRange" = some 2 := by kernel_rfl

theorem gSynT : (Tryd.prog.globals[1]?).map (·.type) = some 72 := by kernel_rfl

theorem gRanT : (Tryd.prog.globals[2]?).map (·.type) = some 72 := by kernel_rfl

theorem cellsE : Tryd.prog.cellsOf 118 = 1 := by kernel_rfl

theorem cellsS : Tryd.prog.cellsOf 9 = 1 := by kernel_rfl

theorem star : "*" ++ "errors.errorString" = "*errors.errorString" := by decide

theorem rowE (u : TypeId) (h : Tryd.prog.typeName? 3 u = some "*errors.errorString") : u = 116 :=
  typeName_ptr_named (nm := "errors.errorString") (by rw [star]; kernel_rfl) (by kernel_rfl) (by decide) u (by rw [star]; exact h)

set_option maxRecDepth 100000 in
theorem vars_of {W : World} (h : laidMetH Tryd.prog laid W) (hs : W.ShapedOpen Tryd.prog) : RV W := by
  rw [MakeChecks.laidMetH_plain _ _ _ (by kernel_rfl)] at h
  have h4 := h.tail.tail.tail.tail
  obtain ⟨a0, s0, hv0, -, -, -⟩ := laid_sentinel h4 gRan gRanT Tryd.underlying72 rowE Tryd.underlying116 Tryd.underlying118 rfl rfl Tryd.underlying9 cellsE cellsS
  obtain ⟨a1, s1, hv1, -, -, -⟩ := laid_sentinel h4.tail gSyn gSynT Tryd.underlying72 rowE Tryd.underlying116 Tryd.underlying118 rfl rfl Tryd.underlying9 cellsE cellsS
  have c0 : W.cell? ⟨2, 0, none⟩ = some (.iface 116 (.pointer (some a0))) := by have h0 := World.var?_cell gRan hv0 0; simpa using h0
  have c1 : W.cell? ⟨1, 0, none⟩ = some (.iface 116 (.pointer (some a1))) := by have h0 := World.var?_cell gSyn hv1 0; simpa using h0
  obtain ⟨m, hm⟩ := Tryd.laysM147.s1_3 W hs
  have cm : W.cell? ⟨0, 0, none⟩ = some (.int .i64 m) := hm
  exact ⟨⟨World.block_lt_of_cell? W _ cm, m, cm⟩, ⟨World.block_lt_of_cell? W _ c1, _, _, c1⟩, World.block_lt_of_cell? W _ c0, _, _, c0⟩

set_option maxRecDepth 100000 in
theorem lifted (os : Os) (started : os.Started) (H : Type) (enc : TypeId × Value → H) :
    ReturnsInHanded {} Tryd.checked os 3 .any (fun w args => (Rows.fnWriteBackSpec.pre enc Tryd.prog Tryd.f3 [] false w args ∧ laidMetH Tryd.prog laid w) ∧ sizedMet enc Tryd.prog Tryd.f3 (OpenSpec.ofChange Rows.fnWriteBackSpec) false w args)
      (Rows.fnWriteBackSpec.post enc Tryd.prog Tryd.f3 false true false false) := by
  refine lift_laid_shaped (C := Tryd.checked) (X := fun w _ => laidMetH Tryd.prog laid w) (fun _ _ _ hh h => h.of_heap hh) own started (by kernel_rfl) Tryd.func3
    (ChangeSpec.witness_shaped (enc := enc) (C := Tryd.checked) (os := os) (X := fun w _ => laidMetH Tryd.prog laid w) false (World.laidAll Tryd.prog os laid) #[.slice none 0 0] 8 (World.laidAll_os _ _ _) (World.shaped_of_ZipB (by kernel_rfl) (by kernel_rfl)) (by kernel_rfl) (by kernel_rfl) (by kernel_rfl) (by rw [MakeChecks.laidMetH_plain _ _ _ (by kernel_rfl)]; exact laidMet_laidAll _ (by kernel_rfl) (by kernel_rfl))) ?_
  intro W base args ds gs before hval0 hW hL hSh
  have hval : ∀ (j : Nat) t v, Tryd.f3.params[j]? = some t → args[j]? = some v → Value.okWide Tryd.prog W .any base t v := hval0
  have hW' := hW
  obtain ⟨p, q, hA0, hV, rfl, hfz, hnd⟩ := hW
  have hA : DataW.TrodAll enc Tryd.prog W 0 (fun _ => true) true Tryd.f3.params.toList args.toList ds p := hA0
  rw [Tryd.params3] at hA hval
  obtain ⟨v0, d0, rfl, rfl, h0⟩ := trodAll_one hA
  have k0 := h0
  have lt0 : ∀ x ∈ p, x.block < W.heap.size := by obtain ⟨m, hm⟩ := k0; exact DataW.trod_lt m _ _ _ hm
  obtain ⟨rfl, rfl⟩ := trodVars_none hV
  obtain ⟨a0, len0, cap0, hv0, hr0⟩ := open_bytes (hval 0 22 v0 rfl rfl) h0
  subst hv0
  clear hA0 hval0
  refine (walk a0 len0 cap0 W hr0 ⟨vars_of hL hSh, tab_of hL⟩).mono fun e W' ⟨he, bel⟩ => ?_
  subst he
  exact ⟨_, rfl, _, _, _, [], _, [], hW', trodAll_mk1 (shut_bool Tryd.underlying4 _), (trodAll_mk1 (Below.trod laidOut (by kernel_rfl) (of_decide_eq_true (by kernel_rfl)) k0 bel lt0)), rfl, bel.frame _, fun h => by cases h⟩

set_option maxRecDepth 100000 in
theorem over : Rows.fnWriteBackRow.holds Tryd.pinned (OpenSpec.ofChange Rows.fnWriteBackSpec) :=
  OpenClaim.holds_of_wide 3 Tryd.f3 rfl rfl rfl rfl rfl rfl rfl ⟨rfl, rfl, rfl, rfl, rfl⟩ rfl rfl rfl rfl rfl (by kernel_rfl) Tryd.func3 (by kernel_rfl)
    (of_decide_eq_true (by kernel_rfl)) (by unfold Func.isWrapper; rw [if_neg (by decide +kernel)]; exact ⟨rfl, rfl⟩)
    (fun os started H enc _ => lifted os started H enc)

set_option maxRecDepth 100000 in
theorem card : Rows.FnWriteBackCardSaid :=
  Claim7.holds_tied_plain_at .later [] [.data, .data, .data, .data, .sentinel, .sentinel, .pinned] true Rows.fnWriteBackCard.stood.harness Rows.fnWriteBackCard.stood.looks
    over (fun _ h => by cases h) (by kernel_rfl) (fun _ h => by cases h) fnWriteBack_row_tie rfl ⟨rfl, rfl⟩ (by kernel_rfl) rfl
    (fun f fn hf hfn => by
      obtain rfl : f = 3 := Option.some.inj ((show Tryd.prog.funcNamed Rows.fnWriteBackRow.func = some 3 by kernel_rfl).symm.trans hf) |>.symm
      obtain rfl : fn = Tryd.f3 := (Option.some.inj (Tryd.func3.symm.trans hfn)).symm
      exact ⟨by kernel_rfl, fun j t ht => by
        rw [Tryd.params3] at ht
        have hm : t ∈ [22] := by simpa using Array.mem_of_getElem? ht
        have hall : ([22].all fun u => !Tryd.prog.wantsStandIn u) = true := by kernel_rfl
        exact (show Tryd.prog.wantsStandIn t = false by simpa using List.all_eq_true.1 hall t hm)⟩)
    (by kernel_rfl)

end Go.Proofs.YtlbcpppmpbbkdabDoor.lawWriteBack
namespace Go.Proofs.YtlbcpppmpbbkdabDoor
theorem fnWriteBack_holds : Rows.FnWriteBackCardSaid := lawWriteBack.card
#print axioms fnWriteBack_holds
end Go.Proofs.YtlbcpppmpbbkdabDoor
