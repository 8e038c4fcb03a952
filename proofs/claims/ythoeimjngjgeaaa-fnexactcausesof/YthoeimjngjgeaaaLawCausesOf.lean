/- At every list of events and every write the law FnExactCausesOf answers true: impl.CausesOf answers as spec.CausesOf, leaves list and write as they were, and its answer owns its memory. No conditions. -/
import Derived.Test.YthoeimjngjgeaaaPack10
import Derived.Test.YthoeimjngjgeaaaPack11
import Derived.Test.YthoeimjngjgeaaaPack12
import Derived.Test.YthoeimjngjgeaaaPack9
import Derived.Test.YthoeimjngjgeaaaPack3
namespace Go.Proofs.Ythoeimjngjgeaaa
open Go.ChangeShapes Go.WideShapes Go.ChangeAt Go.RowKit Go.Joins

theorem BoxAt.of_block {b : Nat} {w w1 : World} {k c s q v : Int} {de : Bool} {a : Option Addr} {len cap : Nat} (h : BoxAt b w k c s q v de a len cap) (hs : w.heap.size ≤ w1.heap.size) (hb : w1.heap[b]? = w.heap[b]?) : BoxAt b w1 k c s q v de a len cap where
  lt := Nat.lt_of_lt_of_le h.lt hs
  c0 := (World.cell?_of_block (a := ⟨b, 0, none⟩) hb).trans h.c0
  c1 := (World.cell?_of_block (a := ⟨b, 1, none⟩) hb).trans h.c1
  c2 := (World.cell?_of_block (a := ⟨b, 2, none⟩) hb).trans h.c2
  c3 := (World.cell?_of_block (a := ⟨b, 3, none⟩) hb).trans h.c3
  c4 := (World.cell?_of_block (a := ⟨b, 4, none⟩) hb).trans h.c4
  c5 := (World.cell?_of_block (a := ⟨b, 5, none⟩) hb).trans h.c5
  c6 := (World.cell?_of_block (a := ⟨b, 6, none⟩) hb).trans h.c6

section
variable {H : Type} {enc : TypeId × Value → H} {w : World} {base : Nat} {held : Bool}

set_option maxRecDepth 100000 in
theorem open_writeR {b0 : Nat} {r : Reach} {v : Value} {d : DataW H} {p : List MemPlace} (hv : Value.okWide Try.prog w r b0 27 v) (h : DataW.Trod enc Try.prog w base (fun _ => true) held 27 v d p) :
    ∃ (k c s q va : Int) (de : Bool) (a : Option Addr) (len cap : Nat) (xs : List Dp), v = .agg #[.int .i64 k, .int .i64 c, .int .i64 s, .int .i64 q, .int .i64 va, .bool de, .slice a len cap] ∧ (xs.length = len ∧ len ≤ maxLen ∧ IsDeps w a xs ∧ WrR ⟨k, c, s, q, va, de, xs⟩) := by
  obtain ⟨cs, rfl, -⟩ := okWide_struct Try.underlying27 hv
  obtain ⟨fuel, hf⟩ := h
  obtain ⟨y, a, cap, e, h1, h2, h3⟩ := write_cellsR hf
  obtain ⟨k, c, s, q, va, de, xs⟩ := y
  cases cs with
  | mk l =>
    simp only [Value.cells] at e
    have e' : l = _ := e
    subst e'
    exact ⟨k, c, s, q, va, de, a, xs.length, cap, xs, rfl, rfl, h1, h2, h3⟩

end

theorem BoxIn.boxAt {w0 w : World} {k c s q v : Int} {de : Bool} {a : Option Addr} {len cap : Nat} (h : BoxIn w0 w k c s q v de a len cap) : BoxAt w0.heap.size w k c s q v de a len cap := ⟨h.lt, h.c0, h.c1, h.c2, h.c3, h.c4, h.c5, h.c6⟩

end Go.Proofs.Ythoeimjngjgeaaa
namespace Go.Proofs.Ythoeimjngjgeaaa.lawCausesOf
open Go.ChangeShapes Go.WideShapes Go.ChangeAt Go.RowKit Go.Joins
attribute [local go_sem ↓] Go.wp_at_zero Go.wp_at_succ

abbrev BoxW (w W : World) (k c s q v : Int) (de : Bool) (a : Option Addr) (len cap : Nat) : Prop :=
  W.cell? ⟨w.heap.size, 0, none⟩ = some (.int .i64 k) ∧ W.cell? ⟨w.heap.size, 1, none⟩ = some (.int .i64 c) ∧ W.cell? ⟨w.heap.size, 2, none⟩ = some (.int .i64 s) ∧ W.cell? ⟨w.heap.size, 3, none⟩ = some (.int .i64 q) ∧ W.cell? ⟨w.heap.size, 4, none⟩ = some (.int .i64 v) ∧ W.cell? ⟨w.heap.size, 5, none⟩ = some (.bool de) ∧ W.cell? ⟨w.heap.size, 6, none⟩ = some (.slice a len cap) ∧ w.heap.size < W.heap.size ∧ Below w.heap.size w W

theorem boxW_of {w W : World} {k c s q v : Int} {de : Bool} {a : Option Addr} {len cap : Nat} (h : BoxIn w W k c s q v de a len cap) : BoxW w W k c s q v de a len cap := ⟨h.c0, h.c1, h.c2, h.c3, h.c4, h.c5, h.c6, h.lt, h.below⟩

theorem boxW_in {w W : World} {k c s q v : Int} {de : Bool} {a : Option Addr} {len cap : Nat} (h : BoxW w W k c s q v de a len cap) : BoxIn w W k c s q v de a len cap := by
  obtain ⟨h0, h1, h2, h3, h4, h5, h6, h7, h8⟩ := h
  exact ⟨h7, h8, h0, h1, h2, h3, h4, h5, h6⟩

theorem boxW_step {w W W' : World} {k c s q v : Int} {de : Bool} {a : Option Addr} {len cap : Nat} (h : BoxW w W k c s q v de a len cap) (hb : Below W.heap.size W W') : BoxW w W' k c s q v de a len cap := boxW_of ((boxW_in h).step hb)

theorem boxW_drew {w W : World} {k c s q v : Int} {de : Bool} {a : Option Addr} {len cap : Nat} (h : BoxIn w W k c s q v de a len cap) : BoxW w W.drew k c s q v de a len cap := boxW_step (boxW_of h) (Below.refl _ _).drew

theorem cau_reach {all : List Wr} {ds : List Dp} (hn : all.Nodup) : ∀ t, (∃ u, CauI all ds u ∧ (cauQ ds (cauRun all ds u)).length ≤ u) ∨ CauI all ds t
  | 0 => .inr (cauI_zero all ds)
  | t + 1 => by
    rcases cau_reach hn t with h | h
    · exact .inl h
    · by_cases ht : t < (cauQ ds (cauRun all ds t)).length
      · exact .inr (h.next hn ht).2.2
      · exact .inl ⟨t, h, by omega⟩

theorem causes_wgt {all : List Wr} {ds : List Dp} (hn : all.Nodup) : wgt (causesL all ds) ≤ wgt all := by
  rcases cau_reach (ds := ds) hn (ds.length + wgt all) with ⟨u, h1, h2⟩ | h
  · rw [← cauI_end h1 h2]
    exact h1.wgt
  · exact h.wgt

set_option maxRecDepth 100000 in
set_option maxHeartbeats 16000000 in
theorem walk (a : Option Addr) (n cap : Nat) (es : List Ev) (xk xc xs' xq xv : Int) (xd : Bool) (ad : Option Addr) (len cp : Nat) (xx : List Dp) (w : World) (hr : es.length = n ∧ n ≤ maxLen ∧ (∀ i, i < es.length → (es.getD i evz).ws.length ≤ maxLen) ∧ IsEs w a es ∧ EsR es) (hr' : xx.length = len ∧ len ≤ maxLen ∧ IsDeps w ad xx ∧ WrR ⟨xk, xc, xs', xq, xv, xd, xx⟩) :
    Calls Try.prog 3 #[.slice a n cap, wrV xk xc xs' xq xv xd ad len cp] w fun e w' => e = .returned (.bool true) ∧ Below w.heap.size w w' := by
  obtain ⟨hl, hm, hlm, hi, hrr⟩ := hr
  obtain ⟨rfl, hm', hi', hxr⟩ := hr'
  have HLM := Lib.hid hlm
  have HRE := Lib.hid hrr
  have HXR := Lib.hid hxr
  clear hlm hrr hxr
  have HI := Lib.hid hi
  have HD := Lib.hid hi'
  have HN := Lib.hid hl
  clear hi hl hi'
  go_enter Try.func3, Try.ntmps3
  go_wp2_with fail
  refine (szEventS_any a n cap 1048576 es _ (by omega) (by omega) hm HN.out HLM.out (HI.out.below ((Below.refl _ _).alloc (Nat.le_refl _) _))).mono ?_
  rintro e w1 ⟨r, rfl, hr, hb⟩
  have HT1 : Hid (BoxIn w w1 xk xc xs' xq xv xd ad xx.length cp) := BoxIn.start hb
  clear hb hm
  rcases hr with rfl | ⟨r0, hr⟩
  · go_wp2
    go_ret
    exact ⟨rfl, HT1.out.below⟩
  have HRR := Lib.hid hr
  have r1 : r ≤ 1048576 := by omega
  have b0 := HT1.out.c0
  have b1 := HT1.out.c1
  have b2 := HT1.out.c2
  have b3 := HT1.out.c3
  have b4 := HT1.out.c4
  have b5 := HT1.out.c5
  have b6 := HT1.out.c6
  clear hr
  by_cases hlen : (xx.length : Int) ≤ r
  case neg =>
    go_wp2_with fail
    refine (szWrite_big _ _ _ _ _ _ _ _ _ r _ r0 r1 (by omega) hm').mono ?_
    rintro e w2 ⟨rfl, hb⟩
    have HT2 := Lib.hid (HT1.out.step hb)
    clear hb
    go_wp2
    go_ret
    exact ⟨rfl, HT2.out.below⟩
  go_wp2_with fail
  refine (szWrite_small _ _ _ _ _ _ _ _ _ r _ r0 r1 hlen).mono ?_
  rintro e w2 ⟨rfl, hb⟩
  have HT2 := Lib.hid (HT1.out.step hb)
  clear hb hm' HT1 b0 b1 b2 b3 b4 b5 b6
  have hn : n ≤ 1048576 := by have := HRR.out; omega
  have hhe : heftB (evW es) ≤ 1048576 := by have := HRR.out; omega
  have hxl : xx.length ≤ 1048576 := by have := HRR.out; omega
  have HF : Hid (FewE es) := fewE_heft hhe
  have HHE := Lib.hid hhe
  obtain ⟨ds, hds⟩ : ∃ ds, causesL (writtenL es) xx = ds := ⟨_, rfl⟩
  obtain ⟨L, hL⟩ : ∃ L, ds.length = L := ⟨_, rfl⟩
  have HZ := Lib.hid hds
  have HL := Lib.hid hL
  have hwg : wgt ds ≤ 1048576 := by rw [← hds]; exact Nat.le_trans (causes_wgt (written_nodup es)) (Nat.le_trans (written_wgt es) hhe)
  have HJF : Hid (Few ds) := few_wgt hwg
  have hL6 : L ≤ 1048576 := by rw [← hL]; unfold wgt at hwg; omega
  have hbk : bulk ds ≤ 1048576 := by unfold wgt at hwg; omega
  clear hwg hhe hds hL
  clear HRR
  go_wp2_with fail
  go_region_held3 (fun w' => w'.cell? ⟨w.heap.size, 0, none⟩ = some (.int .i64 xk) ∧ w'.cell? ⟨w.heap.size, 1, none⟩ = some (.int .i64 xc) ∧ w'.cell? ⟨w.heap.size, 2, none⟩ = some (.int .i64 xs') ∧ w'.cell? ⟨w.heap.size, 3, none⟩ = some (.int .i64 xq) ∧ w'.cell? ⟨w.heap.size, 4, none⟩ = some (.int .i64 xv) ∧ w'.cell? ⟨w.heap.size, 5, none⟩ = some (.bool xd) ∧ w'.cell? ⟨w.heap.size, 6, none⟩ = some (.slice ad xx.length cp) ∧ w.heap.size < w'.heap.size ∧ Below w.heap.size w w')
    (first | assumption | exact boxW_drew HT2.out | exact boxW_step (by assumption) hb3 | exact boxW_step (by assumption) hb4 | exact boxW_step (by assumption) hb5)
    (first | (go_at_call 8; refine (toEventS_any a n cap es _ HN.out hn HF.out (HI.out.below (by assumption : BoxW w _ xk xc xs' xq xv xd ad xx.length cp).2.2.2.2.2.2.2.2)).mono ?_; rintro e w3 ⟨xs3, rfl, he3, hO3, hb3⟩) | (go_at_call 9; refine (toWrite_any _ _ _ _ _ _ _ _ _ xx _ hxl rfl (HD.out.below (by assumption : BoxW w _ xk xc xs' xq xv xd ad xx.length cp).2.2.2.2.2.2.2.2)).mono ?_; rintro e w4 ⟨g4, rfl, hg41, hg42, hg43, hb4⟩) | (go_at_call 7; refine (specCauses_any _ n n es ⟨xk, xc, xs', xq, xv, xd, xx⟩ _ xx.length _ HN.out hn HF.out HHE.out (by have h9 := hO3.isEs (by rw [he3]; exact HF.out); rw [he3] at h9; exact h9.below hb4) hxl (.inr ⟨g4, 0, rfl, hg42, hg43⟩) (written_nodup es)).mono ?_; rintro e w5 ⟨v5, rfl, hrow⟩; rw [show causesL (writtenL es) (Wr.xs ⟨xk, xc, xs', xq, xv, xd, xx⟩) = ds from HZ.out] at hrow; obtain ⟨gs, cs, gs5, rfl, hgx, hgr, hb5⟩ := hrow; rw [HL.out]))
  have HT5 : Hid (BoxIn w w5 xk xc xs' xq xv xd ad xx.length cp) := boxW_in ‹_ ∧ _›
  have HS : Hid (IsWs w5 (some ⟨gs, 0, none⟩) ds) := hgr.isWs hgx HJF.out
  clear hO3 he3 hb3 hb4 hb5 hg41 hg42 hg43 hgx hgr HT2
  go_wp2_with fail
  refine (toEventS_any a n cap es _ HN.out hn HF.out (HI.out.below HT5.out.below)).mono ?_
  rintro e w6 ⟨xs6, rfl, he6, hO6, hb⟩
  have HT6 := Lib.hid (HT5.out.step hb)
  have HS6 : Hid (Below w5.heap.size w5 w6) := hb
  have HO6 := Lib.hid hO6
  have HE6 := Lib.hid he6
  have hel : xs6.length = n := by have h1 := congrArg List.length he6; rw [HN.out, evsOf_len] at h1; exact h1
  have HTM : Hid (TameE xs6 1) := tameE_heft (by omega) (by omega) (by rw [he6]; exact HHE.out) (by omega)
  have HFB : Hid (FewE (evsOf xs6)) := by rw [he6]; exact HF.out
  have hw6 : w5.heap.size ≤ w6.heap.size := hb.size
  have HWB : Hid (∀ W A, OwnE W w5.heap.size w6.heap.size A xs6 → IsEs W A es) := fun W A h => by have := h.isEs HFB.out; rwa [HE6.out] at this
  have hw5 : w.heap.size < w5.heap.size := HT5.out.lt
  clear hb hO6 he6 HT5
  have b0 := HT6.out.c0
  have b1 := HT6.out.c1
  have b2 := HT6.out.c2
  have b3 := HT6.out.c3
  have b4 := HT6.out.c4
  have b5 := HT6.out.c5
  have b6 := HT6.out.c6
  go_wp2_with fail
  refine (toWrite_own _ _ _ _ _ _ _ _ _ xx _ hxl rfl (HD.out.below HT6.out.below)).mono ?_
  rintro e w7 ⟨g7, rfl, hg71, hg72, hg73, hg74, hb⟩
  have HT7 := Lib.hid (HT6.out.step hb)
  have HS7 : Hid (Below w5.heap.size w5 w7) := below_step HS6.out HS6.out.size hb
  have HO67 := Lib.hid (HO6.out.below hb)
  have HX7 : Hid (FreshDeps w6.heap.size w7 (some ⟨g7, 0, none⟩) g7 xx) := fun _ => ⟨rfl, hg71, hg72, hg73, hg74⟩
  have hs67 : w6.heap.size ≤ w7.heap.size := hb.size
  have hs56 : w5.heap.size ≤ w6.heap.size := HS6.out.size
  clear hb hg73 hg74 HO6 HS6 HT6 b0 b1 b2 b3 b4 b5 b6
  go_wp2_with fail
  have HBA : Hid (Below w7.heap.size w7 (w7.alloc (.cells #[.int .i64 xk, .int .i64 xc, .int .i64 xs', .int .i64 xq, .int .i64 xv, .bool xd, .slice (some ⟨g7, 0, none⟩) xx.length xx.length] 37))) := (Below.refl _ _).alloc (Nat.le_refl _) _
  refine (implCauses_any _ n n es ⟨xk, xc, xs', xq, xv, xd, xx⟩ _ xx.length _ HN.out hn HF.out HHE.out HRE.out (HWB.out _ _ (HO67.out.below HBA.out)) hxl HXR.out (HX7.out.below HBA.out).isDeps).mono ?_
  rintro e w8 ⟨v, ets, rfl, hes, hrow, hb⟩
  rw [show causesL (writtenL es) (Wr.xs ⟨xk, xc, xs', xq, xv, xd, xx⟩) = ds from HZ.out] at hes
  obtain ⟨ga, gc, L', rfl, hl', hg8⟩ := hrow.ownA hes
  obtain rfl : L' = L := hl'.symm.trans HL.out
  have HY8 : Hid (BoxAt w7.heap.size w8 xk xc xs' xq xv xd (some ⟨g7, 0, none⟩) xx.length xx.length) := BoxAt.start hb
  have hbb := Lib.hid (below_step HBA.out HBA.out.size hb)
  have HT8 := Lib.hid (HT7.out.step hbb.out)
  have HS8 : Hid (Below w5.heap.size w5 w8) := below_step HS7.out HS7.out.size hbb.out
  have HO68 := Lib.hid (HO67.out.below hbb.out)
  have HX8 := Lib.hid (HX7.out.below hbb.out)
  have HG8 : Hid (OwnA w8 (w7.heap.size + 1) w8.heap.size ga ds (gammaG ets)) := Lib.hid (by simpa using hg8)
  have hs78 : w7.heap.size < w8.heap.size := HY8.out.lt
  clear hb hbb hg8 hrow hes hl' HO67 HX7 HT7 HS7 HBA
  generalize gammaG ets = γg at *
  go_wp2_with fail
  refine (eqWriteS_gen _ _ L' _ _ ds _ HL.out (by omega) HJF.out (HG8.out.isWs HJF.out) (HS.out.below HS8.out)).mono ?_
  rintro e w9 ⟨rfl, hb⟩
  have HT9 := Lib.hid (HT8.out.step hb)
  have HY9 := Lib.hid (HY8.out.step hb)
  have HS9 : Hid (Below w5.heap.size w5 w9) := below_step HS8.out HS8.out.size hb
  have HO69 := Lib.hid (HO68.out.below hb)
  have HX9 := Lib.hid (HX8.out.below hb)
  have HG9 := Lib.hid (HG8.out.below hb)
  clear hb HT8 HY8 HS8 HO68 HX8 HG8
  go_wp2_with fail
  refine (toEventS_any a n cap es _ HN.out hn HF.out (HI.out.below HT9.out.below)).mono ?_
  rintro e w10 ⟨xs10, rfl, he10, hO10, hb⟩
  have HT10 := Lib.hid (HT9.out.step hb)
  have HY10 := Lib.hid (HY9.out.step hb)
  have HS10 : Hid (Below w5.heap.size w5 w10) := below_step HS9.out HS9.out.size hb
  have HO610 := Lib.hid (HO69.out.below hb)
  have HX10 := Lib.hid (HX9.out.below hb)
  have HG10 := Lib.hid (HG9.out.below hb)
  have HO10 : Hid (IsEs w10 (some ⟨w9.heap.size, 0, none⟩) es) := by have := hO10.isEs (by rw [he10]; exact HF.out); rwa [he10] at this
  clear hb hO10 he10 HT9 HY9 HS9 HO69 HX9 HG9
  go_wp2_with fail
  refine (eqEventS_same _ _ n n n es _ HN.out hn HF.out (HWB.out _ _ HO610.out) HO10.out).mono ?_
  rintro e w11 ⟨rfl, hb⟩
  have HT11 := Lib.hid (HT10.out.step hb)
  have HY11 := Lib.hid (HY10.out.step hb)
  have HS11 : Hid (Below w5.heap.size w5 w11) := below_step HS10.out HS10.out.size hb
  have HO611 := Lib.hid (HO610.out.below hb)
  have HX11 := Lib.hid (HX10.out.below hb)
  have HG11 := Lib.hid (HG10.out.below hb)
  clear hb HT10 HY10 HS10 HO610 HX10 HG10 HO10
  have HP11 := Lib.hid (pair_start (HT11.out.boxAt) HY11.out)
  go_wp2_with fail
  go_region_held3 (fun w' => w'.cell? ⟨w.heap.size, 0, none⟩ = some (.int .i64 xk) ∧ w'.cell? ⟨w.heap.size, 1, none⟩ = some (.int .i64 xc) ∧ w'.cell? ⟨w.heap.size, 2, none⟩ = some (.int .i64 xs') ∧ w'.cell? ⟨w.heap.size, 3, none⟩ = some (.int .i64 xq) ∧ w'.cell? ⟨w.heap.size, 4, none⟩ = some (.int .i64 xv) ∧ w'.cell? ⟨w.heap.size, 5, none⟩ = some (.bool xd) ∧ w'.cell? ⟨w.heap.size, 6, none⟩ = some (.slice ad xx.length cp) ∧ w'.cell? ⟨w7.heap.size, 0, none⟩ = some (.int .i64 xk) ∧ w'.cell? ⟨w7.heap.size, 1, none⟩ = some (.int .i64 xc) ∧ w'.cell? ⟨w7.heap.size, 2, none⟩ = some (.int .i64 xs') ∧ w'.cell? ⟨w7.heap.size, 3, none⟩ = some (.int .i64 xq) ∧ w'.cell? ⟨w7.heap.size, 4, none⟩ = some (.int .i64 xv) ∧ w'.cell? ⟨w7.heap.size, 5, none⟩ = some (.bool xd) ∧ w'.cell? ⟨w7.heap.size, 6, none⟩ = some (.slice (some ⟨g7, 0, none⟩) xx.length xx.length) ∧ w.heap.size < w'.heap.size ∧ w7.heap.size < w'.heap.size ∧ Below w11.heap.size w11 w')
    (first | assumption | exact HP11.out | exact pair_step (by assumption) hb12 | exact pair_step (by assumption) hb13)
    (first | (go_at_call 9; refine (toWrite_any _ _ _ _ _ _ _ _ _ xx _ hxl rfl (HD.out.below HT11.out.below.drew)).mono ?_; rintro e w12 ⟨g12, rfl, hg121, hg122, hg123, hb12⟩) | (go_at_call 13; refine (eqWrite_gen _ _ _ _ _ _ _ _ _ _ _ xx _ hxl rfl ((show FreshDeps w6.heap.size w11.drew (some ⟨g7, 0, none⟩) g7 xx from HX11.out).below hb12).isDeps (.inr ⟨g12, 0, rfl, hg122, hg123⟩)).mono ?_; rintro e w13 ⟨rfl, hb13⟩))
  have hpp := ‹_ ∧ _›
  have hb : Below w11.heap.size w11 w13 := hpp.2.2.2.2.2.2.2.2.2.2.2.2.2.2.2.2
  have HT13 := Lib.hid (HT11.out.step hb)
  have HY13 := Lib.hid (HY11.out.step hb)
  have HS13 : Hid (Below w5.heap.size w5 w13) := below_step HS11.out HS11.out.size hb
  have HO613 := Lib.hid (HO611.out.below hb)
  have HX13 := Lib.hid (HX11.out.below hb)
  have HG13 := Lib.hid (HG11.out.below hb)
  clear hb hpp hb12 hb13 hg121 hg122 hg123 HP11 HT11 HY11 HS11 HO611 HX11 HG11
  have HK1 : Hid (0 ≤ markKE xs6 1 ∧ markKE xs6 1 ≤ 20000000) := by
    have h1 := markKE_bd xs6 1
    have h2 := HHE.out
    rw [HE6.out] at h1
    constructor <;> omega
  go_wp2_with fail
  refine (markEventS_any _ _ n n _ 1 xs6 _ hel hn HTM.out HO613.out).mono ?_
  rintro e w14 ⟨rfl, -, ho⟩
  have hbl : Below w5.heap.size w13 w14 := ho.below fun x hx => hx.1
  have hbw : Below w.heap.size w w14 := HT13.out.below.trans (hbl.mono (by omega))
  have HT14 := Lib.hid (HT13.out.other hbl.size hbw (hbl.block _ hw5))
  have HY14 := Lib.hid (HY13.out.of_block hbl.size (ho.block _ fun e => by have := e.2; omega))
  have HS14 : Hid (Below w5.heap.size w5 w14) := HS13.out.trans hbl
  have HX14 : Hid (FreshDeps w6.heap.size w14 (some ⟨g7, 0, none⟩) g7 xx) := HX13.out.of_block hbl.size fun _ => ho.block _ fun e => by have := e.2; omega
  have HG14 := Lib.hid (HG13.out.only ho fun x hx => by have := hx.2; omega)
  obtain ⟨k0, k1⟩ := HK1.out
  clear hbl hbw ho HT13 HY13 HS13 HO613 HX13 HG13 HK1
  generalize markKE xs6 1 = k at *
  have y0 := HY14.out.c0
  have y1 := HY14.out.c1
  have y2 := HY14.out.c2
  have y3 := HY14.out.c3
  have y4 := HY14.out.c4
  have y5 := HY14.out.c5
  have y6 := HY14.out.c6
  go_wp2_with fail
  refine (markWrite_any xk xc xs' xq xv xd _ g7 xx.length xx.length k (fun o => .int .i64 (depCell xx o)) _ hxl k0 (by omega) (fun hp => (HX14.out hp).2.2.1) (fun _ => rfl) (fun o ho => by
    have hp : 0 < xx.length := by omega
    have := holds_cells (HX14.out hp).2.2.2.1 ho
    rwa [Nat.zero_add] at this) (fun hp => (HX14.out hp).2.2.2.2)).mono ?_
  rintro e w15 ⟨wm, rfl, -, hbm, ho⟩
  have hbl : Below w5.heap.size w14 w15 := (hbm.mono (HS14.out.size)).trans (ho.below fun x hx => by have := hx.2; omega)
  have hbw : Below w.heap.size w w15 := HT14.out.below.trans (hbl.mono (by omega))
  have HT15 := Lib.hid (HT14.out.other hbl.size hbw (hbl.block _ hw5))
  have HS15 : Hid (Below w5.heap.size w5 w15) := HS14.out.trans hbl
  have HG15 := Lib.hid ((HG14.out.below hbm).only ho fun x hx => by have := hx.2; omega)
  clear hbl hbw hbm ho HT14 HY14 HS14 HX14 HG14 y0 y1 y2 y3 y4 y5 y6
  have k2 : 0 ≤ k + 4 * (xx.length : Int) := by omega
  go_wp2_with fail
  refine (eqWriteS_gen _ _ L' _ _ ds _ HL.out (by omega) HJF.out (HG15.out.isWs HJF.out) (HS.out.below HS15.out)).mono ?_
  rintro e w16 ⟨rfl, hb⟩
  have HT16 := Lib.hid (HT15.out.step hb)
  have HS16 : Hid (Below w5.heap.size w5 w16) := below_step HS15.out HS15.out.size hb
  have HG16 := Lib.hid (HG15.out.below hb)
  clear hb HT15 HS15 HG15
  go_wp2_with fail
  refine (markWriteS_all _ _ L' _ _ 1 ds γg _ HL.out (by omega) (by omega) (by omega) (by omega) HG16.out).mono ?_
  rintro e w17 ⟨rfl, hmk, ho⟩
  have hbl : Below w5.heap.size w16 w17 := ho.below fun x hx => by have := hx.1; omega
  have hbw : Below w.heap.size w w17 := HT16.out.below.trans (hbl.mono (by omega))
  have HT17 := Lib.hid (HT16.out.other hbl.size hbw (hbl.block _ hw5))
  have HS17 : Hid (Below w5.heap.size w5 w17) := HS16.out.trans hbl
  have HM17 := Lib.hid hmk
  have HK3 : Hid (0 ≤ markK ds 1 L') := by
    unfold markK
    show (0 : Int) ≤ _
    omega
  have k3 := HK3.out
  clear hbl hbw ho hmk HT16 HS16 HG16 HK3
  go_wp2_with fail
  refine (heldWriteS_all L' _ _ 1 ds γg _ HL.out (by omega) (by omega) (by omega) (by omega) HM17.out).mono ?_
  rintro e w18 ⟨rfl, rfl⟩
  go_wp2_with fail
  go_region_held3 (fun w' => w'.cell? ⟨w.heap.size, 0, none⟩ = some (.int .i64 xk) ∧ w'.cell? ⟨w.heap.size, 1, none⟩ = some (.int .i64 xc) ∧ w'.cell? ⟨w.heap.size, 2, none⟩ = some (.int .i64 xs') ∧ w'.cell? ⟨w.heap.size, 3, none⟩ = some (.int .i64 xq) ∧ w'.cell? ⟨w.heap.size, 4, none⟩ = some (.int .i64 xv) ∧ w'.cell? ⟨w.heap.size, 5, none⟩ = some (.bool xd) ∧ w'.cell? ⟨w.heap.size, 6, none⟩ = some (.slice ad xx.length cp) ∧ w.heap.size < w'.heap.size ∧ Below w.heap.size w w')
    (first | assumption | exact boxW_drew HT17.out | exact boxW_step (by assumption) hb19 | exact boxW_step (by assumption) hb20 | exact boxW_step (by assumption) hb21)
    (first | (go_at_call 8; refine (toEventS_any a n cap es _ HN.out hn HF.out (HI.out.below (by assumption : BoxW w _ xk xc xs' xq xv xd ad xx.length cp).2.2.2.2.2.2.2.2)).mono ?_; rintro e w19 ⟨xs19, rfl, he19, hO19, hb19⟩) | (go_at_call 9; refine (toWrite_any _ _ _ _ _ _ _ _ _ xx _ hxl rfl (HD.out.below (by assumption : BoxW w _ xk xc xs' xq xv xd ad xx.length cp).2.2.2.2.2.2.2.2)).mono ?_; rintro e w20 ⟨g20, rfl, hg201, hg202, hg203, hb20⟩) | (go_at_call 10; refine (implCauses_any _ n n es ⟨xk, xc, xs', xq, xv, xd, xx⟩ _ xx.length _ HN.out hn HF.out HHE.out HRE.out (by have h9 := hO19.isEs (by rw [he19]; exact HF.out); rw [he19] at h9; exact h9.below hb20) hxl HXR.out (.inr ⟨g20, 0, rfl, hg202, hg203⟩)).mono ?_; rintro e w21 ⟨v21, es21, rfl, hes21, hrow21, hb21⟩))
  have HB21 : Hid (Below w.heap.size w w21) := (boxW_in ‹_ ∧ _›).below
  rw [show causesL (writtenL es) (Wr.xs ⟨xk, xc, xs', xq, xv, xd, xx⟩) = ds from HZ.out] at hes21
  obtain ⟨ha21, hc21, L2, rfl, hl21, hh21⟩ := hrow21.ownA hes21
  obtain rfl : L2 = L' := hl21.symm.trans HL.out
  have hbb : Below w18.heap.size w18 w21 := below_step (below_step (below_step (Below.refl w18.heap.size w18).drew (Nat.le_refl _) hb19) hb19.size hb20) (Nat.le_trans hb19.size hb20.size) hb21
  have HS21 : Hid (Below w5.heap.size w5 w21) := below_step HS17.out HS17.out.size hbb
  have HM21 := Lib.hid (HM17.out.below hbb)
  have HH := Lib.hid (hh21.isWs HJF.out)
  clear hbb hb19 hb20 hb21 hO19 he19 hg201 hg202 hg203 hes21 hrow21 hl21 hh21 HT17 HS17 HM17
  go_wp2_with fail
  refine (eqWriteS_gen _ _ L2 _ _ ds _ HL.out (by omega) HJF.out HH.out (HS.out.below HS21.out)).mono ?_
  rintro e w22 ⟨rfl, hb⟩
  have HB22 : Hid (Below w.heap.size w w22) := below_step HB21.out HB21.out.size hb
  have HM22 := Lib.hid (HM21.out.below hb)
  clear hb HB21 HS21 HM21 HH
  go_wp2_with fail
  refine (heldWriteS_all L2 _ _ 1 ds γg _ HL.out (by omega) (by omega) (by omega) (by omega) HM22.out).mono ?_
  rintro e w23 ⟨rfl, rfl⟩
  go_wp2
  go_ret
  exact ⟨rfl, HB22.out⟩

set_option maxRecDepth 100000 in
theorem lifted (os : Os) (started : os.Started) (H : Type) (enc : TypeId × Value → H) :
    ReturnsInHanded {} Try.checked os 3 .any (Rows.fnExactCausesOfSpec.pre6 enc Try.prog Try.f3 Rows.fnExactCausesOfRow.domain false) (Rows.fnExactCausesOfSpec.post enc Try.prog Try.f3 false true false false) := by
  refine returnsInHanded_of_change (C := Try.checked) own started (by kernel_rfl) Try.func3
    (ChangeSpec.witness6 (enc := enc) (C := Try.checked) false ⟨#[], #[.slice none 0 0, .agg #[.int .i64 0, .int .i64 0, .int .i64 0, .int .i64 0, .int .i64 0, .bool false, .slice none 0 0]], []⟩ 8 (by kernel_rfl) (by kernel_rfl) (by kernel_rfl) (by kernel_rfl)) ?_
  intro W base args ds gs before hval0 hW hcnd _
  have hval : ∀ (j : Nat) t v, Try.f3.params[j]? = some t → args[j]? = some v → Value.okWide Try.prog W .any base t v := hval0
  have hW' := hW
  obtain ⟨p, q, hA0, hV, rfl, hfz, hnd⟩ := hW
  have hA : DataW.TrodAll enc Try.prog W 0 (fun _ => true) true Try.f3.params.toList args.toList ds p := hA0
  rw [Try.params3] at hA hval
  obtain ⟨v0, v1, d0, d1, p0, p1, rfl, rfl, rfl, h0, h1⟩ := trodAll_two hA
  have k0 := h0
  have lt0 : ∀ x ∈ p0, x.block < W.heap.size := by obtain ⟨m, hm⟩ := k0; exact DataW.trod_lt m _ _ _ hm
  have k1 := h1
  have lt1 : ∀ x ∈ p1, x.block < W.heap.size := by obtain ⟨m, hm⟩ := k1; exact DataW.trod_lt m _ _ _ hm
  obtain ⟨rfl, rfl⟩ := trodVars_none hV
  obtain ⟨a0, len0, cap0, es0, hv0, hr0⟩ := open_es (hval 0 22 v0 rfl rfl) h0
  subst hv0
  obtain ⟨ke1, c1, s1, q1, va1, de1, a1, len1, cap1, xs1, hv1, hr1⟩ := open_writeR (hval 1 27 v1 rfl rfl) h1
  subst hv1
  clear hA0 hval0
  refine (walk a0 len0 cap0 es0 ke1 c1 s1 q1 va1 de1 a1 len1 cap1 xs1 W hr0 hr1).mono fun e W' ⟨he, bel⟩ => ?_
  subst he
  exact ⟨_, rfl, _, _, _, [], _, [], hW', trodAll_mk1 (shut_bool Try.underlying4 _), (trodAll_mk2 (Below.trod laidOut (by kernel_rfl) (of_decide_eq_true (by kernel_rfl)) k0 bel lt0) (Below.trod laidOut (by kernel_rfl) (of_decide_eq_true (by kernel_rfl)) k1 bel lt1)), rfl, bel.frame _, fun h => by cases h⟩

theorem over : Rows.fnExactCausesOfRow.holds Try.pinned (OpenSpec.ofChange Rows.fnExactCausesOfSpec) :=
  OpenClaim.holds_of_wide 3 Try.f3 rfl rfl rfl rfl rfl rfl rfl ⟨rfl, rfl, rfl, rfl, rfl⟩ rfl rfl rfl rfl rfl (by kernel_rfl) Try.func3 (by kernel_rfl)
    (of_decide_eq_true (by kernel_rfl)) (by unfold Func.isWrapper; rw [if_neg (by decide +kernel)]; exact ⟨rfl, rfl⟩)
    (fun os started H enc _ => lifted os started H enc)

end Go.Proofs.Ythoeimjngjgeaaa.lawCausesOf
namespace Go.Proofs.Ythoeimjngjgeaaa
theorem fnExactCausesOf_holds : Rows.FnExactCausesOfSaid := lawCausesOf.over
#print axioms fnExactCausesOf_holds
end Go.Proofs.Ythoeimjngjgeaaa
