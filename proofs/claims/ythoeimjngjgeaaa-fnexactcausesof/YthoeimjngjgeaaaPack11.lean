import Derived.Test.YthoeimjngjgeaaaPack10
import Derived.Test.YthoeimjngjgeaaaPack8
import Derived.Test.YthoeimjngjgeaaaPack3
import Derived.Test.YthoeimjngjgeaaaPack6
import Derived.Test.YthoeimjngjgeaaaPack7
import Derived.Deep.OwnRows
/- What was written, the specification's side: the contract of spec.Written. -/
namespace Go.Proofs.Ythoeimjngjgeaaa
open Go.ChangeShapes Go.WideShapes Go.ChangeAt Go.RowKit Go.Joins
attribute [local go_sem ↓] Go.wp_at_zero Go.wp_at_succ

/-- A row of the specification's that has these writes. -/
def RowOf (w wr : World) (out : List Wr) (v : Value) : Prop := ∃ g cp gs, v = .slice (some ⟨g, 0, none⟩) out.length cp ∧ gs.map (·.x) = out ∧ RowEs wr w.heap.size g cp gs ∧ Below w.heap.size w wr

theorem RowOf.below {w wr : World} {out : List Wr} {v : Value} (h : RowOf w wr out v) : Below w.heap.size w wr := by
  obtain ⟨_, _, _, _, _, _, h⟩ := h
  exact h

theorem RowOf.more {w wr w' : World} {out : List Wr} {v : Value} (h : RowOf w wr out v) (hb : Below wr.heap.size wr w') : RowOf w w' out v := by
  obtain ⟨g, cp, gs, h1, h2, h3, h4⟩ := h
  exact ⟨g, cp, gs, h1, h2, h3.below hb, below_step h4 h4.size hb⟩

theorem rowOf_start (w : World) : RowOf w (w.alloc (.cells #[] 37)) [] (.slice (some ⟨w.heap.size, 0, none⟩) 0 0) :=
  ⟨_, _, [], rfl, rfl, rowEs_start w w.heap.size (Nat.le_refl _), (Below.refl _ _).alloc (Nat.le_refl _) _⟩

set_option maxRecDepth 100000 in
set_option maxHeartbeats 8000000 in
theorem specWritten_any (a : Option Addr) (n cap : Nat) (es : List Ev) (w : World) (hn : es.length = n) (hm : n ≤ 1048576) (hx : FewE es) (hh : heftB (evW es) ≤ 1048576) (hi : IsEs w a es) :
    Calls Try.prog 22 #[.slice a n cap] w fun e w' => ∃ v, e = .returned v ∧ RowOf w w' (writtenL es) v := by
  have HI := Lib.hid hi
  have HN := Lib.hid hn
  have HX := Lib.hid hx
  have HHE := Lib.hid hh
  clear hi hn hx hh
  obtain ⟨i0, hi0, hx0⟩ := Option.map_eq_some_iff.1 infoWr
  simp only [Prod.mk.injEq] at hx0
  have HI0 := Lib.hid hi0
  have HX0 := Lib.hid hx0
  clear hi0 hx0
  have HT0 := Lib.hid (rowOf_start w)
  go_enter Try.func22, Try.ntmps22
  go_wp2
  go_loopw [3, 4] (fun t i wr => ∃ (k : Nat) (v : Value), k ≤ n ∧ i = .int .i64 k ∧ v = t ∧ Hid (RowOf w wr ((es.take k).foldl addE []) v)) (fun _ i _ => n - (intOf i).toNat)
  case atStart => exact ⟨0, _, Nat.zero_le _, rfl, rfl, HT0⟩
  case round =>
    clear HT0
    obtain ⟨k, v, hk, rfl, rfl, HT⟩ := hrel
    by_cases hk' : k < n
    · have hkw : k < es.length := by rw [HN.out]; exact hk'
      have i1 : (0 : Int) ≤ (k : Int) := by omega
      have i2 : (k : Int) < (n : Int) := by omega
      obtain ⟨b, o, ad, cq, rfl, hz, e0, hde⟩ := HI.out.at (Below.refl _ w) hkw
      have HW := Lib.hid hde
      have HNX := Lib.hid (foldl_next addE es [] evz hkw)
      have HWG : Hid (∀ j, wgt (((es.getD k evz).ws.take j).foldl addW ((es.take k).foldl addE [])) ≤ 1048576) := fun j => Nat.le_trans (writing_wgt es hkw) HHE.out
      obtain ⟨hql, hqf⟩ := HX.out k hkw
      have HQF := Lib.hid hqf
      clear hde hqf
      unfold EvAt at e0
      generalize es.getD k evz = x at *
      obtain ⟨xs, xh, xm, xw⟩ := x
      simp only at e0 hql HW HWG HQF
      obtain ⟨c0, c1, c2, c3⟩ := e0
      generalize (es.take k).foldl addE [] = out0 at *
      obtain ⟨q, hq⟩ : ∃ q, xw.length = q := ⟨_, rfl⟩
      rw [hq] at c3 hql
      have HQ := Lib.hid hq
      clear hq
      have HE0 : Hid (∀ W, Below w.heap.size w W → W.cell? ⟨b, o + k * 4 + 1, none⟩ = some (.bool xh) ∧ W.cell? ⟨b, o + k * 4 + 3, none⟩ = some (.slice ad q cq)) := fun W hW => ⟨(hW.cell (p := ⟨b, o + k * 4 + 1, none⟩) hz).trans c1, (hW.cell (p := ⟨b, o + k * 4 + 3, none⟩) hz).trans c3⟩
      clear c0 c1 c2 c3
      go_wp2
      go_loopw [3, 5] (fun t i wr => ∃ (j : Nat) (u : Value), j ≤ q ∧ i = .int .i64 j ∧ u = t ∧ (j = 0 ∨ xh = false) ∧ Hid (RowOf w wr ((xw.take j).foldl addW out0) u)) (fun _ i _ => q - (intOf i).toNat)
      case atStart => exact ⟨0, _, Nat.zero_le _, rfl, rfl, .inl rfl, HT⟩
      case round =>
        clear HT
        obtain ⟨j, u, hj, rfl, rfl, hj0, HT⟩ := hrel
        obtain ⟨c1, c3⟩ := HE0.out wr HT.out.below
        by_cases hj' : j < q
        · have hd1 : decide (j < q) = true := decide_eq_true hj'
          cases xh with
          | true =>
            obtain rfl : j = 0 := by rcases hj0 with h | h; exact h; cases h
            have HN2 : Hid ((es.take (k + 1)).foldl addE [] = out0) := HNX.out.trans (if_pos rfl)
            have HT4 : Hid (RowOf w wr ((es.take (k + 1)).foldl addE []) u) := by
              have h := HT.out
              rw [List.take_zero] at h
              rw [HN2.out]
              exact h
            go_wp2
            exact ⟨⟨k + 1, u, by omega, by go_num, rfl, HT4⟩, by simp [intOf]; omega⟩
          | false =>
            have hjw : j < xw.length := by rw [HQ.out]; exact hj'
            have i3 : (0 : Int) ≤ (j : Int) := by omega
            have i4 : (j : Int) < (q : Int) := by omega
            obtain ⟨bw, ow, aw, cw, rfl, hzw, ⟨e0, e1, e2, e3, e4, e5, e6⟩, hdw⟩ := HW.out.at HT.out.below HQ.out hj'
            have HDW := Lib.hid hdw
            have hxl := HQF.out j hjw
            have HNY := Lib.hid (foldl_next addW xw out0 wz hjw)
            have hwg := HWG.out j
            clear hdw
            generalize xw.getD j wz = y at *
            generalize (xw.take j).foldl addW out0 = out at *
            obtain ⟨yk, yc, ys, yq, yv, yd, yy⟩ := y
            simp only at e0 e1 e2 e3 e4 e5 e6 hxl HDW
            have hol : out.length ≤ 1048576 := by unfold wgt at hwg; omega
            have HOF : Hid (Few out) := few_wgt hwg
            obtain ⟨g, cp, gs, rfl, hgx, hgr, hgb⟩ := HT.out
            have HGX := Lib.hid hgx
            have HGR := Lib.hid hgr
            have HGB := Lib.hid hgb
            have hgl : gs.length = out.length := by
              have h1 := congrArg List.length hgx
              rwa [List.length_map] at h1
            have HGW : Hid (IsWs wr (some ⟨g, 0, none⟩) out) := hgr.isWs hgx HOF.out
            clear hgx hgr hgb HT
            obtain ⟨L, hL⟩ : ∃ L, out.length = L := ⟨_, rfl⟩
            have HLN := Lib.hid hL
            rw [hL] at hol hgl ⊢
            clear hL
            go_wp2_with fail
            refine (specHas_any _ L _ out ⟨yk, yc, ys, yq, yv, yd, yy⟩ aw cw _ HLN.out hol HOF.out hxl HGW.out HDW.out).mono ?_
            rintro e w3 ⟨rfl, hb3⟩
            have HGB3 : Hid (Below w.heap.size w w3) := below_step HGB.out HGB.out.size hb3
            have HGR3 := Lib.hid (HGR.out.below hb3)
            have HD3 := Lib.hid (HDW.out.below hb3)
            obtain ⟨c1, c3⟩ := HE0.out w3 HGB3.out
            replace e0 := (hb3.cell (p := ⟨bw, ow + j * 7, none⟩) hzw).trans e0
            replace e1 := (hb3.cell (p := ⟨bw, ow + j * 7 + 1, none⟩) hzw).trans e1
            replace e2 := (hb3.cell (p := ⟨bw, ow + j * 7 + 2, none⟩) hzw).trans e2
            replace e3 := (hb3.cell (p := ⟨bw, ow + j * 7 + 3, none⟩) hzw).trans e3
            replace e4 := (hb3.cell (p := ⟨bw, ow + j * 7 + 4, none⟩) hzw).trans e4
            replace e5 := (hb3.cell (p := ⟨bw, ow + j * 7 + 5, none⟩) hzw).trans e5
            replace e6 := (hb3.cell (p := ⟨bw, ow + j * 7 + 6, none⟩) hzw).trans e6
            clear hb3 HGB HGR HDW HGW
            cases hhas : hasW out ⟨yk, yc, ys, yq, yv, yd, yy⟩ with
            | true =>
              have HT4 : Hid (RowOf w w3 ((xw.take (j + 1)).foldl addW out0) (.slice (some ⟨g, 0, none⟩) L cp)) := by
                rw [HNY.out, addW_has hhas]
                exact ⟨g, cp, gs, by rw [HLN.out], HGX.out, HGR3.out, HGB3.out⟩
              clear hhas
              go_wp2
              exact ⟨⟨j + 1, _, by omega, by go_num, rfl, .inr trivial, HT4⟩, by simp [intOf]; omega⟩
            | false =>
              have HNZ := Lib.hid (HNY.out.trans (addW_not hhas))
              clear hhas HNY
              go_wp2_with fail
              refine (copy_any ⟨yk, yc, ys, yq, yv, yd, yy⟩ aw cw _ hxl HD3.out).mono ?_
              rintro e w4 ⟨g2, cp2, rfl, hg1, hg2, hg3, hb⟩
              have HGB4 : Hid (Below w.heap.size w w4) := below_step HGB3.out HGB3.out.size hb
              have HGR4 := Lib.hid (HGR3.out.below hb)
              have HG : Hid (HoldsDeps w4 g2 0 yy) := hg3
              have hg5 : g2 ≠ g := by have := HGR3.out.lt; omega
              have hg6 : w.heap.size ≤ g2 := Nat.le_trans HGB3.out.size hg1
              clear hb hg3 hg1 HD3 HGB3 HGR3 e0 e1 e2 e3 e4 e5 e6 c1 c3
              have HBA : Hid (Below w4.heap.size w4 (w4.alloc (.cells #[.int .i64 yk, .int .i64 yc, .int .i64 ys, .int .i64 yq, .int .i64 yv, .bool yd, .slice (some ⟨g2, 0, none⟩) yy.length cp2] 37))) := (Below.refl _ _).alloc (Nat.le_refl _) _
              have HWA := Lib.hid (HGR4.out.below HBA.out)
              have HOW : Hid ((w4.alloc (.cells #[.int .i64 yk, .int .i64 yc, .int .i64 ys, .int .i64 yq, .int .i64 yv, .bool yd, .slice (some ⟨g2, 0, none⟩) yy.length cp2] 37)).ownsRow w.heap.size 37 7 (.slice (some ⟨g, 0, none⟩) L cp) L (gs.flatMap wrVals)) := by
                have := HWA.out.own
                rw [hgl] at this
                exact this
              have hsz : w.heap.size ≤ w4.heap.size := HGB4.out.size
              go_wp2_with (at_builtin; refine wpList_append_lies _ (by rfl) _ _ _ (by rfl) w.heap.size 37 i0 (wrV 0 0 0 0 0 false none 0 0) 7 72 Try.underlying30 HI0.out HX0.out.1 HX0.out.2.1 HX0.out.2.2 (by rfl) (by omega) (.slice (some ⟨g, 0, none⟩) L cp) L (gs.flatMap wrVals) (by rfl) HOW.out ⟨w4.heap.size, 0, none⟩ 1 1 (wrVals ⟨⟨yk, yc, ys, yq, yv, yd, yy⟩, g2, cp2⟩) (by rfl) (by rfl) (one_cells w4 _ ⟨⟨yk, yc, ys, yq, yv, yd, yy⟩, g2, cp2⟩) (by simpa using vals_one [⟨⟨yk, yc, ys, yq, yv, yd, yy⟩, g2, cp2⟩]) (by omega) (by unfold maxLen; omega) (by omega) (by simp; omega) _ rfl ?_; intro g3 cp3 w5 hown hgrow hg3 _; refine Hid.out ?_)
              refine Lib.hid ?_
              have HGB5 : Hid (Below w.heap.size w w5) := (HGB4.out.alloc hsz _).grown hgrow (by simp; omega) fun j hj => by simp only [Value.ownBlock, Option.some.injEq] at hj; have := HGR4.out.le; omega
              have HR5 : Hid (RowEs w5 w.heap.size g3 cp3 (gs ++ [⟨⟨yk, yc, ys, yq, yv, yd, yy⟩, g2, cp2⟩])) := by
                refine HWA.out.more ⟨hg6, by simp; omega, hg5, HG.out.below HBA.out hg2⟩ (by rw [hgl]; exact hown) hgrow hg3
              have HT5 : Hid (RowOf w w5 ((xw.take (j + 1)).foldl addW out0) (.slice (some ⟨g3, 0, none⟩) (L + 1) cp3)) := by
                rw [HNZ.out]
                exact ⟨g3, cp3, _, by rw [List.length_append, HLN.out]; rfl, by rw [List.map_append, HGX.out]; rfl, HR5.out, HGB5.out⟩
              clear hown hgrow
              go_wp2
              exact ⟨⟨j + 1, _, by omega, by go_num, rfl, .inr trivial, HT5⟩, by simp [intOf]; omega⟩
        · obtain rfl : j = q := by omega
          have hd1 : decide (j < j) = false := by simp
          have HT4 : Hid (RowOf w wr ((es.take (k + 1)).foldl addE []) u) := by
            have h := HT.out
            rw [List.take_of_length_le (by rw [HQ.out]; exact Nat.le_refl _)] at h
            rw [HNX.out]
            unfold addE
            rcases hj0 with rfl | h0
            · have e0 : xw = [] := List.length_eq_zero_iff.1 HQ.out
              rw [e0] at h ⊢
              simp only [List.foldl_nil, ite_self]
              exact h
            · rw [if_neg (by rw [h0]; simp)]
              exact h
          go_wp2
          exact ⟨⟨k + 1, u, by omega, by go_num, rfl, HT4⟩, by simp [intOf]; omega⟩
    · have hkk : k = n := by omega
      subst hkk
      have HF : Hid (RowOf w wr (writtenL es) v) := by
        have h := HT.out
        rw [List.take_of_length_le (by rw [HN.out]; exact Nat.le_refl _)] at h
        exact h
      go_wp2
      go_ret
      exact ⟨_, rfl, HF.out⟩

end Go.Proofs.Ythoeimjngjgeaaa

/- Causes, the specification's side: what spec.CausesOf holds while it walks. -/
namespace Go.Proofs.Ythoeimjngjgeaaa
open Go.ChangeShapes Go.WideShapes Go.ChangeAt Go.RowKit Go.Joins

/-- The block of a write that is turned. -/
def XBox (w : World) (kx : Nat) (y : Wr) (ya : Option Addr) (yp : Nat) : Prop := w.heap[kx]? = some (.cells #[.int .i64 y.k, .int .i64 y.c, .int .i64 y.s, .int .i64 y.q, .int .i64 y.v, .bool y.de, .slice ya y.xs.length yp] 37 (0, 0))

/-- What is told lies in a row of its own; the write that is asked lies in block kx; its dependencies are those that came in or those of one that is told. -/
structure SpW (w w1 wr : World) (kx : Nat) (ad : Option Addr) (ds : List Dp) (y : Wr) (ya : Option Addr) (yp : Nat) (out : List Wr) (g cp : Nat) (gs : List En) : Prop where
  xs : gs.map (·.x) = out
  row : RowEs wr w1.heap.size g cp gs
  below : Below w1.heap.size w1 wr
  box : XBox wr kx y ya yp
  n1 : g ≠ kx
  n2 : ∀ e ∈ gs, e.g ≠ kx
  kge : w1.heap.size ≤ kx
  src : (ya = ad ∧ y.xs = ds) ∨ ∃ e ∈ gs, ya = some ⟨e.g, 0, none⟩ ∧ y.xs = e.x.xs

theorem SpW.lt {w w1 wr : World} {kx : Nat} {ad : Option Addr} {ds : List Dp} {y : Wr} {ya : Option Addr} {yp : Nat} {out : List Wr} {g cp : Nat} {gs : List En} (h : SpW w w1 wr kx ad ds y ya yp out g cp gs) : kx < wr.heap.size := (Array.getElem?_eq_some_iff.1 h.box).1

theorem SpW.more {w w1 wr w' : World} {kx : Nat} {ad : Option Addr} {ds : List Dp} {y : Wr} {ya : Option Addr} {yp : Nat} {out : List Wr} {g cp : Nat} {gs : List En} (h : SpW w w1 wr kx ad ds y ya yp out g cp gs) (hb : Below wr.heap.size wr w') : SpW w w1 w' kx ad ds y ya yp out g cp gs :=
  ⟨h.xs, h.row.below hb, below_step h.below h.below.size hb, (hb.block kx h.lt).trans h.box, h.n1, h.n2, h.kge, h.src⟩

/-- Where the dependencies lie that are asked. -/
theorem SpW.deps {w w1 wr : World} {kx : Nat} {ad : Option Addr} {ds : List Dp} {y : Wr} {ya : Option Addr} {yp : Nat} {out : List Wr} {g cp : Nat} {gs : List En} (h : SpW w w1 wr kx ad ds y ya yp out g cp gs) (hw : Below w.heap.size w w1) (hd : IsDeps w ad ds) : IsDeps wr ya y.xs := by
  rcases h.src with ⟨h1, h2⟩ | ⟨e, he, h1, h2⟩
  · rw [h1, h2]
    exact hd.below (below_step hw hw.size h.below)
  · obtain ⟨d1, d2, d3, d4⟩ := h.row.deps e he
    rw [h1, h2]
    exact .inr ⟨e.g, 0, rfl, d2, d4⟩

/-- One more is told. -/
theorem SpW.told {w w1 w4 w5 : World} {kx : Nat} {ad : Option Addr} {ds : List Dp} {y : Wr} {ya : Option Addr} {yp : Nat} {out : List Wr} {g cp g5 cap5 : Nat} {gs : List En} {e : En} (h : SpW w w1 w4 kx ad ds y ya yp out g cp gs) (he : w1.heap.size ≤ e.g ∧ e.g < w4.heap.size ∧ e.g ≠ g ∧ HoldsDeps w4 e.g 0 e.x.xs) (hk : e.g ≠ kx)
    (hown : w5.ownsRow w1.heap.size 37 7 (.slice (some ⟨g5, 0, none⟩) (gs.length + 1) cap5) (gs.length + 1) (gs.flatMap wrVals ++ wrVals e)) (hgrow : w4.grownBy w5 (some g)) (hg : some g = some g5 ∨ g5 = w4.heap.size) : SpW w w1 w5 kx ad ds y ya yp (out ++ [e.x]) g5 cap5 (gs ++ [e]) := by
  have hlt := h.lt
  refine ⟨by rw [List.map_append, h.xs]; rfl, h.row.more he hown hgrow hg, ?_, (hgrow.block kx hlt fun e => h.n1 (by injection e with e; exact e.symm)).trans h.box, fun e5 => ?_, fun d hd => ?_, h.kge, ?_⟩
  · exact h.below.grown hgrow h.below.size fun j hj => by
      have e1 : g = j := by injection hj
      have := h.row.le
      omega
  · rcases hg with hg | hg
    · injection hg with hg
      exact h.n1 (hg.trans e5)
    · omega
  · rcases List.mem_append.1 hd with hd | hd
    · exact h.n2 d hd
    · have e1 : d = e := by simpa using hd
      rw [e1]
      exact hk
  · rcases h.src with h1 | ⟨d, hd, h1⟩
    · exact .inl h1
    · exact .inr ⟨d, by simp [hd], h1⟩

/-- The next one that is told is asked: only block kx has turned. -/
theorem SpW.ask {w w1 w4 w5 : World} {kx : Nat} {ad : Option Addr} {ds : List Dp} {y : Wr} {ya : Option Addr} {yp : Nat} {out : List Wr} {g cp : Nat} {gs : List En} {e : En} (h : SpW w w1 w4 kx ad ds y ya yp out g cp gs) (he : e ∈ gs) (hb : XBox w5 kx e.x (some ⟨e.g, 0, none⟩) e.cp) (ht : w4.grownBy w5 (some kx)) : SpW w w1 w5 kx ad ds e.x (some ⟨e.g, 0, none⟩) e.cp out g cp gs := by
  have hk : ∀ k, k < w4.heap.size → k ≠ kx → w5.heap[k]? = w4.heap[k]? := fun k h1 h2 => ht.block k h1 fun e => h2 (by injection e)
  refine ⟨h.xs, ⟨h.row.le, Nat.lt_of_lt_of_le h.row.lt ht.size, ?_, fun d hd => ?_⟩, ?_, hb, h.n1, h.n2, h.kge, .inr ⟨e, he, rfl, rfl⟩⟩
  · exact ownsRow_but h.row.own (But.grown ht) fun x hx => by
      have e1 : g = x := by simpa [Value.ownBlock] using hx
      rw [← e1]
      exact h.n1
  · obtain ⟨d1, d2, d3, d4⟩ := h.row.deps d hd
    refine ⟨d1, Nat.lt_of_lt_of_le d2 ht.size, d3, fun i hi => ?_⟩
    have e' : ∀ o, w5.cell? ⟨d.g, o, none⟩ = w4.cell? ⟨d.g, o, none⟩ := fun o => World.cell?_of_block (a := ⟨d.g, o, none⟩) (hk d.g d2 (h.n2 d hd))
    obtain ⟨a0, a1, a2, a3⟩ := d4 i hi
    exact ⟨(e' _).trans a0, (e' _).trans a1, (e' _).trans a2, (e' _).trans a3⟩
  · exact h.below.grown ht h.below.size fun j hj => by
      have e1 : kx = j := by injection hj
      have := h.kge
      omega

end Go.Proofs.Ythoeimjngjgeaaa

/- Causes, the specification's side: the contract of spec.CausesOf. -/
namespace Go.Proofs.Ythoeimjngjgeaaa
open Go.ChangeShapes Go.WideShapes Go.ChangeAt Go.RowKit Go.Joins
attribute [local go_sem ↓] Go.wp_at_zero Go.wp_at_succ

/-- At place d of round c, in memory. -/
def SpQ (w w1 wr : World) (kx : Nat) (ad : Option Addr) (ds : List Dp) (all : List Wr) (y : Wr) (ya : Option Addr) (yp : Nat) (c d : Nat) (v : Value) : Prop := ∃ out g cp gs, v = .slice (some ⟨g, 0, none⟩) out.length cp ∧ SpW w w1 wr kx ad ds y ya yp out g cp gs ∧ SpC all ds c d out ∧ y.xs = chunkC ds out c

/-- Midway. -/
def SpI (w w1 wr : World) (kx : Nat) (ad : Option Addr) (ds : List Dp) (y : Wr) (ya : Option Addr) (yp : Nat) (out : List Wr) (v : Value) : Prop := ∃ g cp gs, v = .slice (some ⟨g, 0, none⟩) out.length cp ∧ SpW w w1 wr kx ad ds y ya yp out g cp gs

theorem cauW_no {d : Dp} {out : List Wr} {y : Wr} (h : matchD d y = false) : cauW d out y = out := if_neg (by rw [h]; simp)

theorem cauW_has {d : Dp} {out : List Wr} {y : Wr} (h : hasW out y = true) : cauW d out y = out := if_neg (by rw [h]; simp)

theorem cauW_yes {d : Dp} {out : List Wr} {y : Wr} (h : matchD d y = true) (hn : hasW out y = false) : cauW d out y = out ++ [y] := if_pos (by rw [h, hn]; rfl)

theorem rowEs_at {w : World} {base g cap : Nat} {es : List En} (h : RowEs w base g cap es) {k : Nat} (hk : k < es.length) : WrAt w g (k * 7) (es.getD k ez).x (some ⟨(es.getD k ez).g, 0, none⟩) (es.getD k ez).cp := by
  have c : ∀ c, c < 7 → w.cell? ⟨g, k * 7 + c, none⟩ = (wrVals (es.getD k ez))[c]? := fun c hc => by rw [h.own.cellAt _ (by omega), vals_at es k c hk hc]
  exact ⟨c 0 (by omega), c 1 (by omega), c 2 (by omega), c 3 (by omega), c 4 (by omega), c 5 (by omega), c 6 (by omega)⟩

theorem xbox_frozen {w : World} {kx : Nat} {y : Wr} {ya : Option Addr} {yp : Nat} (h : XBox w kx y ya yp) (o : Nat) : w.frozen? ⟨kx, o, none⟩ = false := by
  unfold XBox at h
  simp [World.frozen?, h]

/-- The write in the block turned. -/
def setX (W : World) (T : Nat) (k c s q v : Int) (de : Bool) (x : Option Addr) (l p : Nat) : World :=
  ((((((W.setCell ⟨T, 0, none⟩ (.int .i64 k)).setCell ⟨T, 1, none⟩ (.int .i64 c)).setCell ⟨T, 2, none⟩ (.int .i64 s)).setCell ⟨T, 3, none⟩ (.int .i64 q)).setCell ⟨T, 4, none⟩ (.int .i64 v)).setCell ⟨T, 5, none⟩ (.bool de)).setCell ⟨T, 6, none⟩ (.slice x l p)

theorem setX_grown (W : World) (T : Nat) (k c s q v : Int) (de : Bool) (x : Option Addr) (l p : Nat) : W.grownBy (setX W T k c s q v de x l p) (some T) :=
  grown_trans (grown_trans (grown_trans (grown_trans (grown_trans (grown_trans (grown_set _ _ _ _) (grown_set _ _ _ _)) (grown_set _ _ _ _)) (grown_set _ _ _ _)) (grown_set _ _ _ _)) (grown_set _ _ _ _)) (grown_set _ _ _ _)

theorem setX_box {W : World} {T : Nat} {y : Wr} {ya : Option Addr} {yp : Nat} (h : XBox W T y ya yp) (z : Wr) (za : Option Addr) (zp : Nat) : XBox (setX W T z.k z.c z.s z.q z.v z.de za z.xs.length zp) T z za zp := by
  unfold XBox at h ⊢
  have hlt : T < W.heap.size := (Array.getElem?_eq_some_iff.1 h).1
  simp [setX, World.setCell, Array.getElem?_modify, h]

set_option maxRecDepth 100000 in
set_option maxHeartbeats 8000000 in
theorem specCauses_any (a : Option Addr) (n cap : Nat) (es : List Ev) (x : Wr) (ad : Option Addr) (cp : Nat) (w : World) (hn : es.length = n) (hm : n ≤ 1048576) (hx : FewE es) (hh : heftB (evW es) ≤ 1048576) (hi : IsEs w a es) (hxl : x.xs.length ≤ 1048576) (hxd : IsDeps w ad x.xs) (hnd : (writtenL es).Nodup) :
    Calls Try.prog 7 #[.slice a n cap, wrOf x ad cp] w fun e w' => ∃ v, e = .returned v ∧ RowOf w w' (causesL (writtenL es) x.xs) v := by
  have HXD := Lib.hid hxd
  have HND := Lib.hid hnd
  have HWG : Hid (wgt (writtenL es) ≤ 1048576) := Nat.le_trans (written_wgt es) hh
  obtain ⟨i0, hi0, hx0⟩ := Option.map_eq_some_iff.1 infoWr
  simp only [Prod.mk.injEq] at hx0
  have HI0 := Lib.hid hi0
  have HX0 := Lib.hid hx0
  clear hi0 hx0
  obtain ⟨xk, xc, xs', xq, xv, xd, xx⟩ := x
  unfold wrOf
  simp only at hxl HXD ⊢
  have HBA : Hid (Below w.heap.size w (w.alloc (.cells #[.int .i64 xk, .int .i64 xc, .int .i64 xs', .int .i64 xq, .int .i64 xv, .bool xd, .slice ad xx.length cp] 37))) := (Below.refl _ _).alloc (Nat.le_refl _) _
  have HBX : Hid ((w.alloc (.cells #[.int .i64 xk, .int .i64 xc, .int .i64 xs', .int .i64 xq, .int .i64 xv, .bool xd, .slice ad xx.length cp] 37)).heap[w.heap.size]? = some (.cells #[.int .i64 xk, .int .i64 xc, .int .i64 xs', .int .i64 xq, .int .i64 xv, .bool xd, .slice ad xx.length cp] 37 (0, 0))) := heap_alloc_new _ _
  have HSZ : Hid (w.heap.size < (w.alloc (.cells #[.int .i64 xk, .int .i64 xc, .int .i64 xs', .int .i64 xq, .int .i64 xv, .bool xd, .slice ad xx.length cp] 37)).heap.size) := by show _ < _; simp
  have HSW := Lib.hid (specWritten_any a n cap es (w.alloc (.cells #[.int .i64 xk, .int .i64 xc, .int .i64 xs', .int .i64 xq, .int .i64 xv, .bool xd, .slice ad xx.length cp] 37)) hn hm hx hh (hi.below HBA.out))
  clear hxd hnd hn hx hh hi
  obtain ⟨all, hall⟩ : ∃ all, writtenL es = all := ⟨_, rfl⟩
  rw [hall] at HSW HND HWG ⊢
  clear hall
  go_enter Try.func7, Try.ntmps7
  go_wp2_with fail
  refine HSW.out.mono ?_
  rintro e w1 ⟨v5, rfl, hro⟩
  have HB1 : Hid (Below w.heap.size w w1) := below_step HBA.out HBA.out.size hro.below
  have q1 := (hro.below.block _ HSZ.out).trans HBX.out
  have c0 := cell_of_row w1 w.heap.size 0 _ _ _ q1
  have c1 := cell_of_row w1 w.heap.size 1 _ _ _ q1
  have c2 := cell_of_row w1 w.heap.size 2 _ _ _ q1
  have c3 := cell_of_row w1 w.heap.size 3 _ _ _ q1
  have c4 := cell_of_row w1 w.heap.size 4 _ _ _ q1
  have c5 := cell_of_row w1 w.heap.size 5 _ _ _ q1
  have c6 := cell_of_row w1 w.heap.size 6 _ _ _ q1
  simp at c0 c1 c2 c3 c4 c5 c6
  have hz1 : w.heap.size < w1.heap.size := Nat.lt_of_lt_of_le HSZ.out hro.below.size
  have HFW : Hid (Few all) := few_wgt HWG.out
  obtain ⟨ga, ca, gas, rfl, hga, hgr, -⟩ := hro
  have HAW := Lib.hid (hgr.isWs hga HFW.out)
  clear hga hgr q1 HSW HBX HSZ HBA
  obtain ⟨N, hN⟩ : ∃ N, all.length = N := ⟨_, rfl⟩
  have HN := Lib.hid hN
  have hNl : N ≤ 1048576 := by
    have h := HWG.out
    unfold wgt at h
    omega
  rw [hN]
  clear hN
  have HT0 : Hid (SpQ w w1 ((w1.alloc (.cells #[] 37)).alloc (.cells #[.int .i64 xk, .int .i64 xc, .int .i64 xs', .int .i64 xq, .int .i64 xv, .bool xd, .slice ad xx.length cp] 37)) (w1.heap.size + 1) ad xx all ⟨xk, xc, xs', xq, xv, xd, xx⟩ ad cp 0 0 (.slice (some ⟨w1.heap.size, 0, none⟩) 0 0)) := by
    refine ⟨[], _, _, [], rfl, ⟨rfl, (rowEs_start w1 w1.heap.size (Nat.le_refl _)).below ((Below.refl _ _).alloc (Nat.le_refl _) _), ((Below.refl _ _).alloc (Nat.le_refl _) _).alloc (by simp) _, heap_alloc2_new _ _ _, by omega, (fun e he => by cases he), by omega, .inl ⟨rfl, rfl⟩⟩, spC_start _ _, rfl⟩
  go_wp2
  generalize (w1.alloc (.cells #[] 37)).alloc (.cells #[.int .i64 xk, .int .i64 xc, .int .i64 xs', .int .i64 xq, .int .i64 xv, .bool xd, .slice ad xx.length cp] 37) = W2 at *
  clear c0 c1 c2 c3 c4 c5 c6
  go_loopw [6, 8] (fun t6 t8 wr => ∃ (c : Nat) (v : Value), v = t6 ∧ t8 = .int .i64 c ∧ c ≤ 1048576 ∧ Hid (∃ y ya yp, SpQ w w1 wr (w1.heap.size + 1) ad xx all y ya yp c 0 v)) (fun _ i _ => 1048577 - (intOf i).toNat)
  case atStart => exact ⟨0, _, rfl, rfl, Nat.zero_le _, ⟨_, _, _, HT0.out⟩⟩
  case round =>
    clear HT0
    obtain ⟨c, v, rfl, rfl, hc, HT⟩ := hrel
    obtain ⟨y, ya, yp, hq⟩ := HT.out
    have HQ := Lib.hid hq
    clear hq HT
    obtain ⟨ql, hql⟩ : ∃ ql, y.xs.length = ql := ⟨_, rfl⟩
    have HQL := Lib.hid hql
    have hqb : ql ≤ 1048576 := by
      obtain ⟨out, g, cp', gs, h1, h2, h3, h4⟩ := HQ.out
      rw [← hql, h4]
      cases c with
      | zero => exact hxl
      | succ k =>
        have hk : k < out.length := h3.le
        have h5 := h3.wgt
        have h6 := HWG.out
        have h7 := bulk_one out k hk
        simp only [chunkC]
        unfold wgt at h5 h6
        omega
    have HCX : Hid (∀ W d u, SpQ w w1 W (w1.heap.size + 1) ad xx all y ya yp c d u → W.cell? ⟨w1.heap.size + 1, 6, none⟩ = some (.slice ya ql yp)) := fun W d u ⟨out, g, cp', gs, h1, h2, h3, h4⟩ => by
      rw [cell_of_row W _ 6 _ _ _ h2.box, ← HQL.out]
      rfl
    clear hql
    go_wp2
    go_loopw [6, 9] (fun t6 t9 wr => ∃ (d : Nat) (u : Value), u = t6 ∧ t9 = .int .i64 d ∧ d ≤ ql ∧ Hid (SpQ w w1 wr (w1.heap.size + 1) ad xx all y ya yp c d u)) (fun _ i _ => ql - (intOf i).toNat)
    case atStart => exact ⟨0, _, rfl, rfl, Nat.zero_le _, HQ⟩
    case round =>
      clear HQ
      obtain ⟨d, u, rfl, rfl, hd, HQ⟩ := hrel
      have c6 := HCX.out wr d u HQ.out
      by_cases hd' : d < ql
      · have hdl : d < y.xs.length := by rw [HQL.out]; exact hd'
        have i1 : (0 : Int) ≤ (d : Int) := by omega
        have i2 : (d : Int) < (ql : Int) := by omega
        obtain ⟨out, g, cp', gs, rfl, hspw, hspc, hch⟩ := HQ.out
        have HS := Lib.hid hspw
        have HC := Lib.hid hspc
        have HCH := Lib.hid hch
        have HST : Hid (SpI w w1 wr (w1.heap.size + 1) ad xx y ya yp ((all.take 0).foldl (cauW (y.xs.getD d dz)) out) (.slice (some ⟨g, 0, none⟩) out.length cp')) := ⟨g, cp', gs, rfl, hspw⟩
        have HMW : Hid (∀ i, wgt ((all.take i).foldl (cauW (y.xs.getD d dz)) out) ≤ 1048576) := fun i => by
          have h := HC.out.mid HND.out (by rw [← HCH.out]; exact hdl) i
          rw [← HCH.out] at h
          exact Nat.le_trans h HWG.out
        have HNX : Hid (∀ W v', SpI w w1 W (w1.heap.size + 1) ad xx y ya yp ((all.take N).foldl (cauW (y.xs.getD d dz)) out) v' → SpQ w w1 W (w1.heap.size + 1) ad xx all y ya yp c (d + 1) v') := fun W v' ⟨g', cp2, gs', h1, h2⟩ => by
          rw [List.take_of_length_le (by rw [HN.out]; exact Nat.le_refl _)] at h1 h2
          obtain ⟨n1, n2, -⟩ := HC.out.next HND.out (by rw [← HCH.out]; exact hdl)
          rw [← HCH.out] at n1 n2
          exact ⟨_, g', cp2, gs', h1, h2, n1, n2.symm⟩
        have HC6 : Hid (∀ W v' o, SpI w w1 W (w1.heap.size + 1) ad xx y ya yp o v' → W.cell? ⟨w1.heap.size + 1, 6, none⟩ = some (.slice ya ql yp)) := fun W v' o ⟨g', cp2, gs', h1, h2⟩ => by
          rw [cell_of_row W _ 6 _ _ _ h2.box, ← HQL.out]
          rfl
        clear hspw hspc hch HQ
        go_wp2
        go_loopw [6, 10] (fun t6 t10 wr => ∃ (i : Nat) (u : Value), u = t6 ∧ t10 = .int .i64 i ∧ i ≤ N ∧ Hid (SpI w w1 wr (w1.heap.size + 1) ad xx y ya yp ((all.take i).foldl (cauW (y.xs.getD d dz)) out) u)) (fun _ i _ => N - (intOf i).toNat)
        case atStart => exact ⟨0, _, rfl, rfl, Nat.zero_le _, HST⟩
        case round =>
          clear HST HS
          obtain ⟨i, u, rfl, rfl, hi, HT⟩ := hrel
          by_cases hi' : i < N
          · have hiw : i < all.length := by rw [HN.out]; exact hi'
            have i3 : (0 : Int) ≤ (i : Int) := by omega
            have i4 : (i : Int) < (N : Int) := by omega
            have HNI := Lib.hid (foldl_next (cauW (y.xs.getD d dz)) all out wz hiw)
            have hwg := HMW.out i
            have c6 := HC6.out wr _ _ HT.out
            generalize (all.take i).foldl (cauW (y.xs.getD d dz)) out = oi at *
            have hol : oi.length ≤ 1048576 := by unfold wgt at hwg; omega
            have HOF : Hid (Few oi) := few_wgt hwg
            obtain ⟨g, cp', gs, rfl, hspw⟩ := HT.out
            have HS := Lib.hid hspw
            have hkl := hspw.lt
            obtain ⟨bd, od, hya, hbd, hdd⟩ : ∃ bd od, ya = some ⟨bd, od, none⟩ ∧ bd < wr.heap.size ∧ HoldsDeps wr bd od y.xs := by
              rcases hspw.deps HB1.out HXD.out with h | ⟨bd, od, h1, h2, h3⟩
              · rw [h] at hdl
                simp at hdl
              · exact ⟨bd, od, h1, h2, h3⟩
            subst hya
            obtain ⟨d0, d1, d2, d3⟩ := hdd d hdl
            obtain ⟨bz, oz, az, cz, hza, hbz, ⟨e0, e1, e2, e3, e4, e5, e6⟩, hdz⟩ := HAW.out.at hspw.below HN.out hi'
            injection hza with hza
            injection hza with hz1 hz2
            subst hz1
            subst hz2
            rw [Nat.zero_add] at e0 e1 e2 e3 e4 e5 e6
            have HDZ := Lib.hid hdz
            have hzl : (all.getD i wz).xs.length ≤ 1048576 := HFW.out i hiw
            have hgl : gs.length = oi.length := by
              have h := congrArg List.length HS.out.xs
              rwa [List.length_map] at h
            have HGW : Hid (IsWs wr (some ⟨g, 0, none⟩) oi) := hspw.row.isWs hspw.xs HOF.out
            clear hspw HT hdd hdz hwg
            generalize y.xs.getD d dz = dd at *
            generalize all.getD i wz = z at *
            obtain ⟨dk, dc, dsn, dq⟩ := dd
            obtain ⟨zk, zc, zs, zq, zv, zd, zz⟩ := z
            simp only at d0 d1 d2 d3 e0 e1 e2 e3 e4 e5 e6 hzl HDZ
            obtain ⟨L, hL⟩ : ∃ L, oi.length = L := ⟨_, rfl⟩
            have HLN := Lib.hid hL
            rw [hL] at hol hgl ⊢
            clear hL
            obtain ⟨hb, hhb⟩ : ∃ hb, hasW oi ⟨zk, zc, zs, zq, zv, zd, zz⟩ = hb := ⟨_, rfl⟩
            have HHB := Lib.hid hhb
            clear hhb
            have HHP : Hid (∀ p : Aft wr.heap.size wr, Calls Try.prog 23 #[.slice (some ⟨g, 0, none⟩) L cp', wrV zk zc zs zq zv zd az zz.length cz] p.now fun e w' => e = .returned (.bool hb) ∧ Below p.now.heap.size p.now w') := fun p => by
              rw [← HHB.out]
              exact specHas_any _ L _ oi ⟨zk, zc, zs, zq, zv, zd, zz⟩ az cz _ HLN.out hol HOF.out hzl (HGW.out.below p.below) (HDZ.out.below p.below)
            go_wp2_with fail
            have g0 := aft_cell hbz e0
            have g1 := aft_cell hbz e1
            have g2 := aft_cell hbz e2
            have g3 := aft_cell hbz e3
            have g4 := aft_cell hbz e4
            have g5 := aft_cell hbz e5
            have g6 := aft_cell hbz e6
            have k0 := aft_cell hbd d0
            have k1 := aft_cell hbd d1
            have k2 := aft_cell hbd d2
            have k3 := aft_cell hbd d3
            have k6 := aft_cell hkl c6
            have ne := aft_some wr
            by_cases hkk : zk = dk
            · subst hkk
              have HNF : Hid ((zc ≠ dc ∨ zs ≠ dsn ∨ zq ≠ dq) → (all.take (i + 1)).foldl (cauW ⟨zk, dc, dsn, dq⟩) out = oi) := fun h => HNI.out.trans (cauW_no (by
                cases hm : matchD ⟨zk, dc, dsn, dq⟩ ⟨zk, zc, zs, zq, zv, zd, zz⟩ with
                | false => rfl
                | true =>
                  have e := (matchD_iff _ _).1 hm
                  unfold dpOf at e
                  injection e with q1 q2 q3 q4
                  simp only at q2 q3 q4
                  omega))
              have hcase : (zc = dc ∧ zs = dsn ∧ zq = dq) ∨ zc ≠ dc ∨ (zc = dc ∧ zs ≠ dsn) ∨ (zc = dc ∧ zs = dsn ∧ zq ≠ dq) := by omega
              rcases hcase with ⟨h1, h2, h3⟩ | h1 | ⟨h1, h2⟩ | ⟨h1, h2, h3⟩
              · clear HNF
                subst h1
                subst h2
                subst h3
                have HMT : Hid (matchD ⟨zk, zc, zs, zq⟩ ⟨zk, zc, zs, zq, zv, zd, zz⟩ = true) := by
                  show _ = _
                  unfold matchD
                  simp
                cases hb with
                | true =>
                  have HNM : Hid ((all.take (i + 1)).foldl (cauW ⟨zk, zc, zs, zq⟩) out = oi) := HNI.out.trans (cauW_has HHB.out)
                  refine wp_region_aft (by kernel_rfl) (by kernel_rfl) ?_
                  repeat (first | go_big_quiet_step (first | (go_at_call 23; exact aft_of (HHP.out _))))
                  refine wpQuiet_nil ?_
                  intro wq hq
                  have HT3 : Hid (SpI w w1 wq (w1.heap.size + 1) ad xx y (some ⟨bd, od, none⟩) yp ((all.take (i + 1)).foldl (cauW ⟨zk, zc, zs, zq⟩) out) (.slice (some ⟨g, 0, none⟩) L cp')) := by
                    rw [HNM.out]
                    exact ⟨g, cp', gs, by rw [HLN.out], HS.out.more hq⟩
                  clear hq g0 g1 g2 g3 g4 g5 g6 k0 k1 k2 k3 k6 ne HHP
                  go_wp2
                  exact ⟨⟨i + 1, _, rfl, by go_num, by omega, HT3⟩, by simp [intOf]; omega⟩
                | false =>
                  have HNM : Hid ((all.take (i + 1)).foldl (cauW ⟨zk, zc, zs, zq⟩) out = oi ++ [⟨zk, zc, zs, zq, zv, zd, zz⟩]) := HNI.out.trans (cauW_yes HMT.out HHB.out)
                  refine wp_region_aft (by kernel_rfl) (by kernel_rfl) ?_
                  repeat (first | go_big_quiet_step (first | (go_at_call 23; exact aft_of (HHP.out _))))
                  refine wpQuiet_nil ?_
                  intro w3 hb3
                  replace e0 := (hb3.cell (p := ⟨ga, i * 7, none⟩) hbz).trans e0
                  replace e1 := (hb3.cell (p := ⟨ga, i * 7 + 1, none⟩) hbz).trans e1
                  replace e2 := (hb3.cell (p := ⟨ga, i * 7 + 2, none⟩) hbz).trans e2
                  replace e3 := (hb3.cell (p := ⟨ga, i * 7 + 3, none⟩) hbz).trans e3
                  replace e4 := (hb3.cell (p := ⟨ga, i * 7 + 4, none⟩) hbz).trans e4
                  replace e5 := (hb3.cell (p := ⟨ga, i * 7 + 5, none⟩) hbz).trans e5
                  replace e6 := (hb3.cell (p := ⟨ga, i * 7 + 6, none⟩) hbz).trans e6
                  have HS3 := Lib.hid (HS.out.more hb3)
                  have HD3 := Lib.hid (HDZ.out.below hb3)
                  have hkl3 := HS3.out.lt
                  clear hb3 g0 g1 g2 g3 g4 g5 g6 k0 k1 k2 k3 k6 ne HHP HS HDZ HGW d0 d1 d2 d3 c6
                  go_wp2_with fail
                  refine (copy_any ⟨zk, zc, zs, zq, zv, zd, zz⟩ az cz _ hzl HD3.out).mono ?_
                  rintro e w4 ⟨g2, cp2, rfl, hg1, hg2, hg3, hb4⟩
                  have HS4 := Lib.hid (HS3.out.more hb4)
                  have HG : Hid (HoldsDeps w4 g2 0 zz) := hg3
                  have hg5 : g2 ≠ g := by have := HS3.out.row.lt; omega
                  have hg7 : g2 ≠ w1.heap.size + 1 := by omega
                  have hg6 : w1.heap.size ≤ g2 := Nat.le_trans HS3.out.below.size hg1
                  clear hb4 hg3 hg1 HD3 HS3 e0 e1 e2 e3 e4 e5 e6
                  have HBA : Hid (Below w4.heap.size w4 (w4.alloc (.cells #[.int .i64 zk, .int .i64 zc, .int .i64 zs, .int .i64 zq, .int .i64 zv, .bool zd, .slice (some ⟨g2, 0, none⟩) zz.length cp2] 37))) := (Below.refl _ _).alloc (Nat.le_refl _) _
                  have HSA := Lib.hid (HS4.out.more HBA.out)
                  have HOW : Hid ((w4.alloc (.cells #[.int .i64 zk, .int .i64 zc, .int .i64 zs, .int .i64 zq, .int .i64 zv, .bool zd, .slice (some ⟨g2, 0, none⟩) zz.length cp2] 37)).ownsRow w1.heap.size 37 7 (.slice (some ⟨g, 0, none⟩) L cp') L (gs.flatMap wrVals)) := by
                    have := HSA.out.row.own
                    rw [hgl] at this
                    exact this
                  have hsz : w1.heap.size ≤ w4.heap.size := HS4.out.below.size
                  go_wp2_with (at_builtin; refine wpList_append_lies _ (by rfl) _ _ _ (by rfl) w1.heap.size 37 i0 (wrV 0 0 0 0 0 false none 0 0) 7 72 Try.underlying30 HI0.out HX0.out.1 HX0.out.2.1 HX0.out.2.2 (by rfl) (by omega) (.slice (some ⟨g, 0, none⟩) L cp') L (gs.flatMap wrVals) (by rfl) HOW.out ⟨w4.heap.size, 0, none⟩ 1 1 (wrVals ⟨⟨zk, zc, zs, zq, zv, zd, zz⟩, g2, cp2⟩) (by rfl) (by rfl) (one_cells w4 _ ⟨⟨zk, zc, zs, zq, zv, zd, zz⟩, g2, cp2⟩) (by simpa using vals_one [⟨⟨zk, zc, zs, zq, zv, zd, zz⟩, g2, cp2⟩]) (by omega) (by unfold maxLen; omega) (by omega) (by simp; omega) _ rfl ?_; intro g3 cp3 w5 hown hgrow hg3 _; refine Hid.out ?_)
                  refine Lib.hid ?_
                  have HT5 : Hid (SpI w w1 w5 (w1.heap.size + 1) ad xx y (some ⟨bd, od, none⟩) yp ((all.take (i + 1)).foldl (cauW ⟨zk, zc, zs, zq⟩) out) (.slice (some ⟨g3, 0, none⟩) (L + 1) cp3)) := by
                    rw [HNM.out]
                    exact ⟨g3, cp3, _, by rw [List.length_append, HLN.out]; rfl, HSA.out.told (e := ⟨⟨zk, zc, zs, zq, zv, zd, zz⟩, g2, cp2⟩) ⟨hg6, by simp; omega, hg5, HG.out.below HBA.out hg2⟩ hg7 (by rw [hgl]; exact hown) hgrow hg3⟩
                  clear hown hgrow
                  go_wp2
                  exact ⟨⟨i + 1, _, rfl, by go_num, by omega, HT5⟩, by simp [intOf]; omega⟩
              all_goals
                have HNM := Lib.hid (HNF.out (by omega))
                clear HNF
                refine wp_region_aft (by kernel_rfl) (by kernel_rfl) ?_
                repeat (first | go_big_quiet_step (fail))
                refine wpQuiet_nil ?_
                intro wq hq
                have HT3 : Hid (SpI w w1 wq (w1.heap.size + 1) ad xx y (some ⟨bd, od, none⟩) yp ((all.take (i + 1)).foldl (cauW ⟨zk, dc, dsn, dq⟩) out) (.slice (some ⟨g, 0, none⟩) L cp')) := by
                  rw [HNM.out]
                  exact ⟨g, cp', gs, by rw [HLN.out], HS.out.more hq⟩
                clear hq g0 g1 g2 g3 g4 g5 g6 k0 k1 k2 k3 k6 ne
                go_wp2
                exact ⟨⟨i + 1, _, rfl, by go_num, by omega, HT3⟩, by simp [intOf]; omega⟩
            · have hd2 : (zk == dk) = false := by simpa using hkk
              have HT2 : Hid (SpI w w1 wr (w1.heap.size + 1) ad xx y (some ⟨bd, od, none⟩) yp oi (.slice (some ⟨g, 0, none⟩) L cp')) := ⟨g, cp', gs, by rw [HLN.out], HS.out⟩
              have HNM : Hid ((all.take (i + 1)).foldl (cauW ⟨dk, dc, dsn, dq⟩) out = oi) := HNI.out.trans (cauW_no (by unfold matchD; simp [hkk]))
              refine wp_region_aft (by kernel_rfl) (by kernel_rfl) ?_
              repeat (first | go_big_quiet_step (fail))
              refine wpQuiet_nil ?_
              intro wq hq
              have HT3 : Hid (SpI w w1 wq (w1.heap.size + 1) ad xx y (some ⟨bd, od, none⟩) yp ((all.take (i + 1)).foldl (cauW ⟨dk, dc, dsn, dq⟩) out) (.slice (some ⟨g, 0, none⟩) L cp')) := by
                rw [HNM.out]
                exact ⟨g, cp', gs, by rw [HLN.out], HS.out.more hq⟩
              clear hq g0 g1 g2 g3 g4 g5 g6 k0 k1 k2 k3 k6 ne HT2
              go_wp2
              exact ⟨⟨i + 1, _, rfl, by go_num, by omega, HT3⟩, by simp [intOf]; omega⟩
          · obtain rfl : i = N := by omega
            have HQ2 := Lib.hid (HNX.out _ _ HT.out)
            go_wp2
            exact ⟨⟨d + 1, _, rfl, by go_num, by omega, HQ2⟩, by simp [intOf]; omega⟩
      · obtain rfl : d = ql := by omega
        obtain ⟨out, g, cp', gs, rfl, hspw, hspc, hch⟩ := HQ.out
        have HS := Lib.hid hspw
        have hdc : d = (chunkC xx out c).length := by rw [← hch, HQL.out]
        rw [hdc] at hspc
        have HC := Lib.hid hspc
        have hon : out.length ≤ 1048576 := by
          have h1 := hspc.wgt
          have h2 := HWG.out
          unfold wgt at h1 h2
          omega
        clear hspw hspc hch HQ hdc
        obtain ⟨L, hL⟩ : ∃ L, out.length = L := ⟨_, rfl⟩
        have HL := Lib.hid hL
        rw [hL] at hon ⊢
        by_cases hcl : L ≤ c
        · have hge : decide ((L : Int) ≤ (c : Int)) = true := by simpa using hcl
          have HEND : Hid (RowOf w wr (causesL all xx) (.slice (some ⟨g, 0, none⟩) L cp')) := by
            have h1 := HC.out.done (by rw [HL.out]; exact hcl)
            rw [← h1]
            exact ⟨g, cp', gs, by rw [HL.out], HS.out.xs, HS.out.row.mono HB1.out.size, below_step HB1.out HB1.out.size HS.out.below⟩
          clear hL
          go_wp2
          go_ret
          exact ⟨_, rfl, HEND.out⟩
        · have hge : decide ((L : Int) ≤ (c : Int)) = false := by simpa using hcl
          have hcl' : c < L := by omega
          have hgl : gs.length = L := by
            have h := congrArg List.length HS.out.xs
            rw [List.length_map, HL.out] at h
            exact h
          obtain ⟨e0, e1, e2, e3, e4, e5, e6⟩ := rowEs_at HS.out.row (k := c) (by omega)
          have HMEM : Hid (gs.getD c ez ∈ gs) := by
            have h : c < gs.length := by omega
            simp [List.getD, h, Hid]
          have HXE : Hid ((gs.getD c ez).x = out.getD c wz) := by
            have h : c < gs.length := by omega
            show _ = _
            rw [← HS.out.xs]
            simp [List.getD, h]
          have HC2 := Lib.hid (HC.out.round (by rw [HL.out]; exact hcl'))
          have HNW : Hid (∀ z : En, z = gs.getD c ez → SpQ w w1 (setX wr (w1.heap.size + 1) z.x.k z.x.c z.x.s z.x.q z.x.v z.x.de (some ⟨z.g, 0, none⟩) z.x.xs.length z.cp) (w1.heap.size + 1) ad xx all z.x (some ⟨z.g, 0, none⟩) z.cp (c + 1) 0 (.slice (some ⟨g, 0, none⟩) L cp')) := fun z hz => by
            refine ⟨out, g, cp', gs, by rw [HL.out], HS.out.ask (by rw [hz]; exact HMEM.out) (setX_box HS.out.box z.x _ _) (setX_grown _ _ _ _ _ _ _ _ _ _ _), HC2.out, ?_⟩
            rw [hz, HXE.out]
            rfl
          have fz := xbox_frozen HS.out.box
          have hbx := HS.out.box
          have x0 := cell_of_row wr (w1.heap.size + 1) 0 _ _ _ hbx
          have x1 := cell_of_row wr (w1.heap.size + 1) 1 _ _ _ hbx
          have x2 := cell_of_row wr (w1.heap.size + 1) 2 _ _ _ hbx
          have x3 := cell_of_row wr (w1.heap.size + 1) 3 _ _ _ hbx
          have x4 := cell_of_row wr (w1.heap.size + 1) 4 _ _ _ hbx
          have x5 := cell_of_row wr (w1.heap.size + 1) 5 _ _ _ hbx
          have x6 := cell_of_row wr (w1.heap.size + 1) 6 _ _ _ hbx
          simp at x0 x1 x2 x3 x4 x5 x6
          have hNL : L ≤ N + 1048576 := by omega
          have i3 : (0 : Int) ≤ (c : Int) := by omega
          have i4 : (c : Int) < (L : Int) := by omega
          clear hL hbx hgl HXE HMEM HC2
          generalize gs.getD c ez = z at *
          obtain ⟨⟨zk, zc, zs, zq, zv, zd, zz⟩, zg, zp⟩ := z
          have HNZ := Lib.hid (HNW.out _ rfl)
          simp only at e0 e1 e2 e3 e4 e5 e6 HNZ
          clear HNW
          go_wp2
          exact ⟨⟨c + 1, _, rfl, by go_num, by omega, ⟨_, _, _, HNZ.out⟩⟩, by simp [intOf]; omega⟩

end Go.Proofs.Ythoeimjngjgeaaa

/- The laws' copies of batches: the contracts of toBatch and toBatchS. -/
namespace Go.Proofs.Ythoeimjngjgeaaa
open Go.ChangeShapes Go.WideShapes Go.ChangeAt Go.RowKit Go.Joins
attribute [local go_sem ↓] Go.wp_at_zero Go.wp_at_succ

set_option maxRecDepth 100000 in
theorem OwnG.lower {w : World} {base base' b : Nat} {ws : List Wr} {γ : Nat → Nat} (h : OwnG w base b ws γ) (hb : base' ≤ base) : OwnG w base' b ws γ where
  lt := h.lt
  le := Nat.le_trans hb h.le
  open_ := h.open_
  at_ := h.at_
  deps := fun i hi hp => ⟨Nat.le_trans hb (h.deps i hi hp).1, (h.deps i hi hp).2⟩
  inj := h.inj

set_option maxRecDepth 100000 in
theorem OwnA.wider {w : World} {lo lo' hi hi' : Nat} {a : Option Addr} {ws : List Wr} {γ : Nat → Nat} (h : OwnA w lo hi a ws γ) (h1 : lo' ≤ lo) (h2 : hi ≤ hi') : OwnA w lo' hi' a ws γ := by
  rcases h with h | ⟨b, q1, q2, q3, q4⟩
  · exact .inl h
  · exact .inr ⟨b, q1, q2.lower h1, Nat.lt_of_lt_of_le q3 h2, fun i hi hp => Nat.lt_of_lt_of_le (q4 i hi hp) h2⟩

set_option maxRecDepth 100000 in
theorem OwnA.setLow {w : World} {lo hi : Nat} {a : Option Addr} {ws : List Wr} {γ : Nat → Nat} (h : OwnA w lo hi a ws γ) {b : Nat} (hb : b < lo) (o : Nat) (v : Value) : OwnA (w.setCell ⟨b, o, none⟩ v) lo hi a ws γ :=
  h.only (S := fun x => x = b) (Only.set (S := fun x => x = b) (Only.refl _ w) rfl o v) fun x hx => by rw [hx]; exact hb

/-- The row while it is filled in. -/
def fillBat (es : List Bat) (j : Nat) : Value := if j < es.length then batV (es.getD j btz) else .slice none 0 0

set_option maxRecDepth 100000 in
theorem get_old (es : List Bat) (x : Bat) {i : Nat} (h : i < es.length) : (es ++ [x]).getD i btz = es.getD i btz := by
  rw [List.getD_eq_getElem?_getD, List.getD_eq_getElem?_getD, List.getElem?_append_left h]

set_option maxRecDepth 100000 in
theorem fillBat_step (es : List Bat) (x : Bat) (j : Nat) : (if j = es.length then batV x else fillBat es j) = fillBat (es ++ [x]) j := by
  unfold fillBat
  by_cases h : j = es.length
  · rw [if_pos h, if_pos (by simp; omega), h]
    simp [List.getD]
  · rw [if_neg h]
    by_cases hl : j < es.length
    · rw [if_pos hl, if_pos (by simp; omega), get_old es x hl]
    · rw [if_neg hl, if_neg (by simp; omega)]

set_option maxRecDepth 100000 in
theorem rowBat_start (w : World) (t n : Nat) : (w.alloc (.cells (madeCells #[.slice none 0 0] n) t)).rowIs w.heap.size t n (fillBat []) := by
  refine ⟨_, Go.Deep.blk_alloc_new _ _, size_madeCells _ _, fun i hi => ?_⟩
  have e : fillBat [] i = .slice none 0 0 := by unfold fillBat; rw [if_neg (by simp)]
  rw [e]
  have h1 : i % 1 = 0 := by omega
  simp [madeCells, hi, h1]

/-- The batches that are laid so far. -/
def LaidB (w : World) (B : Nat) (es : List Bat) : Prop := (∀ i, i < es.length → B < (es.getD i btz).lo ∧ (es.getD i btz).hi ≤ w.heap.size ∧ OwnA w (es.getD i btz).lo (es.getD i btz).hi (es.getD i btz).a (es.getD i btz).ws (es.getD i btz).γ) ∧ ∀ i j, i < j → j < es.length → (es.getD i btz).hi ≤ (es.getD j btz).lo

set_option maxRecDepth 100000 in
theorem get_new (es : List Bat) (x : Bat) : (es ++ [x]).getD es.length btz = x := by simp [List.getD]

set_option maxRecDepth 100000 in
theorem LaidB.more {w w' : World} {B : Nat} {es : List Bat} (h : LaidB w B es) (hb : Below w.heap.size w w') {x : Bat} (h1 : B < x.lo) (h2 : w.heap.size ≤ x.lo) (h3 : x.hi ≤ w'.heap.size) (h4 : OwnA w' x.lo x.hi x.a x.ws x.γ) : LaidB w' B (es ++ [x]) := by
  constructor
  · intro i hi
    by_cases hl : i < es.length
    · rw [get_old es x hl]
      obtain ⟨q1, q2, q3⟩ := h.1 i hl
      exact ⟨q1, Nat.le_trans q2 hb.size, q3.below hb⟩
    · have hi' : i = es.length := by simp at hi; omega
      rw [hi', get_new]
      exact ⟨h1, h3, h4⟩
  · intro i j hij hj
    by_cases hl : j < es.length
    · rw [get_old es x hl, get_old es x (by omega)]
      exact h.2 i j hij hl
    · have hj' : j = es.length := by simp at hj; omega
      rw [hj', get_new, get_old es x (by omega)]
      exact Nat.le_trans (h.1 i (by omega)).2.1 h2

set_option maxRecDepth 100000 in
theorem LaidB.setRow {w : World} {B : Nat} {es : List Bat} (h : LaidB w B es) (o : Nat) (v : Value) : LaidB (w.setCell ⟨B, o, none⟩ v) B es :=
  ⟨fun i hi => ⟨(h.1 i hi).1, by simpa using (h.1 i hi).2.1, (h.1 i hi).2.2.setLow (h.1 i hi).1 o v⟩, h.2⟩

end Go.Proofs.Ythoeimjngjgeaaa

/- Events of one's own: the contracts of toEvent and toEventS. -/
namespace Go.Proofs.Ythoeimjngjgeaaa
open Go.ChangeShapes Go.WideShapes Go.ChangeAt Go.RowKit Go.Joins
attribute [local go_sem ↓] Go.wp_at_zero Go.wp_at_succ

theorem toWriteS_ownA (a : Option Addr) (n cap : Nat) (ws : List Wr) (w : World) (hn : ws.length = n) (hm : n ≤ 1048576) (hx : Few ws) (h : IsWs w a ws) :
    Calls Try.prog 43 #[.slice a n cap] w fun e w' => ∃ γ, e = .returned (.slice (some ⟨w.heap.size, 0, none⟩) n n) ∧ OwnA w' w.heap.size w'.heap.size (some ⟨w.heap.size, 0, none⟩) ws γ ∧ Below w.heap.size w w' :=
  (toWriteS_any a n cap ws w hm hn (fun i hi => hx i (by rw [hn]; exact hi)) h).mono fun _ _ ⟨γ, he, ho, hb⟩ => ⟨γ, he, ho.gen.ownA, hb⟩

def put4 (w : World) (b o : Nat) (s : Int) (sh : Bool) (m : Int) (v : Value) : World :=
  (((w.setCell ⟨b, o, none⟩ (.int .i64 s)).setCell ⟨b, o + 1, none⟩ (.bool sh)).setCell ⟨b, o + 2, none⟩ (.int .i64 m)).setCell ⟨b, o + 3, none⟩ v

theorem OwnA.put4 {w : World} {lo hi : Nat} {a : Option Addr} {ws : List Wr} {γ : Nat → Nat} (h : OwnA w lo hi a ws γ) {b : Nat} (hb : b < lo) (o : Nat) (s : Int) (sh : Bool) (m : Int) (v : Value) : OwnA (Proofs.Ythoeimjngjgeaaa.put4 w b o s sh m v) lo hi a ws γ :=
  (((h.setLow hb _ _).setLow hb _ _).setLow hb _ _).setLow hb _ _

theorem Below.put4' {B : Nat} {w w' : World} (h : Below B w w') {b : Nat} (hb : B ≤ b) (o : Nat) (s : Int) (sh : Bool) (m : Int) (v : Value) : Below B w (put4 w' b o s sh m v) :=
  (((h.setCell (p := ⟨b, o, none⟩) hb _).setCell (p := ⟨b, o + 1, none⟩) hb _).setCell (p := ⟨b, o + 2, none⟩) hb _).setCell (p := ⟨b, o + 3, none⟩) hb _

theorem put4_size (w : World) (b o : Nat) (s : Int) (sh : Bool) (m : Int) (v : Value) : (put4 w b o s sh m v).heap.size = w.heap.size := by simp [put4]

set_option maxRecDepth 100000 in
set_option maxHeartbeats 4000000 in
theorem toEvent_any (s : Int) (sh : Bool) (m : Int) (a : Option Addr) (n cap : Nat) (ws : List Wr) (w : World) (hn : ws.length = n) (hm : n ≤ 1048576) (hx : Few ws) (h : IsWs w a ws) :
    Calls Try.prog 25 #[evV s sh m a n cap] w fun e w' => ∃ b γ, e = .returned (evV s sh m (some ⟨b, 0, none⟩) n n) ∧ OwnA w' w.heap.size w'.heap.size (some ⟨b, 0, none⟩) ws γ ∧ Below w.heap.size w w' := by
  have H := Lib.hid h
  have HN := Lib.hid hn
  have HX := Lib.hid hx
  clear h hn hx
  obtain ⟨O1, hO1⟩ : ∃ O, O = Obj.cells #[.int .i64 s, .bool sh, .int .i64 m, .slice a n cap] 51 := ⟨_, rfl⟩
  obtain ⟨O2, hO2⟩ : ∃ O, O = Obj.cells #[.int .i64 0, .bool false, .int .i64 0, .slice none 0 0] 59 := ⟨_, rfl⟩
  obtain ⟨O3, hO3⟩ : ∃ O, O = Obj.cells #[.int .i64 s, .bool sh, .int .i64 m, .slice none 0 0] 59 := ⟨_, rfl⟩
  have HB : Hid (Below w.heap.size w (((w.alloc O1).alloc O2).alloc O3)) := (((Below.refl _ _).alloc (Nat.le_refl _) _).alloc (by simp) _).alloc (by simp; omega) _
  have hsz : (((w.alloc O1).alloc O2).alloc O3).heap.size = w.heap.size + 3 := by simp
  have e : (w.alloc O1).heap.size = w.heap.size + 1 := by simp
  have HZ2 : Hid ((((w.alloc O1).alloc O2).alloc O3).heap[w.heap.size + 1]? = some O2) := by
    have := heap_alloc2_old (w.alloc O1) O2 O3
    rwa [e] at this
  have HZ3 : Hid ((((w.alloc O1).alloc O2).alloc O3).heap[w.heap.size + 2]? = some O3) := by
    have := heap_alloc2_new (w.alloc O1) O2 O3
    rwa [e] at this
  clear e
  subst hO1 hO2 hO3
  go_enter Try.func25, Try.ntmps25
  go_wp2_with fail
  generalize ((w.alloc (.cells #[.int .i64 s, .bool sh, .int .i64 m, .slice a n cap] 51)).alloc (.cells #[.int .i64 0, .bool false, .int .i64 0, .slice none 0 0] 59)).alloc (.cells #[.int .i64 s, .bool sh, .int .i64 m, .slice none 0 0] 59) = W3 at *
  refine (toWriteS_ownA a n cap ws _ HN.out hm HX.out (H.out.below HB.out)).mono ?_
  rintro e w4 ⟨γ, rfl, hO, hb⟩
  have HO := Lib.hid hO
  have HB4 : Hid (Below w.heap.size w w4) := below_step HB.out HB.out.size hb
  have q2 := (hb.block (w.heap.size + 1) (by omega)).trans HZ2.out
  have q3 := (hb.block (w.heap.size + 2) (by omega)).trans HZ3.out
  have hs4 : W3.heap.size ≤ w4.heap.size := hb.size
  have d0 := cell_of_row w4 (w.heap.size + 1) 0 _ _ _ q2
  have d1 := cell_of_row w4 (w.heap.size + 1) 1 _ _ _ q2
  have d2 := cell_of_row w4 (w.heap.size + 1) 2 _ _ _ q2
  have d3 := cell_of_row w4 (w.heap.size + 1) 3 _ _ _ q2
  have c0 := cell_of_row w4 (w.heap.size + 2) 0 _ _ _ q3
  have c1 := cell_of_row w4 (w.heap.size + 2) 1 _ _ _ q3
  have c2 := cell_of_row w4 (w.heap.size + 2) 2 _ _ _ q3
  have c3 := cell_of_row w4 (w.heap.size + 2) 3 _ _ _ q3
  have f2 : ∀ o, w4.frozen? ⟨w.heap.size + 1, o, none⟩ = false := fun o => frozen_of_row w4 (w.heap.size + 1) o _ _ q2
  have f3 : ∀ o, w4.frozen? ⟨w.heap.size + 2, o, none⟩ = false := fun o => frozen_of_row w4 (w.heap.size + 2) o _ _ q3
  simp at d0 d1 d2 d3 c0 c1 c2 c3
  clear hb hO HB HZ2 HZ3 q2 q3
  go_wp2
  have hw3 : W3.heap.size = w.heap.size + 3 := hsz
  refine bodyPost_ret (v := evV s sh m (some ⟨w.heap.size + 3, 0, none⟩) n n) (by simp [results, Try.results25, go_sem, d0, d1, d2, d3]) rfl ⟨w.heap.size + 3, γ, rfl, ?_, ?_⟩
  · have h1 := HO.out
    rw [hw3] at h1
    exact ((h1.setLow (b := w.heap.size + 1 + 1) (by omega) 3 _).put4 (b := w.heap.size + 1) (by omega) 0 s sh m _).wider (by omega) (by simp)
  · exact Below.put4' (HB4.out.setCell (p := ⟨w.heap.size + 1 + 1, 3, none⟩) (by simp; omega) _) (b := w.heap.size + 1) (by omega) 0 s sh m _

/-- An event of one's own: its site, whether it was shown, its mask, its writes as a batch. -/
structure EvB where
  s : Int
  sh : Bool
  m : Int
  b : Bat

def ebz : EvB := ⟨0, false, 0, btz⟩

def evOf (e : EvB) : Ev := ⟨e.s, e.sh, e.m, e.b.ws⟩

def evsOf (es : List EvB) : List Ev := es.map evOf

theorem evsOf_len (es : List EvB) : (evsOf es).length = es.length := by simp [evsOf]

theorem evsOf_get (es : List EvB) {i : Nat} (h : i < es.length) : (evsOf es).getD i evz = evOf (es.getD i ebz) := by simp [evsOf, List.getD, h]

/-- Field c of an event. -/
def fieldE (e : EvB) (c : Nat) : Value := if c = 0 then .int .i64 e.s else if c = 1 then .bool e.sh else if c = 2 then .int .i64 e.m else batV e.b

/-- f has these events, four cells each. -/
def EvsIn (f : Nat → Value) (es : List EvB) : Prop := ∀ i, i < es.length → ∀ c, c < 4 → f (i * 4 + c) = fieldE (es.getD i ebz) c

/-- The memory of the writes of events, below none of them the row's. -/
def LaidE (w : World) (lo hi b : Nat) (es : List EvB) : Prop := (∀ i, i < es.length → lo ≤ (es.getD i ebz).b.lo ∧ (es.getD i ebz).b.hi ≤ hi ∧ (b < (es.getD i ebz).b.lo ∨ (es.getD i ebz).b.hi ≤ b) ∧ OwnA w (es.getD i ebz).b.lo (es.getD i ebz).b.hi (es.getD i ebz).b.a (es.getD i ebz).b.ws (es.getD i ebz).b.γ) ∧ ∀ i j, i < j → j < es.length → (es.getD i ebz).b.hi ≤ (es.getD j ebz).b.lo

/-- Events of one's own: a row, and each event's writes apart from the row and from the others'. -/
def OwnE (w : World) (lo hi : Nat) (a : Option Addr) (es : List EvB) : Prop :=
  es = [] ∨ ∃ b N f, a = some ⟨b, 0, none⟩ ∧ lo ≤ b ∧ b < hi ∧ w.rowIs b 59 N f ∧ es.length * 4 ≤ N ∧ EvsIn f es ∧ LaidE w lo hi b es

theorem LaidE.below {w w' : World} {lo hi b : Nat} {es : List EvB} (h : LaidE w lo hi b es) (hb : Below w.heap.size w w') : LaidE w' lo hi b es :=
  ⟨fun i hi => ⟨(h.1 i hi).1, (h.1 i hi).2.1, (h.1 i hi).2.2.1, (h.1 i hi).2.2.2.below hb⟩, h.2⟩

theorem OwnE.below {w w' : World} {lo hi : Nat} {a : Option Addr} {es : List EvB} (h : OwnE w lo hi a es) (hb : Below w.heap.size w w') : OwnE w' lo hi a es := by
  rcases h with h | ⟨b, N, f, h1, h2, h3, h4, h5, h6, h7⟩
  · exact .inl h
  · exact .inr ⟨b, N, f, h1, h2, h3, h4.of_block (hb.block b h4.lt), h5, h6, h7.below hb⟩

theorem OwnE.only {w w' : World} {S : Nat → Prop} {lo hi : Nat} {a : Option Addr} {es : List EvB} (h : OwnE w lo hi a es) (ho : Only S w w') (hS : ∀ x, S x → x < lo) : OwnE w' lo hi a es := by
  rcases h with h | ⟨b, N, f, h1, h2, h3, h4, h5, h6, h7⟩
  · exact .inl h
  · exact .inr ⟨b, N, f, h1, h2, h3, h4.of_block (ho.block b fun e => by have := hS b e; omega), h5, h6, fun i hi => ⟨(h7.1 i hi).1, (h7.1 i hi).2.1, (h7.1 i hi).2.2.1, (h7.1 i hi).2.2.2.only ho fun x hx => by have := hS x hx; have := (h7.1 i hi).1; omega⟩, h7.2⟩

theorem EvsIn.at_ {f : Nat → Value} {es : List EvB} (h : EvsIn f es) {w : World} {b t N : Nat} (hr : w.rowIs b t N f) (hN : es.length * 4 ≤ N) {i : Nat} (hi : i < es.length) : EvAt w b (i * 4) (evOf (es.getD i ebz)) (es.getD i ebz).b.a (es.getD i ebz).b.cap := by
  have c : ∀ c, c < 4 → w.cell? ⟨b, i * 4 + c, none⟩ = some (fieldE (es.getD i ebz) c) := fun c hc => by rw [hr.cell (i := i * 4 + c) (by omega), h i hi c hc]
  exact ⟨c 0 (by omega), c 1 (by omega), c 2 (by omega), c 3 (by omega)⟩

theorem OwnE.isEs {w : World} {lo hi : Nat} {a : Option Addr} {es : List EvB} (h : OwnE w lo hi a es) (hx : FewE (evsOf es)) : IsEs w a (evsOf es) := by
  rcases h with h | ⟨b, N, f, h1, h2, h3, h4, h5, h6, h7⟩
  · exact .inl (by rw [h]; rfl)
  · refine .inr ⟨b, 0, h1, h4.lt, fun i hi => ?_⟩
    have hi' : i < es.length := by rwa [evsOf_len] at hi
    have hf := (hx i hi).2
    rw [evsOf_get es hi'] at hf ⊢
    exact ⟨_, _, by rw [Nat.zero_add]; exact h6.at_ h4 h5 hi', (h7.1 i hi').2.2.2.isWs hf⟩

/-- The row while it is filled in. -/
def fillE (es : List EvB) (j : Nat) : Value := fieldE (es.getD (j / 4) ebz) (j % 4)

theorem fillE_in (es : List EvB) : EvsIn (fillE es) es := fun i _ c hc => by
  unfold fillE
  rw [show (i * 4 + c) / 4 = i by omega, show (i * 4 + c) % 4 = c by omega]

theorem eb_old (es : List EvB) (x : EvB) {i : Nat} (h : i ≠ es.length) : (es ++ [x]).getD i ebz = es.getD i ebz := by
  rw [List.getD_eq_getElem?_getD, List.getD_eq_getElem?_getD]
  by_cases hl : i < es.length
  · rw [List.getElem?_append_left hl]
  · rw [List.getElem?_eq_none (by simp; omega), List.getElem?_eq_none (by omega)]

theorem eb_new (es : List EvB) (x : EvB) : (es ++ [x]).getD es.length ebz = x := by simp [List.getD]

theorem fillE_step (es : List EvB) (x : EvB) (j : Nat) : (if j = es.length * 4 + 3 then batV x.b else if j = es.length * 4 + 2 then .int .i64 x.m else if j = es.length * 4 + 1 then .bool x.sh else if j = es.length * 4 then .int .i64 x.s else fillE es j) = fillE (es ++ [x]) j := by
  unfold fillE
  by_cases h3 : j = es.length * 4 + 3
  · rw [if_pos h3, show j / 4 = es.length by omega, show j % 4 = 3 by omega, eb_new]
    rfl
  rw [if_neg h3]
  by_cases h2 : j = es.length * 4 + 2
  · rw [if_pos h2, show j / 4 = es.length by omega, show j % 4 = 2 by omega, eb_new]
    rfl
  rw [if_neg h2]
  by_cases h1 : j = es.length * 4 + 1
  · rw [if_pos h1, show j / 4 = es.length by omega, show j % 4 = 1 by omega, eb_new]
    rfl
  rw [if_neg h1]
  by_cases h0 : j = es.length * 4
  · rw [if_pos h0, show j / 4 = es.length by omega, show j % 4 = 0 by omega, eb_new]
    rfl
  rw [if_neg h0, eb_old es x (by omega)]

set_option maxRecDepth 100000 in
theorem infoEvent : (Try.prog.info? 59).map (fun i => (i.zero, i.size, i.bytes)) = some (some (.agg #[.int .i64 0, .bool false, .int .i64 0, .slice none 0 0]), 4, 48) := by kernel_rfl

set_option maxRecDepth 100000 in
theorem run_make_evs (n : Nat) (hn : n ≤ 1048576) (w : World) :
    (Instr.makeSlice 32 (.int .i64 (n : Int)) (.int .i64 (n : Int))).run Try.prog w = .ok (.slice (some ⟨w.heap.size, 0, none⟩) n n) (w.alloc (.cells (madeCells #[.int .i64 0, .bool false, .int .i64 0, .slice none 0 0] (n * 4)) 59)) := by
  obtain ⟨i, hi, hzz⟩ := Option.map_eq_some_iff.1 infoEvent
  simp only [Prod.mk.injEq] at hzz
  obtain ⟨hz, hs, hb⟩ := hzz
  have hr := run_make (P := Try.prog) w 32 59 i _ Try.underlying32 hi hz .i64 .i64 n n (by omega) (Int.le_refl _) (by rw [hb]; omega) (by omega)
  simp only [Int.toNat_natCast, hs] at hr
  exact hr

theorem rowEv_start (w : World) (t n : Nat) : (w.alloc (.cells (madeCells #[.int .i64 0, .bool false, .int .i64 0, .slice none 0 0] (n * 4)) t)).rowIs w.heap.size t (n * 4) (fillE []) := by
  refine ⟨_, Go.Deep.blk_alloc_new _ _, size_madeCells _ _, fun i hi => ?_⟩
  have e : ([] : List EvB).getD (i / 4) ebz = ebz := rfl
  unfold fillE
  rw [e]
  have h4 : i % 4 = 0 ∨ i % 4 = 1 ∨ i % 4 = 2 ∨ i % 4 = 3 := by omega
  rcases h4 with h4 | h4 | h4 | h4 <;> simp [madeCells, hi, h4, fieldE, ebz, btz, batV]

theorem LaidE.more {w w' : World} {B : Nat} {es : List EvB} (h : LaidE w B w.heap.size B es) (hB : B < w.heap.size) (hb : Below w.heap.size w w') {x : EvB} (h2 : w.heap.size ≤ x.b.lo) (h3 : x.b.hi ≤ w'.heap.size) (h4 : OwnA w' x.b.lo x.b.hi x.b.a x.b.ws x.b.γ) : LaidE w' B w'.heap.size B (es ++ [x]) := by
  constructor
  · intro i hi
    by_cases hl : i < es.length
    · rw [eb_old es x (by omega)]
      obtain ⟨q1, q2, q3, q4⟩ := h.1 i hl
      exact ⟨q1, Nat.le_trans q2 hb.size, q3, q4.below hb⟩
    · have hi' : i = es.length := by simp at hi; omega
      rw [hi', eb_new]
      exact ⟨by omega, h3, .inl (by omega), h4⟩
  · intro i j hij hj
    by_cases hl : j < es.length
    · rw [eb_old es x (by omega), eb_old es x (by omega)]
      exact h.2 i j hij hl
    · have hj' : j = es.length := by simp at hj; omega
      rw [hj', eb_new, eb_old es x (by omega)]
      exact Nat.le_trans (h.1 i (by omega)).2.1 h2

theorem LaidE.setRow {w : World} {B : Nat} {es : List EvB} (h : LaidE w B w.heap.size B es) (hs : ∀ i, i < es.length → B < (es.getD i ebz).b.lo) (o : Nat) (s : Int) (sh : Bool) (m : Int) (v : Value) : LaidE (put4 w B o s sh m v) B (put4 w B o s sh m v).heap.size B es :=
  ⟨fun i hi => ⟨(h.1 i hi).1, by rw [put4_size]; exact (h.1 i hi).2.1, (h.1 i hi).2.2.1, (h.1 i hi).2.2.2.put4 (hs i hi) o s sh m v⟩, h.2⟩

set_option maxRecDepth 100000 in
set_option maxHeartbeats 4000000 in
theorem toEventS_any (a : Option Addr) (n cap : Nat) (xs : List Ev) (w : World) (hn : xs.length = n) (hm : n ≤ 1048576) (hx : FewE xs) (h : IsEs w a xs) :
    Calls Try.prog 8 #[.slice a n cap] w fun e w' => ∃ es, e = .returned (.slice (some ⟨w.heap.size, 0, none⟩) n n) ∧ evsOf es = xs ∧ OwnE w' w.heap.size w'.heap.size (some ⟨w.heap.size, 0, none⟩) es ∧ Below w.heap.size w w' := by
  have H := Lib.hid h
  have HN := Lib.hid hn
  have HX := Lib.hid hx
  clear h hn hx
  have hmk := run_make_evs n hm
  go_enter Try.func8, Try.ntmps8
  go_wp2
  clear hmk
  go_loopw [4] (fun i wr => ∃ (k : Nat) (es : List EvB), k ≤ n ∧ i = .int .i64 k ∧ es.length = k ∧ Hid (evsOf es = xs.take k) ∧ Hid (wr.rowIs w.heap.size 59 (n * 4) (fillE es)) ∧ Hid (LaidE wr w.heap.size wr.heap.size w.heap.size es) ∧ Hid (∀ i, i < es.length → w.heap.size < (es.getD i ebz).b.lo) ∧ Hid (Below w.heap.size w wr)) (fun i _ => n - (intOf i).toNat)
  case atStart => exact ⟨0, [], Nat.zero_le _, rfl, rfl, rfl, rowEv_start _ _ _, ⟨fun i hi => by simp at hi, fun i j _ hj => by simp at hj⟩, fun i hi => by simp at hi, (Below.refl _ _).alloc (Nat.le_refl _) _⟩
  case round =>
    obtain ⟨k, es, hk, rfl, hel, HE, HR, HL, HS, HB⟩ := hrel
    by_cases hk' : k < n
    · have hkk : k < xs.length := by rw [HN.out]; exact hk'
      have i1 : (0 : Int) ≤ (k : Int) := by omega
      have i2 : (k : Int) < (n : Int) := by omega
      obtain ⟨b, o, ad, cp, rfl, hz, e0, hw⟩ := H.out.at HB.out hkk
      obtain ⟨hl, hf⟩ := HX.out k hkk
      have HW := Lib.hid hw
      have HF := Lib.hid hf
      have HT : Hid (xs.take (k + 1) = xs.take k ++ [xs.getD k evz]) := by
        show _ = _
        rw [List.take_add_one, List.getElem?_eq_getElem hkk]
        simp [List.getD, hkk]
      have hlt : w.heap.size < wr.heap.size := HR.out.lt
      clear hw hf
      generalize xs.getD k evz = y at *
      obtain ⟨ys, yh, ym, ws⟩ := y
      unfold EvAt at e0
      simp only at e0 hl HW HF
      obtain ⟨c0, c1, c2, c3⟩ := e0
      obtain ⟨q, hq⟩ : ∃ q, ws.length = q := ⟨_, rfl⟩
      rw [hq] at c3 hl
      have HQ := Lib.hid hq
      clear hq
      go_wp2_with fail
      refine (toEvent_any ys yh ym ad q cp ws _ HQ.out hl HF.out HW.out).mono ?_
      rintro e w2 ⟨b2, γ, rfl, hO, hb⟩
      obtain ⟨X, hX⟩ : ∃ X : EvB, X = ⟨ys, yh, ym, ⟨ws, some ⟨b2, 0, none⟩, q, wr.heap.size, w2.heap.size, γ⟩⟩ := ⟨_, rfl⟩
      have HR2 : Hid (w2.rowIs w.heap.size 59 (n * 4) (fillE es)) := HR.out.of_block (hb.block _ hlt)
      have HL2 : Hid (LaidE w2 w.heap.size w2.heap.size w.heap.size (es ++ [X])) := HL.out.more hlt hb (by rw [hX]; exact Nat.le_refl _) (by rw [hX]; exact Nat.le_refl _) (by rw [hX]; exact hO)
      have HS2 : Hid (∀ i, i < (es ++ [X]).length → w.heap.size < ((es ++ [X]).getD i ebz).b.lo) := fun i hi => by
        by_cases hl : i < es.length
        · rw [eb_old es X (by omega)]
          exact HS.out i hl
        · have hi' : i = es.length := by simp at hi; omega
          rw [hi', eb_new, hX]
          exact hlt
      have HB2 := Lib.hid (below_step HB.out HB.out.size hb)
      have HE2 : Hid (evsOf (es ++ [X]) = xs.take (k + 1)) := by
        show _ = _
        unfold evsOf at *
        rw [HT.out, List.map_append, HE.out, hX]
        rfl
      have d0 := HR2.out.cell (i := k * 4) (by omega)
      have d1 := HR2.out.cell (i := k * 4 + 1) (by omega)
      have d2 := HR2.out.cell (i := k * 4 + 2) (by omega)
      have d3 := HR2.out.cell (i := k * 4 + 3) (by omega)
      have fz := HR2.out.frozen
      have HP : Hid ((put4 w2 w.heap.size (k * 4) ys yh ym (.slice (some ⟨b2, 0, none⟩) q q)).rowIs w.heap.size 59 (n * 4) (fillE (es ++ [X]))) := ((((HR2.out.set (k * 4) _).set (k * 4 + 1) _).set (k * 4 + 2) _).set (k * 4 + 3) _).congr fun j _ => by
        have := fillE_step es X j
        rw [hel] at this
        rw [← this, hX]
        unfold batV
        rw [HQ.out]
      clear hO hb HR HL HB HR2 HS
      go_wp2
      exact ⟨⟨k + 1, es ++ [X], by omega, by go_num, by simp [hel], HE2, HP, HL2.out.setRow HS2.out _ _ _ _ _, HS2, Below.put4' HB2.out (Nat.le_refl _) _ _ _ _ _⟩, by simp [intOf]; omega⟩
    · have hkk : k = n := by omega
      subst hkk
      have HE2 : Hid (evsOf es = xs) := by
        have h := HE.out
        rw [List.take_of_length_le (by rw [HN.out]; exact Nat.le_refl _)] at h
        exact h
      go_wp2
      go_ret
      exact ⟨es, rfl, HE2.out, .inr ⟨w.heap.size, k * 4, _, rfl, Nat.le_refl _, HR.out.lt, HR.out, by omega, fillE_in es, HL.out⟩, HB.out⟩

end Go.Proofs.Ythoeimjngjgeaaa
