/- The contract of impl.sortedBy at points, over impl.pointsOf; impl.RingOf. -/
import Derived.Test.YtofejfmfbifphacDoorPointsIt
import Derived.Test.YtofejfmfbifphacDoorSlotsG
namespace Go.Proofs.YtofejfmfbifphacDoor
open Go.ChangeShapes Go.WideShapes Go.ChangeAt Go.RowKit Go.Joins Go.Shelf
attribute [local go_sem] Oper.semAt_some

set_option maxRecDepth 100000 in
theorem rowP_ne {W : World} {base : Nat} {v : Value} {ps : List Pt} (h : RowP W base v ps) {b : Nat} (hb : b < base) : some b ≠ v.ownBlock := fun e' => by
  have := (World.ownsRow.lt h b e'.symm).1
  omega

set_option maxRecDepth 100000 in
theorem rowP_keeps {W W' : World} {base B : Nat} {v : Value} {ps : List Pt} (h : RowP W base v ps) (hg : W.grownBy W' v.ownBlock) : KeepsFrom B W W' :=
  (KeepsOthers.of_grownBy hg fun j o ej hj => by
    rcases h.2 with ⟨rfl, _⟩ | ⟨g, cap, cur, rfl, _, hgb, _⟩
    · simp [Value.ownBlock] at ej
    · obtain rfl : g = j := by simpa [Value.ownBlock] using ej
      rw [hgb] at hj
      cases hj
      rfl).from B

/-- What the loop of impl.sortedBy holds between two rounds. -/
structure SortInv (w : World) (N : Nat) (W : World) (out : List Pt) : Prop where
  row : ∃ v, Boxed W (w.heap.size + 1) 27 v ∧ RowP W N v out
  cmp : Boxed W w.heap.size 49 (.func (.func 22) #[] #[])
  below : Below w.heap.size w W
  size : N ≤ W.heap.size

set_option maxRecDepth 100000 in
theorem SortInv.kept {w : World} {N : Nat} (hN : w.heap.size + 2 ≤ N) {W W' : World} {out : List Pt} {row : Option Nat} (h : SortInv w N W out) (hg : W.grownBy W' row) (hr : ∀ r, row = some r → N ≤ r ∧ ∃ o : Obj, W.heap[r]? = some o ∧ o.isCells = false) : SortInv w N W' out where
  row := by
    obtain ⟨v, hv, ho⟩ := h.row
    obtain ⟨v, hv, ho, _⟩ := holdsRow_own (β := Unit) N (w.heap.size + 1) 27 32 2 (fun _ => out.length) (fun _ => out.flatMap ptVals) (fun _ _ => True) () W W' row ⟨v, hv, ho, trivial⟩ hg (fun r e => (hr r e).2)
    exact ⟨v, hv, ho⟩
  cmp := h.cmp.kept hg (fun e => by have := (hr _ e.symm).1; omega)
  below := h.below.grown hg h.below.size (fun k e => by have := (hr _ e).1; omega)
  size := Nat.le_trans h.size hg.size

set_option maxRecDepth 100000 in
set_option maxHeartbeats 4000000 in
theorem sortedBy_any (w : World) (Br Bv : Nat) (a : Option Addr) (len cap V : Nat) (zs : List Int) (hl : zs.length = len) (h8 : len ≤ 8) (hV : V ≤ 6) (hz : ∀ i, i < len → 0 ≤ zs.getD i 0 ∧ zs.getD i 0 ≤ 99)
    (hBr : w.cell? ⟨Br, 0, none⟩ = some (.slice a len cap)) (hBv : w.cell? ⟨Bv, 0, none⟩ = some (.int .i64 V)) (hr : Br < w.heap.size) (hv : Bv < w.heap.size) (ht : Tab w) (hp : IsInts w a zs) :
    Calls Tryd.prog 20 #[.func (.func 32) #[] #[.pointer (some ⟨Br, 0, none⟩), .pointer (some ⟨Bv, 0, none⟩)], .func (.func 22) #[] #[]] w fun e w' => ∃ r, e = .returned r ∧ RowP w' w.heap.size r (ringL (ptsOf zs V)) ∧ Below w.heap.size w w' := by
  refine (callsIn_wide (n := 5)).1 ?_
  refine callsIn_of_wp_marks Tryd.func20 rfl trivial ?_ rfl
  simp only [Tryd.ntmps20, List.size_toArray, List.length_cons, List.length_nil, Nat.reduceAdd, Nat.reduceSub, Array.replicate_succ, Array.replicate_zero, List.push_toArray, List.append_toArray, List.nil_append, List.cons_append]
  gi_wp2
  have bC := (Boxed.new w 49 (.func (.func 22) #[] #[])).alloc (.cells #[.slice none 0 0] 27)
  have bL := Boxed.new (w.alloc (.cells #[.func (.func 22) #[] #[]] 49)) 27 (.slice none 0 0)
  rw [World.size_alloc] at bL
  have hB2 : Below w.heap.size w ((w.alloc (.cells #[.func (.func 22) #[] #[]] 49)).alloc (.cells #[.slice none 0 0] 27)) := ((Below.refl _ w).alloc (Nat.le_refl _) _).alloc (by simp) _
  have hs2 : ((w.alloc (.cells #[.func (.func 22) #[] #[]] 49)).alloc (.cells #[.slice none 0 0] 27)).heap.size = w.heap.size + 2 := by simp
  obtain ⟨W2, hW2⟩ : ∃ W2, (w.alloc (.cells #[.func (.func 22) #[] #[]] 49)).alloc (.cells #[.slice none 0 0] 27) = W2 := ⟨_, rfl⟩
  rw [hW2] at bC bL hB2 hs2 ⊢
  clear hW2
  have htl : 0 < w.heap.size := ht.lt
  have hseq : SeqStopsK Fence.wide 4 Tryd.prog 32 #[.pointer (some ⟨Br, 0, none⟩), .pointer (some ⟨Bv, 0, none⟩)] (fun x : Pt => #[Value.agg #[.int .i64 x.t, .int .i64 x.n]]) (Below w.heap.size) (fun ys => ys = ptsOf zs V) (fun _ => True) 54 W2 := fun l J Jx W hW hJ _ hY h0 => by
    have hWw : Below w.heap.size w W := hB2.trans (hW.mono (by omega))
    exact points1_in 4 (by omega) l Br Bv w.heap.size a len cap V zs hl h8 hV hz J Jx (fun pre X Y hX hb => hJ pre X Y none hX ⟨hb.os, hb.tape, hb.output, hb.size, fun k hk _ => hb.block k hk⟩ (fun r e => by cases e)) hY W
      ((hWw.cell (p := ⟨Br, 0, none⟩) hr).trans hBr) ((hWw.cell (p := ⟨Bv, 0, none⟩) hv).trans hBv) hv hWw.size (ht.below hWw htl) htl
      (by
        rcases hp with h' | ⟨b, ha, hlt, hc⟩
        · exact .inl h'
        · exact .inr ⟨b, ha, hlt, fun i hi => (hWw.cell (p := ⟨b, i, none⟩) hlt).trans (hc i hi)⟩) h0
  have h0 : SortInv w W2.heap.size W2 (ringL []) := ⟨⟨_, bL, World.ownsRow_nil _ _ _ _⟩, bC, hB2, Nat.le_refl _⟩
  have hN2 : w.heap.size + 2 ≤ W2.heap.size := by omega
  have HS2 := Lib.hid hs2
  clear hs2 bC bL
  refine wpIn_rangeFunc_ownH rfl (by omega) (gf := 32) (lb := #[.pointer (some ⟨Br, 0, none⟩), .pointer (some ⟨Bv, 0, none⟩)]) rfl trivial (enters_of Tryd.func32 (by kernel_rfl) rfl)
    hseq belowK_t (belowK_b (by omega)) (Below.refl _ _) (fun _ => rfl)
    (fun pre W => SortInv w W2.heap.size W (ringL pre))
    (fun _ _ _ => False)
    (fun _ _ _ _ hs hg hr => hs.kept hN2 hg hr)
    (fun _ _ _ _ _ hs _ _ => hs)
    h0
    (fun x a' W => ∃ Bx, W2.heap.size ≤ Bx ∧ W.heap[Bx]? = some (.cells #[.int .i64 x.t, .int .i64 x.n] 32 (0, 0)) ∧ a' = { tmps := #[.func (.func 32) #[] #[.pointer (some ⟨Br, 0, none⟩), .pointer (some ⟨Bv, 0, none⟩)], .func (.func 22) #[] #[], undef, .pointer (some ⟨w.heap.size, 0, none⟩), .slice none 0 0, .pointer (some ⟨w.heap.size + 1, 0, none⟩), .pointer (some ⟨Bx, 0, none⟩), undef, .func (.func 32) #[] #[.pointer (some ⟨Br, 0, none⟩), .pointer (some ⟨Bv, 0, none⟩)], .agg #[.int .i64 x.t, .int .i64 x.n], undef, undef, undef, undef, undef, undef, undef, undef, undef, undef, undef, undef, undef, undef, undef, undef, undef, undef, undef, undef, undef, undef, undef], defers := [] })
    (fun x a' _ X Y row hs hg hr => by
      obtain ⟨Bx, h1, h2, h3⟩ := hs
      refine ⟨Bx, h1, ?_, h3⟩
      rw [hg.block Bx (Array.getElem?_eq_some_iff.1 h2).1 (fun e => by
        obtain ⟨_, o, ho, hc⟩ := hr Bx e.symm
        rw [h2] at ho
        cases ho
        cases hc)]
      exact h2)
    ?assign ?body ?done ?stop
  case assign =>
    rintro l pre x W K hI hK
    have hsz := hI.size
    gi_wp2
    refine hK _ _ ((KeepsOthers.alloc _ _).from _) ((Below.refl _ W).alloc (by omega) _) (hI.kept hN2 (World.grownBy_alloc W _ none) (fun r e => by cases e)) ⟨W.heap.size, hsz, heap_alloc_new W _, rfl⟩
  case body =>
    rintro l pre x a' W hl' - hI ⟨Bx, hBx, bX, rfl⟩ hlt
    have HSN := Lib.hid (ringL_snoc pre x)
    have hol : (ringL pre).length < 54 := by rw [ringL_len]; exact hlt
    have HIL := Lib.hid (insP_len (ringL pre) x)
    obtain ⟨⟨v, hvL, hrow⟩, hC, hB, hsz⟩ := hI
    generalize ringL pre = out at *
    obtain ⟨av, cv, rfl, ho⟩ := hrow.form
    obtain ⟨L, hL⟩ : ∃ L, out.length = L := ⟨_, rfl⟩
    have HL := Lib.hid hL
    have HO : Hid (IsPts W av out) := ho.isPts
    have HR := Lib.hid hrow
    rw [hL] at hvL hol
    unfold RowP at HR
    rw [hL] at HR
    have HV := Lib.hid hvL
    have HC := Lib.hid hC
    have HX := Lib.hid bX
    have HB := Lib.hid hB
    have cL := hvL.cell
    have hBxl : Bx < W.heap.size := (Array.getElem?_eq_some_iff.1 bX).1
    have hBLl : w.heap.size + 1 < W.heap.size := hvL.lt
    have hBCl : w.heap.size < W.heap.size := hC.lt
    have cX0 : W.cell? ⟨Bx, 0, none⟩ = some (.int .i64 x.t) := cell_of_row _ _ 0 _ _ (0, 0) bX
    have cX1 : W.cell? ⟨Bx, 1, none⟩ = some (.int .i64 x.n) := cell_of_row _ _ 1 _ _ (0, 0) bX
    have cC := hC.cell
    have HcL := Lib.hid cL
    have HcC := Lib.hid cC
    have HX0 := Lib.hid cX0
    have HX1 := Lib.hid cX1
    clear hrow ho hL hvL hC bX hB cX0 cX1 cC
    gi_wp2
    clear cL
    gi_loopw [7] (fun i wr => ∃ k : Nat, k ≤ L ∧ i = .int .i64 k ∧ Hid (placeP out x L = placeP out x k) ∧ Hid (Below W.heap.size W wr)) (fun i _ => (intOf i).toNat)
    case atStart => exact ⟨L, Nat.le_refl _, rfl, rfl, Below.refl _ _⟩
    case round =>
      obtain ⟨k, hk, rfl, HPL, HY⟩ := hrel
      have rL : wr.cell? ⟨w.heap.size + 1, 0, none⟩ = some (.slice av L cv) := held_cell HY.out HcL.out hBLl
      have rC : wr.cell? ⟨w.heap.size, 0, none⟩ = some (.func (.func 22) #[] #[]) := held_cell HY.out HcC.out hBCl
      have rX0 : wr.cell? ⟨Bx, 0, none⟩ = some (.int .i64 x.t) := held_cell HY.out HX0.out hBxl
      have rX1 : wr.cell? ⟨Bx, 1, none⟩ = some (.int .i64 x.n) := held_cell HY.out HX1.out hBxl
      have hyL : w.heap.size + 1 < wr.heap.size := Nat.lt_of_lt_of_le hBLl HY.out.size
      have hyC : w.heap.size < wr.heap.size := Nat.lt_of_lt_of_le hBCl HY.out.size
      have hyX : Bx < wr.heap.size := Nat.lt_of_lt_of_le hBxl HY.out.size
      by_cases hk0 : k = 0
      · subst hk0
        have HPE : Hid (placeP out x L = 0) := HPL
        gi_wp2
        refine wpIn_region_slotsG 13 [[(7, false)], [(12, true)], [(13, true)], [(3, false), (14, true)], [(5, false), (14, true)], [(7, false), (14, true)], [(17, true), (14, true)], [(16, true), (18, true), (14, true)], [(19, true), (14, true)], [(6, false), (14, true)], [(15, true), (20, true), (21, true), (14, true)], [(22, true), (14, true)], [(14, true), (23, true)]] (fun w' => Below wr.heap.size wr w') (fun w w' => Below w.heap.size w w') (by rfl) (by kernel_rfl) (by kernel_rfl) (by rfl) (Below.refl _ _).drew (fun w w' h1 h2 => below_step h1 h1.size h2) ?_
        iterate 3 (apply slot_eq_g; · (rintro ρ w' ⟨p1, p2, p3⟩ hS hn; simp at hn; refine ⟨fun _ _ => trivial, ?_⟩; go_simp; exact ⟨Below.refl _ _, rfl⟩))
        iterate 9 (apply slot_eq_g; · (rintro ρ w' ⟨p1, p2, p3⟩ hS hn; simp at hn; exact ⟨fun _ _ => trivial, 14, false, rfl, (by first | exact hn.2 | exact hn.2.2 | exact hn.2.2.2), (by rw [if_neg (by simp)]; exact ⟨Below.refl _ _, rfl⟩)⟩))
        apply slot_eq_g
        · rintro ρ w' ⟨p1, p2, p3⟩ hS hn
          simp at hn
          refine ⟨fun _ _ => trivial, ?_⟩
          go_simp
          exact ⟨Below.refl _ _, rfl⟩
        refine slot_end_g ?_
        intro tv w4 hS hF
        simp at hF
        obtain ⟨f24, f23, f22, f21, f20, f19, f18, f17, f16, f15, f14, f13, f12⟩ := hF
        have HY4 : Hid (Below W.heap.size W w4) := below_step HY.out HY.out.size hS
        simp only [List.take_succ_cons, List.take_zero, List.drop_succ_cons, List.drop_zero, putAll, f24, f23, f22, f21, f20, f19, f18, f17, f16, f15, f14, f13, f12]
        clear f24 f23 f22 f21 f20 f19 f18 f17 f16 f15 f14 f13 f12
        simp only [Act.put, List.setIfInBounds_toArray, List.set_cons_succ, List.set_cons_zero]
        clear hS rL rC rX0 rX1
        have qL : w4.cell? ⟨w.heap.size + 1, 0, none⟩ = some (.slice av L cv) := held_cell HY4.out HcL.out hBLl
        have qX0 : w4.cell? ⟨Bx, 0, none⟩ = some (.int .i64 x.t) := held_cell HY4.out HX0.out hBxl
        have qX1 : w4.cell? ⟨Bx, 1, none⟩ = some (.int .i64 x.n) := held_cell HY4.out HX1.out hBxl
        have hg4 : W.grownBy w4 none := ⟨HY4.out.os, HY4.out.tape, HY4.out.output, HY4.out.size, fun k hk _ => HY4.out.block k hk⟩
        have hgA := World.grownBy_alloc w4 (.cells #[.int .i64 x.t, .int .i64 x.n] 32) none
        have HR4 : Hid (RowP w4 W2.heap.size (.slice av L cv) out) := by
          refine Lib.hid ?_
          unfold RowP
          rw [HL.out]
          exact World.ownsRow.kept HR.out hg4 (by
            by_cases e : (Value.slice av L cv).ownBlock = none
            · exact .inl e
            · exact .inr e)
        have HRA : Hid (RowP (w4.alloc (.cells #[.int .i64 x.t, .int .i64 x.n] 32)) W2.heap.size (.slice av L cv) out) := HR4.out.below ((Below.refl _ _).alloc (Nat.le_refl _) _)
        have hs4 : W.heap.size ≤ w4.heap.size := HY4.out.size
        gi_wp2
        refine ⟨trivial, ?_⟩
        refine (CallsIn.inRound l (callsIn_wide.2 (insert_any (.slice av L cv) out (0) w4.heap.size x W2.heap.size _ (by rw [HL.out]; exact hk) (by rw [HL.out]; omega) HRA.out (heap_alloc_new w4 _) (fun e => by
          have h1 := (World.ownsRow.lt HR4.out _ e.symm).2
          omega) (by simp; omega)))).mono ?_
        rintro e w5 ⟨v', rfl, hrow5, hgrow5⟩
        have HNW : Hid (RowP w5 W2.heap.size v' (ringL (pre ++ [x]))) := by
          rw [HSN.out]
          unfold insP
          rw [HL.out, HPE.out]
          exact Lib.hid hrow5
        obtain ⟨a5, c5, rfl, -⟩ := hrow5.form
        have hne : ∀ b, b < W2.heap.size → some b ≠ (Value.slice av L cv).ownBlock := fun b hb => rowP_ne HR4.out hb
        have hv4 := HV.out.kept hg4 (by simp)
        have hvA := hv4.alloc (.cells #[.int .i64 x.t, .int .i64 x.n] 32)
        have hv5 := hvA.kept hgrow5 (hne _ (by omega))
        have q5 := hv5.cell
        have f5 := hv5.frozen
        have HG5 := Lib.hid hgrow5
        clear hrow5 hgrow5 qL qX0 qX1
        gi_wp2
        have hg6 := grownBy_setCell' w5 (w.heap.size + 1) (.slice a5 (putAt out (0) x).length c5)
        refine ⟨?_, ?_, ?_⟩
        · have k1 := (KeepsOthers.of_grownBy hg4 (fun j o e _ => by cases e)).from W2.heap.size
          have k2 := (KeepsOthers.alloc w4 (.cells #[.int .i64 x.t, .int .i64 x.n] 32)).from W2.heap.size
          have k3 := rowP_keeps (B := W2.heap.size) HRA.out HG5.out
          exact ((k1.trans k2).trans k3).trans ((KeepsOthers.setCell _ _ _).from _)
        · have b1 : Below w.heap.size W w4 := HY4.out.mono (by omega)
          have b2 := b1.alloc (by omega) (.cells #[.int .i64 x.t, .int .i64 x.n] 32)
          have b3 := b2.grown HG5.out (by simp; omega) (fun k e => by have := (World.ownsRow.lt HR4.out k e).1; omega)
          exact b3.setCell (p := ⟨w.heap.size + 1, 0, none⟩) (by simp) _
        · refine ⟨⟨_, hv5.set _, ?_⟩, ?_, ?_, ?_⟩
          · exact World.ownsRow.kept HNW.out hg6 (.inr (rowP_ne HNW.out (by omega)).symm)
          · exact (((HC.out.kept hg4 (by simp)).alloc _).kept HG5.out (hne _ (by omega))).kept hg6 (fun e => by injection e with e; omega)
          · have b1 : Below w.heap.size w w4 := HB.out.trans (HY4.out.mono (by omega))
            have b2 := b1.alloc (by omega) (.cells #[.int .i64 x.t, .int .i64 x.n] 32)
            have b3 := b2.grown HG5.out (by simp; omega) (fun k e => by have := (World.ownsRow.lt HR4.out k e).1; omega)
            exact b3.setCell (p := ⟨w.heap.size + 1, 0, none⟩) (by simp) _
          · have h1 := HG5.out.size
            have h2 := hg6.size
            simp only [World.size_alloc] at h1
            omega
      · obtain ⟨j, rfl⟩ : ∃ j, k = j + 1 := ⟨k - 1, by omega⟩
        obtain ⟨b3, o3, hb3, hz3, d0, d1⟩ := HO.out.at HY.out (show j < out.length by rw [HL.out]; omega)
        have ho3 : o3 = 0 := by
          rcases HR.out.2 with ⟨h, _⟩ | ⟨g, cp, cur, h, _⟩
          · injection h with h
            rw [h] at hb3
            cases hb3
          · injection h with h
            rw [h] at hb3
            injection hb3 with hb3
            injection hb3 with _ hb3
            exact hb3.symm
        subst hb3 ho3
        rw [Nat.zero_add] at d0 d1
        have HGC := Lib.hid (gtP_cmp (out.getD j pz) x)
        have HG1 : Hid (gtP (out.getD j pz) x = true → placeP out x (j + 1) = placeP out x j) := placeP_gt
        have HG2 : Hid (gtP (out.getD j pz) x = false → placeP out x (j + 1) = j + 1) := placeP_not
        have i5 : (0 : Int) ≤ (j : Int) := by omega
        have i6 : (j : Int) < (L : Int) := by omega
        have i7 : decide (0 < j + 1) = true := by simp
        have hwj : IntKind.i64.wrap (j : Int) = (j : Int) := by rw [IntKind.wrap_i64]; omega
        generalize out.getD j pz = y at *
        cases hgt : gtP y x
        · have HPE : Hid (placeP out x L = j + 1) := by rw [HPL.out, HG2.out hgt]; exact Lib.hid rfl
          have HGT : Hid (decide (0 < cmpP y x) = false) := by rw [← HGC.out, hgt]; exact Lib.hid rfl
          gi_wp2
          refine wpIn_region_slotsG 13 [[(7, false)], [(12, true)], [(13, true)], [(3, false), (14, true)], [(5, false), (14, true)], [(7, false), (14, true)], [(17, true), (14, true)], [(16, true), (18, true), (14, true)], [(19, true), (14, true)], [(6, false), (14, true)], [(15, true), (20, true), (21, true), (14, true)], [(22, true), (14, true)], [(14, true), (23, true)]] (fun w' => Below wr.heap.size wr w') (fun w w' => Below w.heap.size w w') (by rfl) (by kernel_rfl) (by kernel_rfl) (by rfl) (Below.refl _ _).drew (fun w w' h1 h2 => below_step h1 h1.size h2) ?_
          iterate 3 (apply slot_eq_g; · (rintro ρ w' ⟨p1, p2, p3⟩ hS hn; simp at hn; refine ⟨fun _ _ => trivial, ?_⟩; go_simp; exact ⟨Below.refl _ _, rfl⟩))
          iterate 7 (apply slot_eq_g; · (rintro ρ w' ⟨p1, p2, p3⟩ hS hn; have e1 := held_cell hS rL hyL; have e2 := held_cell hS rC hyC; have e3 := held_cell hS rX0 hyX; have e4 := held_cell hS rX1 hyX; have e5 := held_cell hS d0 hz3; have e6 := held_cell hS d1 hz3; simp at hn; refine ⟨fun _ _ => trivial, 14, true, rfl, (by first | exact hn.2 | exact hn.2.2 | exact hn.2.2.2), ?_⟩; rw [if_pos rfl]; go_simp; exact ⟨Below.refl _ _, rfl⟩))
          apply slot_eq_g
          · rintro ρ w' ⟨p1, p2, p3⟩ hS hn
            simp at hn
            refine ⟨fun _ _ => trivial, 14, true, rfl, hn.2.2.2, ?_⟩
            rw [if_pos rfl]
            go_simp
            refine ⟨(fun h => (by cases h)), ?_⟩
            refine (CallsIn.inRound l (callsIn_wide.2 (pointCmp_any y x w'))).mono ?_
            rintro e w'' ⟨rfl, hb⟩
            exact ⟨_, rfl, hb, rfl⟩
          apply slot_eq_g
          · rintro ρ w' ⟨p1, p2, p3⟩ hS hn
            simp at hn
            refine ⟨fun _ _ => trivial, 14, true, rfl, hn.2, ?_⟩
            rw [if_pos rfl]
            go_simp
            exact ⟨Below.refl _ _, by rw [HGT.out]⟩
          apply slot_eq_g
          · rintro ρ w' ⟨p1, p2, p3⟩ hS hn
            simp at hn
            refine ⟨fun _ _ => trivial, ?_⟩
            go_simp
            exact ⟨Below.refl _ _, rfl⟩
          refine slot_end_g ?_
          intro tv w4 hS hF
          simp at hF
          obtain ⟨f24, f23, f22, f21, f20, f19, f18, f17, f16, f15, f14, f13, f12⟩ := hF
          have HY4 : Hid (Below W.heap.size W w4) := below_step HY.out HY.out.size hS
          simp only [List.take_succ_cons, List.take_zero, List.drop_succ_cons, List.drop_zero, putAll, f24, f23, f22, f21, f20, f19, f18, f17, f16, f15, f14, f13, f12]
          clear f24 f23 f22 f21 f20 f19 f18 f17 f16 f15 f14 f13 f12
          simp only [Act.put, List.setIfInBounds_toArray, List.set_cons_succ, List.set_cons_zero]
          clear hS rL rC rX0 rX1
          have qL : w4.cell? ⟨w.heap.size + 1, 0, none⟩ = some (.slice (some ⟨b3, 0, none⟩) L cv) := held_cell HY4.out HcL.out hBLl
          have qX0 : w4.cell? ⟨Bx, 0, none⟩ = some (.int .i64 x.t) := held_cell HY4.out HX0.out hBxl
          have qX1 : w4.cell? ⟨Bx, 1, none⟩ = some (.int .i64 x.n) := held_cell HY4.out HX1.out hBxl
          have hg4 : W.grownBy w4 none := ⟨HY4.out.os, HY4.out.tape, HY4.out.output, HY4.out.size, fun k hk _ => HY4.out.block k hk⟩
          have hgA := World.grownBy_alloc w4 (.cells #[.int .i64 x.t, .int .i64 x.n] 32) none
          have HR4 : Hid (RowP w4 W2.heap.size (.slice (some ⟨b3, 0, none⟩) L cv) out) := by
            refine Lib.hid ?_
            unfold RowP
            rw [HL.out]
            exact World.ownsRow.kept HR.out hg4 (by
              by_cases e : (Value.slice (some ⟨b3, 0, none⟩) L cv).ownBlock = none
              · exact .inl e
              · exact .inr e)
          have HRA : Hid (RowP (w4.alloc (.cells #[.int .i64 x.t, .int .i64 x.n] 32)) W2.heap.size (.slice (some ⟨b3, 0, none⟩) L cv) out) := HR4.out.below ((Below.refl _ _).alloc (Nat.le_refl _) _)
          have hs4 : W.heap.size ≤ w4.heap.size := HY4.out.size
          gi_wp2
          refine ⟨trivial, ?_⟩
          refine (CallsIn.inRound l (callsIn_wide.2 (insert_any (.slice (some ⟨b3, 0, none⟩) L cv) out ((j + 1)) w4.heap.size x W2.heap.size _ (by rw [HL.out]; exact hk) (by rw [HL.out]; omega) HRA.out (heap_alloc_new w4 _) (fun e => by
            have h1 := (World.ownsRow.lt HR4.out _ e.symm).2
            omega) (by simp; omega)))).mono ?_
          rintro e w5 ⟨v', rfl, hrow5, hgrow5⟩
          have HNW : Hid (RowP w5 W2.heap.size v' (ringL (pre ++ [x]))) := by
            rw [HSN.out]
            unfold insP
            rw [HL.out, HPE.out]
            exact Lib.hid hrow5
          obtain ⟨a5, c5, rfl, -⟩ := hrow5.form
          have hne : ∀ b, b < W2.heap.size → some b ≠ (Value.slice (some ⟨b3, 0, none⟩) L cv).ownBlock := fun b hb => rowP_ne HR4.out hb
          have hv4 := HV.out.kept hg4 (by simp)
          have hvA := hv4.alloc (.cells #[.int .i64 x.t, .int .i64 x.n] 32)
          have hv5 := hvA.kept hgrow5 (hne _ (by omega))
          have q5 := hv5.cell
          have f5 := hv5.frozen
          have HG5 := Lib.hid hgrow5
          clear hrow5 hgrow5 qL qX0 qX1
          gi_wp2
          have hg6 := grownBy_setCell' w5 (w.heap.size + 1) (.slice a5 (putAt out ((j + 1)) x).length c5)
          refine ⟨?_, ?_, ?_⟩
          · have k1 := (KeepsOthers.of_grownBy hg4 (fun j o e _ => by cases e)).from W2.heap.size
            have k2 := (KeepsOthers.alloc w4 (.cells #[.int .i64 x.t, .int .i64 x.n] 32)).from W2.heap.size
            have k3 := rowP_keeps (B := W2.heap.size) HRA.out HG5.out
            exact ((k1.trans k2).trans k3).trans ((KeepsOthers.setCell _ _ _).from _)
          · have b1 : Below w.heap.size W w4 := HY4.out.mono (by omega)
            have b2 := b1.alloc (by omega) (.cells #[.int .i64 x.t, .int .i64 x.n] 32)
            have b3 := b2.grown HG5.out (by simp; omega) (fun k e => by have := (World.ownsRow.lt HR4.out k e).1; omega)
            exact b3.setCell (p := ⟨w.heap.size + 1, 0, none⟩) (by simp) _
          · refine ⟨⟨_, hv5.set _, ?_⟩, ?_, ?_, ?_⟩
            · exact World.ownsRow.kept HNW.out hg6 (.inr (rowP_ne HNW.out (by omega)).symm)
            · exact (((HC.out.kept hg4 (by simp)).alloc _).kept HG5.out (hne _ (by omega))).kept hg6 (fun e => by injection e with e; omega)
            · have b1 : Below w.heap.size w w4 := HB.out.trans (HY4.out.mono (by omega))
              have b2 := b1.alloc (by omega) (.cells #[.int .i64 x.t, .int .i64 x.n] 32)
              have b3 := b2.grown HG5.out (by simp; omega) (fun k e => by have := (World.ownsRow.lt HR4.out k e).1; omega)
              exact b3.setCell (p := ⟨w.heap.size + 1, 0, none⟩) (by simp) _
            · have h1 := HG5.out.size
              have h2 := hg6.size
              simp only [World.size_alloc] at h1
              omega
        · have HPJ : Hid (placeP out x L = placeP out x j) := by rw [HPL.out, HG1.out hgt]; exact Lib.hid rfl
          have HGT : Hid (decide (0 < cmpP y x) = true) := by rw [← HGC.out, hgt]; exact Lib.hid rfl
          gi_wp2
          refine wpIn_region_slotsG 13 [[(7, false)], [(12, true)], [(13, true)], [(3, false), (14, true)], [(5, false), (14, true)], [(7, false), (14, true)], [(17, true), (14, true)], [(16, true), (18, true), (14, true)], [(19, true), (14, true)], [(6, false), (14, true)], [(15, true), (20, true), (21, true), (14, true)], [(22, true), (14, true)], [(14, true), (23, true)]] (fun w' => Below wr.heap.size wr w') (fun w w' => Below w.heap.size w w') (by rfl) (by kernel_rfl) (by kernel_rfl) (by rfl) (Below.refl _ _).drew (fun w w' h1 h2 => below_step h1 h1.size h2) ?_
          iterate 3 (apply slot_eq_g; · (rintro ρ w' ⟨p1, p2, p3⟩ hS hn; simp at hn; refine ⟨fun _ _ => trivial, ?_⟩; go_simp; exact ⟨Below.refl _ _, rfl⟩))
          iterate 7 (apply slot_eq_g; · (rintro ρ w' ⟨p1, p2, p3⟩ hS hn; have e1 := held_cell hS rL hyL; have e2 := held_cell hS rC hyC; have e3 := held_cell hS rX0 hyX; have e4 := held_cell hS rX1 hyX; have e5 := held_cell hS d0 hz3; have e6 := held_cell hS d1 hz3; simp at hn; refine ⟨fun _ _ => trivial, 14, true, rfl, (by first | exact hn.2 | exact hn.2.2 | exact hn.2.2.2), ?_⟩; rw [if_pos rfl]; go_simp; exact ⟨Below.refl _ _, rfl⟩))
          apply slot_eq_g
          · rintro ρ w' ⟨p1, p2, p3⟩ hS hn
            simp at hn
            refine ⟨fun _ _ => trivial, 14, true, rfl, hn.2.2.2, ?_⟩
            rw [if_pos rfl]
            go_simp
            refine ⟨(fun h => (by cases h)), ?_⟩
            refine (CallsIn.inRound l (callsIn_wide.2 (pointCmp_any y x w'))).mono ?_
            rintro e w'' ⟨rfl, hb⟩
            exact ⟨_, rfl, hb, rfl⟩
          apply slot_eq_g
          · rintro ρ w' ⟨p1, p2, p3⟩ hS hn
            simp at hn
            refine ⟨fun _ _ => trivial, 14, true, rfl, hn.2, ?_⟩
            rw [if_pos rfl]
            go_simp
            exact ⟨Below.refl _ _, by rw [HGT.out]⟩
          apply slot_eq_g
          · rintro ρ w' ⟨p1, p2, p3⟩ hS hn
            simp at hn
            refine ⟨fun _ _ => trivial, ?_⟩
            go_simp
            exact ⟨Below.refl _ _, rfl⟩
          refine slot_end_g ?_
          intro tv w4 hS hF
          simp at hF
          obtain ⟨f24, f23, f22, f21, f20, f19, f18, f17, f16, f15, f14, f13, f12⟩ := hF
          have HY4 : Hid (Below W.heap.size W w4) := below_step HY.out HY.out.size hS
          simp only [List.take_succ_cons, List.take_zero, List.drop_succ_cons, List.drop_zero, putAll, f24, f23, f22, f21, f20, f19, f18, f17, f16, f15, f14, f13, f12]
          clear f24 f23 f22 f21 f20 f19 f18 f17 f16 f15 f14 f13 f12
          simp only [Act.put, List.setIfInBounds_toArray, List.set_cons_succ, List.set_cons_zero]
          clear hS rL rC rX0 rX1
          gi_wp2
          go_roundw
          case rel => exact ⟨j, by omega, by go_num, HPJ, HY4⟩
          case measure => simp [intOf]
  case done =>
    rintro D ys W hD rfl hI hK
    obtain ⟨⟨v, hv', hrow⟩, -, hB, hsz⟩ := hI
    have cL := hv'.cell
    gi_wp2
    refine ⟨by simp, .inl ⟨_, _, rfl, run_takeDeferred hK, ?_⟩⟩
    exact ⟨_, results_tmp rfl _ _ _, v, rfl, RowP.mono (ownsRow_putObj hrow _ hK rfl) (by omega), hB.trans (belowK_b (w := w) (Nat.le_refl _) W D _ _ (by omega) hK rfl rfl)⟩
  case stop =>
    rintro D c pre W _ _ h _
    exact h.elim

end Go.Proofs.YtofejfmfbifphacDoor
