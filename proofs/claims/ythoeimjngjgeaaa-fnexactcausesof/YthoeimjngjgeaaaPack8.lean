import Derived.Test.YthoeimjngjgeaaaPack7
import Derived.Test.YthoeimjngjgeaaaPack6
import Derived.Test.YthoeimjngjgeaaaPack1
import Derived.Deep.Slices
import Derived.Deep.Strs
import Derived.Test.YthoeimjngjgeaaaPack2
/- Sets of writes: the contract of impl's writeSet.add, walked. -/
namespace Go.Proofs.Ythoeimjngjgeaaa
open Go.ChangeShapes Go.WideShapes Go.ChangeAt Go.RowKit Go.Joins Go.Maps
attribute [local go_sem ↓] Go.wp_at_zero Go.wp_at_succ

/-- One write, in a new block. -/
def WrNewB (ob : Option Nat) (e : EnG) : Fact := fun v w => ∃ g', v = .slice (some ⟨g', 0, none⟩) 1 1 ∧ some g' ≠ ob ∧ w.heap[g']? = some (.cells #[.int .i64 e.x.k, .int .i64 e.x.c, .int .i64 e.x.s, .int .i64 e.x.q, .int .i64 e.x.v, .bool e.x.de, .slice e.a e.x.xs.length e.cp] 37 (0, 0))

theorem lasts_wrNewB (U : Tmp → Option Tmp) (s : Tmp) (dst : Option Tmp) (ob : Option Nat) (e : EnG) : lastsU U (AppS s ob) dst (WrNewB ob e) := by
  rintro d' _ _ v w w' ⟨g', h1, h2, h3⟩ hr
  have hr' := appS_any hr
  exact ⟨g', h1, h2, (hr'.block g' (Array.getElem?_eq_some_iff.1 h3).1 h2).trans h3⟩

/-- The row with one write more. -/
def WrRowB (Wb : World) (base : Nat) (v0 : Value) (es : List EnG) : Fact := fun v w => RowSh w base v es ∧ NewOr Wb v0 v

theorem lasts_wrRowB (U : Tmp → Option Tmp) (s : Tmp) (ob : Option Nat) (Wb : World) (base : Nat) (v0 : Value) (es : List EnG) : lastsU U (AppS s ob) (some s) (WrRowB Wb base v0 es) := by
  rintro d' hd _ v w w' ⟨h1, h2⟩ hr
  exact ⟨h1.keep fun g hg => (appS_below hd hr).block g (World.ownsRow.lt h1 g hg).2, h2⟩

theorem appS_of_below {s : Tmp} {ob : Option Nat} {d : Option Tmp} {w w' : World} (hd : d ≠ some s) (h : Below w.heap.size w w') : AppS s ob d w w' := by
  unfold AppS
  rw [if_neg hd]
  exact h

/-- The set has x besides; it holds no block that was there and not its own, and none other has turned. -/
def Added (w0 w : World) (b n base : Nat) (V : Dp → Option Value) (ks : List Wr) (w' : World) : Prop := ∃ V' E', SetIs w0 w' b (n + 1) base V' E' ks ∧ (∀ y, SetS b V' y → SetS b V y ∨ w.heap.size ≤ y) ∧ But (SetS b V) w w'

set_option maxRecDepth 100000 in
set_option maxHeartbeats 8000000 in
theorem setAdd_any (b n base : Nat) (V : Dp → Option Value) (E : Dp → List EnG) (ks : List Wr) (x : Wr) (ad : Option Addr) (cp : Nat) (w0 w : World) (hn : n ≤ 1000000000) (hln : ∀ d, (E d).length ≤ 1048576) (hx : WrR x) (hxl : x.xs.length ≤ 1048576) (hd : IsDeps w0 ad x.xs) (hb : Below w0.heap.size w0 w) (hbs : base ≤ w.heap.size) (h : SetIs w0 w b n base V E ks) :
    Calls Try.prog 56 #[.map (some b), wrOf x ad cp] w fun e w' => e = .returned (.tuple #[]) ∧ Added w0 w b n base V (ks ++ [x]) w' := by
  have hok : keyD.ok (dpOf x) := ⟨hx.1, hx.2.1, hx.2.2.1, hx.2.2.2.1⟩
  obtain ⟨i, fb, hf⟩ := found_ex (h.rise (dpOf x)) x
  have hfb : fb = hasW ks x := (found_has (h.rise (dpOf x)) hf).trans (h.has x)
  have hln' := hln (dpOf x)
  have hil : i ≤ (E (dpOf x)).length := by have := hf.1; rwa [xsOf_len] at this
  have HF := Lib.hid hf
  have HH := Lib.hid h
  have HB := Lib.hid hb
  have HD := Lib.hid hd
  have HFB := Lib.hid hfb
  have HOK := Lib.hid hok
  obtain ⟨a, cap, hva, -, -⟩ := (h.theRow (dpOf x)).isWs (h.deps (dpOf x)) hb
  have HVA := Lib.hid hva
  have HWS : Hid (∀ W, Below w.heap.size w W → IsWs W a (xsOf (E (dpOf x))) ∧ Few (xsOf (E (dpOf x)))) := fun W hW => by
    obtain ⟨a', cap', h1, h2, h3⟩ := ((HH.out.below hW).theRow (dpOf x)).isWs (HH.out.deps (dpOf x)) (below_step HB.out HB.out.size hW)
    rw [HVA.out] at h1
    injection h1 with h1 _ _
    subst h1
    exact ⟨h2, h3⟩
  have HBS : Hid (∀ W, Below w.heap.size w W → Calls Try.prog 60 #[.slice a (E (dpOf x)).length cap, wrOf x ad cp, .func (.func 61) #[] #[]] W fun e w' => e = .returned (.tuple #[.int .i64 (i : Int), .bool fb]) ∧ Below W.heap.size W w') := fun W hW =>
    bsearch_is a _ cap (xsOf (E (dpOf x))) x ad cp W HF.out (xsOf_len _) (by omega) (HWS.out W hW).2 hxl (HWS.out W hW).1 (HD.out.below (below_step HB.out HB.out.size hW)) (HH.out.rise (dpOf x))
  have HLK : Hid (∀ W, Below w.heap.size w W → MapIs keyD W b n V) := fun W hW => (HH.out.below hW).map
  have HGV : Hid ((V (dpOf x)).getD (.slice none 0 0) = .slice a (E (dpOf x)).length cap) := hva
  have HRW : Hid (∀ W, Below w.heap.size w W → RowSh W base (.slice a (E (dpOf x)).length cap) (E (dpOf x))) := fun W hW => by
    have h1 := (HH.out.below hW).theRow (dpOf x)
    rwa [HVA.out] at h1
  have HOB : Hid (∀ g, (Value.slice a (E (dpOf x)).length cap).ownBlock = some g → g < w.heap.size) := fun g hg => (World.ownsRow.lt (HRW.out w (Below.refl _ _)) g hg).2
  have HSM : Hid (∀ w4 w5 v', fb = false → RowSh w4 base v' (putAtW (E (dpOf x)) i ⟨x, ad, 0, cp⟩) → w.grownBy w4 (Value.slice a (E (dpOf x)).length cap).ownBlock → NewOr w (.slice a (E (dpOf x)).length cap) v' → (∀ g : Dp → Option Value, g (dpOf x) = some v' → (∀ j, j ≠ dpOf x → g j = V j) → MapIs keyD w5 b (n + 1) g) → w4.grownBy w5 (some b) → Added w0 w b n base V (ks ++ [x]) w5) := fun w4 w5 v' hfb h1 h2 h3 h4 h5 => by
    rw [← HVA.out] at h2 h3
    exact ⟨_, _, HH.out.more hxl HD.out (by rw [← hfb]; exact HF.out) h1 h2 h3 h4 h5⟩
  have HSS : Hid (∀ W, fb = true → Below w.heap.size w W → Added w0 w b n base V (ks ++ [x]) W) := fun W h1 h2 => ⟨V, E, (HH.out.below h2).same (by rw [← HFB.out, h1]), fun y hy => .inl hy, Below.but h2 _⟩
  have HMB : Hid (b < w.heap.size ∧ some b ≠ (Value.slice a (E (dpOf x)).length cap).ownBlock) := ⟨HH.out.map.lt, fun e => by
    rw [← HVA.out] at e
    unfold rowV at e
    cases hv : V (dpOf x) with
    | none => rw [hv] at e; simp [Value.ownBlock] at e
    | some v => rw [hv] at e; exact HH.out.off _ v hv e.symm⟩
  clear h hb hd hva hfb hf hln
  obtain ⟨xk, xc, xs', xq, xv, xd, xx⟩ := x
  generalize hEE : E (dpOf ⟨xk, xc, xs', xq, xv, xd, xx⟩) = es at *
  obtain ⟨L, hL⟩ : ∃ L, es.length = L := ⟨_, rfl⟩
  have HLN := Lib.hid hL
  rw [hL] at HBS HGV HRW HOB HSM HMB hln' hil
  clear hL hEE HF HH HD HFB HVA HWS
  unfold wrOf at HBS ⊢
  simp only at HBS ⊢
  have HA : Hid (Below w.heap.size w (w.alloc (.cells #[.int .i64 xk, .int .i64 xc, .int .i64 xs', .int .i64 xq, .int .i64 xv, .bool xd, .slice ad xx.length cp] 37))) := (Below.refl _ _).alloc (Nat.le_refl _) _
  have HBX : Hid ((w.alloc (.cells #[.int .i64 xk, .int .i64 xc, .int .i64 xs', .int .i64 xq, .int .i64 xv, .bool xd, .slice ad xx.length cp] 37)).heap[w.heap.size]? = some (.cells #[.int .i64 xk, .int .i64 xc, .int .i64 xs', .int .i64 xq, .int .i64 xv, .bool xd, .slice ad xx.length cp] 37 (0, 0))) := heap_alloc_new _ _
  have HSZ : Hid (w.heap.size < (w.alloc (.cells #[.int .i64 xk, .int .i64 xc, .int .i64 xs', .int .i64 xq, .int .i64 xv, .bool xd, .slice ad xx.length cp] 37)).heap.size) := by show _ < _; simp
  go_enter Try.func56, Try.ntmps56
  go_wp2_with fail
  refine (depOn_any ⟨xk, xc, xs', xq, xv, xd, xx⟩ ad cp _).mono ?_
  rintro e w2 ⟨rfl, hb2⟩
  simp only
  have HB2 : Hid (Below w.heap.size w w2) := below_step HA.out HA.out.size hb2
  have HX2 : Hid (w2.heap[w.heap.size]? = some (.cells #[.int .i64 xk, .int .i64 xc, .int .i64 xs', .int .i64 xq, .int .i64 xv, .bool xd, .slice ad xx.length cp] 37 (0, 0))) := (hb2.block _ HSZ.out).trans HBX.out
  have hz2 : w.heap.size < w2.heap.size := Nat.lt_of_lt_of_le HSZ.out hb2.size
  have c0 := cell_of_row w2 w.heap.size 0 _ _ _ HX2.out
  have c1 := cell_of_row w2 w.heap.size 1 _ _ _ HX2.out
  have c2 := cell_of_row w2 w.heap.size 2 _ _ _ HX2.out
  have c3 := cell_of_row w2 w.heap.size 3 _ _ _ HX2.out
  have c4 := cell_of_row w2 w.heap.size 4 _ _ _ HX2.out
  have c5 := cell_of_row w2 w.heap.size 5 _ _ _ HX2.out
  have c6 := cell_of_row w2 w.heap.size 6 _ _ _ HX2.out
  simp at c0 c1 c2 c3 c4 c5 c6
  clear hb2 HA HBX HSZ
  have HML := Lib.hid (HLK.out w2 HB2.out)
  go_wp2_with (at_lookup; refine wpList_lookG1 (K := keyD) (by rfl) _ _ 95 30 (by rfl) Try.underlying95 (setZero _) HML.out (dpOf ⟨xk, xc, xs', xq, xv, xd, xx⟩) HOK.out (by rfl) (by rfl) ?_; simp only [HGV.out])
  refine (HBS.out _ HB2.out).mono ?_
  rintro e w3 ⟨rfl, hb3⟩
  have HB3 : Hid (Below w.heap.size w w3) := below_step HB2.out HB2.out.size hb3
  have HX3 : Hid (w3.heap[w.heap.size]? = some (.cells #[.int .i64 xk, .int .i64 xc, .int .i64 xs', .int .i64 xq, .int .i64 xv, .bool xd, .slice ad xx.length cp] 37 (0, 0))) := (hb3.block _ hz2).trans HX2.out
  have hz3 : w.heap.size < w3.heap.size := Nat.lt_of_lt_of_le hz2 hb3.size
  clear hb3 HB2 HX2 hz2 c0 c1 c2 c3 c4 c5 c6 HML
  cases fb with
  | true =>
    have HR := Lib.hid (HSS.out w3 rfl HB3.out)
    go_wp2
    exact bodyPost_end (v := .tuple #[]) (by simp [results, Try.results56]) rfl ⟨rfl, HR.out⟩
  | false =>
    go_wp2_with fail
    obtain ⟨ob, hob⟩ : ∃ ob, (Value.slice a L cap).ownBlock = ob := ⟨_, rfl⟩
    rw [hob] at HSM HMB
    have HOB2 : Hid (∀ g, ob = some g → g < w.heap.size) := fun g hg => HOB.out g (by rw [hob]; exact hg)
    have HOBE := Lib.hid hob
    have HCL : Hid (∀ w', w3.grownBy w' ob → w'.cell? ⟨w.heap.size, 0, none⟩ = some (.int .i64 xk) ∧ w'.cell? ⟨w.heap.size, 1, none⟩ = some (.int .i64 xc) ∧ w'.cell? ⟨w.heap.size, 2, none⟩ = some (.int .i64 xs') ∧ w'.cell? ⟨w.heap.size, 3, none⟩ = some (.int .i64 xq) ∧ w'.cell? ⟨w.heap.size, 4, none⟩ = some (.int .i64 xv) ∧ w'.cell? ⟨w.heap.size, 5, none⟩ = some (.bool xd) ∧ w'.cell? ⟨w.heap.size, 6, none⟩ = some (.slice ad xx.length cp)) := fun w' hG => by
      have q := (hG.block w.heap.size hz3 fun e => by have := HOB2.out _ e.symm; omega).trans HX3.out
      refine ⟨?_, ?_, ?_, ?_, ?_, ?_, ?_⟩ <;> (rw [cell_of_row _ _ _ _ _ (0, 0) q]; rfl)
    have HR3 := Lib.hid (HRW.out w3 HB3.out)
    have HM3 := Lib.hid (HLK.out w3 HB3.out)
    clear hob HRW HOB HSS HBS HLK HGV
    refine wp_region_slots_u 8 [[(0, false)], [(3, false)], [(20, true)], [(4, false)], [(5, false)], [(3, false)], [(24, true)], [(22, true), (23, true), (25, true)]] (fun w' => w3.grownBy w' ob) (fun w' => w3.grownBy w' ob) (fun _ w' => w3.grownBy w' ob) (fun d w' => d = some 26 → RowSh w' base (.slice a L cap) es) (fun _ => none) (AppS 26 ob) (by kernel_rfl) (by kernel_rfl) (by rfl) ⟨rfl, rfl, rfl, Nat.le_refl _, fun _ _ _ => rfl⟩ (by kernel_rfl) (fun _ _ => HR3.out) (fun _ h => by cases h) (fun d d' hd w w' h1 h2 h3 => (h1 h3).keep fun g hg => (appS_below (h3 ▸ hd) h2).block g (World.ownsRow.lt (h1 h3) g hg).2) (fun _ _ _ _ _ _ h => by cases h) (fun d _ w w' h1 h2 => grown_trans h1 (appS_any h2)) (fun _ _ _ h => h) (fun _ _ _ h => h) ?_
    have HRF : Hid (∀ (d : Option Tmp) (w : World), d ≠ some 26 → AppS 26 ob d w w) := fun d w hd => appS_refl hd w
    iterate 2 (apply slotU_eq; · (intro ρ w' ⟨p1, p2, p3⟩ hG hEE hn; obtain ⟨c0, c1, c2, c3, c4, c5, c6⟩ := HCL.out w' hG; simp at hn; go_simp; exact ⟨HRF.out _ _ (by simp), rfl⟩))
    apply slotU_eq
    · intro ρ w' ⟨p1, p2, p3⟩ hG hEE hn
      simp at hn
      go_simp
      exact got_call (depOn_any ⟨xk, xc, xs', xq, xv, xd, xx⟩ ad cp w') fun e w'' ⟨he, hb⟩ => ⟨_, he, appS_of_below (by simp) hb, rfl⟩
    iterate 3 (apply slotU_eq; · (intro ρ w' ⟨p1, p2, p3⟩ hG hEE hn; obtain ⟨c0, c1, c2, c3, c4, c5, c6⟩ := HCL.out w' hG; simp at hn; go_simp; exact ⟨HRF.out _ _ (by simp), rfl⟩))
    refine slotU_fact (WrNewB ob ⟨⟨xk, xc, xs', xq, xv, xd, xx⟩, ad, 0, cp⟩) (lasts_wrNewB _ _ _ _ _) ?_ ?_
    · intro ρ w' ⟨p1, p2, p3⟩ hG hEE hn
      simp at hn
      go_simp
      exact ⟨appS_alloc (by simp) _ _, _, rfl, fun e => by have h1 := HOB2.out _ e.symm; have h2 := hG.size; omega, heap_alloc_new _ _⟩
    refine slotU_fact (WrRowB w base (.slice a L cap) (putAtW es i ⟨⟨xk, xc, xs', xq, xv, xd, xx⟩, ad, 0, cp⟩)) (lasts_wrRowB _ _ _ _ _ _ _) ?_ ?_
    · intro ρ w' ⟨p1, p2, p3⟩ hG hEE hn
      simp at hn
      obtain ⟨f22, f23, g', f25, hg3, hg4⟩ := hn
      have hrow := hEE rfl
      have hbw : base ≤ w'.heap.size := by have := hG.size; omega
      go_simp
      exact got_call (insW_any (.slice a L cap) es i g' ⟨⟨xk, xc, xs', xq, xv, xd, xx⟩, ad, 0, cp⟩ base w' (by rw [HLN.out]; exact hil) (by rw [HLN.out]; exact hln') hrow hg4 (by rw [HOBE.out]; exact hg3) hbw) fun e w'' ⟨v', he, h1, h2, h3⟩ => ⟨v', he, appS_grown (by rw [HOBE.out] at h2; exact h2), h1, fun g hg => by
        rcases h3 g hg with h | h
        · exact .inl h
        · exact .inr (by have := hG.size; omega)⟩
    refine slotU_end ?_
    rintro tv w4 hG hF
    simp at hF
    obtain ⟨⟨hrow, hnew⟩, -, f24, f23, f22, f21, f20, f19⟩ := hF
    obtain ⟨v', hv'⟩ : ∃ v', tv 26 = v' := ⟨_, rfl⟩
    rw [hv'] at hrow hnew
    have HM4 : Hid (MapIs keyD w4 b n V) := HM3.out.of_block (hG.block b HM3.out.lt HMB.out.2)
    have HFIN : Hid (∀ w5, (∀ g : Dp → Option Value, g (dpOf ⟨xk, xc, xs', xq, xv, xd, xx⟩) = some v' → (∀ j, j ≠ dpOf ⟨xk, xc, xs', xq, xv, xd, xx⟩ → g j = V j) → MapIs keyD w5 b (n + 1) g) → w4.grownBy w5 (some b) → Added w0 w b n base V (ks ++ [⟨xk, xc, xs', xq, xv, xd, xx⟩]) w5) := fun w5 h1 h2 => HSM.out w4 w5 v' trivial hrow (grown_trans (grown_of_below HB3.out ob) hG) hnew h1 h2
    clear hrow hnew hG HR3 HCL HRF HSM HM3 HMB HX3 HB3
    simp only [List.take_succ_cons, List.take_zero, List.drop_succ_cons, List.drop_zero, putAll, hv', f24, f23, f22, f21, f20, f19]
    clear hv' f24 f23 f22 f21 f20 f19
    simp only [Act.put, List.setIfInBounds_toArray, List.set_cons_succ, List.set_cons_zero]
    refine wpList_putG (K := keyD) (by rfl) _ _ _ 95 30 (by rfl) Try.underlying95 HM4.out (by unfold maxLen; omega) (dpOf ⟨xk, xc, xs', xq, xv, xd, xx⟩) HOK.out v' (by rfl) (by rfl) (by rfl) ?_
    intro w5 hr5 ht5
    have HR5 := Lib.hid (HFIN.out w5 hr5 ht5.grown)
    clear hr5 ht5 HFIN HM4
    go_wp2
    exact bodyPost_end (v := .tuple #[]) (by simp [results, Try.results56]) rfl ⟨rfl, HR5.out⟩

end Go.Proofs.Ythoeimjngjgeaaa

/- A map from dependencies to rows of writes, each row in a block of its own. -/
namespace Go.Proofs.Ythoeimjngjgeaaa
open Go.ChangeShapes Go.WideShapes Go.ChangeAt Go.RowKit Go.Joins Go.Maps

/-- Block b is a map whose rows are those of E. -/
structure RowsIs (w : World) (b n base : Nat) (V : Dp → Option Value) (E : Dp → List EnG) : Prop where
  map : MapIs keyD w b n V
  nil : ∀ d, V d = none → E d = []
  row : ∀ d v, V d = some v → RowSh w base v (E d)
  pos : ∀ d v, V d = some v → ∃ g, v.ownBlock = some g
  off : ∀ d v, V d = some v → v.ownBlock ≠ some b
  apart : ∀ d d' v v', V d = some v → V d' = some v' → d ≠ d' → v.ownBlock ≠ v'.ownBlock

theorem RowsIs.lt {w : World} {b n base : Nat} {V : Dp → Option Value} {E : Dp → List EnG} (h : RowsIs w b n base V E) : ∀ x, SetS b V x → x < w.heap.size := by
  rintro x (rfl | ⟨d, v, h1, h2⟩)
  · exact h.map.lt
  · exact (World.ownsRow.lt (h.row d v h1) x h2).2

theorem RowsIs.base {w : World} {b n base : Nat} {V : Dp → Option Value} {E : Dp → List EnG} (h : RowsIs w b n base V E) (hb : base ≤ b) : ∀ x, SetS b V x → base ≤ x := by
  rintro x (rfl | ⟨d, v, h1, h2⟩)
  · exact hb
  · exact (World.ownsRow.lt (h.row d v h1) x h2).1

theorem RowsIs.keep {w w' : World} {b n base : Nat} {V : Dp → Option Value} {E : Dp → List EnG} (h : RowsIs w b n base V E) (hb : ∀ x, SetS b V x → w'.heap[x]? = w.heap[x]?) : RowsIs w' b n base V E :=
  ⟨h.map.of_block (hb b (.inl rfl)), h.nil, fun d v hv => (h.row d v hv).keep fun g hg => hb g (.inr ⟨d, v, hv, hg⟩), h.pos, h.off, h.apart⟩

theorem RowsIs.below {w w' : World} {b n base : Nat} {V : Dp → Option Value} {E : Dp → List EnG} (h : RowsIs w b n base V E) (hb : Below w.heap.size w w') : RowsIs w' b n base V E :=
  h.keep fun x hx => hb.block x (h.lt x hx)

theorem rowsIs_made (w : World) (base : Nat) : RowsIs (w.alloc (.map #[] 0)) w.heap.size 0 base (fun _ => none) (fun _ => []) where
  map := mapIs_made keyD w
  nil := fun _ _ => rfl
  row := fun _ _ h => by cases h
  pos := fun _ _ h => by cases h
  off := fun _ _ h => by cases h
  apart := fun _ _ _ _ h => by cases h

theorem RowsIs.theRow {w : World} {b n base : Nat} {V : Dp → Option Value} {E : Dp → List EnG} (h : RowsIs w b n base V E) (d : Dp) : RowSh w base (rowV V d) (E d) := by
  unfold rowV
  cases hv : V d with
  | none =>
    rw [h.nil d hv]
    exact ⟨rfl, .inl ⟨rfl, rfl⟩⟩
  | some v => exact h.row d v hv

theorem rowV_own {V : Dp → Option Value} {d : Dp} {g : Nat} (hg : (rowV V d).ownBlock = some g) : ∃ v, V d = some v ∧ v.ownBlock = some g := by
  unfold rowV at hg
  cases hv : V d with
  | none => rw [hv] at hg; simp [Value.ownBlock] at hg
  | some v => rw [hv] at hg; exact ⟨v, rfl, hg⟩

/-- One row turned. -/
theorem RowsIs.put {w w4 w5 : World} {b n base : Nat} {V : Dp → Option Value} {E : Dp → List EnG} (h : RowsIs w b n base V E) {d0 : Dp} {es : List EnG} {v' : Value} (hne : es ≠ [])
    (hrow : RowSh w4 base v' es) (hg : w.grownBy w4 (rowV V d0).ownBlock) (hnew : NewOr w (rowV V d0) v') (hmap : ∀ g : Dp → Option Value, g d0 = some v' → (∀ j, j ≠ d0 → g j = V j) → MapIs keyD w5 b (n + 1) g) (ht : w4.grownBy w5 (some b)) :
    RowsIs w5 b (n + 1) base (updD V d0 (some v')) (updD E d0 es) ∧ (∀ y, SetS b (updD V d0 (some v')) y → SetS b V y ∨ w.heap.size ≤ y) ∧ But (SetS b V) w w5 := by
  have hbl : b < w.heap.size := h.map.lt
  have hvb : v'.ownBlock ≠ some b := fun e => by
    rcases hnew b e with h1 | h1
    · obtain ⟨v, v1, v2⟩ := rowV_own h1
      exact h.off _ v v1 v2
    · omega
  have hpos : ∃ g, v'.ownBlock = some g := by
    rcases hrow.2 with ⟨_, h0⟩ | ⟨g, cap, cur, h1, _⟩
    · exact absurd (List.length_eq_zero_iff.1 h0) hne
    · exact ⟨g, by rw [h1]; rfl⟩
  have hkeep : ∀ d v, V d = some v → d ≠ d0 → ∀ g, v.ownBlock = some g → w5.heap[g]? = w.heap[g]? := fun d v hv hne g hgv => by
    have hlt : g < w.heap.size := (World.ownsRow.lt (h.row d v hv) g hgv).2
    have h1 : some g ≠ (rowV V d0).ownBlock := fun e => by
      obtain ⟨u, u1, u2⟩ := rowV_own e.symm
      exact h.apart d d0 v u hv u1 hne (by rw [hgv, u2])
    have h2 : some g ≠ some b := fun e => h.off d v hv (by rw [hgv]; exact e)
    exact (ht.block g (Nat.lt_of_lt_of_le hlt hg.size) h2).trans (hg.block g hlt h1)
  have hrow5 : RowSh w5 base v' es := hrow.keep fun g hgv => ht.block g (World.ownsRow.lt hrow g hgv).2 fun e => hvb (by rw [hgv]; exact e)
  refine ⟨⟨hmap _ (updD_at _ _ _) fun j hj => updD_off _ _ _ hj, ?_, ?_, ?_, ?_, ?_⟩, ?_, ?_⟩
  · intro d hv
    rcases dp_ne (d := d) (d' := d0) with rfl | hne
    · rw [updD_at] at hv
      cases hv
    · rw [updD_off _ _ _ hne] at hv ⊢
      exact h.nil d hv
  · intro d v hv
    rcases dp_ne (d := d) (d' := d0) with rfl | hne
    · rw [updD_at] at hv ⊢
      obtain rfl : v' = v := by simpa using hv
      exact hrow5
    · rw [updD_off _ _ _ hne] at hv ⊢
      exact (h.row d v hv).keep (hkeep d v hv hne)
  · intro d v hv
    rcases dp_ne (d := d) (d' := d0) with rfl | hne
    · rw [updD_at] at hv
      obtain rfl : v' = v := by simpa using hv
      exact hpos
    · rw [updD_off _ _ _ hne] at hv
      exact h.pos d v hv
  · intro d v hv
    rcases dp_ne (d := d) (d' := d0) with rfl | hne
    · rw [updD_at] at hv
      obtain rfl : v' = v := by simpa using hv
      exact hvb
    · rw [updD_off _ _ _ hne] at hv
      exact h.off d v hv
  · have hap : ∀ d v, V d = some v → d ≠ d0 → v.ownBlock ≠ v'.ownBlock := fun d v hv hne e => by
      obtain ⟨g, hgv⟩ := h.pos d v hv
      rw [hgv] at e
      rcases hnew g e.symm with h1 | h1
      · obtain ⟨u, u1, u2⟩ := rowV_own h1
        exact h.apart d d0 v u hv u1 hne (by rw [hgv, u2])
      · have := (World.ownsRow.lt (h.row d v hv) g hgv).2
        omega
    intro d d' v u hv hu hne
    rcases dp_ne (d := d) (d' := d0) with rfl | h1
    · rw [updD_at] at hv
      obtain rfl : v' = v := by simpa using hv
      rw [updD_off _ _ _ hne.symm] at hu
      exact fun e => hap d' u hu hne.symm e.symm
    · rw [updD_off _ _ _ h1] at hv
      rcases dp_ne (d := d') (d' := d0) with rfl | h2
      · rw [updD_at] at hu
        obtain rfl : v' = u := by simpa using hu
        exact hap d v hv h1
      · rw [updD_off _ _ _ h2] at hu
        exact h.apart d d' v u hv hu hne
  · rintro y (rfl | ⟨d, v, hv, hy⟩)
    · exact .inl (.inl rfl)
    · rcases dp_ne (d := d) (d' := d0) with rfl | hne
      · rw [updD_at] at hv
        obtain rfl : v' = v := by simpa using hv
        rcases hnew y hy with h1 | h1
        · obtain ⟨u, u1, u2⟩ := rowV_own h1
          exact .inl (.inr ⟨_, u, u1, u2⟩)
        · exact .inr h1
      · rw [updD_off _ _ _ hne] at hv
        exact .inl (.inr ⟨d, v, hv, hy⟩)
  · refine ⟨ht.os.trans hg.os, ht.tape.trans hg.tape, ht.output.trans hg.output, Nat.le_trans hg.size ht.size, fun k hk hn => ?_⟩
    refine (ht.block k (Nat.lt_of_lt_of_le hk hg.size) fun e => hn (.inl (by injection e))).trans (hg.block k hk fun e => ?_)
    obtain ⟨u, u1, u2⟩ := rowV_own e.symm
    exact hn (.inr ⟨_, u, u1, u2⟩)

/-- One row struck out. -/
theorem RowsIs.del {w w5 : World} {b n base : Nat} {V : Dp → Option Value} {E : Dp → List EnG} (h : RowsIs w b n base V E) {d0 : Dp} (hmap : ∀ g : Dp → Option Value, g d0 = none → (∀ j, j ≠ d0 → g j = V j) → MapIs keyD w5 b n g) (ht : w.grownBy w5 (some b)) :
    RowsIs w5 b n base (updD V d0 none) (updD E d0 []) ∧ (∀ y, SetS b (updD V d0 none) y → SetS b V y) := by
  have hold : ∀ d v, updD V d0 none d = some v → d ≠ d0 ∧ V d = some v := fun d v hv => by
    rcases dp_ne (d := d) (d' := d0) with rfl | hne
    · rw [updD_at] at hv
      cases hv
    · rw [updD_off _ _ _ hne] at hv
      exact ⟨hne, hv⟩
  refine ⟨⟨hmap _ (updD_at _ _ _) fun j hj => updD_off _ _ _ hj, fun d hv => ?_, fun d v hv => ?_, fun d v hv => h.pos d v (hold d v hv).2, fun d v hv => h.off d v (hold d v hv).2, fun d d' v v' hv hv' => h.apart d d' v v' (hold d v hv).2 (hold d' v' hv').2⟩, ?_⟩
  · rcases dp_ne (d := d) (d' := d0) with rfl | hne
    · exact updD_at _ _ _
    · rw [updD_off _ _ _ hne] at hv ⊢
      exact h.nil d hv
  · obtain ⟨hne, hv'⟩ := hold d v hv
    rw [updD_off _ _ _ hne]
    exact (h.row d v hv').keep fun g hg => ht.block g (World.ownsRow.lt (h.row d v hv') g hg).2 fun e => h.off d v hv' (by rw [hg]; exact e)
  · rintro y (rfl | ⟨d, v, hv, hy⟩)
    · exact .inl rfl
    · exact .inr ⟨d, v, (hold d v hv).2, hy⟩

end Go.Proofs.Ythoeimjngjgeaaa

/- Batches of one's own, marked: the contracts of markBatchS and heldBatchS. -/
namespace Go.Proofs.Ythoeimjngjgeaaa
open Go.ChangeShapes Go.WideShapes Go.ChangeAt Go.RowKit Go.Joins
attribute [local go_sem ↓] Go.wp_at_zero Go.wp_at_succ

/-- A batch: its writes, where they are said to lie, their room, between which block numbers, and where their dependencies lie. -/
structure Bat where
  ws : List Wr
  a : Option Addr
  cap : Nat
  lo : Nat
  hi : Nat
  γ : Nat → Nat

def btz : Bat := ⟨[], none, 0, 0, 0, fun _ => 0⟩

def batV (e : Bat) : Value := .slice e.a e.ws.length e.cap

def BatsAt (w : World) (b : Nat) (es : List Bat) : Prop := ∀ i, i < es.length → w.cell? ⟨b, i, none⟩ = some (batV (es.getD i btz))

/-- Batches of one's own: a row, and each batch's memory apart from the row and from the others'. -/
def OwnB (w : World) (lo hi : Nat) (a : Option Addr) (es : List Bat) : Prop :=
  es = [] ∨ ∃ b, a = some ⟨b, 0, none⟩ ∧ lo ≤ b ∧ b < hi ∧ b < w.heap.size ∧ BatsAt w b es ∧ (∀ i, i < es.length → lo ≤ (es.getD i btz).lo ∧ (es.getD i btz).hi ≤ hi ∧ (b < (es.getD i btz).lo ∨ (es.getD i btz).hi ≤ b) ∧ OwnA w (es.getD i btz).lo (es.getD i btz).hi (es.getD i btz).a (es.getD i btz).ws (es.getD i btz).γ) ∧ ∀ i j, i < j → j < es.length → (es.getD i btz).hi ≤ (es.getD j btz).lo

set_option maxRecDepth 100000 in
theorem BatsAt.of_block {w w' : World} {b : Nat} {es : List Bat} (h : BatsAt w b es) (hb : w'.heap[b]? = w.heap[b]?) : BatsAt w' b es := fun i hi => (World.cell?_of_block (a := ⟨b, i, none⟩) hb).trans (h i hi)

set_option maxRecDepth 100000 in
theorem OwnB.below {w w' : World} {lo hi : Nat} {a : Option Addr} {es : List Bat} (h : OwnB w lo hi a es) (hb : Below w.heap.size w w') : OwnB w' lo hi a es := by
  rcases h with h | ⟨b, h1, h2, h3, h4, h5, h6, h7⟩
  · exact .inl h
  · exact .inr ⟨b, h1, h2, h3, Nat.lt_of_lt_of_le h4 hb.size, h5.of_block (hb.block b h4), fun i hi => ⟨(h6 i hi).1, (h6 i hi).2.1, (h6 i hi).2.2.1, (h6 i hi).2.2.2.below hb⟩, h7⟩

set_option maxRecDepth 100000 in
theorem OwnB.only {w w' : World} {S : Nat → Prop} {lo hi : Nat} {a : Option Addr} {es : List Bat} (h : OwnB w lo hi a es) (ho : Only S w w') (hS : ∀ x, S x → x < lo) : OwnB w' lo hi a es := by
  rcases h with h | ⟨b, h1, h2, h3, h4, h5, h6, h7⟩
  · exact .inl h
  · exact .inr ⟨b, h1, h2, h3, by rw [ho.size]; exact h4, h5.of_block (ho.block b fun e => by have := hS b e; omega), fun i hi => ⟨(h6 i hi).1, (h6 i hi).2.1, (h6 i hi).2.2.1, (h6 i hi).2.2.2.only ho fun x hx => by have := hS x hx; have := (h6 i hi).1; omega⟩, h7⟩

def batsOf (es : List Bat) : List (List Wr) := es.map (·.ws)

set_option maxRecDepth 100000 in
theorem batsOf_get (es : List Bat) {i : Nat} (h : i < es.length) : (batsOf es).getD i [] = (es.getD i btz).ws := by
  simp [batsOf, List.getD, h]

set_option maxRecDepth 100000 in
theorem OwnB.isBs {w : World} {lo hi : Nat} {a : Option Addr} {es : List Bat} (h : OwnB w lo hi a es) (hx : FewB (batsOf es)) : IsBs w a (batsOf es) := by
  rcases h with h | ⟨b, h1, h2, h3, h4, h5, h6, h7⟩
  · exact .inl (by rw [h]; rfl)
  · refine .inr ⟨b, 0, h1, h4, fun i hi => ?_⟩
    have hi' : i < es.length := by simpa [batsOf] using hi
    have hf := (hx i hi).2
    rw [batsOf_get es hi'] at hf ⊢
    exact ⟨_, _, by rw [Nat.zero_add]; exact h5 i hi', (h6 i hi').2.2.2.isWs hf⟩

/-- How far the marks have come behind these batches. -/
def markKB (es : List Bat) (k : Int) : Int := es.foldl (fun k e => markK e.ws k e.ws.length) k

set_option maxRecDepth 100000 in
theorem markKB_take (es : List Bat) (k : Int) {i : Nat} (h : i < es.length) : markKB (es.take (i + 1)) k = markK (es.getD i btz).ws (markKB (es.take i) k) (es.getD i btz).ws.length := by
  unfold markKB
  have e : es.take (i + 1) = es.take i ++ [es.getD i btz] := by
    rw [List.take_add_one, List.getElem?_eq_getElem h]
    simp [List.getD, h]
  rw [e, List.foldl_append]
  rfl

/-- All that is marked stays within bounds. -/
def TameB (es : List Bat) (k : Int) : Prop := (∀ i, i < es.length → (es.getD i btz).ws.length ≤ 1048576 ∧ bulk (es.getD i btz).ws ≤ 1048576) ∧ ∀ i, i ≤ es.length → 0 ≤ markKB (es.take i) k ∧ markKB (es.take i) k ≤ 1073741824

/-- A batch that is marked, its memory between two block numbers. -/
def MarkedS (w : World) (e : Bat) (k : Int) : Prop := MarkedA w e.a e.ws e.γ k ∧ (e.ws = [] ∨ ∃ b, e.a = some ⟨b, 0, none⟩ ∧ e.lo ≤ b ∧ b < e.hi ∧ ∀ i, i < e.ws.length → 0 < (e.ws.getD i wz).xs.length → e.lo ≤ e.γ i ∧ e.γ i < e.hi)

set_option maxRecDepth 100000 in
theorem MarkedWs.of_blocks {w w' : World} {b : Nat} {ws : List Wr} {γ : Nat → Nat} {k : Int} (h : MarkedWs w b ws γ k) (hb : w'.heap[b]? = w.heap[b]?) (h2 : ∀ i, i < ws.length → 0 < (ws.getD i wz).xs.length → w'.heap[γ i]? = w.heap[γ i]?) : MarkedWs w' b ws γ k := by
  intro i hi
  obtain ⟨⟨e0, e1, e2, e3, e4, e5, a, cp, e6, e7⟩, hd⟩ := h i hi
  have c : ∀ o, w'.cell? ⟨b, o, none⟩ = w.cell? ⟨b, o, none⟩ := fun o => World.cell?_of_block (a := ⟨b, o, none⟩) hb
  exact ⟨⟨(c _).trans e0, (c _).trans e1, (c _).trans e2, (c _).trans e3, (c _).trans e4, (c _).trans e5, a, cp, (c _).trans e6, e7⟩, fun hp => (hd hp).of_block (h2 i hi hp)⟩

set_option maxRecDepth 100000 in
theorem MarkedS.only {w w' : World} {S : Nat → Prop} {e : Bat} {k : Int} (h : MarkedS w e k) (ho : Only S w w') (hS : ∀ x, S x → x < e.lo ∨ e.hi ≤ x) : MarkedS w' e k := by
  refine ⟨?_, h.2⟩
  rcases h.1 with h1 | ⟨b, h1, h2, h3, h4⟩
  · exact .inl h1
  · rcases h.2 with g | ⟨b', g1, g2, g3, g4⟩
    · exact .inl g
    · obtain rfl : b = b' := by rw [h1] at g1; simpa using g1
      exact .inr ⟨b, h1, h2.of_blocks (ho.block b fun hx => by have := hS b hx; omega) fun i hi hp => ho.block _ fun hx => by have := hS _ hx; have := g4 i hi hp; omega, by rw [ho.size]; exact h3, fun i hi hp => by rw [ho.size]; exact h4 i hi hp⟩

/-- Batches that are marked. -/
def MarkedB (w : World) (a : Option Addr) (es : List Bat) (k : Int) : Prop := es = [] ∨ ∃ b, a = some ⟨b, 0, none⟩ ∧ b < w.heap.size ∧ BatsAt w b es ∧ ∀ i, i < es.length → MarkedA w (es.getD i btz).a (es.getD i btz).ws (es.getD i btz).γ (markKB (es.take i) k)

set_option maxRecDepth 100000 in
theorem MarkedB.below {w w' : World} {a : Option Addr} {es : List Bat} {k : Int} (h : MarkedB w a es k) (hb : Below w.heap.size w w') : MarkedB w' a es k := by
  rcases h with h | ⟨b, h1, h2, h3, h4⟩
  · exact .inl h
  · exact .inr ⟨b, h1, Nat.lt_of_lt_of_le h2 hb.size, h3.of_block (hb.block b h2), fun i hi => (h4 i hi).below hb⟩

set_option maxRecDepth 100000 in
theorem OwnA.marked {w w' : World} {e : Bat} {k : Int} (h : OwnA w e.lo e.hi e.a e.ws e.γ) (hm : MarkedA w' e.a e.ws e.γ k) : MarkedS w' e k := by
  refine ⟨hm, ?_⟩
  rcases h with h | ⟨b, h1, h2, h3, h4⟩
  · exact .inl h
  · exact .inr ⟨b, h1, h2.le, h3, fun i hi hp => ⟨(h2.deps i hi hp).1, h4 i hi hp⟩⟩

end Go.Proofs.Ythoeimjngjgeaaa

/- The marks of batches stay within bounds: plain facts. -/
namespace Go.Proofs.Ythoeimjngjgeaaa
open Go.ChangeShapes Go.WideShapes Go.ChangeAt Go.RowKit Go.Joins

set_option maxRecDepth 100000 in
theorem markK_bd (ws : List Wr) (k : Int) : k ≤ markK ws k ws.length ∧ markK ws k ws.length ≤ k + 6 * ((ws.length + bulk ws : Nat) : Int) := by
  unfold markK
  rw [List.take_length]
  constructor <;> (push_cast; omega)

set_option maxRecDepth 100000 in
theorem markKB_bd : ∀ (es : List Bat) (k : Int), k ≤ markKB es k ∧ markKB es k ≤ k + 6 * (heftB (batsOf es) : Int)
  | [], k => by simp [markKB, batsOf, heftB]
  | e :: r, k => by
    have h1 := markK_bd e.ws k
    have h2 := markKB_bd r (markK e.ws k e.ws.length)
    have e1 : markKB (e :: r) k = markKB r (markK e.ws k e.ws.length) := rfl
    have e2 : heftB (batsOf (e :: r)) = e.ws.length + bulk e.ws + heftB (batsOf r) := rfl
    rw [e1, e2]
    generalize markK e.ws k e.ws.length = m at *
    push_cast at *
    omega

set_option maxRecDepth 100000 in
theorem heft_part : ∀ (bs : List (List Wr)) (i : Nat), heftB (bs.take i) ≤ heftB bs
  | [], i => by simp
  | b :: r, 0 => by simp [heftB]
  | b :: r, i + 1 => by
    have := heft_part r i
    simp only [List.take_succ_cons, heftB]
    omega

set_option maxRecDepth 100000 in
theorem tame_heft {es : List Bat} (h : heftB (batsOf es) ≤ 100000000) (h2 : ∀ i, i < es.length → (es.getD i btz).ws.length ≤ 1048576 ∧ bulk (es.getD i btz).ws ≤ 1048576) : TameB es 1 := by
  refine ⟨h2, fun i _ => ?_⟩
  have h3 := markKB_bd (es.take i) 1
  have h4 : batsOf (es.take i) = (batsOf es).take i := by simp [batsOf]
  rw [h4] at h3
  have h5 := heft_part (batsOf es) i
  omega

set_option maxRecDepth 100000 in
theorem tame_small {es : List Bat} (h : heftB (batsOf es) ≤ 1048576) : TameB es 1 := tame_heft (by omega) fun i hi => by
  have h1 := heft_one (batsOf es) i (by simpa [batsOf] using hi)
  rw [batsOf_get es hi] at h1
  omega

end Go.Proofs.Ythoeimjngjgeaaa

/- What was written, told by lists; rows that grow beside a set: plain facts. -/
namespace Go.Proofs.Ythoeimjngjgeaaa
open Go.ChangeShapes Go.WideShapes Go.ChangeAt Go.RowKit Go.Joins

/-- One more, where it is not there. -/
def addW (out : List Wr) (x : Wr) : List Wr := if hasW out x = true then out else out ++ [x]

theorem addW_has {out : List Wr} {x : Wr} (h : hasW out x = true) : addW out x = out := if_pos h

theorem addW_not {out : List Wr} {x : Wr} (h : hasW out x = false) : addW out x = out ++ [x] := if_neg (by rw [h]; simp)

/-- The writes of one event, told behind others. -/
def addE (out : List Wr) (e : Ev) : List Wr := if e.sh = true then out else e.ws.foldl addW out

def writtenL (es : List Ev) : List Wr := es.foldl addE []

theorem foldl_next {α β : Type} (f : β → α → β) (l : List α) (z : β) (d : α) {k : Nat} (h : k < l.length) : (l.take (k + 1)).foldl f z = f ((l.take k).foldl f z) (l.getD k d) := by
  have e : l.take (k + 1) = l.take k ++ [l.getD k d] := by
    rw [List.take_add_one, List.getElem?_eq_getElem h]
    simp [List.getD, h]
  rw [e, List.foldl_append]
  rfl

/-- How much a list of writes is. -/
def wgt (ws : List Wr) : Nat := ws.length + bulk ws

theorem bulk_app : ∀ (a b : List Wr), bulk (a ++ b) = bulk a + bulk b
  | [], b => by simp [bulk]
  | x :: a, b => by
    have := bulk_app a b
    simp only [List.cons_append, bulk]
    omega

theorem addW_wgt (out : List Wr) (x : Wr) : wgt (addW out x) ≤ wgt out + (1 + x.xs.length) := by
  unfold addW
  split
  · omega
  · unfold wgt
    rw [bulk_app, List.length_append]
    simp [bulk]
    omega

theorem addAll_wgt : ∀ (ws : List Wr) (out : List Wr), wgt (ws.foldl addW out) ≤ wgt out + wgt ws
  | [], out => by simp [wgt, bulk]
  | x :: r, out => by
    have h1 := addAll_wgt r (addW out x)
    have h2 := addW_wgt out x
    have e1 : (x :: r).foldl addW out = r.foldl addW (addW out x) := rfl
    have e2 : wgt (x :: r) = (1 + x.xs.length) + wgt r := by simp [wgt, bulk]; omega
    rw [e1]
    omega

theorem addE_wgt (out : List Wr) (e : Ev) : wgt (addE out e) ≤ wgt out + wgt e.ws := by
  unfold addE
  split
  · omega
  · exact addAll_wgt e.ws out

theorem addEs_wgt : ∀ (es : List Ev) (out : List Wr), wgt (es.foldl addE out) ≤ wgt out + heftB (evW es)
  | [], out => by simp [evW, heftB]
  | e :: r, out => by
    have h1 := addEs_wgt r (addE out e)
    have h2 := addE_wgt out e
    have e1 : (e :: r).foldl addE out = r.foldl addE (addE out e) := rfl
    have e2 : heftB (evW (e :: r)) = wgt e.ws + heftB (evW r) := rfl
    rw [e1]
    omega

theorem written_wgt (es : List Ev) : wgt (writtenL es) ≤ heftB (evW es) := by
  have := addEs_wgt es []
  have e : wgt [] = 0 := rfl
  unfold writtenL
  omega

/-- Ahead of each place no more. -/
theorem writing_wgt (es : List Ev) {k j : Nat} (hk : k < es.length) : wgt (((es.getD k evz).ws.take j).foldl addW ((es.take k).foldl addE [])) ≤ heftB (evW es) := by
  have h1 := addAll_wgt ((es.getD k evz).ws.take j) ((es.take k).foldl addE [])
  have h2 := addEs_wgt (es.take k) []
  have e0 : wgt [] = 0 := rfl
  have h3 : wgt ((es.getD k evz).ws.take j) ≤ wgt (es.getD k evz).ws := by
    unfold wgt
    have := bulk_take_le (es.getD k evz).ws j
    have : ((es.getD k evz).ws.take j).length ≤ (es.getD k evz).ws.length := by simp; omega
    omega
  have h4 : heftB (evW (es.take k)) + wgt (es.getD k evz).ws ≤ heftB (evW es) := by
    have h5 := heft_take (evW es) k (by rw [evW_len]; exact hk)
    have h6 := heft_part (evW es) (k + 1)
    have e1 : evW (es.take k) = (evW es).take k := by simp [evW]
    rw [evW_get es hk] at h5
    rw [e1]
    unfold wgt
    omega
  omega

theorem few_wgt {ws : List Wr} (h : wgt ws ≤ 1048576) : Few ws := few_of_bulk (by unfold wgt at h; omega)

/-- A row of writes of one's own, where only other blocks turn. -/
theorem RowG.but {S : Nat → Prop} {w w' : World} {base : Nat} {v : Value} {es : List EnG} (h : RowG w base v es) (hb : But S w w') (h1 : ∀ g, v.ownBlock = some g → ¬ S g) (h2 : ∀ e ∈ es, 0 < e.x.xs.length → ¬ S e.g) : RowG w' base v es where
  own := ownsRow_but h.own hb h1
  deps := fun e he => ⟨(h.deps e he).1.of_block hb.size fun hp => hb.block e.g ((h.deps e he).1 hp).2.2.1 (h2 e he hp), (h.deps e he).2⟩
  apart := h.apart

/-- A row that grows beside a set of the same writes. -/
structure TellI (w wr : World) (b : Nat) (out : List Wr) (v : Value) (es : List EnG) (V : Dp → Option Value) (E : Dp → List EnG) : Prop where
  xs : es.map (·.x) = out
  row : RowG wr w.heap.size v es
  set : SetIs w wr b out.length w.heap.size V E out
  dis1 : ∀ g, v.ownBlock = some g → ¬ SetS b V g
  dis2 : ∀ e ∈ es, 0 < e.x.xs.length → ¬ SetS b V e.g
  below : Below w.heap.size w wr
  blt : w.heap.size ≤ b

theorem TellI.more {w wr w' : World} {b : Nat} {out : List Wr} {v : Value} {es : List EnG} {V : Dp → Option Value} {E : Dp → List EnG} (h : TellI w wr b out v es V E) (hb : Below wr.heap.size wr w') : TellI w w' b out v es V E :=
  ⟨h.xs, h.row.below hb, h.set.below hb, h.dis1, h.dis2, below_step h.below h.below.size hb, h.blt⟩

theorem SetIs.base {w0 w : World} {b n base : Nat} {V : Dp → Option Value} {E : Dp → List EnG} {ks : List Wr} (h : SetIs w0 w b n base V E ks) (hb : base ≤ b) : ∀ x, SetS b V x → base ≤ x := by
  rintro x (rfl | ⟨d, v, h1, h2⟩)
  · exact hb
  · exact (World.ownsRow.lt (h.row d v h1) x h2).1

/-- One more in the set; the row stays. -/
theorem TellI.added {w wr w' : World} {b : Nat} {out : List Wr} {v : Value} {es : List EnG} {V : Dp → Option Value} {E : Dp → List EnG} {x : Wr} (h : TellI w wr b out v es V E) (ha : Added w wr b out.length w.heap.size V (out ++ [x]) w') :
    ∃ V' E', SetIs w w' b (out.length + 1) w.heap.size V' E' (out ++ [x]) ∧ RowG w' w.heap.size v es ∧ (∀ g, v.ownBlock = some g → ¬ SetS b V' g) ∧ (∀ e ∈ es, 0 < e.x.xs.length → ¬ SetS b V' e.g) ∧ Below w.heap.size w w' := by
  obtain ⟨V', E', h1, h2, h3⟩ := ha
  refine ⟨V', E', h1, h.row.but h3 h.dis1 h.dis2, fun g hg hs => ?_, fun e he hp hs => ?_, Below.butOn h.below h3 h.below.size (h.set.base h.blt)⟩
  · rcases h2 g hs with h4 | h4
    · exact h.dis1 g hg h4
    · have := (World.ownsRow.lt h.row.own g hg).2
      omega
  · rcases h2 e.g hs with h4 | h4
    · exact h.dis2 e he hp h4
    · have := ((h.row.deps e he).1 hp).2.2.1
      omega

/-- The row grows by a copy. -/
theorem TellI.told {w w2 w3 w5 : World} {b : Nat} {out : List Wr} {v : Value} {es : List EnG} {V : Dp → Option Value} {E : Dp → List EnG} {x : Wr} {a2 : Option Addr} {g2 cp2 g5 cap5 : Nat} (hx : es.map (·.x) = out) (hs : SetIs w w2 b (out.length + 1) w.heap.size V E (out ++ [x])) (hr : RowG w2 w.heap.size v es) (h1 : ∀ g, v.ownBlock = some g → ¬ SetS b V g) (h2 : ∀ e ∈ es, 0 < e.x.xs.length → ¬ SetS b V e.g) (hbw : Below w.heap.size w w2) (hbl : w.heap.size ≤ b)
    (hb3 : Below w2.heap.size w2 w3) (hf : FreshDeps w2.heap.size w3 a2 g2 x.xs) (hown : w5.ownsRow w.heap.size 37 7 (.slice (some ⟨g5, 0, none⟩) (es.length + 1) cap5) (es.length + 1) (es.flatMap wrValsG ++ wrValsG ⟨x, a2, g2, cp2⟩)) (hgrow : w3.grownBy w5 v.ownBlock) (hg : v.ownBlock = some g5 ∨ g5 = w3.heap.size) :
    TellI w w5 b (out ++ [x]) (.slice (some ⟨g5, 0, none⟩) (es.length + 1) cap5) (es ++ [⟨x, a2, g2, cp2⟩]) V E := by
  have hr3 := hr.below hb3
  have hsz := hb3.size
  have hlt : ∀ y, SetS b V y → y < w2.heap.size := hs.lt
  refine ⟨by rw [List.map_append, hx]; rfl, ?_, ?_, ?_, ?_, ?_, hbl⟩
  · refine hr3.more (hf.mono hbw.size) (fun hp e => ?_) (fun d hd hp hq e => ?_) hown hgrow hg
    · have h3 := (World.ownsRow.lt hr.own g2 e).2
      have h4 := (hf hp).2.1
      omega
    · have h3 := ((hr.deps d hd).1 hp).2.2.1
      have h4 := (hf hq).2.1
      simp only at e
      omega
  · rw [List.length_append]
    exact (hs.below hb3).keep fun y hy => hgrow.block y (by have := hlt y hy; omega) fun e => h1 y e.symm hy
  · intro g hgg hy
    have e : g5 = g := by simpa [Value.ownBlock] using hgg
    subst e
    rcases hg with hg | hg
    · exact h1 g5 hg hy
    · have := hlt g5 hy
      omega
  · intro e he hp hy
    rcases List.mem_append.1 he with he | he
    · exact h2 e he hp hy
    · obtain rfl : e = ⟨x, a2, g2, cp2⟩ := by simpa using he
      have h3 := (hf hp).2.1
      have h4 := hlt _ hy
      simp only at h4
      omega
  · exact (below_step hbw hbw.size hb3).grown hgrow (Nat.le_trans hbw.size hsz) fun j hj => (World.ownsRow.lt hr.own j hj).1

end Go.Proofs.Ythoeimjngjgeaaa

/- Causes of causes: plain facts. -/
namespace Go.Proofs.Ythoeimjngjgeaaa
open Go.ChangeShapes Go.WideShapes Go.ChangeAt Go.RowKit Go.Joins

/-- Is it this write that a dependency speaks of? -/
def matchD (d : Dp) (y : Wr) : Bool := (y.k == d.k) && ((y.c == d.c) && ((y.s == d.s) && (y.q == d.q)))

theorem matchD_iff (d : Dp) (y : Wr) : matchD d y = true ↔ dpOf y = d := by
  unfold matchD dpOf
  cases d
  simp

/-- One write looked at: is it to be told? -/
def cauW (d : Dp) (out : List Wr) (y : Wr) : List Wr := if (matchD d y && !hasW out y) = true then out ++ [y] else out

/-- One dependency looked at. -/
def stepD (all out : List Wr) (d : Dp) : List Wr := all.foldl (cauW d) out

theorem stepD_no {d : Dp} : ∀ (all out : List Wr), (∀ y ∈ all, matchD d y = true → y ∈ out) → stepD all out d = out
  | [], out, _ => rfl
  | y :: r, out, h => by
    have e : stepD (y :: r) out d = stepD r (cauW d out y) d := rfl
    have e1 : cauW d out y = out := if_neg fun hc => by
      rw [Bool.and_eq_true] at hc
      have h1 := (hasW_iff out y).2 (h y (by simp) hc.1)
      rw [h1] at hc
      simp at hc
    rw [e, e1]
    exact stepD_no r out fun z hz => h z (by simp [hz])

theorem stepD_all {d : Dp} : ∀ (all out : List Wr), all.Nodup → (∀ y ∈ all, matchD d y = true → y ∉ out) → stepD all out d = out ++ all.filter (matchD d)
  | [], out, _, _ => by simp [stepD]
  | y :: r, out, hn, h => by
    have e : stepD (y :: r) out d = stepD r (cauW d out y) d := rfl
    obtain ⟨hy, hr⟩ := List.nodup_cons.1 hn
    rw [e]
    by_cases hm : matchD d y = true
    · have h1 : hasW out y = false := by
        cases hb : hasW out y with
        | false => rfl
        | true => exact absurd ((hasW_iff out y).1 hb) (h y (by simp) hm)
      have e1 : cauW d out y = out ++ [y] := if_pos (by rw [hm, h1]; rfl)
      rw [e1, stepD_all r (out ++ [y]) hr fun z hz hmz hzo => ?_, List.filter_cons_of_pos hm, List.append_assoc]
      · rfl
      · rcases List.mem_append.1 hzo with h2 | h2
        · exact h z (by simp [hz]) hmz h2
        · obtain rfl : z = y := by simpa using h2
          exact hy hz
    · have e1 : cauW d out y = out := if_neg (by simp [hm])
      rw [e1, stepD_all r out hr fun z hz => h z (by simp [hz]), List.filter_cons_of_neg hm]

/-- The dependencies that are to be asked, in order. -/
def cauQ (ds : List Dp) (out : List Wr) : List Dp := ds ++ out.flatMap (·.xs)

theorem cauQ_more (ds : List Dp) (out ext : List Wr) : cauQ ds (out ++ ext) = cauQ ds out ++ ext.flatMap (·.xs) := by
  unfold cauQ
  rw [List.flatMap_append, List.append_assoc]

/-- What is told when t dependencies have been asked. -/
def cauRun (all : List Wr) (ds : List Dp) : Nat → List Wr
  | 0 => []
  | t + 1 => if t < (cauQ ds (cauRun all ds t)).length then stepD all (cauRun all ds t) ((cauQ ds (cauRun all ds t)).getD t dz) else cauRun all ds t

theorem cauRun_next {all : List Wr} {ds : List Dp} {t : Nat} (h : t < (cauQ ds (cauRun all ds t)).length) : cauRun all ds (t + 1) = stepD all (cauRun all ds t) ((cauQ ds (cauRun all ds t)).getD t dz) := if_pos h

theorem cauRun_stop {all : List Wr} {ds : List Dp} {t : Nat} (h : (cauQ ds (cauRun all ds t)).length ≤ t) : ∀ u, cauRun all ds (t + u) = cauRun all ds t
  | 0 => rfl
  | u + 1 => by
    have ih := cauRun_stop h u
    have e : cauRun all ds (t + u + 1) = if t + u < (cauQ ds (cauRun all ds (t + u))).length then stepD all (cauRun all ds (t + u)) ((cauQ ds (cauRun all ds (t + u))).getD (t + u) dz) else cauRun all ds (t + u) := rfl
    rw [show t + (u + 1) = t + u + 1 by omega, e, ih, if_neg (by omega)]

/-- Of what has been asked all is told, and nothing else. -/
structure CauI (all : List Wr) (ds : List Dp) (t : Nat) : Prop where
  le : t ≤ (cauQ ds (cauRun all ds t)).length
  sub : ∀ y ∈ cauRun all ds t, y ∈ all
  once : (cauRun all ds t).Nodup
  told : ∀ y ∈ all, y ∈ cauRun all ds t ↔ dpOf y ∈ (cauQ ds (cauRun all ds t)).take t

theorem cauI_zero (all : List Wr) (ds : List Dp) : CauI all ds 0 := ⟨Nat.zero_le _, fun y h => by simp [cauRun] at h, by simp [cauRun], fun y _ => by simp [cauRun]⟩

theorem take_next {α : Type} (l : List α) (d : α) {k : Nat} (h : k < l.length) : l.take (k + 1) = l.take k ++ [l.getD k d] := by
  rw [List.take_add_one, List.getElem?_eq_getElem h]
  simp [List.getD, h]

/-- What the next dependency brings. -/
theorem CauI.next {all : List Wr} {ds : List Dp} {t : Nat} (h : CauI all ds t) (hn : all.Nodup) (ht : t < (cauQ ds (cauRun all ds t)).length) :
    (((cauQ ds (cauRun all ds t)).getD t dz) ∈ (cauQ ds (cauRun all ds t)).take t → cauRun all ds (t + 1) = cauRun all ds t) ∧
    (((cauQ ds (cauRun all ds t)).getD t dz) ∉ (cauQ ds (cauRun all ds t)).take t → cauRun all ds (t + 1) = cauRun all ds t ++ all.filter (matchD ((cauQ ds (cauRun all ds t)).getD t dz))) ∧ CauI all ds (t + 1) := by
  have e := cauRun_next ht
  obtain ⟨d, hd⟩ : ∃ d, (cauQ ds (cauRun all ds t)).getD t dz = d := ⟨_, rfl⟩
  rw [hd] at e ⊢
  have hQ := take_next (cauQ ds (cauRun all ds t)) dz ht
  rw [hd] at hQ
  have h1 : d ∈ (cauQ ds (cauRun all ds t)).take t → cauRun all ds (t + 1) = cauRun all ds t := fun hm => by
    rw [e]
    exact stepD_no all _ fun y hy hmy => (h.told y hy).2 (by rw [(matchD_iff d y).1 hmy]; exact hm)
  have h2 : d ∉ (cauQ ds (cauRun all ds t)).take t → cauRun all ds (t + 1) = cauRun all ds t ++ all.filter (matchD d) := fun hm => by
    rw [e]
    exact stepD_all all _ hn fun y hy hmy hyo => hm (by rw [← (matchD_iff d y).1 hmy]; exact (h.told y hy).1 hyo)
  refine ⟨h1, h2, ?_⟩
  by_cases hm : d ∈ (cauQ ds (cauRun all ds t)).take t
  · have e1 := h1 hm
    refine ⟨by rw [e1]; omega, by rw [e1]; exact h.sub, by rw [e1]; exact h.once, fun y hy => ?_⟩
    rw [e1, hQ, List.mem_append, h.told y hy]
    constructor
    · exact .inl
    · rintro (h3 | h3)
      · exact h3
      · have h4 : dpOf y = d := by simpa using h3
        rw [h4]
        exact hm
  · have e1 := h2 hm
    have hnew : ∀ y, y ∈ all.filter (matchD d) ↔ y ∈ all ∧ dpOf y = d := fun y => by rw [List.mem_filter, matchD_iff]
    have hlen : t + 1 ≤ (cauQ ds (cauRun all ds t)).length := ht
    have hQ2 : (cauQ ds (cauRun all ds (t + 1))).take (t + 1) = (cauQ ds (cauRun all ds t)).take (t + 1) := by
      rw [e1, cauQ_more, List.take_append_of_le_length hlen]
    refine ⟨?_, fun y hy => ?_, ?_, fun y hy => ?_⟩
    · rw [e1, cauQ_more, List.length_append]
      omega
    · rw [e1, List.mem_append] at hy
      rcases hy with hy | hy
      · exact h.sub y hy
      · exact ((hnew y).1 hy).1
    · rw [e1]
      refine List.nodup_append.2 ⟨h.once, hn.filter _, ?_⟩
      intro y hy z hz hyz
      subst hyz
      obtain ⟨ha, hdy⟩ := (hnew y).1 hz
      exact hm (by rw [← hdy]; exact (h.told y ha).1 hy)
    · rw [hQ2, hQ, List.mem_append, e1, List.mem_append, h.told y hy, hnew]
      simp only [List.mem_singleton]
      constructor
      · rintro (h3 | h3)
        · exact .inl h3
        · exact .inr h3.2
      · rintro (h3 | h3)
        · exact .inl h3
        · exact .inr ⟨hy, h3⟩

theorem bulk_mem {y : Wr} : ∀ {l : List Wr}, y ∈ l → ∃ a b, l = a ++ y :: b := fun h => List.append_of_mem h

theorem bulk_sub : ∀ (out all : List Wr), out.Nodup → (∀ y ∈ out, y ∈ all) → wgt out ≤ wgt all
  | [], all, _, _ => by simp [wgt, bulk]
  | y :: r, all, hn, h => by
    obtain ⟨hy, hr⟩ := List.nodup_cons.1 hn
    obtain ⟨a, b, rfl⟩ := List.append_of_mem (h y (by simp))
    have ih := bulk_sub r (a ++ b) hr fun z hz => by
      have h1 := h z (by simp [hz])
      rcases List.mem_append.1 h1 with h2 | h2
      · exact List.mem_append.2 (.inl h2)
      · rcases List.mem_cons.1 h2 with h3 | h3
        · subst h3
          exact absurd hz hy
        · exact List.mem_append.2 (.inr h3)
    have e1 : wgt (a ++ y :: b) = wgt (a ++ b) + (1 + y.xs.length) := by
      unfold wgt
      simp only [bulk_app, List.length_append, List.length_cons, bulk]
      omega
    have e2 : wgt (y :: r) = (1 + y.xs.length) + wgt r := by simp [wgt, bulk]; omega
    omega

theorem flat_bulk : ∀ l : List Wr, (l.flatMap (·.xs)).length = bulk l
  | [] => rfl
  | y :: r => by
    rw [List.flatMap_cons, List.length_append, flat_bulk r]
    rfl

theorem CauI.wgt {all : List Wr} {ds : List Dp} {t : Nat} (h : CauI all ds t) : Proofs.Ythoeimjngjgeaaa.wgt (cauRun all ds t) ≤ Proofs.Ythoeimjngjgeaaa.wgt all := bulk_sub _ _ h.once h.sub

theorem CauI.len {all : List Wr} {ds : List Dp} {t : Nat} (h : CauI all ds t) : (cauQ ds (cauRun all ds t)).length ≤ ds.length + Proofs.Ythoeimjngjgeaaa.wgt all := by
  have h1 := h.wgt
  unfold cauQ
  rw [List.length_append, flat_bulk]
  unfold Proofs.Ythoeimjngjgeaaa.wgt at *
  omega

/-- The causes. -/
def causesL (all : List Wr) (ds : List Dp) : List Wr := cauRun all ds (ds.length + wgt all)

theorem cauI_end {all : List Wr} {ds : List Dp} {t : Nat} (h : CauI all ds t) (he : (cauQ ds (cauRun all ds t)).length ≤ t) : cauRun all ds t = causesL all ds := by
  have h1 := h.len
  have h2 := h.le
  obtain ⟨u, hu⟩ : ∃ u, ds.length + wgt all = t + u := ⟨ds.length + wgt all - t, by omega⟩
  unfold causesL
  rw [hu, cauRun_stop he u]

end Go.Proofs.Ythoeimjngjgeaaa

/- What comes in, opened: tags, dependencies, slices of them, writes. -/
namespace Go.Proofs.Ythoeimjngjgeaaa
open Go.ChangeShapes Go.WideShapes Go.ChangeAt Go.RowKit Go.Joins Go.Deep
set_option maxRecDepth 100000

theorem cellsInt : Try.prog.cellsOf 3 = 1 := by kernel_rfl

theorem cellsTag : Try.prog.cellsOf 24 = 3 := by kernel_rfl

theorem cellsDep : Try.prog.cellsOf 85 = 4 := by kernel_rfl

section
variable {H : Type} {enc : TypeId × Value → H} {w : World} {base : Nat} {spare : Nat → Bool} {held : Bool}

theorem tag_cells {fuel : Nat} {cs : List Value} {x : DataW H × List MemPlace} (h : DataW.trod enc Try.prog w base spare held fuel 24 cs = some x) : ∃ c s q : Int, cs = [.int .i64 c, .int .i64 s, .int .i64 q] := by
  obtain ⟨y0, y1, y2, n, _, hl, h0, h1, h2⟩ := trod_struct3 Try.underlying24 h
  rw [cellsTag] at hl
  match cs, hl with
  | [v0, v1, v2], _ =>
    obtain ⟨a0, e0, _, _⟩ := DataW.trod_int Try.underlying3 h0
    obtain ⟨a1, e1, _, _⟩ := DataW.trod_int Try.underlying3 h1
    obtain ⟨a2, e2, _, _⟩ := DataW.trod_int Try.underlying3 h2
    simp [cellsInt] at e0 e1 e2
    subst e0 e1 e2
    exact ⟨a0, a1, a2, rfl⟩

theorem dep_cells {fuel : Nat} {cs : List Value} {x : DataW H × List MemPlace} (h : DataW.trod enc Try.prog w base spare held fuel 85 cs = some x) : ∃ d : Dp, cs = [.int .i64 d.k, .int .i64 d.c, .int .i64 d.s, .int .i64 d.q] := by
  obtain ⟨y0, y1, n, _, hl, h0, h1⟩ := trod_struct2 Try.underlying85 h
  rw [cellsDep] at hl
  match cs, hl with
  | [v0, v1, v2, v3], _ =>
    obtain ⟨a0, e0, _, _⟩ := DataW.trod_int Try.underlying3 h0
    obtain ⟨c, s, q, e1⟩ := tag_cells h1
    simp [cellsInt] at e0
    simp [cellsTag] at e1
    obtain ⟨e1, e2, e3⟩ := e1
    subst e0 e1 e2 e3
    exact ⟨⟨a0, c, s, q⟩, rfl⟩

theorem add_form {a : Addr} {v : Value} (h : w.cell? a = some v) : a = ⟨a.block, a.off, none⟩ := by
  cases a with
  | mk b o s =>
    cases s with
    | none => rfl
    | some s =>
      simp only [World.cell?] at h
      split at h <;> simp at h

theorem add_plain (b o i : Nat) : (Addr.mk b o none).add i = ⟨b, o + i, none⟩ := by
  unfold Addr.add
  split
  · rename_i h
    rw [h]
    rfl
  · rfl

theorem deps_cells {fuel : Nat} {a : Option Addr} {len cap : Nat} {x : DataW H × List MemPlace} (h : DataW.trod enc Try.prog w base spare held fuel 25 [.slice a len cap] = some x) :
    ∃ xs : List Dp, xs.length = len ∧ len ≤ maxLen ∧ IsDeps w a xs := by
  rcases open_slice Try.underlying25 h with ⟨hcs, _⟩ | ⟨a', len', cap', m, n, D, Pl, hcs, _, hl, hm, hmm, _, hel⟩
  · simp at hcs
    obtain ⟨rfl, rfl, rfl⟩ := hcs
    exact ⟨[], rfl, Nat.zero_le _, .inl rfl⟩
  · simp at hcs
    obtain ⟨rfl, rfl, rfl⟩ := hcs
    have hml : len ≤ m := by rw [hmm]; split <;> omega
    have hd : ∀ i, i < len → ∃ d : Dp, w.cell? (a'.add (i * 4)) = some (.int .i64 d.k) ∧ w.cell? (a'.add (i * 4 + 1)) = some (.int .i64 d.c) ∧ w.cell? (a'.add (i * 4 + 2)) = some (.int .i64 d.s) ∧ w.cell? (a'.add (i * 4 + 3)) = some (.int .i64 d.q) := by
      intro i hi
      obtain ⟨cs', h1, h2⟩ := hel i (by omega)
      rw [cellsDep] at h1
      obtain ⟨_, _, hc⟩ := World.cells?_some h1
      obtain ⟨d, hdd⟩ := dep_cells h2
      rw [hdd] at hc
      have c0 := hc 0 (by omega)
      have c1 := hc 1 (by omega)
      have c2 := hc 2 (by omega)
      have c3 := hc 3 (by omega)
      rw [add_add] at c0 c1 c2 c3
      exact ⟨d, by simpa using c0, by simpa using c1, by simpa using c2, by simpa using c3⟩
    by_cases h0 : len = 0
    · subst h0
      exact ⟨[], rfl, Nat.zero_le _, .inl rfl⟩
    have : Inhabited Dp := ⟨dz⟩
    obtain ⟨f, hf⟩ := choose_lt hd
    have ha : a' = ⟨a'.block, a'.off, none⟩ := by
      have h1 := (hf 0 (by omega)).1
      simp [Addr.add] at h1
      exact add_form h1
    refine ⟨(List.range len).map f, by simp, by omega, .inr ⟨a'.block, a'.off, by rw [← ha], ?_, ?_⟩⟩
    · obtain ⟨cs', h1, _⟩ := hel 0 (by omega)
      rw [cellsDep] at h1
      have h2 := World.cells?_block h1 (by omega)
      simpa [Addr.add] using h2
    · intro i hi
      have hi' : i < len := by simpa using hi
      have hg : ((List.range len).map f).getD i dz = f i := by simp [List.getD, hi']
      rw [hg]
      obtain ⟨h1, h2, h3, h4⟩ := hf i hi'
      rw [ha] at h1 h2 h3 h4
      rw [add_plain] at h1 h2 h3 h4
      exact ⟨h1, h2, h3, h4⟩

theorem open_deps {b0 : Nat} {r : Reach} {v : Value} {d : DataW H} {p : List MemPlace} (hv : Value.okWide Try.prog w r b0 25 v) (h : DataW.Trod enc Try.prog w base (fun _ => true) held 25 v d p) :
    ∃ (a : Option Addr) (len cap : Nat) (xs : List Dp), v = .slice a len cap ∧ (xs.length = len ∧ len ≤ maxLen ∧ IsDeps w a xs) := by
  obtain ⟨a, len, cap, rfl⟩ := okWide_slice Try.underlying25 hv
  obtain ⟨fuel, hf⟩ := h
  obtain ⟨xs, hx⟩ := deps_cells (by simpa [Value.cells] using hf)
  exact ⟨a, len, cap, xs, rfl, hx⟩

theorem cellsBool : Try.prog.cellsOf 4 = 1 := by kernel_rfl

theorem cellsDepS : Try.prog.cellsOf 25 = 1 := by kernel_rfl

theorem cellsWrite : Try.prog.cellsOf 27 = 7 := by kernel_rfl

theorem slice_cells {fuel : Nat} {v : Value} {x : DataW H × List MemPlace} (h : DataW.trod enc Try.prog w base spare held fuel 25 [v] = some x) : ∃ a len cap, v = .slice a len cap := by
  rcases open_slice Try.underlying25 h with ⟨hcs, _⟩ | ⟨a', len', cap', m, n, D, Pl, hcs, _⟩
  · simp at hcs
    exact ⟨_, _, _, hcs⟩
  · simp at hcs
    exact ⟨_, _, _, hcs⟩

theorem open_write {b0 : Nat} {r : Reach} {v : Value} {d : DataW H} {p : List MemPlace} (hv : Value.okWide Try.prog w r b0 27 v) (h : DataW.Trod enc Try.prog w base (fun _ => true) held 27 v d p) :
    ∃ (k c s q va : Int) (de : Bool) (a : Option Addr) (len cap : Nat) (xs : List Dp), v = .agg #[.int .i64 k, .int .i64 c, .int .i64 s, .int .i64 q, .int .i64 va, .bool de, .slice a len cap] ∧ (xs.length = len ∧ len ≤ maxLen ∧ IsDeps w a xs) := by
  obtain ⟨cs, rfl, hsz⟩ := okWide_struct Try.underlying27 hv
  rw [cellsWrite] at hsz
  obtain ⟨fuel, hf⟩ := h
  obtain ⟨xs', n, _, _, _, hlen, hfd⟩ := DataW.trod_struct Try.underlying27 hf
  cases cs with
  | mk l =>
    have hl : l.length = 7 := by simpa using hsz
    match l, hl, xs', hlen with
    | [v0, v1, v2, v3, v4, v5, v6], _, [y0, y1, y2, y3, y4], _ =>
      have g0 := hfd 0 _ rfl
      have g1 := hfd 1 _ rfl
      have g2 := hfd 2 _ rfl
      have g3 := hfd 3 _ rfl
      have g4 := hfd 4 _ rfl
      simp [Value.cells, cellsInt, cellsTag, cellsBool, cellsDepS] at g0 g1 g2 g3 g4
      obtain ⟨k, e0, _, _⟩ := DataW.trod_int Try.underlying3 g0
      obtain ⟨c, s, q, e1⟩ := tag_cells g1
      obtain ⟨va, e2, _, _⟩ := DataW.trod_int Try.underlying3 g2
      obtain ⟨de, e3, _⟩ := DataW.trod_bool Try.underlying4 g3
      obtain ⟨a, len, cap, e4⟩ := slice_cells g4
      simp at e0 e1 e2 e3
      obtain ⟨e1, e1', e1''⟩ := e1
      subst e0 e1 e1' e1'' e2 e3 e4
      obtain ⟨xs, hx⟩ := deps_cells g4
      exact ⟨k, c, s, q, va, de, a, len, cap, xs, rfl, hx⟩

end
end Go.Proofs.Ythoeimjngjgeaaa

/- What comes in, opened: slices of writes. -/
namespace Go.Proofs.Ythoeimjngjgeaaa
open Go.ChangeShapes Go.WideShapes Go.ChangeAt Go.RowKit Go.Joins Go.Deep
set_option maxRecDepth 100000

section
variable {H : Type} {enc : TypeId × Value → H} {w : World} {base : Nat} {spare : Nat → Bool} {held : Bool}

theorem write_cells {fuel : Nat} {cs : List Value} {x : DataW H × List MemPlace} (h : DataW.trod enc Try.prog w base spare held fuel 27 cs = some x) :
    ∃ (y : Wr) (a : Option Addr) (cap : Nat), cs = [.int .i64 y.k, .int .i64 y.c, .int .i64 y.s, .int .i64 y.q, .int .i64 y.v, .bool y.de, .slice a y.xs.length cap] ∧ y.xs.length ≤ maxLen ∧ IsDeps w a y.xs := by
  obtain ⟨xs', n, hl0, _, _, hlen, hfd⟩ := DataW.trod_struct Try.underlying27 h
  have hl : cs.length = 7 := by rw [cellsWrite] at *; assumption
  match cs, hl, xs', hlen with
  | [v0, v1, v2, v3, v4, v5, v6], _, [y0, y1, y2, y3, y4], _ =>
    have g0 := hfd 0 _ rfl
    have g1 := hfd 1 _ rfl
    have g2 := hfd 2 _ rfl
    have g3 := hfd 3 _ rfl
    have g4 := hfd 4 _ rfl
    simp [cellsInt, cellsTag, cellsBool, cellsDepS] at g0 g1 g2 g3 g4
    obtain ⟨k, e0, _, _⟩ := DataW.trod_int Try.underlying3 g0
    obtain ⟨c, s, q, e1⟩ := tag_cells g1
    obtain ⟨va, e2, _, _⟩ := DataW.trod_int Try.underlying3 g2
    obtain ⟨de, e3, _⟩ := DataW.trod_bool Try.underlying4 g3
    obtain ⟨a, len, cap, e4⟩ := slice_cells g4
    simp at e0 e1 e2 e3
    obtain ⟨e1, e1', e1''⟩ := e1
    subst e0 e1 e1' e1'' e2 e3 e4
    obtain ⟨xs, hx1, hx2, hx3⟩ := deps_cells g4
    subst hx1
    exact ⟨⟨k, c, s, q, va, de, xs⟩, a, cap, rfl, hx2, hx3⟩

theorem ws_cells {fuel : Nat} {a : Option Addr} {len cap : Nat} {x : DataW H × List MemPlace} (h : DataW.trod enc Try.prog w base spare held fuel 49 [.slice a len cap] = some x) :
    ∃ ws : List Wr, ws.length = len ∧ len ≤ maxLen ∧ IsWs w a ws := by
  rcases open_slice Try.underlying49 h with ⟨hcs, _⟩ | ⟨a', len', cap', m, n, D, Pl, hcs, _, hl, hm, hmm, _, hel⟩
  · simp at hcs
    obtain ⟨rfl, rfl, rfl⟩ := hcs
    exact ⟨[], rfl, Nat.zero_le _, .inl rfl⟩
  · simp at hcs
    obtain ⟨rfl, rfl, rfl⟩ := hcs
    have hml : len ≤ m := by rw [hmm]; split <;> omega
    have hd : ∀ i, i < len → ∃ y : Wr, ∃ (ad : Option Addr) (cp : Nat), w.cell? (a'.add (i * 7)) = some (.int .i64 y.k) ∧ w.cell? (a'.add (i * 7 + 1)) = some (.int .i64 y.c) ∧ w.cell? (a'.add (i * 7 + 2)) = some (.int .i64 y.s) ∧ w.cell? (a'.add (i * 7 + 3)) = some (.int .i64 y.q) ∧ w.cell? (a'.add (i * 7 + 4)) = some (.int .i64 y.v) ∧ w.cell? (a'.add (i * 7 + 5)) = some (.bool y.de) ∧ w.cell? (a'.add (i * 7 + 6)) = some (.slice ad y.xs.length cp) ∧ y.xs.length ≤ maxLen ∧ IsDeps w ad y.xs := by
      intro i hi
      obtain ⟨cs', h1, h2⟩ := hel i (by omega)
      rw [cellsWrite] at h1
      obtain ⟨_, _, hc⟩ := World.cells?_some h1
      obtain ⟨y, ad, cp, hdd, hy1, hy2⟩ := write_cells h2
      rw [hdd] at hc
      have c0 := hc 0 (by omega)
      have c1 := hc 1 (by omega)
      have c2 := hc 2 (by omega)
      have c3 := hc 3 (by omega)
      have c4 := hc 4 (by omega)
      have c5 := hc 5 (by omega)
      have c6 := hc 6 (by omega)
      rw [add_add] at c0 c1 c2 c3 c4 c5 c6
      exact ⟨y, ad, cp, by simpa using c0, by simpa using c1, by simpa using c2, by simpa using c3, by simpa using c4, by simpa using c5, by simpa using c6, hy1, hy2⟩
    by_cases h0 : len = 0
    · subst h0
      exact ⟨[], rfl, Nat.zero_le _, .inl rfl⟩
    have : Inhabited Wr := ⟨wz⟩
    obtain ⟨f, hf⟩ := choose_lt hd
    have ha : a' = ⟨a'.block, a'.off, none⟩ := by
      obtain ⟨_, _, h1, _⟩ := hf 0 (by omega)
      simp [Addr.add] at h1
      exact add_form h1
    refine ⟨(List.range len).map f, by simp, by omega, .inr ⟨a'.block, a'.off, by rw [← ha], ?_, ?_⟩⟩
    · obtain ⟨cs', h1, _⟩ := hel 0 (by omega)
      rw [cellsWrite] at h1
      have h2 := World.cells?_block h1 (by omega)
      simpa [Addr.add] using h2
    · intro i hi
      have hi' : i < len := by simpa using hi
      have hg : ((List.range len).map f).getD i wz = f i := by simp [List.getD, hi']
      rw [hg]
      obtain ⟨ad, cp, h1, h2, h3, h4, h5, h6, h7, h8, h9⟩ := hf i hi'
      rw [ha] at h1 h2 h3 h4 h5 h6 h7
      rw [add_plain] at h1 h2 h3 h4 h5 h6 h7
      exact ⟨ad, cp, ⟨h1, h2, h3, h4, h5, h6, h7⟩, h8, h9⟩

theorem open_ws {b0 : Nat} {r : Reach} {v : Value} {d : DataW H} {p : List MemPlace} (hv : Value.okWide Try.prog w r b0 49 v) (h : DataW.Trod enc Try.prog w base (fun _ => true) held 49 v d p) :
    ∃ (a : Option Addr) (len cap : Nat) (ws : List Wr), v = .slice a len cap ∧ (ws.length = len ∧ len ≤ maxLen ∧ IsWs w a ws) := by
  obtain ⟨a, len, cap, rfl⟩ := okWide_slice Try.underlying49 hv
  obtain ⟨fuel, hf⟩ := h
  obtain ⟨ws, hx⟩ := ws_cells (by simpa [Value.cells] using hf)
  exact ⟨a, len, cap, ws, rfl, hx⟩

end
end Go.Proofs.Ythoeimjngjgeaaa
