import Derived.Test.YtkgojpmjnehcnaaPack9
import Derived.Test.YtkgojpmjnehcnaaPack6
import Derived.Test.YtkgojpmjnehcnaaPack8
import Derived.Test.YtkgojpmjnehcnaaPack7
import Derived.Test.YtkgojpmjnehcnaaPack3
import Derived.Test.YtkgojpmjnehcnaaPack1
import Derived.Test.YtkgojpmjnehcnaaPack2
/- Sets of writes: the contract of impl's writeSet.add, walked. -/
namespace Go.Proofs.Ytkgojpmjnehcnaa
open Go.ChangeShapes Go.WideShapes Go.ChangeAt Go.RowKit Go.Joins Go.Maps
attribute [local go_sem ↓] Go.wp_at_zero Go.wp_at_succ

/-- One write, in a new block. -/
def WrNewB (ob : Option Nat) (e : EnG) : Fact := fun v w => ∃ g', v = .slice (some ⟨g', 0, none⟩) 1 1 ∧ some g' ≠ ob ∧ w.heap[g']? = some (.cells #[.int .i64 e.x.k, .int .i64 e.x.c, .int .i64 e.x.s, .int .i64 e.x.q, .int .i64 e.x.v, .bool e.x.de, .slice e.a e.x.xs.length e.cp] 43 (0, 0))

theorem lasts_wrNewB (U : Tmp → Option Tmp) (s : Tmp) (dst : Option Tmp) (ob : Option Nat) (e : EnG) : lastsU U (AppS s ob) dst (WrNewB ob e) := by
  rintro d' _ _ v w w' ⟨g', h1, h2, h3⟩ hr
  have hr' := appS_any hr
  exact ⟨g', h1, h2, (hr'.block g' (Array.getElem?_eq_some_iff.1 h3).1 h2).trans h3⟩

/-- The row with one write more. -/
def WrRowB (Wb : World) (base : Nat) (v0 : Value) (es : List EnG) : Fact := fun v w => RowSh w base v es ∧ NewOr Wb v0 v

theorem lasts_wrRowB (U : Tmp → Option Tmp) (s : Tmp) (ob : Option Nat) (Wb : World) (base : Nat) (v0 : Value) (es : List EnG) : lastsU U (AppS s ob) (some s) (WrRowB Wb base v0 es) := by
  rintro d' hd _ v w w' ⟨h1, h2⟩ hr
  exact ⟨h1.keep fun g hg => (appS_below hd hr).block g (World.ownsRow.lt h1 g hg).2, h2⟩

theorem appS_of_below {s : Tmp} {ob : Option Nat} {d : Option Tmp} {w w' : World} (hd : d ≠ some s) (h : Below w.heap.size w w') : AppS s ob d w w' := by
  unfold AppS
  rw [if_neg hd]
  exact h

/-- The set has x besides; it holds no block that was there and not its own, and none other has turned. -/
def Added (w0 w : World) (b n base : Nat) (V : Dp → Option Value) (ks : List Wr) (w' : World) : Prop := ∃ V' E', SetIs w0 w' b (n + 1) base V' E' ks ∧ (∀ y, SetS b V' y → SetS b V y ∨ w.heap.size ≤ y) ∧ But (SetS b V) w w'

set_option maxRecDepth 100000 in
set_option maxHeartbeats 8000000 in
theorem setAdd_any (b n base : Nat) (V : Dp → Option Value) (E : Dp → List EnG) (ks : List Wr) (x : Wr) (ad : Option Addr) (cp : Nat) (w0 w : World) (hn : n ≤ 1000000000) (hln : ∀ d, (E d).length ≤ 1048576) (hx : WrR x) (hxl : x.xs.length ≤ 1048576) (hd : IsDeps w0 ad x.xs) (hb : Below w0.heap.size w0 w) (hbs : base ≤ w.heap.size) (h : SetIs w0 w b n base V E ks) :
    Calls Try.prog 37 #[.map (some b), wrOf x ad cp] w fun e w' => e = .returned (.tuple #[]) ∧ Added w0 w b n base V (ks ++ [x]) w' := by
  have hok : keyD.ok (dpOf x) := ⟨hx.1, hx.2.1, hx.2.2.1, hx.2.2.2.1⟩
  obtain ⟨i, fb, hf⟩ := found_ex (h.rise (dpOf x)) x
  have hfb : fb = hasW ks x := (found_has (h.rise (dpOf x)) hf).trans (h.has x)
  have hln' := hln (dpOf x)
  have hil : i ≤ (E (dpOf x)).length := by have := hf.1; rwa [xsOf_len] at this
  have HF := Lib.hid hf
  have HH := Lib.hid h
  have HB := Lib.hid hb
  have HD := Lib.hid hd
  have HFB := Lib.hid hfb
  have HOK := Lib.hid hok
  obtain ⟨a, cap, hva, -, -⟩ := (h.theRow (dpOf x)).isWs (h.deps (dpOf x)) hb
  have HVA := Lib.hid hva
  have HWS : Hid (∀ W, Below w.heap.size w W → IsWs W a (xsOf (E (dpOf x))) ∧ Few (xsOf (E (dpOf x)))) := fun W hW => by
    obtain ⟨a', cap', h1, h2, h3⟩ := ((HH.out.below hW).theRow (dpOf x)).isWs (HH.out.deps (dpOf x)) (below_step HB.out HB.out.size hW)
    rw [HVA.out] at h1
    injection h1 with h1 _ _
    subst h1
    exact ⟨h2, h3⟩
  have HBS : Hid (∀ W, Below w.heap.size w W → Calls Try.prog 63 #[.slice a (E (dpOf x)).length cap, wrOf x ad cp, .func (.func 65) #[] #[]] W fun e w' => e = .returned (.tuple #[.int .i64 (i : Int), .bool fb]) ∧ Below W.heap.size W w') := fun W hW =>
    bsearch_is a _ cap (xsOf (E (dpOf x))) x ad cp W HF.out (xsOf_len _) (by omega) (HWS.out W hW).2 hxl (HWS.out W hW).1 (HD.out.below (below_step HB.out HB.out.size hW)) (HH.out.rise (dpOf x))
  have HLK : Hid (∀ W, Below w.heap.size w W → MapIs keyD W b n V) := fun W hW => (HH.out.below hW).map
  have HGV : Hid ((V (dpOf x)).getD (.slice none 0 0) = .slice a (E (dpOf x)).length cap) := hva
  have HRW : Hid (∀ W, Below w.heap.size w W → RowSh W base (.slice a (E (dpOf x)).length cap) (E (dpOf x))) := fun W hW => by
    have h1 := (HH.out.below hW).theRow (dpOf x)
    rwa [HVA.out] at h1
  have HOB : Hid (∀ g, (Value.slice a (E (dpOf x)).length cap).ownBlock = some g → g < w.heap.size) := fun g hg => (World.ownsRow.lt (HRW.out w (Below.refl _ _)) g hg).2
  have HSM : Hid (∀ w4 w5 v', fb = false → RowSh w4 base v' (putAtW (E (dpOf x)) i ⟨x, ad, 0, cp⟩) → w.grownBy w4 (Value.slice a (E (dpOf x)).length cap).ownBlock → NewOr w (.slice a (E (dpOf x)).length cap) v' → (∀ g : Dp → Option Value, g (dpOf x) = some v' → (∀ j, j ≠ dpOf x → g j = V j) → MapIs keyD w5 b (n + 1) g) → w4.grownBy w5 (some b) → Added w0 w b n base V (ks ++ [x]) w5) := fun w4 w5 v' hfb h1 h2 h3 h4 h5 => by
    rw [← HVA.out] at h2 h3
    exact ⟨_, _, HH.out.more hxl HD.out (by rw [← hfb]; exact HF.out) h1 h2 h3 h4 h5⟩
  have HSS : Hid (∀ W, fb = true → Below w.heap.size w W → Added w0 w b n base V (ks ++ [x]) W) := fun W h1 h2 => ⟨V, E, (HH.out.below h2).same (by rw [← HFB.out, h1]), fun y hy => .inl hy, Below.but h2 _⟩
  have HMB : Hid (b < w.heap.size ∧ some b ≠ (Value.slice a (E (dpOf x)).length cap).ownBlock) := ⟨HH.out.map.lt, fun e => by
    rw [← HVA.out] at e
    unfold rowV at e
    cases hv : V (dpOf x) with
    | none => rw [hv] at e; simp [Value.ownBlock] at e
    | some v => rw [hv] at e; exact HH.out.off _ v hv e.symm⟩
  clear h hb hd hva hfb hf hln
  obtain ⟨xk, xc, xs', xq, xv, xd, xx⟩ := x
  generalize hEE : E (dpOf ⟨xk, xc, xs', xq, xv, xd, xx⟩) = es at *
  obtain ⟨L, hL⟩ : ∃ L, es.length = L := ⟨_, rfl⟩
  have HLN := Lib.hid hL
  rw [hL] at HBS HGV HRW HOB HSM HMB hln' hil
  clear hL hEE HF HH HD HFB HVA HWS
  unfold wrOf at HBS ⊢
  simp only at HBS ⊢
  have HA : Hid (Below w.heap.size w (w.alloc (.cells #[.int .i64 xk, .int .i64 xc, .int .i64 xs', .int .i64 xq, .int .i64 xv, .bool xd, .slice ad xx.length cp] 43))) := (Below.refl _ _).alloc (Nat.le_refl _) _
  have HBX : Hid ((w.alloc (.cells #[.int .i64 xk, .int .i64 xc, .int .i64 xs', .int .i64 xq, .int .i64 xv, .bool xd, .slice ad xx.length cp] 43)).heap[w.heap.size]? = some (.cells #[.int .i64 xk, .int .i64 xc, .int .i64 xs', .int .i64 xq, .int .i64 xv, .bool xd, .slice ad xx.length cp] 43 (0, 0))) := heap_alloc_new _ _
  have HSZ : Hid (w.heap.size < (w.alloc (.cells #[.int .i64 xk, .int .i64 xc, .int .i64 xs', .int .i64 xq, .int .i64 xv, .bool xd, .slice ad xx.length cp] 43)).heap.size) := by show _ < _; simp
  go_enter Try.func37, Try.ntmps37
  go_wp2_with fail
  refine (depOn_any ⟨xk, xc, xs', xq, xv, xd, xx⟩ ad cp _).mono ?_
  rintro e w2 ⟨rfl, hb2⟩
  simp only
  have HB2 : Hid (Below w.heap.size w w2) := below_step HA.out HA.out.size hb2
  have HX2 : Hid (w2.heap[w.heap.size]? = some (.cells #[.int .i64 xk, .int .i64 xc, .int .i64 xs', .int .i64 xq, .int .i64 xv, .bool xd, .slice ad xx.length cp] 43 (0, 0))) := (hb2.block _ HSZ.out).trans HBX.out
  have hz2 : w.heap.size < w2.heap.size := Nat.lt_of_lt_of_le HSZ.out hb2.size
  have c0 := cell_of_row w2 w.heap.size 0 _ _ _ HX2.out
  have c1 := cell_of_row w2 w.heap.size 1 _ _ _ HX2.out
  have c2 := cell_of_row w2 w.heap.size 2 _ _ _ HX2.out
  have c3 := cell_of_row w2 w.heap.size 3 _ _ _ HX2.out
  have c4 := cell_of_row w2 w.heap.size 4 _ _ _ HX2.out
  have c5 := cell_of_row w2 w.heap.size 5 _ _ _ HX2.out
  have c6 := cell_of_row w2 w.heap.size 6 _ _ _ HX2.out
  simp at c0 c1 c2 c3 c4 c5 c6
  clear hb2 HA HBX HSZ
  have HML := Lib.hid (HLK.out w2 HB2.out)
  go_wp2_with (at_lookup; refine wpList_lookG1 (K := keyD) (by rfl) _ _ 64 24 (by rfl) Try.underlying64 (setZero _) HML.out (dpOf ⟨xk, xc, xs', xq, xv, xd, xx⟩) HOK.out (by rfl) (by rfl) ?_; simp only [HGV.out])
  refine (HBS.out _ HB2.out).mono ?_
  rintro e w3 ⟨rfl, hb3⟩
  have HB3 : Hid (Below w.heap.size w w3) := below_step HB2.out HB2.out.size hb3
  have HX3 : Hid (w3.heap[w.heap.size]? = some (.cells #[.int .i64 xk, .int .i64 xc, .int .i64 xs', .int .i64 xq, .int .i64 xv, .bool xd, .slice ad xx.length cp] 43 (0, 0))) := (hb3.block _ hz2).trans HX2.out
  have hz3 : w.heap.size < w3.heap.size := Nat.lt_of_lt_of_le hz2 hb3.size
  clear hb3 HB2 HX2 hz2 c0 c1 c2 c3 c4 c5 c6 HML
  cases fb with
  | true =>
    have HR := Lib.hid (HSS.out w3 rfl HB3.out)
    go_wp2
    exact bodyPost_end (v := .tuple #[]) (by simp [results, Try.results37]) rfl ⟨rfl, HR.out⟩
  | false =>
    go_wp2_with fail
    obtain ⟨ob, hob⟩ : ∃ ob, (Value.slice a L cap).ownBlock = ob := ⟨_, rfl⟩
    rw [hob] at HSM HMB
    have HOB2 : Hid (∀ g, ob = some g → g < w.heap.size) := fun g hg => HOB.out g (by rw [hob]; exact hg)
    have HOBE := Lib.hid hob
    have HCL : Hid (∀ w', w3.grownBy w' ob → w'.cell? ⟨w.heap.size, 0, none⟩ = some (.int .i64 xk) ∧ w'.cell? ⟨w.heap.size, 1, none⟩ = some (.int .i64 xc) ∧ w'.cell? ⟨w.heap.size, 2, none⟩ = some (.int .i64 xs') ∧ w'.cell? ⟨w.heap.size, 3, none⟩ = some (.int .i64 xq) ∧ w'.cell? ⟨w.heap.size, 4, none⟩ = some (.int .i64 xv) ∧ w'.cell? ⟨w.heap.size, 5, none⟩ = some (.bool xd) ∧ w'.cell? ⟨w.heap.size, 6, none⟩ = some (.slice ad xx.length cp)) := fun w' hG => by
      have q := (hG.block w.heap.size hz3 fun e => by have := HOB2.out _ e.symm; omega).trans HX3.out
      refine ⟨?_, ?_, ?_, ?_, ?_, ?_, ?_⟩ <;> (rw [cell_of_row _ _ _ _ _ (0, 0) q]; rfl)
    have HR3 := Lib.hid (HRW.out w3 HB3.out)
    have HM3 := Lib.hid (HLK.out w3 HB3.out)
    clear hob HRW HOB HSS HBS HLK HGV
    refine wp_region_slots_u 8 [[(0, false)], [(3, false)], [(20, true)], [(4, false)], [(5, false)], [(3, false)], [(24, true)], [(22, true), (23, true), (25, true)]] (fun w' => w3.grownBy w' ob) (fun w' => w3.grownBy w' ob) (fun _ w' => w3.grownBy w' ob) (fun d w' => d = some 26 → RowSh w' base (.slice a L cap) es) (fun _ => none) (AppS 26 ob) (by kernel_rfl) (by kernel_rfl) (by rfl) ⟨rfl, rfl, rfl, Nat.le_refl _, fun _ _ _ => rfl⟩ (by kernel_rfl) (fun _ _ => HR3.out) (fun _ h => by cases h) (fun d d' hd w w' h1 h2 h3 => (h1 h3).keep fun g hg => (appS_below (h3 ▸ hd) h2).block g (World.ownsRow.lt (h1 h3) g hg).2) (fun _ _ _ _ _ _ h => by cases h) (fun d _ w w' h1 h2 => grown_trans h1 (appS_any h2)) (fun _ _ _ h => h) (fun _ _ _ h => h) ?_
    have HRF : Hid (∀ (d : Option Tmp) (w : World), d ≠ some 26 → AppS 26 ob d w w) := fun d w hd => appS_refl hd w
    iterate 2 (apply slotU_eq; · (intro ρ w' ⟨p1, p2, p3⟩ hG hEE hn; obtain ⟨c0, c1, c2, c3, c4, c5, c6⟩ := HCL.out w' hG; simp at hn; go_simp; exact ⟨HRF.out _ _ (by simp), rfl⟩))
    apply slotU_eq
    · intro ρ w' ⟨p1, p2, p3⟩ hG hEE hn
      simp at hn
      go_simp
      exact got_call (depOn_any ⟨xk, xc, xs', xq, xv, xd, xx⟩ ad cp w') fun e w'' ⟨he, hb⟩ => ⟨_, he, appS_of_below (by simp) hb, rfl⟩
    iterate 3 (apply slotU_eq; · (intro ρ w' ⟨p1, p2, p3⟩ hG hEE hn; obtain ⟨c0, c1, c2, c3, c4, c5, c6⟩ := HCL.out w' hG; simp at hn; go_simp; exact ⟨HRF.out _ _ (by simp), rfl⟩))
    refine slotU_fact (WrNewB ob ⟨⟨xk, xc, xs', xq, xv, xd, xx⟩, ad, 0, cp⟩) (lasts_wrNewB _ _ _ _ _) ?_ ?_
    · intro ρ w' ⟨p1, p2, p3⟩ hG hEE hn
      simp at hn
      go_simp
      exact ⟨appS_alloc (by simp) _ _, _, rfl, fun e => by have h1 := HOB2.out _ e.symm; have h2 := hG.size; omega, heap_alloc_new _ _⟩
    refine slotU_fact (WrRowB w base (.slice a L cap) (putAtW es i ⟨⟨xk, xc, xs', xq, xv, xd, xx⟩, ad, 0, cp⟩)) (lasts_wrRowB _ _ _ _ _ _ _) ?_ ?_
    · intro ρ w' ⟨p1, p2, p3⟩ hG hEE hn
      simp at hn
      obtain ⟨f22, f23, g', f25, hg3, hg4⟩ := hn
      have hrow := hEE rfl
      have hbw : base ≤ w'.heap.size := by have := hG.size; omega
      go_simp
      exact got_call (insW_any (.slice a L cap) es i g' ⟨⟨xk, xc, xs', xq, xv, xd, xx⟩, ad, 0, cp⟩ base w' (by rw [HLN.out]; exact hil) (by rw [HLN.out]; exact hln') hrow hg4 (by rw [HOBE.out]; exact hg3) hbw) fun e w'' ⟨v', he, h1, h2, h3⟩ => ⟨v', he, appS_grown (by rw [HOBE.out] at h2; exact h2), h1, fun g hg => by
        rcases h3 g hg with h | h
        · exact .inl h
        · exact .inr (by have := hG.size; omega)⟩
    refine slotU_end ?_
    rintro tv w4 hG hF
    simp at hF
    obtain ⟨⟨hrow, hnew⟩, -, f24, f23, f22, f21, f20, f19⟩ := hF
    obtain ⟨v', hv'⟩ : ∃ v', tv 26 = v' := ⟨_, rfl⟩
    rw [hv'] at hrow hnew
    have HM4 : Hid (MapIs keyD w4 b n V) := HM3.out.of_block (hG.block b HM3.out.lt HMB.out.2)
    have HFIN : Hid (∀ w5, (∀ g : Dp → Option Value, g (dpOf ⟨xk, xc, xs', xq, xv, xd, xx⟩) = some v' → (∀ j, j ≠ dpOf ⟨xk, xc, xs', xq, xv, xd, xx⟩ → g j = V j) → MapIs keyD w5 b (n + 1) g) → w4.grownBy w5 (some b) → Added w0 w b n base V (ks ++ [⟨xk, xc, xs', xq, xv, xd, xx⟩]) w5) := fun w5 h1 h2 => HSM.out w4 w5 v' trivial hrow (grown_trans (grown_of_below HB3.out ob) hG) hnew h1 h2
    clear hrow hnew hG HR3 HCL HRF HSM HM3 HMB HX3 HB3
    simp only [List.take_succ_cons, List.take_zero, List.drop_succ_cons, List.drop_zero, putAll, hv', f24, f23, f22, f21, f20, f19]
    clear hv' f24 f23 f22 f21 f20 f19
    simp only [Act.put, List.setIfInBounds_toArray, List.set_cons_succ, List.set_cons_zero]
    refine wpList_putG (K := keyD) (by rfl) _ _ _ 64 24 (by rfl) Try.underlying64 HM4.out (by unfold maxLen; omega) (dpOf ⟨xk, xc, xs', xq, xv, xd, xx⟩) HOK.out v' (by rfl) (by rfl) (by rfl) ?_
    intro w5 hr5 ht5
    have HR5 := Lib.hid (HFIN.out w5 hr5 ht5.grown)
    clear hr5 ht5 HFIN HM4
    go_wp2
    exact bodyPost_end (v := .tuple #[]) (by simp [results, Try.results37]) rfl ⟨rfl, HR5.out⟩

end Go.Proofs.Ytkgojpmjnehcnaa

/- Batches of one's own, marked: the contracts of markBatchS and heldBatchS. -/
namespace Go.Proofs.Ytkgojpmjnehcnaa
open Go.ChangeShapes Go.WideShapes Go.ChangeAt Go.RowKit Go.Joins
attribute [local go_sem ↓] Go.wp_at_zero Go.wp_at_succ

/-- A batch: its writes, where they are said to lie, their room, between which block numbers, and where their dependencies lie. -/
structure Bat where
  ws : List Wr
  a : Option Addr
  cap : Nat
  lo : Nat
  hi : Nat
  γ : Nat → Nat

def btz : Bat := ⟨[], none, 0, 0, 0, fun _ => 0⟩

def batV (e : Bat) : Value := .slice e.a e.ws.length e.cap

def BatsAt (w : World) (b : Nat) (es : List Bat) : Prop := ∀ i, i < es.length → w.cell? ⟨b, i, none⟩ = some (batV (es.getD i btz))

/-- Batches of one's own: a row, and each batch's memory apart from the row and from the others'. -/
def OwnB (w : World) (lo hi : Nat) (a : Option Addr) (es : List Bat) : Prop :=
  es = [] ∨ ∃ b, a = some ⟨b, 0, none⟩ ∧ lo ≤ b ∧ b < hi ∧ b < w.heap.size ∧ BatsAt w b es ∧ (∀ i, i < es.length → lo ≤ (es.getD i btz).lo ∧ (es.getD i btz).hi ≤ hi ∧ (b < (es.getD i btz).lo ∨ (es.getD i btz).hi ≤ b) ∧ OwnA w (es.getD i btz).lo (es.getD i btz).hi (es.getD i btz).a (es.getD i btz).ws (es.getD i btz).γ) ∧ ∀ i j, i < j → j < es.length → (es.getD i btz).hi ≤ (es.getD j btz).lo

set_option maxRecDepth 100000 in
theorem BatsAt.of_block {w w' : World} {b : Nat} {es : List Bat} (h : BatsAt w b es) (hb : w'.heap[b]? = w.heap[b]?) : BatsAt w' b es := fun i hi => (World.cell?_of_block (a := ⟨b, i, none⟩) hb).trans (h i hi)

set_option maxRecDepth 100000 in
theorem OwnB.below {w w' : World} {lo hi : Nat} {a : Option Addr} {es : List Bat} (h : OwnB w lo hi a es) (hb : Below w.heap.size w w') : OwnB w' lo hi a es := by
  rcases h with h | ⟨b, h1, h2, h3, h4, h5, h6, h7⟩
  · exact .inl h
  · exact .inr ⟨b, h1, h2, h3, Nat.lt_of_lt_of_le h4 hb.size, h5.of_block (hb.block b h4), fun i hi => ⟨(h6 i hi).1, (h6 i hi).2.1, (h6 i hi).2.2.1, (h6 i hi).2.2.2.below hb⟩, h7⟩

set_option maxRecDepth 100000 in
theorem OwnB.only {w w' : World} {S : Nat → Prop} {lo hi : Nat} {a : Option Addr} {es : List Bat} (h : OwnB w lo hi a es) (ho : Only S w w') (hS : ∀ x, S x → x < lo) : OwnB w' lo hi a es := by
  rcases h with h | ⟨b, h1, h2, h3, h4, h5, h6, h7⟩
  · exact .inl h
  · exact .inr ⟨b, h1, h2, h3, by rw [ho.size]; exact h4, h5.of_block (ho.block b fun e => by have := hS b e; omega), fun i hi => ⟨(h6 i hi).1, (h6 i hi).2.1, (h6 i hi).2.2.1, (h6 i hi).2.2.2.only ho fun x hx => by have := hS x hx; have := (h6 i hi).1; omega⟩, h7⟩

def batsOf (es : List Bat) : List (List Wr) := es.map (·.ws)

set_option maxRecDepth 100000 in
theorem batsOf_get (es : List Bat) {i : Nat} (h : i < es.length) : (batsOf es).getD i [] = (es.getD i btz).ws := by
  simp [batsOf, List.getD, h]

set_option maxRecDepth 100000 in
theorem OwnB.isBs {w : World} {lo hi : Nat} {a : Option Addr} {es : List Bat} (h : OwnB w lo hi a es) (hx : FewB (batsOf es)) : IsBs w a (batsOf es) := by
  rcases h with h | ⟨b, h1, h2, h3, h4, h5, h6, h7⟩
  · exact .inl (by rw [h]; rfl)
  · refine .inr ⟨b, 0, h1, h4, fun i hi => ?_⟩
    have hi' : i < es.length := by simpa [batsOf] using hi
    have hf := (hx i hi).2
    rw [batsOf_get es hi'] at hf ⊢
    exact ⟨_, _, by rw [Nat.zero_add]; exact h5 i hi', (h6 i hi').2.2.2.isWs hf⟩

/-- How far the marks have come behind these batches. -/
def markKB (es : List Bat) (k : Int) : Int := es.foldl (fun k e => markK e.ws k e.ws.length) k

set_option maxRecDepth 100000 in
theorem markKB_take (es : List Bat) (k : Int) {i : Nat} (h : i < es.length) : markKB (es.take (i + 1)) k = markK (es.getD i btz).ws (markKB (es.take i) k) (es.getD i btz).ws.length := by
  unfold markKB
  have e : es.take (i + 1) = es.take i ++ [es.getD i btz] := by
    rw [List.take_add_one, List.getElem?_eq_getElem h]
    simp [List.getD, h]
  rw [e, List.foldl_append]
  rfl

/-- All that is marked stays within bounds. -/
def TameB (es : List Bat) (k : Int) : Prop := (∀ i, i < es.length → (es.getD i btz).ws.length ≤ 1048576 ∧ bulk (es.getD i btz).ws ≤ 1048576) ∧ ∀ i, i ≤ es.length → 0 ≤ markKB (es.take i) k ∧ markKB (es.take i) k ≤ 1073741824

/-- A batch that is marked, its memory between two block numbers. -/
def MarkedS (w : World) (e : Bat) (k : Int) : Prop := MarkedA w e.a e.ws e.γ k ∧ (e.ws = [] ∨ ∃ b, e.a = some ⟨b, 0, none⟩ ∧ e.lo ≤ b ∧ b < e.hi ∧ ∀ i, i < e.ws.length → 0 < (e.ws.getD i wz).xs.length → e.lo ≤ e.γ i ∧ e.γ i < e.hi)

set_option maxRecDepth 100000 in
theorem MarkedWs.of_blocks {w w' : World} {b : Nat} {ws : List Wr} {γ : Nat → Nat} {k : Int} (h : MarkedWs w b ws γ k) (hb : w'.heap[b]? = w.heap[b]?) (h2 : ∀ i, i < ws.length → 0 < (ws.getD i wz).xs.length → w'.heap[γ i]? = w.heap[γ i]?) : MarkedWs w' b ws γ k := by
  intro i hi
  obtain ⟨⟨e0, e1, e2, e3, e4, e5, a, cp, e6, e7⟩, hd⟩ := h i hi
  have c : ∀ o, w'.cell? ⟨b, o, none⟩ = w.cell? ⟨b, o, none⟩ := fun o => World.cell?_of_block (a := ⟨b, o, none⟩) hb
  exact ⟨⟨(c _).trans e0, (c _).trans e1, (c _).trans e2, (c _).trans e3, (c _).trans e4, (c _).trans e5, a, cp, (c _).trans e6, e7⟩, fun hp => (hd hp).of_block (h2 i hi hp)⟩

set_option maxRecDepth 100000 in
theorem MarkedS.only {w w' : World} {S : Nat → Prop} {e : Bat} {k : Int} (h : MarkedS w e k) (ho : Only S w w') (hS : ∀ x, S x → x < e.lo ∨ e.hi ≤ x) : MarkedS w' e k := by
  refine ⟨?_, h.2⟩
  rcases h.1 with h1 | ⟨b, h1, h2, h3, h4⟩
  · exact .inl h1
  · rcases h.2 with g | ⟨b', g1, g2, g3, g4⟩
    · exact .inl g
    · obtain rfl : b = b' := by rw [h1] at g1; simpa using g1
      exact .inr ⟨b, h1, h2.of_blocks (ho.block b fun hx => by have := hS b hx; omega) fun i hi hp => ho.block _ fun hx => by have := hS _ hx; have := g4 i hi hp; omega, by rw [ho.size]; exact h3, fun i hi hp => by rw [ho.size]; exact h4 i hi hp⟩

/-- Batches that are marked. -/
def MarkedB (w : World) (a : Option Addr) (es : List Bat) (k : Int) : Prop := es = [] ∨ ∃ b, a = some ⟨b, 0, none⟩ ∧ b < w.heap.size ∧ BatsAt w b es ∧ ∀ i, i < es.length → MarkedA w (es.getD i btz).a (es.getD i btz).ws (es.getD i btz).γ (markKB (es.take i) k)

set_option maxRecDepth 100000 in
theorem MarkedB.below {w w' : World} {a : Option Addr} {es : List Bat} {k : Int} (h : MarkedB w a es k) (hb : Below w.heap.size w w') : MarkedB w' a es k := by
  rcases h with h | ⟨b, h1, h2, h3, h4⟩
  · exact .inl h
  · exact .inr ⟨b, h1, Nat.lt_of_lt_of_le h2 hb.size, h3.of_block (hb.block b h2), fun i hi => (h4 i hi).below hb⟩

set_option maxRecDepth 100000 in
theorem OwnA.marked {w w' : World} {e : Bat} {k : Int} (h : OwnA w e.lo e.hi e.a e.ws e.γ) (hm : MarkedA w' e.a e.ws e.γ k) : MarkedS w' e k := by
  refine ⟨hm, ?_⟩
  rcases h with h | ⟨b, h1, h2, h3, h4⟩
  · exact .inl h
  · exact .inr ⟨b, h1, h2.le, h3, fun i hi hp => ⟨(h2.deps i hi hp).1, h4 i hi hp⟩⟩

end Go.Proofs.Ytkgojpmjnehcnaa

/- The marks of batches stay within bounds: plain facts. -/
namespace Go.Proofs.Ytkgojpmjnehcnaa
open Go.ChangeShapes Go.WideShapes Go.ChangeAt Go.RowKit Go.Joins

set_option maxRecDepth 100000 in
theorem markK_bd (ws : List Wr) (k : Int) : k ≤ markK ws k ws.length ∧ markK ws k ws.length ≤ k + 6 * ((ws.length + bulk ws : Nat) : Int) := by
  unfold markK
  rw [List.take_length]
  constructor <;> (push_cast; omega)

set_option maxRecDepth 100000 in
theorem markKB_bd : ∀ (es : List Bat) (k : Int), k ≤ markKB es k ∧ markKB es k ≤ k + 6 * (heftB (batsOf es) : Int)
  | [], k => by simp [markKB, batsOf, heftB]
  | e :: r, k => by
    have h1 := markK_bd e.ws k
    have h2 := markKB_bd r (markK e.ws k e.ws.length)
    have e1 : markKB (e :: r) k = markKB r (markK e.ws k e.ws.length) := rfl
    have e2 : heftB (batsOf (e :: r)) = e.ws.length + bulk e.ws + heftB (batsOf r) := rfl
    rw [e1, e2]
    generalize markK e.ws k e.ws.length = m at *
    push_cast at *
    omega

set_option maxRecDepth 100000 in
theorem heft_part : ∀ (bs : List (List Wr)) (i : Nat), heftB (bs.take i) ≤ heftB bs
  | [], i => by simp
  | b :: r, 0 => by simp [heftB]
  | b :: r, i + 1 => by
    have := heft_part r i
    simp only [List.take_succ_cons, heftB]
    omega

set_option maxRecDepth 100000 in
theorem tame_heft {es : List Bat} (h : heftB (batsOf es) ≤ 100000000) (h2 : ∀ i, i < es.length → (es.getD i btz).ws.length ≤ 1048576 ∧ bulk (es.getD i btz).ws ≤ 1048576) : TameB es 1 := by
  refine ⟨h2, fun i _ => ?_⟩
  have h3 := markKB_bd (es.take i) 1
  have h4 : batsOf (es.take i) = (batsOf es).take i := by simp [batsOf]
  rw [h4] at h3
  have h5 := heft_part (batsOf es) i
  omega

set_option maxRecDepth 100000 in
theorem tame_small {es : List Bat} (h : heftB (batsOf es) ≤ 1048576) : TameB es 1 := tame_heft (by omega) fun i hi => by
  have h1 := heft_one (batsOf es) i (by simpa [batsOf] using hi)
  rw [batsOf_get es hi] at h1
  omega

end Go.Proofs.Ytkgojpmjnehcnaa

/- What was written, told by lists; rows that grow beside a set: plain facts. -/
namespace Go.Proofs.Ytkgojpmjnehcnaa
open Go.ChangeShapes Go.WideShapes Go.ChangeAt Go.RowKit Go.Joins

/-- One more, where it is not there. -/
def addW (out : List Wr) (x : Wr) : List Wr := if hasW out x = true then out else out ++ [x]

theorem addW_has {out : List Wr} {x : Wr} (h : hasW out x = true) : addW out x = out := if_pos h

theorem addW_not {out : List Wr} {x : Wr} (h : hasW out x = false) : addW out x = out ++ [x] := if_neg (by rw [h]; simp)

/-- The writes of one event, told behind others. -/
def addE (out : List Wr) (e : Ev) : List Wr := if e.sh = true then out else e.ws.foldl addW out

def writtenL (es : List Ev) : List Wr := es.foldl addE []

theorem foldl_next {α β : Type} (f : β → α → β) (l : List α) (z : β) (d : α) {k : Nat} (h : k < l.length) : (l.take (k + 1)).foldl f z = f ((l.take k).foldl f z) (l.getD k d) := by
  have e : l.take (k + 1) = l.take k ++ [l.getD k d] := by
    rw [List.take_add_one, List.getElem?_eq_getElem h]
    simp [List.getD, h]
  rw [e, List.foldl_append]
  rfl

/-- How much a list of writes is. -/
def wgt (ws : List Wr) : Nat := ws.length + bulk ws

theorem bulk_app : ∀ (a b : List Wr), bulk (a ++ b) = bulk a + bulk b
  | [], b => by simp [bulk]
  | x :: a, b => by
    have := bulk_app a b
    simp only [List.cons_append, bulk]
    omega

theorem addW_wgt (out : List Wr) (x : Wr) : wgt (addW out x) ≤ wgt out + (1 + x.xs.length) := by
  unfold addW
  split
  · omega
  · unfold wgt
    rw [bulk_app, List.length_append]
    simp [bulk]
    omega

theorem addAll_wgt : ∀ (ws : List Wr) (out : List Wr), wgt (ws.foldl addW out) ≤ wgt out + wgt ws
  | [], out => by simp [wgt, bulk]
  | x :: r, out => by
    have h1 := addAll_wgt r (addW out x)
    have h2 := addW_wgt out x
    have e1 : (x :: r).foldl addW out = r.foldl addW (addW out x) := rfl
    have e2 : wgt (x :: r) = (1 + x.xs.length) + wgt r := by simp [wgt, bulk]; omega
    rw [e1]
    omega

theorem addE_wgt (out : List Wr) (e : Ev) : wgt (addE out e) ≤ wgt out + wgt e.ws := by
  unfold addE
  split
  · omega
  · exact addAll_wgt e.ws out

theorem addEs_wgt : ∀ (es : List Ev) (out : List Wr), wgt (es.foldl addE out) ≤ wgt out + heftB (evW es)
  | [], out => by simp [evW, heftB]
  | e :: r, out => by
    have h1 := addEs_wgt r (addE out e)
    have h2 := addE_wgt out e
    have e1 : (e :: r).foldl addE out = r.foldl addE (addE out e) := rfl
    have e2 : heftB (evW (e :: r)) = wgt e.ws + heftB (evW r) := rfl
    rw [e1]
    omega

theorem written_wgt (es : List Ev) : wgt (writtenL es) ≤ heftB (evW es) := by
  have := addEs_wgt es []
  have e : wgt [] = 0 := rfl
  unfold writtenL
  omega

/-- Ahead of each place no more. -/
theorem writing_wgt (es : List Ev) {k j : Nat} (hk : k < es.length) : wgt (((es.getD k evz).ws.take j).foldl addW ((es.take k).foldl addE [])) ≤ heftB (evW es) := by
  have h1 := addAll_wgt ((es.getD k evz).ws.take j) ((es.take k).foldl addE [])
  have h2 := addEs_wgt (es.take k) []
  have e0 : wgt [] = 0 := rfl
  have h3 : wgt ((es.getD k evz).ws.take j) ≤ wgt (es.getD k evz).ws := by
    unfold wgt
    have := bulk_take_le (es.getD k evz).ws j
    have : ((es.getD k evz).ws.take j).length ≤ (es.getD k evz).ws.length := by simp; omega
    omega
  have h4 : heftB (evW (es.take k)) + wgt (es.getD k evz).ws ≤ heftB (evW es) := by
    have h5 := heft_take (evW es) k (by rw [evW_len]; exact hk)
    have h6 := heft_part (evW es) (k + 1)
    have e1 : evW (es.take k) = (evW es).take k := by simp [evW]
    rw [evW_get es hk] at h5
    rw [e1]
    unfold wgt
    omega
  omega

theorem few_wgt {ws : List Wr} (h : wgt ws ≤ 1048576) : Few ws := few_of_bulk (by unfold wgt at h; omega)

/-- A row of writes of one's own, where only other blocks turn. -/
theorem RowG.but {S : Nat → Prop} {w w' : World} {base : Nat} {v : Value} {es : List EnG} (h : RowG w base v es) (hb : But S w w') (h1 : ∀ g, v.ownBlock = some g → ¬ S g) (h2 : ∀ e ∈ es, 0 < e.x.xs.length → ¬ S e.g) : RowG w' base v es where
  own := ownsRow_but h.own hb h1
  deps := fun e he => ⟨(h.deps e he).1.of_block hb.size fun hp => hb.block e.g ((h.deps e he).1 hp).2.2.1 (h2 e he hp), (h.deps e he).2⟩
  apart := h.apart

/-- A row that grows beside a set of the same writes. -/
structure TellI (w wr : World) (b : Nat) (out : List Wr) (v : Value) (es : List EnG) (V : Dp → Option Value) (E : Dp → List EnG) : Prop where
  xs : es.map (·.x) = out
  row : RowG wr w.heap.size v es
  set : SetIs w wr b out.length w.heap.size V E out
  dis1 : ∀ g, v.ownBlock = some g → ¬ SetS b V g
  dis2 : ∀ e ∈ es, 0 < e.x.xs.length → ¬ SetS b V e.g
  below : Below w.heap.size w wr
  blt : w.heap.size ≤ b

theorem TellI.more {w wr w' : World} {b : Nat} {out : List Wr} {v : Value} {es : List EnG} {V : Dp → Option Value} {E : Dp → List EnG} (h : TellI w wr b out v es V E) (hb : Below wr.heap.size wr w') : TellI w w' b out v es V E :=
  ⟨h.xs, h.row.below hb, h.set.below hb, h.dis1, h.dis2, below_step h.below h.below.size hb, h.blt⟩

theorem SetIs.base {w0 w : World} {b n base : Nat} {V : Dp → Option Value} {E : Dp → List EnG} {ks : List Wr} (h : SetIs w0 w b n base V E ks) (hb : base ≤ b) : ∀ x, SetS b V x → base ≤ x := by
  rintro x (rfl | ⟨d, v, h1, h2⟩)
  · exact hb
  · exact (World.ownsRow.lt (h.row d v h1) x h2).1

/-- One more in the set; the row stays. -/
theorem TellI.added {w wr w' : World} {b : Nat} {out : List Wr} {v : Value} {es : List EnG} {V : Dp → Option Value} {E : Dp → List EnG} {x : Wr} (h : TellI w wr b out v es V E) (ha : Added w wr b out.length w.heap.size V (out ++ [x]) w') :
    ∃ V' E', SetIs w w' b (out.length + 1) w.heap.size V' E' (out ++ [x]) ∧ RowG w' w.heap.size v es ∧ (∀ g, v.ownBlock = some g → ¬ SetS b V' g) ∧ (∀ e ∈ es, 0 < e.x.xs.length → ¬ SetS b V' e.g) ∧ Below w.heap.size w w' := by
  obtain ⟨V', E', h1, h2, h3⟩ := ha
  refine ⟨V', E', h1, h.row.but h3 h.dis1 h.dis2, fun g hg hs => ?_, fun e he hp hs => ?_, Below.butOn h.below h3 h.below.size (h.set.base h.blt)⟩
  · rcases h2 g hs with h4 | h4
    · exact h.dis1 g hg h4
    · have := (World.ownsRow.lt h.row.own g hg).2
      omega
  · rcases h2 e.g hs with h4 | h4
    · exact h.dis2 e he hp h4
    · have := ((h.row.deps e he).1 hp).2.2.1
      omega

/-- The row grows by a copy. -/
theorem TellI.told {w w2 w3 w5 : World} {b : Nat} {out : List Wr} {v : Value} {es : List EnG} {V : Dp → Option Value} {E : Dp → List EnG} {x : Wr} {a2 : Option Addr} {g2 cp2 g5 cap5 : Nat} (hx : es.map (·.x) = out) (hs : SetIs w w2 b (out.length + 1) w.heap.size V E (out ++ [x])) (hr : RowG w2 w.heap.size v es) (h1 : ∀ g, v.ownBlock = some g → ¬ SetS b V g) (h2 : ∀ e ∈ es, 0 < e.x.xs.length → ¬ SetS b V e.g) (hbw : Below w.heap.size w w2) (hbl : w.heap.size ≤ b)
    (hb3 : Below w2.heap.size w2 w3) (hf : FreshDeps w2.heap.size w3 a2 g2 x.xs) (hown : w5.ownsRow w.heap.size 43 7 (.slice (some ⟨g5, 0, none⟩) (es.length + 1) cap5) (es.length + 1) (es.flatMap wrValsG ++ wrValsG ⟨x, a2, g2, cp2⟩)) (hgrow : w3.grownBy w5 v.ownBlock) (hg : v.ownBlock = some g5 ∨ g5 = w3.heap.size) :
    TellI w w5 b (out ++ [x]) (.slice (some ⟨g5, 0, none⟩) (es.length + 1) cap5) (es ++ [⟨x, a2, g2, cp2⟩]) V E := by
  have hr3 := hr.below hb3
  have hsz := hb3.size
  have hlt : ∀ y, SetS b V y → y < w2.heap.size := hs.lt
  refine ⟨by rw [List.map_append, hx]; rfl, ?_, ?_, ?_, ?_, ?_, hbl⟩
  · refine hr3.more (hf.mono hbw.size) (fun hp e => ?_) (fun d hd hp hq e => ?_) hown hgrow hg
    · have h3 := (World.ownsRow.lt hr.own g2 e).2
      have h4 := (hf hp).2.1
      omega
    · have h3 := ((hr.deps d hd).1 hp).2.2.1
      have h4 := (hf hq).2.1
      simp only at e
      omega
  · rw [List.length_append]
    exact (hs.below hb3).keep fun y hy => hgrow.block y (by have := hlt y hy; omega) fun e => h1 y e.symm hy
  · intro g hgg hy
    have e : g5 = g := by simpa [Value.ownBlock] using hgg
    subst e
    rcases hg with hg | hg
    · exact h1 g5 hg hy
    · have := hlt g5 hy
      omega
  · intro e he hp hy
    rcases List.mem_append.1 he with he | he
    · exact h2 e he hp hy
    · obtain rfl : e = ⟨x, a2, g2, cp2⟩ := by simpa using he
      have h3 := (hf hp).2.1
      have h4 := hlt _ hy
      simp only at h4
      omega
  · exact (below_step hbw hbw.size hb3).grown hgrow (Nat.le_trans hbw.size hsz) fun j hj => (World.ownsRow.lt hr.own j hj).1

end Go.Proofs.Ytkgojpmjnehcnaa

/- Inventions: the contracts of slices.ContainsFunc over writes, of impl.Inventions. -/
namespace Go.Proofs.Ytkgojpmjnehcnaa
open Go.ChangeShapes Go.WideShapes Go.ChangeAt Go.RowKit Go.Joins Go.Maps
attribute [local go_sem ↓] Go.wp_at_zero Go.wp_at_succ

set_option maxRecDepth 100000 in
set_option maxHeartbeats 4000000 in
/-- The first write that a function value, bound to one value, chooses. -/
theorem indexF_any (fid : FuncId) (v0 : Value) (P : Wr → Bool) (a : Option Addr) (n cap : Nat) (ws : List Wr) (w : World) (hn : ws.length = n) (hm : n ≤ 1048576) (hh : IsWs w a ws)
    (hcf : ∀ (args : Array Value) (w : World), (callFunc fid args).run Try.prog w = .ok (.enter fid args) w) (hc : ∀ W, Below w.heap.size w W → ∀ k, k < ws.length → ∀ ad cp, IsDeps W ad (ws.getD k wz).xs → Calls Try.prog fid #[v0, wrOf (ws.getD k wz) ad cp] W fun e w' => e = .returned (.bool (P (ws.getD k wz))) ∧ Below W.heap.size W w') :
    Calls Try.prog 74 #[.slice a n cap, .func (.func fid) #[v0] #[]] w fun e w' => ∃ z : Int, e = .returned (.int .i64 z) ∧ decide (0 ≤ z) = ws.any P ∧ Below w.heap.size w w' := by
  have HH := Lib.hid hh
  have HN := Lib.hid hn
  have HC := Lib.hid hc
  clear hh hn hc
  go_enter Try.func74, Try.ntmps74
  go_wp2
  go_loopw [8] (fun i wr => ∃ k : Nat, k ≤ n ∧ i = .int .i64 k ∧ Hid (∀ j, j < k → P (ws.getD j wz) = false) ∧ Hid (Below w.heap.size w wr)) (fun i _ => n - (intOf i).toNat)
  case atStart => exact ⟨0, Nat.zero_le _, rfl, fun j hj => absurd hj (Nat.not_lt_zero j), Below.refl _ _⟩
  case round =>
    obtain ⟨k, hk, rfl, HP, HB⟩ := hrel
    by_cases hk' : k < n
    · have hkw : k < ws.length := by rw [HN.out]; exact hk'
      have i1 : (0 : Int) ≤ (k : Int) := by omega
      have i2 : (k : Int) < (n : Int) := by omega
      obtain ⟨b, o, ad, cq, rfl, hz, ⟨e0, e1, e2, e3, e4, e5, e6⟩, hde⟩ := HH.out.at HB.out HN.out hk'
      have HCX := Lib.hid (HC.out wr HB.out k hkw ad cq hde)
      have HHIT : Hid (P (ws.getD k wz) = true → ws.any P = true) := fun h => List.any_eq_true.2 ⟨_, getD_mem hkw, h⟩
      have HNXT : Hid (P (ws.getD k wz) = false → ∀ j, j < k + 1 → P (ws.getD j wz) = false) := fun h j hj => by
        by_cases e : j = k
        · rw [e]; exact h
        · exact HP.out j (by omega)
      clear hde
      generalize ws.getD k wz = x at *
      obtain ⟨pv, hpv⟩ : ∃ pv, pv = P x := ⟨_, rfl⟩
      rw [← hpv] at HCX HHIT HNXT
      clear hpv
      obtain ⟨yk, yc, ys, yq, yv, yd, yy⟩ := x
      unfold wrOf at HCX
      simp only at e0 e1 e2 e3 e4 e5 e6 HCX
      go_wp2_with fail
      refine HCX.out.mono ?_
      rintro e w1 ⟨rfl, hb⟩
      have HB1 := Lib.hid (below_step HB.out HB.out.size hb)
      clear hb
      cases pv with
      | false =>
        have HP2 := Lib.hid (HNXT.out rfl)
        go_wp2
        exact ⟨⟨k + 1, by omega, by go_num, HP2, HB1⟩, by simp [intOf]; omega⟩
      | true =>
        have HT := Lib.hid (HHIT.out rfl)
        go_wp2
        go_ret
        exact ⟨(k : Int), rfl, by rw [HT.out]; exact decide_eq_true i1, HB1.out⟩
    · have hkk : k = n := by omega
      subst hkk
      have HT : Hid (ws.any P = false) := by
        show _ = _
        rw [List.any_eq_false]
        intro y hy
        obtain ⟨j, hj, rfl⟩ := mem_getD hy
        rw [HP.out j (by rw [← HN.out]; exact hj)]
        simp
      go_wp2
      go_ret
      exact ⟨-1, rfl, by rw [HT.out]; rfl, HB.out⟩

set_option maxRecDepth 100000 in
set_option maxHeartbeats 4000000 in
theorem containsF_any (fid : FuncId) (v0 : Value) (P : Wr → Bool) (a : Option Addr) (n cap : Nat) (ws : List Wr) (w : World) (hn : ws.length = n) (hm : n ≤ 1048576) (hh : IsWs w a ws)
    (hcf : ∀ (args : Array Value) (w : World), (callFunc fid args).run Try.prog w = .ok (.enter fid args) w) (hc : ∀ W, Below w.heap.size w W → ∀ k, k < ws.length → ∀ ad cp, IsDeps W ad (ws.getD k wz).xs → Calls Try.prog fid #[v0, wrOf (ws.getD k wz) ad cp] W fun e w' => e = .returned (.bool (P (ws.getD k wz))) ∧ Below W.heap.size W w') :
    Calls Try.prog 59 #[.slice a n cap, .func (.func fid) #[v0] #[]] w fun e w' => e = .returned (.bool (ws.any P)) ∧ Below w.heap.size w w' := by
  have HC := Lib.hid (indexF_any fid v0 P a n cap ws w hn hm hh hcf hc)
  clear hc hcf hh hn
  go_enter Try.func59, Try.ntmps59
  go_wp2_with fail
  refine HC.out.mono ?_
  rintro e w1 ⟨z, rfl, hz, hb⟩
  have HZ := Lib.hid hz
  have HB1 := Lib.hid hb
  clear hz hb HC
  go_wp2
  go_ret
  exact ⟨by rw [← HZ.out]; rfl, HB1.out⟩

/-- A set as it is now: what it holds besides is new, and nothing else has turned. -/
def SetNow (w0 w1 : World) (b base : Nat) (V1 : Dp → Option Value) (ks : List Wr) (W : World) : Prop := ∃ V E, SetIs w0 W b ks.length base V E ks ∧ (∀ y, SetS b V y → SetS b V1 y ∨ w1.heap.size ≤ y) ∧ But (SetS b V1) w1 W

theorem SetNow.more {w0 w1 W W' : World} {b base : Nat} {V1 : Dp → Option Value} {ks : List Wr} (h : SetNow w0 w1 b base V1 ks W) (hb : Below W.heap.size W W') : SetNow w0 w1 b base V1 ks W' := by
  obtain ⟨V, E, h1, h2, h3⟩ := h
  exact ⟨V, E, h1.below hb, h2, h3.trans (Below.but hb fun _ => False) fun x _ hx => hx.elim⟩

theorem SetNow.added {w0 w1 W W' : World} {b base : Nat} {V1 V : Dp → Option Value} {ks : List Wr} {x : Wr} (h2 : ∀ y, SetS b V y → SetS b V1 y ∨ w1.heap.size ≤ y) (h3 : But (SetS b V1) w1 W) (ha : Added w0 W b ks.length base V (ks ++ [x]) W') : SetNow w0 w1 b base V1 (ks ++ [x]) W' := by
  obtain ⟨V', E', a1, a2, a3⟩ := ha
  refine ⟨V', E', by rw [List.length_append]; exact a1, fun y hy => ?_, h3.trans a3 fun y hy hs => ?_⟩
  · rcases a2 y hy with h | h
    · exact h2 y h
    · exact .inr (Nat.le_trans h3.size h)
  · rcases h2 y hs with h | h
    · exact h
    · omega

theorem SetNow.belowW {w0 w1 W : World} {b base : Nat} {V1 : Dp → Option Value} {ks : List Wr} (h : SetNow w0 w1 b base V1 ks W) (hw : w0.heap.size ≤ base) (h0 : Below w0.heap.size w0 w1) (hV : ∀ y, SetS b V1 y → base ≤ y) : Below w0.heap.size w0 W := by
  obtain ⟨V, E, _, _, h3⟩ := h
  exact Below.butOn h0 h3 h0.size fun y hy => Nat.le_trans hw (hV y hy)

end Go.Proofs.Ytkgojpmjnehcnaa

/- Inventions: the contract of impl.Inventions. -/
namespace Go.Proofs.Ytkgojpmjnehcnaa
open Go.ChangeShapes Go.WideShapes Go.ChangeAt Go.RowKit Go.Joins Go.Maps
attribute [local go_sem ↓] Go.wp_at_zero Go.wp_at_succ

set_option maxRecDepth 100000 in
set_option maxHeartbeats 4000000 in
theorem inv1_any (p b base : Nat) (V : Dp → Option Value) (E : Dp → List EnG) (ks : List Wr) (s : Int) (sh : Bool) (m : Int) (a : Option Addr) (q cap : Nat) (ws : List Wr) (w0 w : World) (hn : ws.length = q) (hq : ks.length + q ≤ 1048576) (hf : Few ws) (hr : WsR ws) (hi : IsWs w0 a ws) (hb : Below w0.heap.size w0 w) (hB : base ≤ b) (hw : w0.heap.size ≤ base) (hbs : base ≤ w.heap.size) (hps : ¬ SetS b V p) (hp : w.cell? ⟨p, 0, none⟩ = some (.map (some b))) (h : SetIs w0 w b ks.length base V E ks) :
    Calls Try.prog 58 #[evV s sh m a q cap, .pointer (some ⟨p, 0, none⟩)] w fun e w' => e = .returned (.bool (sh && ws.any fun x => !hasW ks x)) ∧ SetNow w0 w b base V (if sh = true then ks else ks ++ ws) w' := by
  have HI := Lib.hid hi
  have HN := Lib.hid hn
  have HR := Lib.hid hr
  have HF := Lib.hid hf
  have HB0 := Lib.hid hb
  have HH := Lib.hid h
  have hw0 : w0.heap.size ≤ w.heap.size := hb.size
  have hpl : p < w.heap.size := World.block_lt_of_cell? w _ hp
  have HVB := Lib.hid (h.base hB)
  have HA : Hid (Below w.heap.size w (w.alloc (.cells #[.int .i64 s, .bool sh, .int .i64 m, .slice a q cap] 59))) := (Below.refl _ _).alloc (Nat.le_refl _) _
  have HB1 : Hid (Below w0.heap.size w0 (w.alloc (.cells #[.int .i64 s, .bool sh, .int .i64 m, .slice a q cap] 59))) := below_step hb hw0 HA.out
  have hp1 : (w.alloc (.cells #[.int .i64 s, .bool sh, .int .i64 m, .slice a q cap] 59)).cell? ⟨p, 0, none⟩ = some (.map (some b)) := (HA.out.cell (p := ⟨p, 0, none⟩) hpl).trans hp
  have HP := Lib.hid hp
  have HPS := Lib.hid hps
  clear hi hn hr hf hb h hp hps
  cases sh with
  | true =>
    rw [Bool.true_and, if_pos rfl]
    have HC := Lib.hid (containsF_any 36 (.map (some b)) (fun x => !hasW ks x) a q cap ws (w.alloc (.cells #[.int .i64 s, .bool true, .int .i64 m, .slice a q cap] 59)) HN.out (by omega) (HI.out.below HB1.out) (call_enterB Try.func36 (by kernel_rfl) (by kernel_rfl))
      fun W hW k hk ad cp hd => setLacks_any b ks.length base V E ks (ws.getD k wz) ad cp w0 W (by omega) (HR.out k hk) (HF.out k hk) hd (below_step HB1.out HB1.out.size hW) ((HH.out.below HA.out).below hW))
    go_enter Try.func58, Try.ntmps58
    go_wp2_with fail
    refine HC.out.mono ?_
    rintro e w2 ⟨rfl, hb2⟩
    have HB2 : Hid (Below w.heap.size w w2) := below_step HA.out HA.out.size hb2
    have HS2 : Hid (SetNow w0 w b base V ks w2) := ⟨V, E, HH.out.below HB2.out, fun y hy => .inl hy, Below.but HB2.out _⟩
    clear hb2 HC
    go_wp2
    go_ret
    exact ⟨rfl, HS2.out⟩
  | false =>
    rw [Bool.false_and, if_neg (by simp)]
    have HS1 : Hid (SetNow w0 w b base V (ks ++ ws.take 0) (w.alloc (.cells #[.int .i64 s, .bool false, .int .i64 m, .slice a q cap] 59))) := by
      rw [List.take_zero, List.append_nil]
      exact ⟨V, E, HH.out.below HA.out, fun y hy => .inl hy, Below.but HA.out _⟩
    go_enter Try.func58, Try.ntmps58
    go_wp2
    go_loopw [16] (fun i wr => ∃ k : Nat, k ≤ q ∧ i = .int .i64 k ∧ Hid (SetNow w0 w b base V (ks ++ ws.take k) wr)) (fun i _ => q - (intOf i).toNat)
    case atStart => exact ⟨0, Nat.zero_le _, rfl, HS1⟩
    case round =>
      clear HS1 hp1 HB1 HA
      obtain ⟨k, hk, rfl, HS⟩ := hrel
      by_cases hk' : k < q
      · have hkw : k < ws.length := by rw [HN.out]; exact hk'
        have i1 : (0 : Int) ≤ (k : Int) := by omega
        have i2 : (k : Int) < (q : Int) := by omega
        have HBW : Hid (Below w0.heap.size w0 wr) := HS.out.belowW hw HB0.out HVB.out
        obtain ⟨bl, o, ad, cp, rfl, hz, ⟨e0, e1, e2, e3, e4, e5, e6⟩, hd⟩ := HI.out.base HBW.out HN.out hk'
        have HD := Lib.hid hd
        have hxl := HF.out k hkw
        have HXR := Lib.hid (HR.out k hkw)
        have HT : Hid (ks ++ ws.take (k + 1) = (ks ++ ws.take k) ++ [ws.getD k wz]) := by
          show _ = _
          rw [List.append_assoc]
          congr 1
          rw [List.take_add_one, List.getElem?_eq_getElem hkw]
          simp [List.getD, hkw]
        have hlen : (ks ++ ws.take k).length ≤ 1048576 := by rw [List.length_append, List.length_take]; omega
        have hpw : wr.cell? ⟨p, 0, none⟩ = some (.map (some b)) := by
          obtain ⟨_, _, _, _, h3⟩ := HS.out
          exact (World.cell?_of_block (a := ⟨p, 0, none⟩) (h3.block p hpl HPS.out)).trans HP.out
        have hplr : p < wr.heap.size := World.block_lt_of_cell? wr _ hpw
        have hsr : base ≤ wr.heap.size := by
          obtain ⟨_, _, _, _, h3⟩ := HS.out
          have := h3.size
          omega
        clear hd
        generalize ws.getD k wz = x at *
        generalize ks ++ ws.take k = ks1 at *
        obtain ⟨xk, xc, xs', xq, xv, xd, xx⟩ := x
        simp only at e0 e1 e2 e3 e4 e5 e6 hxl HD
        have HBB : Hid (Below wr.heap.size wr (wr.alloc (.cells #[.int .i64 xk, .int .i64 xc, .int .i64 xs', .int .i64 xq, .int .i64 xv, .bool xd, .slice ad xx.length cp] 43))) := (Below.refl _ _).alloc (Nat.le_refl _) _
        have HB2 := Lib.hid (below_step HBW.out HBW.out.size HBB.out)
        have HS2 := Lib.hid (HS.out.more HBB.out)
        have hsz : (wr.alloc (.cells #[.int .i64 xk, .int .i64 xc, .int .i64 xs', .int .i64 xq, .int .i64 xv, .bool xd, .slice ad xx.length cp] 43)).heap.size = wr.heap.size + 1 := by simp
        obtain ⟨V', E', s1, s2, s3⟩ := HS2.out
        have HS1 := Lib.hid s1
        have HS22 := Lib.hid s2
        have HS3 := Lib.hid s3
        clear s1 s2 s3 HS HS2
        go_wp2_with fail
        refine (setAdd_any b ks1.length base V' E' ks1 ⟨xk, xc, xs', xq, xv, xd, xx⟩ ad cp w0 _ (by omega) (fun d => Nat.le_trans (HS1.out.len d) hlen) HXR.out hxl HD.out HB2.out (by omega) HS1.out).mono ?_
        rintro e w3 ⟨rfl, hadd⟩
        have HN3 : Hid (SetNow w0 w b base V (ks ++ ws.take (k + 1)) w3) := by
          rw [HT.out]
          exact SetNow.added HS22.out HS3.out hadd
        clear hadd HS1 HS22 HS3 HBB HB2 hsz
        go_wp2
        exact ⟨⟨k + 1, by omega, by go_num, HN3⟩, by simp [intOf]; omega⟩
      · have hkk : k = q := by omega
        subst hkk
        have HE : Hid (SetNow w0 w b base V (ks ++ ws) wr) := by
          have h := HS.out
          rw [List.take_of_length_le (by rw [HN.out]; exact Nat.le_refl _)] at h
          exact h
        go_wp2
        go_ret
        exact ⟨rfl, HE.out⟩

/-- All that was written ahead of place k, each as often as it was. -/
def ksTo (es : List Ev) (k : Nat) : List Wr := (es.take k).flatMap fun e => if e.sh = true then [] else e.ws

theorem ksTo_next (es : List Ev) {k : Nat} (h : k < es.length) : ksTo es (k + 1) = if (es.getD k evz).sh = true then ksTo es k else ksTo es k ++ (es.getD k evz).ws := by
  unfold ksTo
  have e : es.take (k + 1) = es.take k ++ [es.getD k evz] := by
    rw [List.take_add_one, List.getElem?_eq_getElem h]
    simp [List.getD, h]
  rw [e, List.flatMap_append]
  simp only [List.flatMap_cons, List.flatMap_nil, List.append_nil]
  split <;> simp

theorem ksTo_len : ∀ (es : List Ev) (k : Nat), (ksTo es k).length ≤ lenTo es k
  | [], k => by simp [ksTo]
  | e :: r, 0 => by simp [ksTo]
  | e :: r, k + 1 => by
    have h := ksTo_len r k
    have e1 : ksTo (e :: r) (k + 1) = (if e.sh = true then [] else e.ws) ++ ksTo r k := by simp [ksTo]
    have e2 : lenTo (e :: r) (k + 1) = e.ws.length + lenTo r k := by simp [lenTo]
    rw [e1, e2, List.length_append]
    split
    · simp
      omega
    · omega

/-- Is the event at place k an invention? -/
def invAt (es : List Ev) (k : Nat) : Bool := (es.getD k evz).sh && (es.getD k evz).ws.any fun x => !hasW (ksTo es k) x

/-- What the function that Inventions hands over keeps. -/
def InvK (es : List Ev) (w : World) (p b : Nat) (S : Nat → Prop) (W : World) (k : Nat) : Prop := ∃ V E, (∀ x, S x ↔ (x = p ∨ SetS b V x)) ∧ W.cell? ⟨p, 0, none⟩ = some (.map (some b)) ∧ ¬ SetS b V p ∧ SetIs w W b (ksTo es k).length w.heap.size V E (ksTo es k)

set_option maxRecDepth 100000 in
set_option maxHeartbeats 4000000 in
theorem implInv_any (a : Option Addr) (n cap : Nat) (es : List Ev) (w : World) (hn : es.length = n) (hm : n ≤ 1048576) (hx : FewE es) (hh : heftB (evW es) ≤ 1048576) (hr : EsR es) (hi : IsEs w a es) :
    Calls Try.prog 31 #[.slice a n cap] w fun e w' => ∃ v, e = .returned v ∧ RowI w' w.heap.size v (placesTo (invAt es) n) ∧ Below w.heap.size w w' := by
  have HI := Lib.hid hi
  have HN := Lib.hid hn
  have HX := Lib.hid hx
  have HHE := Lib.hid hh
  have HR := Lib.hid hr
  clear hi hn hx hh hr
  have hmm := @run_makeMap Try.prog
  go_enter Try.func31, Try.ntmps31
  go_wp2_with fail
  clear hmm
  have HBA : Hid (Below w.heap.size w ((w.alloc (.map #[] 0)).alloc (.cells #[.map (some w.heap.size)] 64))) := ((Below.refl _ _).alloc (Nat.le_refl _) _).alloc (by simp) _
  have h0 : InvK es w (w.heap.size + 1) w.heap.size (fun x => x = w.heap.size + 1 ∨ x = w.heap.size) ((w.alloc (.map #[] 0)).alloc (.cells #[.map (some w.heap.size)] 64)) 0 := by
    refine ⟨fun _ => none, fun _ => [], fun x => ⟨fun h => ?_, fun h => ?_⟩, ?_, ?_, ?_⟩
    · rcases h with h | h
      · exact .inl h
      · exact .inr (.inl h)
    · rcases h with h | h | ⟨_, _, h, _⟩
      · exact .inl h
      · exact .inr h
      · cases h
    · have h := heap_alloc2_new w (.map #[] 0) (.cells #[.map (some w.heap.size)] 64)
      rw [cell_of_row _ _ 0 _ _ _ h]
      rfl
    · rintro (h | ⟨_, _, h, _⟩)
      · omega
      · cases h
    · exact (setIs_made w w w.heap.size).below ((Below.refl _ _).alloc (Nat.le_refl _) _)
  generalize (w.alloc (.map #[] 0)).alloc (.cells #[.map (some w.heap.size)] 64) = W2 at *
  have hs2 : w.heap.size ≤ W2.heap.size := HBA.out.size
  refine (placesOf_any 58 (.pointer (some ⟨w.heap.size + 1, 0, none⟩)) (InvK es w (w.heap.size + 1) w.heap.size) (invAt es) a n cap es (fun x => x = w.heap.size + 1 ∨ x = w.heap.size) w W2 HN.out hm HI.out HBA.out h0 (fun x hx => by omega) ?_ ?_ ?_ ?_).mono ?_
  · rintro S W k ⟨V, E, h1, h2, h3, h4⟩ x hx
    rcases (h1 x).1 hx with rfl | h
    · exact World.block_lt_of_cell? W _ h2
    · exact h4.lt x h
  · rintro S W W' k ⟨V, E, h1, h2, h3, h4⟩ hsz hk
    exact ⟨V, E, h1, (World.cell?_of_block (a := ⟨w.heap.size + 1, 0, none⟩) (hk _ ((h1 _).2 (.inl rfl)))).trans h2, h3, h4.keep fun x hx => hk x ((h1 x).2 (.inr hx))⟩
  · exact call_enterB Try.func58 (by kernel_rfl) (by kernel_rfl)
  · rintro S W k hk ⟨V, E, h1, h2, h3, h4⟩ hb hS ad cp hw
    obtain ⟨r1, r2, r3⟩ := HR.out k hk
    have hl := lenTo_heft es (k + 1)
    have hl2 := lenTo_next es hk
    have hl3 := ksTo_len es k
    have hhe := HHE.out
    refine (inv1_any (w.heap.size + 1) w.heap.size w.heap.size V E (ksTo es k) _ _ _ ad _ cp (es.getD k evz).ws w W rfl (by omega) (HX.out k hk).2 r3 hw hb (Nat.le_refl _) (Nat.le_refl _) hb.size h3 h2 h4).mono ?_
    rintro e w' ⟨rfl, V', E', g1, g2, g3⟩
    rw [← ksTo_next es hk] at g1
    have hpl : w.heap.size + 1 < W.heap.size := World.block_lt_of_cell? W _ h2
    refine ⟨rfl, fun x => x = w.heap.size + 1 ∨ SetS w.heap.size V' x, ⟨V', E', fun x => Iff.rfl, ?_, fun hy => ?_, g1⟩, fun x hx => ?_, ?_⟩
    · exact (World.cell?_of_block (a := ⟨w.heap.size + 1, 0, none⟩) (g3.block _ hpl h3)).trans h2
    · rcases g2 _ hy with h | h
      · exact h3 h
      · omega
    · rcases hx with hx | hx
      · exact .inl ((h1 x).2 (.inl hx))
      · rcases g2 x hx with h | h
        · exact .inl ((h1 x).2 (.inr h))
        · exact .inr h
    · exact ⟨g3.os, g3.tape, g3.output, g3.size, fun x hx hn => g3.block x hx fun e => hn ((h1 x).2 (.inr e))⟩
  · rintro e w3 ⟨v, rfl, hrow, hb⟩
    have HR3 : Hid (RowI w3 w.heap.size v (placesTo (invAt es) n)) := hrow.mono hs2
    have HB3 := Lib.hid hb
    clear hrow hb
    go_wp2
    go_ret
    exact ⟨_, rfl, HR3.out, HB3.out⟩

end Go.Proofs.Ytkgojpmjnehcnaa

/- Is a write there, the specification's side: the contract of spec's l09Has. -/
namespace Go.Proofs.Ytkgojpmjnehcnaa
open Go.ChangeShapes Go.WideShapes Go.ChangeAt Go.RowKit Go.Joins
attribute [local go_sem ↓] Go.wp_at_zero Go.wp_at_succ

theorem has_hit {ws : List Wr} {x : Wr} {k : Nat} (hk : k < ws.length) (h : cmpW (ws.getD k wz) x = 0) : hasW ws x = true := by
  unfold hasW
  rw [List.any_eq_true]
  exact ⟨_, getD_mem hk, by rw [h]; rfl⟩

theorem has_none {ws : List Wr} {x : Wr} (h : ∀ k, k < ws.length → cmpW (ws.getD k wz) x ≠ 0) : hasW ws x = false := by
  unfold hasW
  rw [List.any_eq_false]
  intro y hy
  obtain ⟨k, hk, rfl⟩ := mem_getD hy
  simpa using h k hk

set_option maxRecDepth 100000 in
set_option maxHeartbeats 4000000 in
theorem specHas_any (a : Option Addr) (n cap : Nat) (ws : List Wr) (x : Wr) (ad : Option Addr) (cp : Nat) (w : World) (hn : ws.length = n) (hm : n ≤ 1048576) (hx : Few ws) (hxl : x.xs.length ≤ 1048576) (hh : IsWs w a ws) (hd : IsDeps w ad x.xs) :
    Calls Try.prog 33 #[.slice a n cap, wrOf x ad cp] w fun e w' => e = .returned (.bool (hasW ws x)) ∧ Below w.heap.size w w' := by
  obtain ⟨xk, xc, xs', xq, xv, xd, xx⟩ := x
  simp only at hxl hd
  have HH := Lib.hid hh
  have HN := Lib.hid hn
  have HX := Lib.hid hx
  have HA : Hid (Below w.heap.size w (w.alloc (.cells #[.int .i64 xk, .int .i64 xc, .int .i64 xs', .int .i64 xq, .int .i64 xv, .bool xd, .slice ad xx.length cp] 43))) := (Below.refl _ _).alloc (Nat.le_refl _) _
  have HD := Lib.hid hd
  have HBX : Hid ((w.alloc (.cells #[.int .i64 xk, .int .i64 xc, .int .i64 xs', .int .i64 xq, .int .i64 xv, .bool xd, .slice ad xx.length cp] 43)).heap[w.heap.size]? = some (.cells #[.int .i64 xk, .int .i64 xc, .int .i64 xs', .int .i64 xq, .int .i64 xv, .bool xd, .slice ad xx.length cp] 43 (0, 0))) := heap_alloc_new _ _
  have HSZ : Hid ((w.alloc (.cells #[.int .i64 xk, .int .i64 xc, .int .i64 xs', .int .i64 xq, .int .i64 xv, .bool xd, .slice ad xx.length cp] 43)).heap.size = w.heap.size + 1) := by show _ = _; simp
  clear hh hn hx hd
  unfold wrOf
  simp only
  go_enter Try.func33, Try.ntmps33
  go_wp2
  generalize w.alloc (.cells #[.int .i64 xk, .int .i64 xc, .int .i64 xs', .int .i64 xq, .int .i64 xv, .bool xd, .slice ad xx.length cp] 43) = W1 at *
  go_loopw [5] (fun ti wr => ∃ i : Nat, i ≤ n ∧ ti = .int .i64 i ∧ Hid (∀ k, k < i → cmpW (ws.getD k wz) ⟨xk, xc, xs', xq, xv, xd, xx⟩ ≠ 0) ∧ Hid (Below W1.heap.size W1 wr)) (fun ti _ => n - (intOf ti).toNat)
  case atStart => exact ⟨0, Nat.zero_le _, rfl, fun k hk => absurd hk (Nat.not_lt_zero k), Below.refl _ _⟩
  case round =>
    obtain ⟨i, hi, rfl, HL, HB⟩ := hrel
    have HBW : Hid (Below w.heap.size w wr) := below_step HA.out HA.out.size HB.out
    by_cases hi' : i < n
    · have hiw : i < ws.length := by rw [HN.out]; exact hi'
      have i1 : (0 : Int) ≤ (i : Int) := by omega
      have i2 : (i : Int) < (n : Int) := by omega
      have qb := (HB.out.block w.heap.size (by rw [HSZ.out]; omega)).trans HBX.out
      have g0 := cell_of_row wr w.heap.size 0 _ _ _ qb
      have g1 := cell_of_row wr w.heap.size 1 _ _ _ qb
      have g2 := cell_of_row wr w.heap.size 2 _ _ _ qb
      have g3 := cell_of_row wr w.heap.size 3 _ _ _ qb
      have g4 := cell_of_row wr w.heap.size 4 _ _ _ qb
      have g5 := cell_of_row wr w.heap.size 5 _ _ _ qb
      have g6 := cell_of_row wr w.heap.size 6 _ _ _ qb
      simp at g0 g1 g2 g3 g4 g5 g6
      have hlt : w.heap.size < wr.heap.size := by have := HB.out.size; rw [HSZ.out] at this; omega
      clear qb
      obtain ⟨b, o, ad2, cp2, rfl, hz, ⟨e0, e1, e2, e3, e4, e5, e6⟩, hde⟩ := HH.out.at HBW.out HN.out hi'
      have hyl := HX.out i hiw
      have HC : Hid (∀ p : Aft wr.heap.size wr, Calls Try.prog 61 #[wrOf (ws.getD i wz) ad2 cp2, wrV xk xc xs' xq xv xd ad xx.length cp] p.now fun e w' => e = .returned (.int .i64 (cmpW (ws.getD i wz) ⟨xk, xc, xs', xq, xv, xd, xx⟩)) ∧ Below p.now.heap.size p.now w') := fun p =>
        specWriteCmp_gen _ _ _ _ _ _ _ (ws.getD i wz).xs _ _ _ _ _ _ _ _ _ xx _ _ _ rfl rfl hyl hxl (hde.below p.below) (HD.out.below (below_step HBW.out HBW.out.size p.below))
      unfold wrOf at HC
      have HHIT : Hid (cmpW (ws.getD i wz) ⟨xk, xc, xs', xq, xv, xd, xx⟩ = 0 → hasW ws ⟨xk, xc, xs', xq, xv, xd, xx⟩ = true) := fun h => has_hit hiw h
      have HNXT : Hid (cmpW (ws.getD i wz) ⟨xk, xc, xs', xq, xv, xd, xx⟩ ≠ 0 → ∀ k, k < i + 1 → cmpW (ws.getD k wz) ⟨xk, xc, xs', xq, xv, xd, xx⟩ ≠ 0) := fun h k hk => by
        by_cases e : k = i
        · rw [e]; exact h
        · exact HL.out k (by omega)
      clear hde
      generalize ws.getD i wz = y at *
      obtain ⟨yk, yc, ys, yq, yv, yd, yy⟩ := y
      simp only at e0 e1 e2 e3 e4 e5 e6 HC hyl
      obtain ⟨z, hz0⟩ : ∃ z, cmpW ⟨yk, yc, ys, yq, yv, yd, yy⟩ ⟨xk, xc, xs', xq, xv, xd, xx⟩ = z := ⟨_, rfl⟩
      rw [hz0] at HHIT HNXT
      have HC' : Hid (∀ p : Aft wr.heap.size wr, Calls Try.prog 61 #[wrV yk yc ys yq yv yd ad2 yy.length cp2, wrV xk xc xs' xq xv xd ad xx.length cp] p.now fun e w' => e = .returned (.int .i64 z) ∧ Below p.now.heap.size p.now w') := by rw [← hz0]; exact HC
      clear HC hz0
      go_wp2_with fail
      have gg0 := aft_cell hlt g0
      have gg1 := aft_cell hlt g1
      have gg2 := aft_cell hlt g2
      have gg3 := aft_cell hlt g3
      have gg4 := aft_cell hlt g4
      have gg5 := aft_cell hlt g5
      have gg6 := aft_cell hlt g6
      have ge0 := aft_cell hz e0
      have ge1 := aft_cell hz e1
      have ge2 := aft_cell hz e2
      have ge3 := aft_cell hz e3
      have ge4 := aft_cell hz e4
      have ge5 := aft_cell hz e5
      have ge6 := aft_cell hz e6
      have ne := aft_some wr
      refine wp_region_aft (by kernel_rfl) (by kernel_rfl) ?_
      repeat (first | go_big_quiet_step (first | (go_at_call 61; exact aft_of (HC'.out _))))
      refine wpQuiet_nil ?_
      intro wq hq
      have HBQ : Hid (Below W1.heap.size W1 wq) := below_step HB.out HB.out.size hq
      have HBF : Hid (Below w.heap.size w wq) := below_step HBW.out HBW.out.size hq
      clear hq gg0 gg1 gg2 gg3 gg4 gg5 gg6 ge0 ge1 ge2 ge3 ge4 ge5 ge6 ne
      by_cases hz0 : z = 0
      · have HT := Lib.hid (HHIT.out hz0)
        subst hz0
        go_wp2
        go_ret
        exact ⟨by rw [HT.out]; rfl, HBF.out⟩
      · have HL2 := Lib.hid (HNXT.out hz0)
        go_wp2
        exact ⟨⟨i + 1, by omega, by go_num, HL2, HBQ⟩, by simp [intOf]; omega⟩
    · have hkk : i = n := by omega
      subst hkk
      have HT : Hid (hasW ws ⟨xk, xc, xs', xq, xv, xd, xx⟩ = false) := has_none fun k hk => HL.out k (by rw [← HN.out]; exact hk)
      go_wp2
      go_ret
      exact ⟨by rw [HT.out]; rfl, HBW.out⟩

end Go.Proofs.Ytkgojpmjnehcnaa

/- What was written, the specification's side: the contract of spec.Written. -/
namespace Go.Proofs.Ytkgojpmjnehcnaa
open Go.ChangeShapes Go.WideShapes Go.ChangeAt Go.RowKit Go.Joins
attribute [local go_sem ↓] Go.wp_at_zero Go.wp_at_succ

/-- A row of the specification's that has these writes. -/
def RowOf (w wr : World) (out : List Wr) (v : Value) : Prop := ∃ g cp gs, v = .slice (some ⟨g, 0, none⟩) out.length cp ∧ gs.map (·.x) = out ∧ RowEs wr w.heap.size g cp gs ∧ Below w.heap.size w wr

theorem RowOf.below {w wr : World} {out : List Wr} {v : Value} (h : RowOf w wr out v) : Below w.heap.size w wr := by
  obtain ⟨_, _, _, _, _, _, h⟩ := h
  exact h

theorem RowOf.more {w wr w' : World} {out : List Wr} {v : Value} (h : RowOf w wr out v) (hb : Below wr.heap.size wr w') : RowOf w w' out v := by
  obtain ⟨g, cp, gs, h1, h2, h3, h4⟩ := h
  exact ⟨g, cp, gs, h1, h2, h3.below hb, below_step h4 h4.size hb⟩

theorem rowOf_start (w : World) : RowOf w (w.alloc (.cells #[] 43)) [] (.slice (some ⟨w.heap.size, 0, none⟩) 0 0) :=
  ⟨_, _, [], rfl, rfl, rowEs_start w w.heap.size (Nat.le_refl _), (Below.refl _ _).alloc (Nat.le_refl _) _⟩

set_option maxRecDepth 100000 in
set_option maxHeartbeats 8000000 in
theorem specWritten_any (a : Option Addr) (n cap : Nat) (es : List Ev) (w : World) (hn : es.length = n) (hm : n ≤ 1048576) (hx : FewE es) (hh : heftB (evW es) ≤ 1048576) (hi : IsEs w a es) :
    Calls Try.prog 9 #[.slice a n cap] w fun e w' => ∃ v, e = .returned v ∧ RowOf w w' (writtenL es) v := by
  have HI := Lib.hid hi
  have HN := Lib.hid hn
  have HX := Lib.hid hx
  have HHE := Lib.hid hh
  clear hi hn hx hh
  obtain ⟨i0, hi0, hx0⟩ := Option.map_eq_some_iff.1 infoWr
  simp only [Prod.mk.injEq] at hx0
  have HI0 := Lib.hid hi0
  have HX0 := Lib.hid hx0
  clear hi0 hx0
  have HT0 := Lib.hid (rowOf_start w)
  go_enter Try.func9, Try.ntmps9
  go_wp2
  go_loopw [3, 4] (fun t i wr => ∃ (k : Nat) (v : Value), k ≤ n ∧ i = .int .i64 k ∧ v = t ∧ Hid (RowOf w wr ((es.take k).foldl addE []) v)) (fun _ i _ => n - (intOf i).toNat)
  case atStart => exact ⟨0, _, Nat.zero_le _, rfl, rfl, HT0⟩
  case round =>
    clear HT0
    obtain ⟨k, v, hk, rfl, rfl, HT⟩ := hrel
    by_cases hk' : k < n
    · have hkw : k < es.length := by rw [HN.out]; exact hk'
      have i1 : (0 : Int) ≤ (k : Int) := by omega
      have i2 : (k : Int) < (n : Int) := by omega
      obtain ⟨b, o, ad, cq, rfl, hz, e0, hde⟩ := HI.out.at (Below.refl _ w) hkw
      have HW := Lib.hid hde
      have HNX := Lib.hid (foldl_next addE es [] evz hkw)
      have HWG : Hid (∀ j, wgt (((es.getD k evz).ws.take j).foldl addW ((es.take k).foldl addE [])) ≤ 1048576) := fun j => Nat.le_trans (writing_wgt es hkw) HHE.out
      obtain ⟨hql, hqf⟩ := HX.out k hkw
      have HQF := Lib.hid hqf
      clear hde hqf
      unfold EvAt at e0
      generalize es.getD k evz = x at *
      obtain ⟨xs, xh, xm, xw⟩ := x
      simp only at e0 hql HW HWG HQF
      obtain ⟨c0, c1, c2, c3⟩ := e0
      generalize (es.take k).foldl addE [] = out0 at *
      obtain ⟨q, hq⟩ : ∃ q, xw.length = q := ⟨_, rfl⟩
      rw [hq] at c3 hql
      have HQ := Lib.hid hq
      clear hq
      have HE0 : Hid (∀ W, Below w.heap.size w W → W.cell? ⟨b, o + k * 4 + 1, none⟩ = some (.bool xh) ∧ W.cell? ⟨b, o + k * 4 + 3, none⟩ = some (.slice ad q cq)) := fun W hW => ⟨(hW.cell (p := ⟨b, o + k * 4 + 1, none⟩) hz).trans c1, (hW.cell (p := ⟨b, o + k * 4 + 3, none⟩) hz).trans c3⟩
      clear c0 c1 c2 c3
      go_wp2
      go_loopw [3, 5] (fun t i wr => ∃ (j : Nat) (u : Value), j ≤ q ∧ i = .int .i64 j ∧ u = t ∧ (j = 0 ∨ xh = false) ∧ Hid (RowOf w wr ((xw.take j).foldl addW out0) u)) (fun _ i _ => q - (intOf i).toNat)
      case atStart => exact ⟨0, _, Nat.zero_le _, rfl, rfl, .inl rfl, HT⟩
      case round =>
        clear HT
        obtain ⟨j, u, hj, rfl, rfl, hj0, HT⟩ := hrel
        obtain ⟨c1, c3⟩ := HE0.out wr HT.out.below
        by_cases hj' : j < q
        · have hd1 : decide (j < q) = true := decide_eq_true hj'
          cases xh with
          | true =>
            obtain rfl : j = 0 := by rcases hj0 with h | h; exact h; cases h
            have HN2 : Hid ((es.take (k + 1)).foldl addE [] = out0) := HNX.out.trans (if_pos rfl)
            have HT4 : Hid (RowOf w wr ((es.take (k + 1)).foldl addE []) u) := by
              have h := HT.out
              rw [List.take_zero] at h
              rw [HN2.out]
              exact h
            go_wp2
            exact ⟨⟨k + 1, u, by omega, by go_num, rfl, HT4⟩, by simp [intOf]; omega⟩
          | false =>
            have hjw : j < xw.length := by rw [HQ.out]; exact hj'
            have i3 : (0 : Int) ≤ (j : Int) := by omega
            have i4 : (j : Int) < (q : Int) := by omega
            obtain ⟨bw, ow, aw, cw, rfl, hzw, ⟨e0, e1, e2, e3, e4, e5, e6⟩, hdw⟩ := HW.out.at HT.out.below HQ.out hj'
            have HDW := Lib.hid hdw
            have hxl := HQF.out j hjw
            have HNY := Lib.hid (foldl_next addW xw out0 wz hjw)
            have hwg := HWG.out j
            clear hdw
            generalize xw.getD j wz = y at *
            generalize (xw.take j).foldl addW out0 = out at *
            obtain ⟨yk, yc, ys, yq, yv, yd, yy⟩ := y
            simp only at e0 e1 e2 e3 e4 e5 e6 hxl HDW
            have hol : out.length ≤ 1048576 := by unfold wgt at hwg; omega
            have HOF : Hid (Few out) := few_wgt hwg
            obtain ⟨g, cp, gs, rfl, hgx, hgr, hgb⟩ := HT.out
            have HGX := Lib.hid hgx
            have HGR := Lib.hid hgr
            have HGB := Lib.hid hgb
            have hgl : gs.length = out.length := by
              have h1 := congrArg List.length hgx
              rwa [List.length_map] at h1
            have HGW : Hid (IsWs wr (some ⟨g, 0, none⟩) out) := hgr.isWs hgx HOF.out
            clear hgx hgr hgb HT
            obtain ⟨L, hL⟩ : ∃ L, out.length = L := ⟨_, rfl⟩
            have HLN := Lib.hid hL
            rw [hL] at hol hgl ⊢
            clear hL
            go_wp2_with fail
            refine (specHas_any _ L _ out ⟨yk, yc, ys, yq, yv, yd, yy⟩ aw cw _ HLN.out hol HOF.out hxl HGW.out HDW.out).mono ?_
            rintro e w3 ⟨rfl, hb3⟩
            have HGB3 : Hid (Below w.heap.size w w3) := below_step HGB.out HGB.out.size hb3
            have HGR3 := Lib.hid (HGR.out.below hb3)
            have HD3 := Lib.hid (HDW.out.below hb3)
            obtain ⟨c1, c3⟩ := HE0.out w3 HGB3.out
            replace e0 := (hb3.cell (p := ⟨bw, ow + j * 7, none⟩) hzw).trans e0
            replace e1 := (hb3.cell (p := ⟨bw, ow + j * 7 + 1, none⟩) hzw).trans e1
            replace e2 := (hb3.cell (p := ⟨bw, ow + j * 7 + 2, none⟩) hzw).trans e2
            replace e3 := (hb3.cell (p := ⟨bw, ow + j * 7 + 3, none⟩) hzw).trans e3
            replace e4 := (hb3.cell (p := ⟨bw, ow + j * 7 + 4, none⟩) hzw).trans e4
            replace e5 := (hb3.cell (p := ⟨bw, ow + j * 7 + 5, none⟩) hzw).trans e5
            replace e6 := (hb3.cell (p := ⟨bw, ow + j * 7 + 6, none⟩) hzw).trans e6
            clear hb3 HGB HGR HDW HGW
            cases hhas : hasW out ⟨yk, yc, ys, yq, yv, yd, yy⟩ with
            | true =>
              have HT4 : Hid (RowOf w w3 ((xw.take (j + 1)).foldl addW out0) (.slice (some ⟨g, 0, none⟩) L cp)) := by
                rw [HNY.out, addW_has hhas]
                exact ⟨g, cp, gs, by rw [HLN.out], HGX.out, HGR3.out, HGB3.out⟩
              clear hhas
              go_wp2
              exact ⟨⟨j + 1, _, by omega, by go_num, rfl, .inr trivial, HT4⟩, by simp [intOf]; omega⟩
            | false =>
              have HNZ := Lib.hid (HNY.out.trans (addW_not hhas))
              clear hhas HNY
              go_wp2_with fail
              refine (copy_any ⟨yk, yc, ys, yq, yv, yd, yy⟩ aw cw _ hxl HD3.out).mono ?_
              rintro e w4 ⟨g2, cp2, rfl, hg1, hg2, hg3, hb⟩
              have HGB4 : Hid (Below w.heap.size w w4) := below_step HGB3.out HGB3.out.size hb
              have HGR4 := Lib.hid (HGR3.out.below hb)
              have HG : Hid (HoldsDeps w4 g2 0 yy) := hg3
              have hg5 : g2 ≠ g := by have := HGR3.out.lt; omega
              have hg6 : w.heap.size ≤ g2 := Nat.le_trans HGB3.out.size hg1
              clear hb hg3 hg1 HD3 HGB3 HGR3 e0 e1 e2 e3 e4 e5 e6 c1 c3
              have HBA : Hid (Below w4.heap.size w4 (w4.alloc (.cells #[.int .i64 yk, .int .i64 yc, .int .i64 ys, .int .i64 yq, .int .i64 yv, .bool yd, .slice (some ⟨g2, 0, none⟩) yy.length cp2] 43))) := (Below.refl _ _).alloc (Nat.le_refl _) _
              have HWA := Lib.hid (HGR4.out.below HBA.out)
              have HOW : Hid ((w4.alloc (.cells #[.int .i64 yk, .int .i64 yc, .int .i64 ys, .int .i64 yq, .int .i64 yv, .bool yd, .slice (some ⟨g2, 0, none⟩) yy.length cp2] 43)).ownsRow w.heap.size 43 7 (.slice (some ⟨g, 0, none⟩) L cp) L (gs.flatMap wrVals)) := by
                have := HWA.out.own
                rw [hgl] at this
                exact this
              have hsz : w.heap.size ≤ w4.heap.size := HGB4.out.size
              go_wp2_with (at_builtin; refine wpList_append_lies _ (by rfl) _ _ _ (by rfl) w.heap.size 43 i0 (wrV 0 0 0 0 0 false none 0 0) 7 72 Try.underlying24 HI0.out HX0.out.1 HX0.out.2.1 HX0.out.2.2 (by rfl) (by omega) (.slice (some ⟨g, 0, none⟩) L cp) L (gs.flatMap wrVals) (by rfl) HOW.out ⟨w4.heap.size, 0, none⟩ 1 1 (wrVals ⟨⟨yk, yc, ys, yq, yv, yd, yy⟩, g2, cp2⟩) (by rfl) (by rfl) (one_cells w4 _ ⟨⟨yk, yc, ys, yq, yv, yd, yy⟩, g2, cp2⟩) (by simpa using vals_one [⟨⟨yk, yc, ys, yq, yv, yd, yy⟩, g2, cp2⟩]) (by omega) (by unfold maxLen; omega) (by omega) (by simp; omega) _ rfl ?_; intro g3 cp3 w5 hown hgrow hg3 _; refine Hid.out ?_)
              refine Lib.hid ?_
              have HGB5 : Hid (Below w.heap.size w w5) := (HGB4.out.alloc hsz _).grown hgrow (by simp; omega) fun j hj => by simp only [Value.ownBlock, Option.some.injEq] at hj; have := HGR4.out.le; omega
              have HR5 : Hid (RowEs w5 w.heap.size g3 cp3 (gs ++ [⟨⟨yk, yc, ys, yq, yv, yd, yy⟩, g2, cp2⟩])) := by
                refine HWA.out.more ⟨hg6, by simp; omega, hg5, HG.out.below HBA.out hg2⟩ (by rw [hgl]; exact hown) hgrow hg3
              have HT5 : Hid (RowOf w w5 ((xw.take (j + 1)).foldl addW out0) (.slice (some ⟨g3, 0, none⟩) (L + 1) cp3)) := by
                rw [HNZ.out]
                exact ⟨g3, cp3, _, by rw [List.length_append, HLN.out]; rfl, by rw [List.map_append, HGX.out]; rfl, HR5.out, HGB5.out⟩
              clear hown hgrow
              go_wp2
              exact ⟨⟨j + 1, _, by omega, by go_num, rfl, .inr trivial, HT5⟩, by simp [intOf]; omega⟩
        · obtain rfl : j = q := by omega
          have hd1 : decide (j < j) = false := by simp
          have HT4 : Hid (RowOf w wr ((es.take (k + 1)).foldl addE []) u) := by
            have h := HT.out
            rw [List.take_of_length_le (by rw [HQ.out]; exact Nat.le_refl _)] at h
            rw [HNX.out]
            unfold addE
            rcases hj0 with rfl | h0
            · have e0 : xw = [] := List.length_eq_zero_iff.1 HQ.out
              rw [e0] at h ⊢
              simp only [List.foldl_nil, ite_self]
              exact h
            · rw [if_neg (by rw [h0]; simp)]
              exact h
          go_wp2
          exact ⟨⟨k + 1, u, by omega, by go_num, rfl, HT4⟩, by simp [intOf]; omega⟩
    · have hkk : k = n := by omega
      subst hkk
      have HF : Hid (RowOf w wr (writtenL es) v) := by
        have h := HT.out
        rw [List.take_of_length_le (by rw [HN.out]; exact Nat.le_refl _)] at h
        exact h
      go_wp2
      go_ret
      exact ⟨_, rfl, HF.out⟩

end Go.Proofs.Ytkgojpmjnehcnaa
