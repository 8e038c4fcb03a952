import Derived.Test.YtomndnopbpbblaaPack7
import Derived.Test.YtomndnopbpbblaaPack6
import Derived.Test.YtomndnopbpbblaaPack2
import Derived.Lib.RabinKarpLaws
import Derived.Test.YtomndnopbpbblaaPack4
/- Sets of writes: the contract of impl's writeSet.add, walked. -/
namespace Go.Proofs.Ytomndnopbpbblaa
open Go.ChangeShapes Go.WideShapes Go.ChangeAt Go.RowKit Go.Joins Go.Maps
attribute [local go_sem ↓] Go.wp_at_zero Go.wp_at_succ

/-- One write, in a new block. -/
def WrNewB (ob : Option Nat) (e : EnG) : Fact := fun v w => ∃ g', v = .slice (some ⟨g', 0, none⟩) 1 1 ∧ some g' ≠ ob ∧ w.heap[g']? = some (.cells #[.int .i64 e.x.k, .int .i64 e.x.c, .int .i64 e.x.s, .int .i64 e.x.q, .int .i64 e.x.v, .bool e.x.de, .slice e.a e.x.xs.length e.cp] 37 (0, 0))

theorem lasts_wrNewB (U : Tmp → Option Tmp) (s : Tmp) (dst : Option Tmp) (ob : Option Nat) (e : EnG) : lastsU U (AppS s ob) dst (WrNewB ob e) := by
  rintro d' _ _ v w w' ⟨g', h1, h2, h3⟩ hr
  have hr' := appS_any hr
  exact ⟨g', h1, h2, (hr'.block g' (Array.getElem?_eq_some_iff.1 h3).1 h2).trans h3⟩

/-- The row with one write more. -/
def WrRowB (Wb : World) (base : Nat) (v0 : Value) (es : List EnG) : Fact := fun v w => RowSh w base v es ∧ NewOr Wb v0 v

theorem lasts_wrRowB (U : Tmp → Option Tmp) (s : Tmp) (ob : Option Nat) (Wb : World) (base : Nat) (v0 : Value) (es : List EnG) : lastsU U (AppS s ob) (some s) (WrRowB Wb base v0 es) := by
  rintro d' hd _ v w w' ⟨h1, h2⟩ hr
  exact ⟨h1.keep fun g hg => (appS_below hd hr).block g (World.ownsRow.lt h1 g hg).2, h2⟩

theorem appS_of_below {s : Tmp} {ob : Option Nat} {d : Option Tmp} {w w' : World} (hd : d ≠ some s) (h : Below w.heap.size w w') : AppS s ob d w w' := by
  unfold AppS
  rw [if_neg hd]
  exact h

/-- The set has x besides; it holds no block that was there and not its own, and none other has turned. -/
def Added (w0 w : World) (b n base : Nat) (V : Dp → Option Value) (ks : List Wr) (w' : World) : Prop := ∃ V' E', SetIs w0 w' b (n + 1) base V' E' ks ∧ (∀ y, SetS b V' y → SetS b V y ∨ w.heap.size ≤ y) ∧ But (SetS b V) w w'

set_option maxRecDepth 100000 in
set_option maxHeartbeats 8000000 in
theorem setAdd_any (b n base : Nat) (V : Dp → Option Value) (E : Dp → List EnG) (ks : List Wr) (x : Wr) (ad : Option Addr) (cp : Nat) (w0 w : World) (hn : n ≤ 1000000000) (hln : ∀ d, (E d).length ≤ 1048576) (hx : WrR x) (hxl : x.xs.length ≤ 1048576) (hd : IsDeps w0 ad x.xs) (hb : Below w0.heap.size w0 w) (hbs : base ≤ w.heap.size) (h : SetIs w0 w b n base V E ks) :
    Calls Try.prog 56 #[.map (some b), wrOf x ad cp] w fun e w' => e = .returned (.tuple #[]) ∧ Added w0 w b n base V (ks ++ [x]) w' := by
  have hok : keyD.ok (dpOf x) := ⟨hx.1, hx.2.1, hx.2.2.1, hx.2.2.2.1⟩
  obtain ⟨i, fb, hf⟩ := found_ex (h.rise (dpOf x)) x
  have hfb : fb = hasW ks x := (found_has (h.rise (dpOf x)) hf).trans (h.has x)
  have hln' := hln (dpOf x)
  have hil : i ≤ (E (dpOf x)).length := by have := hf.1; rwa [xsOf_len] at this
  have HF := Lib.hid hf
  have HH := Lib.hid h
  have HB := Lib.hid hb
  have HD := Lib.hid hd
  have HFB := Lib.hid hfb
  have HOK := Lib.hid hok
  obtain ⟨a, cap, hva, -, -⟩ := (h.theRow (dpOf x)).isWs (h.deps (dpOf x)) hb
  have HVA := Lib.hid hva
  have HWS : Hid (∀ W, Below w.heap.size w W → IsWs W a (xsOf (E (dpOf x))) ∧ Few (xsOf (E (dpOf x)))) := fun W hW => by
    obtain ⟨a', cap', h1, h2, h3⟩ := ((HH.out.below hW).theRow (dpOf x)).isWs (HH.out.deps (dpOf x)) (below_step HB.out HB.out.size hW)
    rw [HVA.out] at h1
    injection h1 with h1 _ _
    subst h1
    exact ⟨h2, h3⟩
  have HBS : Hid (∀ W, Below w.heap.size w W → Calls Try.prog 60 #[.slice a (E (dpOf x)).length cap, wrOf x ad cp, .func (.func 61) #[] #[]] W fun e w' => e = .returned (.tuple #[.int .i64 (i : Int), .bool fb]) ∧ Below W.heap.size W w') := fun W hW =>
    bsearch_is a _ cap (xsOf (E (dpOf x))) x ad cp W HF.out (xsOf_len _) (by omega) (HWS.out W hW).2 hxl (HWS.out W hW).1 (HD.out.below (below_step HB.out HB.out.size hW)) (HH.out.rise (dpOf x))
  have HLK : Hid (∀ W, Below w.heap.size w W → MapIs keyD W b n V) := fun W hW => (HH.out.below hW).map
  have HGV : Hid ((V (dpOf x)).getD (.slice none 0 0) = .slice a (E (dpOf x)).length cap) := hva
  have HRW : Hid (∀ W, Below w.heap.size w W → RowSh W base (.slice a (E (dpOf x)).length cap) (E (dpOf x))) := fun W hW => by
    have h1 := (HH.out.below hW).theRow (dpOf x)
    rwa [HVA.out] at h1
  have HOB : Hid (∀ g, (Value.slice a (E (dpOf x)).length cap).ownBlock = some g → g < w.heap.size) := fun g hg => (World.ownsRow.lt (HRW.out w (Below.refl _ _)) g hg).2
  have HSM : Hid (∀ w4 w5 v', fb = false → RowSh w4 base v' (putAtW (E (dpOf x)) i ⟨x, ad, 0, cp⟩) → w.grownBy w4 (Value.slice a (E (dpOf x)).length cap).ownBlock → NewOr w (.slice a (E (dpOf x)).length cap) v' → (∀ g : Dp → Option Value, g (dpOf x) = some v' → (∀ j, j ≠ dpOf x → g j = V j) → MapIs keyD w5 b (n + 1) g) → w4.grownBy w5 (some b) → Added w0 w b n base V (ks ++ [x]) w5) := fun w4 w5 v' hfb h1 h2 h3 h4 h5 => by
    rw [← HVA.out] at h2 h3
    exact ⟨_, _, HH.out.more hxl HD.out (by rw [← hfb]; exact HF.out) h1 h2 h3 h4 h5⟩
  have HSS : Hid (∀ W, fb = true → Below w.heap.size w W → Added w0 w b n base V (ks ++ [x]) W) := fun W h1 h2 => ⟨V, E, (HH.out.below h2).same (by rw [← HFB.out, h1]), fun y hy => .inl hy, Below.but h2 _⟩
  have HMB : Hid (b < w.heap.size ∧ some b ≠ (Value.slice a (E (dpOf x)).length cap).ownBlock) := ⟨HH.out.map.lt, fun e => by
    rw [← HVA.out] at e
    unfold rowV at e
    cases hv : V (dpOf x) with
    | none => rw [hv] at e; simp [Value.ownBlock] at e
    | some v => rw [hv] at e; exact HH.out.off _ v hv e.symm⟩
  clear h hb hd hva hfb hf hln
  obtain ⟨xk, xc, xs', xq, xv, xd, xx⟩ := x
  generalize hEE : E (dpOf ⟨xk, xc, xs', xq, xv, xd, xx⟩) = es at *
  obtain ⟨L, hL⟩ : ∃ L, es.length = L := ⟨_, rfl⟩
  have HLN := Lib.hid hL
  rw [hL] at HBS HGV HRW HOB HSM HMB hln' hil
  clear hL hEE HF HH HD HFB HVA HWS
  unfold wrOf at HBS ⊢
  simp only at HBS ⊢
  have HA : Hid (Below w.heap.size w (w.alloc (.cells #[.int .i64 xk, .int .i64 xc, .int .i64 xs', .int .i64 xq, .int .i64 xv, .bool xd, .slice ad xx.length cp] 37))) := (Below.refl _ _).alloc (Nat.le_refl _) _
  have HBX : Hid ((w.alloc (.cells #[.int .i64 xk, .int .i64 xc, .int .i64 xs', .int .i64 xq, .int .i64 xv, .bool xd, .slice ad xx.length cp] 37)).heap[w.heap.size]? = some (.cells #[.int .i64 xk, .int .i64 xc, .int .i64 xs', .int .i64 xq, .int .i64 xv, .bool xd, .slice ad xx.length cp] 37 (0, 0))) := heap_alloc_new _ _
  have HSZ : Hid (w.heap.size < (w.alloc (.cells #[.int .i64 xk, .int .i64 xc, .int .i64 xs', .int .i64 xq, .int .i64 xv, .bool xd, .slice ad xx.length cp] 37)).heap.size) := by show _ < _; simp
  go_enter Try.func56, Try.ntmps56
  go_wp2_with fail
  refine (depOn_any ⟨xk, xc, xs', xq, xv, xd, xx⟩ ad cp _).mono ?_
  rintro e w2 ⟨rfl, hb2⟩
  simp only
  have HB2 : Hid (Below w.heap.size w w2) := below_step HA.out HA.out.size hb2
  have HX2 : Hid (w2.heap[w.heap.size]? = some (.cells #[.int .i64 xk, .int .i64 xc, .int .i64 xs', .int .i64 xq, .int .i64 xv, .bool xd, .slice ad xx.length cp] 37 (0, 0))) := (hb2.block _ HSZ.out).trans HBX.out
  have hz2 : w.heap.size < w2.heap.size := Nat.lt_of_lt_of_le HSZ.out hb2.size
  have c0 := cell_of_row w2 w.heap.size 0 _ _ _ HX2.out
  have c1 := cell_of_row w2 w.heap.size 1 _ _ _ HX2.out
  have c2 := cell_of_row w2 w.heap.size 2 _ _ _ HX2.out
  have c3 := cell_of_row w2 w.heap.size 3 _ _ _ HX2.out
  have c4 := cell_of_row w2 w.heap.size 4 _ _ _ HX2.out
  have c5 := cell_of_row w2 w.heap.size 5 _ _ _ HX2.out
  have c6 := cell_of_row w2 w.heap.size 6 _ _ _ HX2.out
  simp at c0 c1 c2 c3 c4 c5 c6
  clear hb2 HA HBX HSZ
  have HML := Lib.hid (HLK.out w2 HB2.out)
  go_wp2_with (at_lookup; refine wpList_lookG1 (K := keyD) (by rfl) _ _ 95 30 (by rfl) Try.underlying95 (setZero _) HML.out (dpOf ⟨xk, xc, xs', xq, xv, xd, xx⟩) HOK.out (by rfl) (by rfl) ?_; simp only [HGV.out])
  refine (HBS.out _ HB2.out).mono ?_
  rintro e w3 ⟨rfl, hb3⟩
  have HB3 : Hid (Below w.heap.size w w3) := below_step HB2.out HB2.out.size hb3
  have HX3 : Hid (w3.heap[w.heap.size]? = some (.cells #[.int .i64 xk, .int .i64 xc, .int .i64 xs', .int .i64 xq, .int .i64 xv, .bool xd, .slice ad xx.length cp] 37 (0, 0))) := (hb3.block _ hz2).trans HX2.out
  have hz3 : w.heap.size < w3.heap.size := Nat.lt_of_lt_of_le hz2 hb3.size
  clear hb3 HB2 HX2 hz2 c0 c1 c2 c3 c4 c5 c6 HML
  cases fb with
  | true =>
    have HR := Lib.hid (HSS.out w3 rfl HB3.out)
    go_wp2
    exact bodyPost_end (v := .tuple #[]) (by simp [results, Try.results56]) rfl ⟨rfl, HR.out⟩
  | false =>
    go_wp2_with fail
    obtain ⟨ob, hob⟩ : ∃ ob, (Value.slice a L cap).ownBlock = ob := ⟨_, rfl⟩
    rw [hob] at HSM HMB
    have HOB2 : Hid (∀ g, ob = some g → g < w.heap.size) := fun g hg => HOB.out g (by rw [hob]; exact hg)
    have HOBE := Lib.hid hob
    have HCL : Hid (∀ w', w3.grownBy w' ob → w'.cell? ⟨w.heap.size, 0, none⟩ = some (.int .i64 xk) ∧ w'.cell? ⟨w.heap.size, 1, none⟩ = some (.int .i64 xc) ∧ w'.cell? ⟨w.heap.size, 2, none⟩ = some (.int .i64 xs') ∧ w'.cell? ⟨w.heap.size, 3, none⟩ = some (.int .i64 xq) ∧ w'.cell? ⟨w.heap.size, 4, none⟩ = some (.int .i64 xv) ∧ w'.cell? ⟨w.heap.size, 5, none⟩ = some (.bool xd) ∧ w'.cell? ⟨w.heap.size, 6, none⟩ = some (.slice ad xx.length cp)) := fun w' hG => by
      have q := (hG.block w.heap.size hz3 fun e => by have := HOB2.out _ e.symm; omega).trans HX3.out
      refine ⟨?_, ?_, ?_, ?_, ?_, ?_, ?_⟩ <;> (rw [cell_of_row _ _ _ _ _ (0, 0) q]; rfl)
    have HR3 := Lib.hid (HRW.out w3 HB3.out)
    have HM3 := Lib.hid (HLK.out w3 HB3.out)
    clear hob HRW HOB HSS HBS HLK HGV
    refine wp_region_slots_u 8 [[(0, false)], [(3, false)], [(20, true)], [(4, false)], [(5, false)], [(3, false)], [(24, true)], [(22, true), (23, true), (25, true)]] (fun w' => w3.grownBy w' ob) (fun w' => w3.grownBy w' ob) (fun _ w' => w3.grownBy w' ob) (fun d w' => d = some 26 → RowSh w' base (.slice a L cap) es) (fun _ => none) (AppS 26 ob) (by kernel_rfl) (by kernel_rfl) (by rfl) ⟨rfl, rfl, rfl, Nat.le_refl _, fun _ _ _ => rfl⟩ (by kernel_rfl) (fun _ _ => HR3.out) (fun _ h => by cases h) (fun d d' hd w w' h1 h2 h3 => (h1 h3).keep fun g hg => (appS_below (h3 ▸ hd) h2).block g (World.ownsRow.lt (h1 h3) g hg).2) (fun _ _ _ _ _ _ h => by cases h) (fun d _ w w' h1 h2 => grown_trans h1 (appS_any h2)) (fun _ _ _ h => h) (fun _ _ _ h => h) ?_
    have HRF : Hid (∀ (d : Option Tmp) (w : World), d ≠ some 26 → AppS 26 ob d w w) := fun d w hd => appS_refl hd w
    iterate 2 (apply slotU_eq; · (intro ρ w' ⟨p1, p2, p3⟩ hG hEE hn; obtain ⟨c0, c1, c2, c3, c4, c5, c6⟩ := HCL.out w' hG; simp at hn; go_simp; exact ⟨HRF.out _ _ (by simp), rfl⟩))
    apply slotU_eq
    · intro ρ w' ⟨p1, p2, p3⟩ hG hEE hn
      simp at hn
      go_simp
      exact got_call (depOn_any ⟨xk, xc, xs', xq, xv, xd, xx⟩ ad cp w') fun e w'' ⟨he, hb⟩ => ⟨_, he, appS_of_below (by simp) hb, rfl⟩
    iterate 3 (apply slotU_eq; · (intro ρ w' ⟨p1, p2, p3⟩ hG hEE hn; obtain ⟨c0, c1, c2, c3, c4, c5, c6⟩ := HCL.out w' hG; simp at hn; go_simp; exact ⟨HRF.out _ _ (by simp), rfl⟩))
    refine slotU_fact (WrNewB ob ⟨⟨xk, xc, xs', xq, xv, xd, xx⟩, ad, 0, cp⟩) (lasts_wrNewB _ _ _ _ _) ?_ ?_
    · intro ρ w' ⟨p1, p2, p3⟩ hG hEE hn
      simp at hn
      go_simp
      exact ⟨appS_alloc (by simp) _ _, _, rfl, fun e => by have h1 := HOB2.out _ e.symm; have h2 := hG.size; omega, heap_alloc_new _ _⟩
    refine slotU_fact (WrRowB w base (.slice a L cap) (putAtW es i ⟨⟨xk, xc, xs', xq, xv, xd, xx⟩, ad, 0, cp⟩)) (lasts_wrRowB _ _ _ _ _ _ _) ?_ ?_
    · intro ρ w' ⟨p1, p2, p3⟩ hG hEE hn
      simp at hn
      obtain ⟨f22, f23, g', f25, hg3, hg4⟩ := hn
      have hrow := hEE rfl
      have hbw : base ≤ w'.heap.size := by have := hG.size; omega
      go_simp
      exact got_call (insW_any (.slice a L cap) es i g' ⟨⟨xk, xc, xs', xq, xv, xd, xx⟩, ad, 0, cp⟩ base w' (by rw [HLN.out]; exact hil) (by rw [HLN.out]; exact hln') hrow hg4 (by rw [HOBE.out]; exact hg3) hbw) fun e w'' ⟨v', he, h1, h2, h3⟩ => ⟨v', he, appS_grown (by rw [HOBE.out] at h2; exact h2), h1, fun g hg => by
        rcases h3 g hg with h | h
        · exact .inl h
        · exact .inr (by have := hG.size; omega)⟩
    refine slotU_end ?_
    rintro tv w4 hG hF
    simp at hF
    obtain ⟨⟨hrow, hnew⟩, -, f24, f23, f22, f21, f20, f19⟩ := hF
    obtain ⟨v', hv'⟩ : ∃ v', tv 26 = v' := ⟨_, rfl⟩
    rw [hv'] at hrow hnew
    have HM4 : Hid (MapIs keyD w4 b n V) := HM3.out.of_block (hG.block b HM3.out.lt HMB.out.2)
    have HFIN : Hid (∀ w5, (∀ g : Dp → Option Value, g (dpOf ⟨xk, xc, xs', xq, xv, xd, xx⟩) = some v' → (∀ j, j ≠ dpOf ⟨xk, xc, xs', xq, xv, xd, xx⟩ → g j = V j) → MapIs keyD w5 b (n + 1) g) → w4.grownBy w5 (some b) → Added w0 w b n base V (ks ++ [⟨xk, xc, xs', xq, xv, xd, xx⟩]) w5) := fun w5 h1 h2 => HSM.out w4 w5 v' trivial hrow (grown_trans (grown_of_below HB3.out ob) hG) hnew h1 h2
    clear hrow hnew hG HR3 HCL HRF HSM HM3 HMB HX3 HB3
    simp only [List.take_succ_cons, List.take_zero, List.drop_succ_cons, List.drop_zero, putAll, hv', f24, f23, f22, f21, f20, f19]
    clear hv' f24 f23 f22 f21 f20 f19
    simp only [Act.put, List.setIfInBounds_toArray, List.set_cons_succ, List.set_cons_zero]
    refine wpList_putG (K := keyD) (by rfl) _ _ _ 95 30 (by rfl) Try.underlying95 HM4.out (by unfold maxLen; omega) (dpOf ⟨xk, xc, xs', xq, xv, xd, xx⟩) HOK.out v' (by rfl) (by rfl) (by rfl) ?_
    intro w5 hr5 ht5
    have HR5 := Lib.hid (HFIN.out w5 hr5 ht5.grown)
    clear hr5 ht5 HFIN HM4
    go_wp2
    exact bodyPost_end (v := .tuple #[]) (by simp [results, Try.results56]) rfl ⟨rfl, HR5.out⟩

end Go.Proofs.Ytomndnopbpbblaa

/- Batches of one's own, marked: the contracts of markBatchS and heldBatchS. -/
namespace Go.Proofs.Ytomndnopbpbblaa
open Go.ChangeShapes Go.WideShapes Go.ChangeAt Go.RowKit Go.Joins
attribute [local go_sem ↓] Go.wp_at_zero Go.wp_at_succ

/-- A batch: its writes, where they are said to lie, their room, between which block numbers, and where their dependencies lie. -/
structure Bat where
  ws : List Wr
  a : Option Addr
  cap : Nat
  lo : Nat
  hi : Nat
  γ : Nat → Nat

def btz : Bat := ⟨[], none, 0, 0, 0, fun _ => 0⟩

def batV (e : Bat) : Value := .slice e.a e.ws.length e.cap

def BatsAt (w : World) (b : Nat) (es : List Bat) : Prop := ∀ i, i < es.length → w.cell? ⟨b, i, none⟩ = some (batV (es.getD i btz))

/-- Batches of one's own: a row, and each batch's memory apart from the row and from the others'. -/
def OwnB (w : World) (lo hi : Nat) (a : Option Addr) (es : List Bat) : Prop :=
  es = [] ∨ ∃ b, a = some ⟨b, 0, none⟩ ∧ lo ≤ b ∧ b < hi ∧ b < w.heap.size ∧ BatsAt w b es ∧ (∀ i, i < es.length → lo ≤ (es.getD i btz).lo ∧ (es.getD i btz).hi ≤ hi ∧ (b < (es.getD i btz).lo ∨ (es.getD i btz).hi ≤ b) ∧ OwnA w (es.getD i btz).lo (es.getD i btz).hi (es.getD i btz).a (es.getD i btz).ws (es.getD i btz).γ) ∧ ∀ i j, i < j → j < es.length → (es.getD i btz).hi ≤ (es.getD j btz).lo

set_option maxRecDepth 100000 in
theorem BatsAt.of_block {w w' : World} {b : Nat} {es : List Bat} (h : BatsAt w b es) (hb : w'.heap[b]? = w.heap[b]?) : BatsAt w' b es := fun i hi => (World.cell?_of_block (a := ⟨b, i, none⟩) hb).trans (h i hi)

set_option maxRecDepth 100000 in
theorem OwnB.below {w w' : World} {lo hi : Nat} {a : Option Addr} {es : List Bat} (h : OwnB w lo hi a es) (hb : Below w.heap.size w w') : OwnB w' lo hi a es := by
  rcases h with h | ⟨b, h1, h2, h3, h4, h5, h6, h7⟩
  · exact .inl h
  · exact .inr ⟨b, h1, h2, h3, Nat.lt_of_lt_of_le h4 hb.size, h5.of_block (hb.block b h4), fun i hi => ⟨(h6 i hi).1, (h6 i hi).2.1, (h6 i hi).2.2.1, (h6 i hi).2.2.2.below hb⟩, h7⟩

set_option maxRecDepth 100000 in
theorem OwnB.only {w w' : World} {S : Nat → Prop} {lo hi : Nat} {a : Option Addr} {es : List Bat} (h : OwnB w lo hi a es) (ho : Only S w w') (hS : ∀ x, S x → x < lo) : OwnB w' lo hi a es := by
  rcases h with h | ⟨b, h1, h2, h3, h4, h5, h6, h7⟩
  · exact .inl h
  · exact .inr ⟨b, h1, h2, h3, by rw [ho.size]; exact h4, h5.of_block (ho.block b fun e => by have := hS b e; omega), fun i hi => ⟨(h6 i hi).1, (h6 i hi).2.1, (h6 i hi).2.2.1, (h6 i hi).2.2.2.only ho fun x hx => by have := hS x hx; have := (h6 i hi).1; omega⟩, h7⟩

def batsOf (es : List Bat) : List (List Wr) := es.map (·.ws)

set_option maxRecDepth 100000 in
theorem batsOf_get (es : List Bat) {i : Nat} (h : i < es.length) : (batsOf es).getD i [] = (es.getD i btz).ws := by
  simp [batsOf, List.getD, h]

set_option maxRecDepth 100000 in
theorem OwnB.isBs {w : World} {lo hi : Nat} {a : Option Addr} {es : List Bat} (h : OwnB w lo hi a es) (hx : FewB (batsOf es)) : IsBs w a (batsOf es) := by
  rcases h with h | ⟨b, h1, h2, h3, h4, h5, h6, h7⟩
  · exact .inl (by rw [h]; rfl)
  · refine .inr ⟨b, 0, h1, h4, fun i hi => ?_⟩
    have hi' : i < es.length := by simpa [batsOf] using hi
    have hf := (hx i hi).2
    rw [batsOf_get es hi'] at hf ⊢
    exact ⟨_, _, by rw [Nat.zero_add]; exact h5 i hi', (h6 i hi').2.2.2.isWs hf⟩

/-- How far the marks have come behind these batches. -/
def markKB (es : List Bat) (k : Int) : Int := es.foldl (fun k e => markK e.ws k e.ws.length) k

set_option maxRecDepth 100000 in
theorem markKB_take (es : List Bat) (k : Int) {i : Nat} (h : i < es.length) : markKB (es.take (i + 1)) k = markK (es.getD i btz).ws (markKB (es.take i) k) (es.getD i btz).ws.length := by
  unfold markKB
  have e : es.take (i + 1) = es.take i ++ [es.getD i btz] := by
    rw [List.take_add_one, List.getElem?_eq_getElem h]
    simp [List.getD, h]
  rw [e, List.foldl_append]
  rfl

/-- All that is marked stays within bounds. -/
def TameB (es : List Bat) (k : Int) : Prop := (∀ i, i < es.length → (es.getD i btz).ws.length ≤ 1048576 ∧ bulk (es.getD i btz).ws ≤ 1048576) ∧ ∀ i, i ≤ es.length → 0 ≤ markKB (es.take i) k ∧ markKB (es.take i) k ≤ 1073741824

/-- A batch that is marked, its memory between two block numbers. -/
def MarkedS (w : World) (e : Bat) (k : Int) : Prop := MarkedA w e.a e.ws e.γ k ∧ (e.ws = [] ∨ ∃ b, e.a = some ⟨b, 0, none⟩ ∧ e.lo ≤ b ∧ b < e.hi ∧ ∀ i, i < e.ws.length → 0 < (e.ws.getD i wz).xs.length → e.lo ≤ e.γ i ∧ e.γ i < e.hi)

set_option maxRecDepth 100000 in
theorem MarkedWs.of_blocks {w w' : World} {b : Nat} {ws : List Wr} {γ : Nat → Nat} {k : Int} (h : MarkedWs w b ws γ k) (hb : w'.heap[b]? = w.heap[b]?) (h2 : ∀ i, i < ws.length → 0 < (ws.getD i wz).xs.length → w'.heap[γ i]? = w.heap[γ i]?) : MarkedWs w' b ws γ k := by
  intro i hi
  obtain ⟨⟨e0, e1, e2, e3, e4, e5, a, cp, e6, e7⟩, hd⟩ := h i hi
  have c : ∀ o, w'.cell? ⟨b, o, none⟩ = w.cell? ⟨b, o, none⟩ := fun o => World.cell?_of_block (a := ⟨b, o, none⟩) hb
  exact ⟨⟨(c _).trans e0, (c _).trans e1, (c _).trans e2, (c _).trans e3, (c _).trans e4, (c _).trans e5, a, cp, (c _).trans e6, e7⟩, fun hp => (hd hp).of_block (h2 i hi hp)⟩

set_option maxRecDepth 100000 in
theorem MarkedS.only {w w' : World} {S : Nat → Prop} {e : Bat} {k : Int} (h : MarkedS w e k) (ho : Only S w w') (hS : ∀ x, S x → x < e.lo ∨ e.hi ≤ x) : MarkedS w' e k := by
  refine ⟨?_, h.2⟩
  rcases h.1 with h1 | ⟨b, h1, h2, h3, h4⟩
  · exact .inl h1
  · rcases h.2 with g | ⟨b', g1, g2, g3, g4⟩
    · exact .inl g
    · obtain rfl : b = b' := by rw [h1] at g1; simpa using g1
      exact .inr ⟨b, h1, h2.of_blocks (ho.block b fun hx => by have := hS b hx; omega) fun i hi hp => ho.block _ fun hx => by have := hS _ hx; have := g4 i hi hp; omega, by rw [ho.size]; exact h3, fun i hi hp => by rw [ho.size]; exact h4 i hi hp⟩

/-- Batches that are marked. -/
def MarkedB (w : World) (a : Option Addr) (es : List Bat) (k : Int) : Prop := es = [] ∨ ∃ b, a = some ⟨b, 0, none⟩ ∧ b < w.heap.size ∧ BatsAt w b es ∧ ∀ i, i < es.length → MarkedA w (es.getD i btz).a (es.getD i btz).ws (es.getD i btz).γ (markKB (es.take i) k)

set_option maxRecDepth 100000 in
theorem MarkedB.below {w w' : World} {a : Option Addr} {es : List Bat} {k : Int} (h : MarkedB w a es k) (hb : Below w.heap.size w w') : MarkedB w' a es k := by
  rcases h with h | ⟨b, h1, h2, h3, h4⟩
  · exact .inl h
  · exact .inr ⟨b, h1, Nat.lt_of_lt_of_le h2 hb.size, h3.of_block (hb.block b h2), fun i hi => (h4 i hi).below hb⟩

set_option maxRecDepth 100000 in
theorem OwnA.marked {w w' : World} {e : Bat} {k : Int} (h : OwnA w e.lo e.hi e.a e.ws e.γ) (hm : MarkedA w' e.a e.ws e.γ k) : MarkedS w' e k := by
  refine ⟨hm, ?_⟩
  rcases h with h | ⟨b, h1, h2, h3, h4⟩
  · exact .inl h
  · exact .inr ⟨b, h1, h2.le, h3, fun i hi hp => ⟨(h2.deps i hi hp).1, h4 i hi hp⟩⟩

end Go.Proofs.Ytomndnopbpbblaa

/- The marks of batches stay within bounds: plain facts. -/
namespace Go.Proofs.Ytomndnopbpbblaa
open Go.ChangeShapes Go.WideShapes Go.ChangeAt Go.RowKit Go.Joins

set_option maxRecDepth 100000 in
theorem markK_bd (ws : List Wr) (k : Int) : k ≤ markK ws k ws.length ∧ markK ws k ws.length ≤ k + 6 * ((ws.length + bulk ws : Nat) : Int) := by
  unfold markK
  rw [List.take_length]
  constructor <;> (push_cast; omega)

set_option maxRecDepth 100000 in
theorem markKB_bd : ∀ (es : List Bat) (k : Int), k ≤ markKB es k ∧ markKB es k ≤ k + 6 * (heftB (batsOf es) : Int)
  | [], k => by simp [markKB, batsOf, heftB]
  | e :: r, k => by
    have h1 := markK_bd e.ws k
    have h2 := markKB_bd r (markK e.ws k e.ws.length)
    have e1 : markKB (e :: r) k = markKB r (markK e.ws k e.ws.length) := rfl
    have e2 : heftB (batsOf (e :: r)) = e.ws.length + bulk e.ws + heftB (batsOf r) := rfl
    rw [e1, e2]
    generalize markK e.ws k e.ws.length = m at *
    push_cast at *
    omega

set_option maxRecDepth 100000 in
theorem heft_part : ∀ (bs : List (List Wr)) (i : Nat), heftB (bs.take i) ≤ heftB bs
  | [], i => by simp
  | b :: r, 0 => by simp [heftB]
  | b :: r, i + 1 => by
    have := heft_part r i
    simp only [List.take_succ_cons, heftB]
    omega

set_option maxRecDepth 100000 in
theorem tame_heft {es : List Bat} (h : heftB (batsOf es) ≤ 100000000) (h2 : ∀ i, i < es.length → (es.getD i btz).ws.length ≤ 1048576 ∧ bulk (es.getD i btz).ws ≤ 1048576) : TameB es 1 := by
  refine ⟨h2, fun i _ => ?_⟩
  have h3 := markKB_bd (es.take i) 1
  have h4 : batsOf (es.take i) = (batsOf es).take i := by simp [batsOf]
  rw [h4] at h3
  have h5 := heft_part (batsOf es) i
  omega

set_option maxRecDepth 100000 in
theorem tame_small {es : List Bat} (h : heftB (batsOf es) ≤ 1048576) : TameB es 1 := tame_heft (by omega) fun i hi => by
  have h1 := heft_one (batsOf es) i (by simpa [batsOf] using hi)
  rw [batsOf_get es hi] at h1
  omega

end Go.Proofs.Ytomndnopbpbblaa

/- What was written, told by lists; rows that grow beside a set: plain facts. -/
namespace Go.Proofs.Ytomndnopbpbblaa
open Go.ChangeShapes Go.WideShapes Go.ChangeAt Go.RowKit Go.Joins

/-- One more, where it is not there. -/
def addW (out : List Wr) (x : Wr) : List Wr := if hasW out x = true then out else out ++ [x]

theorem addW_has {out : List Wr} {x : Wr} (h : hasW out x = true) : addW out x = out := if_pos h

theorem addW_not {out : List Wr} {x : Wr} (h : hasW out x = false) : addW out x = out ++ [x] := if_neg (by rw [h]; simp)

/-- The writes of one event, told behind others. -/
def addE (out : List Wr) (e : Ev) : List Wr := if e.sh = true then out else e.ws.foldl addW out

def writtenL (es : List Ev) : List Wr := es.foldl addE []

theorem foldl_next {α β : Type} (f : β → α → β) (l : List α) (z : β) (d : α) {k : Nat} (h : k < l.length) : (l.take (k + 1)).foldl f z = f ((l.take k).foldl f z) (l.getD k d) := by
  have e : l.take (k + 1) = l.take k ++ [l.getD k d] := by
    rw [List.take_add_one, List.getElem?_eq_getElem h]
    simp [List.getD, h]
  rw [e, List.foldl_append]
  rfl

/-- How much a list of writes is. -/
def wgt (ws : List Wr) : Nat := ws.length + bulk ws

theorem bulk_app : ∀ (a b : List Wr), bulk (a ++ b) = bulk a + bulk b
  | [], b => by simp [bulk]
  | x :: a, b => by
    have := bulk_app a b
    simp only [List.cons_append, bulk]
    omega

theorem addW_wgt (out : List Wr) (x : Wr) : wgt (addW out x) ≤ wgt out + (1 + x.xs.length) := by
  unfold addW
  split
  · omega
  · unfold wgt
    rw [bulk_app, List.length_append]
    simp [bulk]
    omega

theorem addAll_wgt : ∀ (ws : List Wr) (out : List Wr), wgt (ws.foldl addW out) ≤ wgt out + wgt ws
  | [], out => by simp [wgt, bulk]
  | x :: r, out => by
    have h1 := addAll_wgt r (addW out x)
    have h2 := addW_wgt out x
    have e1 : (x :: r).foldl addW out = r.foldl addW (addW out x) := rfl
    have e2 : wgt (x :: r) = (1 + x.xs.length) + wgt r := by simp [wgt, bulk]; omega
    rw [e1]
    omega

theorem addE_wgt (out : List Wr) (e : Ev) : wgt (addE out e) ≤ wgt out + wgt e.ws := by
  unfold addE
  split
  · omega
  · exact addAll_wgt e.ws out

theorem addEs_wgt : ∀ (es : List Ev) (out : List Wr), wgt (es.foldl addE out) ≤ wgt out + heftB (evW es)
  | [], out => by simp [evW, heftB]
  | e :: r, out => by
    have h1 := addEs_wgt r (addE out e)
    have h2 := addE_wgt out e
    have e1 : (e :: r).foldl addE out = r.foldl addE (addE out e) := rfl
    have e2 : heftB (evW (e :: r)) = wgt e.ws + heftB (evW r) := rfl
    rw [e1]
    omega

theorem written_wgt (es : List Ev) : wgt (writtenL es) ≤ heftB (evW es) := by
  have := addEs_wgt es []
  have e : wgt [] = 0 := rfl
  unfold writtenL
  omega

/-- Ahead of each place no more. -/
theorem writing_wgt (es : List Ev) {k j : Nat} (hk : k < es.length) : wgt (((es.getD k evz).ws.take j).foldl addW ((es.take k).foldl addE [])) ≤ heftB (evW es) := by
  have h1 := addAll_wgt ((es.getD k evz).ws.take j) ((es.take k).foldl addE [])
  have h2 := addEs_wgt (es.take k) []
  have e0 : wgt [] = 0 := rfl
  have h3 : wgt ((es.getD k evz).ws.take j) ≤ wgt (es.getD k evz).ws := by
    unfold wgt
    have := bulk_take_le (es.getD k evz).ws j
    have : ((es.getD k evz).ws.take j).length ≤ (es.getD k evz).ws.length := by simp; omega
    omega
  have h4 : heftB (evW (es.take k)) + wgt (es.getD k evz).ws ≤ heftB (evW es) := by
    have h5 := heft_take (evW es) k (by rw [evW_len]; exact hk)
    have h6 := heft_part (evW es) (k + 1)
    have e1 : evW (es.take k) = (evW es).take k := by simp [evW]
    rw [evW_get es hk] at h5
    rw [e1]
    unfold wgt
    omega
  omega

theorem few_wgt {ws : List Wr} (h : wgt ws ≤ 1048576) : Few ws := few_of_bulk (by unfold wgt at h; omega)

/-- A row of writes of one's own, where only other blocks turn. -/
theorem RowG.but {S : Nat → Prop} {w w' : World} {base : Nat} {v : Value} {es : List EnG} (h : RowG w base v es) (hb : But S w w') (h1 : ∀ g, v.ownBlock = some g → ¬ S g) (h2 : ∀ e ∈ es, 0 < e.x.xs.length → ¬ S e.g) : RowG w' base v es where
  own := ownsRow_but h.own hb h1
  deps := fun e he => ⟨(h.deps e he).1.of_block hb.size fun hp => hb.block e.g ((h.deps e he).1 hp).2.2.1 (h2 e he hp), (h.deps e he).2⟩
  apart := h.apart

/-- A row that grows beside a set of the same writes. -/
structure TellI (w wr : World) (b : Nat) (out : List Wr) (v : Value) (es : List EnG) (V : Dp → Option Value) (E : Dp → List EnG) : Prop where
  xs : es.map (·.x) = out
  row : RowG wr w.heap.size v es
  set : SetIs w wr b out.length w.heap.size V E out
  dis1 : ∀ g, v.ownBlock = some g → ¬ SetS b V g
  dis2 : ∀ e ∈ es, 0 < e.x.xs.length → ¬ SetS b V e.g
  below : Below w.heap.size w wr
  blt : w.heap.size ≤ b

theorem TellI.more {w wr w' : World} {b : Nat} {out : List Wr} {v : Value} {es : List EnG} {V : Dp → Option Value} {E : Dp → List EnG} (h : TellI w wr b out v es V E) (hb : Below wr.heap.size wr w') : TellI w w' b out v es V E :=
  ⟨h.xs, h.row.below hb, h.set.below hb, h.dis1, h.dis2, below_step h.below h.below.size hb, h.blt⟩

theorem SetIs.base {w0 w : World} {b n base : Nat} {V : Dp → Option Value} {E : Dp → List EnG} {ks : List Wr} (h : SetIs w0 w b n base V E ks) (hb : base ≤ b) : ∀ x, SetS b V x → base ≤ x := by
  rintro x (rfl | ⟨d, v, h1, h2⟩)
  · exact hb
  · exact (World.ownsRow.lt (h.row d v h1) x h2).1

/-- One more in the set; the row stays. -/
theorem TellI.added {w wr w' : World} {b : Nat} {out : List Wr} {v : Value} {es : List EnG} {V : Dp → Option Value} {E : Dp → List EnG} {x : Wr} (h : TellI w wr b out v es V E) (ha : Added w wr b out.length w.heap.size V (out ++ [x]) w') :
    ∃ V' E', SetIs w w' b (out.length + 1) w.heap.size V' E' (out ++ [x]) ∧ RowG w' w.heap.size v es ∧ (∀ g, v.ownBlock = some g → ¬ SetS b V' g) ∧ (∀ e ∈ es, 0 < e.x.xs.length → ¬ SetS b V' e.g) ∧ Below w.heap.size w w' := by
  obtain ⟨V', E', h1, h2, h3⟩ := ha
  refine ⟨V', E', h1, h.row.but h3 h.dis1 h.dis2, fun g hg hs => ?_, fun e he hp hs => ?_, Below.butOn h.below h3 h.below.size (h.set.base h.blt)⟩
  · rcases h2 g hs with h4 | h4
    · exact h.dis1 g hg h4
    · have := (World.ownsRow.lt h.row.own g hg).2
      omega
  · rcases h2 e.g hs with h4 | h4
    · exact h.dis2 e he hp h4
    · have := ((h.row.deps e he).1 hp).2.2.1
      omega

/-- The row grows by a copy. -/
theorem TellI.told {w w2 w3 w5 : World} {b : Nat} {out : List Wr} {v : Value} {es : List EnG} {V : Dp → Option Value} {E : Dp → List EnG} {x : Wr} {a2 : Option Addr} {g2 cp2 g5 cap5 : Nat} (hx : es.map (·.x) = out) (hs : SetIs w w2 b (out.length + 1) w.heap.size V E (out ++ [x])) (hr : RowG w2 w.heap.size v es) (h1 : ∀ g, v.ownBlock = some g → ¬ SetS b V g) (h2 : ∀ e ∈ es, 0 < e.x.xs.length → ¬ SetS b V e.g) (hbw : Below w.heap.size w w2) (hbl : w.heap.size ≤ b)
    (hb3 : Below w2.heap.size w2 w3) (hf : FreshDeps w2.heap.size w3 a2 g2 x.xs) (hown : w5.ownsRow w.heap.size 37 7 (.slice (some ⟨g5, 0, none⟩) (es.length + 1) cap5) (es.length + 1) (es.flatMap wrValsG ++ wrValsG ⟨x, a2, g2, cp2⟩)) (hgrow : w3.grownBy w5 v.ownBlock) (hg : v.ownBlock = some g5 ∨ g5 = w3.heap.size) :
    TellI w w5 b (out ++ [x]) (.slice (some ⟨g5, 0, none⟩) (es.length + 1) cap5) (es ++ [⟨x, a2, g2, cp2⟩]) V E := by
  have hr3 := hr.below hb3
  have hsz := hb3.size
  have hlt : ∀ y, SetS b V y → y < w2.heap.size := hs.lt
  refine ⟨by rw [List.map_append, hx]; rfl, ?_, ?_, ?_, ?_, ?_, hbl⟩
  · refine hr3.more (hf.mono hbw.size) (fun hp e => ?_) (fun d hd hp hq e => ?_) hown hgrow hg
    · have h3 := (World.ownsRow.lt hr.own g2 e).2
      have h4 := (hf hp).2.1
      omega
    · have h3 := ((hr.deps d hd).1 hp).2.2.1
      have h4 := (hf hq).2.1
      simp only at e
      omega
  · rw [List.length_append]
    exact (hs.below hb3).keep fun y hy => hgrow.block y (by have := hlt y hy; omega) fun e => h1 y e.symm hy
  · intro g hgg hy
    have e : g5 = g := by simpa [Value.ownBlock] using hgg
    subst e
    rcases hg with hg | hg
    · exact h1 g5 hg hy
    · have := hlt g5 hy
      omega
  · intro e he hp hy
    rcases List.mem_append.1 he with he | he
    · exact h2 e he hp hy
    · obtain rfl : e = ⟨x, a2, g2, cp2⟩ := by simpa using he
      have h3 := (hf hp).2.1
      have h4 := hlt _ hy
      simp only at h4
      omega
  · exact (below_step hbw hbw.size hb3).grown hgrow (Nat.le_trans hbw.size hsz) fun j hj => (World.ownsRow.lt hr.own j hj).1

end Go.Proofs.Ytomndnopbpbblaa

/- Causes of causes: plain facts. -/
namespace Go.Proofs.Ytomndnopbpbblaa
open Go.ChangeShapes Go.WideShapes Go.ChangeAt Go.RowKit Go.Joins

/-- Is it this write that a dependency speaks of? -/
def matchD (d : Dp) (y : Wr) : Bool := (y.k == d.k) && ((y.c == d.c) && ((y.s == d.s) && (y.q == d.q)))

theorem matchD_iff (d : Dp) (y : Wr) : matchD d y = true ↔ dpOf y = d := by
  unfold matchD dpOf
  cases d
  simp

/-- One write looked at: is it to be told? -/
def cauW (d : Dp) (out : List Wr) (y : Wr) : List Wr := if (matchD d y && !hasW out y) = true then out ++ [y] else out

/-- One dependency looked at. -/
def stepD (all out : List Wr) (d : Dp) : List Wr := all.foldl (cauW d) out

theorem stepD_no {d : Dp} : ∀ (all out : List Wr), (∀ y ∈ all, matchD d y = true → y ∈ out) → stepD all out d = out
  | [], out, _ => rfl
  | y :: r, out, h => by
    have e : stepD (y :: r) out d = stepD r (cauW d out y) d := rfl
    have e1 : cauW d out y = out := if_neg fun hc => by
      rw [Bool.and_eq_true] at hc
      have h1 := (hasW_iff out y).2 (h y (by simp) hc.1)
      rw [h1] at hc
      simp at hc
    rw [e, e1]
    exact stepD_no r out fun z hz => h z (by simp [hz])

theorem stepD_all {d : Dp} : ∀ (all out : List Wr), all.Nodup → (∀ y ∈ all, matchD d y = true → y ∉ out) → stepD all out d = out ++ all.filter (matchD d)
  | [], out, _, _ => by simp [stepD]
  | y :: r, out, hn, h => by
    have e : stepD (y :: r) out d = stepD r (cauW d out y) d := rfl
    obtain ⟨hy, hr⟩ := List.nodup_cons.1 hn
    rw [e]
    by_cases hm : matchD d y = true
    · have h1 : hasW out y = false := by
        cases hb : hasW out y with
        | false => rfl
        | true => exact absurd ((hasW_iff out y).1 hb) (h y (by simp) hm)
      have e1 : cauW d out y = out ++ [y] := if_pos (by rw [hm, h1]; rfl)
      rw [e1, stepD_all r (out ++ [y]) hr fun z hz hmz hzo => ?_, List.filter_cons_of_pos hm, List.append_assoc]
      · rfl
      · rcases List.mem_append.1 hzo with h2 | h2
        · exact h z (by simp [hz]) hmz h2
        · obtain rfl : z = y := by simpa using h2
          exact hy hz
    · have e1 : cauW d out y = out := if_neg (by simp [hm])
      rw [e1, stepD_all r out hr fun z hz => h z (by simp [hz]), List.filter_cons_of_neg hm]

/-- The dependencies that are to be asked, in order. -/
def cauQ (ds : List Dp) (out : List Wr) : List Dp := ds ++ out.flatMap (·.xs)

theorem cauQ_more (ds : List Dp) (out ext : List Wr) : cauQ ds (out ++ ext) = cauQ ds out ++ ext.flatMap (·.xs) := by
  unfold cauQ
  rw [List.flatMap_append, List.append_assoc]

/-- What is told when t dependencies have been asked. -/
def cauRun (all : List Wr) (ds : List Dp) : Nat → List Wr
  | 0 => []
  | t + 1 => if t < (cauQ ds (cauRun all ds t)).length then stepD all (cauRun all ds t) ((cauQ ds (cauRun all ds t)).getD t dz) else cauRun all ds t

theorem cauRun_next {all : List Wr} {ds : List Dp} {t : Nat} (h : t < (cauQ ds (cauRun all ds t)).length) : cauRun all ds (t + 1) = stepD all (cauRun all ds t) ((cauQ ds (cauRun all ds t)).getD t dz) := if_pos h

theorem cauRun_stop {all : List Wr} {ds : List Dp} {t : Nat} (h : (cauQ ds (cauRun all ds t)).length ≤ t) : ∀ u, cauRun all ds (t + u) = cauRun all ds t
  | 0 => rfl
  | u + 1 => by
    have ih := cauRun_stop h u
    have e : cauRun all ds (t + u + 1) = if t + u < (cauQ ds (cauRun all ds (t + u))).length then stepD all (cauRun all ds (t + u)) ((cauQ ds (cauRun all ds (t + u))).getD (t + u) dz) else cauRun all ds (t + u) := rfl
    rw [show t + (u + 1) = t + u + 1 by omega, e, ih, if_neg (by omega)]

/-- Of what has been asked all is told, and nothing else. -/
structure CauI (all : List Wr) (ds : List Dp) (t : Nat) : Prop where
  le : t ≤ (cauQ ds (cauRun all ds t)).length
  sub : ∀ y ∈ cauRun all ds t, y ∈ all
  once : (cauRun all ds t).Nodup
  told : ∀ y ∈ all, y ∈ cauRun all ds t ↔ dpOf y ∈ (cauQ ds (cauRun all ds t)).take t

theorem cauI_zero (all : List Wr) (ds : List Dp) : CauI all ds 0 := ⟨Nat.zero_le _, fun y h => by simp [cauRun] at h, by simp [cauRun], fun y _ => by simp [cauRun]⟩

theorem take_next {α : Type} (l : List α) (d : α) {k : Nat} (h : k < l.length) : l.take (k + 1) = l.take k ++ [l.getD k d] := by
  rw [List.take_add_one, List.getElem?_eq_getElem h]
  simp [List.getD, h]

/-- What the next dependency brings. -/
theorem CauI.next {all : List Wr} {ds : List Dp} {t : Nat} (h : CauI all ds t) (hn : all.Nodup) (ht : t < (cauQ ds (cauRun all ds t)).length) :
    (((cauQ ds (cauRun all ds t)).getD t dz) ∈ (cauQ ds (cauRun all ds t)).take t → cauRun all ds (t + 1) = cauRun all ds t) ∧
    (((cauQ ds (cauRun all ds t)).getD t dz) ∉ (cauQ ds (cauRun all ds t)).take t → cauRun all ds (t + 1) = cauRun all ds t ++ all.filter (matchD ((cauQ ds (cauRun all ds t)).getD t dz))) ∧ CauI all ds (t + 1) := by
  have e := cauRun_next ht
  obtain ⟨d, hd⟩ : ∃ d, (cauQ ds (cauRun all ds t)).getD t dz = d := ⟨_, rfl⟩
  rw [hd] at e ⊢
  have hQ := take_next (cauQ ds (cauRun all ds t)) dz ht
  rw [hd] at hQ
  have h1 : d ∈ (cauQ ds (cauRun all ds t)).take t → cauRun all ds (t + 1) = cauRun all ds t := fun hm => by
    rw [e]
    exact stepD_no all _ fun y hy hmy => (h.told y hy).2 (by rw [(matchD_iff d y).1 hmy]; exact hm)
  have h2 : d ∉ (cauQ ds (cauRun all ds t)).take t → cauRun all ds (t + 1) = cauRun all ds t ++ all.filter (matchD d) := fun hm => by
    rw [e]
    exact stepD_all all _ hn fun y hy hmy hyo => hm (by rw [← (matchD_iff d y).1 hmy]; exact (h.told y hy).1 hyo)
  refine ⟨h1, h2, ?_⟩
  by_cases hm : d ∈ (cauQ ds (cauRun all ds t)).take t
  · have e1 := h1 hm
    refine ⟨by rw [e1]; omega, by rw [e1]; exact h.sub, by rw [e1]; exact h.once, fun y hy => ?_⟩
    rw [e1, hQ, List.mem_append, h.told y hy]
    constructor
    · exact .inl
    · rintro (h3 | h3)
      · exact h3
      · have h4 : dpOf y = d := by simpa using h3
        rw [h4]
        exact hm
  · have e1 := h2 hm
    have hnew : ∀ y, y ∈ all.filter (matchD d) ↔ y ∈ all ∧ dpOf y = d := fun y => by rw [List.mem_filter, matchD_iff]
    have hlen : t + 1 ≤ (cauQ ds (cauRun all ds t)).length := ht
    have hQ2 : (cauQ ds (cauRun all ds (t + 1))).take (t + 1) = (cauQ ds (cauRun all ds t)).take (t + 1) := by
      rw [e1, cauQ_more, List.take_append_of_le_length hlen]
    refine ⟨?_, fun y hy => ?_, ?_, fun y hy => ?_⟩
    · rw [e1, cauQ_more, List.length_append]
      omega
    · rw [e1, List.mem_append] at hy
      rcases hy with hy | hy
      · exact h.sub y hy
      · exact ((hnew y).1 hy).1
    · rw [e1]
      refine List.nodup_append.2 ⟨h.once, hn.filter _, ?_⟩
      intro y hy z hz hyz
      subst hyz
      obtain ⟨ha, hdy⟩ := (hnew y).1 hz
      exact hm (by rw [← hdy]; exact (h.told y ha).1 hy)
    · rw [hQ2, hQ, List.mem_append, e1, List.mem_append, h.told y hy, hnew]
      simp only [List.mem_singleton]
      constructor
      · rintro (h3 | h3)
        · exact .inl h3
        · exact .inr h3.2
      · rintro (h3 | h3)
        · exact .inl h3
        · exact .inr ⟨hy, h3⟩

theorem bulk_mem {y : Wr} : ∀ {l : List Wr}, y ∈ l → ∃ a b, l = a ++ y :: b := fun h => List.append_of_mem h

theorem bulk_sub : ∀ (out all : List Wr), out.Nodup → (∀ y ∈ out, y ∈ all) → wgt out ≤ wgt all
  | [], all, _, _ => by simp [wgt, bulk]
  | y :: r, all, hn, h => by
    obtain ⟨hy, hr⟩ := List.nodup_cons.1 hn
    obtain ⟨a, b, rfl⟩ := List.append_of_mem (h y (by simp))
    have ih := bulk_sub r (a ++ b) hr fun z hz => by
      have h1 := h z (by simp [hz])
      rcases List.mem_append.1 h1 with h2 | h2
      · exact List.mem_append.2 (.inl h2)
      · rcases List.mem_cons.1 h2 with h3 | h3
        · subst h3
          exact absurd hz hy
        · exact List.mem_append.2 (.inr h3)
    have e1 : wgt (a ++ y :: b) = wgt (a ++ b) + (1 + y.xs.length) := by
      unfold wgt
      simp only [bulk_app, List.length_append, List.length_cons, bulk]
      omega
    have e2 : wgt (y :: r) = (1 + y.xs.length) + wgt r := by simp [wgt, bulk]; omega
    omega

theorem flat_bulk : ∀ l : List Wr, (l.flatMap (·.xs)).length = bulk l
  | [] => rfl
  | y :: r => by
    rw [List.flatMap_cons, List.length_append, flat_bulk r]
    rfl

theorem CauI.wgt {all : List Wr} {ds : List Dp} {t : Nat} (h : CauI all ds t) : Proofs.Ytomndnopbpbblaa.wgt (cauRun all ds t) ≤ Proofs.Ytomndnopbpbblaa.wgt all := bulk_sub _ _ h.once h.sub

theorem CauI.len {all : List Wr} {ds : List Dp} {t : Nat} (h : CauI all ds t) : (cauQ ds (cauRun all ds t)).length ≤ ds.length + Proofs.Ytomndnopbpbblaa.wgt all := by
  have h1 := h.wgt
  unfold cauQ
  rw [List.length_append, flat_bulk]
  unfold Proofs.Ytomndnopbpbblaa.wgt at *
  omega

/-- The causes. -/
def causesL (all : List Wr) (ds : List Dp) : List Wr := cauRun all ds (ds.length + wgt all)

theorem cauI_end {all : List Wr} {ds : List Dp} {t : Nat} (h : CauI all ds t) (he : (cauQ ds (cauRun all ds t)).length ≤ t) : cauRun all ds t = causesL all ds := by
  have h1 := h.len
  have h2 := h.le
  obtain ⟨u, hu⟩ : ∃ u, ds.length + wgt all = t + u := ⟨ds.length + wgt all - t, by omega⟩
  unfold causesL
  rw [hu, cauRun_stop he u]

end Go.Proofs.Ytomndnopbpbblaa

/- Masks of keys: the contracts of impl's keyMask: has and wants, for every number. -/
namespace Go.Proofs.Ytomndnopbpbblaa
open Go.ChangeShapes Go.WideShapes Go.ChangeAt Go.RowKit Go.Joins
attribute [local go_sem ↓] Go.wp_at_zero Go.wp_at_succ

/-- Is a key's bit set in a mask? None is in one below 0, and none below 0 is. -/
def bitG (mask : Int) (k : Int) : Bool := decide (0 ≤ mask) && (decide (0 ≤ k) && decide (mask / 2 ^ k.toNat % 2 = 1))

theorem bitG_neg {mask k : Int} (h : ¬ 0 ≤ mask) : bitG mask k = false := by
  unfold bitG
  rw [decide_eq_false h, Bool.false_and]

theorem bitG_key {mask k : Int} (h : ¬ 0 ≤ k) : bitG mask k = false := by
  unfold bitG
  rw [decide_eq_false h, Bool.false_and, Bool.and_false]

theorem bitG_pos {mask : Int} {k : Nat} (h : 0 ≤ mask) : bitG mask (k : Int) = decide (mask / 2 ^ k % 2 = 1) := by
  unfold bitG
  rw [decide_eq_true h, decide_eq_true (Int.natCast_nonneg k)]
  rfl

theorem shift_min {mask : Int} {k : Nat} (h0 : 0 ≤ mask) (h1 : mask ≤ 9223372036854775807) : mask / 2 ^ min k 64 = mask / 2 ^ k := by
  by_cases hk : k ≤ 64
  · rw [Nat.min_eq_left hk]
  · rw [Nat.min_eq_right (by omega)]
    have e1 : ((2 ^ k : Nat) : Int) = (2 : Int) ^ k := by push_cast; rfl
    have e2 : 2 ^ 64 ≤ 2 ^ k := Nat.pow_le_pow_right (by omega) (by omega)
    have e3 : (2 : Nat) ^ 64 = 18446744073709551616 := by decide
    rw [← e1, Int.ediv_eq_zero_of_lt h0 (by omega), Int.ediv_eq_zero_of_lt h0 (by rw [e3] at e2; omega)]

set_option maxRecDepth 100000 in
set_option maxHeartbeats 2000000 in
theorem has_any (mask key : Int) (w : World) (h1 : mask ≤ 9223372036854775807) :
    Calls Try.prog 51 #[.int .i64 mask, .int .i64 key] w fun e w' => e = .returned (.bool (bitG mask key)) ∧ w' = w := by
  by_cases h0 : 0 ≤ mask
  rotate_left
  · rw [bitG_neg h0]
    have hd : decide (0 ≤ mask) = false := decide_eq_false h0
    go_enter Try.func51, Try.ntmps51
    go_wp2
    go_ret
    exact ⟨rfl, rfl⟩
  by_cases hk : 0 ≤ key
  rotate_left
  · rw [bitG_key hk]
    have hd : decide (0 ≤ key) = false := decide_eq_false hk
    go_enter Try.func51, Try.ntmps51
    go_wp2
    go_ret
    exact ⟨rfl, rfl⟩
  obtain ⟨k, rfl⟩ : ∃ k : Nat, key = (k : Int) := ⟨key.toNat, by omega⟩
  have hp : (0 : Int) < 2 ^ k := Int.pow_pos (by omega)
  have hd0 : 0 ≤ mask / 2 ^ k := Int.ediv_nonneg h0 (by omega)
  have hd1 : mask / 2 ^ k ≤ mask := Int.ediv_le_self _ h0
  have hand : bits BinOp.and IntKind.i64 (mask / 2 ^ k) 1 = mask / 2 ^ k % 2 := by
    have := and_one (mask / 2 ^ k).toNat (by omega)
    rw [Int.toNat_of_nonneg hd0] at this
    rw [this]
    omega
  rw [bitG_pos h0]
  have hmn := shift_min (k := k) h0 h1
  generalize mask / 2 ^ k = z at *
  go_enter Try.func51, Try.ntmps51
  go_wp2
  go_ret
  exact ⟨rfl, rfl⟩

set_option maxRecDepth 100000 in
set_option maxHeartbeats 2000000 in
theorem wants_gen (mask : Int) (x : Wr) (a : Option Addr) (cp : Nat) (w : World) (h1 : mask ≤ 9223372036854775807) :
    Calls Try.prog 39 #[.int .i64 mask, wrOf x a cp] w fun e w' => e = .returned (.bool (bitG mask x.k)) ∧ Below w.heap.size w w' := by
  obtain ⟨xk, xc, xs', xq, xv, xd, xx⟩ := x
  simp only
  have HB : Hid (Below w.heap.size w (w.alloc (.cells #[.int .i64 xk, .int .i64 xc, .int .i64 xs', .int .i64 xq, .int .i64 xv, .bool xd, .slice a xx.length cp] 37))) := (Below.refl _ _).alloc (Nat.le_refl _) _
  unfold wrOf
  go_enter Try.func39, Try.ntmps39
  go_wp2_with fail
  refine (has_any mask xk _ h1).mono ?_
  rintro e w1 ⟨rfl, rfl⟩
  go_wp2
  go_ret
  exact ⟨rfl, HB.out⟩

end Go.Proofs.Ytomndnopbpbblaa

/- What is as late as a tag, and the last tag of each key of a site: plain facts. -/
namespace Go.Proofs.Ytomndnopbpbblaa
open Go.ChangeShapes Go.WideShapes Go.ChangeAt Go.RowKit Go.Joins

/-- A tag. -/
structure Tg where
  c : Int
  s : Int
  q : Int

def tcmpT (a b : Tg) : Int := tcmp a.c a.s a.q b.c b.s b.q

def tgOf (x : Wr) : Tg := ⟨x.c, x.s, x.q⟩

theorem tcmpT_self (a : Tg) : tcmpT a a = 0 := tcmp_self _ _ _

theorem tcmpT_neg (a b : Tg) : tcmpT b a = -tcmpT a b := tcmp_neg _ _ _ _ _ _

theorem tcmpT_on {a b c : Tg} (h1 : tcmpT a b ≤ 0) (h2 : tcmpT b c ≤ 0) : tcmpT a c ≤ 0 := by
  have h := (tcmp_three a.c a.s a.q b.c b.s b.q c.c c.s c.q).on h1 h2
  unfold tcmpT
  omega

/-- Is a key there, as late as a tag? -/
def lateB (ws : List Wr) (k : Int) (t : Tg) : Bool := ws.any fun x => decide (x.k = k) && decide (0 ≤ tcmpT (tgOf x) t)

theorem lateB_iff (ws : List Wr) (k : Int) (t : Tg) : lateB ws k t = true ↔ ∃ x ∈ ws, x.k = k ∧ tcmpT t (tgOf x) ≤ 0 := by
  unfold lateB
  rw [List.any_eq_true]
  constructor
  · rintro ⟨x, hx, h⟩
    simp only [Bool.and_eq_true, decide_eq_true_eq] at h
    refine ⟨x, hx, h.1, ?_⟩
    rw [tcmpT_neg]
    omega
  · rintro ⟨x, hx, h1, h2⟩
    refine ⟨x, hx, ?_⟩
    rw [tcmpT_neg] at h2
    simp only [Bool.and_eq_true, decide_eq_true_eq]
    exact ⟨h1, by omega⟩

/-- f has of each key of each site the last tag of the writes of xs. -/
def LatestOf (f : Int → Int → Option Tg) (xs : List (Int × Wr)) : Prop :=
  ∀ s k, (f s k = none → ∀ p ∈ xs, ¬ (p.1 = s ∧ p.2.k = k)) ∧ ∀ t, f s k = some t → (∃ p ∈ xs, p.1 = s ∧ p.2.k = k ∧ tgOf p.2 = t) ∧ ∀ p ∈ xs, p.1 = s → p.2.k = k → tcmpT (tgOf p.2) t ≤ 0

theorem latest_nil : LatestOf (fun _ _ => none) [] := fun _ _ => ⟨fun _ p hp => by simp at hp, fun t h => by cases h⟩

/-- Is nothing there as late as t? -/
def lacksT (f : Int → Int → Option Tg) (s k : Int) (t : Tg) : Bool := match f s k with
  | none => true
  | some l => decide (tcmpT l t < 0)

theorem lacksT_none {f : Int → Int → Option Tg} {s k : Int} (h : f s k = none) (t : Tg) : lacksT f s k t = true := by
  unfold lacksT
  rw [h]

theorem lacksT_some {f : Int → Int → Option Tg} {s k : Int} {l : Tg} (h : f s k = some l) (t : Tg) : lacksT f s k t = decide (tcmpT l t < 0) := by
  unfold lacksT
  rw [h]

theorem lacks_iff {f : Int → Int → Option Tg} {xs : List (Int × Wr)} (h : LatestOf f xs) (s k : Int) (t : Tg) : lacksT f s k t = false ↔ ∃ p ∈ xs, p.1 = s ∧ p.2.k = k ∧ tcmpT t (tgOf p.2) ≤ 0 := by
  cases hf : f s k with
  | none =>
    rw [lacksT_none hf]
    constructor
    · intro h; cases h
    · rintro ⟨p, hp, h1, h2, _⟩
      exact absurd ⟨h1, h2⟩ ((h s k).1 hf p hp)
  | some l =>
    rw [lacksT_some hf]
    obtain ⟨⟨p, hp, p1, p2, p3⟩, hall⟩ := (h s k).2 l hf
    rw [decide_eq_false_iff_not]
    constructor
    · intro hn
      refine ⟨p, hp, p1, p2, ?_⟩
      rw [p3, tcmpT_neg]
      omega
    · rintro ⟨q, hq, q1, q2, q3⟩ hlt
      have h1 := hall q hq q1 q2
      have h2 := tcmpT_on q3 h1
      rw [tcmpT_neg] at h2
      omega

/-- The map behind one more. -/
def putT (f : Int → Int → Option Tg) (s k : Int) (t : Tg) : Int → Int → Option Tg := fun s' k' => if s' = s ∧ k' = k then some t else f s' k'

def addT (f : Int → Int → Option Tg) (s : Int) (x : Wr) : Int → Int → Option Tg := if lacksT f s x.k (tgOf x) = true then putT f s x.k (tgOf x) else f

theorem latest_add {f : Int → Int → Option Tg} {xs : List (Int × Wr)} (h : LatestOf f xs) (s : Int) (x : Wr) : LatestOf (addT f s x) (xs ++ [(s, x)]) := by
  unfold addT
  intro s' k'
  by_cases hl : lacksT f s x.k (tgOf x) = true
  · rw [if_pos hl]
    unfold putT
    by_cases he : s' = s ∧ k' = x.k
    · obtain ⟨rfl, rfl⟩ := he
      rw [if_pos ⟨rfl, rfl⟩]
      refine ⟨fun h => (by cases h), fun t ht => ?_⟩
      obtain rfl : tgOf x = t := by simpa using ht
      refine ⟨⟨(s', x), by simp, rfl, rfl, rfl⟩, fun p hp p1 p2 => ?_⟩
      rcases List.mem_append.1 hp with hp | hp
      · have h1 : ¬ (∃ p ∈ xs, p.1 = s' ∧ p.2.k = x.k ∧ tcmpT (tgOf x) (tgOf p.2) ≤ 0) := fun e => by
          rw [(lacks_iff h _ _ _).2 e] at hl
          cases hl
        have h2 : ¬ tcmpT (tgOf x) (tgOf p.2) ≤ 0 := fun e => h1 ⟨p, hp, p1, p2, e⟩
        rw [tcmpT_neg]
        omega
      · obtain rfl : p = (s', x) := by simpa using hp
        show tcmpT (tgOf x) (tgOf x) ≤ 0
        rw [tcmpT_self]
        omega
    · rw [if_neg he]
      refine ⟨fun hn p hp => ?_, fun t ht => ?_⟩
      · rcases List.mem_append.1 hp with hp | hp
        · exact (h s' k').1 hn p hp
        · obtain rfl : p = (s, x) := by simpa using hp
          exact fun e => he ⟨e.1.symm, e.2.symm⟩
      · obtain ⟨⟨p, hp, p1⟩, hall⟩ := (h s' k').2 t ht
        refine ⟨⟨p, List.mem_append.2 (.inl hp), p1⟩, fun p hp p1 p2 => ?_⟩
        rcases List.mem_append.1 hp with hp | hp
        · exact hall p hp p1 p2
        · obtain rfl : p = (s, x) := by simpa using hp
          exact absurd ⟨p1.symm, p2.symm⟩ he
  · rw [if_neg hl]
    have hl' : lacksT f s x.k (tgOf x) = false := by simpa using hl
    obtain ⟨r, hr, r1, r2, r3⟩ := (lacks_iff h _ _ _).1 hl'
    refine ⟨fun hn p hp => ?_, fun t ht => ?_⟩
    · rcases List.mem_append.1 hp with hp | hp
      · exact (h s' k').1 hn p hp
      · obtain rfl : p = (s, x) := by simpa using hp
        rintro ⟨e1, e2⟩
        exact (h s' k').1 hn r hr ⟨r1.trans e1, r2.trans e2⟩
    · obtain ⟨⟨p, hp, p1⟩, hall⟩ := (h s' k').2 t ht
      refine ⟨⟨p, List.mem_append.2 (.inl hp), p1⟩, fun p hp p1 p2 => ?_⟩
      rcases List.mem_append.1 hp with hp | hp
      · exact hall p hp p1 p2
      · obtain rfl : p = (s, x) := by simpa using hp
        have p1' : s = s' := p1
        have p2' : x.k = k' := p2
        exact tcmpT_on r3 (hall r hr (r1.trans p1') (r2.trans p2'))

/-- All writes of one event added. -/
def addAll (f : Int → Int → Option Tg) (s : Int) (ws : List Wr) : Int → Int → Option Tg := ws.foldl (fun f x => addT f s x) f

theorem addAll_take (f : Int → Int → Option Tg) (s : Int) (ws : List Wr) {k : Nat} (h : k < ws.length) : addAll f s (ws.take (k + 1)) = addT (addAll f s (ws.take k)) s (ws.getD k wz) := by
  unfold addAll
  have e : ws.take (k + 1) = ws.take k ++ [ws.getD k wz] := by
    rw [List.take_add_one, List.getElem?_eq_getElem h]
    simp [List.getD, h]
  rw [e, List.foldl_append]
  rfl

theorem latest_all (s : Int) : ∀ (ws : List Wr) {f : Int → Int → Option Tg} {xs : List (Int × Wr)}, LatestOf f xs → LatestOf (addAll f s ws) (xs ++ ws.map fun x => (s, x))
  | [], f, xs, h => by simpa [addAll] using h
  | x :: r, f, xs, h => by
    have h1 := latest_all s r (latest_add h s x)
    simpa [addAll] using h1

/-- Is something asked for that is there, and later than what the event has? -/
def pastB (f : Int → Int → Option Tg) (s m : Int) (ws : List Wr) : Bool := (List.range 64).any fun k => match f s (k : Int) with
  | none => false
  | some t => bitG m (k : Int) && lacksT (addAll (fun _ _ => none) s ws) s (k : Int) t

theorem bitG_small {m k : Int} (h1 : m ≤ 9223372036854775807) (h : bitG m k = true) : 0 ≤ k ∧ k < 63 := by
  by_cases h0 : 0 ≤ m
  · by_cases hk : 0 ≤ k
    · refine ⟨hk, ?_⟩
      obtain ⟨n, rfl⟩ : ∃ n : Nat, k = (n : Int) := ⟨k.toNat, by omega⟩
      rw [bitG_pos h0] at h
      by_cases hn : n < 63
      · omega
      · have e1 : (2 : Nat) ^ 63 ≤ 2 ^ n := Nat.pow_le_pow_right (by omega) (by omega)
        have e2 : (2 : Nat) ^ 63 = 9223372036854775808 := by decide
        have e3 : ((2 ^ n : Nat) : Int) = 2 ^ n := by simp
        have e4 : m / 2 ^ n = 0 := Int.ediv_eq_zero_of_lt h0 (by rw [← e3]; omega)
        rw [e4] at h
        simp at h
    · rw [bitG_key hk] at h
      cases h
  · rw [bitG_neg h0] at h
    cases h

theorem past_iff {f : Int → Int → Option Tg} {xs : List (Int × Wr)} (h : LatestOf f xs) (s m : Int) (ws : List Wr) (hm : m ≤ 9223372036854775807) : pastB f s m ws = true ↔ ∃ p ∈ xs, p.1 = s ∧ bitG m p.2.k = true ∧ lateB ws p.2.k (tgOf p.2) = false := by
  have hw : LatestOf (addAll (fun _ _ => none) s ws) (ws.map fun x => (s, x)) := by simpa using latest_all s ws latest_nil
  have hk : ∀ k t, lacksT (addAll (fun _ _ => none) s ws) s k t = !lateB ws k t := fun k t => by
    cases hb : lateB ws k t with
    | true =>
      obtain ⟨x, hx, x1, x2⟩ := (lateB_iff ws k t).1 hb
      exact (lacks_iff hw s k t).2 ⟨(s, x), List.mem_map.2 ⟨x, hx, rfl⟩, rfl, x1, x2⟩
    | false =>
      cases hl : lacksT (addAll (fun _ _ => none) s ws) s k t with
      | true => rfl
      | false =>
        obtain ⟨p, hp, _, p2, p3⟩ := (lacks_iff hw s k t).1 hl
        obtain ⟨x, hx, rfl⟩ := List.mem_map.1 hp
        rw [(lateB_iff ws k t).2 ⟨x, hx, p2, p3⟩] at hb
        cases hb
  unfold pastB
  rw [List.any_eq_true]
  constructor
  · rintro ⟨k, _, h1⟩
    cases hf : f s (k : Int) with
    | none =>
      rw [hf] at h1
      cases h1
    | some t =>
      rw [hf] at h1
      simp only [Bool.and_eq_true] at h1
      rw [hk] at h1
      obtain ⟨⟨p, hp, p1, p2, p3⟩, _⟩ := (h s (k : Int)).2 t hf
      refine ⟨p, hp, p1, ?_, ?_⟩
      · rw [p2]; exact h1.1
      · rw [p2, p3]; simpa using h1.2
  · rintro ⟨p, hp, p1, p2, p3⟩
    obtain ⟨k0, k1⟩ := bitG_small hm p2
    obtain ⟨n, hn⟩ : ∃ n : Nat, p.2.k = (n : Int) := ⟨p.2.k.toNat, by omega⟩
    rw [hn] at p2 p3
    refine ⟨n, List.mem_range.2 (by omega), ?_⟩
    cases hf : f s (n : Int) with
    | none => exact absurd ⟨p1, hn⟩ ((h s (n : Int)).1 hf p hp)
    | some t =>
      have hle := ((h s (n : Int)).2 t hf).2 p hp p1 hn
      simp only [Bool.and_eq_true]
      refine ⟨p2, ?_⟩
      rw [hk]
      cases hb : lateB ws (n : Int) t with
      | false => rfl
      | true =>
        obtain ⟨x, hx, x1, x2⟩ := (lateB_iff ws (n : Int) t).1 hb
        rw [(lateB_iff ws (n : Int) (tgOf p.2)).2 ⟨x, hx, x1, tcmpT_on hle x2⟩] at p3
        cases p3

end Go.Proofs.Ytomndnopbpbblaa

/- Gaps: plain facts: the causes of several writes, each told once. -/
namespace Go.Proofs.Ytomndnopbpbblaa
open Go.ChangeShapes Go.WideShapes Go.ChangeAt Go.RowKit Go.Joins

/-- What isn't among them. -/
def notIn (T : List Wr) (y : Wr) : Bool := !hasW T y

theorem notIn_iff (T : List Wr) (y : Wr) : notIn T y = true ↔ y ∉ T := by
  unfold notIn
  rw [← hasW_iff T y]
  simp

theorem filter_ext {α : Type} {p q : α → Bool} {l : List α} (h : ∀ y ∈ l, p y = true ↔ q y = true) : l.filter p = l.filter q :=
  List.filter_congr fun y hy => by
    have := h y hy
    cases hp : p y <;> cases hq : q y <;> simp_all

theorem stepD_gen {d : Dp} : ∀ (all out : List Wr), all.Nodup → stepD all out d = out ++ all.filter fun y => matchD d y && notIn out y
  | [], out, _ => by simp [stepD]
  | y :: r, out, hn => by
    have e : stepD (y :: r) out d = stepD r (cauW d out y) d := rfl
    obtain ⟨hy, hr⟩ := List.nodup_cons.1 hn
    rw [e, stepD_gen r _ hr]
    by_cases hc : (matchD d y && notIn out y) = true
    · have e1 : cauW d out y = out ++ [y] := if_pos hc
      rw [e1, List.filter_cons_of_pos (p := fun y => matchD d y && notIn out y) hc, List.append_assoc]
      congr 1
      show y :: _ = y :: _
      congr 1
      refine filter_ext fun z hz => ?_
      simp only [Bool.and_eq_true, notIn_iff, List.mem_append, List.mem_singleton, not_or]
      constructor
      · exact fun h => ⟨h.1, h.2.1⟩
      · exact fun h => ⟨h.1, h.2, fun e => hy (e ▸ hz)⟩
    · have e1 : cauW d out y = out := if_neg hc
      rw [e1, List.filter_cons_of_neg (p := fun y => matchD d y && notIn out y) hc]

/-- A dependency that speaks of nothing but what is in T. -/
def Bad (all T : List Wr) (d : Dp) : Prop := ∀ z ∈ all, dpOf z = d → z ∈ T

/-- The same dependencies but for such. -/
inductive Thin (all T : List Wr) : List Dp → List Dp → Prop
  | nil : Thin all T [] []
  | keep (d : Dp) {q q' : List Dp} : Thin all T q q' → Thin all T (d :: q) (d :: q')
  | skip {d : Dp} {q q' : List Dp} : Bad all T d → Thin all T q q' → Thin all T (d :: q) q'

theorem Thin.refl (all T : List Wr) : ∀ q, Thin all T q q
  | [] => .nil
  | d :: q => .keep d (Thin.refl all T q)

theorem Thin.app {all T : List Wr} {q q' r r' : List Dp} (h : Thin all T q q') (h2 : Thin all T r r') : Thin all T (q ++ r) (q' ++ r') := by
  induction h with
  | nil => exact h2
  | keep d _ ih => exact .keep d ih
  | skip hb _ ih => exact .skip hb ih

theorem thin_bad {all T : List Wr} : ∀ {q : List Dp}, (∀ d ∈ q, Bad all T d) → Thin all T q []
  | [], _ => .nil
  | d :: q, h => .skip (h d (by simp)) (thin_bad fun d' h' => h d' (by simp [h']))

/-- T has with each of its own what that one is because of. -/
def ClosedT (all T : List Wr) : Prop := ∀ y ∈ T, ∀ d ∈ y.xs, Bad all T d

theorem thin_new {all T : List Wr} (hc : ClosedT all T) : ∀ new : List Wr, Thin all T (new.flatMap (·.xs)) ((new.filter (notIn T)).flatMap (·.xs))
  | [] => .nil
  | y :: r => by
    by_cases h : notIn T y = true
    · rw [List.filter_cons_of_pos h, List.flatMap_cons, List.flatMap_cons]
      exact (Thin.refl all T _).app (thin_new hc r)
    · rw [List.filter_cons_of_neg h, List.flatMap_cons]
      have hy : y ∈ T := by
        rw [notIn_iff] at h
        exact Classical.not_not.1 h
      have := (thin_bad (hc y hy)).app (thin_new hc r)
      simpa using this

theorem drop_cons {α : Type} (l : List α) (d : α) {k : Nat} (h : k < l.length) : l.drop k = l.getD k d :: l.drop (k + 1) := by
  rw [List.drop_eq_getElem_cons h]
  simp [List.getD, h]

theorem app_filter (l m : List Wr) (p : Wr → Bool) : (l ++ m).filter p = l.filter p ++ m.filter p := List.filter_append _ _

/-- Step by step the same but for what is in T. -/
theorem cau_sim {all T : List Wr} (hn : all.Nodup) (hc : ClosedT all T) (ds : List Dp) : ∀ t, t ≤ (cauQ ds (cauRun all ds t)).length → CauI all ds t →
    ∃ t', CauI (all.filter (notIn T)) ds t' ∧ cauRun (all.filter (notIn T)) ds t' = (cauRun all ds t).filter (notIn T) ∧ Thin all T ((cauQ ds (cauRun all ds t)).drop t) ((cauQ ds (cauRun (all.filter (notIn T)) ds t')).drop t') := by
  have hnR : (all.filter (notIn T)).Nodup := hn.filter _
  have main : ∀ t, CauI all ds t ∧ (∀ u, u < t → u < (cauQ ds (cauRun all ds u)).length) → ∃ t', CauI (all.filter (notIn T)) ds t' ∧ cauRun (all.filter (notIn T)) ds t' = (cauRun all ds t).filter (notIn T) ∧ Thin all T ((cauQ ds (cauRun all ds t)).drop t) ((cauQ ds (cauRun (all.filter (notIn T)) ds t')).drop t') := by
    intro t
    induction t with
    | zero =>
      intro _
      refine ⟨0, cauI_zero _ _, by simp [cauRun], ?_⟩
      simp only [cauRun, List.drop_zero]
      exact Thin.refl _ _ _
    | succ t ih =>
      rintro ⟨-, hlt⟩
      have ht : t < (cauQ ds (cauRun all ds t)).length := hlt t (by omega)
      have hI : CauI all ds t := by
        clear ih
        have : ∀ s, s ≤ t → CauI all ds s := by
          intro s
          induction s with
          | zero => exact fun _ => cauI_zero _ _
          | succ s ihs => exact fun hs => ((ihs (by omega)).next hn (hlt s (by omega))).2.2
        exact this t (Nat.le_refl _)
      obtain ⟨t', hI', hr, hth⟩ := ih ⟨hI, fun u hu => hlt u (by omega)⟩
      have e := cauRun_next ht
      rw [stepD_gen all _ hn] at e
      rw [drop_cons _ dz ht] at hth
      obtain ⟨d, hd⟩ : ∃ d, (cauQ ds (cauRun all ds t)).getD t dz = d := ⟨_, rfl⟩
      rw [hd] at e hth
      obtain ⟨new, hnew⟩ : ∃ new, (all.filter fun y => matchD d y && notIn (cauRun all ds t) y) = new := ⟨_, rfl⟩
      rw [hnew] at e
      have hQ : (cauQ ds (cauRun all ds (t + 1))).drop (t + 1) = (cauQ ds (cauRun all ds t)).drop (t + 1) ++ new.flatMap (·.xs) := by
        rw [e, cauQ_more, List.drop_append_of_le_length (by omega)]
      have hmem : ∀ y, y ∈ new ↔ y ∈ all ∧ dpOf y = d ∧ y ∉ cauRun all ds t := fun y => by
        rw [← hnew, List.mem_filter, Bool.and_eq_true, matchD_iff, notIn_iff]
      rw [hQ, e, app_filter]
      generalize hA : (cauQ ds (cauRun all ds t)).drop (t + 1) = A at *
      generalize hB : (cauQ ds (cauRun (all.filter (notIn T)) ds t')).drop t' = B at *
      cases hth with
      | skip hb hth =>
        have hz : new.filter (notIn T) = [] := List.filter_eq_nil_iff.2 fun y hy hp => by
          obtain ⟨h1, h2, -⟩ := (hmem y).1 hy
          exact (notIn_iff T y).1 hp (hb y h1 h2)
        refine ⟨t', hI', by rw [hz, List.append_nil]; exact hr, ?_⟩
        rw [hB]
        have := hth.app (thin_new hc new)
        rw [hz] at this
        simpa using this
      | keep _ hth =>
        rename_i q'
        have ht' : t' < (cauQ ds (cauRun (all.filter (notIn T)) ds t')).length := by
          have := congrArg List.length hB
          simp at this
          omega
        have hd' : (cauQ ds (cauRun (all.filter (notIn T)) ds t')).getD t' dz = d ∧ (cauQ ds (cauRun (all.filter (notIn T)) ds t')).drop (t' + 1) = q' := by
          rw [drop_cons _ dz ht'] at hB
          injection hB with h1 h2
          exact ⟨h1, h2⟩
        have e' := cauRun_next ht'
        rw [stepD_gen _ _ hnR, hd'.1] at e'
        have hnw : ((all.filter (notIn T)).filter fun y => matchD d y && notIn (cauRun (all.filter (notIn T)) ds t') y) = new.filter (notIn T) := by
          rw [← hnew, List.filter_filter, List.filter_filter]
          refine filter_ext fun y _ => ?_
          rw [hr]
          simp only [Bool.and_eq_true, notIn_iff, List.mem_filter, not_and, Classical.not_not]
          constructor
          · rintro ⟨⟨h1, h2⟩, h3⟩
            exact ⟨h3, h1, fun h => h3 (h2 h)⟩
          · rintro ⟨h3, h1, h2⟩
            exact ⟨⟨h1, fun h => absurd h h2⟩, h3⟩
        rw [hnw] at e'
        refine ⟨t' + 1, (hI'.next hnR ht').2.2, by rw [e', hr], ?_⟩
        rw [e', cauQ_more, List.drop_append_of_le_length (by omega), hd'.2]
        exact hth.app (thin_new hc new)
  intro t hle hI
  refine main t ⟨hI, fun u hu => ?_⟩
  by_cases h : u < (cauQ ds (cauRun all ds u)).length
  · exact h
  · have h1 := cauRun_stop (Nat.le_of_not_lt h) (t - u)
    rw [show u + (t - u) = t by omega] at h1
    rw [h1] at hle
    omega

theorem cau_fin {all : List Wr} (hn : all.Nodup) (ds : List Dp) : ∃ t, CauI all ds t ∧ (cauQ ds (cauRun all ds t)).length ≤ t := by
  have step : ∀ k t, CauI all ds t → ds.length + wgt all - t ≤ k → ∃ t, CauI all ds t ∧ (cauQ ds (cauRun all ds t)).length ≤ t := by
    intro k
    induction k with
    | zero =>
      intro t h hk
      exact ⟨t, h, Nat.le_trans h.len (by omega)⟩
    | succ k ih =>
      intro t h hk
      by_cases ht : t < (cauQ ds (cauRun all ds t)).length
      · exact ih (t + 1) (h.next hn ht).2.2 (by omega)
      · exact ⟨t, h, by omega⟩
  exact step _ 0 (cauI_zero _ _) (Nat.le_refl _)

/-- What of the causes isn't in T are the causes among what isn't. -/
theorem causes_rest {all T : List Wr} (hn : all.Nodup) (hc : ClosedT all T) (ds : List Dp) : causesL (all.filter (notIn T)) ds = (causesL all ds).filter (notIn T) := by
  obtain ⟨t, hI, hle⟩ := cau_fin hn ds
  obtain ⟨t', hI', hr, hth⟩ := cau_sim hn hc ds t hI.le hI
  rw [List.drop_eq_nil_iff.2 hle] at hth
  obtain ⟨B, hB⟩ : ∃ B, (cauQ ds (cauRun (all.filter (notIn T)) ds t')).drop t' = B := ⟨_, rfl⟩
  rw [hB] at hth
  have hBn : B = [] := by
    cases hth
    rfl
  rw [hBn] at hB
  rw [← cauI_end hI hle, ← hr, cauI_end hI' (List.drop_eq_nil_iff.1 hB)]

theorem causes_nodup {all : List Wr} (hn : all.Nodup) (ds : List Dp) : (causesL all ds).Nodup := by
  obtain ⟨t, hI, hle⟩ := cau_fin hn ds
  rw [← cauI_end hI hle]
  exact hI.once

theorem causes_sub {all : List Wr} (hn : all.Nodup) (ds : List Dp) : ∀ y ∈ causesL all ds, y ∈ all := by
  obtain ⟨t, hI, hle⟩ := cau_fin hn ds
  rw [← cauI_end hI hle]
  exact hI.sub

theorem causes_closed {all : List Wr} (hn : all.Nodup) (ds : List Dp) : ClosedT all (causesL all ds) := by
  obtain ⟨t, hI, hle⟩ := cau_fin hn ds
  rw [← cauI_end hI hle]
  intro y hy d hd z hz hzd
  refine (hI.told z hz).2 ?_
  rw [List.take_of_length_le hle, hzd]
  exact List.mem_append.2 (.inr (List.mem_flatMap.2 ⟨y, hy, hd⟩))

/-- One more write's causes told. -/
def tellT (all T : List Wr) (x : Wr) : List Wr := T ++ (causesL all x.xs).filter (notIn T)

def toldT (all ws : List Wr) : List Wr := ws.foldl (tellT all) []

structure TellT (all T : List Wr) : Prop where
  once : T.Nodup
  sub : ∀ y ∈ T, y ∈ all
  closed : ClosedT all T

theorem tellT_nil (all : List Wr) : TellT all [] := ⟨by simp, fun y hy => (by cases hy), fun y hy => (by cases hy)⟩

theorem TellT.next {all T : List Wr} (hn : all.Nodup) (h : TellT all T) (x : Wr) : TellT all (tellT all T x) := by
  unfold tellT
  refine ⟨List.nodup_append.2 ⟨h.once, (causes_nodup hn _).filter _, fun y hy z hz e => ?_⟩, fun y hy => ?_, fun y hy d hd z hz hzd => ?_⟩
  · subst e
    exact (notIn_iff T y).1 (List.mem_filter.1 hz).2 hy
  · rcases List.mem_append.1 hy with hy | hy
    · exact h.sub y hy
    · exact causes_sub hn _ y (List.mem_filter.1 hy).1
  · rw [List.mem_append]
    rcases List.mem_append.1 hy with hy | hy
    · exact .inl (h.closed y hy d hd z hz hzd)
    · have h1 := causes_closed hn _ y (List.mem_filter.1 hy).1 d hd z hz hzd
      by_cases hT : z ∈ T
      · exact .inl hT
      · exact .inr (List.mem_filter.2 ⟨h1, (notIn_iff T z).2 hT⟩)

theorem tells_next {all : List Wr} (hn : all.Nodup) : ∀ (ws : List Wr) {T : List Wr}, TellT all T → TellT all (ws.foldl (tellT all) T)
  | [], _, h => h
  | x :: r, _, h => tells_next hn r (h.next hn x)

theorem toldT_is {all : List Wr} (hn : all.Nodup) (ws : List Wr) : TellT all (toldT all ws) := tells_next hn ws (tellT_nil all)

/-- What the specification adds of the causes of one write. -/
def gapW (p : Wr → Bool) (out : List Wr) (c : Wr) : List Wr := if (p c && notIn out c) = true then out ++ [c] else out

theorem gaps_add (p : Wr → Bool) : ∀ (cs out : List Wr), cs.Nodup → cs.foldl (gapW p) out = out ++ cs.filter fun c => p c && notIn out c
  | [], out, _ => by simp
  | c :: r, out, hn => by
    obtain ⟨hy, hr⟩ := List.nodup_cons.1 hn
    rw [List.foldl_cons, gaps_add p r _ hr]
    by_cases hc : (p c && notIn out c) = true
    · have e1 : gapW p out c = out ++ [c] := if_pos hc
      rw [e1, List.filter_cons_of_pos (p := fun c => p c && notIn out c) hc, List.append_assoc]
      congr 1
      show c :: _ = c :: _
      congr 1
      refine filter_ext fun z hz => ?_
      simp only [Bool.and_eq_true, notIn_iff, List.mem_append, List.mem_singleton, not_or]
      constructor
      · exact fun h => ⟨h.1, h.2.1⟩
      · exact fun h => ⟨h.1, h.2, fun e => hy (e ▸ hz)⟩
    · have e1 : gapW p out c = out := if_neg hc
      rw [e1, List.filter_cons_of_neg (p := fun c => p c && notIn out c) hc]

theorem gap_tell (p : Wr → Bool) {all T : List Wr} (hn : all.Nodup) (x : Wr) : (causesL all x.xs).foldl (gapW p) (T.filter p) = (tellT all T x).filter p := by
  unfold tellT
  rw [gaps_add p _ _ (causes_nodup hn _), app_filter, List.filter_filter]
  congr 1
  refine filter_ext fun c _ => ?_
  simp only [Bool.and_eq_true, notIn_iff, List.mem_filter, not_and]
  constructor
  · rintro ⟨h1, h2⟩
    exact ⟨h1, fun h => h2 h h1⟩
  · rintro ⟨h1, h2⟩
    exact ⟨h1, fun h => absurd h h2⟩

theorem toldT_next (all ws : List Wr) {k : Nat} (h : k < ws.length) : toldT all (ws.take (k + 1)) = tellT all (toldT all (ws.take k)) (ws.getD k wz) := foldl_next _ _ _ wz h

/-- What is left behind one more. -/
theorem rest_next {all T : List Wr} (x : Wr) : (all.filter (notIn T)).filter (notIn ((causesL all x.xs).filter (notIn T))) = all.filter (notIn (tellT all T x)) := by
  rw [List.filter_filter]
  refine filter_ext fun y _ => ?_
  unfold tellT
  simp only [Bool.and_eq_true, notIn_iff, List.mem_append, not_or]
  exact ⟨fun h => ⟨h.2, h.1⟩, fun h => ⟨h.2, h.1⟩⟩

/-- The gaps of the event at a place. -/
def gapsL (es : List Ev) (at_ : Int) : List Wr :=
  if (0 ≤ at_ ∧ at_ < (es.length : Int)) ∧ (es.getD at_.toNat evz).sh = true ∧ 0 ≤ (es.getD at_.toNat evz).m then
    (toldT (writtenL es) (es.getD at_.toNat evz).ws).filter fun c => bitG (es.getD at_.toNat evz).m c.k && !lateB (es.getD at_.toNat evz).ws c.k (tgOf c)
  else []

end Go.Proofs.Ytomndnopbpbblaa
