import Derived.Test.YtojgahcogpediaaPack10
import Derived.Test.YtojgahcogpediaaPack9
import Derived.Test.YtojgahcogpediaaPack8
import Derived.Test.YtojgahcogpediaaPack1
import Derived.Deep.Slices
import Derived.Deep.Strs
import Derived.Test.YtojgahcogpediaaPack2
/- Groups of one's own: the contract of toGroup. -/
namespace Go.Proofs.Ytojgahcogpediaa
open Go.ChangeShapes Go.WideShapes Go.ChangeAt Go.RowKit Go.Joins
attribute [local go_sem ↓] Go.wp_at_zero Go.wp_at_succ

theorem LaidH.only {w w' : World} {S : Nat → Prop} {lo hi b : Nat} {es : List HnB} (h : LaidH w lo hi b es) (ho : Only S w w') (hS : ∀ x, S x → x < lo ∨ hi ≤ x) : LaidH w' lo hi b es := by
  refine ⟨fun i hi => ?_, h.2⟩
  obtain ⟨q1, q2, q3, q4, q5, q6⟩ := h.1 i hi
  have hn : ¬ S (es.getD i hbz).g := fun e => by have := hS _ e; omega
  refine ⟨q1, q2, q3, by rw [ho.size]; exact q4, ?_, fun o => (ho.frozen ⟨_, o, none⟩).trans (q6 o)⟩
  intro j hj
  obtain ⟨a0, a1, a2, a3⟩ := q5 j hj
  have e : ∀ o, w'.cell? ⟨(es.getD i hbz).g, o, none⟩ = w.cell? ⟨(es.getD i hbz).g, o, none⟩ := fun o => World.cell?_of_block (a := ⟨_, o, none⟩) (ho.block _ hn)
  exact ⟨(e _).trans a0, (e _).trans a1, (e _).trans a2, (e _).trans a3⟩

theorem OwnH.only {w w' : World} {S : Nat → Prop} {lo hi : Nat} {a : Option Addr} {es : List HnB} (h : OwnH w lo hi a es) (ho : Only S w w') (hS : ∀ x, S x → x < lo ∨ hi ≤ x) : OwnH w' lo hi a es := by
  rcases h with h | ⟨b, N, f, h1, h2, h3, h4, h5, h6, h7⟩
  · exact .inl h
  · exact .inr ⟨b, N, f, h1, h2, h3, h4.of_block (ho.block b fun e => by have := hS b e; omega), h5, h6, h7.only ho hS⟩

theorem OwnH.setLow {w : World} {lo hi : Nat} {a : Option Addr} {es : List HnB} (h : OwnH w lo hi a es) {b : Nat} (hb : b < lo) (o : Nat) (v : Value) : OwnH (w.setCell ⟨b, o, none⟩ v) lo hi a es :=
  h.only (S := fun x => x = b) (Only.set (S := fun x => x = b) (Only.refl _ w) rfl o v) fun x hx => by rw [hx]; exact .inl hb

theorem OwnB.setLow {w : World} {lo hi : Nat} {a : Option Addr} {es : List Bat} (h : OwnB w lo hi a es) {b : Nat} (hb : b < lo) (o : Nat) (v : Value) : OwnB (w.setCell ⟨b, o, none⟩ v) lo hi a es :=
  h.only (S := fun x => x = b) (Only.set (S := fun x => x = b) (Only.refl _ w) rfl o v) fun x hx => by rw [hx]; exact hb

/-- A group of one's own: its maps from block lo to mid, its hints from mid to hi. -/
def OwnGp (w : World) (lo hi : Nat) (am ah : Option Addr) (es : List Bat) (ks : List HnB) : Prop := ∃ mid, lo ≤ mid ∧ mid ≤ hi ∧ OwnB w lo mid am es ∧ OwnH w mid hi ah ks

theorem OwnGp.below {w w' : World} {lo hi : Nat} {am ah : Option Addr} {es : List Bat} {ks : List HnB} (h : OwnGp w lo hi am ah es ks) (hb : Below w.heap.size w w') : OwnGp w' lo hi am ah es ks := by
  obtain ⟨mid, h1, h2, h3, h4⟩ := h
  exact ⟨mid, h1, h2, h3.below hb, h4.below hb⟩

theorem OwnGp.isBs {w : World} {lo hi : Nat} {am ah : Option Addr} {es : List Bat} {ks : List HnB} (h : OwnGp w lo hi am ah es ks) {bs : List (List Wr)} (he : batsOf es = bs) (hx : FewB bs) : IsBs w am bs := by
  obtain ⟨mid, h1, h2, h3, h4⟩ := h
  rw [← he] at hx ⊢
  exact h3.isBs hx

theorem OwnGp.isHs {w : World} {lo hi : Nat} {am ah : Option Addr} {es : List Bat} {ks : List HnB} (h : OwnGp w lo hi am ah es ks) {hs : List Hn} (he : hnsOf ks = hs) (hx : FewH hs) : IsHs w ah hs := by
  obtain ⟨mid, h1, h2, h3, h4⟩ := h
  rw [← he] at hx ⊢
  exact h4.isHs hx

set_option maxRecDepth 100000 in
set_option maxHeartbeats 4000000 in
theorem toGroup_any (am : Option Addr) (m cm : Nat) (ah : Option Addr) (n cn : Nat) (bs : List (List Wr)) (hs : List Hn) (w : World) (hm : bs.length = m) (hmm : m ≤ 1048576) (hfb : FewB bs) (hb : IsBs w am bs) (hn : hs.length = n) (hnn : n ≤ 1048576) (hfh : FewH hs) (hh : IsHs w ah hs) :
    Calls Try.prog 9 #[gpV am m cm ah n cn] w fun e w' => ∃ bm bh es ks, e = .returned (gpV (some ⟨bm, 0, none⟩) m m (some ⟨bh, 0, none⟩) n n) ∧ batsOf es = bs ∧ hnsOf ks = hs ∧ OwnGp w' w.heap.size w'.heap.size (some ⟨bm, 0, none⟩) (some ⟨bh, 0, none⟩) es ks ∧ Below w.heap.size w w' := by
  have HBS := Lib.hid hb
  have HHS := Lib.hid hh
  have HM := Lib.hid hm
  have HN := Lib.hid hn
  have HFB := Lib.hid hfb
  have HFH := Lib.hid hfh
  clear hb hh hm hn hfb hfh
  obtain ⟨O1, hO1⟩ : ∃ O, O = Obj.cells #[.slice am m cm, .slice ah n cn] 25 := ⟨_, rfl⟩
  obtain ⟨O2, hO2⟩ : ∃ O, O = Obj.cells #[.slice none 0 0, .slice none 0 0] 31 := ⟨_, rfl⟩
  have HB : Hid (Below w.heap.size w (((w.alloc O1).alloc O2).alloc O2)) := (((Below.refl _ _).alloc (Nat.le_refl _) _).alloc (by simp) _).alloc (by simp; omega) _
  have hsz : (((w.alloc O1).alloc O2).alloc O2).heap.size = w.heap.size + 3 := by simp
  have e : (w.alloc O1).heap.size = w.heap.size + 1 := by simp
  have HZ1 : Hid ((((w.alloc O1).alloc O2).alloc O2).heap[w.heap.size]? = some O1) := by
    have h1 := heap_alloc2_old w O1 O2
    have h2 : Below ((w.alloc O1).alloc O2).heap.size ((w.alloc O1).alloc O2) (((w.alloc O1).alloc O2).alloc O2) := (Below.refl _ _).alloc (Nat.le_refl _) _
    exact (h2.block w.heap.size (by simp; omega)).trans h1
  have HZ2 : Hid ((((w.alloc O1).alloc O2).alloc O2).heap[w.heap.size + 1]? = some O2) := by
    have := heap_alloc2_old (w.alloc O1) O2 O2
    rwa [e] at this
  have HZ3 : Hid ((((w.alloc O1).alloc O2).alloc O2).heap[w.heap.size + 2]? = some O2) := by
    have := heap_alloc2_new (w.alloc O1) O2 O2
    rwa [e] at this
  clear e
  subst hO1 hO2
  go_enter Try.func9, Try.ntmps9
  go_wp2_with fail
  generalize ((w.alloc (.cells #[.slice am m cm, .slice ah n cn] 25)).alloc (.cells #[.slice none 0 0, .slice none 0 0] 31)).alloc (.cells #[.slice none 0 0, .slice none 0 0] 31) = W3 at *
  refine (toRepS_any am m cm bs _ HM.out hmm HFB.out (HBS.out.below HB.out)).mono ?_
  rintro e w4 ⟨es, rfl, hes, hO, hb⟩
  rw [hsz] at hO
  have HES := Lib.hid hes
  have HO := Lib.hid hO
  have HB4 : Hid (Below w.heap.size w w4) := below_step HB.out HB.out.size hb
  have q1 := (hb.block w.heap.size (by omega)).trans HZ1.out
  have q2 := (hb.block (w.heap.size + 1) (by omega)).trans HZ2.out
  have q3 := (hb.block (w.heap.size + 2) (by omega)).trans HZ3.out
  have hs4 : W3.heap.size ≤ w4.heap.size := hb.size
  have b1 := cell_of_row w4 w.heap.size 1 _ _ _ q1
  have c0 := cell_of_row w4 (w.heap.size + 2) 0 _ _ _ q3
  have c1 := cell_of_row w4 (w.heap.size + 2) 1 _ _ _ q3
  have f3 : ∀ o, w4.frozen? ⟨w.heap.size + 2, o, none⟩ = false := fun o => frozen_of_row w4 (w.heap.size + 2) o _ _ q3
  simp at b1 c0 c1
  have HQ2 := Lib.hid q2
  clear hb hO hes HB HZ1 HZ2 HZ3 q1 q2 q3
  have HS5 : Hid (Below w.heap.size w (w4.setCell ⟨w.heap.size + 1 + 1, 0, none⟩ (.slice (some ⟨w.heap.size + 3, 0, none⟩) m m))) := HB4.out.setCell (p := ⟨w.heap.size + 1 + 1, 0, none⟩) (by simp; omega) _
  have HO5 : Hid (OwnB (w4.setCell ⟨w.heap.size + 1 + 1, 0, none⟩ (.slice (some ⟨w.heap.size + 3, 0, none⟩) m m)) (w.heap.size + 3) w4.heap.size (some ⟨w.heap.size + 3, 0, none⟩) es) := HO.out.setLow (by omega) 0 _
  have hz5 : (w4.setCell ⟨w.heap.size + 1 + 1, 0, none⟩ (.slice (some ⟨w.heap.size + 3, 0, none⟩) m m)).heap.size = w4.heap.size := by simp
  have HC3 : Hid ((w4.setCell ⟨w.heap.size + 1 + 1, 0, none⟩ (.slice (some ⟨w.heap.size + 3, 0, none⟩) m m)).cell? ⟨w.heap.size + 1 + 1, 0, none⟩ = some (.slice (some ⟨w.heap.size + 3, 0, none⟩) m m)) := World.cell?_setCell_same _ _ _ c0
  have HC4 : Hid ((w4.setCell ⟨w.heap.size + 1 + 1, 0, none⟩ (.slice (some ⟨w.heap.size + 3, 0, none⟩) m m)).cell? ⟨w.heap.size + 1 + 1, 1, none⟩ = some (.slice none 0 0)) := (World.cell?_setCell_other _ _ _ _ (by simp)).trans c1
  have HQ5 : Hid ((w4.setCell ⟨w.heap.size + 1 + 1, 0, none⟩ (.slice (some ⟨w.heap.size + 3, 0, none⟩) m m)).heap[w.heap.size + 1]? = some (.cells #[.slice none 0 0, .slice none 0 0] 31 (0, 0))) := (Below.heap_setCell _ _ _ _ (show w.heap.size + 1 ≠ w.heap.size + 1 + 1 by omega)).trans HQ2.out
  have HF5 : Hid (∀ o, (w4.setCell ⟨w.heap.size + 1 + 1, 0, none⟩ (.slice (some ⟨w.heap.size + 3, 0, none⟩) m m)).frozen? ⟨w.heap.size + 1 + 1, o, none⟩ = false) := fun o => by rw [World.frozen?_setCell]; exact f3 o
  go_wp2_with fail
  generalize w4.setCell ⟨w.heap.size + 1 + 1, 0, none⟩ (.slice (some ⟨w.heap.size + 3, 0, none⟩) m m) = W5 at *
  refine (toHintS_any ah n cn hs _ HN.out hnn HFH.out (HHS.out.below HS5.out)).mono ?_
  rintro e w6 ⟨ks, rfl, hks, hO, hb⟩
  rw [hz5] at hO
  have HKS := Lib.hid hks
  have HK := Lib.hid hO
  have HB6 : Hid (Below w.heap.size w w6) := below_step HS5.out HS5.out.size hb
  have HO6 := Lib.hid (HO5.out.below hb)
  have hs6 : W5.heap.size ≤ w6.heap.size := hb.size
  have d3 := held_cell hb HC3.out (by omega)
  have d4 := held_cell hb HC4.out (by omega)
  have q2 := (hb.block (w.heap.size + 1) (by omega)).trans HQ5.out
  have d0 := cell_of_row w6 (w.heap.size + 1) 0 _ _ _ q2
  have d1 := cell_of_row w6 (w.heap.size + 1) 1 _ _ _ q2
  have f2 : ∀ o, w6.frozen? ⟨w.heap.size + 1, o, none⟩ = false := fun o => frozen_of_row w6 (w.heap.size + 1) o _ _ q2
  have f6 : ∀ o, w6.frozen? ⟨w.heap.size + 1 + 1, o, none⟩ = false := fun o => (hb.frozen (p := ⟨w.heap.size + 1 + 1, o, none⟩) (by show w.heap.size + 1 + 1 < _; omega)).trans (HF5.out o)
  simp at d0 d1
  clear hb hO hks HB4 HS5 HO5 HC3 HC4 HQ5 HQ2 HF5 HO f3 c0 c1 b1
  go_wp2
  have hw3 : W3.heap.size = w.heap.size + 3 := hsz
  refine bodyPost_ret (v := gpV (some ⟨w.heap.size + 3, 0, none⟩) m m (some ⟨w4.heap.size, 0, none⟩) n n) (by simp [results, Try.results9, go_sem, d0, d1]) rfl ⟨w.heap.size + 3, w4.heap.size, es, ks, rfl, HES.out, HKS.out, ⟨w4.heap.size, by omega, by simp; omega, ?_, ?_⟩, ?_⟩
  · have h1 := ((HO6.out.setLow (b := w.heap.size + 1 + 1) (by omega) 1 (.slice (some ⟨w4.heap.size, 0, none⟩) n n)).setLow (b := w.heap.size + 1) (by omega) 0 (.slice (some ⟨w.heap.size + 3, 0, none⟩) m m)).setLow (b := w.heap.size + 1) (by omega) 1 (.slice (some ⟨w4.heap.size, 0, none⟩) n n)
    rcases h1 with h1 | ⟨b, h1, h2, h3, h4, h5, h6, h7⟩
    · exact .inl h1
    · exact .inr ⟨b, h1, by omega, h3, h4, h5, fun i hi => ⟨by have := (h6 i hi).1; omega, (h6 i hi).2⟩, h7⟩
  · have h1 := ((HK.out.setLow (b := w.heap.size + 1 + 1) (by omega) 1 (.slice (some ⟨w4.heap.size, 0, none⟩) n n)).setLow (b := w.heap.size + 1) (by omega) 0 (.slice (some ⟨w.heap.size + 3, 0, none⟩) m m)).setLow (b := w.heap.size + 1) (by omega) 1 (.slice (some ⟨w4.heap.size, 0, none⟩) n n)
    simpa using h1
  · exact ((HB6.out.setCell (p := ⟨w.heap.size + 1 + 1, 1, none⟩) (by simp; omega) _).setCell (p := ⟨w.heap.size + 1, 0, none⟩) (by simp) _).setCell (p := ⟨w.heap.size + 1, 1, none⟩) (by simp) _

end Go.Proofs.Ytojgahcogpediaa

/- The marks of batches stay within bounds: plain facts. -/
namespace Go.Proofs.Ytojgahcogpediaa
open Go.ChangeShapes Go.WideShapes Go.ChangeAt Go.RowKit Go.Joins

set_option maxRecDepth 100000 in
theorem markK_bd (ws : List Wr) (k : Int) : k ≤ markK ws k ws.length ∧ markK ws k ws.length ≤ k + 6 * ((ws.length + bulk ws : Nat) : Int) := by
  unfold markK
  rw [List.take_length]
  constructor <;> (push_cast; omega)

set_option maxRecDepth 100000 in
theorem markKB_bd : ∀ (es : List Bat) (k : Int), k ≤ markKB es k ∧ markKB es k ≤ k + 6 * (heftB (batsOf es) : Int)
  | [], k => by simp [markKB, batsOf, heftB]
  | e :: r, k => by
    have h1 := markK_bd e.ws k
    have h2 := markKB_bd r (markK e.ws k e.ws.length)
    have e1 : markKB (e :: r) k = markKB r (markK e.ws k e.ws.length) := rfl
    have e2 : heftB (batsOf (e :: r)) = e.ws.length + bulk e.ws + heftB (batsOf r) := rfl
    rw [e1, e2]
    generalize markK e.ws k e.ws.length = m at *
    push_cast at *
    omega

set_option maxRecDepth 100000 in
theorem heft_part : ∀ (bs : List (List Wr)) (i : Nat), heftB (bs.take i) ≤ heftB bs
  | [], i => by simp
  | b :: r, 0 => by simp [heftB]
  | b :: r, i + 1 => by
    have := heft_part r i
    simp only [List.take_succ_cons, heftB]
    omega

set_option maxRecDepth 100000 in
theorem tame_heft {es : List Bat} (h : heftB (batsOf es) ≤ 100000000) (h2 : ∀ i, i < es.length → (es.getD i btz).ws.length ≤ 1048576 ∧ bulk (es.getD i btz).ws ≤ 1048576) : TameB es 1 := by
  refine ⟨h2, fun i _ => ?_⟩
  have h3 := markKB_bd (es.take i) 1
  have h4 : batsOf (es.take i) = (batsOf es).take i := by simp [batsOf]
  rw [h4] at h3
  have h5 := heft_part (batsOf es) i
  omega

set_option maxRecDepth 100000 in
theorem tame_small {es : List Bat} (h : heftB (batsOf es) ≤ 1048576) : TameB es 1 := tame_heft (by omega) fun i hi => by
  have h1 := heft_one (batsOf es) i (by simpa [batsOf] using hi)
  rw [batsOf_get es hi] at h1
  omega

end Go.Proofs.Ytojgahcogpediaa

/- Marks of hints: the contract of markHintS, as far as an argument wants it: a number, and nothing else is written to; and of markGroup. -/
namespace Go.Proofs.Ytojgahcogpediaa
open Go.ChangeShapes Go.WideShapes Go.ChangeAt Go.RowKit Go.Joins
attribute [local go_sem ↓] Go.wp_at_zero Go.wp_at_succ

theorem deps_block {w w' : World} {g o : Nat} {xs : List Dp} (h : HoldsDeps w g o xs) (hb : w'.heap[g]? = w.heap[g]?) : HoldsDeps w' g o xs := fun i hi => by
  obtain ⟨a0, a1, a2, a3⟩ := h i hi
  have e : ∀ o, w'.cell? ⟨g, o, none⟩ = w.cell? ⟨g, o, none⟩ := fun o => World.cell?_of_block (a := ⟨_, o, none⟩) hb
  exact ⟨(e _).trans a0, (e _).trans a1, (e _).trans a2, (e _).trans a3⟩

abbrev mark7 (w : World) (b o : Nat) (m : Int) : World :=
  ((((((w.setCell ⟨b, o, none⟩ (.int .i64 m)).setCell ⟨b, o + 1, none⟩ (.int .i64 (m + 1))).setCell ⟨b, o + 2, none⟩ (.int .i64 (m + 1 + 1))).setCell ⟨b, o + 1 + 1 + 1, none⟩ (.int .i64 (m + 1 + 1 + 1))).setCell ⟨b, o + 1 + 1 + 2, none⟩ (.int .i64 (m + 1 + 1 + 1 + 1))).setCell ⟨b, o + 1 + 4, none⟩ (.int .i64 (m + 1 + 1 + 1 + 1 + 1))).setCell ⟨b, o + 1 + 5, none⟩ (.bool ((m + 1 + 1 + 1 + 1 + 1 + 1) % 3 == 0))

theorem mark7_only {S : Nat → Prop} {w w' : World} (h : Only S w w') {b : Nat} (hb : S b) (o : Nat) (m : Int) : Only S w (mark7 w' b o m) :=
  ((((((h.set hb _ _).set hb _ _).set hb _ _).set hb _ _).set hb _ _).set hb _ _).set hb _ _

/-- What holds while hints are marked: those from number j on are as they were. -/
structure MarkH (w wr : World) (lo hi b N : Nat) (es : List HnB) (j : Nat) : Prop where
  row : ∃ f, wr.rowIs b 65 N f ∧ ∀ i, j ≤ i → i < es.length → ∀ c, c < 8 → f (i * 8 + c) = fieldH (es.getD i hbz) c
  deps : ∀ i, j ≤ i → i < es.length → HoldsDeps wr (es.getD i hbz).g 0 (es.getD i hbz).h.x.xs
  only : Only (Span lo hi) w wr

theorem MarkH.next {w wr w2 : World} {lo hi b N : Nat} {es : List HnB} {j : Nat} (h : MarkH w wr lo hi b N es j) (hL : LaidH w lo hi b es) (hb : Span lo hi b) (hj : j < es.length) (m : Int) (h3 : Only (fun x => 0 < (es.getD j hbz).h.x.xs.length ∧ x = (es.getD j hbz).g) (mark7 wr b (j * 8) m) w2) : MarkH w w2 lo hi b N es (j + 1) where
  row := by
    obtain ⟨f, hr, hf⟩ := h.row
    have hr2 := (((((((hr.set (j * 8) (.int .i64 m)).set (j * 8 + 1) (.int .i64 (m + 1))).set (j * 8 + 2) (.int .i64 (m + 1 + 1))).set (j * 8 + 1 + 1 + 1) (.int .i64 (m + 1 + 1 + 1))).set (j * 8 + 1 + 1 + 2) (.int .i64 (m + 1 + 1 + 1 + 1))).set (j * 8 + 1 + 4) (.int .i64 (m + 1 + 1 + 1 + 1 + 1))).set (j * 8 + 1 + 5) (.bool ((m + 1 + 1 + 1 + 1 + 1 + 1) % 3 == 0)))
    refine ⟨_, hr2.of_block (h3.block b fun e => (hL.1 j hj).2.2.1 e.2.symm), fun i hi hil c hc => ?_⟩
    rw [if_neg (by omega), if_neg (by omega), if_neg (by omega), if_neg (by omega), if_neg (by omega), if_neg (by omega), if_neg (by omega)]
    exact hf i (by omega) hil c hc
  deps := fun i hi hil => by
    have hn1 : (es.getD i hbz).g ≠ b := (hL.1 i hil).2.2.1
    have hn2 : (es.getD i hbz).g ≠ (es.getD j hbz).g := by have := hL.2 j i (by omega) hil; omega
    have ho : Only (fun x => x = b) wr (mark7 wr b (j * 8) m) := mark7_only (S := fun x => x = b) (Only.refl _ wr) rfl _ _
    exact deps_block (h.deps i (by omega) hil) ((h3.block _ fun e => hn2 e.2).trans (ho.block _ hn1))
  only := (mark7_only h.only hb _ _).trans h3 fun x hx => by
    have := hL.1 j hj
    rw [hx.2]
    exact ⟨this.1, this.2.1⟩

set_option maxRecDepth 100000 in
set_option maxHeartbeats 8000000 in
theorem markHintS_own (lo hi n cap : Nat) (a : Option Addr) (k : Int) (es : List HnB) (w : World) (hn : es.length = n) (hm : n ≤ 1048576) (hbk : bulk (hnW (hnsOf es)) ≤ 1048576) (h0 : 0 ≤ k) (h1 : k ≤ 1073741824) (ho : OwnH w lo hi a es) :
    Calls Try.prog 56 #[.slice a n cap, .int .i64 k] w fun e w' => ∃ z : Int, e = .returned (.int .i64 z) ∧ 0 ≤ z ∧ Only (Span lo hi) w w' := by
  rcases ho with he | ⟨b, N, f, rfl, hlo, hhi, hr, hN, hf, hL⟩
  · subst he
    obtain rfl : n = 0 := by rw [← hn]; rfl
    go_enter Try.func56, Try.ntmps56
    go_wp2
    go_loopw [1, 5] (fun l i wr => i = .int .i64 0 ∧ l = .int .i64 k ∧ wr = w) (fun _ _ _ => 0)
    case atStart => exact ⟨rfl, rfl, rfl⟩
    case round =>
      obtain ⟨rfl, rfl, rfl⟩ := hrel
      go_wp2
      go_ret
      exact ⟨k, rfl, h0, Only.refl _ _⟩
  have HL := Lib.hid hL
  have HN := Lib.hid hn
  have HR0 : Hid (MarkH w w lo hi b N es 0) := ⟨⟨f, hr, fun i _ hil c hc => hf i hil c hc⟩, fun i _ hil => (hL.1 i hil).2.2.2.2.1, Only.refl _ _⟩
  have HSP : Hid (Span lo hi b) := ⟨hlo, hhi⟩
  have HFZ : Hid (∀ o, w.frozen? ⟨b, o, none⟩ = false) := hr.frozen
  have hNN : n * 8 ≤ N := by rw [← hn]; exact hN
  clear hL hn hr hf hN
  go_enter Try.func56, Try.ntmps56
  go_wp2
  go_loopw [1, 5] (fun l i wr => ∃ (j : Nat) (z : Int), j ≤ n ∧ i = .int .i64 j ∧ l = .int .i64 z ∧ 0 ≤ z ∧ Hid (z ≤ k + 7 * j + 4 * bulk ((hnW (hnsOf es)).take j)) ∧ Hid (MarkH w wr lo hi b N es j)) (fun _ i _ => n - (intOf i).toNat)
  case atStart => exact ⟨0, k, Nat.zero_le _, rfl, rfl, h0, Lib.hid (by simp [bulk]), HR0⟩
  case round =>
    obtain ⟨j, z, hj, rfl, rfl, z0, HZ, HI⟩ := hrel
    by_cases hj' : j < n
    · have hjw : j < es.length := by rw [HN.out]; exact hj'
      have ht := bulk_take (hnW (hnsOf es)) j (by rw [hnW_len, hnsOf_len]; exact hjw)
      rw [hnW_get _ (by rw [hnsOf_len]; exact hjw), hnsOf_get es hjw] at ht
      have hle : bulk ((hnW (hnsOf es)).take j) ≤ 1048576 := Nat.le_trans (bulk_take_le _ j) hbk
      have hln : (es.getD j hbz).h.x.xs.length ≤ 1048576 := by
        have := bulk_take_le (hnW (hnsOf es)) (j + 1)
        omega
      have z1 : z ≤ 1099511627000 := by have := HZ.out; omega
      have HT := Lib.hid ht
      obtain ⟨f', hr', hf'⟩ := HI.out.row
      have q0 := hr'.cell (i := j * 8) (by omega)
      have q1 := hr'.cell (i := j * 8 + 1) (by omega)
      have q2 := hr'.cell (i := j * 8 + 1 + 1) (by omega)
      have q3 := hr'.cell (i := j * 8 + 1 + 1 + 1) (by omega)
      have q4 := hr'.cell (i := j * 8 + 1 + 1 + 2) (by omega)
      have q5 := hr'.cell (i := j * 8 + 1 + 4) (by omega)
      have q6 := hr'.cell (i := j * 8 + 1 + 5) (by omega)
      have q7 := hr'.cell (i := j * 8 + 1 + 6) (by omega)
      rw [show f' (j * 8 + 1 + 6) = fieldH (es.getD j hbz) 7 from hf' j (Nat.le_refl _) hjw 7 (by omega)] at q7
      have fz : ∀ o, wr.frozen? ⟨b, o, none⟩ = false := fun o => (HI.out.only.frozen _).trans (HFZ.out o)
      have i1 : (0 : Int) ≤ (j : Int) := by omega
      have i2 : (j : Int) < (n : Int) := by omega
      have HS : Hid (∀ w2, Only (fun x => 0 < (es.getD j hbz).h.x.xs.length ∧ x = (es.getD j hbz).g) (mark7 wr b (j * 8) z) w2 → MarkH w w2 lo hi b N es (j + 1)) := fun w2 h3 => HI.out.next HL.out HSP.out hjw z h3
      have HD : Hid (CellsAre (mark7 wr b (j * 8) z) (es.getD j hbz).g ((es.getD j hbz).h.x.xs.length * 4) (fun o => .int .i64 (depCell (es.getD j hbz).h.x.xs o))) := by
        have ho : Only (fun x => x = b) wr (mark7 wr b (j * 8) z) := mark7_only (S := fun x => x = b) (Only.refl _ wr) rfl _ _
        have hd := deps_block (HI.out.deps j (Nat.le_refl _) hjw) (ho.block _ (HL.out.1 j hjw).2.2.1)
        intro o ho'
        have := holds_cells hd ho'
        rwa [Nat.zero_add] at this
      have HZF : Hid (0 < (es.getD j hbz).h.x.xs.length → ∀ o, (mark7 wr b (j * 8) z).frozen? ⟨(es.getD j hbz).g, o, none⟩ = false) := fun _ o => by
        simp only [World.frozen?_setCell]
        exact (HI.out.only.frozen _).trans ((HL.out.1 j hjw).2.2.2.2.2 o)
      rw [show fieldH (es.getD j hbz) 7 = .slice (some ⟨(es.getD j hbz).g, 0, none⟩) (es.getD j hbz).h.x.xs.length (es.getD j hbz).h.x.xs.length from rfl] at q7
      clear HI hf' hr' ht
      generalize f' (j * 8) = u0 at *
      generalize f' (j * 8 + 1) = u1 at *
      generalize f' (j * 8 + 1 + 1) = u2 at *
      generalize f' (j * 8 + 1 + 1 + 1) = u3 at *
      generalize f' (j * 8 + 1 + 1 + 2) = u4 at *
      generalize f' (j * 8 + 1 + 4) = u5 at *
      generalize f' (j * 8 + 1 + 5) = u6 at *
      generalize (es.getD j hbz).h.x.xs = ys at *
      generalize (es.getD j hbz).g = gj at *
      go_wp2_with fail
      refine (markDepS_any _ gj _ _ _ _ _ hln (by omega) (by omega) (fun _ => rfl) HD.out HZF.out).mono ?_
      rintro e w2 ⟨rfl, -, h3⟩
      have HI2 := Lib.hid (HS.out w2 h3)
      have HZ2 : Hid (z + 1 + 1 + 1 + 1 + 1 + 1 + 1 + 4 * (ys.length : Int) ≤ k + 7 * ((j + 1 : Nat) : Int) + 4 * bulk ((hnW (hnsOf es)).take (j + 1))) := by
        have h4 := HZ.out
        have h5 := HT.out
        show _ ≤ _
        omega
      clear h3 HS HD HZF
      go_wp2
      exact ⟨⟨j + 1, _, by omega, by go_num, rfl, by omega, HZ2, HI2⟩, by simp [intOf]; omega⟩
    · have hjj : j = n := by omega
      subst hjj
      go_wp2
      go_ret
      exact ⟨z, rfl, z0, HI.out.only⟩

end Go.Proofs.Ytojgahcogpediaa

/- Marks of a group that is an argument: a number, and nothing else is written to. -/
namespace Go.Proofs.Ytojgahcogpediaa
open Go.ChangeShapes Go.WideShapes Go.ChangeAt Go.RowKit Go.Joins
attribute [local go_sem ↓] Go.wp_at_zero Go.wp_at_succ

theorem Only.widen {S T : Nat → Prop} {w w' : World} (h : Only S w w') (hS : ∀ x, S x → T x) : Only T w w' := ⟨h.os, h.tape, h.output, h.size, fun b hb => h.block b fun e => hb (hS b e), h.frozen⟩

set_option maxRecDepth 100000 in
set_option maxHeartbeats 2000000 in
theorem markGroup_own (lo hi : Nat) (am : Option Addr) (m cm : Nat) (ah : Option Addr) (n cn : Nat) (es : List Bat) (ks : List HnB) (w : World) (hm : es.length = m) (hmm : m ≤ 1048576) (hh : heftB (batsOf es) ≤ 1048576) (hn : ks.length = n) (hnn : n ≤ 1048576) (hbk : bulk (hnW (hnsOf ks)) ≤ 1048576) (hhi : hi ≤ w.heap.size) (ho : OwnGp w lo hi am ah es ks) :
    Calls Try.prog 23 #[gpV am m cm ah n cn, .int .i64 1] w fun e w' => ∃ (z : Int) (w1 : World), e = .returned (.int .i64 z) ∧ 0 ≤ z ∧ Below w.heap.size w w1 ∧ Only (Span lo hi) w1 w' := by
  obtain ⟨mid, hl1, hl2, hoB, hoH⟩ := ho
  have HOB := Lib.hid hoB
  have HOH := Lib.hid hoH
  have HM := Lib.hid hm
  have HN := Lib.hid hn
  have HTB : Hid (TameB es 1) := tame_small hh
  have HKB := Lib.hid (markKB_bd es 1)
  have HHE := Lib.hid hh
  have HA : Hid (Below w.heap.size w (w.alloc (.cells #[.slice am m cm, .slice ah n cn] 31))) := (Below.refl _ _).alloc (Nat.le_refl _) _
  have HX : Hid ((w.alloc (.cells #[.slice am m cm, .slice ah n cn] 31)).heap[w.heap.size]? = some (.cells #[.slice am m cm, .slice ah n cn] 31 (0, 0))) := heap_alloc_new _ _
  clear hoB hoH hm hn
  go_enter Try.func23, Try.ntmps23
  go_wp2_with fail
  refine (markRepS_any lo mid m cm am 1 es _ HM.out hmm HTB.out (HOB.out.below HA.out)).mono ?_
  rintro e w1 ⟨rfl, -, ho⟩
  have q := (ho.block w.heap.size fun e => by have := e.2; omega).trans HX.out
  have c0 := cell_of_row w1 w.heap.size 0 _ _ _ q
  have c1 := cell_of_row w1 w.heap.size 1 _ _ _ q
  simp at c0 c1
  have HO1 := Lib.hid ho
  have HH1 := Lib.hid ((HOH.out.below HA.out).only ho fun x hx => .inl hx.2)
  obtain ⟨k0, k1⟩ := HKB.out
  have k2 : markKB es 1 ≤ 1073741824 := by have := HHE.out; omega
  clear q ho
  generalize markKB es 1 = k at *
  go_wp2_with fail
  refine (markHintS_own mid hi n cn ah k ks _ HN.out hnn hbk (by omega) k2 HH1.out).mono ?_
  rintro e w2 ⟨z, rfl, z0, ho⟩
  have HO2 : Hid (Only (Span lo hi) (w.alloc (.cells #[.slice am m cm, .slice ah n cn] 31)) w2) := (HO1.out.widen fun x hx => ⟨hx.1, by have := hx.2; omega⟩).trans ho fun x hx => ⟨by have := hx.1; omega, hx.2⟩
  clear ho
  go_wp2
  go_ret
  exact ⟨z, _, rfl, z0, HA.out, HO2.out⟩

end Go.Proofs.Ytojgahcogpediaa

/- What comes in, opened: tags, dependencies, slices of them, writes. -/
namespace Go.Proofs.Ytojgahcogpediaa
open Go.ChangeShapes Go.WideShapes Go.ChangeAt Go.RowKit Go.Joins Go.Deep
set_option maxRecDepth 100000

theorem cellsInt : Try.prog.cellsOf 3 = 1 := by kernel_rfl

theorem cellsTag : Try.prog.cellsOf 72 = 3 := by kernel_rfl

theorem cellsDep : Try.prog.cellsOf 131 = 4 := by kernel_rfl

section
variable {H : Type} {enc : TypeId × Value → H} {w : World} {base : Nat} {spare : Nat → Bool} {held : Bool}

theorem tag_cells {fuel : Nat} {cs : List Value} {x : DataW H × List MemPlace} (h : DataW.trod enc Try.prog w base spare held fuel 72 cs = some x) : ∃ c s q : Int, cs = [.int .i64 c, .int .i64 s, .int .i64 q] := by
  obtain ⟨y0, y1, y2, n, _, hl, h0, h1, h2⟩ := trod_struct3 Try.underlying72 h
  rw [cellsTag] at hl
  match cs, hl with
  | [v0, v1, v2], _ =>
    obtain ⟨a0, e0, _, _⟩ := DataW.trod_int Try.underlying3 h0
    obtain ⟨a1, e1, _, _⟩ := DataW.trod_int Try.underlying3 h1
    obtain ⟨a2, e2, _, _⟩ := DataW.trod_int Try.underlying3 h2
    simp [cellsInt] at e0 e1 e2
    subst e0 e1 e2
    exact ⟨a0, a1, a2, rfl⟩

theorem dep_cells {fuel : Nat} {cs : List Value} {x : DataW H × List MemPlace} (h : DataW.trod enc Try.prog w base spare held fuel 131 cs = some x) : ∃ d : Dp, cs = [.int .i64 d.k, .int .i64 d.c, .int .i64 d.s, .int .i64 d.q] := by
  obtain ⟨y0, y1, n, _, hl, h0, h1⟩ := trod_struct2 Try.underlying131 h
  rw [cellsDep] at hl
  match cs, hl with
  | [v0, v1, v2, v3], _ =>
    obtain ⟨a0, e0, _, _⟩ := DataW.trod_int Try.underlying3 h0
    obtain ⟨c, s, q, e1⟩ := tag_cells h1
    simp [cellsInt] at e0
    simp [cellsTag] at e1
    obtain ⟨e1, e2, e3⟩ := e1
    subst e0 e1 e2 e3
    exact ⟨⟨a0, c, s, q⟩, rfl⟩

theorem add_form {a : Addr} {v : Value} (h : w.cell? a = some v) : a = ⟨a.block, a.off, none⟩ := by
  cases a with
  | mk b o s =>
    cases s with
    | none => rfl
    | some s =>
      simp only [World.cell?] at h
      split at h <;> simp at h

theorem add_plain (b o i : Nat) : (Addr.mk b o none).add i = ⟨b, o + i, none⟩ := by
  unfold Addr.add
  split
  · rename_i h
    rw [h]
    rfl
  · rfl

theorem deps_cells {fuel : Nat} {a : Option Addr} {len cap : Nat} {x : DataW H × List MemPlace} (h : DataW.trod enc Try.prog w base spare held fuel 73 [.slice a len cap] = some x) :
    ∃ xs : List Dp, xs.length = len ∧ len ≤ maxLen ∧ IsDeps w a xs := by
  rcases open_slice Try.underlying73 h with ⟨hcs, _⟩ | ⟨a', len', cap', m, n, D, Pl, hcs, _, hl, hm, hmm, _, hel⟩
  · simp at hcs
    obtain ⟨rfl, rfl, rfl⟩ := hcs
    exact ⟨[], rfl, Nat.zero_le _, .inl rfl⟩
  · simp at hcs
    obtain ⟨rfl, rfl, rfl⟩ := hcs
    have hml : len ≤ m := by rw [hmm]; split <;> omega
    have hd : ∀ i, i < len → ∃ d : Dp, w.cell? (a'.add (i * 4)) = some (.int .i64 d.k) ∧ w.cell? (a'.add (i * 4 + 1)) = some (.int .i64 d.c) ∧ w.cell? (a'.add (i * 4 + 2)) = some (.int .i64 d.s) ∧ w.cell? (a'.add (i * 4 + 3)) = some (.int .i64 d.q) := by
      intro i hi
      obtain ⟨cs', h1, h2⟩ := hel i (by omega)
      rw [cellsDep] at h1
      obtain ⟨_, _, hc⟩ := World.cells?_some h1
      obtain ⟨d, hdd⟩ := dep_cells h2
      rw [hdd] at hc
      have c0 := hc 0 (by omega)
      have c1 := hc 1 (by omega)
      have c2 := hc 2 (by omega)
      have c3 := hc 3 (by omega)
      rw [add_add] at c0 c1 c2 c3
      exact ⟨d, by simpa using c0, by simpa using c1, by simpa using c2, by simpa using c3⟩
    by_cases h0 : len = 0
    · subst h0
      exact ⟨[], rfl, Nat.zero_le _, .inl rfl⟩
    have : Inhabited Dp := ⟨dz⟩
    obtain ⟨f, hf⟩ := choose_lt hd
    have ha : a' = ⟨a'.block, a'.off, none⟩ := by
      have h1 := (hf 0 (by omega)).1
      simp [Addr.add] at h1
      exact add_form h1
    refine ⟨(List.range len).map f, by simp, by omega, .inr ⟨a'.block, a'.off, by rw [← ha], ?_, ?_⟩⟩
    · obtain ⟨cs', h1, _⟩ := hel 0 (by omega)
      rw [cellsDep] at h1
      have h2 := World.cells?_block h1 (by omega)
      simpa [Addr.add] using h2
    · intro i hi
      have hi' : i < len := by simpa using hi
      have hg : ((List.range len).map f).getD i dz = f i := by simp [List.getD, hi']
      rw [hg]
      obtain ⟨h1, h2, h3, h4⟩ := hf i hi'
      rw [ha] at h1 h2 h3 h4
      rw [add_plain] at h1 h2 h3 h4
      exact ⟨h1, h2, h3, h4⟩

theorem open_deps {b0 : Nat} {r : Reach} {v : Value} {d : DataW H} {p : List MemPlace} (hv : Value.okWide Try.prog w r b0 73 v) (h : DataW.Trod enc Try.prog w base (fun _ => true) held 73 v d p) :
    ∃ (a : Option Addr) (len cap : Nat) (xs : List Dp), v = .slice a len cap ∧ (xs.length = len ∧ len ≤ maxLen ∧ IsDeps w a xs) := by
  obtain ⟨a, len, cap, rfl⟩ := okWide_slice Try.underlying73 hv
  obtain ⟨fuel, hf⟩ := h
  obtain ⟨xs, hx⟩ := deps_cells (by simpa [Value.cells] using hf)
  exact ⟨a, len, cap, xs, rfl, hx⟩

theorem cellsBool : Try.prog.cellsOf 4 = 1 := by kernel_rfl

theorem cellsDepS : Try.prog.cellsOf 73 = 1 := by kernel_rfl

theorem cellsWrite : Try.prog.cellsOf 75 = 7 := by kernel_rfl

theorem slice_cells {fuel : Nat} {v : Value} {x : DataW H × List MemPlace} (h : DataW.trod enc Try.prog w base spare held fuel 73 [v] = some x) : ∃ a len cap, v = .slice a len cap := by
  rcases open_slice Try.underlying73 h with ⟨hcs, _⟩ | ⟨a', len', cap', m, n, D, Pl, hcs, _⟩
  · simp at hcs
    exact ⟨_, _, _, hcs⟩
  · simp at hcs
    exact ⟨_, _, _, hcs⟩

theorem open_write {b0 : Nat} {r : Reach} {v : Value} {d : DataW H} {p : List MemPlace} (hv : Value.okWide Try.prog w r b0 75 v) (h : DataW.Trod enc Try.prog w base (fun _ => true) held 75 v d p) :
    ∃ (k c s q va : Int) (de : Bool) (a : Option Addr) (len cap : Nat) (xs : List Dp), v = .agg #[.int .i64 k, .int .i64 c, .int .i64 s, .int .i64 q, .int .i64 va, .bool de, .slice a len cap] ∧ (xs.length = len ∧ len ≤ maxLen ∧ IsDeps w a xs) := by
  obtain ⟨cs, rfl, hsz⟩ := okWide_struct Try.underlying75 hv
  rw [cellsWrite] at hsz
  obtain ⟨fuel, hf⟩ := h
  obtain ⟨xs', n, _, _, _, hlen, hfd⟩ := DataW.trod_struct Try.underlying75 hf
  cases cs with
  | mk l =>
    have hl : l.length = 7 := by simpa using hsz
    match l, hl, xs', hlen with
    | [v0, v1, v2, v3, v4, v5, v6], _, [y0, y1, y2, y3, y4], _ =>
      have g0 := hfd 0 _ rfl
      have g1 := hfd 1 _ rfl
      have g2 := hfd 2 _ rfl
      have g3 := hfd 3 _ rfl
      have g4 := hfd 4 _ rfl
      simp [Value.cells, cellsInt, cellsTag, cellsBool, cellsDepS] at g0 g1 g2 g3 g4
      obtain ⟨k, e0, _, _⟩ := DataW.trod_int Try.underlying3 g0
      obtain ⟨c, s, q, e1⟩ := tag_cells g1
      obtain ⟨va, e2, _, _⟩ := DataW.trod_int Try.underlying3 g2
      obtain ⟨de, e3, _⟩ := DataW.trod_bool Try.underlying4 g3
      obtain ⟨a, len, cap, e4⟩ := slice_cells g4
      simp at e0 e1 e2 e3
      obtain ⟨e1, e1', e1''⟩ := e1
      subst e0 e1 e1' e1'' e2 e3 e4
      obtain ⟨xs, hx⟩ := deps_cells g4
      exact ⟨k, c, s, q, va, de, a, len, cap, xs, rfl, hx⟩

end
end Go.Proofs.Ytojgahcogpediaa

/- What comes in, opened: slices of writes. -/
namespace Go.Proofs.Ytojgahcogpediaa
open Go.ChangeShapes Go.WideShapes Go.ChangeAt Go.RowKit Go.Joins Go.Deep
set_option maxRecDepth 100000

section
variable {H : Type} {enc : TypeId × Value → H} {w : World} {base : Nat} {spare : Nat → Bool} {held : Bool}

theorem write_cells {fuel : Nat} {cs : List Value} {x : DataW H × List MemPlace} (h : DataW.trod enc Try.prog w base spare held fuel 75 cs = some x) :
    ∃ (y : Wr) (a : Option Addr) (cap : Nat), cs = [.int .i64 y.k, .int .i64 y.c, .int .i64 y.s, .int .i64 y.q, .int .i64 y.v, .bool y.de, .slice a y.xs.length cap] ∧ y.xs.length ≤ maxLen ∧ IsDeps w a y.xs := by
  obtain ⟨xs', n, hl0, _, _, hlen, hfd⟩ := DataW.trod_struct Try.underlying75 h
  have hl : cs.length = 7 := by rw [cellsWrite] at *; assumption
  match cs, hl, xs', hlen with
  | [v0, v1, v2, v3, v4, v5, v6], _, [y0, y1, y2, y3, y4], _ =>
    have g0 := hfd 0 _ rfl
    have g1 := hfd 1 _ rfl
    have g2 := hfd 2 _ rfl
    have g3 := hfd 3 _ rfl
    have g4 := hfd 4 _ rfl
    simp [cellsInt, cellsTag, cellsBool, cellsDepS] at g0 g1 g2 g3 g4
    obtain ⟨k, e0, _, _⟩ := DataW.trod_int Try.underlying3 g0
    obtain ⟨c, s, q, e1⟩ := tag_cells g1
    obtain ⟨va, e2, _, _⟩ := DataW.trod_int Try.underlying3 g2
    obtain ⟨de, e3, _⟩ := DataW.trod_bool Try.underlying4 g3
    obtain ⟨a, len, cap, e4⟩ := slice_cells g4
    simp at e0 e1 e2 e3
    obtain ⟨e1, e1', e1''⟩ := e1
    subst e0 e1 e1' e1'' e2 e3 e4
    obtain ⟨xs, hx1, hx2, hx3⟩ := deps_cells g4
    subst hx1
    exact ⟨⟨k, c, s, q, va, de, xs⟩, a, cap, rfl, hx2, hx3⟩

theorem ws_cells {fuel : Nat} {a : Option Addr} {len cap : Nat} {x : DataW H × List MemPlace} (h : DataW.trod enc Try.prog w base spare held fuel 35 [.slice a len cap] = some x) :
    ∃ ws : List Wr, ws.length = len ∧ len ≤ maxLen ∧ IsWs w a ws := by
  rcases open_slice Try.underlying35 h with ⟨hcs, _⟩ | ⟨a', len', cap', m, n, D, Pl, hcs, _, hl, hm, hmm, _, hel⟩
  · simp at hcs
    obtain ⟨rfl, rfl, rfl⟩ := hcs
    exact ⟨[], rfl, Nat.zero_le _, .inl rfl⟩
  · simp at hcs
    obtain ⟨rfl, rfl, rfl⟩ := hcs
    have hml : len ≤ m := by rw [hmm]; split <;> omega
    have hd : ∀ i, i < len → ∃ y : Wr, ∃ (ad : Option Addr) (cp : Nat), w.cell? (a'.add (i * 7)) = some (.int .i64 y.k) ∧ w.cell? (a'.add (i * 7 + 1)) = some (.int .i64 y.c) ∧ w.cell? (a'.add (i * 7 + 2)) = some (.int .i64 y.s) ∧ w.cell? (a'.add (i * 7 + 3)) = some (.int .i64 y.q) ∧ w.cell? (a'.add (i * 7 + 4)) = some (.int .i64 y.v) ∧ w.cell? (a'.add (i * 7 + 5)) = some (.bool y.de) ∧ w.cell? (a'.add (i * 7 + 6)) = some (.slice ad y.xs.length cp) ∧ y.xs.length ≤ maxLen ∧ IsDeps w ad y.xs := by
      intro i hi
      obtain ⟨cs', h1, h2⟩ := hel i (by omega)
      rw [cellsWrite] at h1
      obtain ⟨_, _, hc⟩ := World.cells?_some h1
      obtain ⟨y, ad, cp, hdd, hy1, hy2⟩ := write_cells h2
      rw [hdd] at hc
      have c0 := hc 0 (by omega)
      have c1 := hc 1 (by omega)
      have c2 := hc 2 (by omega)
      have c3 := hc 3 (by omega)
      have c4 := hc 4 (by omega)
      have c5 := hc 5 (by omega)
      have c6 := hc 6 (by omega)
      rw [add_add] at c0 c1 c2 c3 c4 c5 c6
      exact ⟨y, ad, cp, by simpa using c0, by simpa using c1, by simpa using c2, by simpa using c3, by simpa using c4, by simpa using c5, by simpa using c6, hy1, hy2⟩
    by_cases h0 : len = 0
    · subst h0
      exact ⟨[], rfl, Nat.zero_le _, .inl rfl⟩
    have : Inhabited Wr := ⟨wz⟩
    obtain ⟨f, hf⟩ := choose_lt hd
    have ha : a' = ⟨a'.block, a'.off, none⟩ := by
      obtain ⟨_, _, h1, _⟩ := hf 0 (by omega)
      simp [Addr.add] at h1
      exact add_form h1
    refine ⟨(List.range len).map f, by simp, by omega, .inr ⟨a'.block, a'.off, by rw [← ha], ?_, ?_⟩⟩
    · obtain ⟨cs', h1, _⟩ := hel 0 (by omega)
      rw [cellsWrite] at h1
      have h2 := World.cells?_block h1 (by omega)
      simpa [Addr.add] using h2
    · intro i hi
      have hi' : i < len := by simpa using hi
      have hg : ((List.range len).map f).getD i wz = f i := by simp [List.getD, hi']
      rw [hg]
      obtain ⟨ad, cp, h1, h2, h3, h4, h5, h6, h7, h8, h9⟩ := hf i hi'
      rw [ha] at h1 h2 h3 h4 h5 h6 h7
      rw [add_plain] at h1 h2 h3 h4 h5 h6 h7
      exact ⟨ad, cp, ⟨h1, h2, h3, h4, h5, h6, h7⟩, h8, h9⟩

theorem open_ws {b0 : Nat} {r : Reach} {v : Value} {d : DataW H} {p : List MemPlace} (hv : Value.okWide Try.prog w r b0 35 v) (h : DataW.Trod enc Try.prog w base (fun _ => true) held 35 v d p) :
    ∃ (a : Option Addr) (len cap : Nat) (ws : List Wr), v = .slice a len cap ∧ (ws.length = len ∧ len ≤ maxLen ∧ IsWs w a ws) := by
  obtain ⟨a, len, cap, rfl⟩ := okWide_slice Try.underlying35 hv
  obtain ⟨fuel, hf⟩ := h
  obtain ⟨ws, hx⟩ := ws_cells (by simpa [Value.cells] using hf)
  exact ⟨a, len, cap, ws, rfl, hx⟩

end
end Go.Proofs.Ytojgahcogpediaa

/- What comes in, opened: slices of batches. -/
namespace Go.Proofs.Ytojgahcogpediaa
open Go.ChangeShapes Go.WideShapes Go.ChangeAt Go.RowKit Go.Joins Go.Deep
set_option maxRecDepth 100000

theorem cellsWriteS : Try.prog.cellsOf 35 = 1 := by kernel_rfl

section
variable {H : Type} {enc : TypeId × Value → H} {w : World} {base : Nat} {spare : Nat → Bool} {held : Bool}

theorem sliceW_cells {fuel : Nat} {cs : List Value} {x : DataW H × List MemPlace} (h : DataW.trod enc Try.prog w base spare held fuel 35 cs = some x) : ∃ (a : Option Addr) (len cap : Nat), cs = [.slice a len cap] := by
  rcases open_slice Try.underlying35 h with ⟨hcs, _⟩ | ⟨a', len', cap', m, n, D, Pl, hcs, _⟩
  · exact ⟨none, 0, 0, hcs⟩
  · exact ⟨_, _, _, hcs⟩

end
end Go.Proofs.Ytojgahcogpediaa

/- What comes in, opened: slices of maps. -/
namespace Go.Proofs.Ytojgahcogpediaa
open Go.ChangeShapes Go.WideShapes Go.ChangeAt Go.RowKit Go.Joins Go.Deep
set_option maxRecDepth 100000

section
variable {H : Type} {enc : TypeId × Value → H} {w : World} {base : Nat} {spare : Nat → Bool} {held : Bool}

theorem cellsRep : Try.prog.cellsOf 104 = 1 := by kernel_rfl

theorem rep_cells {fuel : Nat} {cs : List Value} {x : DataW H × List MemPlace} (h : DataW.trod enc Try.prog w base spare held fuel 104 cs = some x) :
    ∃ (ws : List Wr) (a : Option Addr) (cap : Nat), cs = [.slice a ws.length cap] ∧ ws.length ≤ maxLen ∧ IsWs w a ws := by
  obtain ⟨xs', n, hl0, _, _, hlen, hfd⟩ := DataW.trod_struct Try.underlying104 h
  have hl : cs.length = 1 := by rw [cellsRep] at *; assumption
  match cs, hl, xs', hlen with
  | [v0], _, [y0], _ =>
    have g0 := hfd 0 _ rfl
    simp [cellsWriteS] at g0
    obtain ⟨a, len, cap, e0⟩ := sliceW_cells g0
    simp at e0
    subst e0
    obtain ⟨ws, hx1, hx2, hx3⟩ := ws_cells g0
    subst hx1
    exact ⟨ws, a, cap, rfl, hx2, hx3⟩

theorem rs_cells {fuel : Nat} {a : Option Addr} {len cap : Nat} {x : DataW H × List MemPlace} (h : DataW.trod enc Try.prog w base spare held fuel 22 [.slice a len cap] = some x) :
    ∃ bs : List (List Wr), bs.length = len ∧ len ≤ maxLen ∧ (∀ i, i < bs.length → (bs.getD i []).length ≤ maxLen) ∧ IsBs w a bs := by
  rcases open_slice Try.underlying22 h with ⟨hcs, _⟩ | ⟨a', len', cap', m, n, D, Pl, hcs, _, hl, hm, hmm, _, hel⟩
  · simp at hcs
    obtain ⟨rfl, rfl, rfl⟩ := hcs
    exact ⟨[], rfl, Nat.zero_le _, fun i hi => by simp at hi, .inl rfl⟩
  · simp at hcs
    obtain ⟨rfl, rfl, rfl⟩ := hcs
    have hml : len ≤ m := by rw [hmm]; split <;> omega
    have hd : ∀ i, i < len → ∃ y : List Wr, ∃ (ad : Option Addr) (cp : Nat), w.cell? (a'.add i) = some (.slice ad y.length cp) ∧ y.length ≤ maxLen ∧ IsWs w ad y := by
      intro i hi
      obtain ⟨cs', h1, h2⟩ := hel i (by omega)
      rw [cellsRep] at h1
      obtain ⟨_, _, hc⟩ := World.cells?_some h1
      obtain ⟨y, ad, cp, hdd, hy1, hy2⟩ := rep_cells h2
      rw [hdd] at hc
      have c0 := hc 0 (by omega)
      rw [add_add] at c0
      exact ⟨y, ad, cp, by simpa using c0, hy1, hy2⟩
    by_cases h0 : len = 0
    · subst h0
      exact ⟨[], rfl, Nat.zero_le _, fun i hi => by simp at hi, .inl rfl⟩
    have : Inhabited (List Wr) := ⟨[]⟩
    obtain ⟨f, hf⟩ := choose_lt hd
    have ha : a' = ⟨a'.block, a'.off, none⟩ := by
      obtain ⟨_, _, h1, _⟩ := hf 0 (by omega)
      simp [Addr.add] at h1
      exact add_form h1
    have hg : ∀ i, i < len → ((List.range len).map f).getD i [] = f i := fun i hi => by simp [List.getD, hi]
    refine ⟨(List.range len).map f, by simp, by omega, fun i hi => ?_, .inr ⟨a'.block, a'.off, by rw [← ha], ?_, ?_⟩⟩
    · have hi' : i < len := by simpa using hi
      rw [hg i hi']
      obtain ⟨ad, cp, _, h2, _⟩ := hf i hi'
      exact h2
    · obtain ⟨cs', h1, _⟩ := hel 0 (by omega)
      rw [cellsRep] at h1
      have h2 := World.cells?_block h1 (by omega)
      simpa [Addr.add] using h2
    · intro i hi
      have hi' : i < len := by simpa using hi
      rw [hg i hi']
      obtain ⟨ad, cp, h1, h2, h3⟩ := hf i hi'
      rw [ha] at h1
      rw [add_plain] at h1
      exact ⟨ad, cp, h1, h3⟩

theorem open_rs {b0 : Nat} {r : Reach} {v : Value} {d : DataW H} {p : List MemPlace} (hv : Value.okWide Try.prog w r b0 22 v) (h : DataW.Trod enc Try.prog w base (fun _ => true) held 22 v d p) :
    ∃ (a : Option Addr) (len cap : Nat) (bs : List (List Wr)), v = .slice a len cap ∧ (bs.length = len ∧ len ≤ maxLen ∧ (∀ i, i < bs.length → (bs.getD i []).length ≤ maxLen) ∧ IsBs w a bs) := by
  obtain ⟨a, len, cap, rfl⟩ := okWide_slice Try.underlying22 hv
  obtain ⟨fuel, hf⟩ := h
  obtain ⟨bs, hx⟩ := rs_cells (by simpa [Value.cells] using hf)
  exact ⟨a, len, cap, bs, rfl, hx⟩

end

end Go.Proofs.Ytojgahcogpediaa

/- What comes in, opened: slices of hints, groups. -/
namespace Go.Proofs.Ytojgahcogpediaa
open Go.ChangeShapes Go.WideShapes Go.ChangeAt Go.RowKit Go.Joins Go.Deep
set_option maxRecDepth 100000

theorem cellsHint : Try.prog.cellsOf 107 = 8 := by kernel_rfl

theorem cellsHintS : Try.prog.cellsOf 23 = 1 := by kernel_rfl

theorem cellsRepS : Try.prog.cellsOf 22 = 1 := by kernel_rfl

theorem cellsGroup : Try.prog.cellsOf 25 = 2 := by kernel_rfl

section
variable {H : Type} {enc : TypeId × Value → H} {w : World} {base : Nat} {spare : Nat → Bool} {held : Bool}

theorem wr_cells {fuel : Nat} {cs : List Value} {x : DataW H × List MemPlace} (h : DataW.trod enc Try.prog w base spare held fuel 75 cs = some x) :
    ∃ (y : Wr) (a : Option Addr) (cap : Nat), cs = [.int .i64 y.k, .int .i64 y.c, .int .i64 y.s, .int .i64 y.q, .int .i64 y.v, .bool y.de, .slice a y.xs.length cap] ∧ y.xs.length ≤ maxLen ∧ IsDeps w a y.xs := by
  obtain ⟨xs', n, hl0, _, _, hlen, hfd⟩ := DataW.trod_struct Try.underlying75 h
  have hl : cs.length = 7 := by rw [cellsWrite] at *; assumption
  match cs, hl, xs', hlen with
  | [v0, v1, v2, v3, v4, v5, v6], _, [y0, y1, y2, y3, y4], _ =>
    have g0 := hfd 0 _ rfl
    have g1 := hfd 1 _ rfl
    have g2 := hfd 2 _ rfl
    have g3 := hfd 3 _ rfl
    have g4 := hfd 4 _ rfl
    simp [cellsInt, cellsTag, cellsBool, cellsDepS] at g0 g1 g2 g3 g4
    obtain ⟨k, e0, _, _⟩ := DataW.trod_int Try.underlying3 g0
    obtain ⟨c, s, q, e1⟩ := tag_cells g1
    obtain ⟨va, e2, _, _⟩ := DataW.trod_int Try.underlying3 g2
    obtain ⟨de, e3, _⟩ := DataW.trod_bool Try.underlying4 g3
    obtain ⟨a, len, cap, e4⟩ := slice_cells g4
    simp at e0 e1 e2 e3
    obtain ⟨e1, e1', e1''⟩ := e1
    subst e0 e1 e1' e1'' e2 e3 e4
    obtain ⟨xs, hx1, hx2, hx3⟩ := deps_cells g4
    subst hx1
    exact ⟨⟨k, c, s, q, va, de, xs⟩, a, cap, rfl, hx2, hx3⟩

theorem hint_cells {fuel : Nat} {cs : List Value} {x : DataW H × List MemPlace} (h : DataW.trod enc Try.prog w base spare held fuel 107 cs = some x) :
    ∃ (y : Hn) (a : Option Addr) (cap : Nat), cs = [.int .i64 y.f, .int .i64 y.x.k, .int .i64 y.x.c, .int .i64 y.x.s, .int .i64 y.x.q, .int .i64 y.x.v, .bool y.x.de, .slice a y.x.xs.length cap] ∧ y.x.xs.length ≤ maxLen ∧ IsDeps w a y.x.xs := by
  obtain ⟨xs', n, hl0, _, _, hlen, hfd⟩ := DataW.trod_struct Try.underlying107 h
  have hl : cs.length = 8 := by rw [cellsHint] at *; assumption
  match cs, hl, xs', hlen with
  | [v0, v1, v2, v3, v4, v5, v6, v7], _, [y0, y1], _ =>
    have g0 := hfd 0 _ rfl
    have g1 := hfd 1 _ rfl
    simp [cellsInt, cellsWrite] at g0 g1
    obtain ⟨f, e0, _, _⟩ := DataW.trod_int Try.underlying3 g0
    obtain ⟨y, a, cap, e1, h1, h2⟩ := wr_cells g1
    simp at e0 e1
    obtain ⟨e1, e2, e3, e4, e5, e6, e7⟩ := e1
    subst e0 e1 e2 e3 e4 e5 e6 e7
    exact ⟨⟨f, y⟩, a, cap, rfl, h1, h2⟩

theorem hs_cells {fuel : Nat} {a : Option Addr} {len cap : Nat} {x : DataW H × List MemPlace} (h : DataW.trod enc Try.prog w base spare held fuel 23 [.slice a len cap] = some x) :
    ∃ hs : List Hn, hs.length = len ∧ len ≤ maxLen ∧ IsHs w a hs := by
  rcases open_slice Try.underlying23 h with ⟨hcs, _⟩ | ⟨a', len', cap', m, n, D, Pl, hcs, _, hl, hm, hmm, _, hel⟩
  · simp at hcs
    obtain ⟨rfl, rfl, rfl⟩ := hcs
    exact ⟨[], rfl, Nat.zero_le _, .inl rfl⟩
  · simp at hcs
    obtain ⟨rfl, rfl, rfl⟩ := hcs
    have hml : len ≤ m := by rw [hmm]; split <;> omega
    have hd : ∀ i, i < len → ∃ y : Hn, ∃ (ad : Option Addr) (cp : Nat), (w.cell? (a'.add (i * 8)) = some (.int .i64 y.f) ∧ w.cell? (a'.add (i * 8 + 1)) = some (.int .i64 y.x.k) ∧ w.cell? (a'.add (i * 8 + 2)) = some (.int .i64 y.x.c) ∧ w.cell? (a'.add (i * 8 + 3)) = some (.int .i64 y.x.s) ∧ w.cell? (a'.add (i * 8 + 4)) = some (.int .i64 y.x.q) ∧ w.cell? (a'.add (i * 8 + 5)) = some (.int .i64 y.x.v) ∧ w.cell? (a'.add (i * 8 + 6)) = some (.bool y.x.de) ∧ w.cell? (a'.add (i * 8 + 7)) = some (.slice ad y.x.xs.length cp)) ∧ y.x.xs.length ≤ maxLen ∧ IsDeps w ad y.x.xs := by
      intro i hi
      obtain ⟨cs', h1, h2⟩ := hel i (by omega)
      rw [cellsHint] at h1
      obtain ⟨_, _, hc⟩ := World.cells?_some h1
      obtain ⟨y, ad, cp, hdd, hy1, hy2⟩ := hint_cells h2
      rw [hdd] at hc
      have c0 := hc 0 (by omega)
      have c1 := hc 1 (by omega)
      have c2 := hc 2 (by omega)
      have c3 := hc 3 (by omega)
      have c4 := hc 4 (by omega)
      have c5 := hc 5 (by omega)
      have c6 := hc 6 (by omega)
      have c7 := hc 7 (by omega)
      rw [add_add] at c0 c1 c2 c3 c4 c5 c6 c7
      exact ⟨y, ad, cp, ⟨by simpa using c0, by simpa using c1, by simpa using c2, by simpa using c3, by simpa using c4, by simpa using c5, by simpa using c6, by simpa using c7⟩, hy1, hy2⟩
    by_cases h0 : len = 0
    · subst h0
      exact ⟨[], rfl, Nat.zero_le _, .inl rfl⟩
    have : Inhabited Hn := ⟨hnz⟩
    obtain ⟨f, hf⟩ := choose_lt hd
    have ha : a' = ⟨a'.block, a'.off, none⟩ := by
      obtain ⟨_, _, ⟨h1, _⟩, _⟩ := hf 0 (by omega)
      simp [Addr.add] at h1
      exact add_form h1
    have hg : ∀ i, i < len → ((List.range len).map f).getD i hnz = f i := fun i hi => by simp [List.getD, hi]
    refine ⟨(List.range len).map f, by simp, by omega, .inr ⟨a'.block, a'.off, by rw [← ha], ?_, ?_⟩⟩
    · obtain ⟨cs', h1, _⟩ := hel 0 (by omega)
      rw [cellsHint] at h1
      have h2 := World.cells?_block h1 (by omega)
      simpa [Addr.add] using h2
    · intro i hi
      have hi' : i < len := by simpa using hi
      rw [hg i hi']
      obtain ⟨ad, cp, ⟨c0, c1, c2, c3, c4, c5, c6, c7⟩, h2, h3⟩ := hf i hi'
      rw [ha] at c0 c1 c2 c3 c4 c5 c6 c7
      rw [add_plain] at c0 c1 c2 c3 c4 c5 c6 c7
      exact ⟨ad, cp, ⟨c0, by rw [Nat.add_assoc]; exact c1, by rw [Nat.add_assoc]; exact c2, by rw [Nat.add_assoc]; exact c3, by rw [Nat.add_assoc]; exact c4, by rw [Nat.add_assoc]; exact c5, by rw [Nat.add_assoc]; exact c6, by rw [Nat.add_assoc]; exact c7⟩, h2, h3⟩

theorem sliceH_cells {fuel : Nat} {cs : List Value} {x : DataW H × List MemPlace} (h : DataW.trod enc Try.prog w base spare held fuel 23 cs = some x) : ∃ (a : Option Addr) (len cap : Nat), cs = [.slice a len cap] := by
  rcases open_slice Try.underlying23 h with ⟨hcs, _⟩ | ⟨a', len', cap', m, n, D, Pl, hcs, _⟩
  · exact ⟨none, 0, 0, hcs⟩
  · exact ⟨_, _, _, hcs⟩

theorem sliceR_cells {fuel : Nat} {cs : List Value} {x : DataW H × List MemPlace} (h : DataW.trod enc Try.prog w base spare held fuel 22 cs = some x) : ∃ (a : Option Addr) (len cap : Nat), cs = [.slice a len cap] := by
  rcases open_slice Try.underlying22 h with ⟨hcs, _⟩ | ⟨a', len', cap', m, n, D, Pl, hcs, _⟩
  · exact ⟨none, 0, 0, hcs⟩
  · exact ⟨_, _, _, hcs⟩

/-- What is known of a group that came in. -/
def GroupIn (w : World) (am : Option Addr) (m : Nat) (ah : Option Addr) (n : Nat) (bs : List (List Wr)) (hs : List Hn) : Prop :=
  (bs.length = m ∧ m ≤ maxLen ∧ (∀ i, i < bs.length → (bs.getD i []).length ≤ maxLen) ∧ IsBs w am bs) ∧ (hs.length = n ∧ n ≤ maxLen ∧ IsHs w ah hs)

theorem open_group {b0 : Nat} {r : Reach} {v : Value} {d : DataW H} {p : List MemPlace} (hv : Value.okWide Try.prog w r b0 25 v) (h : DataW.Trod enc Try.prog w base (fun _ => true) held 25 v d p) :
    ∃ (am : Option Addr) (m cm : Nat) (ah : Option Addr) (n cn : Nat) (bs : List (List Wr)) (hs : List Hn), v = .agg #[.slice am m cm, .slice ah n cn] ∧ GroupIn w am m ah n bs hs := by
  obtain ⟨cs, rfl, hsz⟩ := okWide_struct Try.underlying25 hv
  rw [cellsGroup] at hsz
  obtain ⟨fuel, hf⟩ := h
  obtain ⟨xs', n, _, _, _, hlen, hfd⟩ := DataW.trod_struct Try.underlying25 hf
  cases cs with
  | mk l =>
    have hl : l.length = 2 := by simpa using hsz
    match l, hl, xs', hlen with
    | [v0, v1], _, [y0, y1], _ =>
      have g0 := hfd 0 _ rfl
      have g1 := hfd 1 _ rfl
      simp [Value.cells, cellsRepS, cellsHintS] at g0 g1
      obtain ⟨am, m, cm, e0⟩ := sliceR_cells g0
      obtain ⟨ah, n, cn, e1⟩ := sliceH_cells g1
      simp at e0 e1
      subst e0 e1
      obtain ⟨bs, hb⟩ := rs_cells g0
      obtain ⟨hs, hh⟩ := hs_cells g1
      exact ⟨am, m, cm, ah, n, cn, bs, hs, rfl, hb, hh⟩

end
end Go.Proofs.Ytojgahcogpediaa
