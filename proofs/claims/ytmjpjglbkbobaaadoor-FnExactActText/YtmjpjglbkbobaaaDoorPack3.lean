import Derived.Test.YtmjpjglbkbobaaaDoorPack2
import Derived.LaidLaws
/- An act's text, on both sides. -/
namespace Go.Proofs.YtmjpjglbkbobaaaDoor
open Go.ChangeShapes Go.WideShapes Go.ChangeAt Go.RowKit Go.Joins

def actV (x0 x1 x2 x3 x4 x5 : Int) : Value := .agg #[.int .i64 x0, .int .i64 x1, .int .i64 x2, .int .i64 x3, .int .i64 x4, .int .i64 x5]

/-- An act in a block. -/
def ActIn (b : Nat) (x0 x1 x2 x3 x4 x5 : Int) (w : World) : Prop := b < w.heap.size ∧ w.cell? ⟨b, 0, none⟩ = some (.int .i64 x0) ∧ w.cell? ⟨b, 1, none⟩ = some (.int .i64 x1) ∧ w.cell? ⟨b, 2, none⟩ = some (.int .i64 x2) ∧ w.cell? ⟨b, 3, none⟩ = some (.int .i64 x3) ∧ w.cell? ⟨b, 4, none⟩ = some (.int .i64 x4) ∧ w.cell? ⟨b, 5, none⟩ = some (.int .i64 x5)

theorem ActIn.step {b : Nat} {x0 x1 x2 x3 x4 x5 : Int} {w w' : World} (h : ActIn b x0 x1 x2 x3 x4 x5 w) (hb : Below w.heap.size w w') : ActIn b x0 x1 x2 x3 x4 x5 w' := by
  obtain ⟨hz, e0, e1, e2, e3, e4, e5⟩ := h
  exact ⟨Nat.lt_of_lt_of_le hz hb.size, held_cell hb e0 hz, held_cell hb e1 hz, held_cell hb e2 hz, held_cell hb e3 hz, held_cell hb e4 hz, held_cell hb e5 hz⟩

theorem ActIn.new (x0 x1 x2 x3 x4 x5 : Int) (w : World) (t : Nat) : ActIn w.heap.size x0 x1 x2 x3 x4 x5 (w.alloc (.cells #[.int .i64 x0, .int .i64 x1, .int .i64 x2, .int .i64 x3, .int .i64 x4, .int .i64 x5] t)) := by
  have h := heap_alloc_new w (.cells #[.int .i64 x0, .int .i64 x1, .int .i64 x2, .int .i64 x3, .int .i64 x4, .int .i64 x5] t)
  refine ⟨by simp, ?_, ?_, ?_, ?_, ?_, ?_⟩ <;> (rw [cell_of_row _ _ _ _ t (0, 0) h]; rfl)

def actText (x0 x1 x2 x3 x4 x5 : Int) : List UInt8 := Lib.itoa x0 ++ numsText [x1, x2, x3, x4, x5]

def B6 (x : Int) : Prop := -9223372036854775808 ≤ x ∧ x ≤ 9223372036854775807

theorem ints5 {a b c d e : Int} (ha : B6 a) (hb : B6 b) (hc : B6 c) (hd : B6 d) (he : B6 e) : Ints64 [a, b, c, d, e] := by
  intro i hi
  match i, hi with
  | 0, _ => exact ha
  | 1, _ => exact hb
  | 2, _ => exact hc
  | 3, _ => exact hd
  | 4, _ => exact he

set_option maxRecDepth 100000 in
set_option maxHeartbeats 4000000 in
theorem specAct_any (x0 x1 x2 x3 x4 x5 : Int) (w : World) (b0 : B6 x0) (b1 : B6 x1) (b2 : B6 x2) (b3 : B6 x3) (b4 : B6 x4) (b5 : B6 x5) :
    Calls Tryd.prog 4 #[actV x0 x1 x2 x3 x4 x5] w fun e w' => e = .returned (.string (str (actText x0 x1 x2 x3 x4 x5))) ∧ Below w.heap.size w w' := by
  unfold actV
  obtain ⟨t0, HT0⟩ : ∃ t, Hid (t = str (Lib.itoa x0)) := ⟨_, Lib.hid rfl⟩
  obtain ⟨t1, HT1⟩ : ∃ t, Hid (t = str (numsText [x1, x2, x3, x4, x5])) := ⟨_, Lib.hid rfl⟩
  have i5 : Ints64 [x1, x2, x3, x4, x5] := ints5 b1 b2 b3 b4 b5
  have z0 : t0.size ≤ 21 := by rw [HT0.out, str_size]; exact Lib.itoa_length_le _ b0.1 b0.2
  have z1 : t1.size ≤ 110 := by rw [HT1.out]; exact nums_size _ i5
  go_enter Tryd.func4, Tryd.ntmps4
  go_wp2_with fail
  have HA : Hid (ActIn w.heap.size x0 x1 x2 x3 x4 x5 (w.alloc (.cells #[.int .i64 x0, .int .i64 x1, .int .i64 x2, .int .i64 x3, .int .i64 x4, .int .i64 x5] 25))) := ActIn.new x0 x1 x2 x3 x4 x5 w _
  have HB : Hid (Below w.heap.size w (w.alloc (.cells #[.int .i64 x0, .int .i64 x1, .int .i64 x2, .int .i64 x3, .int .i64 x4, .int .i64 x5] 25))) := (Below.refl _ _).alloc (Nat.le_refl _) _
  generalize w.alloc (.cells #[.int .i64 x0, .int .i64 x1, .int .i64 x2, .int .i64 x3, .int .i64 x4, .int .i64 x5] 25) = wd at HA HB ⊢
  refine wp_region_slots 17 [[(1, false)], [(3, true)], [(4, true)], [(1, false)], [(6, true)], [(1, false)], [(8, true)], [(1, false)], [(10, true)], [(1, false)], [(12, true)], [(1, false)], [(14, true)], [(7, true), (9, true), (11, true), (13, true), (15, true)], [(16, true)], [(5, true), (17, true)], [(18, true)]] (fun w' => Below w.heap.size w w' ∧ ActIn w.heap.size x0 x1 x2 x3 x4 x5 w') (fun w w' => Below w.heap.size w w') (by kernel_rfl) (by kernel_rfl) (by rfl) ⟨HB.out.drew, HA.out.step (Below.refl _ _).drew⟩ (fun _ _ h hb => ⟨below_step h.1 h.1.size hb, h.2.step hb⟩) ?_
  iterate 2 (apply slot_eq; · (intro ρ w' ⟨p1, p2, p3⟩ ⟨hbl, hz, e0, e1, e2, e3, e4, e5⟩ hn; simp at hn; go_simp; exact ⟨Below.refl _ _, rfl⟩))
  apply slot_eq
  · intro ρ w' ⟨p1, p2, p3⟩ ⟨hbl, hz, e0, e1, e2, e3, e4, e5⟩ hn; simp at hn; go_simp
    exact got_call (specNum' x0 _ b0) fun e w'' ⟨he, hb⟩ => ⟨_, he, hb, by rw [← HT0.out]⟩
  iterate 10 (apply slot_eq; · (intro ρ w' ⟨p1, p2, p3⟩ ⟨hbl, hz, e0, e1, e2, e3, e4, e5⟩ hn; simp at hn; go_simp; exact ⟨Below.refl _ _, rfl⟩))
  refine slot_fact (IntsFact [x1, x2, x3, x4, x5]) (lasts_ints _) ?_ ?_
  · intro ρ w' ⟨p1, p2, p3⟩ ⟨hbl, hz, e0, e1, e2, e3, e4, e5⟩ hn; simp at hn; go_simp
    exact ⟨(Below.refl _ _).alloc (Nat.le_refl _) _, ints_new [x1, x2, x3, x4, x5]⟩
  apply slot_eq
  · intro ρ w' ⟨p1, p2, p3⟩ ⟨hbl, hz, e0, e1, e2, e3, e4, e5⟩ hn; simp at hn; go_simp
    exact got_call (nums_fact hn (by simp) i5) fun e w'' ⟨he, hb⟩ => ⟨_, he, hb, by rw [← HT1.out]⟩
  apply slot_eq
  · intro ρ w' ⟨p1, p2, p3⟩ ⟨hbl, hz, e0, e1, e2, e3, e4, e5⟩ hn; simp at hn; go_simp
    rw [if_neg (by omega)]
    exact ⟨Below.refl _ _, rfl⟩
  iterate 1 (apply slot_eq; · (intro ρ w' ⟨p1, p2, p3⟩ ⟨hbl, hz, e0, e1, e2, e3, e4, e5⟩ hn; simp at hn; go_simp; exact ⟨Below.refl _ _, rfl⟩))
  refine slot_end ?_
  intro vs w2 hS hF
  have HX2 : Hid (Below w.heap.size w w2) := hS.1
  simp at hF
  obtain ⟨h3, -⟩ := hF
  have HE : Hid (t0 ++ t1 = str (actText x0 x1 x2 x3 x4 x5)) := by
    rw [HT0.out, HT1.out, str_add]
    exact Lib.hid rfl
  clear hS HT0 HT1 z0 z1
  simp only [List.take_succ_cons, List.take_zero, List.drop_succ_cons, List.drop_zero, putAll, h3]
  clear h3
  simp only [Act.put, List.setIfInBounds_toArray, List.set_cons_succ, List.set_cons_zero]
  go_wp2
  go_ret
  rw [HE.out]
  exact ⟨rfl, HX2.out⟩

def actWords (x0 x1 x2 x3 x4 x5 : Int) : List ByteArray := [str (Lib.itoa x0), str (Lib.itoa x1), str (Lib.itoa x2), str (Lib.itoa x3), str (Lib.itoa x4), str (Lib.itoa x5)]

theorem join_act (x0 x1 x2 x3 x4 x5 : Int) : Lib.join ((actWords x0 x1 x2 x3 x4 x5).map (·.data.toList)) [32] = actText x0 x1 x2 x3 x4 x5 := by
  simp only [actWords, List.map_cons, Lib.join_cons, Lib.joinTail, List.map_nil]
  simp [str, actText, numsText, List.flatMap]

/-- An act's box, and six words behind it. -/
structure ActWs (w W : World) (x0 x1 x2 x3 x4 x5 : Int) (g : Nat) (ws : List ByteArray) : Prop where
  box : ActIn w.heap.size x0 x1 x2 x3 x4 x5 W
  below : Below w.heap.size w W
  row : OwnStrs W (w.heap.size + 1) g 6 ws

theorem ActWs.step {w W W' : World} {x0 x1 x2 x3 x4 x5 : Int} {g : Nat} {ws : List ByteArray} (h : ActWs w W x0 x1 x2 x3 x4 x5 g ws) (hb : Below W.heap.size W W') : ActWs w W' x0 x1 x2 x3 x4 x5 g ws :=
  ⟨h.box.step hb, below_step h.below h.below.size hb, h.row.below hb⟩

theorem ActWs.set {w W : World} {x0 x1 x2 x3 x4 x5 : Int} {g : Nat} {ws : List ByteArray} (h : ActWs w W x0 x1 x2 x3 x4 x5 g ws) (j : Nat) (t : ByteArray) : ActWs w (W.setCell ⟨g, j, none⟩ (.string t)) x0 x1 x2 x3 x4 x5 g (ws.set j t) := by
  have hle := h.row.le
  have hh : (W.setCell ⟨g, j, none⟩ (.string t)).heap[w.heap.size]? = W.heap[w.heap.size]? := Below.heap_setCell _ _ _ _ (show w.heap.size ≠ g by omega)
  obtain ⟨hz, e0, e1, e2, e3, e4, e5⟩ := h.box
  have cc : ∀ (i : Nat) (v : Value), W.cell? ⟨w.heap.size, i, none⟩ = some v → (W.setCell ⟨g, j, none⟩ (.string t)).cell? ⟨w.heap.size, i, none⟩ = some v := by
    intro i v hv
    rw [← hv]
    simp only [World.cell?, hh]
  exact ⟨⟨by simpa using hz, cc _ _ e0, cc _ _ e1, cc _ _ e2, cc _ _ e3, cc _ _ e4, cc _ _ e5⟩, h.below.setCell (p := ⟨g, j, none⟩) (show w.heap.size ≤ g by omega) _, h.row.set j t⟩

theorem ActWs.tab {w W : World} {x0 x1 x2 x3 x4 x5 : Int} {g : Nat} {ws : List ByteArray} (h : ActWs w W x0 x1 x2 x3 x4 x5 g ws) (ht : Tab w) : Tab W := ht.below h.below ht.lt

set_option maxRecDepth 100000 in
theorem make_six {w w1 : World} {x0 x1 x2 x3 x4 x5 : Int} (hx : ActIn w.heap.size x0 x1 x2 x3 x4 x5 w1) (hB : Below w.heap.size w w1) :
    ∃ W, (Instr.makeSlice 31 (.int .i64 6) (.int .i64 6)).run Tryd.prog w1 = .ok (.slice (some ⟨w1.heap.size, 0, none⟩) 6 6) W ∧ ActWs w W x0 x1 x2 x3 x4 x5 w1.heap.size (List.replicate 6 ⟨#[]⟩) := by
  obtain ⟨i, hi, he⟩ := Option.map_eq_some_iff.1 infoStr
  simp only [Prod.mk.injEq] at he
  have hr := run_make (P := Tryd.prog) w1 31 9 i (.string ⟨#[]⟩) Tryd.underlying31 hi he.1 .i64 .i64 6 6 (by omega) (by omega) (by rw [he.2.2]; omega) (by omega)
  have e1 : (6 : Int).toNat = 6 := rfl
  rw [e1, he.2.1, Nat.mul_one] at hr
  refine ⟨_, hr, ⟨hx.step ((Below.refl _ _).alloc (Nat.le_refl _) _), hB.alloc hB.size _, ⟨hx.1, by simp, by simp, .inr ⟨w1.heap.size, 6, _, rfl, hx.1, heap_alloc_new w1 _, by simp, by simp [maxLen], by rw [size_madeCells], ?_⟩⟩⟩⟩
  rw [show (Value.string ⟨#[]⟩).cells = #[Value.string ⟨#[]⟩] from rfl, toList_madeCells_one, List.take_replicate]
  simp only [List.length_replicate, List.map_replicate]
  rfl

theorem joinAct_any (base g : Nat) (x0 x1 x2 x3 x4 x5 : Int) (w : World) (b0 : B6 x0) (b1 : B6 x1) (b2 : B6 x2) (b3 : B6 x3) (b4 : B6 x4) (b5 : B6 x5) (ho : OwnStrs w base g 6 (actWords x0 x1 x2 x3 x4 x5)) :
    Calls Tryd.prog 10 #[.slice (some ⟨g, 0, none⟩) 6 6, .string ⟨#[32]⟩] w fun e w' => e = .returned (.string (str (actText x0 x1 x2 x3 x4 x5))) ∧ Below w.heap.size w w' := by
  have hlen : (actText x0 x1 x2 x3 x4 x5).length ≤ 140737488355328 := by
    have h1 := Lib.itoa_length_le _ b0.1 b0.2
    have h2 := nums_size _ (ints5 b1 b2 b3 b4 b5)
    rw [str_size] at h2
    simp only [List.length_cons, List.length_nil] at h2
    simp only [actText, List.length_append]
    omega
  have := Tryd.strings_Join g 0 6 (actWords x0 x1 x2 x3 x4 x5) ⟨#[32]⟩ w (fun j x hx => by rw [Nat.zero_add]; exact ho.cell hx) ho.lt (by simp [actWords]) (by simp [actWords]) (by rw [show (⟨#[32]⟩ : ByteArray).data.toList = [32] from rfl, join_act]; exact hlen)
  rw [show (⟨#[32]⟩ : ByteArray).data.toList = [32] from rfl, join_act] at this
  exact this

set_option maxRecDepth 100000 in
set_option maxHeartbeats 4000000 in
theorem implAct_any (x0 x1 x2 x3 x4 x5 : Int) (w : World) (b0 : B6 x0) (b1 : B6 x1) (b2 : B6 x2) (b3 : B6 x3) (b4 : B6 x4) (b5 : B6 x5) (ht : Tab w) :
    Calls Tryd.prog 6 #[actV x0 x1 x2 x3 x4 x5] w fun e w' => e = .returned (.string (str (actText x0 x1 x2 x3 x4 x5))) ∧ Below w.heap.size w w' := by
  unfold actV
  have HT : Hid (Tab w) := ht
  clear ht
  obtain ⟨t0, HT0⟩ : ∃ t, Hid (t = str (Lib.itoa x0)) := ⟨_, Lib.hid rfl⟩
  obtain ⟨t1, HT1⟩ : ∃ t, Hid (t = str (Lib.itoa x1)) := ⟨_, Lib.hid rfl⟩
  obtain ⟨t2, HT2⟩ : ∃ t, Hid (t = str (Lib.itoa x2)) := ⟨_, Lib.hid rfl⟩
  obtain ⟨t3, HT3⟩ : ∃ t, Hid (t = str (Lib.itoa x3)) := ⟨_, Lib.hid rfl⟩
  obtain ⟨t4, HT4⟩ : ∃ t, Hid (t = str (Lib.itoa x4)) := ⟨_, Lib.hid rfl⟩
  obtain ⟨t5, HT5⟩ : ∃ t, Hid (t = str (Lib.itoa x5)) := ⟨_, Lib.hid rfl⟩
  obtain ⟨w2, hmk, hw2⟩ := make_six (w := w) (w1 := w.alloc (.cells #[.int .i64 x0, .int .i64 x1, .int .i64 x2, .int .i64 x3, .int .i64 x4, .int .i64 x5] 25)) (ActIn.new x0 x1 x2 x3 x4 x5 w _) ((Below.refl _ _).alloc (Nat.le_refl _) _)
  have hsz : (w.alloc (.cells #[.int .i64 x0, .int .i64 x1, .int .i64 x2, .int .i64 x3, .int .i64 x4, .int .i64 x5] 25)).heap.size = w.heap.size + 1 := by simp
  rw [hsz] at hmk hw2
  go_enter Tryd.func6, Tryd.ntmps6
  have HW0 : Hid (ActWs w w2 x0 x1 x2 x3 x4 x5 (w.heap.size + 1) [⟨#[]⟩, ⟨#[]⟩, ⟨#[]⟩, ⟨#[]⟩, ⟨#[]⟩, ⟨#[]⟩]) := hw2
  clear hw2
  have e0 := HW0.out.box.2.1
  go_wp2_with fail
  refine (implNumT _ t0 _ HT0.out b0 (HW0.out.tab HT.out)).mono ?_
  rintro e w3 ⟨rfl, hb⟩
  have HV0 : Hid (ActWs w w3 x0 x1 x2 x3 x4 x5 (w.heap.size + 1) [⟨#[]⟩, ⟨#[]⟩, ⟨#[]⟩, ⟨#[]⟩, ⟨#[]⟩, ⟨#[]⟩]) := HW0.out.step hb
  clear hb e0 HW0 hmk
  have d0 := HV0.out.row.cell (j := 0) (t := ⟨#[]⟩) rfl
  have f0 := HV0.out.row.froz 0
  have HW1 : Hid (ActWs w (w3.setCell ⟨w.heap.size + 1, 0, none⟩ (.string t0)) x0 x1 x2 x3 x4 x5 (w.heap.size + 1) [t0, ⟨#[]⟩, ⟨#[]⟩, ⟨#[]⟩, ⟨#[]⟩, ⟨#[]⟩]) := HV0.out.set 0 _
  have e1 := HW1.out.box.2.2.1
  go_wp2_with fail
  refine (implNumT _ t1 _ HT1.out b1 (HW1.out.tab HT.out)).mono ?_
  rintro e w4 ⟨rfl, hb⟩
  have HV1 : Hid (ActWs w w4 x0 x1 x2 x3 x4 x5 (w.heap.size + 1) [t0, ⟨#[]⟩, ⟨#[]⟩, ⟨#[]⟩, ⟨#[]⟩, ⟨#[]⟩]) := HW1.out.step hb
  clear hb e1 HW1
  have d1 := HV1.out.row.cell (j := 1) (t := ⟨#[]⟩) rfl
  have f1 := HV1.out.row.froz 1
  have HW2 : Hid (ActWs w (w4.setCell ⟨w.heap.size + 1, 1, none⟩ (.string t1)) x0 x1 x2 x3 x4 x5 (w.heap.size + 1) [t0, t1, ⟨#[]⟩, ⟨#[]⟩, ⟨#[]⟩, ⟨#[]⟩]) := HV1.out.set 1 _
  have e2 := HW2.out.box.2.2.2.1
  go_wp2_with fail
  refine (implNumT _ t2 _ HT2.out b2 (HW2.out.tab HT.out)).mono ?_
  rintro e w5 ⟨rfl, hb⟩
  have HV2 : Hid (ActWs w w5 x0 x1 x2 x3 x4 x5 (w.heap.size + 1) [t0, t1, ⟨#[]⟩, ⟨#[]⟩, ⟨#[]⟩, ⟨#[]⟩]) := HW2.out.step hb
  clear hb e2 HW2
  have d2 := HV2.out.row.cell (j := 2) (t := ⟨#[]⟩) rfl
  have f2 := HV2.out.row.froz 2
  have HW3 : Hid (ActWs w (w5.setCell ⟨w.heap.size + 1, 2, none⟩ (.string t2)) x0 x1 x2 x3 x4 x5 (w.heap.size + 1) [t0, t1, t2, ⟨#[]⟩, ⟨#[]⟩, ⟨#[]⟩]) := HV2.out.set 2 _
  have e3 := HW3.out.box.2.2.2.2.1
  go_wp2_with fail
  refine (implNumT _ t3 _ HT3.out b3 (HW3.out.tab HT.out)).mono ?_
  rintro e w6 ⟨rfl, hb⟩
  have HV3 : Hid (ActWs w w6 x0 x1 x2 x3 x4 x5 (w.heap.size + 1) [t0, t1, t2, ⟨#[]⟩, ⟨#[]⟩, ⟨#[]⟩]) := HW3.out.step hb
  clear hb e3 HW3
  have d3 := HV3.out.row.cell (j := 3) (t := ⟨#[]⟩) rfl
  have f3 := HV3.out.row.froz 3
  have HW4 : Hid (ActWs w (w6.setCell ⟨w.heap.size + 1, 3, none⟩ (.string t3)) x0 x1 x2 x3 x4 x5 (w.heap.size + 1) [t0, t1, t2, t3, ⟨#[]⟩, ⟨#[]⟩]) := HV3.out.set 3 _
  have e4 := HW4.out.box.2.2.2.2.2.1
  go_wp2_with fail
  refine (implNumT _ t4 _ HT4.out b4 (HW4.out.tab HT.out)).mono ?_
  rintro e w7 ⟨rfl, hb⟩
  have HV4 : Hid (ActWs w w7 x0 x1 x2 x3 x4 x5 (w.heap.size + 1) [t0, t1, t2, t3, ⟨#[]⟩, ⟨#[]⟩]) := HW4.out.step hb
  clear hb e4 HW4
  have d4 := HV4.out.row.cell (j := 4) (t := ⟨#[]⟩) rfl
  have f4 := HV4.out.row.froz 4
  have HW5 : Hid (ActWs w (w7.setCell ⟨w.heap.size + 1, 4, none⟩ (.string t4)) x0 x1 x2 x3 x4 x5 (w.heap.size + 1) [t0, t1, t2, t3, t4, ⟨#[]⟩]) := HV4.out.set 4 _
  have e5 := HW5.out.box.2.2.2.2.2.2
  go_wp2_with fail
  refine (implNumT _ t5 _ HT5.out b5 (HW5.out.tab HT.out)).mono ?_
  rintro e w8 ⟨rfl, hb⟩
  have HV5 : Hid (ActWs w w8 x0 x1 x2 x3 x4 x5 (w.heap.size + 1) [t0, t1, t2, t3, t4, ⟨#[]⟩]) := HW5.out.step hb
  clear hb e5 HW5
  have d5 := HV5.out.row.cell (j := 5) (t := ⟨#[]⟩) rfl
  have f5 := HV5.out.row.froz 5
  have HW6 : Hid (ActWs w (w8.setCell ⟨w.heap.size + 1, 5, none⟩ (.string t5)) x0 x1 x2 x3 x4 x5 (w.heap.size + 1) [t0, t1, t2, t3, t4, t5]) := HV5.out.set 5 _
  have HE : Hid ([t0, t1, t2, t3, t4, t5] = actWords x0 x1 x2 x3 x4 x5) := by
    rw [HT0.out, HT1.out, HT2.out, HT3.out, HT4.out, HT5.out]
    exact Lib.hid rfl
  clear HT0 HT1 HT2 HT3 HT4 HT5
  rw [HE.out] at HW6
  go_wp2_with fail
  refine (joinAct_any _ _ x0 x1 x2 x3 x4 x5 _ b0 b1 b2 b3 b4 b5 HW6.out.row).mono ?_
  rintro e w9 ⟨rfl, hb⟩
  have HB3 : Hid (Below w.heap.size w w9) := below_step HW6.out.below HW6.out.below.size hb
  clear hb
  go_wp2
  go_ret
  exact ⟨rfl, HB3.out⟩

end Go.Proofs.YtmjpjglbkbobaaaDoor

/- An act handed in: its opening; the laws' copy of it. -/
namespace Go.Proofs.YtmjpjglbkbobaaaDoor
open Go.ChangeShapes Go.WideShapes Go.ChangeAt Go.RowKit Go.Joins

set_option maxRecDepth 100000 in
theorem cellsIntA : Tryd.prog.cellsOf 3 = 1 := by kernel_rfl

set_option maxRecDepth 100000 in
theorem cellsActA : Tryd.prog.cellsOf 23 = 6 := by kernel_rfl

theorem wf_b6 {n : Int} (h : (Lit.int .i64 n).wf = true) : B6 n := by
  simp only [Lit.wf, Bool.and_eq_true, decide_eq_true_eq] at h
  exact h

set_option maxRecDepth 100000 in
theorem open_act {H : Type} {enc : TypeId × Value → H} {w : World} {base : Nat} {held : Bool} {b0 : Nat} {r : Reach} {v : Value} {d : DataW H} {p : List MemPlace} (hv : Value.okWide Tryd.prog w r b0 23 v) (h : DataW.Trod enc Tryd.prog w base (fun _ => true) held 23 v d p) :
    ∃ (x0 x1 x2 x3 x4 x5 : Int), v = actV x0 x1 x2 x3 x4 x5 ∧ B6 x0 ∧ B6 x1 ∧ B6 x2 ∧ B6 x3 ∧ B6 x4 ∧ B6 x5 := by
  obtain ⟨cs, rfl, hsz⟩ := okWide_struct Tryd.underlying23 hv
  rw [cellsActA] at hsz
  obtain ⟨fuel, hf⟩ := h
  obtain ⟨xs', n, _, _, _, hlen, hfd⟩ := DataW.trod_struct Tryd.underlying23 hf
  cases cs with
  | mk l =>
    have hl : l.length = 6 := by simpa using hsz
    match l, hl, xs', hlen with
    | [v0, v1, v2, v3, v4, v5], _, [y0, y1, y2, y3, y4, y5], _ =>
      have g0 := hfd 0 _ rfl
      have g1 := hfd 1 _ rfl
      have g2 := hfd 2 _ rfl
      have g3 := hfd 3 _ rfl
      have g4 := hfd 4 _ rfl
      have g5 := hfd 5 _ rfl
      simp [Value.cells, cellsIntA] at g0 g1 g2 g3 g4 g5
      obtain ⟨i0, e0, _, k0⟩ := DataW.trod_int Tryd.underlying3 g0
      obtain ⟨i1, e1, _, k1⟩ := DataW.trod_int Tryd.underlying3 g1
      obtain ⟨i2, e2, _, k2⟩ := DataW.trod_int Tryd.underlying3 g2
      obtain ⟨i3, e3, _, k3⟩ := DataW.trod_int Tryd.underlying3 g3
      obtain ⟨i4, e4, _, k4⟩ := DataW.trod_int Tryd.underlying3 g4
      obtain ⟨i5, e5, _, k5⟩ := DataW.trod_int Tryd.underlying3 g5
      simp at e0 e1 e2 e3 e4 e5
      subst e0 e1 e2 e3 e4 e5
      exact ⟨i0, i1, i2, i3, i4, i5, rfl, wf_b6 k0, wf_b6 k1, wf_b6 k2, wf_b6 k3, wf_b6 k4, wf_b6 k5⟩

set_option maxRecDepth 100000 in
theorem toAct_any (x0 x1 x2 x3 x4 x5 : Int) (w : World) :
    Calls Tryd.prog 5 #[actV x0 x1 x2 x3 x4 x5] w fun e w' => e = .returned (actV x0 x1 x2 x3 x4 x5) ∧ Below w.heap.size w w' := by
  unfold actV
  go_enter Tryd.func5, Tryd.ntmps5
  go_wp2
  exact bodyPost_ret (v := actV x0 x1 x2 x3 x4 x5) (by simp [results, Tryd.results5, go_sem, actV]) rfl ⟨rfl, (((Below.refl _ _).alloc (Nat.le_refl _) _).alloc (by simp) _).alloc (by simp; omega) _⟩

end Go.Proofs.YtmjpjglbkbobaaaDoor
