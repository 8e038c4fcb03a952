import Derived.Test.YtidpcjcnhklmpalDoorPack6
import Derived.Test.YtidpcjcnhklmpalDoorPack3
import Derived.Test.YtidpcjcnhklmpalDoorPack5
import Derived.Test.YtidpcjcnhklmpalDoorPack1
import Derived.Deep.Slices
import Derived.Deep.Strs
import Derived.Test.YtidpcjcnhklmpalDoorPack4
/- The text of a write, by the program. -/
namespace Go.Proofs.YtidpcjcnhklmpalDoor
open Go.ChangeShapes Go.WideShapes Go.ChangeAt Go.RowKit Go.Joins

theorem head_bounds {k c s q v : Int} {de : Bool} {n : Nat} (h1 : btw k 0 5 = true) (h2 : tagOkB c s q = true) (h3 : valOkB v de = true) (hn : n ≤ 1048576) : ∀ x ∈ headNs k c s q v de n, -9223372036854775808 ≤ x ∧ x ≤ 9223372036854775807 := by
  have a := btw_bounds h1
  have b := tagOk_bounds h2
  have d := btw_bounds (val_btw h3)
  have e : 0 ≤ bitI de ∧ bitI de ≤ 1 := by cases de <;> simp [bitI]
  intro x hx
  simp only [headNs, List.mem_cons, List.not_mem_nil, or_false] at hx
  rcases hx with rfl | rfl | rfl | rfl | rfl | rfl | rfl <;> omega

def B64 (x : Int) : Prop := -9223372036854775808 ≤ x ∧ x ≤ 9223372036854775807

theorem nums_most : ∀ (ns : List Int), (∀ x ∈ ns, B64 x) → (numsText ns).length ≤ 22 * ns.length
  | [], _ => by simp [numsText]
  | x :: r, h => by
    have h1 := nums_most r fun y hy => h y (List.mem_cons_of_mem _ hy)
    have h2 := h x List.mem_cons_self
    have h3 := Lib.itoa_length_le _ h2.1 h2.2
    simp only [numsText, List.flatMap_cons, List.length_append, List.length_cons] at h1 ⊢
    omega

theorem dep_b64 {x0 x1 x2 x3 : Int} (h0 : Ints64 [x0]) (h1 : Ints64 [x1, x2, x3]) : ∀ x ∈ [x0, x1, x2, x3], B64 x := by
  have a := h0 0 (by simp)
  have b := h1 0 (by simp)
  have c := h1 1 (by simp)
  have d := h1 2 (by simp)
  intro x hx
  simp only [List.mem_cons, List.not_mem_nil, or_false] at hx
  rcases hx with rfl | rfl | rfl | rfl
  · exact a
  · exact b
  · exact c
  · exact d

theorem words_more (ns ms : List Int) : wordsOf (ns ++ ms) = wordsOf ns ++ ms.map fun n => str (Lib.itoa n) := by simp [wordsOf]

theorem deps_more (xs : List Dp) (j : Nat) (h : j < xs.length) : (xs.take (j + 1)).flatMap depNs = (xs.take j).flatMap depNs ++ depNs (xs.getD j dz) := by
  rw [List.take_add_one, List.getElem?_eq_getElem h, List.flatMap_append]
  simp [List.getD, h]

theorem join_any (base g wc n : Nat) (ns : List Int) (w : World) (hl : (wordsOf ns).length = n) (hn : n ≤ 140737488355328) (ho : OwnStrs w base g wc (wordsOf ns)) (ht : (119 :: numsText ns).length ≤ 140737488355328) :
    Calls Tryd.prog 66 #[.slice (some ⟨g, 0, none⟩) n wc, .string ⟨#[32]⟩] w fun e w' => e = .returned (.string (str (119 :: numsText ns))) ∧ Below w.heap.size w w' := by
  subst hl
  have hcap : (wordsOf ns).length ≤ wc := by
    rcases ho.own.2 with ⟨h, _⟩ | ⟨g', cap, cur, h, _, _, hc, _⟩
    · simp at h
    · simp only [Value.slice.injEq, true_and] at h
      rw [h.2]
      exact hc
  have := Tryd.strings_Join g 0 wc (wordsOf ns) ⟨#[32]⟩ w (fun j x hx => by rw [Nat.zero_add]; exact ho.cell hx) ho.lt hn hcap (by rw [show (⟨#[32]⟩ : ByteArray).data.toList = [32] from rfl, join_words]; exact ht)
  rw [show (⟨#[32]⟩ : ByteArray).data.toList = [32] from rfl, join_words] at this
  exact this

def DepIn (b : Nat) (x0 x1 x2 x3 : Int) (w : World) : Prop := b < w.heap.size ∧ w.cell? ⟨b, 0, none⟩ = some (.int .i64 x0) ∧ w.cell? ⟨b, 1, none⟩ = some (.int .i64 x1) ∧ w.cell? ⟨b, 2, none⟩ = some (.int .i64 x2) ∧ w.cell? ⟨b, 3, none⟩ = some (.int .i64 x3)

theorem DepIn.step {b : Nat} {x0 x1 x2 x3 : Int} {w w' : World} (h : DepIn b x0 x1 x2 x3 w) (hb : Below w.heap.size w w') : DepIn b x0 x1 x2 x3 w' := by
  obtain ⟨hz, e0, e1, e2, e3⟩ := h
  exact ⟨Nat.lt_of_lt_of_le hz hb.size, held_cell hb e0 hz, held_cell hb e1 hz, held_cell hb e2 hz, held_cell hb e3 hz⟩

theorem DepIn.new (x0 x1 x2 x3 : Int) (w : World) (t : Nat) : DepIn w.heap.size x0 x1 x2 x3 (w.alloc (.cells #[.int .i64 x0, .int .i64 x1, .int .i64 x2, .int .i64 x3] t)) := by
  have h := heap_alloc_new w (.cells #[.int .i64 x0, .int .i64 x1, .int .i64 x2, .int .i64 x3] t)
  refine ⟨by simp, ?_, ?_, ?_, ?_⟩ <;> (rw [cell_of_row _ _ _ _ t (0, 0) h]; rfl)

set_option maxRecDepth 100000 in
set_option maxHeartbeats 1000000 in
theorem implText_any (k c s q v : Int) (de : Bool) (g : Nat) (xs : List Dp) (len cap : Nat) (w : World) (hl : xs.length = len) (hn : len ≤ 1048576) (hlt : g < w.heap.size) (hh : HoldsDeps w g 0 xs) (ht : Tab w) :
    Calls Tryd.prog 44 #[wrV k c s q v de (some ⟨g, 0, none⟩) len cap] w fun e w' => e = .returned (.string (str (writeText k c s q v de xs))) ∧ Below w.heap.size w w' := by
  subst hl
  have HH : Hid (HoldsDeps w g 0 xs) := hh
  have HT : Hid (Tab w) := ht
  clear hh ht
  go_enter Tryd.func44, Tryd.ntmps44
  go_wp2_with fail
  refine (implWriteOk_any k c s q v de g xs _ cap _ rfl hn (by simp; omega) (HH.out.below ((Below.refl _ _).alloc (Nat.le_refl _) _) hlt)).mono ?_
  rintro e w1 ⟨rfl, hb⟩
  have HX : Hid (BoxIn w w1 k c s q v de (some ⟨g, 0, none⟩) xs.length cap) := BoxIn.start hb
  clear hb
  cases hok : writeOkB k c s q v de xs
  · have HW : Hid (writeText k c s q v de xs = []) := by simp [writeText, hok, Hid]
    go_wp2
    go_ret
    rw [HW.out]
    exact ⟨rfl, HX.out.below⟩
  · have HW : Hid (writeText k c s q v de xs = headText k c s q v de xs.length ++ xs.flatMap depText) := by simp [writeText, hok, Hid]
    obtain ⟨o1, o2, o3, o4, -⟩ := ok_parts hok
    have HB : Hid (∀ x ∈ headNs k c s q v de xs.length, -9223372036854775808 ≤ x ∧ x ≤ 9223372036854775807) := head_bounds o1 o2 o3 hn
    obtain ⟨t1, HT1⟩ : ∃ t, Hid (t = str (Lib.itoa k)) := ⟨_, Lib.hid rfl⟩
    obtain ⟨t2, HT2⟩ : ∃ t, Hid (t = str (Lib.itoa c)) := ⟨_, Lib.hid rfl⟩
    obtain ⟨t3, HT3⟩ : ∃ t, Hid (t = str (Lib.itoa s)) := ⟨_, Lib.hid rfl⟩
    obtain ⟨t4, HT4⟩ : ∃ t, Hid (t = str (Lib.itoa q)) := ⟨_, Lib.hid rfl⟩
    obtain ⟨t5, HT5⟩ : ∃ t, Hid (t = str (Lib.itoa v)) := ⟨_, Lib.hid rfl⟩
    obtain ⟨t6, HT6⟩ : ∃ t, Hid (t = str (Lib.itoa (bitI de))) := ⟨_, Lib.hid rfl⟩
    obtain ⟨t7, HT7⟩ : ∃ t, Hid (t = str (Lib.itoa (xs.length : Int))) := ⟨_, Lib.hid rfl⟩
    have c6 := HX.out.c6
    obtain ⟨w2, hmk, hw2⟩ := make_words HX.out xs.length hn
    have G : w1.heap.size ≠ w.heap.size := hw2.ne
    clear HX
    generalize w1.heap.size = b at hmk hw2 G
    clear G
    have HW0 : Hid (Words w w2 k c s q v de (some ⟨g, 0, none⟩) xs.length cap b (8 + 4 * xs.length) [⟨#[]⟩, ⟨#[]⟩, ⟨#[]⟩, ⟨#[]⟩, ⟨#[]⟩, ⟨#[]⟩, ⟨#[]⟩, ⟨#[]⟩]) := hw2
    clear hw2
    have d0 := HW0.out.row.cell (j := 0) (t := ⟨#[]⟩) rfl
    have f0 := HW0.out.row.froz 0
    have K0 : Hid (Words w (w2.setCell ⟨b, 0, none⟩ (.string ⟨#[119]⟩)) k c s q v de (some ⟨g, 0, none⟩) xs.length cap b (8 + 4 * xs.length) [⟨#[119]⟩, ⟨#[]⟩, ⟨#[]⟩, ⟨#[]⟩, ⟨#[]⟩, ⟨#[]⟩, ⟨#[]⟩, ⟨#[]⟩]) := HW0.out.set 0 _
    have e0 := K0.out.box.c0
    go_wp2_with fail
    refine (implNumT _ t1 _ HT1.out (HB.out _ (by simp [headNs])) (K0.out.tab HT.out)).mono ?_
    rintro e w3 ⟨rfl, hb⟩
    have HW1 : Hid (Words w w3 k c s q v de (some ⟨g, 0, none⟩) xs.length cap b (8 + 4 * xs.length) [⟨#[119]⟩, ⟨#[]⟩, ⟨#[]⟩, ⟨#[]⟩, ⟨#[]⟩, ⟨#[]⟩, ⟨#[]⟩, ⟨#[]⟩]) := K0.out.step hb
    clear hb K0 HW0 d0 f0 e0
    clear hmk c6
    have d1 := HW1.out.row.cell (j := 1) (t := ⟨#[]⟩) rfl
    have f1 := HW1.out.row.froz 1
    have K1 : Hid (Words w (w3.setCell ⟨b, 1, none⟩ (.string t1)) k c s q v de (some ⟨g, 0, none⟩) xs.length cap b (8 + 4 * xs.length) [⟨#[119]⟩, t1, ⟨#[]⟩, ⟨#[]⟩, ⟨#[]⟩, ⟨#[]⟩, ⟨#[]⟩, ⟨#[]⟩]) := HW1.out.set 1 _
    have e1 := K1.out.box.c1
    go_wp2_with fail
    refine (implNumT _ t2 _ HT2.out (HB.out _ (by simp [headNs])) (K1.out.tab HT.out)).mono ?_
    rintro e w4 ⟨rfl, hb⟩
    have HW2 : Hid (Words w w4 k c s q v de (some ⟨g, 0, none⟩) xs.length cap b (8 + 4 * xs.length) [⟨#[119]⟩, t1, ⟨#[]⟩, ⟨#[]⟩, ⟨#[]⟩, ⟨#[]⟩, ⟨#[]⟩, ⟨#[]⟩]) := K1.out.step hb
    clear hb K1 HW1 d1 f1 e1
    have d2 := HW2.out.row.cell (j := 2) (t := ⟨#[]⟩) rfl
    have f2 := HW2.out.row.froz 2
    have K2 : Hid (Words w (w4.setCell ⟨b, 2, none⟩ (.string t2)) k c s q v de (some ⟨g, 0, none⟩) xs.length cap b (8 + 4 * xs.length) [⟨#[119]⟩, t1, t2, ⟨#[]⟩, ⟨#[]⟩, ⟨#[]⟩, ⟨#[]⟩, ⟨#[]⟩]) := HW2.out.set 2 _
    have e2 := K2.out.box.c2
    go_wp2_with fail
    refine (implNumT _ t3 _ HT3.out (HB.out _ (by simp [headNs])) (K2.out.tab HT.out)).mono ?_
    rintro e w5 ⟨rfl, hb⟩
    have HW3 : Hid (Words w w5 k c s q v de (some ⟨g, 0, none⟩) xs.length cap b (8 + 4 * xs.length) [⟨#[119]⟩, t1, t2, ⟨#[]⟩, ⟨#[]⟩, ⟨#[]⟩, ⟨#[]⟩, ⟨#[]⟩]) := K2.out.step hb
    clear hb K2 HW2 d2 f2 e2
    have d3 := HW3.out.row.cell (j := 3) (t := ⟨#[]⟩) rfl
    have f3 := HW3.out.row.froz 3
    have K3 : Hid (Words w (w5.setCell ⟨b, 3, none⟩ (.string t3)) k c s q v de (some ⟨g, 0, none⟩) xs.length cap b (8 + 4 * xs.length) [⟨#[119]⟩, t1, t2, t3, ⟨#[]⟩, ⟨#[]⟩, ⟨#[]⟩, ⟨#[]⟩]) := HW3.out.set 3 _
    have e3 := K3.out.box.c3
    go_wp2_with fail
    refine (implNumT _ t4 _ HT4.out (HB.out _ (by simp [headNs])) (K3.out.tab HT.out)).mono ?_
    rintro e w6 ⟨rfl, hb⟩
    have HW4 : Hid (Words w w6 k c s q v de (some ⟨g, 0, none⟩) xs.length cap b (8 + 4 * xs.length) [⟨#[119]⟩, t1, t2, t3, ⟨#[]⟩, ⟨#[]⟩, ⟨#[]⟩, ⟨#[]⟩]) := K3.out.step hb
    clear hb K3 HW3 d3 f3 e3
    have d4 := HW4.out.row.cell (j := 4) (t := ⟨#[]⟩) rfl
    have f4 := HW4.out.row.froz 4
    have K4 : Hid (Words w (w6.setCell ⟨b, 4, none⟩ (.string t4)) k c s q v de (some ⟨g, 0, none⟩) xs.length cap b (8 + 4 * xs.length) [⟨#[119]⟩, t1, t2, t3, t4, ⟨#[]⟩, ⟨#[]⟩, ⟨#[]⟩]) := HW4.out.set 4 _
    have e4 := K4.out.box.c4
    go_wp2_with fail
    refine (implNumT _ t5 _ HT5.out (HB.out _ (by simp [headNs])) (K4.out.tab HT.out)).mono ?_
    rintro e w7 ⟨rfl, hb⟩
    have HW5 : Hid (Words w w7 k c s q v de (some ⟨g, 0, none⟩) xs.length cap b (8 + 4 * xs.length) [⟨#[119]⟩, t1, t2, t3, t4, ⟨#[]⟩, ⟨#[]⟩, ⟨#[]⟩]) := K4.out.step hb
    clear hb K4 HW4 d4 f4 e4
    have d5 := HW5.out.row.cell (j := 5) (t := ⟨#[]⟩) rfl
    have f5 := HW5.out.row.froz 5
    have K5 : Hid (Words w (w7.setCell ⟨b, 5, none⟩ (.string t5)) k c s q v de (some ⟨g, 0, none⟩) xs.length cap b (8 + 4 * xs.length) [⟨#[119]⟩, t1, t2, t3, t4, t5, ⟨#[]⟩, ⟨#[]⟩]) := HW5.out.set 5 _
    have e5 := K5.out.box.c5
    go_wp2_with fail
    refine (flag_any de _).mono ?_
    rintro e w' ⟨rfl, rfl⟩
    go_wp2_with fail
    refine (implNumT _ t6 _ HT6.out (HB.out _ (by simp [headNs])) (K5.out.tab HT.out)).mono ?_
    rintro e w8 ⟨rfl, hb⟩
    have HW6 : Hid (Words w w8 k c s q v de (some ⟨g, 0, none⟩) xs.length cap b (8 + 4 * xs.length) [⟨#[119]⟩, t1, t2, t3, t4, t5, ⟨#[]⟩, ⟨#[]⟩]) := K5.out.step hb
    clear hb K5 HW5 d5 f5 e5
    have d6 := HW6.out.row.cell (j := 6) (t := ⟨#[]⟩) rfl
    have f6 := HW6.out.row.froz 6
    have K6 : Hid (Words w (w8.setCell ⟨b, 6, none⟩ (.string t6)) k c s q v de (some ⟨g, 0, none⟩) xs.length cap b (8 + 4 * xs.length) [⟨#[119]⟩, t1, t2, t3, t4, t5, t6, ⟨#[]⟩]) := HW6.out.set 6 _
    have e6 := K6.out.box.c6
    go_wp2_with fail
    refine (implNumT _ t7 _ HT7.out (HB.out _ (by simp [headNs])) (K6.out.tab HT.out)).mono ?_
    rintro e w9 ⟨rfl, hb⟩
    have HW7 : Hid (Words w w9 k c s q v de (some ⟨g, 0, none⟩) xs.length cap b (8 + 4 * xs.length) [⟨#[119]⟩, t1, t2, t3, t4, t5, t6, ⟨#[]⟩]) := K6.out.step hb
    clear hb K6 HW6 d6 f6 e6
    have d7 := HW7.out.row.cell (j := 7) (t := ⟨#[]⟩) rfl
    have f7 := HW7.out.row.froz 7
    have K7 : Hid (Words w (w9.setCell ⟨b, 7, none⟩ (.string t7)) k c s q v de (some ⟨g, 0, none⟩) xs.length cap b (8 + 4 * xs.length) [⟨#[119]⟩, t1, t2, t3, t4, t5, t6, t7]) := HW7.out.set 7 _
    have e7 := K7.out.box.c6
    have HE : Hid ([⟨#[119]⟩, t1, t2, t3, t4, t5, t6, t7] = wordsOf (headNs k c s q v de xs.length)) := by
      rw [HT1.out, HT2.out, HT3.out, HT4.out, HT5.out, HT6.out, HT7.out]
      exact Lib.hid rfl
    clear HT1 HT2 HT3 HT4 HT5 HT6 HT7
    go_wp2
    go_loopw [3, 60] (fun t i wr => ∃ (j g' wc : Nat) (ns : List Int), j ≤ xs.length ∧ i = .int .i64 j ∧ t = .slice (some ⟨g', 0, none⟩) (8 + 4 * j) wc ∧ Hid (ns = headNs k c s q v de xs.length ++ (xs.take j).flatMap depNs) ∧ Hid ((wordsOf ns).length = 8 + 4 * j) ∧ Hid (∀ x ∈ ns, B64 x) ∧ Hid (Words w wr k c s q v de (some ⟨g, 0, none⟩) xs.length cap g' wc (wordsOf ns))) (fun _ i _ => xs.length - (intOf i).toNat)
    case atStart => exact ⟨0, b, 8 + 4 * xs.length, headNs k c s q v de xs.length, by omega, rfl, rfl, by simp [Hid], rfl, HB.out, by rw [HE.out] at K7; exact K7⟩
    case round =>
    clear K7 HE HW7 d7 f7 e7 HB
    obtain ⟨j, g', wc, ns, hj, rfl, rfl, HN, HL, HBN, HWD⟩ := hrel
    by_cases hj' : j < xs.length
    · have j1 : (0 : Int) ≤ (j : Int) := by omega
      have j2 : (j : Int) < (xs.length : Int) := by omega
      obtain ⟨e0, e1, e2, e3⟩ := dep_cells4 HH.out HWD.out.box.below hlt hj'
      have HBD : Hid (∀ x ∈ depNs (xs.getD j dz), B64 x) := dep_b64 (ints_key (dep_key o4 hj')) (ints_tag (depsOk_tag o4 hj'))
      have HM := Lib.hid (deps_more xs j hj')
      rw [show depNs (xs.getD j dz) = [(xs.getD j dz).k, (xs.getD j dz).c, (xs.getD j dz).s, (xs.getD j dz).q] from rfl] at HBD HM
      generalize (xs.getD j dz).k = x0 at e0 HBD HM
      generalize (xs.getD j dz).c = x1 at e1 HBD HM
      generalize (xs.getD j dz).s = x2 at e2 HBD HM
      generalize (xs.getD j dz).q = x3 at e3 HBD HM
      obtain ⟨y0, HY0⟩ : ∃ t, Hid (t = str (Lib.itoa x0)) := ⟨_, Lib.hid rfl⟩
      obtain ⟨y1, HY1⟩ : ∃ t, Hid (t = str (Lib.itoa x1)) := ⟨_, Lib.hid rfl⟩
      obtain ⟨y2, HY2⟩ : ∃ t, Hid (t = str (Lib.itoa x2)) := ⟨_, Lib.hid rfl⟩
      obtain ⟨y3, HY3⟩ : ∃ t, Hid (t = str (Lib.itoa x3)) := ⟨_, Lib.hid rfl⟩
      go_wp2_with fail
      clear e0 e1 e2 e3
      have HWD0 : Hid (Words w (wr.alloc (.cells #[.int .i64 x0, .int .i64 x1, .int .i64 x2, .int .i64 x3] 75)) k c s q v de (some ⟨g, 0, none⟩) xs.length cap g' wc (wordsOf ns)) := HWD.out.step ((Below.refl _ _).alloc (Nat.le_refl _) _)
      have HDP : Hid (DepIn wr.heap.size x0 x1 x2 x3 (wr.alloc (.cells #[.int .i64 x0, .int .i64 x1, .int .i64 x2, .int .i64 x3] 75))) := DepIn.new x0 x1 x2 x3 wr _
      generalize wr.alloc (.cells #[.int .i64 x0, .int .i64 x1, .int .i64 x2, .int .i64 x3] 75) = wd at HWD0 HDP ⊢
      generalize wr.heap.size = bd at HDP ⊢
      clear HWD
      refine wp_region_slots 17 [[(3, false)], [(5, false)], [(65, true)], [(66, true)], [(5, false)], [(68, true)], [(69, true)], [(70, true)], [(5, false)], [(72, true)], [(73, true)], [(74, true)], [(5, false)], [(76, true)], [(77, true)], [(78, true)], [(67, true), (71, true), (75, true), (79, true)]] (fun w' => Hid (Words w w' k c s q v de (some ⟨g, 0, none⟩) xs.length cap g' wc (wordsOf ns)) ∧ DepIn bd x0 x1 x2 x3 w') (fun w w' => Below w.heap.size w w') (by kernel_rfl) (by kernel_rfl) (by rfl) ⟨HWD0.out.step (Below.refl _ _).drew, HDP.out.step (Below.refl _ _).drew⟩ (fun _ _ h hb => ⟨h.1.out.step hb, h.2.step hb⟩) ?_
      iterate 3 (apply slot_eq; · (intro ρ w' ⟨p1, p2, p3⟩ ⟨HS, hz, e0, e1, e2, e3⟩ hn; simp at hn; go_simp; exact ⟨Below.refl _ _, rfl⟩))
      apply slot_eq
      · intro ρ w' ⟨p1, p2, p3⟩ ⟨HS, hz, e0, e1, e2, e3⟩ hn
        simp at hn
        go_simp
        exact got_call (implNumT x0 y0 _ HY0.out (HBD.out x0 (by simp)) (HS.out.tab HT.out)) fun e w'' ⟨he, hb⟩ => ⟨_, he, hb, rfl⟩
      iterate 3 (apply slot_eq; · (intro ρ w' ⟨p1, p2, p3⟩ ⟨HS, hz, e0, e1, e2, e3⟩ hn; simp at hn; go_simp; exact ⟨Below.refl _ _, rfl⟩))
      apply slot_eq
      · intro ρ w' ⟨p1, p2, p3⟩ ⟨HS, hz, e0, e1, e2, e3⟩ hn
        simp at hn
        go_simp
        exact got_call (implNumT x1 y1 _ HY1.out (HBD.out x1 (by simp)) (HS.out.tab HT.out)) fun e w'' ⟨he, hb⟩ => ⟨_, he, hb, rfl⟩
      iterate 3 (apply slot_eq; · (intro ρ w' ⟨p1, p2, p3⟩ ⟨HS, hz, e0, e1, e2, e3⟩ hn; simp at hn; go_simp; exact ⟨Below.refl _ _, rfl⟩))
      apply slot_eq
      · intro ρ w' ⟨p1, p2, p3⟩ ⟨HS, hz, e0, e1, e2, e3⟩ hn
        simp at hn
        go_simp
        exact got_call (implNumT x2 y2 _ HY2.out (HBD.out x2 (by simp)) (HS.out.tab HT.out)) fun e w'' ⟨he, hb⟩ => ⟨_, he, hb, rfl⟩
      iterate 3 (apply slot_eq; · (intro ρ w' ⟨p1, p2, p3⟩ ⟨HS, hz, e0, e1, e2, e3⟩ hn; simp at hn; go_simp; exact ⟨Below.refl _ _, rfl⟩))
      apply slot_eq
      · intro ρ w' ⟨p1, p2, p3⟩ ⟨HS, hz, e0, e1, e2, e3⟩ hn
        simp at hn
        go_simp
        exact got_call (implNumT x3 y3 _ HY3.out (HBD.out x3 (by simp)) (HS.out.tab HT.out)) fun e w'' ⟨he, hb⟩ => ⟨_, he, hb, rfl⟩
      refine slot_fact (StrsFact [y0, y1, y2, y3]) (lasts_strs _) ?_ ?_
      · intro ρ w' ⟨p1, p2, p3⟩ ⟨HS, hz, e0, e1, e2, e3⟩ hn
        simp at hn
        go_simp
        exact ⟨(Below.refl _ _).alloc (Nat.le_refl _) _, strs_new [y0, y1, y2, y3]⟩
      refine slot_end ?_
      rintro vs w3 ⟨HS, -⟩ hF
      clear HWD0 HDP
      simp at hF
      obtain ⟨⟨g2, v80, hg2, hc2⟩, v79, v78, v77, v76, v75, v74, v73, v72, v71, v70, v69, v68, v67, v66, v65, v64⟩ := hF
      simp only [List.take_succ_cons, List.take_zero, List.drop_succ_cons, List.drop_zero, putAll, v80, v79, v78, v77, v76, v75, v74, v73, v72, v71, v70, v69, v68, v67, v66, v65, v64]
      clear v80 v79 v78 v77 v76 v75 v74 v73 v72 v71 v70 v69 v68 v67 v66 v65 v64
      obtain ⟨i0, hi0, hx0⟩ := Option.map_eq_some_iff.1 infoStr
      simp only [Prod.mk.injEq] at hx0
      have HI0 := Lib.hid hi0
      have HX0 := Lib.hid hx0
      clear hi0 hx0
      have HOW : Hid (w3.ownsRow (w.heap.size + 1) 9 1 (.slice (some ⟨g', 0, none⟩) (8 + 4 * j) wc) (8 + 4 * j) ((wordsOf ns).map Value.string)) := by
        have h := HS.out.row.own
        rw [HL.out] at h
        exact h
      have HC2 : Hid (∀ (i : Nat) u, ([y0, y1, y2, y3].map Value.string)[i]? = some u → w3.cell? ((⟨g2, 0, none⟩ : Addr).add i) = some u) := fun i u hu => by
        have := hc2 i u (by simpa using hu)
        cases i with
        | zero => simpa [Addr.add] using this
        | succ i => simpa [Addr.add] using this
      have hb3 : w.heap.size + 1 ≤ w3.heap.size := HS.out.box.lt
      clear hc2
      simp only [Act.put, List.setIfInBounds_toArray, List.set_cons_succ, List.set_cons_zero]
      go_wp2_with (at_builtin; refine wpList_append_lies _ (by rfl) _ _ _ (by rfl) (w.heap.size + 1) 9 i0 (.string ⟨#[]⟩) 1 16 Tryd.underlying86 HI0.out HX0.out.1 HX0.out.2.1 HX0.out.2.2 (by rfl) (by omega) (.slice (some ⟨g', 0, none⟩) (8 + 4 * j) wc) (8 + 4 * j) ((wordsOf ns).map Value.string) (by rfl) HOW.out ⟨g2, 0, none⟩ 4 4 ([y0, y1, y2, y3].map Value.string) (by rfl) (by rfl) HC2.out (by simp [Value.oneCell']) (by omega) (by unfold maxLen; omega) (by omega) hb3 _ rfl ?_; intro g3 wc3 w5 hown hgrow _ _; refine Hid.out ?_)
      refine Lib.hid ?_
      have HN5 : Hid (ns ++ [x0, x1, x2, x3] = headNs k c s q v de xs.length ++ (xs.take (j + 1)).flatMap depNs) := by
        rw [HM.out, HN.out, List.append_assoc]
        exact Lib.hid rfl
      have HE5 : Hid (wordsOf (ns ++ [x0, x1, x2, x3]) = wordsOf ns ++ [y0, y1, y2, y3]) := by
        rw [words_more, HY0.out, HY1.out, HY2.out, HY3.out]
        exact Lib.hid rfl
      have HL5 : Hid ((wordsOf (ns ++ [x0, x1, x2, x3])).length = 8 + 4 * (j + 1)) := by
        rw [HE5.out, List.length_append, HL.out]
        exact Lib.hid rfl
      have HB5 : Hid (∀ x ∈ ns ++ [x0, x1, x2, x3], B64 x) := fun x hx => (List.mem_append.1 hx).elim (HBN.out x) (HBD.out x)
      obtain ⟨hlt3, hle3⟩ := (fun h => (hown.lt g3 h).symm : _ → _ ∧ _) rfl
      have HW5 : Hid (Words w w5 k c s q v de (some ⟨g, 0, none⟩) xs.length cap g3 wc3 (wordsOf (ns ++ [x0, x1, x2, x3]))) := by
        refine HS.out.grown hgrow ⟨hle3, hlt3, ?_⟩
        rw [HL5.out, HE5.out, List.map_append]
        exact hown
      clear hown hgrow HS HOW HC2 HN HL HBN HE5
      go_wp2
      exact ⟨⟨j + 1, g3, wc3, _, by omega, by go_num, rfl, HN5, HL5, HB5, HW5⟩, by simp [intOf]; omega⟩
    · have hjn : j = xs.length := by omega
      subst hjn
      have HNW : Hid (writeText k c s q v de xs = 119 :: numsText ns) := by
        rw [HW.out, ← text_nums, HN.out, List.take_length]
        exact Lib.hid rfl
      have hlen : (119 :: numsText ns).length ≤ 140737488355328 := by
        have h1 := nums_most ns HBN.out
        have h2 := HL.out
        simp only [wordsOf, List.length_cons, List.length_map] at h2
        simp only [List.length_cons]
        omega
      go_wp2_with fail
      refine (join_any _ g' wc _ ns _ HL.out (by omega) HWD.out.row hlen).mono ?_
      rintro e w3 ⟨rfl, hb⟩
      have HB3 : Hid (Below w.heap.size w w3) := below_step HWD.out.box.below HWD.out.box.below.size hb
      clear hb
      go_wp2
      go_ret
      rw [HNW.out]
      exact ⟨rfl, HB3.out⟩
end Go.Proofs.YtidpcjcnhklmpalDoor

/- The contract of impl.WriteText, its dependencies nil or from a block's begin on. -/
namespace Go.Proofs.YtidpcjcnhklmpalDoor
open Go.ChangeShapes Go.WideShapes Go.ChangeAt Go.RowKit Go.Joins

set_option maxRecDepth 100000 in
set_option maxHeartbeats 1000000 in
theorem implText_gen (k c s q v : Int) (de : Bool) (ag : Option Addr) (xs : List Dp) (len cap : Nat) (w : World) (hl : xs.length = len) (hn : len ≤ 1048576) (hh : Deps0 w ag xs) (ht : Tab w) :
    Calls Tryd.prog 44 #[wrV k c s q v de ag len cap] w fun e w' => e = .returned (.string (str (writeText k c s q v de xs))) ∧ Below w.heap.size w w' := by
  subst hl
  have HH : Hid (Deps0 w ag xs) := hh
  have HT : Hid (Tab w) := ht
  clear hh ht
  go_enter Tryd.func44, Tryd.ntmps44
  go_wp2_with fail
  refine (implWriteOk_gen k c s q v de ag xs _ cap _ rfl hn (HH.out.isDeps.below ((Below.refl _ _).alloc (Nat.le_refl _) _))).mono ?_
  rintro e w1 ⟨rfl, hb⟩
  have HX : Hid (BoxIn w w1 k c s q v de ag xs.length cap) := BoxIn.start hb
  clear hb
  cases hok : writeOkB k c s q v de xs
  · have HW : Hid (writeText k c s q v de xs = []) := by simp [writeText, hok, Hid]
    go_wp2
    go_ret
    rw [HW.out]
    exact ⟨rfl, HX.out.below⟩
  · have HW : Hid (writeText k c s q v de xs = headText k c s q v de xs.length ++ xs.flatMap depText) := by simp [writeText, hok, Hid]
    obtain ⟨o1, o2, o3, o4, -⟩ := ok_parts hok
    have HB : Hid (∀ x ∈ headNs k c s q v de xs.length, -9223372036854775808 ≤ x ∧ x ≤ 9223372036854775807) := head_bounds o1 o2 o3 hn
    obtain ⟨t1, HT1⟩ : ∃ t, Hid (t = str (Lib.itoa k)) := ⟨_, Lib.hid rfl⟩
    obtain ⟨t2, HT2⟩ : ∃ t, Hid (t = str (Lib.itoa c)) := ⟨_, Lib.hid rfl⟩
    obtain ⟨t3, HT3⟩ : ∃ t, Hid (t = str (Lib.itoa s)) := ⟨_, Lib.hid rfl⟩
    obtain ⟨t4, HT4⟩ : ∃ t, Hid (t = str (Lib.itoa q)) := ⟨_, Lib.hid rfl⟩
    obtain ⟨t5, HT5⟩ : ∃ t, Hid (t = str (Lib.itoa v)) := ⟨_, Lib.hid rfl⟩
    obtain ⟨t6, HT6⟩ : ∃ t, Hid (t = str (Lib.itoa (bitI de))) := ⟨_, Lib.hid rfl⟩
    obtain ⟨t7, HT7⟩ : ∃ t, Hid (t = str (Lib.itoa (xs.length : Int))) := ⟨_, Lib.hid rfl⟩
    have c6 := HX.out.c6
    obtain ⟨w2, hmk, hw2⟩ := make_words HX.out xs.length hn
    have G : w1.heap.size ≠ w.heap.size := hw2.ne
    clear HX
    generalize w1.heap.size = b at hmk hw2 G
    clear G
    have HW0 : Hid (Words w w2 k c s q v de ag xs.length cap b (8 + 4 * xs.length) [⟨#[]⟩, ⟨#[]⟩, ⟨#[]⟩, ⟨#[]⟩, ⟨#[]⟩, ⟨#[]⟩, ⟨#[]⟩, ⟨#[]⟩]) := hw2
    clear hw2
    have d0 := HW0.out.row.cell (j := 0) (t := ⟨#[]⟩) rfl
    have f0 := HW0.out.row.froz 0
    have K0 : Hid (Words w (w2.setCell ⟨b, 0, none⟩ (.string ⟨#[119]⟩)) k c s q v de ag xs.length cap b (8 + 4 * xs.length) [⟨#[119]⟩, ⟨#[]⟩, ⟨#[]⟩, ⟨#[]⟩, ⟨#[]⟩, ⟨#[]⟩, ⟨#[]⟩, ⟨#[]⟩]) := HW0.out.set 0 _
    have e0 := K0.out.box.c0
    go_wp2_with fail
    refine (implNumT _ t1 _ HT1.out (HB.out _ (by simp [headNs])) (K0.out.tab HT.out)).mono ?_
    rintro e w3 ⟨rfl, hb⟩
    have HW1 : Hid (Words w w3 k c s q v de ag xs.length cap b (8 + 4 * xs.length) [⟨#[119]⟩, ⟨#[]⟩, ⟨#[]⟩, ⟨#[]⟩, ⟨#[]⟩, ⟨#[]⟩, ⟨#[]⟩, ⟨#[]⟩]) := K0.out.step hb
    clear hb K0 HW0 d0 f0 e0
    clear hmk c6
    have d1 := HW1.out.row.cell (j := 1) (t := ⟨#[]⟩) rfl
    have f1 := HW1.out.row.froz 1
    have K1 : Hid (Words w (w3.setCell ⟨b, 1, none⟩ (.string t1)) k c s q v de ag xs.length cap b (8 + 4 * xs.length) [⟨#[119]⟩, t1, ⟨#[]⟩, ⟨#[]⟩, ⟨#[]⟩, ⟨#[]⟩, ⟨#[]⟩, ⟨#[]⟩]) := HW1.out.set 1 _
    have e1 := K1.out.box.c1
    go_wp2_with fail
    refine (implNumT _ t2 _ HT2.out (HB.out _ (by simp [headNs])) (K1.out.tab HT.out)).mono ?_
    rintro e w4 ⟨rfl, hb⟩
    have HW2 : Hid (Words w w4 k c s q v de ag xs.length cap b (8 + 4 * xs.length) [⟨#[119]⟩, t1, ⟨#[]⟩, ⟨#[]⟩, ⟨#[]⟩, ⟨#[]⟩, ⟨#[]⟩, ⟨#[]⟩]) := K1.out.step hb
    clear hb K1 HW1 d1 f1 e1
    have d2 := HW2.out.row.cell (j := 2) (t := ⟨#[]⟩) rfl
    have f2 := HW2.out.row.froz 2
    have K2 : Hid (Words w (w4.setCell ⟨b, 2, none⟩ (.string t2)) k c s q v de ag xs.length cap b (8 + 4 * xs.length) [⟨#[119]⟩, t1, t2, ⟨#[]⟩, ⟨#[]⟩, ⟨#[]⟩, ⟨#[]⟩, ⟨#[]⟩]) := HW2.out.set 2 _
    have e2 := K2.out.box.c2
    go_wp2_with fail
    refine (implNumT _ t3 _ HT3.out (HB.out _ (by simp [headNs])) (K2.out.tab HT.out)).mono ?_
    rintro e w5 ⟨rfl, hb⟩
    have HW3 : Hid (Words w w5 k c s q v de ag xs.length cap b (8 + 4 * xs.length) [⟨#[119]⟩, t1, t2, ⟨#[]⟩, ⟨#[]⟩, ⟨#[]⟩, ⟨#[]⟩, ⟨#[]⟩]) := K2.out.step hb
    clear hb K2 HW2 d2 f2 e2
    have d3 := HW3.out.row.cell (j := 3) (t := ⟨#[]⟩) rfl
    have f3 := HW3.out.row.froz 3
    have K3 : Hid (Words w (w5.setCell ⟨b, 3, none⟩ (.string t3)) k c s q v de ag xs.length cap b (8 + 4 * xs.length) [⟨#[119]⟩, t1, t2, t3, ⟨#[]⟩, ⟨#[]⟩, ⟨#[]⟩, ⟨#[]⟩]) := HW3.out.set 3 _
    have e3 := K3.out.box.c3
    go_wp2_with fail
    refine (implNumT _ t4 _ HT4.out (HB.out _ (by simp [headNs])) (K3.out.tab HT.out)).mono ?_
    rintro e w6 ⟨rfl, hb⟩
    have HW4 : Hid (Words w w6 k c s q v de ag xs.length cap b (8 + 4 * xs.length) [⟨#[119]⟩, t1, t2, t3, ⟨#[]⟩, ⟨#[]⟩, ⟨#[]⟩, ⟨#[]⟩]) := K3.out.step hb
    clear hb K3 HW3 d3 f3 e3
    have d4 := HW4.out.row.cell (j := 4) (t := ⟨#[]⟩) rfl
    have f4 := HW4.out.row.froz 4
    have K4 : Hid (Words w (w6.setCell ⟨b, 4, none⟩ (.string t4)) k c s q v de ag xs.length cap b (8 + 4 * xs.length) [⟨#[119]⟩, t1, t2, t3, t4, ⟨#[]⟩, ⟨#[]⟩, ⟨#[]⟩]) := HW4.out.set 4 _
    have e4 := K4.out.box.c4
    go_wp2_with fail
    refine (implNumT _ t5 _ HT5.out (HB.out _ (by simp [headNs])) (K4.out.tab HT.out)).mono ?_
    rintro e w7 ⟨rfl, hb⟩
    have HW5 : Hid (Words w w7 k c s q v de ag xs.length cap b (8 + 4 * xs.length) [⟨#[119]⟩, t1, t2, t3, t4, ⟨#[]⟩, ⟨#[]⟩, ⟨#[]⟩]) := K4.out.step hb
    clear hb K4 HW4 d4 f4 e4
    have d5 := HW5.out.row.cell (j := 5) (t := ⟨#[]⟩) rfl
    have f5 := HW5.out.row.froz 5
    have K5 : Hid (Words w (w7.setCell ⟨b, 5, none⟩ (.string t5)) k c s q v de ag xs.length cap b (8 + 4 * xs.length) [⟨#[119]⟩, t1, t2, t3, t4, t5, ⟨#[]⟩, ⟨#[]⟩]) := HW5.out.set 5 _
    have e5 := K5.out.box.c5
    go_wp2_with fail
    refine (flag_any de _).mono ?_
    rintro e w' ⟨rfl, rfl⟩
    go_wp2_with fail
    refine (implNumT _ t6 _ HT6.out (HB.out _ (by simp [headNs])) (K5.out.tab HT.out)).mono ?_
    rintro e w8 ⟨rfl, hb⟩
    have HW6 : Hid (Words w w8 k c s q v de ag xs.length cap b (8 + 4 * xs.length) [⟨#[119]⟩, t1, t2, t3, t4, t5, ⟨#[]⟩, ⟨#[]⟩]) := K5.out.step hb
    clear hb K5 HW5 d5 f5 e5
    have d6 := HW6.out.row.cell (j := 6) (t := ⟨#[]⟩) rfl
    have f6 := HW6.out.row.froz 6
    have K6 : Hid (Words w (w8.setCell ⟨b, 6, none⟩ (.string t6)) k c s q v de ag xs.length cap b (8 + 4 * xs.length) [⟨#[119]⟩, t1, t2, t3, t4, t5, t6, ⟨#[]⟩]) := HW6.out.set 6 _
    have e6 := K6.out.box.c6
    go_wp2_with fail
    refine (implNumT _ t7 _ HT7.out (HB.out _ (by simp [headNs])) (K6.out.tab HT.out)).mono ?_
    rintro e w9 ⟨rfl, hb⟩
    have HW7 : Hid (Words w w9 k c s q v de ag xs.length cap b (8 + 4 * xs.length) [⟨#[119]⟩, t1, t2, t3, t4, t5, t6, ⟨#[]⟩]) := K6.out.step hb
    clear hb K6 HW6 d6 f6 e6
    have d7 := HW7.out.row.cell (j := 7) (t := ⟨#[]⟩) rfl
    have f7 := HW7.out.row.froz 7
    have K7 : Hid (Words w (w9.setCell ⟨b, 7, none⟩ (.string t7)) k c s q v de ag xs.length cap b (8 + 4 * xs.length) [⟨#[119]⟩, t1, t2, t3, t4, t5, t6, t7]) := HW7.out.set 7 _
    have e7 := K7.out.box.c6
    have HE : Hid ([⟨#[119]⟩, t1, t2, t3, t4, t5, t6, t7] = wordsOf (headNs k c s q v de xs.length)) := by
      rw [HT1.out, HT2.out, HT3.out, HT4.out, HT5.out, HT6.out, HT7.out]
      exact Lib.hid rfl
    clear HT1 HT2 HT3 HT4 HT5 HT6 HT7
    go_wp2
    go_loopw [3, 60] (fun t i wr => ∃ (j g' wc : Nat) (ns : List Int), j ≤ xs.length ∧ i = .int .i64 j ∧ t = .slice (some ⟨g', 0, none⟩) (8 + 4 * j) wc ∧ Hid (ns = headNs k c s q v de xs.length ++ (xs.take j).flatMap depNs) ∧ Hid ((wordsOf ns).length = 8 + 4 * j) ∧ Hid (∀ x ∈ ns, B64 x) ∧ Hid (Words w wr k c s q v de ag xs.length cap g' wc (wordsOf ns))) (fun _ i _ => xs.length - (intOf i).toNat)
    case atStart => exact ⟨0, b, 8 + 4 * xs.length, headNs k c s q v de xs.length, by omega, rfl, rfl, by simp [Hid], rfl, HB.out, by rw [HE.out] at K7; exact K7⟩
    case round =>
    clear K7 HE HW7 d7 f7 e7 HB
    obtain ⟨j, g', wc, ns, hj, rfl, rfl, HN, HL, HBN, HWD⟩ := hrel
    by_cases hj' : j < xs.length
    · have j1 : (0 : Int) ≤ (j : Int) := by omega
      have j2 : (j : Int) < (xs.length : Int) := by omega
      obtain ⟨g, rfl, hlt, hhd⟩ := HH.out.get hj'
      obtain ⟨e0, e1, e2, e3⟩ := dep_cells4 hhd HWD.out.box.below hlt hj'
      clear hhd
      have HBD : Hid (∀ x ∈ depNs (xs.getD j dz), B64 x) := dep_b64 (ints_key (dep_key o4 hj')) (ints_tag (depsOk_tag o4 hj'))
      have HM := Lib.hid (deps_more xs j hj')
      rw [show depNs (xs.getD j dz) = [(xs.getD j dz).k, (xs.getD j dz).c, (xs.getD j dz).s, (xs.getD j dz).q] from rfl] at HBD HM
      generalize (xs.getD j dz).k = x0 at e0 HBD HM
      generalize (xs.getD j dz).c = x1 at e1 HBD HM
      generalize (xs.getD j dz).s = x2 at e2 HBD HM
      generalize (xs.getD j dz).q = x3 at e3 HBD HM
      obtain ⟨y0, HY0⟩ : ∃ t, Hid (t = str (Lib.itoa x0)) := ⟨_, Lib.hid rfl⟩
      obtain ⟨y1, HY1⟩ : ∃ t, Hid (t = str (Lib.itoa x1)) := ⟨_, Lib.hid rfl⟩
      obtain ⟨y2, HY2⟩ : ∃ t, Hid (t = str (Lib.itoa x2)) := ⟨_, Lib.hid rfl⟩
      obtain ⟨y3, HY3⟩ : ∃ t, Hid (t = str (Lib.itoa x3)) := ⟨_, Lib.hid rfl⟩
      go_wp2_with fail
      clear e0 e1 e2 e3
      have HWD0 : Hid (Words w (wr.alloc (.cells #[.int .i64 x0, .int .i64 x1, .int .i64 x2, .int .i64 x3] 75)) k c s q v de (some ⟨g, 0, none⟩) xs.length cap g' wc (wordsOf ns)) := HWD.out.step ((Below.refl _ _).alloc (Nat.le_refl _) _)
      have HDP : Hid (DepIn wr.heap.size x0 x1 x2 x3 (wr.alloc (.cells #[.int .i64 x0, .int .i64 x1, .int .i64 x2, .int .i64 x3] 75))) := DepIn.new x0 x1 x2 x3 wr _
      generalize wr.alloc (.cells #[.int .i64 x0, .int .i64 x1, .int .i64 x2, .int .i64 x3] 75) = wd at HWD0 HDP ⊢
      generalize wr.heap.size = bd at HDP ⊢
      clear HWD
      refine wp_region_slots 17 [[(3, false)], [(5, false)], [(65, true)], [(66, true)], [(5, false)], [(68, true)], [(69, true)], [(70, true)], [(5, false)], [(72, true)], [(73, true)], [(74, true)], [(5, false)], [(76, true)], [(77, true)], [(78, true)], [(67, true), (71, true), (75, true), (79, true)]] (fun w' => Hid (Words w w' k c s q v de (some ⟨g, 0, none⟩) xs.length cap g' wc (wordsOf ns)) ∧ DepIn bd x0 x1 x2 x3 w') (fun w w' => Below w.heap.size w w') (by kernel_rfl) (by kernel_rfl) (by rfl) ⟨HWD0.out.step (Below.refl _ _).drew, HDP.out.step (Below.refl _ _).drew⟩ (fun _ _ h hb => ⟨h.1.out.step hb, h.2.step hb⟩) ?_
      iterate 3 (apply slot_eq; · (intro ρ w' ⟨p1, p2, p3⟩ ⟨HS, hz, e0, e1, e2, e3⟩ hn; simp at hn; go_simp; exact ⟨Below.refl _ _, rfl⟩))
      apply slot_eq
      · intro ρ w' ⟨p1, p2, p3⟩ ⟨HS, hz, e0, e1, e2, e3⟩ hn
        simp at hn
        go_simp
        exact got_call (implNumT x0 y0 _ HY0.out (HBD.out x0 (by simp)) (HS.out.tab HT.out)) fun e w'' ⟨he, hb⟩ => ⟨_, he, hb, rfl⟩
      iterate 3 (apply slot_eq; · (intro ρ w' ⟨p1, p2, p3⟩ ⟨HS, hz, e0, e1, e2, e3⟩ hn; simp at hn; go_simp; exact ⟨Below.refl _ _, rfl⟩))
      apply slot_eq
      · intro ρ w' ⟨p1, p2, p3⟩ ⟨HS, hz, e0, e1, e2, e3⟩ hn
        simp at hn
        go_simp
        exact got_call (implNumT x1 y1 _ HY1.out (HBD.out x1 (by simp)) (HS.out.tab HT.out)) fun e w'' ⟨he, hb⟩ => ⟨_, he, hb, rfl⟩
      iterate 3 (apply slot_eq; · (intro ρ w' ⟨p1, p2, p3⟩ ⟨HS, hz, e0, e1, e2, e3⟩ hn; simp at hn; go_simp; exact ⟨Below.refl _ _, rfl⟩))
      apply slot_eq
      · intro ρ w' ⟨p1, p2, p3⟩ ⟨HS, hz, e0, e1, e2, e3⟩ hn
        simp at hn
        go_simp
        exact got_call (implNumT x2 y2 _ HY2.out (HBD.out x2 (by simp)) (HS.out.tab HT.out)) fun e w'' ⟨he, hb⟩ => ⟨_, he, hb, rfl⟩
      iterate 3 (apply slot_eq; · (intro ρ w' ⟨p1, p2, p3⟩ ⟨HS, hz, e0, e1, e2, e3⟩ hn; simp at hn; go_simp; exact ⟨Below.refl _ _, rfl⟩))
      apply slot_eq
      · intro ρ w' ⟨p1, p2, p3⟩ ⟨HS, hz, e0, e1, e2, e3⟩ hn
        simp at hn
        go_simp
        exact got_call (implNumT x3 y3 _ HY3.out (HBD.out x3 (by simp)) (HS.out.tab HT.out)) fun e w'' ⟨he, hb⟩ => ⟨_, he, hb, rfl⟩
      refine slot_fact (StrsFact [y0, y1, y2, y3]) (lasts_strs _) ?_ ?_
      · intro ρ w' ⟨p1, p2, p3⟩ ⟨HS, hz, e0, e1, e2, e3⟩ hn
        simp at hn
        go_simp
        exact ⟨(Below.refl _ _).alloc (Nat.le_refl _) _, strs_new [y0, y1, y2, y3]⟩
      refine slot_end ?_
      rintro vs w3 ⟨HS, -⟩ hF
      clear HWD0 HDP
      simp at hF
      obtain ⟨⟨g2, v80, hg2, hc2⟩, v79, v78, v77, v76, v75, v74, v73, v72, v71, v70, v69, v68, v67, v66, v65, v64⟩ := hF
      simp only [List.take_succ_cons, List.take_zero, List.drop_succ_cons, List.drop_zero, putAll, v80, v79, v78, v77, v76, v75, v74, v73, v72, v71, v70, v69, v68, v67, v66, v65, v64]
      clear v80 v79 v78 v77 v76 v75 v74 v73 v72 v71 v70 v69 v68 v67 v66 v65 v64
      obtain ⟨i0, hi0, hx0⟩ := Option.map_eq_some_iff.1 infoStr
      simp only [Prod.mk.injEq] at hx0
      have HI0 := Lib.hid hi0
      have HX0 := Lib.hid hx0
      clear hi0 hx0
      have HOW : Hid (w3.ownsRow (w.heap.size + 1) 9 1 (.slice (some ⟨g', 0, none⟩) (8 + 4 * j) wc) (8 + 4 * j) ((wordsOf ns).map Value.string)) := by
        have h := HS.out.row.own
        rw [HL.out] at h
        exact h
      have HC2 : Hid (∀ (i : Nat) u, ([y0, y1, y2, y3].map Value.string)[i]? = some u → w3.cell? ((⟨g2, 0, none⟩ : Addr).add i) = some u) := fun i u hu => by
        have := hc2 i u (by simpa using hu)
        cases i with
        | zero => simpa [Addr.add] using this
        | succ i => simpa [Addr.add] using this
      have hb3 : w.heap.size + 1 ≤ w3.heap.size := HS.out.box.lt
      clear hc2
      simp only [Act.put, List.setIfInBounds_toArray, List.set_cons_succ, List.set_cons_zero]
      go_wp2_with (at_builtin; refine wpList_append_lies _ (by rfl) _ _ _ (by rfl) (w.heap.size + 1) 9 i0 (.string ⟨#[]⟩) 1 16 Tryd.underlying86 HI0.out HX0.out.1 HX0.out.2.1 HX0.out.2.2 (by rfl) (by omega) (.slice (some ⟨g', 0, none⟩) (8 + 4 * j) wc) (8 + 4 * j) ((wordsOf ns).map Value.string) (by rfl) HOW.out ⟨g2, 0, none⟩ 4 4 ([y0, y1, y2, y3].map Value.string) (by rfl) (by rfl) HC2.out (by simp [Value.oneCell']) (by omega) (by unfold maxLen; omega) (by omega) hb3 _ rfl ?_; intro g3 wc3 w5 hown hgrow _ _; refine Hid.out ?_)
      refine Lib.hid ?_
      have HN5 : Hid (ns ++ [x0, x1, x2, x3] = headNs k c s q v de xs.length ++ (xs.take (j + 1)).flatMap depNs) := by
        rw [HM.out, HN.out, List.append_assoc]
        exact Lib.hid rfl
      have HE5 : Hid (wordsOf (ns ++ [x0, x1, x2, x3]) = wordsOf ns ++ [y0, y1, y2, y3]) := by
        rw [words_more, HY0.out, HY1.out, HY2.out, HY3.out]
        exact Lib.hid rfl
      have HL5 : Hid ((wordsOf (ns ++ [x0, x1, x2, x3])).length = 8 + 4 * (j + 1)) := by
        rw [HE5.out, List.length_append, HL.out]
        exact Lib.hid rfl
      have HB5 : Hid (∀ x ∈ ns ++ [x0, x1, x2, x3], B64 x) := fun x hx => (List.mem_append.1 hx).elim (HBN.out x) (HBD.out x)
      obtain ⟨hlt3, hle3⟩ := (fun h => (hown.lt g3 h).symm : _ → _ ∧ _) rfl
      have HW5 : Hid (Words w w5 k c s q v de (some ⟨g, 0, none⟩) xs.length cap g3 wc3 (wordsOf (ns ++ [x0, x1, x2, x3]))) := by
        refine HS.out.grown hgrow ⟨hle3, hlt3, ?_⟩
        rw [HL5.out, HE5.out, List.map_append]
        exact hown
      clear hown hgrow HS HOW HC2 HN HL HBN HE5
      go_wp2
      exact ⟨⟨j + 1, g3, wc3, _, by omega, by go_num, rfl, HN5, HL5, HB5, HW5⟩, by simp [intOf]; omega⟩
    · have hjn : j = xs.length := by omega
      subst hjn
      have HNW : Hid (writeText k c s q v de xs = 119 :: numsText ns) := by
        rw [HW.out, ← text_nums, HN.out, List.take_length]
        exact Lib.hid rfl
      have hlen : (119 :: numsText ns).length ≤ 140737488355328 := by
        have h1 := nums_most ns HBN.out
        have h2 := HL.out
        simp only [wordsOf, List.length_cons, List.length_map] at h2
        simp only [List.length_cons]
        omega
      go_wp2_with fail
      refine (join_any _ g' wc _ ns _ HL.out (by omega) HWD.out.row hlen).mono ?_
      rintro e w3 ⟨rfl, hb⟩
      have HB3 : Hid (Below w.heap.size w w3) := below_step HWD.out.box.below HWD.out.box.below.size hb
      clear hb
      go_wp2
      go_ret
      rw [HNW.out]
      exact ⟨rfl, HB3.out⟩
end Go.Proofs.YtidpcjcnhklmpalDoor

/- The contract of impl.BatchText. -/
namespace Go.Proofs.YtidpcjcnhklmpalDoor
open Go.ChangeShapes Go.WideShapes Go.ChangeAt Go.RowKit Go.Joins
attribute [local go_sem ↓] Go.wp_at_zero Go.wp_at_succ

set_option maxRecDepth 100000 in
theorem IsWs0.isWs {w : World} {a : Option Addr} {ws : List Wr} (h : IsWs0 w a ws) (hx : Few ws) : IsWs w a ws := by
  rcases h with h | ⟨b, o, ha, hlt, hh⟩
  · exact .inl h
  · refine .inr ⟨b, o, ha, hlt, fun i hi => ?_⟩
    obtain ⟨a', cap, h1, h2⟩ := hh i hi
    have h3 := hx i hi
    exact ⟨a', cap, h1, by unfold maxLen; omega, h2.isDeps⟩

set_option maxRecDepth 100000 in
set_option maxHeartbeats 4000000 in
theorem implBatch_any (a : Option Addr) (n cap : Nat) (ws : List Wr) (w : World) (hn : ws.length = n) (hm : n ≤ 1048576) (hx : Few ws) (hh : IsWs0 w a ws) (ht : Tab w) :
    Calls Tryd.prog 19 #[.slice a n cap] w fun e w' => e = .returned (.string (str (batchT ws))) ∧ Below w.heap.size w w' := by
  have hlt : 1 < w.heap.size := ht.lt
  have HT := Lib.hid ht
  have HN := Lib.hid hn
  have HX := Lib.hid hx
  have HH := Lib.hid hh
  clear ht hn hx hh
  by_cases hr : 1 ≤ n ∧ n ≤ 6
  rotate_left
  · have HE : Hid (batchT ws = []) := by
      show _ = _
      unfold batchT
      rw [if_neg fun h => hr (by rw [← HN.out]; exact okWs_len h)]
    have hb : btw (n : Int) 1 6 = false := by
      cases h : btw (n : Int) 1 6
      · rfl
      · exact absurd (by have := btw_bounds h; omega) hr
    go_enter Tryd.func19, Tryd.ntmps19
    go_wp2_with fail
    refine (inRange_any _ _ _ _).mono ?_
    rintro e w1 ⟨rfl, hw⟩
    subst w1
    rw [hb]
    go_wp2
    go_ret
    exact ⟨by rw [HE.out]; rfl, Below.refl _ _⟩
  have hb : btw (n : Int) 1 6 = true := by unfold btw; simp; omega
  cases hall : ws.all okW
  · have HE : Hid (batchT ws = []) := by
      show _ = _
      unfold batchT
      rw [if_neg fun h => by
        have h2 : ws.all okW = true := List.all_eq_true.2 (okWs_all h)
        rw [hall] at h2
        cases h2]
    go_enter Tryd.func19, Tryd.ntmps19
    go_wp2_with fail
    refine (inRange_any _ _ _ _).mono ?_
    rintro e w1 ⟨rfl, hw⟩
    subst w1
    rw [hb]
    go_wp2_with fail
    refine (allOk_any a n cap ws _ HN.out hm HX.out (HH.out.isWs HX.out)).mono ?_
    rintro e w1 ⟨rfl, hbl⟩
    have HB1 := Lib.hid hbl
    clear hbl
    rw [hall]
    go_wp2
    go_ret
    exact ⟨by rw [HE.out]; rfl, HB1.out⟩
  have HOK : Hid (okWs ws = true) := by
    show _ = _
    unfold okWs
    simp only [Bool.and_eq_true, decide_eq_true_eq]
    exact ⟨by rw [HN.out]; exact hr, hall⟩
  have HA0 : Hid (str (headB n ++ [10]) = str (accB ws 0)) := by
    show _ = _
    unfold accB
    rw [HN.out]
    simp
  have z0 : (str (headB n ++ [10])).size ≤ 28 := by
    have := Lib.itoa_length_le (n : Int) (by omega) (by omega)
    rw [str_size]
    unfold headB
    simp
    omega
  go_enter Tryd.func19, Tryd.ntmps19
  go_wp2_with fail
  refine (inRange_any _ _ _ _).mono ?_
  rintro e w1 ⟨rfl, hw⟩
  subst w1
  rw [hb]
  go_wp2_with fail
  refine (allOk_any a n cap ws _ HN.out hm HX.out (HH.out.isWs HX.out)).mono ?_
  rintro e w1 ⟨rfl, hbl⟩
  have HB1 := Lib.hid hbl
  clear hbl
  rw [hall]
  clear hall hb
  go_wp2_with fail
  refine (headLine_any n _ hr.2 (HT.out.below HB1.out hlt)).mono ?_
  rintro e w2 ⟨rfl, hbl⟩
  have HB2 := Lib.hid (below_step HB1.out HB1.out.size hbl)
  clear hbl HB1
  generalize str (headB n ++ [10]) = t0 at *
  go_wp2
  go_loopw [3, 20] (fun t i wr => ∃ (j : Nat) (acc : ByteArray), j ≤ n ∧ i = .int .i64 j ∧ t = .string acc ∧ acc.size ≤ 28 + 401 * j ∧ Hid (acc = str (accB ws j)) ∧ Hid (Below w.heap.size w wr)) (fun _ i _ => n - (intOf i).toNat)
  case atStart => exact ⟨0, _, Nat.zero_le _, rfl, rfl, by omega, HA0, HB2⟩
  case round =>
    clear HA0 HB2 z0
    obtain ⟨j, acc, hj, rfl, rfl, hsz, HA, HB⟩ := hrel
    by_cases hj' : j < n
    · have hjj : j < ws.length := by rw [HN.out]; exact hj'
      have i1 : (0 : Int) ≤ (j : Int) := by omega
      have i2 : (j : Int) < (n : Int) := by omega
      obtain ⟨b, o, rfl, hz, hall⟩ : ∃ b o, a = some ⟨b, o, none⟩ ∧ b < wr.heap.size ∧ ∀ i, i < ws.length → ∃ a' cap, WrAt wr b (o + i * 7) (ws.getD i wz) a' cap ∧ Deps0 wr a' (ws.getD i wz).xs := by
        rcases HH.out.below HB.out with h | h
        · rw [h] at hjj
          simp at hjj
        · exact h
      obtain ⟨ad, cp, ⟨e0, e1, e2, e3, e4, e5, e6⟩, hd⟩ := hall j hjj
      have hxl := HX.out j hjj
      have HD := Lib.hid hd
      have HNX := Lib.hid (accB_next ws hjj)
      have HT4 := Lib.hid (text_400 (x := ws.getD j wz))
      clear hall hd
      generalize ws.getD j wz = x at *
      obtain ⟨xk, xc, xs', xq, xv, xd, xx⟩ := x
      simp only at e0 e1 e2 e3 e4 e5 e6 hxl HD
      have HAB : Hid (Below wr.heap.size wr (wr.alloc (.cells #[.int .i64 xk, .int .i64 xc, .int .i64 xs', .int .i64 xq, .int .i64 xv, .bool xd, .slice ad xx.length cp] 49))) := (Below.refl _ _).alloc (Nat.le_refl _) _
      have HBA := Lib.hid (below_step HB.out HB.out.size HAB.out)
      have HDA := Lib.hid (deps0_stay HD.out HAB.out)
      go_wp2_with fail
      refine (implText_gen xk xc xs' xq xv xd ad xx _ cp _ rfl hxl HDA.out (HT.out.below HBA.out hlt)).mono ?_
      rintro e w2 ⟨rfl, hbl⟩
      have HB2 := Lib.hid (below_step HBA.out HBA.out.size hbl)
      clear hbl HB HD HDA HBA HAB e0 e1 e2 e3 e4 e5 e6
      have HTX : Hid (textR ⟨xk, xc, xs', xq, xv, xd, xx⟩ = writeText xk xc xs' xq xv xd xx) := rfl
      have h4 := HT4.out
      rw [HTX.out] at h4 HNX
      have hs : (str (writeText xk xc xs' xq xv xd xx)).size ≤ 400 := by rw [str_size]; exact h4
      have HSA : Hid (acc ++ (str (writeText xk xc xs' xq xv xd xx) ++ ⟨#[10]⟩) = str (accB ws (j + 1))) := by
        have e3 : (⟨#[10]⟩ : ByteArray) = str [10] := rfl
        show _ = _
        rw [HA.out, e3, str_add, str_add, HNX.out]
      clear h4 HNX HT4 HTX
      generalize str (writeText xk xc xs' xq xv xd xx) = tx at *
      have y1 : (tx ++ ⟨#[10]⟩).size ≤ 401 := by
        rw [ByteArray.size_append]
        have : (⟨#[10]⟩ : ByteArray).size = 1 := rfl
        omega
      have y2 : (acc ++ (tx ++ ⟨#[10]⟩)).size ≤ 28 + 401 * (j + 1) := by
        rw [ByteArray.size_append]
        omega
      go_wp2
      exact ⟨⟨j + 1, _, by omega, by go_num, rfl, y2, HSA, HB2⟩, by simp [intOf]; omega⟩
    · have hjn : j = n := by omega
      subst hjn
      have hacc : acc.size ≤ 3000 := by omega
      have HBD : Hid (accB ws j = bodyB ws) := by
        show _ = _
        unfold accB bodyB
        rw [List.take_of_length_le (by rw [HN.out]; exact Nat.le_refl _)]
      have HAL : Hid (acc.data.toList = bodyB ws) := by
        show _ = _
        rw [HA.out, HBD.out]
        simp [str]
      have HFE : Hid (acc ++ str (sumL (bodyB ws) ++ [10]) = str (batchT ws)) := by
        show _ = _
        unfold batchT
        rw [if_pos HOK.out, HA.out, HBD.out, str_add]
        rfl
      have z4 : (str (sumL (bodyB ws) ++ [10])).size ≤ 26 := by
        have := sumL_size (bodyB ws)
        rw [str_size]
        simp
        omega
      go_wp2_with fail
      refine (sumLine_any acc _ (by omega) (HT.out.below HB.out hlt)).mono ?_
      rintro e w2 ⟨rfl, hbl⟩
      have HB2 := Lib.hid (below_step HB.out HB.out.size hbl)
      clear hbl
      rw [HAL.out]
      generalize str (sumL (bodyB ws) ++ [10]) = tc at *
      have z5 : (acc ++ tc).size ≤ 3100 := by rw [ByteArray.size_append]; omega
      go_wp2
      go_ret
      exact ⟨by rw [← HFE.out]; rfl, HB2.out⟩

end Go.Proofs.YtidpcjcnhklmpalDoor

/- What comes in, opened: tags, dependencies, slices of them, writes. -/
namespace Go.Proofs.YtidpcjcnhklmpalDoor
open Go.ChangeShapes Go.WideShapes Go.ChangeAt Go.RowKit Go.Joins Go.Deep
set_option maxRecDepth 100000

theorem cellsInt : Tryd.prog.cellsOf 3 = 1 := by kernel_rfl

theorem cellsTag : Tryd.prog.cellsOf 39 = 3 := by kernel_rfl

theorem cellsDep : Tryd.prog.cellsOf 94 = 4 := by kernel_rfl

section
variable {H : Type} {enc : TypeId × Value → H} {w : World} {base : Nat} {spare : Nat → Bool} {held : Bool}

theorem tag_cells {fuel : Nat} {cs : List Value} {x : DataW H × List MemPlace} (h : DataW.trod enc Tryd.prog w base spare held fuel 39 cs = some x) : ∃ c s q : Int, cs = [.int .i64 c, .int .i64 s, .int .i64 q] := by
  obtain ⟨y0, y1, y2, n, _, hl, h0, h1, h2⟩ := trod_struct3 Tryd.underlying39 h
  rw [cellsTag] at hl
  match cs, hl with
  | [v0, v1, v2], _ =>
    obtain ⟨a0, e0, _, _⟩ := DataW.trod_int Tryd.underlying3 h0
    obtain ⟨a1, e1, _, _⟩ := DataW.trod_int Tryd.underlying3 h1
    obtain ⟨a2, e2, _, _⟩ := DataW.trod_int Tryd.underlying3 h2
    simp [cellsInt] at e0 e1 e2
    subst e0 e1 e2
    exact ⟨a0, a1, a2, rfl⟩

theorem dep_cells {fuel : Nat} {cs : List Value} {x : DataW H × List MemPlace} (h : DataW.trod enc Tryd.prog w base spare held fuel 94 cs = some x) : ∃ d : Dp, cs = [.int .i64 d.k, .int .i64 d.c, .int .i64 d.s, .int .i64 d.q] := by
  obtain ⟨y0, y1, n, _, hl, h0, h1⟩ := trod_struct2 Tryd.underlying94 h
  rw [cellsDep] at hl
  match cs, hl with
  | [v0, v1, v2, v3], _ =>
    obtain ⟨a0, e0, _, _⟩ := DataW.trod_int Tryd.underlying3 h0
    obtain ⟨c, s, q, e1⟩ := tag_cells h1
    simp [cellsInt] at e0
    simp [cellsTag] at e1
    obtain ⟨e1, e2, e3⟩ := e1
    subst e0 e1 e2 e3
    exact ⟨⟨a0, c, s, q⟩, rfl⟩

theorem add_form {a : Addr} {v : Value} (h : w.cell? a = some v) : a = ⟨a.block, a.off, none⟩ := by
  cases a with
  | mk b o s =>
    cases s with
    | none => rfl
    | some s =>
      simp only [World.cell?] at h
      split at h <;> simp at h

theorem add_plain (b o i : Nat) : (Addr.mk b o none).add i = ⟨b, o + i, none⟩ := by
  unfold Addr.add
  split
  · rename_i h
    rw [h]
    rfl
  · rfl

theorem deps_cells {fuel : Nat} {a : Option Addr} {len cap : Nat} {x : DataW H × List MemPlace} (h : DataW.trod enc Tryd.prog w base spare held fuel 40 [.slice a len cap] = some x) :
    ∃ xs : List Dp, xs.length = len ∧ len ≤ maxLen ∧ IsDeps w a xs := by
  rcases open_slice Tryd.underlying40 h with ⟨hcs, _⟩ | ⟨a', len', cap', m, n, D, Pl, hcs, _, hl, hm, hmm, _, hel⟩
  · simp at hcs
    obtain ⟨rfl, rfl, rfl⟩ := hcs
    exact ⟨[], rfl, Nat.zero_le _, .inl rfl⟩
  · simp at hcs
    obtain ⟨rfl, rfl, rfl⟩ := hcs
    have hml : len ≤ m := by rw [hmm]; split <;> omega
    have hd : ∀ i, i < len → ∃ d : Dp, w.cell? (a'.add (i * 4)) = some (.int .i64 d.k) ∧ w.cell? (a'.add (i * 4 + 1)) = some (.int .i64 d.c) ∧ w.cell? (a'.add (i * 4 + 2)) = some (.int .i64 d.s) ∧ w.cell? (a'.add (i * 4 + 3)) = some (.int .i64 d.q) := by
      intro i hi
      obtain ⟨cs', h1, h2⟩ := hel i (by omega)
      rw [cellsDep] at h1
      obtain ⟨_, _, hc⟩ := World.cells?_some h1
      obtain ⟨d, hdd⟩ := dep_cells h2
      rw [hdd] at hc
      have c0 := hc 0 (by omega)
      have c1 := hc 1 (by omega)
      have c2 := hc 2 (by omega)
      have c3 := hc 3 (by omega)
      rw [add_add] at c0 c1 c2 c3
      exact ⟨d, by simpa using c0, by simpa using c1, by simpa using c2, by simpa using c3⟩
    by_cases h0 : len = 0
    · subst h0
      exact ⟨[], rfl, Nat.zero_le _, .inl rfl⟩
    have : Inhabited Dp := ⟨dz⟩
    obtain ⟨f, hf⟩ := choose_lt hd
    have ha : a' = ⟨a'.block, a'.off, none⟩ := by
      have h1 := (hf 0 (by omega)).1
      simp [Addr.add] at h1
      exact add_form h1
    refine ⟨(List.range len).map f, by simp, by omega, .inr ⟨a'.block, a'.off, by rw [← ha], ?_, ?_⟩⟩
    · obtain ⟨cs', h1, _⟩ := hel 0 (by omega)
      rw [cellsDep] at h1
      have h2 := World.cells?_block h1 (by omega)
      simpa [Addr.add] using h2
    · intro i hi
      have hi' : i < len := by simpa using hi
      have hg : ((List.range len).map f).getD i dz = f i := by simp [List.getD, hi']
      rw [hg]
      obtain ⟨h1, h2, h3, h4⟩ := hf i hi'
      rw [ha] at h1 h2 h3 h4
      rw [add_plain] at h1 h2 h3 h4
      exact ⟨h1, h2, h3, h4⟩

theorem open_deps {b0 : Nat} {r : Reach} {v : Value} {d : DataW H} {p : List MemPlace} (hv : Value.okWide Tryd.prog w r b0 40 v) (h : DataW.Trod enc Tryd.prog w base (fun _ => true) held 40 v d p) :
    ∃ (a : Option Addr) (len cap : Nat) (xs : List Dp), v = .slice a len cap ∧ (xs.length = len ∧ len ≤ maxLen ∧ IsDeps w a xs) := by
  obtain ⟨a, len, cap, rfl⟩ := okWide_slice Tryd.underlying40 hv
  obtain ⟨fuel, hf⟩ := h
  obtain ⟨xs, hx⟩ := deps_cells (by simpa [Value.cells] using hf)
  exact ⟨a, len, cap, xs, rfl, hx⟩

theorem cellsBool : Tryd.prog.cellsOf 4 = 1 := by kernel_rfl

theorem cellsDepS : Tryd.prog.cellsOf 40 = 1 := by kernel_rfl

theorem cellsWrite : Tryd.prog.cellsOf 42 = 7 := by kernel_rfl

theorem slice_cells {fuel : Nat} {v : Value} {x : DataW H × List MemPlace} (h : DataW.trod enc Tryd.prog w base spare held fuel 40 [v] = some x) : ∃ a len cap, v = .slice a len cap := by
  rcases open_slice Tryd.underlying40 h with ⟨hcs, _⟩ | ⟨a', len', cap', m, n, D, Pl, hcs, _⟩
  · simp at hcs
    exact ⟨_, _, _, hcs⟩
  · simp at hcs
    exact ⟨_, _, _, hcs⟩

theorem open_write {b0 : Nat} {r : Reach} {v : Value} {d : DataW H} {p : List MemPlace} (hv : Value.okWide Tryd.prog w r b0 42 v) (h : DataW.Trod enc Tryd.prog w base (fun _ => true) held 42 v d p) :
    ∃ (k c s q va : Int) (de : Bool) (a : Option Addr) (len cap : Nat) (xs : List Dp), v = .agg #[.int .i64 k, .int .i64 c, .int .i64 s, .int .i64 q, .int .i64 va, .bool de, .slice a len cap] ∧ (xs.length = len ∧ len ≤ maxLen ∧ IsDeps w a xs) := by
  obtain ⟨cs, rfl, hsz⟩ := okWide_struct Tryd.underlying42 hv
  rw [cellsWrite] at hsz
  obtain ⟨fuel, hf⟩ := h
  obtain ⟨xs', n, _, _, _, hlen, hfd⟩ := DataW.trod_struct Tryd.underlying42 hf
  cases cs with
  | mk l =>
    have hl : l.length = 7 := by simpa using hsz
    match l, hl, xs', hlen with
    | [v0, v1, v2, v3, v4, v5, v6], _, [y0, y1, y2, y3, y4], _ =>
      have g0 := hfd 0 _ rfl
      have g1 := hfd 1 _ rfl
      have g2 := hfd 2 _ rfl
      have g3 := hfd 3 _ rfl
      have g4 := hfd 4 _ rfl
      simp [Value.cells, cellsInt, cellsTag, cellsBool, cellsDepS] at g0 g1 g2 g3 g4
      obtain ⟨k, e0, _, _⟩ := DataW.trod_int Tryd.underlying3 g0
      obtain ⟨c, s, q, e1⟩ := tag_cells g1
      obtain ⟨va, e2, _, _⟩ := DataW.trod_int Tryd.underlying3 g2
      obtain ⟨de, e3, _⟩ := DataW.trod_bool Tryd.underlying4 g3
      obtain ⟨a, len, cap, e4⟩ := slice_cells g4
      simp at e0 e1 e2 e3
      obtain ⟨e1, e1', e1''⟩ := e1
      subst e0 e1 e1' e1'' e2 e3 e4
      obtain ⟨xs, hx⟩ := deps_cells g4
      exact ⟨k, c, s, q, va, de, a, len, cap, xs, rfl, hx⟩

end
end Go.Proofs.YtidpcjcnhklmpalDoor

/- What comes in, opened: slices of writes. -/
namespace Go.Proofs.YtidpcjcnhklmpalDoor
open Go.ChangeShapes Go.WideShapes Go.ChangeAt Go.RowKit Go.Joins Go.Deep
set_option maxRecDepth 100000

section
variable {H : Type} {enc : TypeId × Value → H} {w : World} {base : Nat} {spare : Nat → Bool} {held : Bool}

theorem write_cells {fuel : Nat} {cs : List Value} {x : DataW H × List MemPlace} (h : DataW.trod enc Tryd.prog w base spare held fuel 42 cs = some x) :
    ∃ (y : Wr) (a : Option Addr) (cap : Nat), cs = [.int .i64 y.k, .int .i64 y.c, .int .i64 y.s, .int .i64 y.q, .int .i64 y.v, .bool y.de, .slice a y.xs.length cap] ∧ y.xs.length ≤ maxLen ∧ IsDeps w a y.xs := by
  obtain ⟨xs', n, hl0, _, _, hlen, hfd⟩ := DataW.trod_struct Tryd.underlying42 h
  have hl : cs.length = 7 := by rw [cellsWrite] at *; assumption
  match cs, hl, xs', hlen with
  | [v0, v1, v2, v3, v4, v5, v6], _, [y0, y1, y2, y3, y4], _ =>
    have g0 := hfd 0 _ rfl
    have g1 := hfd 1 _ rfl
    have g2 := hfd 2 _ rfl
    have g3 := hfd 3 _ rfl
    have g4 := hfd 4 _ rfl
    simp [cellsInt, cellsTag, cellsBool, cellsDepS] at g0 g1 g2 g3 g4
    obtain ⟨k, e0, _, _⟩ := DataW.trod_int Tryd.underlying3 g0
    obtain ⟨c, s, q, e1⟩ := tag_cells g1
    obtain ⟨va, e2, _, _⟩ := DataW.trod_int Tryd.underlying3 g2
    obtain ⟨de, e3, _⟩ := DataW.trod_bool Tryd.underlying4 g3
    obtain ⟨a, len, cap, e4⟩ := slice_cells g4
    simp at e0 e1 e2 e3
    obtain ⟨e1, e1', e1''⟩ := e1
    subst e0 e1 e1' e1'' e2 e3 e4
    obtain ⟨xs, hx1, hx2, hx3⟩ := deps_cells g4
    subst hx1
    exact ⟨⟨k, c, s, q, va, de, xs⟩, a, cap, rfl, hx2, hx3⟩

theorem ws_cells {fuel : Nat} {a : Option Addr} {len cap : Nat} {x : DataW H × List MemPlace} (h : DataW.trod enc Tryd.prog w base spare held fuel 22 [.slice a len cap] = some x) :
    ∃ ws : List Wr, ws.length = len ∧ len ≤ maxLen ∧ IsWs w a ws := by
  rcases open_slice Tryd.underlying22 h with ⟨hcs, _⟩ | ⟨a', len', cap', m, n, D, Pl, hcs, _, hl, hm, hmm, _, hel⟩
  · simp at hcs
    obtain ⟨rfl, rfl, rfl⟩ := hcs
    exact ⟨[], rfl, Nat.zero_le _, .inl rfl⟩
  · simp at hcs
    obtain ⟨rfl, rfl, rfl⟩ := hcs
    have hml : len ≤ m := by rw [hmm]; split <;> omega
    have hd : ∀ i, i < len → ∃ y : Wr, ∃ (ad : Option Addr) (cp : Nat), w.cell? (a'.add (i * 7)) = some (.int .i64 y.k) ∧ w.cell? (a'.add (i * 7 + 1)) = some (.int .i64 y.c) ∧ w.cell? (a'.add (i * 7 + 2)) = some (.int .i64 y.s) ∧ w.cell? (a'.add (i * 7 + 3)) = some (.int .i64 y.q) ∧ w.cell? (a'.add (i * 7 + 4)) = some (.int .i64 y.v) ∧ w.cell? (a'.add (i * 7 + 5)) = some (.bool y.de) ∧ w.cell? (a'.add (i * 7 + 6)) = some (.slice ad y.xs.length cp) ∧ y.xs.length ≤ maxLen ∧ IsDeps w ad y.xs := by
      intro i hi
      obtain ⟨cs', h1, h2⟩ := hel i (by omega)
      rw [cellsWrite] at h1
      obtain ⟨_, _, hc⟩ := World.cells?_some h1
      obtain ⟨y, ad, cp, hdd, hy1, hy2⟩ := write_cells h2
      rw [hdd] at hc
      have c0 := hc 0 (by omega)
      have c1 := hc 1 (by omega)
      have c2 := hc 2 (by omega)
      have c3 := hc 3 (by omega)
      have c4 := hc 4 (by omega)
      have c5 := hc 5 (by omega)
      have c6 := hc 6 (by omega)
      rw [add_add] at c0 c1 c2 c3 c4 c5 c6
      exact ⟨y, ad, cp, by simpa using c0, by simpa using c1, by simpa using c2, by simpa using c3, by simpa using c4, by simpa using c5, by simpa using c6, hy1, hy2⟩
    by_cases h0 : len = 0
    · subst h0
      exact ⟨[], rfl, Nat.zero_le _, .inl rfl⟩
    have : Inhabited Wr := ⟨wz⟩
    obtain ⟨f, hf⟩ := choose_lt hd
    have ha : a' = ⟨a'.block, a'.off, none⟩ := by
      obtain ⟨_, _, h1, _⟩ := hf 0 (by omega)
      simp [Addr.add] at h1
      exact add_form h1
    refine ⟨(List.range len).map f, by simp, by omega, .inr ⟨a'.block, a'.off, by rw [← ha], ?_, ?_⟩⟩
    · obtain ⟨cs', h1, _⟩ := hel 0 (by omega)
      rw [cellsWrite] at h1
      have h2 := World.cells?_block h1 (by omega)
      simpa [Addr.add] using h2
    · intro i hi
      have hi' : i < len := by simpa using hi
      have hg : ((List.range len).map f).getD i wz = f i := by simp [List.getD, hi']
      rw [hg]
      obtain ⟨ad, cp, h1, h2, h3, h4, h5, h6, h7, h8, h9⟩ := hf i hi'
      rw [ha] at h1 h2 h3 h4 h5 h6 h7
      rw [add_plain] at h1 h2 h3 h4 h5 h6 h7
      exact ⟨ad, cp, ⟨h1, h2, h3, h4, h5, h6, h7⟩, h8, h9⟩

theorem open_ws {b0 : Nat} {r : Reach} {v : Value} {d : DataW H} {p : List MemPlace} (hv : Value.okWide Tryd.prog w r b0 22 v) (h : DataW.Trod enc Tryd.prog w base (fun _ => true) held 22 v d p) :
    ∃ (a : Option Addr) (len cap : Nat) (ws : List Wr), v = .slice a len cap ∧ (ws.length = len ∧ len ≤ maxLen ∧ IsWs w a ws) := by
  obtain ⟨a, len, cap, rfl⟩ := okWide_slice Tryd.underlying22 hv
  obtain ⟨fuel, hf⟩ := h
  obtain ⟨ws, hx⟩ := ws_cells (by simpa [Value.cells] using hf)
  exact ⟨a, len, cap, ws, rfl, hx⟩

end
end Go.Proofs.YtidpcjcnhklmpalDoor
