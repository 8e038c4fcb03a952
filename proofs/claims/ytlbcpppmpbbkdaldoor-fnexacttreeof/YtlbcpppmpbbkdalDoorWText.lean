/- The text of a write, by the specification. -/
import Derived.Test.YtlbcpppmpbbkdalDoorSlots
import Derived.Test.YtlbcpppmpbbkdalDoorNums
import Derived.Test.YtlbcpppmpbbkdalDoorWriteOk
namespace Go.Proofs.YtlbcpppmpbbkdalDoor
open Go.ChangeShapes Go.WideShapes Go.ChangeAt Go.RowKit Go.Joins

def depText (d : Dp) : List UInt8 := numsText [d.k] ++ numsText [d.c, d.s, d.q]

def headText (k c s q v : Int) (de : Bool) (n : Nat) : List UInt8 := 119 :: (numsText [k] ++ (numsText [c, s, q] ++ numsText [v, bitI de, n]))

def writeText (k c s q v : Int) (de : Bool) (xs : List Dp) : List UInt8 := if writeOkB k c s q v de xs then headText k c s q v de xs.length ++ xs.flatMap depText else []

/-- Numbers of one's own, in a row: what is known of its slice. -/
def IntsFact (ns : List Int) : Fact := fun v w => ∃ g, v = .slice (some ⟨g, 0, none⟩) ns.length ns.length ∧ g < w.heap.size ∧ HoldsInts w g 0 ns

theorem lasts_ints (ns : List Int) : lasts (fun w w' => Below w.heap.size w w') (IntsFact ns) := by
  rintro v w w' ⟨g, hv, hg, hh⟩ hb
  exact ⟨g, hv, Nat.lt_of_lt_of_le hg hb.size, hh.below hb hg⟩

theorem ints_new {w : World} {t : Nat} (ns : List Int) : IntsFact ns (.slice (some ⟨w.heap.size, 0, none⟩) ns.length ns.length) (w.alloc (.cells (ns.map (Value.int .i64)).toArray t)) :=
  ⟨_, rfl, by simp, holds_ints_block (heap_alloc_new w _) rfl⟩

theorem nums_fact {ns : List Int} {v : Value} {w : World} (h : IntsFact ns v w) (hn : ns.length ≤ 100) (h64 : Ints64 ns) :
    Calls Tryd.prog 57 #[v] w fun e w' => e = .returned (.string (str (numsText ns))) ∧ Below w.heap.size w w' := by
  obtain ⟨g, rfl, hg, hh⟩ := h
  exact nums_any g 0 _ ns w hn h64 hg hh

theorem tagNums_fact (c s q : Int) (w : World) :
    Calls Tryd.prog 58 #[tagV c s q] w fun e w' => ∃ v, e = .returned v ∧ Below w.heap.size w w' ∧ IntsFact [c, s, q] v w' := by
  refine (tagNums_any c s q w).mono ?_
  rintro e w' ⟨g, rfl, _, hg, hh, hb⟩
  exact ⟨_, rfl, hb, g, rfl, hg, hh⟩

theorem nums_size (ns : List Int) (h : Ints64 ns) : (str (numsText ns)).size ≤ 22 * ns.length := by
  rw [str_size]
  have := nums_len ns h ns.length (Nat.le_refl _)
  rwa [List.take_length] at this

theorem ok_parts {k c s q v : Int} {de : Bool} {xs : List Dp} (h : writeOkB k c s q v de xs = true) : btw k 0 5 = true ∧ tagOkB c s q = true ∧ valOkB v de = true ∧ depsOkB xs = true ∧ aheadAll xs c s q = true := by
  simp only [writeOkB, Bool.and_eq_true] at h
  exact ⟨h.1, h.2.1, h.2.2.1, h.2.2.2.1, h.2.2.2.2⟩

theorem ints1 {a : Int} (ha : -9223372036854775808 ≤ a ∧ a ≤ 9223372036854775807) : Ints64 [a] := by
  intro i hi
  match i, hi with
  | 0, _ => exact ha

theorem ints3 {a b c : Int} (ha : -9223372036854775808 ≤ a ∧ a ≤ 9223372036854775807) (hb : -9223372036854775808 ≤ b ∧ b ≤ 9223372036854775807) (hc : -9223372036854775808 ≤ c ∧ c ≤ 9223372036854775807) : Ints64 [a, b, c] := by
  intro i hi
  match i, hi with
  | 0, _ => exact ha
  | 1, _ => exact hb
  | 2, _ => exact hc

theorem btw_bounds {a lo hi : Int} (h : btw a lo hi = true) : lo ≤ a ∧ a ≤ hi := by simpa [btw] using h

theorem ints_tag {c s q : Int} (h : tagOkB c s q = true) : Ints64 [c, s, q] := by
  have := tagOk_bounds h
  exact ints3 (by omega) (by omega) (by omega)

theorem ints_key {k : Int} (h : btw k 0 5 = true) : Ints64 [k] := by
  have := btw_bounds h
  exact ints1 (by omega)

theorem ints_rest {v : Int} {de : Bool} {n : Nat} (h : valOkB v de = true) (hn : n ≤ 1048576) : Ints64 [v, bitI de, (n : Int)] := by
  have := btw_bounds (val_btw h)
  have hb : 0 ≤ bitI de ∧ bitI de ≤ 1 := by cases de <;> simp [bitI]
  exact ints3 (by omega) (by omega) (by omega)

theorem dep_key {xs : List Dp} (h : depsOkB xs = true) {i : Nat} (hi : i < xs.length) : btw (xs.getD i dz).k 0 5 = true := by
  unfold depsOkB at h
  have := List.all_eq_true.1 h i (List.mem_range.2 hi)
  simp only [depGood, Bool.and_eq_true] at this
  exact this.1

theorem dep_cells4 {w w' : World} {g : Nat} {xs : List Dp} (h : HoldsDeps w g 0 xs) (hb : Below w.heap.size w w') (hg : g < w.heap.size) {j : Nat} (hj : j < xs.length) :
    w'.cell? ⟨g, j * 4, none⟩ = some (.int .i64 (xs.getD j dz).k) ∧ w'.cell? ⟨g, j * 4 + 1, none⟩ = some (.int .i64 (xs.getD j dz).c) ∧ w'.cell? ⟨g, j * 4 + 2, none⟩ = some (.int .i64 (xs.getD j dz).s) ∧ w'.cell? ⟨g, j * 4 + 3, none⟩ = some (.int .i64 (xs.getD j dz).q) := by
  have := (h.below hb hg) j hj
  rw [Nat.zero_add] at this
  exact this

theorem deps_take (xs : List Dp) (j : Nat) (h : j < xs.length) : (xs.take (j + 1)).flatMap depText = (xs.take j).flatMap depText ++ depText (xs.getD j dz) := by
  rw [List.take_add_one, List.getElem?_eq_getElem h, List.flatMap_append]
  simp [List.getD, h]

/-- Dependencies from a block's begin on, or none. -/
def Deps0 (w : World) (a : Option Addr) (xs : List Dp) : Prop := xs = [] ∨ ∃ g, a = some ⟨g, 0, none⟩ ∧ g < w.heap.size ∧ HoldsDeps w g 0 xs

theorem Deps0.isDeps {w : World} {a : Option Addr} {xs : List Dp} (h : Deps0 w a xs) : IsDeps w a xs := by
  rcases h with h | ⟨g, h1, h2, h3⟩
  · exact .inl h
  · exact .inr ⟨g, 0, h1, h2, h3⟩

theorem Deps0.get {w : World} {a : Option Addr} {xs : List Dp} (h : Deps0 w a xs) {j : Nat} (hj : j < xs.length) : ∃ g, a = some ⟨g, 0, none⟩ ∧ g < w.heap.size ∧ HoldsDeps w g 0 xs := by
  rcases h with rfl | h
  · simp at hj
  · exact h

set_option maxRecDepth 100000 in
set_option maxHeartbeats 4000000 in
theorem specText_gen (k c s q v : Int) (de : Bool) (ag : Option Addr) (xs : List Dp) (len cap : Nat) (w : World) (hl : xs.length = len) (hn : len ≤ 1048576) (hh : Deps0 w ag xs) :
    Calls Tryd.prog 37 #[wrV k c s q v de ag len cap] w fun e w' => e = .returned (.string (str (writeText k c s q v de xs))) ∧ Below w.heap.size w w' := by
  subst hl
  have HH : Hid (Deps0 w ag xs) := hh
  clear hh
  go_enter Tryd.func37, Tryd.ntmps37
  go_wp2_with fail
  refine (specWriteOk_gen k c s q v de ag xs _ cap _ rfl hn (HH.out.isDeps.below ((Below.refl _ _).alloc (Nat.le_refl _) _))).mono ?_
  rintro e w1 ⟨rfl, hb⟩
  have HX : Hid (BoxIn w w1 k c s q v de ag xs.length cap) := BoxIn.start hb
  clear hb
  cases hok : writeOkB k c s q v de xs
  · have HW : Hid (writeText k c s q v de xs = []) := by simp [writeText, hok, Hid]
    go_wp2
    go_ret
    rw [HW.out]
    exact ⟨rfl, HX.out.below⟩
  · have HW : Hid (writeText k c s q v de xs = headText k c s q v de xs.length ++ xs.flatMap depText) := by simp [writeText, hok, Hid]
    obtain ⟨o1, o2, o3, o4, -⟩ := ok_parts hok
    have i1 : Ints64 [k] := ints_key o1
    have i2 : Ints64 [c, s, q] := ints_tag o2
    have i3 : Ints64 [v, bitI de, (xs.length : Int)] := ints_rest o3 hn
    obtain ⟨t1, HT1⟩ : ∃ t, Hid (t = str (numsText [k])) := ⟨_, Lib.hid rfl⟩
    obtain ⟨t2, HT2⟩ : ∃ t, Hid (t = str (numsText [c, s, q])) := ⟨_, Lib.hid rfl⟩
    obtain ⟨t3, HT3⟩ : ∃ t, Hid (t = str (numsText [v, bitI de, (xs.length : Int)])) := ⟨_, Lib.hid rfl⟩
    have z1 : t1.size ≤ 22 := by rw [HT1.out]; exact nums_size _ i1
    have z2 : t2.size ≤ 66 := by rw [HT2.out]; exact nums_size _ i2
    have z3 : t3.size ≤ 66 := by rw [HT3.out]; exact nums_size _ i3
    go_wp2_with fail
    refine wp_region_slots 22 [[(1, false)], [(8, true)], [(9, true)], [(10, true)], [(11, true)], [(1, false)], [(13, true)], [(14, true)], [(15, true)], [(12, true), (16, true)], [(1, false)], [(18, true)], [(1, false)], [(20, true)], [(21, true)], [(1, false)], [(23, true)], [(24, true)], [(19, true), (22, true), (25, true)], [(26, true)], [(17, true), (27, true)], [(28, true)]] (fun w' => BoxIn w w' k c s q v de ag xs.length cap) (fun w w' => Below w.heap.size w w') (by kernel_rfl) (by kernel_rfl) (by rfl) (HX.out.step (Below.refl _ _).drew) (fun _ _ h hb => h.step hb) ?_
    iterate 2 (apply slot_eq; · (intro ρ w' ⟨p1, p2, p3⟩ ⟨hz, hbl, c0, c1, c2, c3, c4, c5, c6⟩ hn; simp at hn; go_simp; exact ⟨Below.refl _ _, rfl⟩))
    -- its key
    refine slot_fact (IntsFact [k]) (lasts_ints _) ?_ ?_
    · intro ρ w' ⟨p1, p2, p3⟩ ⟨hz, hbl, c0, c1, c2, c3, c4, c5, c6⟩ hn
      simp at hn
      go_simp
      exact ⟨(Below.refl _ _).alloc (Nat.le_refl _) _, ints_new [k]⟩
    apply slot_eq
    · intro ρ w' ⟨p1, p2, p3⟩ ⟨hz, hbl, c0, c1, c2, c3, c4, c5, c6⟩ hn
      simp at hn
      go_simp
      exact got_call (nums_fact hn (by simp) i1) fun e w'' ⟨he, hb⟩ => ⟨_, he, hb, by rw [← HT1.out]⟩
    apply slot_eq
    · intro ρ w' ⟨p1, p2, p3⟩ ⟨hz, hbl, c0, c1, c2, c3, c4, c5, c6⟩ hn
      simp at hn
      go_simp
      rw [if_neg (by omega)]
      exact ⟨Below.refl _ _, rfl⟩
    -- its tag
    iterate 2 (apply slot_eq; · (intro ρ w' ⟨p1, p2, p3⟩ ⟨hz, hbl, c0, c1, c2, c3, c4, c5, c6⟩ hn; simp at hn; go_simp; exact ⟨Below.refl _ _, rfl⟩))
    refine slot_fact (IntsFact [c, s, q]) (lasts_ints _) ?_ ?_
    · intro ρ w' ⟨p1, p2, p3⟩ ⟨hz, hbl, c0, c1, c2, c3, c4, c5, c6⟩ hn
      simp at hn
      go_simp
      exact got_call (tagNums_fact c s q _) fun e w'' h => h
    apply slot_eq
    · intro ρ w' ⟨p1, p2, p3⟩ ⟨hz, hbl, c0, c1, c2, c3, c4, c5, c6⟩ hn
      simp at hn
      go_simp
      exact got_call (nums_fact hn (by simp) i2) fun e w'' ⟨he, hb⟩ => ⟨_, he, hb, by rw [← HT2.out]⟩
    apply slot_eq
    · intro ρ w' ⟨p1, p2, p3⟩ ⟨hz, hbl, c0, c1, c2, c3, c4, c5, c6⟩ hn
      simp at hn
      go_simp
      rw [if_neg (by omega)]
      exact ⟨Below.refl _ _, rfl⟩
    -- its value, whether it is dead, how many deps
    iterate 4 (apply slot_eq; · (intro ρ w' ⟨p1, p2, p3⟩ ⟨hz, hbl, c0, c1, c2, c3, c4, c5, c6⟩ hn; simp at hn; go_simp; exact ⟨Below.refl _ _, rfl⟩))
    apply slot_eq
    · intro ρ w' ⟨p1, p2, p3⟩ ⟨hz, hbl, c0, c1, c2, c3, c4, c5, c6⟩ hn
      simp at hn
      go_simp
      exact got_call (bitI_any de _) fun e w'' ⟨he, hb⟩ => ⟨_, he, by rw [hb]; exact Below.refl _ _, rfl⟩
    iterate 3 (apply slot_eq; · (intro ρ w' ⟨p1, p2, p3⟩ ⟨hz, hbl, c0, c1, c2, c3, c4, c5, c6⟩ hn; simp at hn; go_simp; exact ⟨Below.refl _ _, rfl⟩))
    refine slot_fact (IntsFact [v, bitI de, (xs.length : Int)]) (lasts_ints _) ?_ ?_
    · intro ρ w' ⟨p1, p2, p3⟩ ⟨hz, hbl, c0, c1, c2, c3, c4, c5, c6⟩ hn
      simp at hn
      go_simp
      exact ⟨(Below.refl _ _).alloc (Nat.le_refl _) _, ints_new [v, bitI de, (xs.length : Int)]⟩
    apply slot_eq
    · intro ρ w' ⟨p1, p2, p3⟩ ⟨hz, hbl, c0, c1, c2, c3, c4, c5, c6⟩ hn
      simp at hn
      go_simp
      exact got_call (nums_fact hn (by simp) i3) fun e w'' ⟨he, hb⟩ => ⟨_, he, hb, by rw [← HT3.out]⟩
    apply slot_eq
    · intro ρ w' ⟨p1, p2, p3⟩ ⟨hz, hbl, c0, c1, c2, c3, c4, c5, c6⟩ hn
      simp at hn
      go_simp
      rw [if_neg (by omega)]
      exact ⟨Below.refl _ _, rfl⟩
    iterate 1 (apply slot_eq; · (intro ρ w' ⟨p1, p2, p3⟩ ⟨hz, hbl, c0, c1, c2, c3, c4, c5, c6⟩ hn; simp at hn; go_simp; exact ⟨Below.refl _ _, rfl⟩))
    refine slot_end ?_
    intro vs w2 hS hF
    have HX2 : Hid (BoxIn w w2 k c s q v de ag xs.length cap) := hS
    simp at hF
    obtain ⟨h3, -⟩ := hF
    obtain ⟨t0, HT0⟩ : ∃ t, Hid (t = ⟨#[119]⟩ ++ t1 ++ t2 ++ t3) := ⟨_, Lib.hid rfl⟩
    have z0 : t0.size ≤ 155 := by
      have e1 : (⟨#[119]⟩ : ByteArray).size = 1 := rfl
      rw [HT0.out]
      simp only [ByteArray.size_append]
      omega
    rw [← HT0.out] at h3
    have HE : Hid (t0 = str (headText k c s q v de xs.length)) := by
      have e1 : (⟨#[119]⟩ : ByteArray) = str [119] := rfl
      rw [HT0.out, HT1.out, HT2.out, HT3.out, e1, str_add, str_add, str_add]
      simp [headText, Hid]
    clear hS HT0 HT1 HT2 HT3 z1 z2 z3
    simp only [List.take_succ_cons, List.take_zero, List.drop_succ_cons, List.drop_zero, putAll, h3]
    clear h3
    go_wp2
    go_loopw [3, 4] (fun t i wr => ∃ (j : Nat) (acc : ByteArray), j ≤ xs.length ∧ i = .int .i64 j ∧ t = .string acc ∧ acc.size ≤ 155 + 88 * j ∧ Hid (acc = str (headText k c s q v de xs.length ++ (xs.take j).flatMap depText)) ∧ Hid (BoxIn w wr k c s q v de ag xs.length cap)) (fun _ i _ => xs.length - (intOf i).toNat)
    case atStart => exact ⟨0, t0, by omega, rfl, rfl, by omega, by rw [HE.out]; simp [Hid], HX2⟩
    case round =>
    obtain ⟨j, acc, hj, rfl, rfl, hsz, HA, HX3⟩ := hrel
    have c6 := HX3.out.c6
    by_cases hj' : j < xs.length
    · have j1 : (0 : Int) ≤ (j : Int) := by omega
      have j2 : (j : Int) < (xs.length : Int) := by omega
      obtain ⟨g, rfl, hlt, hhd⟩ := HH.out.get hj'
      have HD : Hid (∀ w', Below w.heap.size w w' → w'.cell? ⟨g, j * 4, none⟩ = some (.int .i64 (xs.getD j dz).k) ∧ w'.cell? ⟨g, j * 4 + 1, none⟩ = some (.int .i64 (xs.getD j dz).c) ∧ w'.cell? ⟨g, j * 4 + 2, none⟩ = some (.int .i64 (xs.getD j dz).s) ∧ w'.cell? ⟨g, j * 4 + 3, none⟩ = some (.int .i64 (xs.getD j dz).q)) := fun w' hb => dep_cells4 hhd hb hlt hj'
      have i4 : Ints64 [(xs.getD j dz).k] := ints_key (dep_key o4 hj')
      have i5 : Ints64 [(xs.getD j dz).c, (xs.getD j dz).s, (xs.getD j dz).q] := ints_tag (depsOk_tag o4 hj')
      have HN : Hid (depText (xs.getD j dz) = numsText [(xs.getD j dz).k] ++ numsText [(xs.getD j dz).c, (xs.getD j dz).s, (xs.getD j dz).q]) := rfl
      generalize (xs.getD j dz).k = x0 at HD HN i4
      generalize (xs.getD j dz).c = x1 at HD HN i5
      generalize (xs.getD j dz).s = x2 at HD HN i5
      generalize (xs.getD j dz).q = x3 at HD HN i5
      obtain ⟨t4, HT4⟩ : ∃ t, Hid (t = str (numsText [x0])) := ⟨_, Lib.hid rfl⟩
      obtain ⟨t5, HT5⟩ : ∃ t, Hid (t = str (numsText [x1, x2, x3])) := ⟨_, Lib.hid rfl⟩
      have z4 : t4.size ≤ 22 := by rw [HT4.out]; exact nums_size _ i4
      have z5 : t5.size ≤ 66 := by rw [HT5.out]; exact nums_size _ i5
      go_wp2_with fail
      refine wp_region_slots 20 [[(3, false)], [(1, false)], [(37, true)], [(4, false)], [(38, true), (39, true)], [(40, true)], [(41, true)], [(42, true)], [(43, true)], [(36, true), (44, true)], [(1, false)], [(46, true)], [(4, false)], [(47, true), (48, true)], [(49, true)], [(50, true)], [(51, true)], [(52, true)], [(45, true), (53, true)], [(54, true)]] (fun w' => BoxIn w w' k c s q v de (some ⟨g, 0, none⟩) xs.length cap) (fun w w' => Below w.heap.size w w') (by kernel_rfl) (by kernel_rfl) (by rfl) (HX3.out.step (Below.refl _ _).drew) (fun _ _ h hb => h.step hb) ?_
      iterate 7 (apply slot_eq; · (intro ρ w' ⟨p1, p2, p3⟩ ⟨hz, hbl, c0, c1, c2, c3, c4, c5, c6⟩ hn; obtain ⟨e0, e1, e2, e3⟩ := HD.out w' hbl; simp at hn; go_simp; exact ⟨Below.refl _ _, rfl⟩))
      refine slot_fact (IntsFact [x0]) (lasts_ints _) ?_ ?_
      · intro ρ w' ⟨p1, p2, p3⟩ ⟨hz, hbl, c0, c1, c2, c3, c4, c5, c6⟩ hn
        simp at hn
        go_simp
        exact ⟨(Below.refl _ _).alloc (Nat.le_refl _) _, ints_new [x0]⟩
      apply slot_eq
      · intro ρ w' ⟨p1, p2, p3⟩ ⟨hz, hbl, c0, c1, c2, c3, c4, c5, c6⟩ hn
        simp at hn
        go_simp
        exact got_call (nums_fact hn (by simp) i4) fun e w'' ⟨he, hb⟩ => ⟨_, he, hb, by rw [← HT4.out]⟩
      apply slot_eq
      · intro ρ w' ⟨p1, p2, p3⟩ ⟨hz, hbl, c0, c1, c2, c3, c4, c5, c6⟩ hn
        simp at hn
        go_simp
        rw [if_neg (by omega)]
        exact ⟨Below.refl _ _, rfl⟩
      iterate 6 (apply slot_eq; · (intro ρ w' ⟨p1, p2, p3⟩ ⟨hz, hbl, c0, c1, c2, c3, c4, c5, c6⟩ hn; obtain ⟨e0, e1, e2, e3⟩ := HD.out w' hbl; simp at hn; go_simp; exact ⟨Below.refl _ _, rfl⟩))
      refine slot_fact (IntsFact [x1, x2, x3]) (lasts_ints _) ?_ ?_
      · intro ρ w' ⟨p1, p2, p3⟩ ⟨hz, hbl, c0, c1, c2, c3, c4, c5, c6⟩ hn
        simp at hn
        go_simp
        exact got_call (tagNums_fact x1 x2 x3 _) fun e w'' h => h
      apply slot_eq
      · intro ρ w' ⟨p1, p2, p3⟩ ⟨hz, hbl, c0, c1, c2, c3, c4, c5, c6⟩ hn
        simp at hn
        go_simp
        exact got_call (nums_fact hn (by simp) i5) fun e w'' ⟨he, hb⟩ => ⟨_, he, hb, by rw [← HT5.out]⟩
      apply slot_eq
      · intro ρ w' ⟨p1, p2, p3⟩ ⟨hz, hbl, c0, c1, c2, c3, c4, c5, c6⟩ hn
        simp at hn
        go_simp
        rw [if_neg (by omega)]
        exact ⟨Below.refl _ _, rfl⟩
      iterate 1 (apply slot_eq; · (intro ρ w' ⟨p1, p2, p3⟩ ⟨hz, hbl, c0, c1, c2, c3, c4, c5, c6⟩ hn; obtain ⟨e0, e1, e2, e3⟩ := HD.out w' hbl; simp at hn; go_simp; exact ⟨Below.refl _ _, rfl⟩))
      refine slot_end ?_
      intro vs w3 hS hF
      have HX4 : Hid (BoxIn w w3 k c s q v de (some ⟨g, 0, none⟩) xs.length cap) := hS
      simp at hF
      obtain ⟨h3, -⟩ := hF
      have HNEW : Hid (acc ++ t4 ++ t5 = str (headText k c s q v de xs.length ++ (xs.take (j + 1)).flatMap depText)) := by
        rw [HA.out, HT4.out, HT5.out, str_add, str_add, deps_take xs j hj', HN.out]
        simp [Hid]
      have hlen : (acc ++ t4 ++ t5).size ≤ 155 + 88 * (j + 1) := by
        simp only [ByteArray.size_append]
        omega
      clear hS HT4 HT5 z4 z5
      simp only [List.take_succ_cons, List.take_zero, List.drop_succ_cons, List.drop_zero, putAll, h3]
      clear h3
      go_wp2
      exact ⟨⟨j + 1, _, by omega, by go_num, rfl, hlen, HNEW, HX4⟩, by simp [intOf]; omega⟩
    · have hjn : j = xs.length := by omega
      subst hjn
      go_wp2
      go_ret
      rw [HW.out, HA.out, List.take_length]
      exact ⟨rfl, HX3.out.below⟩

set_option maxRecDepth 100000 in
theorem specText_any (k c s q v : Int) (de : Bool) (g : Nat) (xs : List Dp) (len cap : Nat) (w : World) (hl : xs.length = len) (hn : len ≤ 1048576) (hlt : g < w.heap.size) (hh : HoldsDeps w g 0 xs) :
    Calls Tryd.prog 37 #[wrV k c s q v de (some ⟨g, 0, none⟩) len cap] w fun e w' => e = .returned (.string (str (writeText k c s q v de xs))) ∧ Below w.heap.size w w' :=
  specText_gen k c s q v de _ xs len cap w hl hn (.inr ⟨g, rfl, hlt, hh⟩)

end Go.Proofs.YtlbcpppmpbbkdalDoor
