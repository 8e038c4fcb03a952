import Derived.Test.YtidpcjcnhklmpalDoorPack4
import Derived.Test.YtidpcjcnhklmpalDoorPack2
import Derived.Lib.Join
import Derived.Shelf.LaysM
import Derived.Shelf.Strconv.Itoa3
import Derived.Test.YtidpcjcnhklmpalDoorProg
import Derived.Test.YtidpcjcnhklmpalDoorPack3
import Derived.Laws.MakeOwn
import Derived.Laws.OwnMore
import Derived.Shelf.Strings.OnBuilder
/- The text of a write, by the specification. -/
namespace Go.Proofs.YtidpcjcnhklmpalDoor
open Go.ChangeShapes Go.WideShapes Go.ChangeAt Go.RowKit Go.Joins

def depText (d : Dp) : List UInt8 := numsText [d.k] ++ numsText [d.c, d.s, d.q]

def headText (k c s q v : Int) (de : Bool) (n : Nat) : List UInt8 := 119 :: (numsText [k] ++ (numsText [c, s, q] ++ numsText [v, bitI de, n]))

def writeText (k c s q v : Int) (de : Bool) (xs : List Dp) : List UInt8 := if writeOkB k c s q v de xs then headText k c s q v de xs.length ++ xs.flatMap depText else []

/-- Numbers of one's own, in a row: what is known of its slice. -/
def IntsFact (ns : List Int) : Fact := fun v w => ∃ g, v = .slice (some ⟨g, 0, none⟩) ns.length ns.length ∧ g < w.heap.size ∧ HoldsInts w g 0 ns

theorem lasts_ints (ns : List Int) : lasts (fun w w' => Below w.heap.size w w') (IntsFact ns) := by
  rintro v w w' ⟨g, hv, hg, hh⟩ hb
  exact ⟨g, hv, Nat.lt_of_lt_of_le hg hb.size, hh.below hb hg⟩

theorem ints_new {w : World} {t : Nat} (ns : List Int) : IntsFact ns (.slice (some ⟨w.heap.size, 0, none⟩) ns.length ns.length) (w.alloc (.cells (ns.map (Value.int .i64)).toArray t)) :=
  ⟨_, rfl, by simp, holds_ints_block (heap_alloc_new w _) rfl⟩

theorem nums_fact {ns : List Int} {v : Value} {w : World} (h : IntsFact ns v w) (hn : ns.length ≤ 100) (h64 : Ints64 ns) :
    Calls Tryd.prog 62 #[v] w fun e w' => e = .returned (.string (str (numsText ns))) ∧ Below w.heap.size w w' := by
  obtain ⟨g, rfl, hg, hh⟩ := h
  exact nums_any g 0 _ ns w hn h64 hg hh

theorem tagNums_fact (c s q : Int) (w : World) :
    Calls Tryd.prog 63 #[tagV c s q] w fun e w' => ∃ v, e = .returned v ∧ Below w.heap.size w w' ∧ IntsFact [c, s, q] v w' := by
  refine (tagNums_any c s q w).mono ?_
  rintro e w' ⟨g, rfl, _, hg, hh, hb⟩
  exact ⟨_, rfl, hb, g, rfl, hg, hh⟩

theorem nums_size (ns : List Int) (h : Ints64 ns) : (str (numsText ns)).size ≤ 22 * ns.length := by
  rw [str_size]
  have := nums_len ns h ns.length (Nat.le_refl _)
  rwa [List.take_length] at this

theorem ok_parts {k c s q v : Int} {de : Bool} {xs : List Dp} (h : writeOkB k c s q v de xs = true) : btw k 0 5 = true ∧ tagOkB c s q = true ∧ valOkB v de = true ∧ depsOkB xs = true ∧ aheadAll xs c s q = true := by
  simp only [writeOkB, Bool.and_eq_true] at h
  exact ⟨h.1, h.2.1, h.2.2.1, h.2.2.2.1, h.2.2.2.2⟩

theorem ints1 {a : Int} (ha : -9223372036854775808 ≤ a ∧ a ≤ 9223372036854775807) : Ints64 [a] := by
  intro i hi
  match i, hi with
  | 0, _ => exact ha

theorem ints3 {a b c : Int} (ha : -9223372036854775808 ≤ a ∧ a ≤ 9223372036854775807) (hb : -9223372036854775808 ≤ b ∧ b ≤ 9223372036854775807) (hc : -9223372036854775808 ≤ c ∧ c ≤ 9223372036854775807) : Ints64 [a, b, c] := by
  intro i hi
  match i, hi with
  | 0, _ => exact ha
  | 1, _ => exact hb
  | 2, _ => exact hc

theorem btw_bounds {a lo hi : Int} (h : btw a lo hi = true) : lo ≤ a ∧ a ≤ hi := by simpa [btw] using h

theorem ints_tag {c s q : Int} (h : tagOkB c s q = true) : Ints64 [c, s, q] := by
  have := tagOk_bounds h
  exact ints3 (by omega) (by omega) (by omega)

theorem ints_key {k : Int} (h : btw k 0 5 = true) : Ints64 [k] := by
  have := btw_bounds h
  exact ints1 (by omega)

theorem ints_rest {v : Int} {de : Bool} {n : Nat} (h : valOkB v de = true) (hn : n ≤ 1048576) : Ints64 [v, bitI de, (n : Int)] := by
  have := btw_bounds (val_btw h)
  have hb : 0 ≤ bitI de ∧ bitI de ≤ 1 := by cases de <;> simp [bitI]
  exact ints3 (by omega) (by omega) (by omega)

theorem dep_key {xs : List Dp} (h : depsOkB xs = true) {i : Nat} (hi : i < xs.length) : btw (xs.getD i dz).k 0 5 = true := by
  unfold depsOkB at h
  have := List.all_eq_true.1 h i (List.mem_range.2 hi)
  simp only [depGood, Bool.and_eq_true] at this
  exact this.1

theorem dep_cells4 {w w' : World} {g : Nat} {xs : List Dp} (h : HoldsDeps w g 0 xs) (hb : Below w.heap.size w w') (hg : g < w.heap.size) {j : Nat} (hj : j < xs.length) :
    w'.cell? ⟨g, j * 4, none⟩ = some (.int .i64 (xs.getD j dz).k) ∧ w'.cell? ⟨g, j * 4 + 1, none⟩ = some (.int .i64 (xs.getD j dz).c) ∧ w'.cell? ⟨g, j * 4 + 2, none⟩ = some (.int .i64 (xs.getD j dz).s) ∧ w'.cell? ⟨g, j * 4 + 3, none⟩ = some (.int .i64 (xs.getD j dz).q) := by
  have := (h.below hb hg) j hj
  rw [Nat.zero_add] at this
  exact this

theorem deps_take (xs : List Dp) (j : Nat) (h : j < xs.length) : (xs.take (j + 1)).flatMap depText = (xs.take j).flatMap depText ++ depText (xs.getD j dz) := by
  rw [List.take_add_one, List.getElem?_eq_getElem h, List.flatMap_append]
  simp [List.getD, h]

/-- Dependencies from a block's begin on, or none. -/
def Deps0 (w : World) (a : Option Addr) (xs : List Dp) : Prop := xs = [] ∨ ∃ g, a = some ⟨g, 0, none⟩ ∧ g < w.heap.size ∧ HoldsDeps w g 0 xs

theorem Deps0.isDeps {w : World} {a : Option Addr} {xs : List Dp} (h : Deps0 w a xs) : IsDeps w a xs := by
  rcases h with h | ⟨g, h1, h2, h3⟩
  · exact .inl h
  · exact .inr ⟨g, 0, h1, h2, h3⟩

theorem Deps0.get {w : World} {a : Option Addr} {xs : List Dp} (h : Deps0 w a xs) {j : Nat} (hj : j < xs.length) : ∃ g, a = some ⟨g, 0, none⟩ ∧ g < w.heap.size ∧ HoldsDeps w g 0 xs := by
  rcases h with rfl | h
  · simp at hj
  · exact h

set_option maxRecDepth 100000 in
set_option maxHeartbeats 4000000 in
theorem specText_gen (k c s q v : Int) (de : Bool) (ag : Option Addr) (xs : List Dp) (len cap : Nat) (w : World) (hl : xs.length = len) (hn : len ≤ 1048576) (hh : Deps0 w ag xs) :
    Calls Tryd.prog 39 #[wrV k c s q v de ag len cap] w fun e w' => e = .returned (.string (str (writeText k c s q v de xs))) ∧ Below w.heap.size w w' := by
  subst hl
  have HH : Hid (Deps0 w ag xs) := hh
  clear hh
  go_enter Tryd.func39, Tryd.ntmps39
  go_wp2_with fail
  refine (specWriteOk_gen k c s q v de ag xs _ cap _ rfl hn (HH.out.isDeps.below ((Below.refl _ _).alloc (Nat.le_refl _) _))).mono ?_
  rintro e w1 ⟨rfl, hb⟩
  have HX : Hid (BoxIn w w1 k c s q v de ag xs.length cap) := BoxIn.start hb
  clear hb
  cases hok : writeOkB k c s q v de xs
  · have HW : Hid (writeText k c s q v de xs = []) := by simp [writeText, hok, Hid]
    go_wp2
    go_ret
    rw [HW.out]
    exact ⟨rfl, HX.out.below⟩
  · have HW : Hid (writeText k c s q v de xs = headText k c s q v de xs.length ++ xs.flatMap depText) := by simp [writeText, hok, Hid]
    obtain ⟨o1, o2, o3, o4, -⟩ := ok_parts hok
    have i1 : Ints64 [k] := ints_key o1
    have i2 : Ints64 [c, s, q] := ints_tag o2
    have i3 : Ints64 [v, bitI de, (xs.length : Int)] := ints_rest o3 hn
    obtain ⟨t1, HT1⟩ : ∃ t, Hid (t = str (numsText [k])) := ⟨_, Lib.hid rfl⟩
    obtain ⟨t2, HT2⟩ : ∃ t, Hid (t = str (numsText [c, s, q])) := ⟨_, Lib.hid rfl⟩
    obtain ⟨t3, HT3⟩ : ∃ t, Hid (t = str (numsText [v, bitI de, (xs.length : Int)])) := ⟨_, Lib.hid rfl⟩
    have z1 : t1.size ≤ 22 := by rw [HT1.out]; exact nums_size _ i1
    have z2 : t2.size ≤ 66 := by rw [HT2.out]; exact nums_size _ i2
    have z3 : t3.size ≤ 66 := by rw [HT3.out]; exact nums_size _ i3
    go_wp2_with fail
    refine wp_region_slots 22 [[(1, false)], [(8, true)], [(9, true)], [(10, true)], [(11, true)], [(1, false)], [(13, true)], [(14, true)], [(15, true)], [(12, true), (16, true)], [(1, false)], [(18, true)], [(1, false)], [(20, true)], [(21, true)], [(1, false)], [(23, true)], [(24, true)], [(19, true), (22, true), (25, true)], [(26, true)], [(17, true), (27, true)], [(28, true)]] (fun w' => BoxIn w w' k c s q v de ag xs.length cap) (fun w w' => Below w.heap.size w w') (by kernel_rfl) (by kernel_rfl) (by rfl) (HX.out.step (Below.refl _ _).drew) (fun _ _ h hb => h.step hb) ?_
    iterate 2 (apply slot_eq; · (intro ρ w' ⟨p1, p2, p3⟩ ⟨hz, hbl, c0, c1, c2, c3, c4, c5, c6⟩ hn; simp at hn; go_simp; exact ⟨Below.refl _ _, rfl⟩))
    -- its key
    refine slot_fact (IntsFact [k]) (lasts_ints _) ?_ ?_
    · intro ρ w' ⟨p1, p2, p3⟩ ⟨hz, hbl, c0, c1, c2, c3, c4, c5, c6⟩ hn
      simp at hn
      go_simp
      exact ⟨(Below.refl _ _).alloc (Nat.le_refl _) _, ints_new [k]⟩
    apply slot_eq
    · intro ρ w' ⟨p1, p2, p3⟩ ⟨hz, hbl, c0, c1, c2, c3, c4, c5, c6⟩ hn
      simp at hn
      go_simp
      exact got_call (nums_fact hn (by simp) i1) fun e w'' ⟨he, hb⟩ => ⟨_, he, hb, by rw [← HT1.out]⟩
    apply slot_eq
    · intro ρ w' ⟨p1, p2, p3⟩ ⟨hz, hbl, c0, c1, c2, c3, c4, c5, c6⟩ hn
      simp at hn
      go_simp
      rw [if_neg (by omega)]
      exact ⟨Below.refl _ _, rfl⟩
    -- its tag
    iterate 2 (apply slot_eq; · (intro ρ w' ⟨p1, p2, p3⟩ ⟨hz, hbl, c0, c1, c2, c3, c4, c5, c6⟩ hn; simp at hn; go_simp; exact ⟨Below.refl _ _, rfl⟩))
    refine slot_fact (IntsFact [c, s, q]) (lasts_ints _) ?_ ?_
    · intro ρ w' ⟨p1, p2, p3⟩ ⟨hz, hbl, c0, c1, c2, c3, c4, c5, c6⟩ hn
      simp at hn
      go_simp
      exact got_call (tagNums_fact c s q _) fun e w'' h => h
    apply slot_eq
    · intro ρ w' ⟨p1, p2, p3⟩ ⟨hz, hbl, c0, c1, c2, c3, c4, c5, c6⟩ hn
      simp at hn
      go_simp
      exact got_call (nums_fact hn (by simp) i2) fun e w'' ⟨he, hb⟩ => ⟨_, he, hb, by rw [← HT2.out]⟩
    apply slot_eq
    · intro ρ w' ⟨p1, p2, p3⟩ ⟨hz, hbl, c0, c1, c2, c3, c4, c5, c6⟩ hn
      simp at hn
      go_simp
      rw [if_neg (by omega)]
      exact ⟨Below.refl _ _, rfl⟩
    -- its value, whether it is dead, how many deps
    iterate 4 (apply slot_eq; · (intro ρ w' ⟨p1, p2, p3⟩ ⟨hz, hbl, c0, c1, c2, c3, c4, c5, c6⟩ hn; simp at hn; go_simp; exact ⟨Below.refl _ _, rfl⟩))
    apply slot_eq
    · intro ρ w' ⟨p1, p2, p3⟩ ⟨hz, hbl, c0, c1, c2, c3, c4, c5, c6⟩ hn
      simp at hn
      go_simp
      exact got_call (bitI_any de _) fun e w'' ⟨he, hb⟩ => ⟨_, he, by rw [hb]; exact Below.refl _ _, rfl⟩
    iterate 3 (apply slot_eq; · (intro ρ w' ⟨p1, p2, p3⟩ ⟨hz, hbl, c0, c1, c2, c3, c4, c5, c6⟩ hn; simp at hn; go_simp; exact ⟨Below.refl _ _, rfl⟩))
    refine slot_fact (IntsFact [v, bitI de, (xs.length : Int)]) (lasts_ints _) ?_ ?_
    · intro ρ w' ⟨p1, p2, p3⟩ ⟨hz, hbl, c0, c1, c2, c3, c4, c5, c6⟩ hn
      simp at hn
      go_simp
      exact ⟨(Below.refl _ _).alloc (Nat.le_refl _) _, ints_new [v, bitI de, (xs.length : Int)]⟩
    apply slot_eq
    · intro ρ w' ⟨p1, p2, p3⟩ ⟨hz, hbl, c0, c1, c2, c3, c4, c5, c6⟩ hn
      simp at hn
      go_simp
      exact got_call (nums_fact hn (by simp) i3) fun e w'' ⟨he, hb⟩ => ⟨_, he, hb, by rw [← HT3.out]⟩
    apply slot_eq
    · intro ρ w' ⟨p1, p2, p3⟩ ⟨hz, hbl, c0, c1, c2, c3, c4, c5, c6⟩ hn
      simp at hn
      go_simp
      rw [if_neg (by omega)]
      exact ⟨Below.refl _ _, rfl⟩
    iterate 1 (apply slot_eq; · (intro ρ w' ⟨p1, p2, p3⟩ ⟨hz, hbl, c0, c1, c2, c3, c4, c5, c6⟩ hn; simp at hn; go_simp; exact ⟨Below.refl _ _, rfl⟩))
    refine slot_end ?_
    intro vs w2 hS hF
    have HX2 : Hid (BoxIn w w2 k c s q v de ag xs.length cap) := hS
    simp at hF
    obtain ⟨h3, -⟩ := hF
    obtain ⟨t0, HT0⟩ : ∃ t, Hid (t = ⟨#[119]⟩ ++ t1 ++ t2 ++ t3) := ⟨_, Lib.hid rfl⟩
    have z0 : t0.size ≤ 155 := by
      have e1 : (⟨#[119]⟩ : ByteArray).size = 1 := rfl
      rw [HT0.out]
      simp only [ByteArray.size_append]
      omega
    rw [← HT0.out] at h3
    have HE : Hid (t0 = str (headText k c s q v de xs.length)) := by
      have e1 : (⟨#[119]⟩ : ByteArray) = str [119] := rfl
      rw [HT0.out, HT1.out, HT2.out, HT3.out, e1, str_add, str_add, str_add]
      simp [headText, Hid]
    clear hS HT0 HT1 HT2 HT3 z1 z2 z3
    simp only [List.take_succ_cons, List.take_zero, List.drop_succ_cons, List.drop_zero, putAll, h3]
    clear h3
    go_wp2
    go_loopw [3, 4] (fun t i wr => ∃ (j : Nat) (acc : ByteArray), j ≤ xs.length ∧ i = .int .i64 j ∧ t = .string acc ∧ acc.size ≤ 155 + 88 * j ∧ Hid (acc = str (headText k c s q v de xs.length ++ (xs.take j).flatMap depText)) ∧ Hid (BoxIn w wr k c s q v de ag xs.length cap)) (fun _ i _ => xs.length - (intOf i).toNat)
    case atStart => exact ⟨0, t0, by omega, rfl, rfl, by omega, by rw [HE.out]; simp [Hid], HX2⟩
    case round =>
    obtain ⟨j, acc, hj, rfl, rfl, hsz, HA, HX3⟩ := hrel
    have c6 := HX3.out.c6
    by_cases hj' : j < xs.length
    · have j1 : (0 : Int) ≤ (j : Int) := by omega
      have j2 : (j : Int) < (xs.length : Int) := by omega
      obtain ⟨g, rfl, hlt, hhd⟩ := HH.out.get hj'
      have HD : Hid (∀ w', Below w.heap.size w w' → w'.cell? ⟨g, j * 4, none⟩ = some (.int .i64 (xs.getD j dz).k) ∧ w'.cell? ⟨g, j * 4 + 1, none⟩ = some (.int .i64 (xs.getD j dz).c) ∧ w'.cell? ⟨g, j * 4 + 2, none⟩ = some (.int .i64 (xs.getD j dz).s) ∧ w'.cell? ⟨g, j * 4 + 3, none⟩ = some (.int .i64 (xs.getD j dz).q)) := fun w' hb => dep_cells4 hhd hb hlt hj'
      have i4 : Ints64 [(xs.getD j dz).k] := ints_key (dep_key o4 hj')
      have i5 : Ints64 [(xs.getD j dz).c, (xs.getD j dz).s, (xs.getD j dz).q] := ints_tag (depsOk_tag o4 hj')
      have HN : Hid (depText (xs.getD j dz) = numsText [(xs.getD j dz).k] ++ numsText [(xs.getD j dz).c, (xs.getD j dz).s, (xs.getD j dz).q]) := rfl
      generalize (xs.getD j dz).k = x0 at HD HN i4
      generalize (xs.getD j dz).c = x1 at HD HN i5
      generalize (xs.getD j dz).s = x2 at HD HN i5
      generalize (xs.getD j dz).q = x3 at HD HN i5
      obtain ⟨t4, HT4⟩ : ∃ t, Hid (t = str (numsText [x0])) := ⟨_, Lib.hid rfl⟩
      obtain ⟨t5, HT5⟩ : ∃ t, Hid (t = str (numsText [x1, x2, x3])) := ⟨_, Lib.hid rfl⟩
      have z4 : t4.size ≤ 22 := by rw [HT4.out]; exact nums_size _ i4
      have z5 : t5.size ≤ 66 := by rw [HT5.out]; exact nums_size _ i5
      go_wp2_with fail
      refine wp_region_slots 20 [[(3, false)], [(1, false)], [(37, true)], [(4, false)], [(38, true), (39, true)], [(40, true)], [(41, true)], [(42, true)], [(43, true)], [(36, true), (44, true)], [(1, false)], [(46, true)], [(4, false)], [(47, true), (48, true)], [(49, true)], [(50, true)], [(51, true)], [(52, true)], [(45, true), (53, true)], [(54, true)]] (fun w' => BoxIn w w' k c s q v de (some ⟨g, 0, none⟩) xs.length cap) (fun w w' => Below w.heap.size w w') (by kernel_rfl) (by kernel_rfl) (by rfl) (HX3.out.step (Below.refl _ _).drew) (fun _ _ h hb => h.step hb) ?_
      iterate 7 (apply slot_eq; · (intro ρ w' ⟨p1, p2, p3⟩ ⟨hz, hbl, c0, c1, c2, c3, c4, c5, c6⟩ hn; obtain ⟨e0, e1, e2, e3⟩ := HD.out w' hbl; simp at hn; go_simp; exact ⟨Below.refl _ _, rfl⟩))
      refine slot_fact (IntsFact [x0]) (lasts_ints _) ?_ ?_
      · intro ρ w' ⟨p1, p2, p3⟩ ⟨hz, hbl, c0, c1, c2, c3, c4, c5, c6⟩ hn
        simp at hn
        go_simp
        exact ⟨(Below.refl _ _).alloc (Nat.le_refl _) _, ints_new [x0]⟩
      apply slot_eq
      · intro ρ w' ⟨p1, p2, p3⟩ ⟨hz, hbl, c0, c1, c2, c3, c4, c5, c6⟩ hn
        simp at hn
        go_simp
        exact got_call (nums_fact hn (by simp) i4) fun e w'' ⟨he, hb⟩ => ⟨_, he, hb, by rw [← HT4.out]⟩
      apply slot_eq
      · intro ρ w' ⟨p1, p2, p3⟩ ⟨hz, hbl, c0, c1, c2, c3, c4, c5, c6⟩ hn
        simp at hn
        go_simp
        rw [if_neg (by omega)]
        exact ⟨Below.refl _ _, rfl⟩
      iterate 6 (apply slot_eq; · (intro ρ w' ⟨p1, p2, p3⟩ ⟨hz, hbl, c0, c1, c2, c3, c4, c5, c6⟩ hn; obtain ⟨e0, e1, e2, e3⟩ := HD.out w' hbl; simp at hn; go_simp; exact ⟨Below.refl _ _, rfl⟩))
      refine slot_fact (IntsFact [x1, x2, x3]) (lasts_ints _) ?_ ?_
      · intro ρ w' ⟨p1, p2, p3⟩ ⟨hz, hbl, c0, c1, c2, c3, c4, c5, c6⟩ hn
        simp at hn
        go_simp
        exact got_call (tagNums_fact x1 x2 x3 _) fun e w'' h => h
      apply slot_eq
      · intro ρ w' ⟨p1, p2, p3⟩ ⟨hz, hbl, c0, c1, c2, c3, c4, c5, c6⟩ hn
        simp at hn
        go_simp
        exact got_call (nums_fact hn (by simp) i5) fun e w'' ⟨he, hb⟩ => ⟨_, he, hb, by rw [← HT5.out]⟩
      apply slot_eq
      · intro ρ w' ⟨p1, p2, p3⟩ ⟨hz, hbl, c0, c1, c2, c3, c4, c5, c6⟩ hn
        simp at hn
        go_simp
        rw [if_neg (by omega)]
        exact ⟨Below.refl _ _, rfl⟩
      iterate 1 (apply slot_eq; · (intro ρ w' ⟨p1, p2, p3⟩ ⟨hz, hbl, c0, c1, c2, c3, c4, c5, c6⟩ hn; obtain ⟨e0, e1, e2, e3⟩ := HD.out w' hbl; simp at hn; go_simp; exact ⟨Below.refl _ _, rfl⟩))
      refine slot_end ?_
      intro vs w3 hS hF
      have HX4 : Hid (BoxIn w w3 k c s q v de (some ⟨g, 0, none⟩) xs.length cap) := hS
      simp at hF
      obtain ⟨h3, -⟩ := hF
      have HNEW : Hid (acc ++ t4 ++ t5 = str (headText k c s q v de xs.length ++ (xs.take (j + 1)).flatMap depText)) := by
        rw [HA.out, HT4.out, HT5.out, str_add, str_add, deps_take xs j hj', HN.out]
        simp [Hid]
      have hlen : (acc ++ t4 ++ t5).size ≤ 155 + 88 * (j + 1) := by
        simp only [ByteArray.size_append]
        omega
      clear hS HT4 HT5 z4 z5
      simp only [List.take_succ_cons, List.take_zero, List.drop_succ_cons, List.drop_zero, putAll, h3]
      clear h3
      go_wp2
      exact ⟨⟨j + 1, _, by omega, by go_num, rfl, hlen, HNEW, HX4⟩, by simp [intOf]; omega⟩
    · have hjn : j = xs.length := by omega
      subst hjn
      go_wp2
      go_ret
      rw [HW.out, HA.out, List.take_length]
      exact ⟨rfl, HX3.out.below⟩

set_option maxRecDepth 100000 in
theorem specText_any (k c s q v : Int) (de : Bool) (g : Nat) (xs : List Dp) (len cap : Nat) (w : World) (hl : xs.length = len) (hn : len ≤ 1048576) (hlt : g < w.heap.size) (hh : HoldsDeps w g 0 xs) :
    Calls Tryd.prog 39 #[wrV k c s q v de (some ⟨g, 0, none⟩) len cap] w fun e w' => e = .returned (.string (str (writeText k c s q v de xs))) ∧ Below w.heap.size w w' :=
  specText_gen k c s q v de _ xs len cap w hl hn (.inr ⟨g, rfl, hlt, hh⟩)

end Go.Proofs.YtidpcjcnhklmpalDoor

/- The words of a write's text, with no program in sight. -/
namespace Go.Proofs.YtidpcjcnhklmpalDoor
open Go.ChangeShapes Go.WideShapes Go.ChangeAt Go.RowKit Go.Joins

def wordsOf (ns : List Int) : List ByteArray := str [119] :: ns.map fun n => str (Lib.itoa n)

theorem join_words (ns : List Int) : Lib.join ((wordsOf ns).map (·.data.toList)) [32] = 119 :: numsText ns := by
  simp only [wordsOf, List.map_cons, Lib.join_cons, Lib.joinTail, List.map_map]
  simp [str, numsText, List.flatMap, Function.comp_def]

def headNs (k c s q v : Int) (de : Bool) (n : Nat) : List Int := [k, c, s, q, v, bitI de, n]

def depNs (d : Dp) : List Int := [d.k, d.c, d.s, d.q]

theorem text_nums (k c s q v : Int) (de : Bool) (xs : List Dp) (n : Nat) : 119 :: numsText (headNs k c s q v de n ++ xs.flatMap depNs) = headText k c s q v de n ++ xs.flatMap depText := by
  have e : depText = fun d => numsText (depNs d) := by
    funext d
    simp [depText, depNs, numsText]
  rw [e]
  simp [headText, headNs, numsText, List.flatMap_assoc]

end Go.Proofs.YtidpcjcnhklmpalDoor

/-
  DERIVED: THE SHELF's CONTRACTS AT THIS DUMP, IN PLAIN WORDS (tools/lay-plain.mjs out of 'TrydShelf.lean', which tools/lay-shelf.mjs wrote): THE SAME DECLARATIONS UNDER THE SAME NAMES: 'import', 'namespace', 'open', 'def', 'theorem' AND NOTHING ELSE: no command of the shelf's: FOR A HAND-IN. Each laying: the table of numbers ('.._ren') and one theorem, a field a fact of the dump's own or the kernel's comparison; each contract: ONE APPLICATION.
-/
namespace Go.Proofs
open Go.Shelf
def Tryd.laysM246_ren : Go.Shelf.Ren := ⟨fun | 246 => 94 | 283 => 102 | 284 => 103 | 285 => 104 | 286 => 105 | 129 => 108 | 317 => 107 | 318 => 109 | 319 => 110 | 320 => 111 | 337 => 112 | 338 => 113 | n => n, fun | 2 => 2 | 3 => 3 | 9 => 9 | 4 => 4 | 171 => 124 | 0 => 0 | 53 => 96 | 37 => 69 | 5 => 5 | 173 => 127 | 212 => 130 | 51 => 112 | 20 => 20 | 213 => 131 | 46 => 114 | 232 => 134 | 233 => 135 | n => n, fun | 17 => 1 | 18 => 2 | 19 => 3 | n => n⟩
theorem Tryd.laysM246 : Go.Proofs.LaysM.n246 Tryd.prog Tryd.laysM246_ren := {
  mixed := by kernel_rfl
  f129 := Tryd.func108.trans (congrArg some (by kernel_rfl))
  f246 := Tryd.func94.trans (congrArg some (by kernel_rfl))
  f283 := Tryd.func102.trans (congrArg some (by kernel_rfl))
  f284 := Tryd.func103.trans (congrArg some (by kernel_rfl))
  f285 := Tryd.func104.trans (congrArg some (by kernel_rfl))
  f286 := Tryd.func105.trans (congrArg some (by kernel_rfl))
  f317 := Tryd.func107.trans (congrArg some (by kernel_rfl))
  f318 := Tryd.func109.trans (congrArg some (by kernel_rfl))
  f319 := Tryd.func110.trans (congrArg some (by kernel_rfl))
  f320 := Tryd.func111.trans (congrArg some (by kernel_rfl))
  f337 := Tryd.func112.trans (congrArg some (by kernel_rfl))
  f338 := Tryd.func113.trans (congrArg some (by kernel_rfl))
  t0 := Tryd.underlying0
  a0 := Tryd.isAgg0
  z0 := Tryd.sizeOf0
  v0 := Tryd.zeroValue0
  t2 := Tryd.underlying2
  a2 := Tryd.isAgg2
  z2 := Tryd.sizeOf2
  v2 := Tryd.zeroValue2
  t3 := Tryd.underlying3
  a3 := Tryd.isAgg3
  z3 := Tryd.sizeOf3
  v3 := Tryd.zeroValue3
  t4 := Tryd.underlying4
  a4 := Tryd.isAgg4
  z4 := Tryd.sizeOf4
  v4 := Tryd.zeroValue4
  t5 := Tryd.underlying5
  a5 := Tryd.isAgg5
  z5 := Tryd.sizeOf5
  v5 := Tryd.zeroValue5
  t9 := Tryd.underlying9
  a9 := Tryd.isAgg9
  z9 := Tryd.sizeOf9
  v9 := Tryd.zeroValue9
  t20 := Tryd.underlying20
  a20 := Tryd.isAgg20
  z20 := Tryd.sizeOf20
  v20 := Tryd.zeroValue20
  t37 := Tryd.underlying69
  a37 := Tryd.isAgg69
  z37 := Tryd.sizeOf69
  v37 := Tryd.zeroValue69
  t46 := Tryd.underlying114
  a46 := Tryd.isAgg114
  z46 := Tryd.sizeOf114
  v46 := Tryd.zeroValue114
  t51 := Tryd.underlying112
  a51 := Tryd.isAgg112
  z51 := Tryd.sizeOf112
  v51 := Tryd.zeroValue112
  t53 := Tryd.underlying96
  a53 := Tryd.isAgg96
  z53 := Tryd.sizeOf96
  v53 := Tryd.zeroValue96
  t171 := Tryd.underlying124
  a171 := Tryd.isAgg124
  z171 := Tryd.sizeOf124
  v171 := Tryd.zeroValue124
  t173 := Tryd.underlying127
  a173 := Tryd.isAgg127
  z173 := Tryd.sizeOf127
  v173 := Tryd.zeroValue127
  t212 := Tryd.underlying130
  a212 := Tryd.isAgg130
  z212 := Tryd.sizeOf130
  v212 := Tryd.zeroValue130
  t213 := Tryd.underlying131
  a213 := Tryd.isAgg131
  z213 := Tryd.sizeOf131
  t232 := Tryd.underlying134
  a232 := Tryd.isAgg134
  z232 := Tryd.sizeOf134
  v232 := Tryd.zeroValue134
  t233 := Tryd.underlying135
  a233 := Tryd.isAgg135
  z233 := Tryd.sizeOf135
  v233 := Tryd.zeroValue135
  g17 := by kernel_rfl
  g18 := by kernel_rfl
  g19 := by kernel_rfl
  i0 := by kernel_rfl
  i2 := by kernel_rfl
  i3 := by kernel_rfl
  i4 := by kernel_rfl
  i5 := by kernel_rfl
  i9 := by kernel_rfl
  i20 := by kernel_rfl
  i37 := by kernel_rfl
  i46 := by kernel_rfl
  i51 := by kernel_rfl
  i53 := by kernel_rfl
  i171 := by kernel_rfl
  i173 := by kernel_rfl
  i212 := by kernel_rfl
  i232 := by kernel_rfl
  i233 := by kernel_rfl
  m17 := by kernel_rfl
  m18 := by kernel_rfl
  m19 := by kernel_rfl }
open Go.RowKit Go.Sort Go.Lib in
/-- internal/strconv.FormatInt: "FormatInt returns the string representation of i in the given base": AT BASE 10: i's decimal numeral, for every int64. The world behind the call: the world before it, new blocks behind the heap, draws. (LAID: no walk: one application.) -/
theorem Tryd.internal_strconv_FormatInt_10 (n : Int) (h0 : -9223372036854775808 ≤ n) (h1 : n ≤ 9223372036854775807) (w : World) (htab : Lib.TabIs Tryd.prog w "internal/strconv.uint64pow10" .u64 Lib.pow10Tab) :
    Calls Tryd.prog 94 #[.int .i64 n, .int .i64 10] w fun e w' => e = .returned (.string ⟨(Lib.itoa n).toArray⟩) ∧ ∃ k os, w' = grow (w.drewN k) os := Any.internal_strconv_FormatInt_10 Tryd.laysM246 n h0 h1 w htab
def Tryd.lays246_ren : Go.Shelf.Ren := ⟨fun | 246 => 94 | 283 => 102 | 284 => 103 | 285 => 104 | 286 => 105 | 129 => 108 | 317 => 107 | 318 => 109 | 319 => 110 | 320 => 111 | 337 => 112 | 338 => 113 | n => n, fun | 2 => 2 | 3 => 3 | 9 => 9 | 4 => 4 | 171 => 124 | 0 => 0 | 53 => 96 | 37 => 69 | 5 => 5 | 173 => 127 | 212 => 130 | 51 => 112 | 20 => 20 | 213 => 131 | 46 => 114 | 232 => 134 | 233 => 135 | n => n, fun | 17 => 1 | 18 => 2 | 19 => 3 | n => n⟩
theorem Tryd.lays246 : Go.Proofs.Lays.n246 Tryd.prog Tryd.lays246_ren := {
  mixed := by kernel_rfl
  f129 := Tryd.func108.trans (congrArg some (by kernel_rfl))
  f246 := Tryd.func94.trans (congrArg some (by kernel_rfl))
  f283 := Tryd.func102.trans (congrArg some (by kernel_rfl))
  f284 := Tryd.func103.trans (congrArg some (by kernel_rfl))
  f285 := Tryd.func104.trans (congrArg some (by kernel_rfl))
  f286 := Tryd.func105.trans (congrArg some (by kernel_rfl))
  f317 := Tryd.func107.trans (congrArg some (by kernel_rfl))
  f318 := Tryd.func109.trans (congrArg some (by kernel_rfl))
  f319 := Tryd.func110.trans (congrArg some (by kernel_rfl))
  f320 := Tryd.func111.trans (congrArg some (by kernel_rfl))
  f337 := Tryd.func112.trans (congrArg some (by kernel_rfl))
  f338 := Tryd.func113.trans (congrArg some (by kernel_rfl))
  t0 := Tryd.underlying0
  a0 := Tryd.isAgg0
  z0 := Tryd.sizeOf0
  v0 := Tryd.zeroValue0
  t2 := Tryd.underlying2
  a2 := Tryd.isAgg2
  z2 := Tryd.sizeOf2
  v2 := Tryd.zeroValue2
  t3 := Tryd.underlying3
  a3 := Tryd.isAgg3
  z3 := Tryd.sizeOf3
  v3 := Tryd.zeroValue3
  t4 := Tryd.underlying4
  a4 := Tryd.isAgg4
  z4 := Tryd.sizeOf4
  v4 := Tryd.zeroValue4
  t5 := Tryd.underlying5
  a5 := Tryd.isAgg5
  z5 := Tryd.sizeOf5
  v5 := Tryd.zeroValue5
  t9 := Tryd.underlying9
  a9 := Tryd.isAgg9
  z9 := Tryd.sizeOf9
  v9 := Tryd.zeroValue9
  t20 := Tryd.underlying20
  a20 := Tryd.isAgg20
  z20 := Tryd.sizeOf20
  v20 := Tryd.zeroValue20
  t37 := Tryd.underlying69
  a37 := Tryd.isAgg69
  z37 := Tryd.sizeOf69
  v37 := Tryd.zeroValue69
  t46 := Tryd.underlying114
  a46 := Tryd.isAgg114
  z46 := Tryd.sizeOf114
  v46 := Tryd.zeroValue114
  t51 := Tryd.underlying112
  a51 := Tryd.isAgg112
  z51 := Tryd.sizeOf112
  v51 := Tryd.zeroValue112
  t53 := Tryd.underlying96
  a53 := Tryd.isAgg96
  z53 := Tryd.sizeOf96
  v53 := Tryd.zeroValue96
  t171 := Tryd.underlying124
  a171 := Tryd.isAgg124
  z171 := Tryd.sizeOf124
  v171 := Tryd.zeroValue124
  t173 := Tryd.underlying127
  a173 := Tryd.isAgg127
  z173 := Tryd.sizeOf127
  v173 := Tryd.zeroValue127
  t212 := Tryd.underlying130
  a212 := Tryd.isAgg130
  z212 := Tryd.sizeOf130
  v212 := Tryd.zeroValue130
  t213 := Tryd.underlying131
  a213 := Tryd.isAgg131
  z213 := Tryd.sizeOf131
  t232 := Tryd.underlying134
  a232 := Tryd.isAgg134
  z232 := Tryd.sizeOf134
  v232 := Tryd.zeroValue134
  t233 := Tryd.underlying135
  a233 := Tryd.isAgg135
  z233 := Tryd.sizeOf135
  v233 := Tryd.zeroValue135
  g17 := by kernel_rfl
  g18 := by kernel_rfl
  g19 := by kernel_rfl }
open Go.RowKit Go.Sort Go.Lib in
/-- THE ROAD WITHOUT THE TABLE: 0 <= i < 100: two constants are read, nothing is laid: no premise on the world, and the world is as it was. (LAID: no walk: one application.) -/
theorem Tryd.internal_strconv_FormatInt_10_small (i : Nat) (hi : i < 100) (w : World) :
    Calls Tryd.prog 94 #[.int .i64 i, .int .i64 10] w fun e w' => e = .returned (.string ⟨(Lib.decDigits i).toArray⟩) ∧ w' = w := Any.internal_strconv_FormatInt_10_small Tryd.lays246 i hi w
def Tryd.laysM243_ren : Go.Shelf.Ren := ⟨fun | 243 => 88 | 246 => 94 | 283 => 102 | 284 => 103 | 285 => 104 | 286 => 105 | 129 => 108 | 317 => 107 | 318 => 109 | 319 => 110 | 320 => 111 | 337 => 112 | 338 => 113 | n => n, fun | 3 => 3 | 9 => 9 | 2 => 2 | 4 => 4 | 171 => 124 | 0 => 0 | 53 => 96 | 37 => 69 | 5 => 5 | 173 => 127 | 212 => 130 | 51 => 112 | 20 => 20 | 213 => 131 | 46 => 114 | 232 => 134 | 233 => 135 | n => n, fun | 17 => 1 | 18 => 2 | 19 => 3 | n => n⟩
theorem Tryd.laysM243 : Go.Proofs.LaysM.n243 Tryd.prog Tryd.laysM243_ren := {
  mixed := by kernel_rfl
  f129 := Tryd.func108.trans (congrArg some (by kernel_rfl))
  f243 := Tryd.func88.trans (congrArg some (by kernel_rfl))
  f246 := Tryd.func94.trans (congrArg some (by kernel_rfl))
  f283 := Tryd.func102.trans (congrArg some (by kernel_rfl))
  f284 := Tryd.func103.trans (congrArg some (by kernel_rfl))
  f285 := Tryd.func104.trans (congrArg some (by kernel_rfl))
  f286 := Tryd.func105.trans (congrArg some (by kernel_rfl))
  f317 := Tryd.func107.trans (congrArg some (by kernel_rfl))
  f318 := Tryd.func109.trans (congrArg some (by kernel_rfl))
  f319 := Tryd.func110.trans (congrArg some (by kernel_rfl))
  f320 := Tryd.func111.trans (congrArg some (by kernel_rfl))
  f337 := Tryd.func112.trans (congrArg some (by kernel_rfl))
  f338 := Tryd.func113.trans (congrArg some (by kernel_rfl))
  t0 := Tryd.underlying0
  a0 := Tryd.isAgg0
  z0 := Tryd.sizeOf0
  v0 := Tryd.zeroValue0
  t2 := Tryd.underlying2
  a2 := Tryd.isAgg2
  z2 := Tryd.sizeOf2
  v2 := Tryd.zeroValue2
  t3 := Tryd.underlying3
  a3 := Tryd.isAgg3
  z3 := Tryd.sizeOf3
  v3 := Tryd.zeroValue3
  t4 := Tryd.underlying4
  a4 := Tryd.isAgg4
  z4 := Tryd.sizeOf4
  v4 := Tryd.zeroValue4
  t5 := Tryd.underlying5
  a5 := Tryd.isAgg5
  z5 := Tryd.sizeOf5
  v5 := Tryd.zeroValue5
  t9 := Tryd.underlying9
  a9 := Tryd.isAgg9
  z9 := Tryd.sizeOf9
  v9 := Tryd.zeroValue9
  t20 := Tryd.underlying20
  a20 := Tryd.isAgg20
  z20 := Tryd.sizeOf20
  v20 := Tryd.zeroValue20
  t37 := Tryd.underlying69
  a37 := Tryd.isAgg69
  z37 := Tryd.sizeOf69
  v37 := Tryd.zeroValue69
  t46 := Tryd.underlying114
  a46 := Tryd.isAgg114
  z46 := Tryd.sizeOf114
  v46 := Tryd.zeroValue114
  t51 := Tryd.underlying112
  a51 := Tryd.isAgg112
  z51 := Tryd.sizeOf112
  v51 := Tryd.zeroValue112
  t53 := Tryd.underlying96
  a53 := Tryd.isAgg96
  z53 := Tryd.sizeOf96
  v53 := Tryd.zeroValue96
  t171 := Tryd.underlying124
  a171 := Tryd.isAgg124
  z171 := Tryd.sizeOf124
  v171 := Tryd.zeroValue124
  t173 := Tryd.underlying127
  a173 := Tryd.isAgg127
  z173 := Tryd.sizeOf127
  v173 := Tryd.zeroValue127
  t212 := Tryd.underlying130
  a212 := Tryd.isAgg130
  z212 := Tryd.sizeOf130
  v212 := Tryd.zeroValue130
  t213 := Tryd.underlying131
  a213 := Tryd.isAgg131
  z213 := Tryd.sizeOf131
  t232 := Tryd.underlying134
  a232 := Tryd.isAgg134
  z232 := Tryd.sizeOf134
  v232 := Tryd.zeroValue134
  t233 := Tryd.underlying135
  a233 := Tryd.isAgg135
  z233 := Tryd.sizeOf135
  v233 := Tryd.zeroValue135
  g17 := by kernel_rfl
  g18 := by kernel_rfl
  g19 := by kernel_rfl
  i0 := by kernel_rfl
  i2 := by kernel_rfl
  i3 := by kernel_rfl
  i4 := by kernel_rfl
  i5 := by kernel_rfl
  i9 := by kernel_rfl
  i20 := by kernel_rfl
  i37 := by kernel_rfl
  i46 := by kernel_rfl
  i51 := by kernel_rfl
  i53 := by kernel_rfl
  i171 := by kernel_rfl
  i173 := by kernel_rfl
  i212 := by kernel_rfl
  i232 := by kernel_rfl
  i233 := by kernel_rfl
  m17 := by kernel_rfl
  m18 := by kernel_rfl
  m19 := by kernel_rfl }
open Go.RowKit Go.Sort Go.Lib in
/-- internal/strconv.Itoa: "Itoa is equivalent to FormatInt(int64(i), 10).": i's decimal numeral, for every int. (LAID: no walk: one application.) -/
theorem Tryd.internal_strconv_Itoa (n : Int) (h0 : -9223372036854775808 ≤ n) (h1 : n ≤ 9223372036854775807) (w : World) (htab : Lib.TabIs Tryd.prog w "internal/strconv.uint64pow10" .u64 Lib.pow10Tab) :
    Calls Tryd.prog 88 #[.int .i64 n] w fun e w' => e = .returned (.string ⟨(Lib.itoa n).toArray⟩) ∧ ∃ k os, w' = grow (w.drewN k) os := Any.internal_strconv_Itoa Tryd.laysM243 n h0 h1 w htab
def Tryd.lays243_ren : Go.Shelf.Ren := ⟨fun | 243 => 88 | 246 => 94 | 283 => 102 | 284 => 103 | 285 => 104 | 286 => 105 | 129 => 108 | 317 => 107 | 318 => 109 | 319 => 110 | 320 => 111 | 337 => 112 | 338 => 113 | n => n, fun | 3 => 3 | 9 => 9 | 2 => 2 | 4 => 4 | 171 => 124 | 0 => 0 | 53 => 96 | 37 => 69 | 5 => 5 | 173 => 127 | 212 => 130 | 51 => 112 | 20 => 20 | 213 => 131 | 46 => 114 | 232 => 134 | 233 => 135 | n => n, fun | 17 => 1 | 18 => 2 | 19 => 3 | n => n⟩
theorem Tryd.lays243 : Go.Proofs.Lays.n243 Tryd.prog Tryd.lays243_ren := {
  mixed := by kernel_rfl
  f129 := Tryd.func108.trans (congrArg some (by kernel_rfl))
  f243 := Tryd.func88.trans (congrArg some (by kernel_rfl))
  f246 := Tryd.func94.trans (congrArg some (by kernel_rfl))
  f283 := Tryd.func102.trans (congrArg some (by kernel_rfl))
  f284 := Tryd.func103.trans (congrArg some (by kernel_rfl))
  f285 := Tryd.func104.trans (congrArg some (by kernel_rfl))
  f286 := Tryd.func105.trans (congrArg some (by kernel_rfl))
  f317 := Tryd.func107.trans (congrArg some (by kernel_rfl))
  f318 := Tryd.func109.trans (congrArg some (by kernel_rfl))
  f319 := Tryd.func110.trans (congrArg some (by kernel_rfl))
  f320 := Tryd.func111.trans (congrArg some (by kernel_rfl))
  f337 := Tryd.func112.trans (congrArg some (by kernel_rfl))
  f338 := Tryd.func113.trans (congrArg some (by kernel_rfl))
  t0 := Tryd.underlying0
  a0 := Tryd.isAgg0
  z0 := Tryd.sizeOf0
  v0 := Tryd.zeroValue0
  t2 := Tryd.underlying2
  a2 := Tryd.isAgg2
  z2 := Tryd.sizeOf2
  v2 := Tryd.zeroValue2
  t3 := Tryd.underlying3
  a3 := Tryd.isAgg3
  z3 := Tryd.sizeOf3
  v3 := Tryd.zeroValue3
  t4 := Tryd.underlying4
  a4 := Tryd.isAgg4
  z4 := Tryd.sizeOf4
  v4 := Tryd.zeroValue4
  t5 := Tryd.underlying5
  a5 := Tryd.isAgg5
  z5 := Tryd.sizeOf5
  v5 := Tryd.zeroValue5
  t9 := Tryd.underlying9
  a9 := Tryd.isAgg9
  z9 := Tryd.sizeOf9
  v9 := Tryd.zeroValue9
  t20 := Tryd.underlying20
  a20 := Tryd.isAgg20
  z20 := Tryd.sizeOf20
  v20 := Tryd.zeroValue20
  t37 := Tryd.underlying69
  a37 := Tryd.isAgg69
  z37 := Tryd.sizeOf69
  v37 := Tryd.zeroValue69
  t46 := Tryd.underlying114
  a46 := Tryd.isAgg114
  z46 := Tryd.sizeOf114
  v46 := Tryd.zeroValue114
  t51 := Tryd.underlying112
  a51 := Tryd.isAgg112
  z51 := Tryd.sizeOf112
  v51 := Tryd.zeroValue112
  t53 := Tryd.underlying96
  a53 := Tryd.isAgg96
  z53 := Tryd.sizeOf96
  v53 := Tryd.zeroValue96
  t171 := Tryd.underlying124
  a171 := Tryd.isAgg124
  z171 := Tryd.sizeOf124
  v171 := Tryd.zeroValue124
  t173 := Tryd.underlying127
  a173 := Tryd.isAgg127
  z173 := Tryd.sizeOf127
  v173 := Tryd.zeroValue127
  t212 := Tryd.underlying130
  a212 := Tryd.isAgg130
  z212 := Tryd.sizeOf130
  v212 := Tryd.zeroValue130
  t213 := Tryd.underlying131
  a213 := Tryd.isAgg131
  z213 := Tryd.sizeOf131
  t232 := Tryd.underlying134
  a232 := Tryd.isAgg134
  z232 := Tryd.sizeOf134
  v232 := Tryd.zeroValue134
  t233 := Tryd.underlying135
  a233 := Tryd.isAgg135
  z233 := Tryd.sizeOf135
  v233 := Tryd.zeroValue135
  g17 := by kernel_rfl
  g18 := by kernel_rfl
  g19 := by kernel_rfl }
open Go.RowKit Go.Sort Go.Lib in
/-- THE ROAD WITHOUT THE TABLE: 0 <= i < 100. (LAID: no walk: one application.) -/
theorem Tryd.internal_strconv_Itoa_small (i : Nat) (hi : i < 100) (w : World) :
    Calls Tryd.prog 88 #[.int .i64 i] w fun e w' => e = .returned (.string ⟨(Lib.decDigits i).toArray⟩) ∧ w' = w := Any.internal_strconv_Itoa_small Tryd.lays243 i hi w
def Tryd.laysM171_ren : Go.Shelf.Ren := ⟨fun | 171 => 78 | 243 => 88 | 246 => 94 | 283 => 102 | 284 => 103 | 285 => 104 | 286 => 105 | 129 => 108 | 317 => 107 | 318 => 109 | 319 => 110 | 320 => 111 | 337 => 112 | 338 => 113 | n => n, fun | 3 => 3 | 9 => 9 | 2 => 2 | 4 => 4 | 171 => 124 | 0 => 0 | 53 => 96 | 37 => 69 | 5 => 5 | 173 => 127 | 212 => 130 | 51 => 112 | 20 => 20 | 213 => 131 | 46 => 114 | 232 => 134 | 233 => 135 | n => n, fun | 17 => 1 | 18 => 2 | 19 => 3 | n => n⟩
theorem Tryd.laysM171 : Go.Proofs.LaysM.n171 Tryd.prog Tryd.laysM171_ren := {
  mixed := by kernel_rfl
  f129 := Tryd.func108.trans (congrArg some (by kernel_rfl))
  f171 := Tryd.func78.trans (congrArg some (by kernel_rfl))
  f243 := Tryd.func88.trans (congrArg some (by kernel_rfl))
  f246 := Tryd.func94.trans (congrArg some (by kernel_rfl))
  f283 := Tryd.func102.trans (congrArg some (by kernel_rfl))
  f284 := Tryd.func103.trans (congrArg some (by kernel_rfl))
  f285 := Tryd.func104.trans (congrArg some (by kernel_rfl))
  f286 := Tryd.func105.trans (congrArg some (by kernel_rfl))
  f317 := Tryd.func107.trans (congrArg some (by kernel_rfl))
  f318 := Tryd.func109.trans (congrArg some (by kernel_rfl))
  f319 := Tryd.func110.trans (congrArg some (by kernel_rfl))
  f320 := Tryd.func111.trans (congrArg some (by kernel_rfl))
  f337 := Tryd.func112.trans (congrArg some (by kernel_rfl))
  f338 := Tryd.func113.trans (congrArg some (by kernel_rfl))
  t0 := Tryd.underlying0
  a0 := Tryd.isAgg0
  z0 := Tryd.sizeOf0
  v0 := Tryd.zeroValue0
  t2 := Tryd.underlying2
  a2 := Tryd.isAgg2
  z2 := Tryd.sizeOf2
  v2 := Tryd.zeroValue2
  t3 := Tryd.underlying3
  a3 := Tryd.isAgg3
  z3 := Tryd.sizeOf3
  v3 := Tryd.zeroValue3
  t4 := Tryd.underlying4
  a4 := Tryd.isAgg4
  z4 := Tryd.sizeOf4
  v4 := Tryd.zeroValue4
  t5 := Tryd.underlying5
  a5 := Tryd.isAgg5
  z5 := Tryd.sizeOf5
  v5 := Tryd.zeroValue5
  t9 := Tryd.underlying9
  a9 := Tryd.isAgg9
  z9 := Tryd.sizeOf9
  v9 := Tryd.zeroValue9
  t20 := Tryd.underlying20
  a20 := Tryd.isAgg20
  z20 := Tryd.sizeOf20
  v20 := Tryd.zeroValue20
  t37 := Tryd.underlying69
  a37 := Tryd.isAgg69
  z37 := Tryd.sizeOf69
  v37 := Tryd.zeroValue69
  t46 := Tryd.underlying114
  a46 := Tryd.isAgg114
  z46 := Tryd.sizeOf114
  v46 := Tryd.zeroValue114
  t51 := Tryd.underlying112
  a51 := Tryd.isAgg112
  z51 := Tryd.sizeOf112
  v51 := Tryd.zeroValue112
  t53 := Tryd.underlying96
  a53 := Tryd.isAgg96
  z53 := Tryd.sizeOf96
  v53 := Tryd.zeroValue96
  t171 := Tryd.underlying124
  a171 := Tryd.isAgg124
  z171 := Tryd.sizeOf124
  v171 := Tryd.zeroValue124
  t173 := Tryd.underlying127
  a173 := Tryd.isAgg127
  z173 := Tryd.sizeOf127
  v173 := Tryd.zeroValue127
  t212 := Tryd.underlying130
  a212 := Tryd.isAgg130
  z212 := Tryd.sizeOf130
  v212 := Tryd.zeroValue130
  t213 := Tryd.underlying131
  a213 := Tryd.isAgg131
  z213 := Tryd.sizeOf131
  t232 := Tryd.underlying134
  a232 := Tryd.isAgg134
  z232 := Tryd.sizeOf134
  v232 := Tryd.zeroValue134
  t233 := Tryd.underlying135
  a233 := Tryd.isAgg135
  z233 := Tryd.sizeOf135
  v233 := Tryd.zeroValue135
  g17 := by kernel_rfl
  g18 := by kernel_rfl
  g19 := by kernel_rfl
  i0 := by kernel_rfl
  i2 := by kernel_rfl
  i3 := by kernel_rfl
  i4 := by kernel_rfl
  i5 := by kernel_rfl
  i9 := by kernel_rfl
  i20 := by kernel_rfl
  i37 := by kernel_rfl
  i46 := by kernel_rfl
  i51 := by kernel_rfl
  i53 := by kernel_rfl
  i171 := by kernel_rfl
  i173 := by kernel_rfl
  i212 := by kernel_rfl
  i232 := by kernel_rfl
  i233 := by kernel_rfl
  m17 := by kernel_rfl
  m18 := by kernel_rfl
  m19 := by kernel_rfl }
open Go.RowKit Go.Sort Go.Lib in
/-- strconv.Itoa: "Itoa is equivalent to FormatInt(int64(i), 10).": i's DECIMAL NUMERAL ('Lib.itoa': a '-' where i is negative, then the digits), FOR EVERY int. The world behind the call: the world before it, new blocks behind the heap (the library's 'var a [24]byte'), draws. (LAID: no walk: one application.) -/
theorem Tryd.strconv_Itoa (n : Int) (h0 : -9223372036854775808 ≤ n) (h1 : n ≤ 9223372036854775807) (w : World) (htab : Lib.TabIs Tryd.prog w "internal/strconv.uint64pow10" .u64 Lib.pow10Tab) :
    Calls Tryd.prog 78 #[.int .i64 n] w fun e w' => e = .returned (.string ⟨(Lib.itoa n).toArray⟩) ∧ ∃ k os, w' = grow (w.drewN k) os := Any.strconv_Itoa Tryd.laysM171 n h0 h1 w htab
def Tryd.lays171_ren : Go.Shelf.Ren := ⟨fun | 171 => 78 | 243 => 88 | 246 => 94 | 283 => 102 | 284 => 103 | 285 => 104 | 286 => 105 | 129 => 108 | 317 => 107 | 318 => 109 | 319 => 110 | 320 => 111 | 337 => 112 | 338 => 113 | n => n, fun | 3 => 3 | 9 => 9 | 2 => 2 | 4 => 4 | 171 => 124 | 0 => 0 | 53 => 96 | 37 => 69 | 5 => 5 | 173 => 127 | 212 => 130 | 51 => 112 | 20 => 20 | 213 => 131 | 46 => 114 | 232 => 134 | 233 => 135 | n => n, fun | 17 => 1 | 18 => 2 | 19 => 3 | n => n⟩
theorem Tryd.lays171 : Go.Proofs.Lays.n171 Tryd.prog Tryd.lays171_ren := {
  mixed := by kernel_rfl
  f129 := Tryd.func108.trans (congrArg some (by kernel_rfl))
  f171 := Tryd.func78.trans (congrArg some (by kernel_rfl))
  f243 := Tryd.func88.trans (congrArg some (by kernel_rfl))
  f246 := Tryd.func94.trans (congrArg some (by kernel_rfl))
  f283 := Tryd.func102.trans (congrArg some (by kernel_rfl))
  f284 := Tryd.func103.trans (congrArg some (by kernel_rfl))
  f285 := Tryd.func104.trans (congrArg some (by kernel_rfl))
  f286 := Tryd.func105.trans (congrArg some (by kernel_rfl))
  f317 := Tryd.func107.trans (congrArg some (by kernel_rfl))
  f318 := Tryd.func109.trans (congrArg some (by kernel_rfl))
  f319 := Tryd.func110.trans (congrArg some (by kernel_rfl))
  f320 := Tryd.func111.trans (congrArg some (by kernel_rfl))
  f337 := Tryd.func112.trans (congrArg some (by kernel_rfl))
  f338 := Tryd.func113.trans (congrArg some (by kernel_rfl))
  t0 := Tryd.underlying0
  a0 := Tryd.isAgg0
  z0 := Tryd.sizeOf0
  v0 := Tryd.zeroValue0
  t2 := Tryd.underlying2
  a2 := Tryd.isAgg2
  z2 := Tryd.sizeOf2
  v2 := Tryd.zeroValue2
  t3 := Tryd.underlying3
  a3 := Tryd.isAgg3
  z3 := Tryd.sizeOf3
  v3 := Tryd.zeroValue3
  t4 := Tryd.underlying4
  a4 := Tryd.isAgg4
  z4 := Tryd.sizeOf4
  v4 := Tryd.zeroValue4
  t5 := Tryd.underlying5
  a5 := Tryd.isAgg5
  z5 := Tryd.sizeOf5
  v5 := Tryd.zeroValue5
  t9 := Tryd.underlying9
  a9 := Tryd.isAgg9
  z9 := Tryd.sizeOf9
  v9 := Tryd.zeroValue9
  t20 := Tryd.underlying20
  a20 := Tryd.isAgg20
  z20 := Tryd.sizeOf20
  v20 := Tryd.zeroValue20
  t37 := Tryd.underlying69
  a37 := Tryd.isAgg69
  z37 := Tryd.sizeOf69
  v37 := Tryd.zeroValue69
  t46 := Tryd.underlying114
  a46 := Tryd.isAgg114
  z46 := Tryd.sizeOf114
  v46 := Tryd.zeroValue114
  t51 := Tryd.underlying112
  a51 := Tryd.isAgg112
  z51 := Tryd.sizeOf112
  v51 := Tryd.zeroValue112
  t53 := Tryd.underlying96
  a53 := Tryd.isAgg96
  z53 := Tryd.sizeOf96
  v53 := Tryd.zeroValue96
  t171 := Tryd.underlying124
  a171 := Tryd.isAgg124
  z171 := Tryd.sizeOf124
  v171 := Tryd.zeroValue124
  t173 := Tryd.underlying127
  a173 := Tryd.isAgg127
  z173 := Tryd.sizeOf127
  v173 := Tryd.zeroValue127
  t212 := Tryd.underlying130
  a212 := Tryd.isAgg130
  z212 := Tryd.sizeOf130
  v212 := Tryd.zeroValue130
  t213 := Tryd.underlying131
  a213 := Tryd.isAgg131
  z213 := Tryd.sizeOf131
  t232 := Tryd.underlying134
  a232 := Tryd.isAgg134
  z232 := Tryd.sizeOf134
  v232 := Tryd.zeroValue134
  t233 := Tryd.underlying135
  a233 := Tryd.isAgg135
  z233 := Tryd.sizeOf135
  v233 := Tryd.zeroValue135
  g17 := by kernel_rfl
  g18 := by kernel_rfl
  g19 := by kernel_rfl }
open Go.RowKit Go.Sort Go.Lib in
/-- THE ROAD WITHOUT THE TABLE: 0 <= i < 100: NO PREMISE ON THE WORLD, AND THE WORLD IS AS IT WAS: a row that keeps its argument in that range need list no table ('laid = []'). (LAID: no walk: one application.) -/
theorem Tryd.strconv_Itoa_small (i : Nat) (hi : i < 100) (w : World) :
    Calls Tryd.prog 78 #[.int .i64 i] w fun e w' => e = .returned (.string ⟨(Lib.decDigits i).toArray⟩) ∧ w' = w := Any.strconv_Itoa_small Tryd.lays171 i hi w
end Go.Proofs

/- The program's number's text: impl.NumText gives the decimal numeral, where the library's table of powers of ten lies as its initialiser lays it. -/
namespace Go.Proofs.YtidpcjcnhklmpalDoor
open Go.ChangeShapes Go.WideShapes Go.ChangeAt Go.RowKit Go.Joins

def Tab (w : World) : Prop := Lib.TabIs Tryd.prog w "internal/strconv.uint64pow10" .u64 Lib.pow10Tab

theorem gPow : Tryd.prog.globalNamed "internal/strconv.uint64pow10" = some 1 := by kernel_rfl

theorem grown_below (w : World) (k : Nat) (os : Array Obj) : Below w.heap.size w (Sort.grow (w.drewN k) os) :=
  ⟨rfl, rfl, rfl, by simp [Sort.grow], fun j hj => by
    have hj' : j < (w.drewN k).heap.size := hj
    show ((w.drewN k).heap ++ os)[j]? = w.heap[j]?
    rw [Array.getElem?_append_left hj']
    rfl⟩

theorem Tab.below {w w' : World} {B : Nat} (h : Tab w) (hb : Below B w w') (hB : 1 < B) : Tab w' := by
  unfold Tab Lib.TabIs at h ⊢
  rw [← h]
  unfold World.var?
  simp only [gPow, Option.bind_some]
  rw [hb.block _ hB]

theorem Tab.lt {w : World} (h : Tab w) : 1 < w.heap.size := by
  have := h.cell gPow 0 (by simp [Lib.pow10Tab])
  exact block_lt_of_cell this

set_option maxRecDepth 100000 in
theorem implNum (n : Int) (w : World) (h0 : -9223372036854775808 ≤ n) (h1 : n ≤ 9223372036854775807) (ht : Tab w) :
    Calls Tryd.prog 53 #[.int .i64 n] w fun e w' => e = .returned (.string ⟨(Lib.itoa n).toArray⟩) ∧ Below w.heap.size w w' := by
  have HT : Hid (Tab w) := ht
  clear ht
  go_enter Tryd.func53, Tryd.ntmps53
  go_wp2_with fail
  refine (Tryd.strconv_Itoa n h0 h1 _ HT.out).mono ?_
  rintro e w1 ⟨rfl, k, os, rfl⟩
  have HB := Lib.hid (grown_below w k os)
  generalize Sort.grow (w.drewN k) os = w2 at HB ⊢
  go_wp2
  go_ret
  exact ⟨rfl, HB.out⟩
end Go.Proofs.YtidpcjcnhklmpalDoor

/- Words of one's own, in a row that is written into; what they are when they are joined. -/
namespace Go.Proofs.YtidpcjcnhklmpalDoor
open Go.ChangeShapes Go.WideShapes Go.ChangeAt Go.RowKit Go.Joins

structure OwnStrs (w : World) (base g cap : Nat) (ws : List ByteArray) : Prop where
  le : base ≤ g
  lt : g < w.heap.size
  own : w.ownsRow base 9 1 (.slice (some ⟨g, 0, none⟩) ws.length cap) ws.length (ws.map Value.string)

theorem OwnStrs.below {w w' : World} {base g cap : Nat} {ws : List ByteArray} (h : OwnStrs w base g cap ws) (hb : Below w.heap.size w w') : OwnStrs w' base g cap ws :=
  ⟨h.le, Nat.lt_of_lt_of_le h.lt hb.size, h.own.kept (row := none) ⟨hb.os, hb.tape, hb.output, hb.size, fun k hk _ => hb.block k hk⟩ (.inr (by simp [Value.ownBlock]))⟩

theorem OwnStrs.set {w : World} {base g cap : Nat} {ws : List ByteArray} (h : OwnStrs w base g cap ws) (j : Nat) (t : ByteArray) : OwnStrs (w.setCell ⟨g, j, none⟩ (.string t)) base g cap (ws.set j t) := by
  refine ⟨h.le, by simpa using h.lt, ?_⟩
  have := (h.own.stored j (.string t)).1
  rw [← List.map_set] at this
  simpa using this

theorem OwnStrs.cell {w : World} {base g cap : Nat} {ws : List ByteArray} (h : OwnStrs w base g cap ws) {j : Nat} {t : ByteArray} (ht : ws[j]? = some t) : w.cell? ⟨g, j, none⟩ = some (.string t) := by
  rw [h.own.cellAt j (by have := (List.getElem?_eq_some_iff.1 ht).1; omega)]
  simp [ht]

theorem OwnStrs.froz {w : World} {base g cap : Nat} {ws : List ByteArray} (h : OwnStrs w base g cap ws) (j : Nat) : w.frozen? ⟨g, j, none⟩ = false := h.own.frozenAt j

/-- A write's box, and a row of words behind it. -/
structure Words (w W : World) (k c s q v : Int) (de : Bool) (a : Option Addr) (len cap g wc : Nat) (ws : List ByteArray) : Prop where
  box : BoxIn w W k c s q v de a len cap
  row : OwnStrs W (w.heap.size + 1) g wc ws

theorem Words.step {w W W' : World} {k c s q v : Int} {de : Bool} {a : Option Addr} {len cap g wc : Nat} {ws : List ByteArray} (h : Words w W k c s q v de a len cap g wc ws) (hb : Below W.heap.size W W') : Words w W' k c s q v de a len cap g wc ws :=
  ⟨h.box.step hb, h.row.below hb⟩

theorem Words.set {w W : World} {k c s q v : Int} {de : Bool} {a : Option Addr} {len cap g wc : Nat} {ws : List ByteArray} (h : Words w W k c s q v de a len cap g wc ws) (j : Nat) (t : ByteArray) : Words w (W.setCell ⟨g, j, none⟩ (.string t)) k c s q v de a len cap g wc (ws.set j t) := by
  have hle := h.row.le
  refine ⟨h.box.other (by simp) (h.box.below.setCell (p := ⟨g, j, none⟩) (show w.heap.size ≤ g by omega) _) (Below.heap_setCell _ _ _ _ (show w.heap.size ≠ g by omega)), h.row.set j t⟩

theorem Words.grown {w W W' : World} {k c s q v : Int} {de : Bool} {a : Option Addr} {len cap g wc g' wc' : Nat} {ws ws' : List ByteArray} (h : Words w W k c s q v de a len cap g wc ws) (hg : W.grownBy W' (some g)) (ho : OwnStrs W' (w.heap.size + 1) g' wc' ws') : Words w W' k c s q v de a len cap g' wc' ws' := by
  have hle := h.row.le
  refine ⟨h.box.other hg.size (h.box.below.grown hg h.box.below.size fun j hj => by injection hj with hj; omega) (hg.block _ h.box.lt (by simp; omega)), ho⟩

theorem Words.ne {w W : World} {k c s q v : Int} {de : Bool} {a : Option Addr} {len cap g wc : Nat} {ws : List ByteArray} (h : Words w W k c s q v de a len cap g wc ws) : g ≠ w.heap.size := by
  have := h.row.le
  omega

theorem Words.tab {w W : World} {k c s q v : Int} {de : Bool} {a : Option Addr} {len cap g wc : Nat} {ws : List ByteArray} (h : Words w W k c s q v de a len cap g wc ws) (ht : Tab w) : Tab W := ht.below h.box.below ht.lt

theorem implNumT (n : Int) (t : ByteArray) (w : World) (ht : t = str (Lib.itoa n)) (h : -9223372036854775808 ≤ n ∧ n ≤ 9223372036854775807) (hT : Tab w) :
    Calls Tryd.prog 53 #[.int .i64 n] w fun e w' => e = .returned (.string t) ∧ Below w.heap.size w w' := by
  subst ht
  exact implNum n w h.1 h.2 hT

theorem flag_any (de : Bool) (w : World) : Calls Tryd.prog 65 #[.bool de] w fun e w' => e = .returned (.int .i64 (bitI de)) ∧ w' = w := by
  go_enter Tryd.func65, Tryd.ntmps65
  cases de
  · go_wp2
    go_ret
    exact ⟨rfl, rfl⟩
  · go_wp2
    go_ret
    exact ⟨rfl, rfl⟩

theorem infoStr : (Tryd.prog.info? 9).map (fun i => (i.zero, i.size, i.bytes)) = some (some (.string ⟨#[]⟩), 1, 16) := by kernel_rfl

set_option maxRecDepth 100000 in
theorem make_words {w w1 : World} {k c s q v : Int} {de : Bool} {a : Option Addr} {len cap : Nat} (h : BoxIn w w1 k c s q v de a len cap) (n : Nat) (hn : n ≤ 1048576) :
    ∃ W, (Instr.makeSlice 86 (.int .i64 8) (.int .i64 (8 + 4 * (n : Int)))).run Tryd.prog w1 = .ok (.slice (some ⟨w1.heap.size, 0, none⟩) 8 (8 + 4 * n)) W ∧ Words w W k c s q v de a len cap w1.heap.size (8 + 4 * n) (List.replicate 8 ⟨#[]⟩) := by
  obtain ⟨i, hi, hx⟩ := Option.map_eq_some_iff.1 infoStr
  simp only [Prod.mk.injEq] at hx
  have hr := run_make (P := Tryd.prog) w1 86 9 i (.string ⟨#[]⟩) Tryd.underlying86 hi hx.1 .i64 .i64 8 (8 + 4 * (n : Int)) (by omega) (by omega) (by rw [hx.2.2]; omega) (by omega)
  have e1 : (8 + 4 * (n : Int)).toNat = 8 + 4 * n := by omega
  rw [e1, hx.2.1, Nat.mul_one] at hr
  refine ⟨_, hr, ⟨h.step ((Below.refl _ _).alloc (Nat.le_refl _) _), ⟨h.lt, by simp, by simp, .inr ⟨w1.heap.size, 8 + 4 * n, _, rfl, h.lt, heap_alloc_new w1 _, by simp, by simp [maxLen]; omega, by rw [size_madeCells]; omega, ?_⟩⟩⟩⟩
  rw [show (Value.string ⟨#[]⟩).cells = #[Value.string ⟨#[]⟩] from rfl, toList_madeCells_one, List.take_replicate]
  simp only [List.length_replicate, List.map_replicate]
  congr 1
  omega

/-- Words of one's own, as a slice that is handed on. -/
def StrsFact (ts : List ByteArray) : Fact := fun v w => ∃ g, v = .slice (some ⟨g, 0, none⟩) ts.length ts.length ∧ g < w.heap.size ∧ ∀ j u, (ts.map Value.string)[j]? = some u → w.cell? ⟨g, j, none⟩ = some u

theorem lasts_strs (ts : List ByteArray) : lasts (fun w w' => Below w.heap.size w w') (StrsFact ts) := by
  rintro v w w' ⟨g, hv, hg, hh⟩ hb
  exact ⟨g, hv, Nat.lt_of_lt_of_le hg hb.size, fun j u hu => (hb.cell (p := ⟨g, j, none⟩) hg).trans (hh j u hu)⟩

theorem strs_new {w : World} {t : Nat} (ts : List ByteArray) : StrsFact ts (.slice (some ⟨w.heap.size, 0, none⟩) ts.length ts.length) (w.alloc (.cells (ts.map Value.string).toArray t)) :=
  ⟨_, rfl, by simp, fun j u hu => by rw [cell_of_row _ _ j _ t (0, 0) (heap_alloc_new w _)]; simpa using hu⟩

end Go.Proofs.YtidpcjcnhklmpalDoor

/-
  DERIVED: THE SHELF's CONTRACTS AT THIS DUMP, IN PLAIN WORDS (tools/lay-plain.mjs out of 'TrydShelf.lean', which tools/lay-shelf.mjs wrote): THE SAME DECLARATIONS UNDER THE SAME NAMES: 'import', 'namespace', 'open', 'def', 'theorem' AND NOTHING ELSE: no command of the shelf's: FOR A HAND-IN. Each laying: the table of numbers ('.._ren') and one theorem, a field a fact of the dump's own or the kernel's comparison; each contract: ONE APPLICATION.
-/
namespace Go.Proofs
open Go.Shelf
def Tryd.lays156_ren : Go.Shelf.Ren := ⟨fun | 156 => 66 | 165 => 84 | 166 => 85 | 169 => 86 | 240 => 92 | 241 => 93 | 276 => 100 | 277 => 101 | n => n, fun | 31 => 86 | 9 => 9 | 3 => 3 | 4 => 4 | 0 => 0 | 20 => 20 | 72 => 105 | 76 => 109 | 70 => 103 | 37 => 69 | 75 => 108 | 127 => 116 | 164 => 121 | 5 => 5 | 80 => 111 | n => n, fun | n => n⟩
theorem Tryd.lays156 : Go.Proofs.Lays.n156 Tryd.prog Tryd.lays156_ren := {
  mixed := by kernel_rfl
  f156 := Tryd.func66.trans (congrArg some (by kernel_rfl))
  f165 := Tryd.func84.trans (congrArg some (by kernel_rfl))
  f166 := Tryd.func85.trans (congrArg some (by kernel_rfl))
  f169 := Tryd.func86.trans (congrArg some (by kernel_rfl))
  f240 := Tryd.func92.trans (congrArg some (by kernel_rfl))
  f241 := Tryd.func93.trans (congrArg some (by kernel_rfl))
  f276 := Tryd.func100.trans (congrArg some (by kernel_rfl))
  f277 := Tryd.func101.trans (congrArg some (by kernel_rfl))
  t0 := Tryd.underlying0
  a0 := Tryd.isAgg0
  z0 := Tryd.sizeOf0
  v0 := Tryd.zeroValue0
  t3 := Tryd.underlying3
  a3 := Tryd.isAgg3
  z3 := Tryd.sizeOf3
  v3 := Tryd.zeroValue3
  t4 := Tryd.underlying4
  a4 := Tryd.isAgg4
  z4 := Tryd.sizeOf4
  v4 := Tryd.zeroValue4
  t9 := Tryd.underlying9
  a9 := Tryd.isAgg9
  z9 := Tryd.sizeOf9
  v9 := Tryd.zeroValue9
  t20 := Tryd.underlying20
  a20 := Tryd.isAgg20
  z20 := Tryd.sizeOf20
  v20 := Tryd.zeroValue20
  t31 := Tryd.underlying86
  a31 := Tryd.isAgg86
  z31 := Tryd.sizeOf86
  v31 := Tryd.zeroValue86
  t37 := Tryd.underlying69
  a37 := Tryd.isAgg69
  z37 := Tryd.sizeOf69
  v37 := Tryd.zeroValue69
  t70 := Tryd.underlying103
  a70 := Tryd.isAgg103
  z70 := Tryd.sizeOf103
  v70 := Tryd.zeroValue103
  t72 := Tryd.underlying105
  a72 := Tryd.isAgg105
  z72 := Tryd.sizeOf105
  v72 := Tryd.zeroValue105
  t75 := Tryd.underlying108
  a75 := Tryd.isAgg108
  z75 := Tryd.sizeOf108
  v75 := Tryd.zeroValue108
  t76 := Tryd.underlying109
  a76 := Tryd.isAgg109
  z76 := Tryd.sizeOf109
  v76 := Tryd.zeroValue109
  t127 := Tryd.underlying116
  a127 := Tryd.isAgg116
  z127 := Tryd.sizeOf116
  v127 := Tryd.zeroValue116
  t164 := Tryd.underlying121
  a164 := Tryd.isAgg121
  z164 := Tryd.sizeOf121
  v164 := Tryd.zeroValue121 }
theorem Tryd.Builder_Extra_156 : Builder.Extra Tryd.prog Tryd.lays156_ren := {
  sizeBuilder := by kernel_rfl
  liesBuilder := by kernel_rfl
  t5 := Tryd.underlying5
  a5 := Tryd.isAgg5
  z5 := Tryd.sizeOf5
  v5 := Tryd.zeroValue5
  infoByte := by kernel_rfl
  cellsByte := by kernel_rfl
  sizeByte := by kernel_rfl
  neB5 := by decide }
open Go.RowKit in
/-- No element: the empty string; the world is as it was. (Whatever the slice's address and capacity: a nil slice too.) (LAID: no walk: one application.) -/
theorem Tryd.strings_Join_none (a : Option Addr) (c : Nat) (sep : ByteArray) (w : World) :
    Calls Tryd.prog 66 #[.slice a 0 c, .string sep] w fun e w' => e = .returned (.string ⟨#[]⟩) ∧ w' = w := Any.strings_Join_none Tryd.lays156 Tryd.Builder_Extra_156 a c sep w
open Go.RowKit in
/-- strings.Join: "Join concatenates the elements of its first argument to create a single string. The separator string sep is placed between elements in the resulting string.": HOWEVER MANY ELEMENTS. Below the heap's end the world is as it was. (LAID: no walk: one application.) -/
theorem Tryd.strings_Join (bk o c : Nat) (xs : List ByteArray) (sep : ByteArray) (w : World) (hcells : ∀ (j : Nat) x, xs[j]? = some x → w.cell? ⟨bk, o + j, none⟩ = some (.string x)) (hbk : bk < w.heap.size) (hN : xs.length ≤ 140737488355328) (hcap : xs.length ≤ c) (hlen : (Lib.join (xs.map (·.data.toList)) sep.data.toList).length ≤ 140737488355328) :
    Calls Tryd.prog 66 #[.slice (some ⟨bk, o, none⟩) xs.length c, .string sep] w fun e w' => e = .returned (.string ⟨(Lib.join (xs.map (·.data.toList)) sep.data.toList).toArray⟩) ∧ Below w.heap.size w w' := Any.strings_Join Tryd.lays156 Tryd.Builder_Extra_156 bk o c xs sep w hcells hbk hN hcap hlen
end Go.Proofs
