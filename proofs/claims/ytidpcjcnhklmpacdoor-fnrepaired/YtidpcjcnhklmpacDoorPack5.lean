import Derived.Shelf.Strings.OnBuilder
import Derived.Test.YtidpcjcnhklmpacDoorProg
import Derived.Test.YtidpcjcnhklmpacDoorPack4
import Derived.Test.YtidpcjcnhklmpacDoorPack1
import Derived.Lib.Hide
import Derived.Lib.ItoaNum
import Derived.Lib.ItoaMem
import Derived.Deep.AppendLies
import Derived.Laws.OwnMore
import Derived.Test.YtidpcjcnhklmpacDoorPack2
/-
  DERIVED: THE SHELF's CONTRACTS AT THIS DUMP, IN PLAIN WORDS (tools/lay-plain.mjs out of 'TrydShelf.lean', which tools/lay-shelf.mjs wrote): THE SAME DECLARATIONS UNDER THE SAME NAMES: 'import', 'namespace', 'open', 'def', 'theorem' AND NOTHING ELSE: no command of the shelf's: FOR A HAND-IN. Each laying: the table of numbers ('.._ren') and one theorem, a field a fact of the dump's own or the kernel's comparison; each contract: ONE APPLICATION.
-/
namespace Go.Proofs
open Go.Shelf
def Tryd.lays156_ren : Go.Shelf.Ren := ⟨fun | 156 => 82 | 165 => 99 | 166 => 100 | 169 => 101 | 240 => 109 | 241 => 110 | 276 => 113 | 277 => 114 | n => n, fun | 31 => 96 | 9 => 9 | 3 => 3 | 4 => 4 | 0 => 0 | 20 => 20 | 72 => 124 | 76 => 128 | 70 => 122 | 37 => 22 | 75 => 127 | 127 => 135 | 164 => 138 | 5 => 5 | 80 => 53 | n => n, fun | n => n⟩
theorem Tryd.lays156 : Go.Proofs.Lays.n156 Tryd.prog Tryd.lays156_ren := {
  mixed := by kernel_rfl
  f156 := Tryd.func82.trans (congrArg some (by kernel_rfl))
  f165 := Tryd.func99.trans (congrArg some (by kernel_rfl))
  f166 := Tryd.func100.trans (congrArg some (by kernel_rfl))
  f169 := Tryd.func101.trans (congrArg some (by kernel_rfl))
  f240 := Tryd.func109.trans (congrArg some (by kernel_rfl))
  f241 := Tryd.func110.trans (congrArg some (by kernel_rfl))
  f276 := Tryd.func113.trans (congrArg some (by kernel_rfl))
  f277 := Tryd.func114.trans (congrArg some (by kernel_rfl))
  t0 := Tryd.underlying0
  a0 := Tryd.isAgg0
  z0 := Tryd.sizeOf0
  v0 := Tryd.zeroValue0
  t3 := Tryd.underlying3
  a3 := Tryd.isAgg3
  z3 := Tryd.sizeOf3
  v3 := Tryd.zeroValue3
  t4 := Tryd.underlying4
  a4 := Tryd.isAgg4
  z4 := Tryd.sizeOf4
  v4 := Tryd.zeroValue4
  t9 := Tryd.underlying9
  a9 := Tryd.isAgg9
  z9 := Tryd.sizeOf9
  v9 := Tryd.zeroValue9
  t20 := Tryd.underlying20
  a20 := Tryd.isAgg20
  z20 := Tryd.sizeOf20
  v20 := Tryd.zeroValue20
  t31 := Tryd.underlying96
  a31 := Tryd.isAgg96
  z31 := Tryd.sizeOf96
  v31 := Tryd.zeroValue96
  t37 := Tryd.underlying22
  a37 := Tryd.isAgg22
  z37 := Tryd.sizeOf22
  v37 := Tryd.zeroValue22
  t70 := Tryd.underlying122
  a70 := Tryd.isAgg122
  z70 := Tryd.sizeOf122
  v70 := Tryd.zeroValue122
  t72 := Tryd.underlying124
  a72 := Tryd.isAgg124
  z72 := Tryd.sizeOf124
  v72 := Tryd.zeroValue124
  t75 := Tryd.underlying127
  a75 := Tryd.isAgg127
  z75 := Tryd.sizeOf127
  v75 := Tryd.zeroValue127
  t76 := Tryd.underlying128
  a76 := Tryd.isAgg128
  z76 := Tryd.sizeOf128
  v76 := Tryd.zeroValue128
  t127 := Tryd.underlying135
  a127 := Tryd.isAgg135
  z127 := Tryd.sizeOf135
  v127 := Tryd.zeroValue135
  t164 := Tryd.underlying138
  a164 := Tryd.isAgg138
  z164 := Tryd.sizeOf138
  v164 := Tryd.zeroValue138 }
theorem Tryd.Builder_Extra_156 : Builder.Extra Tryd.prog Tryd.lays156_ren := {
  sizeBuilder := by kernel_rfl
  liesBuilder := by kernel_rfl
  t5 := Tryd.underlying5
  a5 := Tryd.isAgg5
  z5 := Tryd.sizeOf5
  v5 := Tryd.zeroValue5
  infoByte := by kernel_rfl
  cellsByte := by kernel_rfl
  sizeByte := by kernel_rfl
  neB5 := by decide }
open Go.RowKit in
/-- No element: the empty string; the world is as it was. (Whatever the slice's address and capacity: a nil slice too.) (LAID: no walk: one application.) -/
theorem Tryd.strings_Join_none (a : Option Addr) (c : Nat) (sep : ByteArray) (w : World) :
    Calls Tryd.prog 82 #[.slice a 0 c, .string sep] w fun e w' => e = .returned (.string ⟨#[]⟩) ∧ w' = w := Any.strings_Join_none Tryd.lays156 Tryd.Builder_Extra_156 a c sep w
open Go.RowKit in
/-- strings.Join: "Join concatenates the elements of its first argument to create a single string. The separator string sep is placed between elements in the resulting string.": HOWEVER MANY ELEMENTS. Below the heap's end the world is as it was. (LAID: no walk: one application.) -/
theorem Tryd.strings_Join (bk o c : Nat) (xs : List ByteArray) (sep : ByteArray) (w : World) (hcells : ∀ (j : Nat) x, xs[j]? = some x → w.cell? ⟨bk, o + j, none⟩ = some (.string x)) (hbk : bk < w.heap.size) (hN : xs.length ≤ 140737488355328) (hcap : xs.length ≤ c) (hlen : (Lib.join (xs.map (·.data.toList)) sep.data.toList).length ≤ 140737488355328) :
    Calls Tryd.prog 82 #[.slice (some ⟨bk, o, none⟩) xs.length c, .string sep] w fun e w' => e = .returned (.string ⟨(Lib.join (xs.map (·.data.toList)) sep.data.toList).toArray⟩) ∧ Below w.heap.size w w' := Any.strings_Join Tryd.lays156 Tryd.Builder_Extra_156 bk o c xs sep w hcells hbk hN hcap hlen
end Go.Proofs

/- The text of a write, by the program. -/
namespace Go.Proofs.YtidpcjcnhklmpacDoor
open Go.ChangeShapes Go.WideShapes Go.ChangeAt Go.RowKit Go.Joins

theorem head_bounds {k c s q v : Int} {de : Bool} {n : Nat} (h1 : btw k 0 5 = true) (h2 : tagOkB c s q = true) (h3 : valOkB v de = true) (hn : n ≤ 1048576) : ∀ x ∈ headNs k c s q v de n, -9223372036854775808 ≤ x ∧ x ≤ 9223372036854775807 := by
  have a := btw_bounds h1
  have b := tagOk_bounds h2
  have d := btw_bounds (val_btw h3)
  have e : 0 ≤ bitI de ∧ bitI de ≤ 1 := by cases de <;> simp [bitI]
  intro x hx
  simp only [headNs, List.mem_cons, List.not_mem_nil, or_false] at hx
  rcases hx with rfl | rfl | rfl | rfl | rfl | rfl | rfl <;> omega

def B64 (x : Int) : Prop := -9223372036854775808 ≤ x ∧ x ≤ 9223372036854775807

theorem nums_most : ∀ (ns : List Int), (∀ x ∈ ns, B64 x) → (numsText ns).length ≤ 22 * ns.length
  | [], _ => by simp [numsText]
  | x :: r, h => by
    have h1 := nums_most r fun y hy => h y (List.mem_cons_of_mem _ hy)
    have h2 := h x List.mem_cons_self
    have h3 := Lib.itoa_length_le _ h2.1 h2.2
    simp only [numsText, List.flatMap_cons, List.length_append, List.length_cons] at h1 ⊢
    omega

theorem dep_b64 {x0 x1 x2 x3 : Int} (h0 : Ints64 [x0]) (h1 : Ints64 [x1, x2, x3]) : ∀ x ∈ [x0, x1, x2, x3], B64 x := by
  have a := h0 0 (by simp)
  have b := h1 0 (by simp)
  have c := h1 1 (by simp)
  have d := h1 2 (by simp)
  intro x hx
  simp only [List.mem_cons, List.not_mem_nil, or_false] at hx
  rcases hx with rfl | rfl | rfl | rfl
  · exact a
  · exact b
  · exact c
  · exact d

theorem words_more (ns ms : List Int) : wordsOf (ns ++ ms) = wordsOf ns ++ ms.map fun n => str (Lib.itoa n) := by simp [wordsOf]

theorem deps_more (xs : List Dp) (j : Nat) (h : j < xs.length) : (xs.take (j + 1)).flatMap depNs = (xs.take j).flatMap depNs ++ depNs (xs.getD j dz) := by
  rw [List.take_add_one, List.getElem?_eq_getElem h, List.flatMap_append]
  simp [List.getD, h]

theorem join_any (base g wc n : Nat) (ns : List Int) (w : World) (hl : (wordsOf ns).length = n) (hn : n ≤ 140737488355328) (ho : OwnStrs w base g wc (wordsOf ns)) (ht : (119 :: numsText ns).length ≤ 140737488355328) :
    Calls Tryd.prog 82 #[.slice (some ⟨g, 0, none⟩) n wc, .string ⟨#[32]⟩] w fun e w' => e = .returned (.string (str (119 :: numsText ns))) ∧ Below w.heap.size w w' := by
  subst hl
  have hcap : (wordsOf ns).length ≤ wc := by
    rcases ho.own.2 with ⟨h, _⟩ | ⟨g', cap, cur, h, _, _, hc, _⟩
    · simp at h
    · simp only [Value.slice.injEq, true_and] at h
      rw [h.2]
      exact hc
  have := Tryd.strings_Join g 0 wc (wordsOf ns) ⟨#[32]⟩ w (fun j x hx => by rw [Nat.zero_add]; exact ho.cell hx) ho.lt hn hcap (by rw [show (⟨#[32]⟩ : ByteArray).data.toList = [32] from rfl, join_words]; exact ht)
  rw [show (⟨#[32]⟩ : ByteArray).data.toList = [32] from rfl, join_words] at this
  exact this

def DepIn (b : Nat) (x0 x1 x2 x3 : Int) (w : World) : Prop := b < w.heap.size ∧ w.cell? ⟨b, 0, none⟩ = some (.int .i64 x0) ∧ w.cell? ⟨b, 1, none⟩ = some (.int .i64 x1) ∧ w.cell? ⟨b, 2, none⟩ = some (.int .i64 x2) ∧ w.cell? ⟨b, 3, none⟩ = some (.int .i64 x3)

theorem DepIn.step {b : Nat} {x0 x1 x2 x3 : Int} {w w' : World} (h : DepIn b x0 x1 x2 x3 w) (hb : Below w.heap.size w w') : DepIn b x0 x1 x2 x3 w' := by
  obtain ⟨hz, e0, e1, e2, e3⟩ := h
  exact ⟨Nat.lt_of_lt_of_le hz hb.size, held_cell hb e0 hz, held_cell hb e1 hz, held_cell hb e2 hz, held_cell hb e3 hz⟩

theorem DepIn.new (x0 x1 x2 x3 : Int) (w : World) (t : Nat) : DepIn w.heap.size x0 x1 x2 x3 (w.alloc (.cells #[.int .i64 x0, .int .i64 x1, .int .i64 x2, .int .i64 x3] t)) := by
  have h := heap_alloc_new w (.cells #[.int .i64 x0, .int .i64 x1, .int .i64 x2, .int .i64 x3] t)
  refine ⟨by simp, ?_, ?_, ?_, ?_⟩ <;> (rw [cell_of_row _ _ _ _ t (0, 0) h]; rfl)

set_option maxRecDepth 100000 in
set_option maxHeartbeats 1000000 in
theorem implText_any (k c s q v : Int) (de : Bool) (g : Nat) (xs : List Dp) (len cap : Nat) (w : World) (hl : xs.length = len) (hn : len ≤ 1048576) (hlt : g < w.heap.size) (hh : HoldsDeps w g 0 xs) (ht : Tab w) :
    Calls Tryd.prog 55 #[wrV k c s q v de (some ⟨g, 0, none⟩) len cap] w fun e w' => e = .returned (.string (str (writeText k c s q v de xs))) ∧ Below w.heap.size w w' := by
  subst hl
  have HH : Hid (HoldsDeps w g 0 xs) := hh
  have HT : Hid (Tab w) := ht
  clear hh ht
  go_enter Tryd.func55, Tryd.ntmps55
  go_wp2_with fail
  refine (implWriteOk_any k c s q v de g xs _ cap _ rfl hn (by simp; omega) (HH.out.below ((Below.refl _ _).alloc (Nat.le_refl _) _) hlt)).mono ?_
  rintro e w1 ⟨rfl, hb⟩
  have HX : Hid (BoxIn w w1 k c s q v de (some ⟨g, 0, none⟩) xs.length cap) := BoxIn.start hb
  clear hb
  cases hok : writeOkB k c s q v de xs
  · have HW : Hid (writeText k c s q v de xs = []) := by simp [writeText, hok, Hid]
    go_wp2
    go_ret
    rw [HW.out]
    exact ⟨rfl, HX.out.below⟩
  · have HW : Hid (writeText k c s q v de xs = headText k c s q v de xs.length ++ xs.flatMap depText) := by simp [writeText, hok, Hid]
    obtain ⟨o1, o2, o3, o4, -⟩ := ok_parts hok
    have HB : Hid (∀ x ∈ headNs k c s q v de xs.length, -9223372036854775808 ≤ x ∧ x ≤ 9223372036854775807) := head_bounds o1 o2 o3 hn
    obtain ⟨t1, HT1⟩ : ∃ t, Hid (t = str (Lib.itoa k)) := ⟨_, Lib.hid rfl⟩
    obtain ⟨t2, HT2⟩ : ∃ t, Hid (t = str (Lib.itoa c)) := ⟨_, Lib.hid rfl⟩
    obtain ⟨t3, HT3⟩ : ∃ t, Hid (t = str (Lib.itoa s)) := ⟨_, Lib.hid rfl⟩
    obtain ⟨t4, HT4⟩ : ∃ t, Hid (t = str (Lib.itoa q)) := ⟨_, Lib.hid rfl⟩
    obtain ⟨t5, HT5⟩ : ∃ t, Hid (t = str (Lib.itoa v)) := ⟨_, Lib.hid rfl⟩
    obtain ⟨t6, HT6⟩ : ∃ t, Hid (t = str (Lib.itoa (bitI de))) := ⟨_, Lib.hid rfl⟩
    obtain ⟨t7, HT7⟩ : ∃ t, Hid (t = str (Lib.itoa (xs.length : Int))) := ⟨_, Lib.hid rfl⟩
    have c6 := HX.out.c6
    obtain ⟨w2, hmk, hw2⟩ := make_words HX.out xs.length hn
    have G : w1.heap.size ≠ w.heap.size := hw2.ne
    clear HX
    generalize w1.heap.size = b at hmk hw2 G
    clear G
    have HW0 : Hid (Words w w2 k c s q v de (some ⟨g, 0, none⟩) xs.length cap b (8 + 4 * xs.length) [⟨#[]⟩, ⟨#[]⟩, ⟨#[]⟩, ⟨#[]⟩, ⟨#[]⟩, ⟨#[]⟩, ⟨#[]⟩, ⟨#[]⟩]) := hw2
    clear hw2
    have d0 := HW0.out.row.cell (j := 0) (t := ⟨#[]⟩) rfl
    have f0 := HW0.out.row.froz 0
    have K0 : Hid (Words w (w2.setCell ⟨b, 0, none⟩ (.string ⟨#[119]⟩)) k c s q v de (some ⟨g, 0, none⟩) xs.length cap b (8 + 4 * xs.length) [⟨#[119]⟩, ⟨#[]⟩, ⟨#[]⟩, ⟨#[]⟩, ⟨#[]⟩, ⟨#[]⟩, ⟨#[]⟩, ⟨#[]⟩]) := HW0.out.set 0 _
    have e0 := K0.out.box.c0
    go_wp2_with fail
    refine (implNumT _ t1 _ HT1.out (HB.out _ (by simp [headNs])) (K0.out.tab HT.out)).mono ?_
    rintro e w3 ⟨rfl, hb⟩
    have HW1 : Hid (Words w w3 k c s q v de (some ⟨g, 0, none⟩) xs.length cap b (8 + 4 * xs.length) [⟨#[119]⟩, ⟨#[]⟩, ⟨#[]⟩, ⟨#[]⟩, ⟨#[]⟩, ⟨#[]⟩, ⟨#[]⟩, ⟨#[]⟩]) := K0.out.step hb
    clear hb K0 HW0 d0 f0 e0
    clear hmk c6
    have d1 := HW1.out.row.cell (j := 1) (t := ⟨#[]⟩) rfl
    have f1 := HW1.out.row.froz 1
    have K1 : Hid (Words w (w3.setCell ⟨b, 1, none⟩ (.string t1)) k c s q v de (some ⟨g, 0, none⟩) xs.length cap b (8 + 4 * xs.length) [⟨#[119]⟩, t1, ⟨#[]⟩, ⟨#[]⟩, ⟨#[]⟩, ⟨#[]⟩, ⟨#[]⟩, ⟨#[]⟩]) := HW1.out.set 1 _
    have e1 := K1.out.box.c1
    go_wp2_with fail
    refine (implNumT _ t2 _ HT2.out (HB.out _ (by simp [headNs])) (K1.out.tab HT.out)).mono ?_
    rintro e w4 ⟨rfl, hb⟩
    have HW2 : Hid (Words w w4 k c s q v de (some ⟨g, 0, none⟩) xs.length cap b (8 + 4 * xs.length) [⟨#[119]⟩, t1, ⟨#[]⟩, ⟨#[]⟩, ⟨#[]⟩, ⟨#[]⟩, ⟨#[]⟩, ⟨#[]⟩]) := K1.out.step hb
    clear hb K1 HW1 d1 f1 e1
    have d2 := HW2.out.row.cell (j := 2) (t := ⟨#[]⟩) rfl
    have f2 := HW2.out.row.froz 2
    have K2 : Hid (Words w (w4.setCell ⟨b, 2, none⟩ (.string t2)) k c s q v de (some ⟨g, 0, none⟩) xs.length cap b (8 + 4 * xs.length) [⟨#[119]⟩, t1, t2, ⟨#[]⟩, ⟨#[]⟩, ⟨#[]⟩, ⟨#[]⟩, ⟨#[]⟩]) := HW2.out.set 2 _
    have e2 := K2.out.box.c2
    go_wp2_with fail
    refine (implNumT _ t3 _ HT3.out (HB.out _ (by simp [headNs])) (K2.out.tab HT.out)).mono ?_
    rintro e w5 ⟨rfl, hb⟩
    have HW3 : Hid (Words w w5 k c s q v de (some ⟨g, 0, none⟩) xs.length cap b (8 + 4 * xs.length) [⟨#[119]⟩, t1, t2, ⟨#[]⟩, ⟨#[]⟩, ⟨#[]⟩, ⟨#[]⟩, ⟨#[]⟩]) := K2.out.step hb
    clear hb K2 HW2 d2 f2 e2
    have d3 := HW3.out.row.cell (j := 3) (t := ⟨#[]⟩) rfl
    have f3 := HW3.out.row.froz 3
    have K3 : Hid (Words w (w5.setCell ⟨b, 3, none⟩ (.string t3)) k c s q v de (some ⟨g, 0, none⟩) xs.length cap b (8 + 4 * xs.length) [⟨#[119]⟩, t1, t2, t3, ⟨#[]⟩, ⟨#[]⟩, ⟨#[]⟩, ⟨#[]⟩]) := HW3.out.set 3 _
    have e3 := K3.out.box.c3
    go_wp2_with fail
    refine (implNumT _ t4 _ HT4.out (HB.out _ (by simp [headNs])) (K3.out.tab HT.out)).mono ?_
    rintro e w6 ⟨rfl, hb⟩
    have HW4 : Hid (Words w w6 k c s q v de (some ⟨g, 0, none⟩) xs.length cap b (8 + 4 * xs.length) [⟨#[119]⟩, t1, t2, t3, ⟨#[]⟩, ⟨#[]⟩, ⟨#[]⟩, ⟨#[]⟩]) := K3.out.step hb
    clear hb K3 HW3 d3 f3 e3
    have d4 := HW4.out.row.cell (j := 4) (t := ⟨#[]⟩) rfl
    have f4 := HW4.out.row.froz 4
    have K4 : Hid (Words w (w6.setCell ⟨b, 4, none⟩ (.string t4)) k c s q v de (some ⟨g, 0, none⟩) xs.length cap b (8 + 4 * xs.length) [⟨#[119]⟩, t1, t2, t3, t4, ⟨#[]⟩, ⟨#[]⟩, ⟨#[]⟩]) := HW4.out.set 4 _
    have e4 := K4.out.box.c4
    go_wp2_with fail
    refine (implNumT _ t5 _ HT5.out (HB.out _ (by simp [headNs])) (K4.out.tab HT.out)).mono ?_
    rintro e w7 ⟨rfl, hb⟩
    have HW5 : Hid (Words w w7 k c s q v de (some ⟨g, 0, none⟩) xs.length cap b (8 + 4 * xs.length) [⟨#[119]⟩, t1, t2, t3, t4, ⟨#[]⟩, ⟨#[]⟩, ⟨#[]⟩]) := K4.out.step hb
    clear hb K4 HW4 d4 f4 e4
    have d5 := HW5.out.row.cell (j := 5) (t := ⟨#[]⟩) rfl
    have f5 := HW5.out.row.froz 5
    have K5 : Hid (Words w (w7.setCell ⟨b, 5, none⟩ (.string t5)) k c s q v de (some ⟨g, 0, none⟩) xs.length cap b (8 + 4 * xs.length) [⟨#[119]⟩, t1, t2, t3, t4, t5, ⟨#[]⟩, ⟨#[]⟩]) := HW5.out.set 5 _
    have e5 := K5.out.box.c5
    go_wp2_with fail
    refine (flag_any de _).mono ?_
    rintro e w' ⟨rfl, rfl⟩
    go_wp2_with fail
    refine (implNumT _ t6 _ HT6.out (HB.out _ (by simp [headNs])) (K5.out.tab HT.out)).mono ?_
    rintro e w8 ⟨rfl, hb⟩
    have HW6 : Hid (Words w w8 k c s q v de (some ⟨g, 0, none⟩) xs.length cap b (8 + 4 * xs.length) [⟨#[119]⟩, t1, t2, t3, t4, t5, ⟨#[]⟩, ⟨#[]⟩]) := K5.out.step hb
    clear hb K5 HW5 d5 f5 e5
    have d6 := HW6.out.row.cell (j := 6) (t := ⟨#[]⟩) rfl
    have f6 := HW6.out.row.froz 6
    have K6 : Hid (Words w (w8.setCell ⟨b, 6, none⟩ (.string t6)) k c s q v de (some ⟨g, 0, none⟩) xs.length cap b (8 + 4 * xs.length) [⟨#[119]⟩, t1, t2, t3, t4, t5, t6, ⟨#[]⟩]) := HW6.out.set 6 _
    have e6 := K6.out.box.c6
    go_wp2_with fail
    refine (implNumT _ t7 _ HT7.out (HB.out _ (by simp [headNs])) (K6.out.tab HT.out)).mono ?_
    rintro e w9 ⟨rfl, hb⟩
    have HW7 : Hid (Words w w9 k c s q v de (some ⟨g, 0, none⟩) xs.length cap b (8 + 4 * xs.length) [⟨#[119]⟩, t1, t2, t3, t4, t5, t6, ⟨#[]⟩]) := K6.out.step hb
    clear hb K6 HW6 d6 f6 e6
    have d7 := HW7.out.row.cell (j := 7) (t := ⟨#[]⟩) rfl
    have f7 := HW7.out.row.froz 7
    have K7 : Hid (Words w (w9.setCell ⟨b, 7, none⟩ (.string t7)) k c s q v de (some ⟨g, 0, none⟩) xs.length cap b (8 + 4 * xs.length) [⟨#[119]⟩, t1, t2, t3, t4, t5, t6, t7]) := HW7.out.set 7 _
    have e7 := K7.out.box.c6
    have HE : Hid ([⟨#[119]⟩, t1, t2, t3, t4, t5, t6, t7] = wordsOf (headNs k c s q v de xs.length)) := by
      rw [HT1.out, HT2.out, HT3.out, HT4.out, HT5.out, HT6.out, HT7.out]
      exact Lib.hid rfl
    clear HT1 HT2 HT3 HT4 HT5 HT6 HT7
    go_wp2
    go_loopw [3, 60] (fun t i wr => ∃ (j g' wc : Nat) (ns : List Int), j ≤ xs.length ∧ i = .int .i64 j ∧ t = .slice (some ⟨g', 0, none⟩) (8 + 4 * j) wc ∧ Hid (ns = headNs k c s q v de xs.length ++ (xs.take j).flatMap depNs) ∧ Hid ((wordsOf ns).length = 8 + 4 * j) ∧ Hid (∀ x ∈ ns, B64 x) ∧ Hid (Words w wr k c s q v de (some ⟨g, 0, none⟩) xs.length cap g' wc (wordsOf ns))) (fun _ i _ => xs.length - (intOf i).toNat)
    case atStart => exact ⟨0, b, 8 + 4 * xs.length, headNs k c s q v de xs.length, by omega, rfl, rfl, by simp [Hid], rfl, HB.out, by rw [HE.out] at K7; exact K7⟩
    case round =>
    clear K7 HE HW7 d7 f7 e7 HB
    obtain ⟨j, g', wc, ns, hj, rfl, rfl, HN, HL, HBN, HWD⟩ := hrel
    by_cases hj' : j < xs.length
    · have j1 : (0 : Int) ≤ (j : Int) := by omega
      have j2 : (j : Int) < (xs.length : Int) := by omega
      obtain ⟨e0, e1, e2, e3⟩ := dep_cells4 HH.out HWD.out.box.below hlt hj'
      have HBD : Hid (∀ x ∈ depNs (xs.getD j dz), B64 x) := dep_b64 (ints_key (dep_key o4 hj')) (ints_tag (depsOk_tag o4 hj'))
      have HM := Lib.hid (deps_more xs j hj')
      rw [show depNs (xs.getD j dz) = [(xs.getD j dz).k, (xs.getD j dz).c, (xs.getD j dz).s, (xs.getD j dz).q] from rfl] at HBD HM
      generalize (xs.getD j dz).k = x0 at e0 HBD HM
      generalize (xs.getD j dz).c = x1 at e1 HBD HM
      generalize (xs.getD j dz).s = x2 at e2 HBD HM
      generalize (xs.getD j dz).q = x3 at e3 HBD HM
      obtain ⟨y0, HY0⟩ : ∃ t, Hid (t = str (Lib.itoa x0)) := ⟨_, Lib.hid rfl⟩
      obtain ⟨y1, HY1⟩ : ∃ t, Hid (t = str (Lib.itoa x1)) := ⟨_, Lib.hid rfl⟩
      obtain ⟨y2, HY2⟩ : ∃ t, Hid (t = str (Lib.itoa x2)) := ⟨_, Lib.hid rfl⟩
      obtain ⟨y3, HY3⟩ : ∃ t, Hid (t = str (Lib.itoa x3)) := ⟨_, Lib.hid rfl⟩
      go_wp2_with fail
      clear e0 e1 e2 e3
      have HWD0 : Hid (Words w (wr.alloc (.cells #[.int .i64 x0, .int .i64 x1, .int .i64 x2, .int .i64 x3] 102)) k c s q v de (some ⟨g, 0, none⟩) xs.length cap g' wc (wordsOf ns)) := HWD.out.step ((Below.refl _ _).alloc (Nat.le_refl _) _)
      have HDP : Hid (DepIn wr.heap.size x0 x1 x2 x3 (wr.alloc (.cells #[.int .i64 x0, .int .i64 x1, .int .i64 x2, .int .i64 x3] 102))) := DepIn.new x0 x1 x2 x3 wr _
      generalize wr.alloc (.cells #[.int .i64 x0, .int .i64 x1, .int .i64 x2, .int .i64 x3] 102) = wd at HWD0 HDP ⊢
      generalize wr.heap.size = bd at HDP ⊢
      clear HWD
      refine wp_region_slots 17 [[(3, false)], [(5, false)], [(65, true)], [(66, true)], [(5, false)], [(68, true)], [(69, true)], [(70, true)], [(5, false)], [(72, true)], [(73, true)], [(74, true)], [(5, false)], [(76, true)], [(77, true)], [(78, true)], [(67, true), (71, true), (75, true), (79, true)]] (fun w' => Hid (Words w w' k c s q v de (some ⟨g, 0, none⟩) xs.length cap g' wc (wordsOf ns)) ∧ DepIn bd x0 x1 x2 x3 w') (fun w w' => Below w.heap.size w w') (by kernel_rfl) (by kernel_rfl) (by rfl) ⟨HWD0.out.step (Below.refl _ _).drew, HDP.out.step (Below.refl _ _).drew⟩ (fun _ _ h hb => ⟨h.1.out.step hb, h.2.step hb⟩) ?_
      iterate 3 (apply slot_eq; · (intro ρ w' ⟨p1, p2, p3⟩ ⟨HS, hz, e0, e1, e2, e3⟩ hn; simp at hn; go_simp; exact ⟨Below.refl _ _, rfl⟩))
      apply slot_eq
      · intro ρ w' ⟨p1, p2, p3⟩ ⟨HS, hz, e0, e1, e2, e3⟩ hn
        simp at hn
        go_simp
        exact got_call (implNumT x0 y0 _ HY0.out (HBD.out x0 (by simp)) (HS.out.tab HT.out)) fun e w'' ⟨he, hb⟩ => ⟨_, he, hb, rfl⟩
      iterate 3 (apply slot_eq; · (intro ρ w' ⟨p1, p2, p3⟩ ⟨HS, hz, e0, e1, e2, e3⟩ hn; simp at hn; go_simp; exact ⟨Below.refl _ _, rfl⟩))
      apply slot_eq
      · intro ρ w' ⟨p1, p2, p3⟩ ⟨HS, hz, e0, e1, e2, e3⟩ hn
        simp at hn
        go_simp
        exact got_call (implNumT x1 y1 _ HY1.out (HBD.out x1 (by simp)) (HS.out.tab HT.out)) fun e w'' ⟨he, hb⟩ => ⟨_, he, hb, rfl⟩
      iterate 3 (apply slot_eq; · (intro ρ w' ⟨p1, p2, p3⟩ ⟨HS, hz, e0, e1, e2, e3⟩ hn; simp at hn; go_simp; exact ⟨Below.refl _ _, rfl⟩))
      apply slot_eq
      · intro ρ w' ⟨p1, p2, p3⟩ ⟨HS, hz, e0, e1, e2, e3⟩ hn
        simp at hn
        go_simp
        exact got_call (implNumT x2 y2 _ HY2.out (HBD.out x2 (by simp)) (HS.out.tab HT.out)) fun e w'' ⟨he, hb⟩ => ⟨_, he, hb, rfl⟩
      iterate 3 (apply slot_eq; · (intro ρ w' ⟨p1, p2, p3⟩ ⟨HS, hz, e0, e1, e2, e3⟩ hn; simp at hn; go_simp; exact ⟨Below.refl _ _, rfl⟩))
      apply slot_eq
      · intro ρ w' ⟨p1, p2, p3⟩ ⟨HS, hz, e0, e1, e2, e3⟩ hn
        simp at hn
        go_simp
        exact got_call (implNumT x3 y3 _ HY3.out (HBD.out x3 (by simp)) (HS.out.tab HT.out)) fun e w'' ⟨he, hb⟩ => ⟨_, he, hb, rfl⟩
      refine slot_fact (StrsFact [y0, y1, y2, y3]) (lasts_strs _) ?_ ?_
      · intro ρ w' ⟨p1, p2, p3⟩ ⟨HS, hz, e0, e1, e2, e3⟩ hn
        simp at hn
        go_simp
        exact ⟨(Below.refl _ _).alloc (Nat.le_refl _) _, strs_new [y0, y1, y2, y3]⟩
      refine slot_end ?_
      rintro vs w3 ⟨HS, -⟩ hF
      clear HWD0 HDP
      simp at hF
      obtain ⟨⟨g2, v80, hg2, hc2⟩, v79, v78, v77, v76, v75, v74, v73, v72, v71, v70, v69, v68, v67, v66, v65, v64⟩ := hF
      simp only [List.take_succ_cons, List.take_zero, List.drop_succ_cons, List.drop_zero, putAll, v80, v79, v78, v77, v76, v75, v74, v73, v72, v71, v70, v69, v68, v67, v66, v65, v64]
      clear v80 v79 v78 v77 v76 v75 v74 v73 v72 v71 v70 v69 v68 v67 v66 v65 v64
      obtain ⟨i0, hi0, hx0⟩ := Option.map_eq_some_iff.1 infoStr
      simp only [Prod.mk.injEq] at hx0
      have HI0 := Lib.hid hi0
      have HX0 := Lib.hid hx0
      clear hi0 hx0
      have HOW : Hid (w3.ownsRow (w.heap.size + 1) 9 1 (.slice (some ⟨g', 0, none⟩) (8 + 4 * j) wc) (8 + 4 * j) ((wordsOf ns).map Value.string)) := by
        have h := HS.out.row.own
        rw [HL.out] at h
        exact h
      have HC2 : Hid (∀ (i : Nat) u, ([y0, y1, y2, y3].map Value.string)[i]? = some u → w3.cell? ((⟨g2, 0, none⟩ : Addr).add i) = some u) := fun i u hu => by
        have := hc2 i u (by simpa using hu)
        cases i with
        | zero => simpa [Addr.add] using this
        | succ i => simpa [Addr.add] using this
      have hb3 : w.heap.size + 1 ≤ w3.heap.size := HS.out.box.lt
      clear hc2
      simp only [Act.put, List.setIfInBounds_toArray, List.set_cons_succ, List.set_cons_zero]
      go_wp2_with (at_builtin; refine wpList_append_lies _ (by rfl) _ _ _ (by rfl) (w.heap.size + 1) 9 i0 (.string ⟨#[]⟩) 1 16 Tryd.underlying96 HI0.out HX0.out.1 HX0.out.2.1 HX0.out.2.2 (by rfl) (by omega) (.slice (some ⟨g', 0, none⟩) (8 + 4 * j) wc) (8 + 4 * j) ((wordsOf ns).map Value.string) (by rfl) HOW.out ⟨g2, 0, none⟩ 4 4 ([y0, y1, y2, y3].map Value.string) (by rfl) (by rfl) HC2.out (by simp [Value.oneCell']) (by omega) (by unfold maxLen; omega) (by omega) hb3 _ rfl ?_; intro g3 wc3 w5 hown hgrow _ _; refine Hid.out ?_)
      refine Lib.hid ?_
      have HN5 : Hid (ns ++ [x0, x1, x2, x3] = headNs k c s q v de xs.length ++ (xs.take (j + 1)).flatMap depNs) := by
        rw [HM.out, HN.out, List.append_assoc]
        exact Lib.hid rfl
      have HE5 : Hid (wordsOf (ns ++ [x0, x1, x2, x3]) = wordsOf ns ++ [y0, y1, y2, y3]) := by
        rw [words_more, HY0.out, HY1.out, HY2.out, HY3.out]
        exact Lib.hid rfl
      have HL5 : Hid ((wordsOf (ns ++ [x0, x1, x2, x3])).length = 8 + 4 * (j + 1)) := by
        rw [HE5.out, List.length_append, HL.out]
        exact Lib.hid rfl
      have HB5 : Hid (∀ x ∈ ns ++ [x0, x1, x2, x3], B64 x) := fun x hx => (List.mem_append.1 hx).elim (HBN.out x) (HBD.out x)
      obtain ⟨hlt3, hle3⟩ := (fun h => (hown.lt g3 h).symm : _ → _ ∧ _) rfl
      have HW5 : Hid (Words w w5 k c s q v de (some ⟨g, 0, none⟩) xs.length cap g3 wc3 (wordsOf (ns ++ [x0, x1, x2, x3]))) := by
        refine HS.out.grown hgrow ⟨hle3, hlt3, ?_⟩
        rw [HL5.out, HE5.out, List.map_append]
        exact hown
      clear hown hgrow HS HOW HC2 HN HL HBN HE5
      go_wp2
      exact ⟨⟨j + 1, g3, wc3, _, by omega, by go_num, rfl, HN5, HL5, HB5, HW5⟩, by simp [intOf]; omega⟩
    · have hjn : j = xs.length := by omega
      subst hjn
      have HNW : Hid (writeText k c s q v de xs = 119 :: numsText ns) := by
        rw [HW.out, ← text_nums, HN.out, List.take_length]
        exact Lib.hid rfl
      have hlen : (119 :: numsText ns).length ≤ 140737488355328 := by
        have h1 := nums_most ns HBN.out
        have h2 := HL.out
        simp only [wordsOf, List.length_cons, List.length_map] at h2
        simp only [List.length_cons]
        omega
      go_wp2_with fail
      refine (join_any _ g' wc _ ns _ HL.out (by omega) HWD.out.row hlen).mono ?_
      rintro e w3 ⟨rfl, hb⟩
      have HB3 : Hid (Below w.heap.size w w3) := below_step HWD.out.box.below HWD.out.box.below.size hb
      clear hb
      go_wp2
      go_ret
      rw [HNW.out]
      exact ⟨rfl, HB3.out⟩
end Go.Proofs.YtidpcjcnhklmpacDoor

/- The contract of impl.WriteText, its dependencies nil or from a block's begin on. -/
namespace Go.Proofs.YtidpcjcnhklmpacDoor
open Go.ChangeShapes Go.WideShapes Go.ChangeAt Go.RowKit Go.Joins

set_option maxRecDepth 100000 in
set_option maxHeartbeats 1000000 in
theorem implText_gen (k c s q v : Int) (de : Bool) (ag : Option Addr) (xs : List Dp) (len cap : Nat) (w : World) (hl : xs.length = len) (hn : len ≤ 1048576) (hh : Deps0 w ag xs) (ht : Tab w) :
    Calls Tryd.prog 55 #[wrV k c s q v de ag len cap] w fun e w' => e = .returned (.string (str (writeText k c s q v de xs))) ∧ Below w.heap.size w w' := by
  subst hl
  have HH : Hid (Deps0 w ag xs) := hh
  have HT : Hid (Tab w) := ht
  clear hh ht
  go_enter Tryd.func55, Tryd.ntmps55
  go_wp2_with fail
  refine (implWriteOk_gen k c s q v de ag xs _ cap _ rfl hn (HH.out.isDeps.below ((Below.refl _ _).alloc (Nat.le_refl _) _))).mono ?_
  rintro e w1 ⟨rfl, hb⟩
  have HX : Hid (BoxIn w w1 k c s q v de ag xs.length cap) := BoxIn.start hb
  clear hb
  cases hok : writeOkB k c s q v de xs
  · have HW : Hid (writeText k c s q v de xs = []) := by simp [writeText, hok, Hid]
    go_wp2
    go_ret
    rw [HW.out]
    exact ⟨rfl, HX.out.below⟩
  · have HW : Hid (writeText k c s q v de xs = headText k c s q v de xs.length ++ xs.flatMap depText) := by simp [writeText, hok, Hid]
    obtain ⟨o1, o2, o3, o4, -⟩ := ok_parts hok
    have HB : Hid (∀ x ∈ headNs k c s q v de xs.length, -9223372036854775808 ≤ x ∧ x ≤ 9223372036854775807) := head_bounds o1 o2 o3 hn
    obtain ⟨t1, HT1⟩ : ∃ t, Hid (t = str (Lib.itoa k)) := ⟨_, Lib.hid rfl⟩
    obtain ⟨t2, HT2⟩ : ∃ t, Hid (t = str (Lib.itoa c)) := ⟨_, Lib.hid rfl⟩
    obtain ⟨t3, HT3⟩ : ∃ t, Hid (t = str (Lib.itoa s)) := ⟨_, Lib.hid rfl⟩
    obtain ⟨t4, HT4⟩ : ∃ t, Hid (t = str (Lib.itoa q)) := ⟨_, Lib.hid rfl⟩
    obtain ⟨t5, HT5⟩ : ∃ t, Hid (t = str (Lib.itoa v)) := ⟨_, Lib.hid rfl⟩
    obtain ⟨t6, HT6⟩ : ∃ t, Hid (t = str (Lib.itoa (bitI de))) := ⟨_, Lib.hid rfl⟩
    obtain ⟨t7, HT7⟩ : ∃ t, Hid (t = str (Lib.itoa (xs.length : Int))) := ⟨_, Lib.hid rfl⟩
    have c6 := HX.out.c6
    obtain ⟨w2, hmk, hw2⟩ := make_words HX.out xs.length hn
    have G : w1.heap.size ≠ w.heap.size := hw2.ne
    clear HX
    generalize w1.heap.size = b at hmk hw2 G
    clear G
    have HW0 : Hid (Words w w2 k c s q v de ag xs.length cap b (8 + 4 * xs.length) [⟨#[]⟩, ⟨#[]⟩, ⟨#[]⟩, ⟨#[]⟩, ⟨#[]⟩, ⟨#[]⟩, ⟨#[]⟩, ⟨#[]⟩]) := hw2
    clear hw2
    have d0 := HW0.out.row.cell (j := 0) (t := ⟨#[]⟩) rfl
    have f0 := HW0.out.row.froz 0
    have K0 : Hid (Words w (w2.setCell ⟨b, 0, none⟩ (.string ⟨#[119]⟩)) k c s q v de ag xs.length cap b (8 + 4 * xs.length) [⟨#[119]⟩, ⟨#[]⟩, ⟨#[]⟩, ⟨#[]⟩, ⟨#[]⟩, ⟨#[]⟩, ⟨#[]⟩, ⟨#[]⟩]) := HW0.out.set 0 _
    have e0 := K0.out.box.c0
    go_wp2_with fail
    refine (implNumT _ t1 _ HT1.out (HB.out _ (by simp [headNs])) (K0.out.tab HT.out)).mono ?_
    rintro e w3 ⟨rfl, hb⟩
    have HW1 : Hid (Words w w3 k c s q v de ag xs.length cap b (8 + 4 * xs.length) [⟨#[119]⟩, ⟨#[]⟩, ⟨#[]⟩, ⟨#[]⟩, ⟨#[]⟩, ⟨#[]⟩, ⟨#[]⟩, ⟨#[]⟩]) := K0.out.step hb
    clear hb K0 HW0 d0 f0 e0
    clear hmk c6
    have d1 := HW1.out.row.cell (j := 1) (t := ⟨#[]⟩) rfl
    have f1 := HW1.out.row.froz 1
    have K1 : Hid (Words w (w3.setCell ⟨b, 1, none⟩ (.string t1)) k c s q v de ag xs.length cap b (8 + 4 * xs.length) [⟨#[119]⟩, t1, ⟨#[]⟩, ⟨#[]⟩, ⟨#[]⟩, ⟨#[]⟩, ⟨#[]⟩, ⟨#[]⟩]) := HW1.out.set 1 _
    have e1 := K1.out.box.c1
    go_wp2_with fail
    refine (implNumT _ t2 _ HT2.out (HB.out _ (by simp [headNs])) (K1.out.tab HT.out)).mono ?_
    rintro e w4 ⟨rfl, hb⟩
    have HW2 : Hid (Words w w4 k c s q v de ag xs.length cap b (8 + 4 * xs.length) [⟨#[119]⟩, t1, ⟨#[]⟩, ⟨#[]⟩, ⟨#[]⟩, ⟨#[]⟩, ⟨#[]⟩, ⟨#[]⟩]) := K1.out.step hb
    clear hb K1 HW1 d1 f1 e1
    have d2 := HW2.out.row.cell (j := 2) (t := ⟨#[]⟩) rfl
    have f2 := HW2.out.row.froz 2
    have K2 : Hid (Words w (w4.setCell ⟨b, 2, none⟩ (.string t2)) k c s q v de ag xs.length cap b (8 + 4 * xs.length) [⟨#[119]⟩, t1, t2, ⟨#[]⟩, ⟨#[]⟩, ⟨#[]⟩, ⟨#[]⟩, ⟨#[]⟩]) := HW2.out.set 2 _
    have e2 := K2.out.box.c2
    go_wp2_with fail
    refine (implNumT _ t3 _ HT3.out (HB.out _ (by simp [headNs])) (K2.out.tab HT.out)).mono ?_
    rintro e w5 ⟨rfl, hb⟩
    have HW3 : Hid (Words w w5 k c s q v de ag xs.length cap b (8 + 4 * xs.length) [⟨#[119]⟩, t1, t2, ⟨#[]⟩, ⟨#[]⟩, ⟨#[]⟩, ⟨#[]⟩, ⟨#[]⟩]) := K2.out.step hb
    clear hb K2 HW2 d2 f2 e2
    have d3 := HW3.out.row.cell (j := 3) (t := ⟨#[]⟩) rfl
    have f3 := HW3.out.row.froz 3
    have K3 : Hid (Words w (w5.setCell ⟨b, 3, none⟩ (.string t3)) k c s q v de ag xs.length cap b (8 + 4 * xs.length) [⟨#[119]⟩, t1, t2, t3, ⟨#[]⟩, ⟨#[]⟩, ⟨#[]⟩, ⟨#[]⟩]) := HW3.out.set 3 _
    have e3 := K3.out.box.c3
    go_wp2_with fail
    refine (implNumT _ t4 _ HT4.out (HB.out _ (by simp [headNs])) (K3.out.tab HT.out)).mono ?_
    rintro e w6 ⟨rfl, hb⟩
    have HW4 : Hid (Words w w6 k c s q v de ag xs.length cap b (8 + 4 * xs.length) [⟨#[119]⟩, t1, t2, t3, ⟨#[]⟩, ⟨#[]⟩, ⟨#[]⟩, ⟨#[]⟩]) := K3.out.step hb
    clear hb K3 HW3 d3 f3 e3
    have d4 := HW4.out.row.cell (j := 4) (t := ⟨#[]⟩) rfl
    have f4 := HW4.out.row.froz 4
    have K4 : Hid (Words w (w6.setCell ⟨b, 4, none⟩ (.string t4)) k c s q v de ag xs.length cap b (8 + 4 * xs.length) [⟨#[119]⟩, t1, t2, t3, t4, ⟨#[]⟩, ⟨#[]⟩, ⟨#[]⟩]) := HW4.out.set 4 _
    have e4 := K4.out.box.c4
    go_wp2_with fail
    refine (implNumT _ t5 _ HT5.out (HB.out _ (by simp [headNs])) (K4.out.tab HT.out)).mono ?_
    rintro e w7 ⟨rfl, hb⟩
    have HW5 : Hid (Words w w7 k c s q v de ag xs.length cap b (8 + 4 * xs.length) [⟨#[119]⟩, t1, t2, t3, t4, ⟨#[]⟩, ⟨#[]⟩, ⟨#[]⟩]) := K4.out.step hb
    clear hb K4 HW4 d4 f4 e4
    have d5 := HW5.out.row.cell (j := 5) (t := ⟨#[]⟩) rfl
    have f5 := HW5.out.row.froz 5
    have K5 : Hid (Words w (w7.setCell ⟨b, 5, none⟩ (.string t5)) k c s q v de ag xs.length cap b (8 + 4 * xs.length) [⟨#[119]⟩, t1, t2, t3, t4, t5, ⟨#[]⟩, ⟨#[]⟩]) := HW5.out.set 5 _
    have e5 := K5.out.box.c5
    go_wp2_with fail
    refine (flag_any de _).mono ?_
    rintro e w' ⟨rfl, rfl⟩
    go_wp2_with fail
    refine (implNumT _ t6 _ HT6.out (HB.out _ (by simp [headNs])) (K5.out.tab HT.out)).mono ?_
    rintro e w8 ⟨rfl, hb⟩
    have HW6 : Hid (Words w w8 k c s q v de ag xs.length cap b (8 + 4 * xs.length) [⟨#[119]⟩, t1, t2, t3, t4, t5, ⟨#[]⟩, ⟨#[]⟩]) := K5.out.step hb
    clear hb K5 HW5 d5 f5 e5
    have d6 := HW6.out.row.cell (j := 6) (t := ⟨#[]⟩) rfl
    have f6 := HW6.out.row.froz 6
    have K6 : Hid (Words w (w8.setCell ⟨b, 6, none⟩ (.string t6)) k c s q v de ag xs.length cap b (8 + 4 * xs.length) [⟨#[119]⟩, t1, t2, t3, t4, t5, t6, ⟨#[]⟩]) := HW6.out.set 6 _
    have e6 := K6.out.box.c6
    go_wp2_with fail
    refine (implNumT _ t7 _ HT7.out (HB.out _ (by simp [headNs])) (K6.out.tab HT.out)).mono ?_
    rintro e w9 ⟨rfl, hb⟩
    have HW7 : Hid (Words w w9 k c s q v de ag xs.length cap b (8 + 4 * xs.length) [⟨#[119]⟩, t1, t2, t3, t4, t5, t6, ⟨#[]⟩]) := K6.out.step hb
    clear hb K6 HW6 d6 f6 e6
    have d7 := HW7.out.row.cell (j := 7) (t := ⟨#[]⟩) rfl
    have f7 := HW7.out.row.froz 7
    have K7 : Hid (Words w (w9.setCell ⟨b, 7, none⟩ (.string t7)) k c s q v de ag xs.length cap b (8 + 4 * xs.length) [⟨#[119]⟩, t1, t2, t3, t4, t5, t6, t7]) := HW7.out.set 7 _
    have e7 := K7.out.box.c6
    have HE : Hid ([⟨#[119]⟩, t1, t2, t3, t4, t5, t6, t7] = wordsOf (headNs k c s q v de xs.length)) := by
      rw [HT1.out, HT2.out, HT3.out, HT4.out, HT5.out, HT6.out, HT7.out]
      exact Lib.hid rfl
    clear HT1 HT2 HT3 HT4 HT5 HT6 HT7
    go_wp2
    go_loopw [3, 60] (fun t i wr => ∃ (j g' wc : Nat) (ns : List Int), j ≤ xs.length ∧ i = .int .i64 j ∧ t = .slice (some ⟨g', 0, none⟩) (8 + 4 * j) wc ∧ Hid (ns = headNs k c s q v de xs.length ++ (xs.take j).flatMap depNs) ∧ Hid ((wordsOf ns).length = 8 + 4 * j) ∧ Hid (∀ x ∈ ns, B64 x) ∧ Hid (Words w wr k c s q v de ag xs.length cap g' wc (wordsOf ns))) (fun _ i _ => xs.length - (intOf i).toNat)
    case atStart => exact ⟨0, b, 8 + 4 * xs.length, headNs k c s q v de xs.length, by omega, rfl, rfl, by simp [Hid], rfl, HB.out, by rw [HE.out] at K7; exact K7⟩
    case round =>
    clear K7 HE HW7 d7 f7 e7 HB
    obtain ⟨j, g', wc, ns, hj, rfl, rfl, HN, HL, HBN, HWD⟩ := hrel
    by_cases hj' : j < xs.length
    · have j1 : (0 : Int) ≤ (j : Int) := by omega
      have j2 : (j : Int) < (xs.length : Int) := by omega
      obtain ⟨g, rfl, hlt, hhd⟩ := HH.out.get hj'
      obtain ⟨e0, e1, e2, e3⟩ := dep_cells4 hhd HWD.out.box.below hlt hj'
      clear hhd
      have HBD : Hid (∀ x ∈ depNs (xs.getD j dz), B64 x) := dep_b64 (ints_key (dep_key o4 hj')) (ints_tag (depsOk_tag o4 hj'))
      have HM := Lib.hid (deps_more xs j hj')
      rw [show depNs (xs.getD j dz) = [(xs.getD j dz).k, (xs.getD j dz).c, (xs.getD j dz).s, (xs.getD j dz).q] from rfl] at HBD HM
      generalize (xs.getD j dz).k = x0 at e0 HBD HM
      generalize (xs.getD j dz).c = x1 at e1 HBD HM
      generalize (xs.getD j dz).s = x2 at e2 HBD HM
      generalize (xs.getD j dz).q = x3 at e3 HBD HM
      obtain ⟨y0, HY0⟩ : ∃ t, Hid (t = str (Lib.itoa x0)) := ⟨_, Lib.hid rfl⟩
      obtain ⟨y1, HY1⟩ : ∃ t, Hid (t = str (Lib.itoa x1)) := ⟨_, Lib.hid rfl⟩
      obtain ⟨y2, HY2⟩ : ∃ t, Hid (t = str (Lib.itoa x2)) := ⟨_, Lib.hid rfl⟩
      obtain ⟨y3, HY3⟩ : ∃ t, Hid (t = str (Lib.itoa x3)) := ⟨_, Lib.hid rfl⟩
      go_wp2_with fail
      clear e0 e1 e2 e3
      have HWD0 : Hid (Words w (wr.alloc (.cells #[.int .i64 x0, .int .i64 x1, .int .i64 x2, .int .i64 x3] 102)) k c s q v de (some ⟨g, 0, none⟩) xs.length cap g' wc (wordsOf ns)) := HWD.out.step ((Below.refl _ _).alloc (Nat.le_refl _) _)
      have HDP : Hid (DepIn wr.heap.size x0 x1 x2 x3 (wr.alloc (.cells #[.int .i64 x0, .int .i64 x1, .int .i64 x2, .int .i64 x3] 102))) := DepIn.new x0 x1 x2 x3 wr _
      generalize wr.alloc (.cells #[.int .i64 x0, .int .i64 x1, .int .i64 x2, .int .i64 x3] 102) = wd at HWD0 HDP ⊢
      generalize wr.heap.size = bd at HDP ⊢
      clear HWD
      refine wp_region_slots 17 [[(3, false)], [(5, false)], [(65, true)], [(66, true)], [(5, false)], [(68, true)], [(69, true)], [(70, true)], [(5, false)], [(72, true)], [(73, true)], [(74, true)], [(5, false)], [(76, true)], [(77, true)], [(78, true)], [(67, true), (71, true), (75, true), (79, true)]] (fun w' => Hid (Words w w' k c s q v de (some ⟨g, 0, none⟩) xs.length cap g' wc (wordsOf ns)) ∧ DepIn bd x0 x1 x2 x3 w') (fun w w' => Below w.heap.size w w') (by kernel_rfl) (by kernel_rfl) (by rfl) ⟨HWD0.out.step (Below.refl _ _).drew, HDP.out.step (Below.refl _ _).drew⟩ (fun _ _ h hb => ⟨h.1.out.step hb, h.2.step hb⟩) ?_
      iterate 3 (apply slot_eq; · (intro ρ w' ⟨p1, p2, p3⟩ ⟨HS, hz, e0, e1, e2, e3⟩ hn; simp at hn; go_simp; exact ⟨Below.refl _ _, rfl⟩))
      apply slot_eq
      · intro ρ w' ⟨p1, p2, p3⟩ ⟨HS, hz, e0, e1, e2, e3⟩ hn
        simp at hn
        go_simp
        exact got_call (implNumT x0 y0 _ HY0.out (HBD.out x0 (by simp)) (HS.out.tab HT.out)) fun e w'' ⟨he, hb⟩ => ⟨_, he, hb, rfl⟩
      iterate 3 (apply slot_eq; · (intro ρ w' ⟨p1, p2, p3⟩ ⟨HS, hz, e0, e1, e2, e3⟩ hn; simp at hn; go_simp; exact ⟨Below.refl _ _, rfl⟩))
      apply slot_eq
      · intro ρ w' ⟨p1, p2, p3⟩ ⟨HS, hz, e0, e1, e2, e3⟩ hn
        simp at hn
        go_simp
        exact got_call (implNumT x1 y1 _ HY1.out (HBD.out x1 (by simp)) (HS.out.tab HT.out)) fun e w'' ⟨he, hb⟩ => ⟨_, he, hb, rfl⟩
      iterate 3 (apply slot_eq; · (intro ρ w' ⟨p1, p2, p3⟩ ⟨HS, hz, e0, e1, e2, e3⟩ hn; simp at hn; go_simp; exact ⟨Below.refl _ _, rfl⟩))
      apply slot_eq
      · intro ρ w' ⟨p1, p2, p3⟩ ⟨HS, hz, e0, e1, e2, e3⟩ hn
        simp at hn
        go_simp
        exact got_call (implNumT x2 y2 _ HY2.out (HBD.out x2 (by simp)) (HS.out.tab HT.out)) fun e w'' ⟨he, hb⟩ => ⟨_, he, hb, rfl⟩
      iterate 3 (apply slot_eq; · (intro ρ w' ⟨p1, p2, p3⟩ ⟨HS, hz, e0, e1, e2, e3⟩ hn; simp at hn; go_simp; exact ⟨Below.refl _ _, rfl⟩))
      apply slot_eq
      · intro ρ w' ⟨p1, p2, p3⟩ ⟨HS, hz, e0, e1, e2, e3⟩ hn
        simp at hn
        go_simp
        exact got_call (implNumT x3 y3 _ HY3.out (HBD.out x3 (by simp)) (HS.out.tab HT.out)) fun e w'' ⟨he, hb⟩ => ⟨_, he, hb, rfl⟩
      refine slot_fact (StrsFact [y0, y1, y2, y3]) (lasts_strs _) ?_ ?_
      · intro ρ w' ⟨p1, p2, p3⟩ ⟨HS, hz, e0, e1, e2, e3⟩ hn
        simp at hn
        go_simp
        exact ⟨(Below.refl _ _).alloc (Nat.le_refl _) _, strs_new [y0, y1, y2, y3]⟩
      refine slot_end ?_
      rintro vs w3 ⟨HS, -⟩ hF
      clear HWD0 HDP
      simp at hF
      obtain ⟨⟨g2, v80, hg2, hc2⟩, v79, v78, v77, v76, v75, v74, v73, v72, v71, v70, v69, v68, v67, v66, v65, v64⟩ := hF
      simp only [List.take_succ_cons, List.take_zero, List.drop_succ_cons, List.drop_zero, putAll, v80, v79, v78, v77, v76, v75, v74, v73, v72, v71, v70, v69, v68, v67, v66, v65, v64]
      clear v80 v79 v78 v77 v76 v75 v74 v73 v72 v71 v70 v69 v68 v67 v66 v65 v64
      obtain ⟨i0, hi0, hx0⟩ := Option.map_eq_some_iff.1 infoStr
      simp only [Prod.mk.injEq] at hx0
      have HI0 := Lib.hid hi0
      have HX0 := Lib.hid hx0
      clear hi0 hx0
      have HOW : Hid (w3.ownsRow (w.heap.size + 1) 9 1 (.slice (some ⟨g', 0, none⟩) (8 + 4 * j) wc) (8 + 4 * j) ((wordsOf ns).map Value.string)) := by
        have h := HS.out.row.own
        rw [HL.out] at h
        exact h
      have HC2 : Hid (∀ (i : Nat) u, ([y0, y1, y2, y3].map Value.string)[i]? = some u → w3.cell? ((⟨g2, 0, none⟩ : Addr).add i) = some u) := fun i u hu => by
        have := hc2 i u (by simpa using hu)
        cases i with
        | zero => simpa [Addr.add] using this
        | succ i => simpa [Addr.add] using this
      have hb3 : w.heap.size + 1 ≤ w3.heap.size := HS.out.box.lt
      clear hc2
      simp only [Act.put, List.setIfInBounds_toArray, List.set_cons_succ, List.set_cons_zero]
      go_wp2_with (at_builtin; refine wpList_append_lies _ (by rfl) _ _ _ (by rfl) (w.heap.size + 1) 9 i0 (.string ⟨#[]⟩) 1 16 Tryd.underlying96 HI0.out HX0.out.1 HX0.out.2.1 HX0.out.2.2 (by rfl) (by omega) (.slice (some ⟨g', 0, none⟩) (8 + 4 * j) wc) (8 + 4 * j) ((wordsOf ns).map Value.string) (by rfl) HOW.out ⟨g2, 0, none⟩ 4 4 ([y0, y1, y2, y3].map Value.string) (by rfl) (by rfl) HC2.out (by simp [Value.oneCell']) (by omega) (by unfold maxLen; omega) (by omega) hb3 _ rfl ?_; intro g3 wc3 w5 hown hgrow _ _; refine Hid.out ?_)
      refine Lib.hid ?_
      have HN5 : Hid (ns ++ [x0, x1, x2, x3] = headNs k c s q v de xs.length ++ (xs.take (j + 1)).flatMap depNs) := by
        rw [HM.out, HN.out, List.append_assoc]
        exact Lib.hid rfl
      have HE5 : Hid (wordsOf (ns ++ [x0, x1, x2, x3]) = wordsOf ns ++ [y0, y1, y2, y3]) := by
        rw [words_more, HY0.out, HY1.out, HY2.out, HY3.out]
        exact Lib.hid rfl
      have HL5 : Hid ((wordsOf (ns ++ [x0, x1, x2, x3])).length = 8 + 4 * (j + 1)) := by
        rw [HE5.out, List.length_append, HL.out]
        exact Lib.hid rfl
      have HB5 : Hid (∀ x ∈ ns ++ [x0, x1, x2, x3], B64 x) := fun x hx => (List.mem_append.1 hx).elim (HBN.out x) (HBD.out x)
      obtain ⟨hlt3, hle3⟩ := (fun h => (hown.lt g3 h).symm : _ → _ ∧ _) rfl
      have HW5 : Hid (Words w w5 k c s q v de (some ⟨g, 0, none⟩) xs.length cap g3 wc3 (wordsOf (ns ++ [x0, x1, x2, x3]))) := by
        refine HS.out.grown hgrow ⟨hle3, hlt3, ?_⟩
        rw [HL5.out, HE5.out, List.map_append]
        exact hown
      clear hown hgrow HS HOW HC2 HN HL HBN HE5
      go_wp2
      exact ⟨⟨j + 1, g3, wc3, _, by omega, by go_num, rfl, HN5, HL5, HB5, HW5⟩, by simp [intOf]; omega⟩
    · have hjn : j = xs.length := by omega
      subst hjn
      have HNW : Hid (writeText k c s q v de xs = 119 :: numsText ns) := by
        rw [HW.out, ← text_nums, HN.out, List.take_length]
        exact Lib.hid rfl
      have hlen : (119 :: numsText ns).length ≤ 140737488355328 := by
        have h1 := nums_most ns HBN.out
        have h2 := HL.out
        simp only [wordsOf, List.length_cons, List.length_map] at h2
        simp only [List.length_cons]
        omega
      go_wp2_with fail
      refine (join_any _ g' wc _ ns _ HL.out (by omega) HWD.out.row hlen).mono ?_
      rintro e w3 ⟨rfl, hb⟩
      have HB3 : Hid (Below w.heap.size w w3) := below_step HWD.out.box.below HWD.out.box.below.size hb
      clear hb
      go_wp2
      go_ret
      rw [HNW.out]
      exact ⟨rfl, HB3.out⟩
end Go.Proofs.YtidpcjcnhklmpacDoor

/- Contracts of HashOf of both sides: the sum of a text. -/
namespace Go.Proofs.YtidpcjcnhklmpacDoor
open Go.ChangeShapes Go.WideShapes Go.ChangeAt Go.RowKit Go.Joins

def hashL (bs : List UInt8) : Int := bs.foldl (fun x b => (33 * x + (b.toNat : Int)) % 65521) 5381

set_option maxRecDepth 100000 in
theorem hashL_snoc (bs : List UInt8) (b : UInt8) : hashL (bs ++ [b]) = (33 * hashL bs + (b.toNat : Int)) % 65521 := by
  unfold hashL
  rw [List.foldl_append]
  rfl

set_option maxRecDepth 100000 in
theorem hash_run (bs : List UInt8) : ∀ x : Int, 0 ≤ x → x < 65521 → 0 ≤ bs.foldl (fun x b => (33 * x + (b.toNat : Int)) % 65521) x ∧ bs.foldl (fun x b => (33 * x + (b.toNat : Int)) % 65521) x < 65521 := by
  induction bs with
  | nil => exact fun x h0 h1 => ⟨h0, h1⟩
  | cons b bs ih => exact fun x _ _ => ih _ (Int.emod_nonneg _ (by decide)) (Int.emod_lt_of_pos _ (by decide))

set_option maxRecDepth 100000 in
theorem hashL_bd (bs : List UInt8) : 0 ≤ hashL bs ∧ hashL bs < 65521 := hash_run bs 5381 (by omega) (by omega)

set_option maxRecDepth 100000 in
theorem take_sign {s : ByteArray} {k : Nat} (h : k < s.size) : s.data.toList.take (k + 1) = s.data.toList.take k ++ [s[k]] := by
  have hl : k < s.data.toList.length := by simpa using h
  rw [List.take_succ_eq_append_getElem hl]
  rfl

set_option maxRecDepth 100000 in
theorem hash_take {s : ByteArray} {k : Nat} (h : k < s.size) : hashL (s.data.toList.take (k + 1)) = (33 * hashL (s.data.toList.take k) + (s[k].toNat : Int)) % 65521 := by
  rw [take_sign h, hashL_snoc]

set_option maxRecDepth 100000 in
theorem hash_all (s : ByteArray) : hashL (s.data.toList.take s.size) = hashL s.data.toList := by
  rw [List.take_of_length_le (by simp)]

set_option maxRecDepth 100000 in
set_option maxHeartbeats 2000000 in
theorem specHash_any (s : ByteArray) (w : World) (hs : s.size ≤ 9223372036854775807) :
    Calls Tryd.prog 36 #[.string s] w fun e w' => e = .returned (.int .i64 (hashL s.data.toList)) ∧ w' = w := by
  go_enter Tryd.func36, Tryd.ntmps36
  go_wp2
  go_loopw [3, 4] (fun x i wr => ∃ k : Nat, k ≤ s.size ∧ i = .int .i64 k ∧ x = .int .i64 (hashL (s.data.toList.take k)) ∧ wr = w) (fun _ i _ => s.size - (intOf i).toNat)
  case atStart => exact ⟨0, Nat.zero_le _, rfl, rfl, rfl⟩
  case round =>
    obtain ⟨k, hk, rfl, rfl, rfl⟩ := hrel
    by_cases hk' : k < s.size
    · have i1 : (0 : Int) ≤ (k : Int) := by omega
      have i2 : (k : Int) < (s.size : Int) := by omega
      have HT := Lib.hid (hash_take hk')
      obtain ⟨b0, b1⟩ := hashL_bd (s.data.toList.take k)
      have hu : s[k].toNat < 256 := UInt8.toNat_lt _
      have hu' : wrap64 (s[k].toNat : Int) = (s[k].toNat : Int) := by unfold wrap64; omega
      generalize hashL (s.data.toList.take k) = x at *
      go_wp2
      refine ⟨⟨k + 1, hk', by go_num, ?_, trivial⟩, by simp [intOf]; omega⟩
      rw [HT.out]
    · have hke : k = s.size := by omega
      subst hke
      rw [hash_all]
      go_wp2
      go_ret
      exact ⟨rfl, rfl⟩

set_option maxRecDepth 100000 in
set_option maxHeartbeats 2000000 in
theorem implHash_any (s : ByteArray) (w : World) (hs : s.size ≤ 9223372036854775807) :
    Calls Tryd.prog 40 #[.string s] w fun e w' => e = .returned (.int .i64 (hashL s.data.toList)) ∧ w' = w := by
  go_enter Tryd.func40, Tryd.ntmps40
  go_wp2
  go_loopw [3, 7] (fun x i wr => ∃ k : Nat, k ≤ s.size ∧ i = .int .i64 k ∧ x = .int .i64 (hashL (s.data.toList.take k)) ∧ wr = w) (fun _ i _ => s.size - (intOf i).toNat)
  case atStart => exact ⟨0, Nat.zero_le _, rfl, rfl, rfl⟩
  case round =>
    obtain ⟨k, hk, rfl, rfl, rfl⟩ := hrel
    by_cases hk' : k < s.size
    · have i1 : (0 : Int) ≤ (k : Int) := by omega
      have i2 : (k : Int) < (s.size : Int) := by omega
      have HT := Lib.hid (hash_take hk')
      obtain ⟨b0, b1⟩ := hashL_bd (s.data.toList.take k)
      have hu : s[k].toNat < 256 := UInt8.toNat_lt _
      have hu' : wrap64 (s[k].toNat : Int) = (s[k].toNat : Int) := by unfold wrap64; omega
      generalize hashL (s.data.toList.take k) = x at *
      go_wp2
      refine ⟨⟨k + 1, hk', by go_num, ?_, trivial⟩, by simp [intOf]; omega⟩
      rw [HT.out]
    · have hke : k = s.size := by omega
      subst hke
      rw [hash_all]
      go_wp2
      go_ret
      exact ⟨rfl, rfl⟩

end Go.Proofs.YtidpcjcnhklmpacDoor

/- Numerals and their numbers: plain facts. -/
namespace Go.Proofs.YtidpcjcnhklmpacDoor
open Go

/-- The number that digits say. -/
def dval (l : List UInt8) : Nat := l.foldl (fun n d => 10 * n + (d.toNat - 48)) 0

theorem dval_snoc (l : List UInt8) (d : UInt8) : dval (l ++ [d]) = 10 * dval l + (d.toNat - 48) := by
  unfold dval
  rw [List.foldl_append]
  rfl

def Digs (l : List UInt8) : Prop := ∀ d ∈ l, 48 ≤ d.toNat ∧ d.toNat ≤ 57

theorem digs_snoc {l : List UInt8} {d : UInt8} (h : Digs l) (h' : 48 ≤ d.toNat ∧ d.toNat ≤ 57) : Digs (l ++ [d]) := fun x hx => by
  rcases List.mem_append.1 hx with hx | hx
  · exact h x hx
  · have : x = d := by simpa using hx
    rw [this]
    exact h'

theorem one_digit {u : Nat} (h : u < 10) : (UInt8.ofNat (48 + u)).toNat = 48 + u := by
  rw [UInt8.toNat_ofNat']
  omega

theorem dec_snoc {u : Nat} (h : ¬ u < 10) : Lib.decDigits u = Lib.decDigits (u / 10) ++ [UInt8.ofNat (48 + u % 10)] := by
  rw [Lib.decDigits, dif_neg h]

theorem dec_facts : ∀ (k u : Nat), u < 10 ^ (k + 1) → Digs (Lib.decDigits u) ∧ dval (Lib.decDigits u) = u ∧ 1 ≤ (Lib.decDigits u).length ∧ (Lib.decDigits u).length ≤ k + 1
  | k, u, hu => by
    by_cases h : u < 10
    · rw [Lib.decDigits_one h]
      have e := one_digit h
      refine ⟨fun d hd => ?_, ?_, by simp, by simp⟩
      · have : d = UInt8.ofNat (48 + u) := by simpa using hd
        rw [this, e]
        omega
      · show 10 * 0 + ((UInt8.ofNat (48 + u)).toNat - 48) = u
        rw [e]
        omega
    · rw [dec_snoc h]
      have hm : u % 10 < 10 := Nat.mod_lt _ (by omega)
      match k, hu with
      | 0, hu => omega
      | k + 1, hu =>
        obtain ⟨h1, h2, h3, h4⟩ := dec_facts k (u / 10) (by rw [Nat.pow_succ] at hu; omega)
        refine ⟨digs_snoc h1 (by rw [one_digit hm]; omega), ?_, by simp, by simp; omega⟩
        rw [dval_snoc, h2, one_digit hm]
        omega

theorem dval_lt : ∀ (n : Nat) (l : List UInt8), l.length = n → Digs l → dval l < 10 ^ n
  | 0, l, hl, _ => by
    have : l = [] := List.length_eq_zero_iff.1 hl
    rw [this]
    decide
  | n + 1, l, hl, hd => by
    have hne : l ≠ [] := fun e => by rw [e] at hl; simp at hl
    have e := List.dropLast_concat_getLast hne
    have h1 := dval_lt n l.dropLast (by simp [hl]) (fun d h => hd d (List.dropLast_subset l h))
    have h2 := hd (l.getLast hne) (List.getLast_mem hne)
    rw [← e, dval_snoc, Nat.pow_succ]
    omega

/-- What a word says: whether a sign leads it, its digits. -/
def unsigned (bs : List UInt8) : List UInt8 := match bs with
  | 45 :: r => r
  | r => r

theorem itoa_parts {m : Int} (h0 : -100000000000 < m) (h1 : m < 100000000000) : Digs (unsigned (Lib.itoa m)) ∧ dval (unsigned (Lib.itoa m)) = m.natAbs ∧ 1 ≤ (unsigned (Lib.itoa m)).length ∧ (unsigned (Lib.itoa m)).length ≤ 11 ∧ (m < 0 → Lib.itoa m = 45 :: unsigned (Lib.itoa m)) ∧ (0 ≤ m → unsigned (Lib.itoa m) = Lib.itoa m) := by
  have hu : m.natAbs < 10 ^ (10 + 1) := by
    have : (10 : Nat) ^ (10 + 1) = 100000000000 := by decide
    omega
  obtain ⟨f1, f2, f3, f4⟩ := dec_facts 10 m.natAbs hu
  unfold Lib.itoa
  by_cases hm : m < 0
  · rw [if_pos hm]
    exact ⟨f1, f2, f3, f4, fun _ => rfl, fun h => by omega⟩
  · rw [if_neg hm]
    have e : m.toNat = m.natAbs := by omega
    rw [e]
    have hne : unsigned (Lib.decDigits m.natAbs) = Lib.decDigits m.natAbs := by
      unfold unsigned
      split
      · rename_i r he
        have := f1 45 (by rw [he]; simp)
        exact absurd this.1 (by decide)
      · rfl
    rw [hne]
    exact ⟨f1, f2, f3, f4, fun h => absurd h hm, fun _ => rfl⟩

end Go.Proofs.YtidpcjcnhklmpacDoor

/- The contract of spec.l01Num. -/
namespace Go.Proofs.YtidpcjcnhklmpacDoor
open Go.ChangeShapes Go.WideShapes Go.ChangeAt Go.RowKit Go.Joins

/-- What l01Num says of a word: a number, and whether the word is its numeral. -/
def NumSays (s : ByteArray) (n : Int) (b : Bool) : Prop := -100000000000 < n ∧ n < 100000000000 ∧ (b = true → s.data.toList = Lib.itoa n) ∧ ∀ m : Int, -100000000000 < m → m < 100000000000 → s.data.toList = Lib.itoa m → b = true ∧ n = m

theorem take_byte {s : ByteArray} {k : Nat} (h : k < s.size) : s.data.toList.take (k + 1) = s.data.toList.take k ++ [s[k]] := by
  have hl : k < s.data.toList.length := by simpa using h
  rw [List.take_succ_eq_append_getElem hl]
  rfl

theorem mem_byte {s : ByteArray} {k : Nat} (h : k < s.size) : s[k] ∈ s.data.toList := by
  have hl : k < s.data.toList.length := by simpa using h
  exact List.getElem_mem hl

theorem btw_digit (d : UInt8) : btw (d.toNat : Int) 48 57 = true ↔ 48 ≤ d.toNat ∧ d.toNat ≤ 57 := by
  unfold btw
  simp
  omega

/-- What a word's digits T must be for it to be a numeral. -/
def NumOk (neg : Bool) (L T : List UInt8) : Prop := ∀ m : Int, -100000000000 < m → m < 100000000000 → L = Lib.itoa m → (neg = true ↔ m < 0) ∧ Digs T ∧ dval T = m.natAbs ∧ 1 ≤ T.length ∧ T.length ≤ 11

theorem numOk_plain {L : List UInt8} (h : L.head? ≠ some 45) : NumOk false L L := fun m h0 h1 e => by
  obtain ⟨f1, f2, f3, f4, f5, f6⟩ := itoa_parts h0 h1
  by_cases hm : m < 0
  · rw [e, f5 hm] at h
    simp at h
  · have e2 := f6 (by omega)
    rw [e2] at f1 f2 f3 f4
    rw [e]
    exact ⟨by simp; omega, f1, f2, f3, f4⟩

theorem numOk_neg {T : List UInt8} : NumOk true (45 :: T) T := fun m h0 h1 e => by
  obtain ⟨f1, f2, f3, f4, f5, f6⟩ := itoa_parts h0 h1
  by_cases hm : m < 0
  · have e2 := f5 hm
    rw [← e] at e2
    injection e2 with _ e3
    rw [← e, ← e3] at f1 f2 f3 f4
    exact ⟨by simp [hm], f1, f2, f3, f4⟩
  · have e2 := f6 (by omega)
    rw [e2, ← e] at f1
    exact absurd (f1 45 (by simp)).1 (by decide)

def signed (neg : Bool) (n : Nat) : Int := if neg = true then -(n : Int) else n

theorem says_end {s : ByteArray} {neg : Bool} {T : List UInt8} (h : NumOk neg s.data.toList T) (hd : Digs T) (hl : T.length ≤ 11) {b : Bool} (hb : b = true ↔ Lib.itoa (signed neg (dval T)) = s.data.toList) : NumSays s (signed neg (dval T)) b := by
  have hlt : dval T < 100000000000 := by
    have h1 := dval_lt T.length T rfl hd
    have h2 : 10 ^ T.length ≤ 10 ^ 11 := Nat.pow_le_pow_right (by omega) hl
    have h3 : (10 : Nat) ^ 11 = 100000000000 := by decide
    omega
  have hr : -100000000000 < signed neg (dval T) ∧ signed neg (dval T) < 100000000000 := by
    unfold signed
    split <;> omega
  refine ⟨hr.1, hr.2, fun hb' => (hb.1 hb').symm, fun m h0 h1 e => ?_⟩
  obtain ⟨g1, _, g3, _, _⟩ := h m h0 h1 e
  have hm : signed neg (dval T) = m := by
    unfold signed
    rw [g3]
    split
    · rename_i hn
      have := g1.1 hn
      omega
    · rename_i hn
      have : ¬ m < 0 := fun h => hn (g1.2 h)
      omega
  refine ⟨hb.2 ?_, hm⟩
  rw [hm, e]

theorem says_not {s : ByteArray} {neg : Bool} {T : List UInt8} (h : NumOk neg s.data.toList T) (hbad : ¬ (Digs T ∧ 1 ≤ T.length ∧ T.length ≤ 11)) : NumSays s 0 false :=
  ⟨by omega, by omega, fun h => by simp at h, fun m h0 h1 e => by
    obtain ⟨_, g2, _, g4, g5⟩ := h m h0 h1 e
    exact absurd ⟨g2, g4, g5⟩ hbad⟩

theorem btw_len {n : Nat} : btw (n : Int) 1 11 = true ↔ 1 ≤ n ∧ n ≤ 11 := by
  unfold btw
  simp
  omega

end Go.Proofs.YtidpcjcnhklmpacDoor

/- The contract of spec.l01Words at the blank. -/
namespace Go.Proofs.YtidpcjcnhklmpacDoor
open Go.ChangeShapes Go.WideShapes Go.ChangeAt Go.RowKit Go.Joins

/-- A row of strings of one's own. -/
structure StrRow (w : World) (base g cap : Nat) (ws : List ByteArray) : Prop where
  le : base ≤ g
  lt : g < w.heap.size
  own : w.ownsRow base 9 1 (.slice (some ⟨g, 0, none⟩) ws.length cap) ws.length (ws.map Value.string)

theorem StrRow.below {w w' : World} {base g cap : Nat} {ws : List ByteArray} (h : StrRow w base g cap ws) (hb : Below w.heap.size w w') : StrRow w' base g cap ws :=
  ⟨h.le, Nat.lt_of_lt_of_le h.lt hb.size, h.own.kept (row := none) ⟨hb.os, hb.tape, hb.output, hb.size, fun k hk _ => hb.block k hk⟩ (.inr (by simp [Value.ownBlock]))⟩

theorem StrRow.cell {w : World} {base g cap : Nat} {ws : List ByteArray} (h : StrRow w base g cap ws) {j : Nat} {t : ByteArray} (ht : ws[j]? = some t) : w.cell? ⟨g, j, none⟩ = some (.string t) := by
  rw [h.own.cellAt j (by have := (List.getElem?_eq_some_iff.1 ht).1; omega)]
  simp [ht]

theorem infoString : (Tryd.prog.info? 9).map (fun i => (i.zero, i.size, i.bytes)) = some (some (.string ⟨#[]⟩), 1, 16) := by kernel_rfl

/-- Words, each with a blank behind it. -/
def glue (W : List ByteArray) : List UInt8 := W.flatMap fun x => x.data.toList ++ [32]

theorem glue_snoc (W : List ByteArray) (x : ByteArray) : glue (W ++ [x]) = glue W ++ (x.data.toList ++ [32]) := by
  unfold glue
  rw [List.flatMap_append]
  simp

def NoBlank (W : List ByteArray) : Prop := ∀ x ∈ W, (32 : UInt8) ∉ x.data.toList

theorem cut_blank : ∀ {a b c d : List UInt8}, (32 : UInt8) ∉ a → (32 : UInt8) ∉ b → a ++ 32 :: c = b ++ 32 :: d → a = b ∧ c = d
  | [], [], c, d, _, _, h => by simpa using h
  | [], y :: b, c, d, _, hb, h => by
    simp only [List.nil_append, List.cons_append, List.cons.injEq] at h
    exact absurd (by rw [← h.1]; simp) hb
  | x :: a, [], c, d, ha, _, h => by
    simp only [List.nil_append, List.cons_append, List.cons.injEq] at h
    exact absurd (by rw [h.1]; simp) ha
  | x :: a, y :: b, c, d, ha, hb, h => by
    simp only [List.cons_append, List.cons.injEq] at h
    obtain ⟨h1, h2⟩ := cut_blank (a := a) (b := b) (fun h => ha (by simp [h])) (fun h => hb (by simp [h])) h.2
    exact ⟨by rw [h.1, h1], h2⟩

theorem glue_inj : ∀ {W V : List ByteArray}, NoBlank W → NoBlank V → glue W = glue V → W = V
  | [], [], _, _, _ => rfl
  | [], y :: V, _, _, h => by simp [glue] at h
  | x :: W, [], _, _, h => by simp [glue] at h
  | x :: W, y :: V, hW, hV, h => by
    have h' : x.data.toList ++ 32 :: glue W = y.data.toList ++ 32 :: glue V := by simpa [glue] using h
    obtain ⟨h1, h2⟩ := cut_blank (hW x (by simp)) (hV y (by simp)) h'
    rw [bytes_inj h1, glue_inj (fun z hz => hW z (by simp [hz])) (fun z hz => hV z (by simp [hz])) h2]

/-- What has been read when k bytes are read and the last word began at fr. -/
def SplitTo (bs : List UInt8) (k fr : Nat) (W : List ByteArray) : Prop :=
  NoBlank W ∧ ((k ≤ bs.length ∧ fr ≤ k ∧ glue W = bs.take fr ∧ (32 : UInt8) ∉ (bs.take k).drop fr) ∨ (k = bs.length + 1 ∧ glue W = bs ++ [32]))

theorem piece (s : ByteArray) (fr k : Nat) : (s.extract fr k).data.toList = (s.data.toList.take k).drop fr := by
  simp [List.drop_take]

theorem take_drop {bs : List UInt8} {fr k : Nat} (h : fr ≤ k) : bs.take fr ++ (bs.take k).drop fr = bs.take k := by
  have := List.take_append_drop fr (bs.take k)
  rw [List.take_take, Nat.min_eq_left h] at this
  exact this

theorem split_go {s : ByteArray} {k fr : Nat} {W : List ByteArray} (h : SplitTo s.data.toList k fr W) (hk : k < s.size) (hb : s[k] ≠ 32) : SplitTo s.data.toList (k + 1) fr W := by
  have hl : s.data.toList.length = s.size := by simp
  obtain ⟨h1, ⟨h2, h3, h4, h5⟩ | ⟨h2, h3⟩⟩ := h
  · refine ⟨h1, .inl ⟨by omega, by omega, h4, ?_⟩⟩
    rw [take_byte hk, List.drop_append_of_le_length (by rw [List.length_take]; omega)]
    intro h
    rcases List.mem_append.1 h with h | h
    · exact h5 h
    · have : (32 : UInt8) = s[k] := by simpa using h
      exact hb this.symm
  · omega

theorem no_blank_more {s : ByteArray} {k fr : Nat} {W : List ByteArray} (h1 : NoBlank W) (h5 : (32 : UInt8) ∉ (s.data.toList.take k).drop fr) : NoBlank (W ++ [s.extract fr k]) := fun x hx => by
  rcases List.mem_append.1 hx with hx | hx
  · exact h1 x hx
  · have : x = s.extract fr k := by simpa using hx
    rw [this, piece]
    exact h5

theorem split_word {s : ByteArray} {k fr : Nat} {W : List ByteArray} (h : SplitTo s.data.toList k fr W) (hk : k < s.size) (hb : s[k] = 32) : SplitTo s.data.toList (k + 1) (k + 1) (W ++ [s.extract fr k]) := by
  have hl : s.data.toList.length = s.size := by simp
  obtain ⟨h1, ⟨h2, h3, h4, h5⟩ | ⟨h2, h3⟩⟩ := h
  · refine ⟨no_blank_more h1 h5, .inl ⟨by omega, Nat.le_refl _, ?_, ?_⟩⟩
    · rw [glue_snoc, h4, piece, ← List.append_assoc, take_drop h3, take_byte hk, hb]
    · rw [List.drop_eq_nil_of_le (by rw [List.length_take]; omega)]
      simp
  · omega

theorem split_last {s : ByteArray} {fr : Nat} {W : List ByteArray} (h : SplitTo s.data.toList s.size fr W) : SplitTo s.data.toList (s.size + 1) (s.size + 1) (W ++ [s.extract fr s.size]) := by
  have hl : s.data.toList.length = s.size := by simp
  obtain ⟨h1, ⟨h2, h3, h4, h5⟩ | ⟨h2, h3⟩⟩ := h
  · refine ⟨no_blank_more h1 h5, .inr ⟨by omega, ?_⟩⟩
    rw [glue_snoc, h4, piece, ← List.append_assoc, take_drop h3, List.take_of_length_le (by omega)]
  · omega

theorem split_from {bs : List UInt8} {k fr : Nat} {W : List ByteArray} (h : SplitTo bs k fr W) (hk : k ≤ bs.length) : fr ≤ k := by
  obtain ⟨_, ⟨_, h, _⟩ | ⟨h, _⟩⟩ := h
  · exact h
  · omega

end Go.Proofs.YtidpcjcnhklmpacDoor

/- A write's text, read back: plain facts. -/
namespace Go.Proofs.YtidpcjcnhklmpacDoor
open Go.ChangeShapes Go.WideShapes Go.ChangeAt Go.RowKit Go.Joins

def okR (x : Wr) : Bool := writeOkB x.k x.c x.s x.q x.v x.de x.xs

def textR (x : Wr) : List UInt8 := writeText x.k x.c x.s x.q x.v x.de x.xs

/-- The numbers of a write's text. -/
def nsR (x : Wr) : List Int := headNs x.k x.c x.s x.q x.v x.de x.xs.length ++ x.xs.flatMap depNs

/-- The text of a write that is WriteOk. -/
def IsText (bs : List UInt8) (x : Wr) : Prop := okR x = true ∧ textR x = bs

def Rng (n : Int) : Prop := -100000000000 < n ∧ n < 100000000000

theorem glue_words (ns : List Int) : glue (wordsOf ns) = 119 :: numsText ns ++ [32] := by
  have h : ∀ ns : List Int, (ns.map fun n => str (Lib.itoa n)).flatMap (fun x => x.data.toList ++ [32]) = (numsText ns ++ [32]).drop 1 ∨ ns = [] := by
    intro ns
    induction ns with
    | nil => exact .inr rfl
    | cons n r ih =>
      refine .inl ?_
      rcases ih with ih | rfl
      · cases r with
        | nil => simp [numsText, str]
        | cons m r =>
          rw [List.map_cons, List.flatMap_cons, ih]
          simp [numsText, str]
      · simp [numsText, str]
  unfold glue wordsOf
  rw [List.flatMap_cons]
  rcases h ns with h1 | rfl
  · cases ns with
    | nil => simp [numsText, str]
    | cons n r =>
      rw [h1]
      simp [numsText, str]
  · simp [numsText, str]

theorem text_glue {x : Wr} (h : okR x = true) : glue (wordsOf (nsR x)) = textR x ++ [32] := by
  rw [glue_words]
  unfold textR writeText nsR
  have h' : writeOkB x.k x.c x.s x.q x.v x.de x.xs = true := h
  rw [if_pos h', text_nums]

theorem no_blank_num {n : Int} (h : Rng n) : (32 : UInt8) ∉ Lib.itoa n := by
  obtain ⟨f1, _, _, _, f5, f6⟩ := itoa_parts h.1 h.2
  intro hm
  by_cases hn : n < 0
  · rw [f5 hn] at hm
    rcases List.mem_cons.1 hm with hm | hm
    · exact absurd hm (by decide)
    · exact absurd (f1 32 hm).1 (by decide)
  · rw [← f6 (by omega)] at hm
    exact absurd (f1 32 hm).1 (by decide)

theorem no_blank_words {ns : List Int} (h : ∀ n ∈ ns, Rng n) : NoBlank (wordsOf ns) := fun x hx => by
  unfold wordsOf at hx
  rcases List.mem_cons.1 hx with rfl | hx
  · simp [str]
  · obtain ⟨n, hn, rfl⟩ := List.mem_map.1 hx
    show (32 : UInt8) ∉ (Lib.itoa n).toArray.toList
    rw [List.toList_toArray]
    exact no_blank_num (h n hn)

theorem itoa_inj {m n : Int} (hm : Rng m) (hn : Rng n) (h : Lib.itoa m = Lib.itoa n) : m = n := by
  obtain ⟨f1, f2, _, _, f5, f6⟩ := itoa_parts hm.1 hm.2
  obtain ⟨g1, g2, _, _, g5, g6⟩ := itoa_parts hn.1 hn.2
  rw [h] at f1 f2 f5 f6
  have e : m.natAbs = n.natAbs := by rw [← f2, g2]
  by_cases h1 : m < 0
  · by_cases h2 : n < 0
    · omega
    · have := f5 h1
      rw [g6 (by omega)] at this
      have hl := congrArg List.length this
      simp at hl
  · by_cases h2 : n < 0
    · have := g5 h2
      rw [f6 (by omega)] at this
      have hl := congrArg List.length this
      simp at hl
    · omega

theorem str_inj {a b : List UInt8} (h : str a = str b) : a = b := by
  have := congrArg (fun x : ByteArray => x.data.toList) h
  simpa [str] using this

theorem map_itoa_inj : ∀ {ms ns : List Int}, (∀ n ∈ ms, Rng n) → (∀ n ∈ ns, Rng n) → (ms.map fun n => str (Lib.itoa n)) = (ns.map fun n => str (Lib.itoa n)) → ms = ns
  | [], [], _, _, _ => rfl
  | [], n :: ns, _, _, h => by simp at h
  | m :: ms, [], _, _, h => by simp at h
  | m :: ms, n :: ns, hm, hn, h => by
    simp only [List.map_cons, List.cons.injEq] at h
    rw [itoa_inj (hm m (by simp)) (hn n (by simp)) (str_inj h.1), map_itoa_inj (fun x hx => hm x (by simp [hx])) (fun x hx => hn x (by simp [hx])) h.2]

theorem words_are {bs : List UInt8} {x : Wr} {W : List ByteArray} (hx : IsText bs x) (hr : ∀ n ∈ nsR x, Rng n) (hW : NoBlank W) (hg : glue W = bs ++ [32]) : W = wordsOf (nsR x) := by
  refine glue_inj hW (no_blank_words hr) ?_
  rw [text_glue hx.1, hx.2, hg]

/-- Dependencies out of numbers. -/
def parseD : List Int → List Dp
  | k :: c :: s :: q :: r => ⟨k, c, s, q⟩ :: parseD r
  | _ => []

theorem parseD_back : ∀ xs : List Dp, parseD (xs.flatMap depNs) = xs
  | [] => rfl
  | d :: r => by
    show (⟨d.k, d.c, d.s, d.q⟩ : Dp) :: parseD (r.flatMap depNs) = d :: r
    rw [parseD_back r]

/-- The write that numbers say. -/
def parseW (zs : List Int) : Wr := ⟨zs.getD 0 0, zs.getD 1 0, zs.getD 2 0, zs.getD 3 0, zs.getD 4 0, zs.getD 5 0 == 1, parseD (zs.drop 7)⟩

theorem parse_back (x : Wr) : parseW (nsR x) = x := by
  obtain ⟨k, c, s, q, v, de, xs⟩ := x
  unfold parseW nsR headNs
  simp only [List.cons_append, List.nil_append, List.drop_succ_cons, List.drop_zero, parseD_back]
  simp only [List.getD_cons_zero, List.getD_cons_succ]
  congr 1
  cases de <;> rfl

theorem ns_len (x : Wr) : (nsR x).length = 7 + 4 * x.xs.length := by
  have h : ∀ xs : List Dp, (xs.flatMap depNs).length = 4 * xs.length := by
    intro xs
    induction xs with
    | nil => rfl
    | cons d r ih =>
      rw [List.flatMap_cons, List.length_append, ih]
      simp [depNs]
      omega
  unfold nsR
  rw [List.length_append, h]
  simp [headNs]

end Go.Proofs.YtidpcjcnhklmpacDoor
