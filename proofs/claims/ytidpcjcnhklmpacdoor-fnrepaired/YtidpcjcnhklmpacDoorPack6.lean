import Derived.Test.YtidpcjcnhklmpacDoorPack5
import Derived.Test.YtidpcjcnhklmpacDoorPack3
import Derived.Test.YtidpcjcnhklmpacDoorPack2
import Derived.ChangeSlices
import Derived.Deep.OwnRows
import Derived.Lib.ItoaNum
/- A write's text, read back: what a reader that reads word by word knows. -/
namespace Go.Proofs.YtidpcjcnhklmpacDoor
open Go.ChangeShapes Go.WideShapes Go.ChangeAt Go.RowKit Go.Joins

theorem depKey_ge {xs : List Dp} (h : depsOkB xs = true) : ∀ i, i < xs.length → (i : Int) ≤ (xs.getD i dz).k
  | 0, hi => by
    have := btw_bounds (dep_key h hi)
    simpa using this.1
  | i + 1, hi => by
    have ih := depKey_ge h i (by omega)
    unfold depsOkB at h
    have := List.all_eq_true.1 h (i + 1) (List.mem_range.2 hi)
    simp only [depGood, Bool.and_eq_true, decide_eq_true_eq] at this
    rcases this.2.2 with h1 | h1
    · omega
    · simp only [Nat.add_sub_cancel] at h1
      omega

theorem depR_len {xs : List Dp} (h : depsOkB xs = true) : xs.length ≤ 6 := by
  by_cases h0 : xs.length = 0
  · omega
  · have h1 := depKey_ge h (xs.length - 1) (by omega)
    have h2 := btw_bounds (dep_key h (show xs.length - 1 < xs.length by omega))
    omega

def Sml (n : Int) : Prop := -1000000 ≤ n ∧ n ≤ 1000000

theorem sml_of {n lo hi : Int} (h : btw n lo hi = true) (h0 : -1000000 ≤ lo) (h1 : hi ≤ 1000000) : Sml n := by
  have := btw_bounds h
  exact ⟨by omega, by omega⟩

theorem sml_tag {c s q : Int} (h : tagOkB c s q = true) : Sml c ∧ Sml s ∧ Sml q := by
  unfold tagOkB at h
  simp only [Bool.and_eq_true] at h
  exact ⟨sml_of h.1 (by omega) (by omega), sml_of h.2.1 (by omega) (by omega), sml_of h.2.2 (by omega) (by omega)⟩

theorem sml_ns {x : Wr} (h : okR x = true) : ∀ n ∈ nsR x, Sml n := by
  obtain ⟨k, c, s, q, v, de, xs⟩ := x
  obtain ⟨o1, o2, o3, o4, -⟩ := ok_parts h
  obtain ⟨t1, t2, t3⟩ := sml_tag o2
  have hl := depR_len o4
  simp only at hl
  intro n hn
  unfold nsR headNs at hn
  rcases List.mem_append.1 hn with hn | hn
  · simp only [List.mem_cons, List.not_mem_nil, or_false] at hn
    rcases hn with rfl | rfl | rfl | rfl | rfl | rfl | rfl
    · exact sml_of o1 (by omega) (by omega)
    · exact t1
    · exact t2
    · exact t3
    · exact sml_of (val_btw o3) (by omega) (by omega)
    · cases de <;> exact ⟨by decide, by decide⟩
    · exact ⟨by omega, by omega⟩
  · obtain ⟨d, hd, hn⟩ := List.mem_flatMap.1 hn
    obtain ⟨i, hi, rfl⟩ := List.mem_iff_getElem.1 hd
    have e : xs.getD i dz = xs[i] := by simp [List.getD, hi]
    have h1 := dep_key o4 hi
    have h2 := depsOk_tag o4 hi
    rw [e] at h1 h2
    obtain ⟨u1, u2, u3⟩ := sml_tag h2
    unfold depNs at hn
    simp only [List.mem_cons, List.not_mem_nil, or_false] at hn
    rcases hn with rfl | rfl | rfl | rfl
    · exact sml_of h1 (by omega) (by omega)
    · exact u1
    · exact u2
    · exact u3

theorem rng_ns {x : Wr} (h : okR x = true) : ∀ n ∈ nsR x, Rng n := fun n hn => by
  have := sml_ns h n hn
  exact ⟨by have := this.1; omega, by have := this.2; omega⟩

theorem itoa_short {n : Int} (h : Sml n) : (Lib.itoa n).length ≤ 8 := by
  obtain ⟨h0, h1⟩ := h
  have hu : n.natAbs < 10 ^ (6 + 1) := by
    have : (10 : Nat) ^ (6 + 1) = 10000000 := by decide
    omega
  have h2 := (dec_facts 6 n.natAbs hu).2.2.2
  unfold Lib.itoa
  split
  · simp
    omega
  · have e : n.toNat = n.natAbs := by omega
    rw [e]
    omega

theorem nums_short : ∀ {ns : List Int}, (∀ n ∈ ns, Sml n) → (numsText ns).length ≤ 9 * ns.length
  | [], _ => by simp [numsText]
  | n :: r, h => by
    have h1 := itoa_short (h n (by simp))
    have h2 := nums_short (ns := r) fun m hm => h m (by simp [hm])
    have e : numsText (n :: r) = (32 :: Lib.itoa n) ++ numsText r := by simp [numsText]
    rw [e, List.length_append, List.length_cons, List.length_cons]
    omega

/-- A word that is no numeral: the text is no write's. -/
theorem read_word {bs : List UInt8} {W : List ByteArray} (hW : NoBlank W) (hg : glue W = bs ++ [32]) {j : Nat} {y : ByteArray} (hj : W[j + 1]? = some y) {n : Int} (hs : NumSays y n false) (x : Wr) : ¬ IsText bs x := fun hx => by
  have hr := rng_ns hx.1
  have e := words_are hx hr hW hg
  rw [e] at hj
  simp only [wordsOf, List.getElem?_cons_succ, List.getElem?_map, Option.map_eq_some_iff] at hj
  obtain ⟨m, hm, rfl⟩ := hj
  have hmr := hr m (List.mem_of_getElem? hm)
  have := hs.2.2.2 m hmr.1 hmr.2 (by simp [str])
  simp at this

/-- All words are numerals: they are those of the write. -/
theorem read_all {bs : List UInt8} {W : List ByteArray} (hW : NoBlank W) (hg : glue W = bs ++ [32]) {zs : List Int} (hz : W.drop 1 = zs.map fun n => str (Lib.itoa n)) (hr : ∀ n ∈ zs, Rng n) {x : Wr} (hx : IsText bs x) : zs = nsR x := by
  have hr' := rng_ns hx.1
  have e := words_are hx hr' hW hg
  rw [e] at hz
  simp only [wordsOf, List.drop_succ_cons, List.drop_zero] at hz
  exact (map_itoa_inj hr' hr hz).symm

/-- Too few numbers, or not so many as dependencies ask: the text is no write's. -/
theorem read_count {bs : List UInt8} {W : List ByteArray} (hW : NoBlank W) (hg : glue W = bs ++ [32]) {zs : List Int} (hz : W.drop 1 = zs.map fun n => str (Lib.itoa n)) (hr : ∀ n ∈ zs, Rng n) (hc : zs.length < 7 ∨ zs.length % 4 ≠ 3) (x : Wr) : ¬ IsText bs x := fun hx => by
  have := read_all hW hg hz hr hx
  have hl := ns_len x
  rw [← this] at hl
  omega

/-- The write that the numbers say has another text: the text is no write's. -/
theorem read_other {bs : List UInt8} {W : List ByteArray} (hW : NoBlank W) (hg : glue W = bs ++ [32]) {zs : List Int} (hz : W.drop 1 = zs.map fun n => str (Lib.itoa n)) (hr : ∀ n ∈ zs, Rng n) (ho : textR (parseW zs) ≠ bs) (x : Wr) : ¬ IsText bs x := fun hx => by
  have := read_all hW hg hz hr hx
  rw [this, parse_back] at ho
  exact ho hx.2

theorem read_yes {bs : List UInt8} {x : Wr} (h : textR x = bs) (h0 : bs ≠ []) : IsText bs x := by
  refine ⟨?_, h⟩
  cases ho : okR x
  · exfalso
    unfold textR writeText at h
    have ho' : writeOkB x.k x.c x.s x.q x.v x.de x.xs = false := ho
    rw [ho'] at h
    exact h0 (by simpa using h.symm)
  · rfl

theorem text_is_one {bs : List UInt8} {x y : Wr} (hx : IsText bs x) (hy : IsText bs y) : x = y := by
  have e := words_are (W := wordsOf (nsR y)) hx (rng_ns hx.1) (no_blank_words (rng_ns hy.1)) (by rw [text_glue hy.1, hy.2])
  have h2 := map_itoa_inj (rng_ns hy.1) (rng_ns hx.1) (by simpa [wordsOf] using e)
  rw [← parse_back x, ← parse_back y, h2]

/-- A text of more than 400 bytes is no write's. -/
theorem text_len {bs : List UInt8} {x : Wr} (hx : IsText bs x) : bs.length ≤ 400 := by
  have h1 := nums_short (sml_ns hx.1)
  have h2 := ns_len x
  have h3 : x.xs.length ≤ 6 := depR_len (ok_parts hx.1).2.2.2.1
  have h4 := text_glue hx.1
  rw [glue_words, hx.2] at h4
  have h5 := congrArg List.length h4
  simp at h5
  omega

end Go.Proofs.YtidpcjcnhklmpacDoor

/- Contracts of LeafSum of both sides. -/
namespace Go.Proofs.YtidpcjcnhklmpacDoor
open Go.ChangeShapes Go.WideShapes Go.ChangeAt Go.RowKit Go.Joins
attribute [local go_sem ↓] Go.wp_at_zero Go.wp_at_succ

def wrText (x : Wr) : List UInt8 := writeText x.k x.c x.s x.q x.v x.de x.xs

/-- The sum of what a map has of a key. -/
def leafB (ws : List Wr) (key : Int) : Int := match findW ws key with | some x => hashL (wrText x) | none => 0

set_option maxRecDepth 100000 in
theorem leafB_bd (ws : List Wr) (key : Int) : 0 ≤ leafB ws key ∧ leafB ws key < 65521 := by
  unfold leafB
  split
  · exact hashL_bd _
  · omega

set_option maxRecDepth 100000 in
theorem flat_len (f : Dp → List UInt8) (m : Nat) : ∀ (ds : List Dp), (∀ d ∈ ds, (f d).length ≤ m) → (ds.flatMap f).length ≤ m * ds.length
  | [], _ => by simp
  | d :: r, h => by
    have h1 := h d (by simp)
    have h2 := flat_len f m r fun x hx => h x (List.mem_cons_of_mem _ hx)
    rw [List.flatMap_cons, List.length_append, List.length_cons, Nat.mul_add, Nat.mul_one]
    omega

set_option maxRecDepth 100000 in
theorem numsText_le (ns : List Int) (h : Ints64 ns) : (numsText ns).length ≤ 22 * ns.length := by
  have := nums_len ns h ns.length (Nat.le_refl _)
  rwa [List.take_length] at this

set_option maxRecDepth 100000 in
theorem writeText_le (k c s q v : Int) (de : Bool) (xs : List Dp) : (writeText k c s q v de xs).length ≤ 700 := by
  unfold writeText
  split
  · rename_i h
    obtain ⟨o1, o2, o3, o4, -⟩ := ok_parts h
    have h6 := depR_len o4
    have n1 := numsText_le _ (ints_key o1)
    have n2 := numsText_le _ (ints_tag o2)
    have n3 := numsText_le _ (ints_rest (n := xs.length) o3 (by omega))
    have n4 : (xs.flatMap depText).length ≤ 88 * xs.length := flat_len depText 88 xs fun d hd => by
      obtain ⟨i, hi, rfl⟩ := List.getElem_of_mem hd
      have e : xs.getD i dz = xs[i] := by simp [List.getD, hi]
      have m1 := numsText_le _ (ints_key (dep_key o4 hi))
      have m2 := numsText_le _ (ints_tag (depsOk_tag o4 hi))
      rw [e] at m1 m2
      unfold depText
      rw [List.length_append]
      simp only [List.length_cons, List.length_nil] at m1 m2
      omega
    unfold headText
    simp only [List.length_append, List.length_cons, List.length_nil] at n1 n2 n3 ⊢
    omega
  · simp

set_option maxRecDepth 100000 in
theorem deps0_below {w w' : World} {a : Option Addr} {xs : List Dp} (h : Deps0 w a xs) (hb : Below w.heap.size w w') : Deps0 w' a xs := by
  rcases h with h | ⟨g, h1, h2, h3⟩
  · exact .inl h
  · exact .inr ⟨g, h1, Nat.lt_of_lt_of_le h2 hb.size, h3.below hb h2⟩

set_option maxRecDepth 100000 in
theorem str_bytes (bs : List UInt8) : (str bs).data.toList = bs := rfl

set_option maxRecDepth 100000 in
set_option maxHeartbeats 1000000 in
theorem specLeaf_any (a : Option Addr) (n cap : Nat) (key : Int) (ws : List Wr) (w : World) (hn : ws.length = n) (hm : n ≤ 1048576) (hx : Few ws) (hh : IsWs w a ws) :
    Calls Tryd.prog 71 #[.slice a n cap, .int .i64 key] w fun e w' => e = .returned (.int .i64 (leafB ws key)) ∧ Below w.heap.size w w' := by
  have HH : Hid (IsWs w a ws) := hh
  have HX : Hid (Few ws) := hx
  have HN : Hid (ws.length = n) := hn
  clear hh hx hn
  go_enter Tryd.func71, Tryd.ntmps71
  go_wp2_with fail
  refine (specMapAt_gen a n cap key ws _ HN.out hm HX.out HH.out).mono ?_
  rintro e w1 ⟨v, rfl, hv, hb⟩
  have HB : Hid (Below w.heap.size w w1) := hb
  clear hb
  rcases hv with ⟨i, g, cp, h1, rfl, hg1, hg2, hg3⟩ | ⟨h1, rfl⟩
  · have HF := Lib.hid (find_first h1)
    have hxl := HX.out i h1.1
    have HD : Hid (Deps0 w1 (some ⟨g, 0, none⟩) (ws.getD i wz).xs) := .inr ⟨g, rfl, hg2, hg3⟩
    have HE : Hid (leafB ws key = hashL (wrText (ws.getD i wz))) := by simp [leafB, HF.out, Hid]
    clear h1 hg3 HF
    generalize ws.getD i wz = x at *
    obtain ⟨xk, xc, xs', xq, xv, xd, xx⟩ := x
    have HBA : Hid (Below w1.heap.size w1 (w1.alloc (.cells #[.int .i64 xk, .int .i64 xc, .int .i64 xs', .int .i64 xq, .int .i64 xv, .bool xd, .slice (some ⟨g, 0, none⟩) xx.length cp] 81))) := (Below.refl _ _).alloc (Nat.le_refl _) _
    go_wp2_with fail
    refine (specText_gen xk xc xs' xq xv xd _ xx _ cp _ rfl hxl (deps0_below HD.out HBA.out)).mono ?_
    rintro e w2 ⟨rfl, hb2⟩
    have HB2 : Hid (Below w.heap.size w w2) := below_step (below_step HB.out HB.out.size HBA.out) (Nat.le_trans HB.out.size HBA.out.size) hb2
    clear hb2
    go_wp2_with fail
    refine (specHash_any _ _ (by rw [str_size]; have := writeText_le xk xc xs' xq xv xd xx; omega)).mono ?_
    rintro e w3 ⟨rfl, rfl⟩
    rw [str_bytes]
    have HE2 : Hid (leafB ws key = hashL (writeText xk xc xs' xq xv xd xx)) := HE
    generalize hashL (writeText xk xc xs' xq xv xd xx) = z at *
    go_wp2
    go_ret
    exact ⟨by rw [HE2.out]; rfl, HB2.out⟩
  · have HE : Hid (leafB ws key = 0) := by simp [leafB, find_none h1, Hid]
    clear h1
    go_wp2
    go_ret
    exact ⟨by rw [HE.out]; rfl, HB.out.alloc HB.out.size _⟩

set_option maxRecDepth 100000 in
set_option maxHeartbeats 1000000 in
theorem implLeaf_any (a : Option Addr) (n cap : Nat) (key : Int) (ws : List Wr) (w : World) (hn : ws.length = n) (hm : n ≤ 1048576) (hx : Few ws) (hh : IsWs w a ws) (ht : Tab w) :
    Calls Tryd.prog 21 #[.slice a n cap, .int .i64 key] w fun e w' => e = .returned (.int .i64 (leafB ws key)) ∧ Below w.heap.size w w' := by
  have hlt : 1 < w.heap.size := ht.lt
  have HT : Hid (Tab w) := ht
  have HH : Hid (IsWs w a ws) := hh
  have HX : Hid (Few ws) := hx
  have HN : Hid (ws.length = n) := hn
  clear hh hx hn ht
  go_enter Tryd.func21, Tryd.ntmps21
  go_wp2_with fail
  refine (implMapAt_any a n cap key ws _ HN.out hm HX.out HH.out).mono ?_
  rintro e w1 ⟨v, rfl, hv, hb⟩
  have HB : Hid (Below w.heap.size w w1) := hb
  clear hb
  rcases hv with ⟨i, ad, g, cp, h1, rfl, hg⟩ | ⟨h1, rfl⟩
  · have HF := Lib.hid (find_first h1)
    have hxl := HX.out i h1.1
    have HD : Hid (Deps0 w1 ad (ws.getD i wz).xs) := by
      by_cases hp : 0 < (ws.getD i wz).xs.length
      · obtain ⟨q1, q2, q3, q4, -⟩ := hg hp
        exact .inr ⟨g, q1, q3, q4⟩
      · exact .inl (List.length_eq_zero_iff.1 (by omega))
    have HE : Hid (leafB ws key = hashL (wrText (ws.getD i wz))) := by simp [leafB, HF.out, Hid]
    clear h1 hg HF
    generalize ws.getD i wz = x at *
    obtain ⟨xk, xc, xs', xq, xv, xd, xx⟩ := x
    have HBA : Hid (Below w1.heap.size w1 (w1.alloc (.cells #[.int .i64 xk, .int .i64 xc, .int .i64 xs', .int .i64 xq, .int .i64 xv, .bool xd, .slice ad xx.length cp] 81))) := (Below.refl _ _).alloc (Nat.le_refl _) _
    have HBW := Lib.hid (below_step HB.out HB.out.size HBA.out)
    go_wp2_with fail
    refine (implText_gen xk xc xs' xq xv xd _ xx _ cp _ rfl hxl (deps0_below HD.out HBA.out) (HT.out.below HBW.out hlt)).mono ?_
    rintro e w2 ⟨rfl, hb2⟩
    have HB2 : Hid (Below w.heap.size w w2) := below_step HBW.out HBW.out.size hb2
    clear hb2
    go_wp2_with fail
    refine (implHash_any _ _ (by rw [str_size]; have := writeText_le xk xc xs' xq xv xd xx; omega)).mono ?_
    rintro e w3 ⟨rfl, rfl⟩
    rw [str_bytes]
    have HE2 : Hid (leafB ws key = hashL (writeText xk xc xs' xq xv xd xx)) := HE
    generalize hashL (writeText xk xc xs' xq xv xd xx) = z at *
    go_wp2
    go_ret
    exact ⟨by rw [HE2.out]; rfl, HB2.out⟩
  · have HE : Hid (leafB ws key = 0) := by simp [leafB, find_none h1, Hid]
    clear h1
    go_wp2
    go_ret
    exact ⟨by rw [HE.out]; rfl, HB.out.alloc HB.out.size _⟩

end Go.Proofs.YtidpcjcnhklmpacDoor

/- Marks: what markDepS writes, heldDepS finds. -/
namespace Go.Proofs.YtidpcjcnhklmpacDoor
open Go.ChangeShapes Go.WideShapes Go.ChangeAt Go.RowKit Go.Joins
attribute [local go_sem ↓] Go.wp_at_zero Go.wp_at_succ

/-- Of what was there these blocks alone may have been written; nothing was made. -/
structure Only (S : Nat → Prop) (w w' : World) : Prop where
  os : w'.os = w.os
  tape : w'.tape = w.tape
  output : w'.output = w.output
  size : w'.heap.size = w.heap.size
  block : ∀ b, ¬ S b → w'.heap[b]? = w.heap[b]?
  frozen : ∀ a, w'.frozen? a = w.frozen? a

theorem Only.refl (S : Nat → Prop) (w : World) : Only S w w := ⟨rfl, rfl, rfl, rfl, fun _ _ => rfl, fun _ => rfl⟩

theorem Only.set {S : Nat → Prop} {w w' : World} (h : Only S w w') {b : Nat} (hb : S b) (o : Nat) (v : Value) : Only S w (w'.setCell ⟨b, o, none⟩ v) :=
  ⟨h.os, h.tape, h.output, by simpa using h.size, fun c hc => (Below.heap_setCell _ _ _ _ (fun e => hc (by rw [e]; exact hb))).trans (h.block c hc), fun a => by simpa using h.frozen a⟩

theorem Only.trans {S T : Nat → Prop} {w w' w'' : World} (h : Only S w w') (k : Only T w' w'') (hT : ∀ b, T b → S b) : Only S w w'' :=
  ⟨k.os.trans h.os, k.tape.trans h.tape, k.output.trans h.output, k.size.trans h.size, fun b hb => (k.block b (fun e => hb (hT b e))).trans (h.block b hb), fun a => (k.frozen a).trans (h.frozen a)⟩

theorem Only.below {S : Nat → Prop} {w w' : World} {B : Nat} (h : Only S w w') (hS : ∀ b, S b → B ≤ b) : Below B w w' :=
  ⟨h.os, h.tape, h.output, by rw [h.size]; exact Nat.le_refl _, fun b hb => h.block b (fun e => by have := hS b e; omega)⟩

/-- The first m cells of block b. -/
def CellsAre (w : World) (b m : Nat) (f : Nat → Value) : Prop := ∀ o, o < m → w.cell? ⟨b, o, none⟩ = some (f o)

theorem CellsAre.of_block {w w' : World} {b m : Nat} {f : Nat → Value} (h : CellsAre w b m f) (hb : w'.heap[b]? = w.heap[b]?) : CellsAre w' b m f :=
  fun o ho => (World.cell?_of_block (a := ⟨b, o, none⟩) hb).trans (h o ho)

theorem CellsAre.set {w : World} {b m : Nat} {f : Nat → Value} (h : CellsAre w b m f) {o : Nat} (ho : o < m) (v : Value) : CellsAre (w.setCell ⟨b, o, none⟩ v) b m (fun j => if j = o then v else f j) := by
  intro j hj
  by_cases e : j = o
  · subst e
    simp [World.cell?_setCell_same, h j hj]
  · simp only [if_neg e]
    rw [World.cell?_setCell_other _ _ _ _ (by intro h; injection h with _ h _; exact e h.symm)]
    exact h j hj

theorem CellsAre.set_other {w : World} {b m : Nat} {f : Nat → Value} (h : CellsAre w b m f) {g : Nat} (hg : g ≠ b) (o : Nat) (v : Value) : CellsAre (w.setCell ⟨g, o, none⟩ v) b m f :=
  h.of_block (Below.heap_setCell _ _ _ _ (Ne.symm hg))

theorem CellsAre.congr {w : World} {b m : Nat} {f f' : Nat → Value} (h : CellsAre w b m f) (he : ∀ o, o < m → f o = f' o) : CellsAre w b m f' := fun o ho => by rw [h o ho, he o ho]

def markFn (k : Int) (o : Nat) : Value := .int .i64 (k + o)

theorem mark_step (k : Int) (j o : Nat) (f : Nat → Value) :
    (if o = j * 4 + 1 + 2 then Value.int .i64 (k + 4 * j + 1 + 1 + 1) else if o = j * 4 + 1 + 1 then Value.int .i64 (k + 4 * j + 1 + 1) else if o = j * 4 + 1 then Value.int .i64 (k + 4 * j + 1) else if o = j * 4 then Value.int .i64 (k + 4 * j) else if o < j * 4 then markFn k o else f o) = (if o < (j + 1) * 4 then markFn k o else f o) := by
  unfold markFn
  by_cases h3 : o = j * 4 + 1 + 2
  · rw [if_pos h3, if_pos (by omega), h3]
    congr 1
    omega
  rw [if_neg h3]
  by_cases h2 : o = j * 4 + 1 + 1
  · rw [if_pos h2, if_pos (by omega), h2]
    congr 1
    omega
  rw [if_neg h2]
  by_cases h1 : o = j * 4 + 1
  · rw [if_pos h1, if_pos (by omega), h1]
    congr 1
    omega
  rw [if_neg h1]
  by_cases h0 : o = j * 4
  · rw [if_pos h0, if_pos (by omega), h0]
    congr 1
    omega
  rw [if_neg h0]
  by_cases hl : o < j * 4
  · rw [if_pos hl, if_pos (by omega)]
  · rw [if_neg hl, if_neg (by omega)]

end Go.Proofs.YtidpcjcnhklmpacDoor

/- Lists of numbers: rows that grow; what markIntS writes, heldIntS finds; the contract of eqIntS. -/
namespace Go.Proofs.YtidpcjcnhklmpacDoor
open Go.ChangeShapes Go.WideShapes Go.ChangeAt Go.RowKit Go.Joins
attribute [local go_sem ↓] Go.wp_at_zero Go.wp_at_succ

def intV (z : Int) : Value := .int .i64 z

theorem infoInt : (Tryd.prog.info? 3).map (fun i => (i.zero, i.size, i.bytes)) = some (some (.int .i64 0), 1, 8) := by kernel_rfl

/-- What a slice of numbers leads to. -/
def IsInts (w : World) (a : Option Addr) (zs : List Int) : Prop :=
  zs = [] ∨ ∃ b, a = some ⟨b, 0, none⟩ ∧ b < w.heap.size ∧ ∀ i, i < zs.length → w.cell? ⟨b, i, none⟩ = some (.int .i64 (zs.getD i 0))

theorem IsInts.below {w w' : World} {a : Option Addr} {zs : List Int} (h : IsInts w a zs) (hb : Below w.heap.size w w') : IsInts w' a zs := by
  rcases h with h | ⟨b, ha, hlt, hh⟩
  · exact .inl h
  · exact .inr ⟨b, ha, Nat.lt_of_lt_of_le hlt hb.size, fun i hi => (hb.cell (p := ⟨b, i, none⟩) hlt).trans (hh i hi)⟩

theorem IsInts.at {w w' : World} {a : Option Addr} {zs : List Int} (h : IsInts w a zs) (hb : Below w.heap.size w w') {k : Nat} (hk : k < zs.length) : ∃ b, a = some ⟨b, 0, none⟩ ∧ b < w'.heap.size ∧ w'.cell? ⟨b, k, none⟩ = some (.int .i64 (zs.getD k 0)) := by
  rcases h.below hb with h | ⟨b, ha, hlt, hh⟩
  · subst h
    simp at hk
  · exact ⟨b, ha, hlt, hh k hk⟩

/-- A list of numbers of one's own, between two block numbers. -/
def OwnI (w : World) (lo hi : Nat) (a : Option Addr) (zs : List Int) : Prop :=
  zs = [] ∨ ∃ b, a = some ⟨b, 0, none⟩ ∧ lo ≤ b ∧ b < hi ∧ b < w.heap.size ∧ (∀ i, i < zs.length → w.cell? ⟨b, i, none⟩ = some (.int .i64 (zs.getD i 0))) ∧ ∀ o, w.frozen? ⟨b, o, none⟩ = false

theorem OwnI.below {w w' : World} {lo hi : Nat} {a : Option Addr} {zs : List Int} (h : OwnI w lo hi a zs) (hb : Below w.heap.size w w') : OwnI w' lo hi a zs := by
  rcases h with h | ⟨b, ha, h1, h2, hlt, hh, hf⟩
  · exact .inl h
  · exact .inr ⟨b, ha, h1, h2, Nat.lt_of_lt_of_le hlt hb.size, fun i hi => (hb.cell (p := ⟨b, i, none⟩) hlt).trans (hh i hi), fun o => (hb.frozen (p := ⟨b, o, none⟩) hlt).trans (hf o)⟩

theorem OwnI.only {w w' : World} {S : Nat → Prop} {lo hi : Nat} {a : Option Addr} {zs : List Int} (h : OwnI w lo hi a zs) (ho : Only S w w') (hS : ∀ x, S x → x < lo) : OwnI w' lo hi a zs := by
  rcases h with h | ⟨b, ha, h1, h2, hlt, hh, hf⟩
  · exact .inl h
  · have hb : w'.heap[b]? = w.heap[b]? := ho.block b fun e => by have := hS b e; omega
    exact .inr ⟨b, ha, h1, h2, by rw [ho.size]; exact hlt, fun i hi => (World.cell?_of_block (a := ⟨b, i, none⟩) hb).trans (hh i hi), fun o => (ho.frozen _).trans (hf o)⟩

theorem OwnI.isInts {w : World} {lo hi : Nat} {a : Option Addr} {zs : List Int} (h : OwnI w lo hi a zs) : IsInts w a zs := by
  rcases h with h | ⟨b, ha, _, _, hlt, hh, _⟩
  · exact .inl h
  · exact .inr ⟨b, ha, hlt, hh⟩

/-- A row of numbers that grows. -/
def RowI (w : World) (base : Nat) (v : Value) (zs : List Int) : Prop := w.ownsRow base 3 1 v zs.length (zs.map intV)

theorem RowI.form {w : World} {base : Nat} {v : Value} {zs : List Int} (h : RowI w base v zs) : ∃ a cap, v = .slice a zs.length cap ∧ OwnI w base w.heap.size a zs := by
  rcases h.2 with ⟨h1, h2⟩ | ⟨g, cap, cur, h1, h2, h3, _⟩
  · exact ⟨none, 0, by rw [h1, h2], .inl (List.length_eq_zero_iff.1 h2)⟩
  · have hlt : g < w.heap.size := (Array.getElem?_eq_some_iff.1 h3).1
    subst h1
    refine ⟨_, cap, rfl, .inr ⟨g, rfl, h2, hlt, hlt, fun i hi => ?_, fun o => World.ownsRow.frozenAt h o⟩⟩
    rw [World.ownsRow.cellAt h i (by omega)]
    simp [intV, List.getD, hi]

theorem RowI.below {w w' : World} {base : Nat} {v : Value} {zs : List Int} (h : RowI w base v zs) (hb : Below w.heap.size w w') : RowI w' base v zs :=
  World.ownsRow.kept (row := none) h ⟨hb.os, hb.tape, hb.output, hb.size, fun k hk _ => hb.block k hk⟩ (by
    by_cases e : v.ownBlock = none
    · exact .inl e
    · exact .inr e)

theorem RowI.mono {w : World} {base base' : Nat} {v : Value} {zs : List Int} (h : RowI w base v zs) (hb : base' ≤ base) : RowI w base' v zs := by
  refine ⟨h.1, ?_⟩
  rcases h.2 with h1 | ⟨g, cap, cur, h1, h2, h3⟩
  · exact .inl h1
  · exact .inr ⟨g, cap, cur, h1, Nat.le_trans hb h2, h3⟩

theorem oneI_cells (w : World) (t : Nat) (z : Int) : ∀ j u, ([intV z] : List Value)[j]? = some u → (w.alloc (.cells #[.int .i64 z] t)).cell? ((⟨w.heap.size, 0, none⟩ : Addr).add j) = some u := by
  intro j u hu
  have e1 : (⟨w.heap.size, 0, none⟩ : Addr).add j = ⟨w.heap.size, j, none⟩ := by
    unfold Addr.add
    split
    · rename_i h
      rw [h]
    · simp
  rw [e1, cell_of_row _ _ j _ t (0, 0) (heap_alloc_new w _), ← hu]
  simp [intV]

theorem intV_one (zs : List Int) : ∀ u ∈ zs.map intV, u.oneCell' = true := by
  intro u hu
  obtain ⟨z, _, rfl⟩ := List.mem_map.1 hu
  rfl

theorem markI_step (k : Int) (j o : Nat) (f : Nat → Value) : (if o = j then Value.int .i64 (k + j) else if o < j then markFn k o else f o) = (if o < j + 1 then markFn k o else f o) := by
  unfold markFn
  by_cases h0 : o = j
  · rw [if_pos h0, if_pos (by omega), h0]
  rw [if_neg h0]
  by_cases hl : o < j
  · rw [if_pos hl, if_pos (by omega)]
  · rw [if_neg hl, if_neg (by omega)]

/-- A list of numbers that is marked. -/
def MarkedI (w : World) (a : Option Addr) (n : Nat) (k : Int) : Prop := n = 0 ∨ ∃ b, a = some ⟨b, 0, none⟩ ∧ b < w.heap.size ∧ CellsAre w b n (markFn k)

theorem MarkedI.below {w w' : World} {a : Option Addr} {n : Nat} {k : Int} (h : MarkedI w a n k) (hb : Below w.heap.size w w') : MarkedI w' a n k := by
  rcases h with h | ⟨b, ha, hlt, hc⟩
  · exact .inl h
  · exact .inr ⟨b, ha, Nat.lt_of_lt_of_le hlt hb.size, hc.of_block (hb.block b hlt)⟩

end Go.Proofs.YtidpcjcnhklmpacDoor

/- Lists of numbers that come in: opened, and copied by toIntS. -/
namespace Go.Proofs.YtidpcjcnhklmpacDoor
open Go.ChangeShapes Go.WideShapes Go.ChangeAt Go.RowKit Go.Joins
attribute [local go_sem ↓] Go.wp_at_zero Go.wp_at_succ

def Rng64 (z : Int) : Prop := -9223372036854775808 ≤ z ∧ z ≤ 9223372036854775807

/-- What a slice of numbers, from whatever place of its block on, leads to. -/
def IsIs (w : World) (a : Option Addr) (zs : List Int) : Prop :=
  zs = [] ∨ ∃ b o, a = some ⟨b, o, none⟩ ∧ b < w.heap.size ∧ ∀ i, i < zs.length → w.cell? ⟨b, o + i, none⟩ = some (.int .i64 (zs.getD i 0))

set_option maxRecDepth 100000 in
theorem IsIs.below {w w' : World} {a : Option Addr} {zs : List Int} (h : IsIs w a zs) (hb : Below w.heap.size w w') : IsIs w' a zs := by
  rcases h with h | ⟨b, o, ha, hlt, hh⟩
  · exact .inl h
  · exact .inr ⟨b, o, ha, Nat.lt_of_lt_of_le hlt hb.size, fun i hi => (hb.cell (p := ⟨b, o + i, none⟩) hlt).trans (hh i hi)⟩

set_option maxRecDepth 100000 in
theorem IsIs.at {w w' : World} {a : Option Addr} {zs : List Int} (h : IsIs w a zs) (hb : Below w.heap.size w w') {k : Nat} (hk : k < zs.length) : ∃ b o, a = some ⟨b, o, none⟩ ∧ b < w'.heap.size ∧ w'.cell? ⟨b, o + k, none⟩ = some (.int .i64 (zs.getD k 0)) := by
  rcases h.below hb with h | ⟨b, o, ha, hlt, hh⟩
  · subst h
    simp at hk
  · exact ⟨b, o, ha, hlt, hh k hk⟩

set_option maxRecDepth 100000 in
theorem IsInts.isIs {w : World} {a : Option Addr} {zs : List Int} (h : IsInts w a zs) : IsIs w a zs := by
  rcases h with h | ⟨b, ha, hlt, hh⟩
  · exact .inl h
  · exact .inr ⟨b, 0, ha, hlt, fun i hi => by rw [Nat.zero_add]; exact hh i hi⟩

set_option maxRecDepth 100000 in
theorem open_intS {H : Type} {enc : TypeId × Value → H} {w : World} {base b0 : Nat} {held : Bool} {r : Go.Reach} {v : Value} {d : DataW H} {p : List MemPlace} (hv : Value.okWide Tryd.prog w r b0 24 v) (h : DataW.Trod enc Tryd.prog w base (fun _ => true) held 24 v d p) :
    ∃ (a : Option Addr) (len cap : Nat) (zs : List Int), v = .slice a len cap ∧ (zs.length = len ∧ len ≤ maxLen ∧ IsIs w a zs ∧ ∀ z ∈ zs, Rng64 z) := by
  obtain ⟨a, len, cap, rfl⟩ := okWide_slice Tryd.underlying24 hv
  obtain ⟨fuel, hf⟩ := h
  rcases open_ints Tryd.underlying24 Tryd.underlying3 (by kernel_rfl) hf with ⟨hcs, _⟩ | ⟨x, l, c, zs, hcs, _, hl, hm, hz, _, hcell, hwz⟩
  · simp [Value.cells] at hcs
    obtain ⟨rfl, rfl, rfl⟩ := hcs
    exact ⟨_, _, _, [], rfl, rfl, Nat.zero_le _, .inl rfl, fun z hz => by simp at hz⟩
  · simp [Value.cells] at hcs
    obtain ⟨rfl, rfl, rfl⟩ := hcs
    have hzl : zs.length = cap := by simpa using hz
    refine ⟨_, _, _, zs.take len, rfl, by rw [List.length_take]; omega, by omega, ?_, fun z hz => ?_⟩
    · by_cases h0 : len = 0
      · subst h0
        exact .inl (by simp)
      · have hx : x = ⟨x.block, x.off, none⟩ := by
          have h1 := hcell 0 (by omega)
          simp [Addr.add] at h1
          cases x with
          | mk b o s =>
            cases s with
            | none => rfl
            | some s =>
              simp only [World.cell?] at h1
              split at h1 <;> simp at h1
        refine .inr ⟨x.block, x.off, by rw [← hx], ?_, fun i hi => ?_⟩
        · have h1 := hcell 0 (by omega)
          have := World.block_lt_of_cell? w _ h1
          simpa [Addr.add] using this
        · have hi' : i < len := by rw [List.length_take] at hi; omega
          have h1 := hcell i (by omega)
          have e1 : x.add i = ⟨x.block, x.off + i, none⟩ := by
            rw [hx]
            unfold Addr.add
            split
            · rename_i h
              rw [h]
              rfl
            · rfl
          rw [e1] at h1
          rw [h1]
          simp [List.getD, hi']
    · have hw := hwz z (List.mem_of_mem_take hz)
      simp only [Lit.wf, Bool.and_eq_true, decide_eq_true_eq] at hw
      exact hw

def intFill (zs : List Int) (k j : Nat) : Value := .int .i64 (if j < k then zs.getD j 0 else 0)

set_option maxRecDepth 100000 in
theorem intFill_step (zs : List Int) (k j : Nat) : (if j = k then Value.int .i64 (zs.getD k 0) else intFill zs k j) = intFill zs (k + 1) j := by
  unfold intFill
  by_cases h : j = k
  · rw [if_pos h, if_pos (by omega), h]
  · rw [if_neg h]
    by_cases hl : j < k
    · rw [if_pos hl, if_pos (by omega)]
    · rw [if_neg hl, if_neg (by omega)]

set_option maxRecDepth 100000 in
theorem rowInt_start (w : World) (t n : Nat) (zs : List Int) : (w.alloc (.cells (madeCells #[.int .i64 0] n) t)).rowIs w.heap.size t n (intFill zs 0) := by
  refine ⟨_, Go.Deep.blk_alloc_new _ _, size_madeCells _ _, fun i hi => ?_⟩
  have e : intFill zs 0 i = .int .i64 0 := by unfold intFill; rw [if_neg (by omega)]
  rw [e]
  have h1 : i % 1 = 0 := by omega
  simp [madeCells, hi, h1]

set_option maxRecDepth 100000 in
theorem run_make_ints (n : Nat) (hn : n ≤ 1048576) (w : World) :
    (Instr.makeSlice 24 (.int .i64 (n : Int)) (.int .i64 (n : Int))).run Tryd.prog w = .ok (.slice (some ⟨w.heap.size, 0, none⟩) n n) (w.alloc (.cells (madeCells #[.int .i64 0] n) 3)) := by
  obtain ⟨i, hi, hzz⟩ := Option.map_eq_some_iff.1 infoInt
  simp only [Prod.mk.injEq] at hzz
  obtain ⟨hz, hs, hb⟩ := hzz
  have hr := run_make (P := Tryd.prog) w 24 3 i _ Tryd.underlying24 hi hz .i64 .i64 n n (by omega) (Int.le_refl _) (by rw [hb]; omega) (by omega)
  simp only [Int.toNat_natCast, hs, Nat.mul_one] at hr
  exact hr

end Go.Proofs.YtidpcjcnhklmpacDoor

/- Trees of sums and where two differ: plain facts. -/
namespace Go.Proofs.YtidpcjcnhklmpacDoor
open Go.ChangeShapes Go.WideShapes Go.ChangeAt Go.RowKit Go.Joins

/-- The sum of two sums. -/
def nodeH (x y : Int) : Int := hashL (Lib.itoa x ++ 32 :: Lib.itoa y)

def trF (F : Nat → Int) : Nat → Nat → Int
  | 0, _ => 0
  | f + 1, i => if 7 ≤ i then F (i - 7) else nodeH (trF F f (2 * i + 1)) (trF F f (2 * i + 2))

/-- What stands at a place of the tree with these leaves. -/
def tr (F : Nat → Int) (i : Nat) : Int := trF F 4 i

def treeL (F : Nat → Int) : List Int := (List.range 15).map (tr F)

theorem treeL_len (F : Nat → Int) : (treeL F).length = 15 := by simp [treeL]

theorem treeL_get (F : Nat → Int) {j : Nat} (h : j < 15) : (treeL F).getD j 0 = tr F j := by
  simp [treeL, List.getD, h]

theorem tr_leaf (F : Nat → Int) (k : Nat) : tr F (7 + k) = F k := by
  have h : 7 ≤ 7 + k := by omega
  have e : 7 + k - 7 = k := by omega
  rw [tr, trF, if_pos h, e]

theorem tr_node (F : Nat → Int) {i : Nat} (h : i < 7) : tr F i = nodeH (tr F (2 * i + 1)) (tr F (2 * i + 2)) := by
  match i, h with
  | 0, _ => simp [tr, trF]
  | 1, _ => simp [tr, trF]
  | 2, _ => simp [tr, trF]
  | 3, _ => simp [tr, trF]
  | 4, _ => simp [tr, trF]
  | 5, _ => simp [tr, trF]
  | 6, _ => simp [tr, trF]

theorem nodeH_bd (x y : Int) : 0 ≤ nodeH x y ∧ nodeH x y < 65521 := hashL_bd _

theorem tr_bd (F : Nat → Int) (hF : ∀ k, 0 ≤ F k ∧ F k < 65521) (i : Nat) : 0 ≤ tr F i ∧ tr F i < 65521 := by
  unfold tr trF
  split
  · exact hF _
  · exact nodeH_bd _ _

/-- The place i and all places above it are so. -/
def apF (P : Nat → Bool) : Nat → Nat → Bool
  | 0, _ => false
  | f + 1, i => P i && (i == 0 || apF P f ((i - 1) / 2))

def ap (P : Nat → Bool) (i : Nat) : Bool := apF P (i + 1) i

theorem apF_more (P : Nat → Bool) : ∀ f g i, i < f → i < g → apF P f i = apF P g i
  | 0, _, _, h, _ => by omega
  | _, 0, _, _, h => by omega
  | f + 1, g + 1, i, h1, h2 => by
    unfold apF
    by_cases h0 : i = 0
    · subst h0
      simp
    · rw [apF_more P f g ((i - 1) / 2) (by omega) (by omega)]

theorem ap_zero (P : Nat → Bool) : ap P 0 = P 0 := by simp [ap, apF]

theorem ap_step (P : Nat → Bool) {i : Nat} (h : 0 < i) : ap P i = (P i && ap P ((i - 1) / 2)) := by
  have h0 : (i == 0) = false := by simp; omega
  unfold ap
  rw [apF, h0, Bool.false_or, apF_more P i ((i - 1) / 2 + 1) _ (by omega) (by omega)]

theorem ap_here {P : Nat → Bool} {i : Nat} (h : ap P i = true) : P i = true := by
  unfold ap apF at h
  simp only [Bool.and_eq_true] at h
  exact h.1

theorem ap_not {P : Nat → Bool} {i : Nat} (h : P i = false) : ap P i = false := by
  unfold ap apF
  rw [h, Bool.false_and]

def unlike (a b : List Int) (i : Nat) : Bool := decide (a.getD i 0 ≠ b.getD i 0)

/-- The leaves of the first n that are told. -/
def leavesTo (a b : List Int) (n : Nat) : List Int := ((List.range n).filter fun (k : Nat) => ap (unlike a b) (7 + k)).map fun (k : Nat) => (k : Int)

def diffL (a b : List Int) : List Int := leavesTo a b 8

def diffB (a b : List Int) : List Int := if a.length = 15 ∧ b.length = 15 then diffL a b else []

theorem leavesTo_zero (a b : List Int) : leavesTo a b 0 = [] := rfl

theorem leavesTo_yes {a b : List Int} {n : Nat} (h : ap (unlike a b) (7 + n) = true) : leavesTo a b (n + 1) = leavesTo a b n ++ [(n : Int)] := by
  unfold leavesTo
  rw [List.range_succ, List.filter_append, List.map_append]
  simp [h]

theorem leavesTo_no {a b : List Int} {n : Nat} (h : ap (unlike a b) (7 + n) = false) : leavesTo a b (n + 1) = leavesTo a b n := by
  unfold leavesTo
  rw [List.range_succ, List.filter_append, List.map_append]
  simp [h]

theorem leavesTo_len (a b : List Int) (n : Nat) : (leavesTo a b n).length ≤ n := by
  unfold leavesTo
  rw [List.length_map]
  exact Nat.le_trans (List.length_filter_le _ _) (by simp)

theorem leavesTo_same (a : List Int) (n : Nat) : leavesTo a a n = [] := by
  induction n with
  | zero => rfl
  | succ n ih =>
    rw [leavesTo_no (ap_not (by simp [unlike])), ih]

theorem diffL_same (a : List Int) : diffL a a = [] := leavesTo_same a 8

theorem diffB_same (a : List Int) : diffB a a = [] := by
  unfold diffB
  split
  · exact diffL_same a
  · rfl

theorem diffB_len (a b : List Int) : (diffB a b).length ≤ 8 := by
  unfold diffB
  split
  · exact leavesTo_len a b 8
  · simp

theorem mem_leavesTo {a b : List Int} {n : Nat} {z : Int} (h : z ∈ leavesTo a b n) : ∃ k : Nat, k < n ∧ z = (k : Int) ∧ ap (unlike a b) (7 + k) = true := by
  unfold leavesTo at h
  obtain ⟨k, hk, rfl⟩ := List.mem_map.1 h
  obtain ⟨h1, h2⟩ := List.mem_filter.1 hk
  exact ⟨k, List.mem_range.1 h1, rfl, h2⟩

/-- What is told to differ differs in its leaf. -/
theorem mem_diffB {a b : List Int} {z : Int} (h : z ∈ diffB a b) : ∃ k : Nat, k < 8 ∧ z = (k : Int) ∧ a.getD (7 + k) 0 ≠ b.getD (7 + k) 0 := by
  unfold diffB at h
  split at h
  · obtain ⟨k, h1, h2, h3⟩ := mem_leavesTo h
    exact ⟨k, h1, h2, by have := ap_here h3; simpa [unlike] using this⟩
  · simp at h

theorem leavesTo_rise (a b : List Int) (n : Nat) : (leavesTo a b n).Pairwise (· < ·) := by
  unfold leavesTo
  rw [List.pairwise_map]
  exact (List.pairwise_lt_range (n := n)).filter _ |>.imp fun h => by omega

theorem diffB_rise (a b : List Int) : (diffB a b).Pairwise (· < ·) := by
  unfold diffB
  split
  · exact leavesTo_rise a b 8
  · exact List.Pairwise.nil

end Go.Proofs.YtidpcjcnhklmpacDoor

/- The contract of spec.TreeOf. -/
namespace Go.Proofs.YtidpcjcnhklmpacDoor
open Go.ChangeShapes Go.WideShapes Go.ChangeAt Go.RowKit Go.Joins
attribute [local go_sem ↓] Go.wp_at_zero Go.wp_at_succ

/-- The leaves of a map. -/
def leavesW (ws : List Wr) (k : Nat) : Int := leafB ws k

def treeW (ws : List Wr) : List Int := treeL (leavesW ws)

def treeB (ws : List Wr) : List Int := if mapOkB ws = true then treeW ws else []

theorem treeB_len (ws : List Wr) : (treeB ws).length ≤ 15 := by
  unfold treeB
  split
  · exact Nat.le_of_eq (treeL_len _)
  · simp

theorem treeW_bd (ws : List Wr) (i : Nat) : 0 ≤ tr (leavesW ws) i ∧ tr (leavesW ws) i < 65521 := tr_bd _ (fun k => leafB_bd ws k) i

/-- The row while the leaves are filled in, and while the sums above are. -/
def fillA (F : Nat → Int) (k j : Nat) : Value := .int .i64 (if 7 ≤ j ∧ j < 7 + k then tr F j else 0)

def fillB (F : Nat → Int) (p j : Nat) : Value := .int .i64 (if p ≤ j then tr F j else 0)

theorem fillA_step (F : Nat → Int) (k j : Nat) : (if j = 7 + k then Value.int .i64 (F k) else fillA F k j) = fillA F (k + 1) j := by
  unfold fillA
  by_cases h : j = 7 + k
  · rw [if_pos h, if_pos (by omega), h, tr_leaf]
  · rw [if_neg h]
    by_cases h2 : 7 ≤ j ∧ j < 7 + k
    · rw [if_pos h2, if_pos (by omega)]
    · rw [if_neg h2, if_neg (by omega)]

theorem fillB_start (F : Nat → Int) (j : Nat) (hj : j < 15) : fillA F 8 j = fillB F 7 j := by
  unfold fillA fillB
  by_cases h : 7 ≤ j
  · rw [if_pos ⟨h, by omega⟩, if_pos h]
  · rw [if_neg (by omega), if_neg h]

theorem fillB_step (F : Nat → Int) (p j : Nat) : (if j = p then Value.int .i64 (tr F p) else fillB F (p + 1) j) = fillB F p j := by
  unfold fillB
  by_cases h : j = p
  · rw [if_pos h, if_pos (by omega), h]
  · rw [if_neg h]
    by_cases h2 : p + 1 ≤ j
    · rw [if_pos h2, if_pos (by omega)]
    · rw [if_neg h2, if_neg (by omega)]

theorem rowIs_below {w w' : World} {b t n : Nat} {f : Nat → Value} (h : w.rowIs b t n f) (hb : Below w.heap.size w w') : w'.rowIs b t n f := by
  obtain ⟨c, hc, h1, h2⟩ := h
  exact ⟨c, (hb.block b (Array.getElem?_eq_some_iff.1 hc).1).trans hc, h1, h2⟩

theorem rowZ_start (w : World) (t : Nat) (F : Nat → Int) : (w.alloc (.cells (madeCells #[.int .i64 0] 15) t)).rowIs w.heap.size t 15 (fillA F 0) := by
  refine ⟨_, Go.Deep.blk_alloc_new _ _, size_madeCells _ _, fun i hi => ?_⟩
  have e : fillA F 0 i = .int .i64 0 := by unfold fillA; rw [if_neg (by omega)]
  rw [e]
  have h1 : i % 1 = 0 := by omega
  simp [madeCells, hi, h1]

theorem rowT_own {w : World} {g lo hi : Nat} {F : Nat → Int} {t : Nat} (h : w.rowIs g t 15 (fillB F 0)) (h1 : lo ≤ g) (h2 : g < hi) : OwnI w lo hi (some ⟨g, 0, none⟩) (treeL F) := by
  refine .inr ⟨g, rfl, h1, h2, h.lt, fun i hi => ?_, h.frozen⟩
  have hi' : i < 15 := by rw [treeL_len] at hi; exact hi
  rw [h.cell hi', treeL_get F hi', fillB, if_pos (Nat.zero_le _)]

theorem node_text (x y : Int) : (⟨(Lib.itoa x).toArray⟩ : ByteArray) ++ ⟨#[32]⟩ ++ ⟨(Lib.itoa y).toArray⟩ = str (Lib.itoa x ++ 32 :: Lib.itoa y) := by
  have e1 : (⟨(Lib.itoa x).toArray⟩ : ByteArray) = str (Lib.itoa x) := rfl
  have e2 : (⟨#[32]⟩ : ByteArray) = str [32] := rfl
  have e3 : (⟨(Lib.itoa y).toArray⟩ : ByteArray) = str (Lib.itoa y) := rfl
  rw [e1, e2, e3, str_add, str_add]
  simp

set_option maxRecDepth 100000 in
set_option maxHeartbeats 4000000 in
theorem specTree_any (a : Option Addr) (n cap : Nat) (ws : List Wr) (w : World) (hn : ws.length = n) (hm : n ≤ 1048576) (hx : Few ws) (hh : IsWs w a ws) :
    Calls Tryd.prog 48 #[.slice a n cap] w fun e w' => ∃ ad cp, e = .returned (.slice ad (treeB ws).length cp) ∧ OwnI w' w.heap.size w'.heap.size ad (treeB ws) ∧ Below w.heap.size w w' := by
  have HC : Hid (∀ W, Below w.heap.size w W → Calls Tryd.prog 18 #[.slice a n cap] W fun e w' => e = .returned (.bool (mapOkB ws)) ∧ Below W.heap.size W w') := fun W hW => specMapOk_gen a n cap ws W hn hm hx (hh.below hW)
  have HLF : Hid (∀ W, Below w.heap.size w W → ∀ k : Nat, Calls Tryd.prog 71 #[.slice a n cap, .int .i64 (k : Int)] W fun e w' => e = .returned (.int .i64 (leavesW ws k)) ∧ Below W.heap.size W w') := fun W hW k => specLeaf_any a n cap k ws W hn hm hx (hh.below hW)
  clear hn hx hh
  cases hok : mapOkB ws
  · have HE : Hid (treeB ws = []) := by show _ = _; unfold treeB; rw [hok]; rfl
    rw [hok] at HC
    clear hok HLF
    go_enter Tryd.func48, Tryd.ntmps48
    go_wp2_with fail
    refine (HC.out _ (Below.refl _ _)).mono ?_
    rintro e w1 ⟨rfl, hb⟩
    have HB1 := Lib.hid hb
    clear hb
    go_wp2
    go_ret
    exact ⟨_, _, by rw [HE.out]; rfl, by rw [HE.out]; exact .inl rfl, HB1.out.alloc HB1.out.size _⟩
  have HE : Hid (treeB ws = treeL (leavesW ws)) := by show _ = _; unfold treeB; rw [hok]; rfl
  have HBD := Lib.hid (treeW_bd ws)
  rw [hok] at HC
  clear hok
  have hmk : ∀ w : World, (Instr.makeSlice 24 (.int .i64 15) (.int .i64 15)).run Tryd.prog w = .ok (.slice (some ⟨w.heap.size, 0, none⟩) 15 15) (w.alloc (.cells (madeCells #[.int .i64 0] 15) 3)) := run_make_ints 15 (by omega)
  generalize leavesW ws = F at *
  go_enter Tryd.func48, Tryd.ntmps48
  go_wp2_with fail
  refine (HC.out _ (Below.refl _ _)).mono ?_
  rintro e w1 ⟨rfl, hb⟩
  have HB1 := Lib.hid hb
  have hsz : w.heap.size ≤ w1.heap.size := hb.size
  clear hb HC
  go_wp2
  clear hmk
  go_loopw [4] (fun i wr => ∃ k : Nat, k ≤ 8 ∧ i = .int .i64 k ∧ Hid (wr.rowIs w1.heap.size 3 15 (fillA F k)) ∧ Hid (Below w.heap.size w wr)) (fun i _ => 8 - (intOf i).toNat)
  case atStart => exact ⟨0, Nat.zero_le _, rfl, rowZ_start _ _ _, HB1.out.alloc HB1.out.size _⟩
  case round =>
    clear HB1
    obtain ⟨k, hk, rfl, HR, HB⟩ := hrel
    by_cases hk' : k < 8
    · have i1 : (0 : Int) ≤ (k : Int) := by omega
      have i2 : (k : Int) < 8 := by omega
      have e7 : (7 + (k : Int)).toNat = 7 + k := by omega
      have HS : Hid (∀ w2 : World, w2.rowIs w1.heap.size 3 15 (fillA F k) → (w2.setCell ⟨w1.heap.size, 7 + k, none⟩ (.int .i64 (F k))).rowIs w1.heap.size 3 15 (fillA F (k + 1))) := fun w2 h2 => (h2.set _ _).congr (fun j _ => fillA_step F k j)
      go_wp2_with fail
      refine (HLF.out _ HB.out k).mono ?_
      rintro e w2 ⟨rfl, hb⟩
      have HR2 := Lib.hid (rowIs_below HR.out hb)
      have HB2 := Lib.hid (below_step HB.out HB.out.size hb)
      clear hb HR HB
      have c0 := HR2.out.cell (i := 7 + k) (by omega)
      have fz := HR2.out.frozen
      generalize F k = z at *
      go_wp2
      exact ⟨⟨k + 1, by omega, by go_num, HS.out _ HR2.out, HB2.out.setCell (p := ⟨w1.heap.size, 7 + k, none⟩) hsz _⟩, by simp [intOf]; omega⟩
    · have hkk : k = 8 := by omega
      subst hkk
      have HR7 : Hid (wr.rowIs w1.heap.size 3 15 (fillB F 7)) := HR.out.congr (fun j hj => fillB_start F j hj)
      clear HR HLF
      have e8 : ((8 : Nat) : Int) = 8 := rfl
      rw [e8]
      clear e8
      go_wp2
      go_loopw [5] (fun i wq => ∃ p : Nat, p ≤ 7 ∧ i = .int .i64 ((p : Int) - 1) ∧ Hid (wq.rowIs w1.heap.size 3 15 (fillB F p)) ∧ Hid (Below w.heap.size w wq)) (fun i _ => (intOf i + 1).toNat)
      case atStart => exact ⟨7, by omega, rfl, HR7, HB⟩
      case round =>
        clear HR7 HB
        obtain ⟨p, hp, rfl, HR, HB⟩ := hrel
        by_cases hp' : p = 0
        · subst hp'
          have HF : Hid (OwnI wr w.heap.size wr.heap.size (some ⟨w1.heap.size, 0, none⟩) (treeL F)) := rowT_own HR.out hsz HR.out.lt
          go_wp2
          go_ret
          exact ⟨_, _, by rw [HE.out, treeL_len]; rfl, by rw [HE.out]; exact HF.out, HB.out⟩
        · obtain ⟨q, rfl⟩ : ∃ q, p = q + 1 := ⟨p - 1, by omega⟩
          have eq : ((q + 1 : Nat) : Int) - 1 = (q : Int) := by omega
          rw [eq]
          have i1 : (0 : Int) ≤ (q : Int) := by omega
          have i2 : (q : Int) < 7 := by omega
          have i5 : (q : Int) < 15 := by omega
          have m0 : IntKind.i64.wrap (2 * (q : Int)) = 2 * (q : Int) := wrap_small _ (by omega) (by omega)
          have m1 : IntKind.i64.wrap (2 * (q : Int) + 1) = 2 * (q : Int) + 1 := wrap_small _ (by omega) (by omega)
          have m2 : IntKind.i64.wrap (2 * (q : Int) + 2) = 2 * (q : Int) + 2 := wrap_small _ (by omega) (by omega)
          have n1 : (2 * (q : Int) + 1).toNat = 2 * q + 1 := by omega
          have n2 : (2 * (q : Int) + 2).toNat = 2 * q + 2 := by omega
          have i3 : (0 : Int) ≤ 2 * (q : Int) + 1 ∧ 2 * (q : Int) + 1 < 15 := by omega
          have i4 : (0 : Int) ≤ 2 * (q : Int) + 2 ∧ 2 * (q : Int) + 2 < 15 := by omega
          have b1 := HBD.out (2 * q + 1)
          have b2 := HBD.out (2 * q + 2)
          have HN : Hid (nodeH (tr F (2 * q + 1)) (tr F (2 * q + 2)) = tr F q) := (tr_node F (by omega)).symm
          have HC : Hid (∀ w', Below wr.heap.size wr w' → w'.cell? ⟨w1.heap.size, 2 * q + 1, none⟩ = some (.int .i64 (tr F (2 * q + 1))) ∧ w'.cell? ⟨w1.heap.size, 2 * q + 2, none⟩ = some (.int .i64 (tr F (2 * q + 2)))) := fun w' hb => by
            have hr := rowIs_below HR.out hb
            have r1 := hr.cell (i := 2 * q + 1) (by omega)
            have r2 := hr.cell (i := 2 * q + 2) (by omega)
            rw [fillB, if_pos (by omega)] at r1 r2
            exact ⟨r1, r2⟩
          have HS : Hid (∀ w2 : World, w2.rowIs w1.heap.size 3 15 (fillB F (q + 1)) → (w2.setCell ⟨w1.heap.size, q, none⟩ (.int .i64 (tr F q))).rowIs w1.heap.size 3 15 (fillB F q)) := fun w2 h2 => (h2.set _ _).congr (fun j _ => fillB_step F q j)
          generalize tr F (2 * q + 1) = x at *
          generalize tr F (2 * q + 2) = y at *
          generalize tr F q = z at *
          have z1 : (⟨(Lib.itoa x).toArray⟩ : ByteArray).size ≤ 21 := by
            have := Lib.itoa_length_le x (by omega) (by omega)
            simpa [ByteArray.size] using this
          have z2 : (⟨(Lib.itoa y).toArray⟩ : ByteArray).size ≤ 21 := by
            have := Lib.itoa_length_le y (by omega) (by omega)
            simpa [ByteArray.size] using this
          have HTX := Lib.hid (node_text x y)
          have HNX : Hid (∀ w', Calls Tryd.prog 37 #[.int .i64 x] w' fun e w'' => e = .returned (.string ⟨(Lib.itoa x).toArray⟩) ∧ Below w'.heap.size w' w'') := fun w' => specNum x w' (by omega) (by omega)
          have HNY : Hid (∀ w', Calls Tryd.prog 37 #[.int .i64 y] w' fun e w'' => e = .returned (.string ⟨(Lib.itoa y).toArray⟩) ∧ Below w'.heap.size w' w'') := fun w' => specNum y w' (by omega) (by omega)
          have HHS : Hid (∀ (t : ByteArray) (w' : World), t = (⟨(Lib.itoa x).toArray⟩ : ByteArray) ++ ⟨#[32]⟩ ++ ⟨(Lib.itoa y).toArray⟩ → t.size ≤ 100 → Calls Tryd.prog 36 #[.string t] w' fun e w'' => e = .returned (.int .i64 z) ∧ w'' = w') := fun t w' ht hz => by
            have := specHash_any t w' (by omega)
            have e : hashL t.data.toList = z := by rw [ht, HTX.out, str_bytes, ← HN.out]; rfl
            rwa [e] at this
          generalize (⟨(Lib.itoa x).toArray⟩ : ByteArray) = tx at *
          generalize (⟨(Lib.itoa y).toArray⟩ : ByteArray) = ty at *
          have z3 : (tx ++ ⟨#[32]⟩).size ≤ 22 := by
            rw [ByteArray.size_append]
            have : (⟨#[32]⟩ : ByteArray).size = 1 := rfl
            omega
          have z4 : (tx ++ ⟨#[32]⟩ ++ ty).size ≤ 43 := by
            rw [ByteArray.size_append]
            omega
          go_wp2_with fail
          refine wp_region_slots 20 [[(3, false)], [(5, false)], [(3, false)], [(5, false)], [(29, true)], [(30, true)], [(28, true), (31, true)], [(32, true)], [(33, true)], [(34, true)], [(3, false)], [(5, false)], [(37, true)], [(38, true)], [(36, true), (39, true)], [(40, true)], [(41, true)], [(35, true), (42, true)], [(43, true)], [(26, true), (27, true)]] (fun w' => Below wr.heap.size wr w') (fun w w' => Below w.heap.size w w') (by kernel_rfl) (by kernel_rfl) (by rfl) ((Below.refl _ _).drew) (fun _ _ h hb => below_step h h.size hb) ?_
          iterate 8 (apply slot_eq; · (intro ρ w' ⟨p1, p2, p3⟩ hbl hn; obtain ⟨c1, c2⟩ := HC.out w' hbl; simp at hn; go_simp; exact ⟨Below.refl _ _, rfl⟩))
          apply slot_eq
          · intro ρ w' ⟨p1, p2, p3⟩ hbl hn
            simp at hn
            go_simp
            exact got_call (HNX.out w') fun e w'' ⟨he, hb⟩ => ⟨_, he, hb, rfl⟩
          apply slot_eq
          · intro ρ w' ⟨p1, p2, p3⟩ hbl hn
            simp at hn
            go_simp
            rw [if_neg (by omega)]
            exact ⟨Below.refl _ _, rfl⟩
          iterate 6 (apply slot_eq; · (intro ρ w' ⟨p1, p2, p3⟩ hbl hn; obtain ⟨c1, c2⟩ := HC.out w' hbl; simp at hn; go_simp; exact ⟨Below.refl _ _, rfl⟩))
          apply slot_eq
          · intro ρ w' ⟨p1, p2, p3⟩ hbl hn
            simp at hn
            go_simp
            exact got_call (HNY.out w') fun e w'' ⟨he, hb⟩ => ⟨_, he, hb, rfl⟩
          apply slot_eq
          · intro ρ w' ⟨p1, p2, p3⟩ hbl hn
            simp at hn
            obtain ⟨e1, e2⟩ := hn
            go_simp
            rw [if_neg (by omega)]
            exact ⟨Below.refl _ _, rfl⟩
          apply slot_eq
          · intro ρ w' ⟨p1, p2, p3⟩ hbl hn
            simp at hn
            go_simp
            exact got_call (HHS.out _ w' rfl (by omega)) fun e w'' ⟨he, hb⟩ => ⟨_, he, by rw [hb]; exact Below.refl _ _, rfl⟩
          apply slot_eq
          · intro ρ w' ⟨p1, p2, p3⟩ hbl hn
            simp at hn
            obtain ⟨e1, e2⟩ := hn
            go_simp
            exact ⟨Below.refl _ _, rfl⟩
          refine slot_end ?_
          intro vs w3 hS hF
          simp at hF
          obtain ⟨h45, h44, -⟩ := hF
          have HR3 := Lib.hid (rowIs_below HR.out hS)
          have HB3 := Lib.hid (below_step HB.out HB.out.size hS)
          clear hS
          have c0 := HR3.out.cell (i := q) (by omega)
          have fz := HR3.out.frozen
          simp only [List.take_succ_cons, List.take_zero, List.drop_succ_cons, List.drop_zero, putAll, h45, h44]
          clear h45 h44
          go_wp2
          exact ⟨⟨q, by omega, by go_num, HS.out _ HR3.out, HB3.out.setCell (p := ⟨w1.heap.size, q, none⟩) hsz _⟩, by simp [intOf]⟩

end Go.Proofs.YtidpcjcnhklmpacDoor

/- Marks: what markWriteS writes, heldWriteS finds. -/
namespace Go.Proofs.YtidpcjcnhklmpacDoor
open Go.ChangeShapes Go.WideShapes Go.ChangeAt Go.RowKit Go.Joins
attribute [local go_sem ↓] Go.wp_at_zero Go.wp_at_succ

/-- The number that write i's marks begin with. -/
def markK (ws : List Wr) (k : Int) (i : Nat) : Int := k + 6 * i + 4 * bulk (ws.take i)

theorem markK_zero (ws : List Wr) (k : Int) : markK ws k 0 = k := by simp [markK, bulk]

theorem markK_next (ws : List Wr) (k : Int) (i : Nat) (h : i < ws.length) : markK ws k (i + 1) = markK ws k i + 6 + 4 * (ws.getD i wz).xs.length := by
  unfold markK
  rw [bulk_take ws i h]
  push_cast
  omega

theorem bulk_take_le (ws : List Wr) (i : Nat) : bulk (ws.take i) ≤ bulk ws := by
  induction ws generalizing i with
  | nil => simp
  | cons x r ih =>
    cases i with
    | zero => simp [bulk]
    | succ i =>
      have := ih i
      simp only [List.take_succ_cons, bulk]
      omega

theorem markK_bounds (ws : List Wr) (k : Int) (i : Nat) (h0 : 0 ≤ k) (h1 : k ≤ 1073741824) (hi : i ≤ 1048576) (hb : bulk ws ≤ 1048576) : 0 ≤ markK ws k i ∧ markK ws k i ≤ 1099511627000 := by
  have := bulk_take_le ws i
  unfold markK
  omega

/-- Cell o of a marked row; f: what was there. -/
def mkCell (ws : List Wr) (k : Int) (f : Nat → Value) (o : Nat) : Value :=
  if o % 7 < 5 then .int .i64 (markK ws k (o / 7) + (o % 7 : Nat)) else if o % 7 = 5 then .bool ((markK ws k (o / 7) + 1 + 1 + 1 + 1 + 1) % 3 == 0) else f o

theorem mkCell_int (ws : List Wr) (k : Int) (f : Nat → Value) (j o c : Nat) (ho : o = j * 7 + c) (hc : c < 5) (z : Int) (hz : z = markK ws k j + c) : Value.int .i64 z = mkCell ws k f o := by
  subst ho
  unfold mkCell
  have e1 : (j * 7 + c) % 7 = c := by omega
  have e2 : (j * 7 + c) / 7 = j := by omega
  rw [e1, e2, if_pos hc, hz]

theorem mk_step (ws : List Wr) (k : Int) (f : Nat → Value) (j o : Nat) :
    (if o = j * 7 + 5 then Value.bool ((markK ws k j + 1 + 1 + 1 + 1 + 1) % 3 == 0) else if o = j * 7 + 4 then Value.int .i64 (markK ws k j + 1 + 1 + 1 + 1) else if o = j * 7 + 1 + 2 then Value.int .i64 (markK ws k j + 1 + 1 + 1) else if o = j * 7 + 1 + 1 then Value.int .i64 (markK ws k j + 1 + 1) else if o = j * 7 + 1 then Value.int .i64 (markK ws k j + 1) else if o = j * 7 then Value.int .i64 (markK ws k j) else if o < j * 7 then mkCell ws k f o else f o) = (if o < (j + 1) * 7 then mkCell ws k f o else f o) := by
  by_cases h5 : o = j * 7 + 5
  · rw [if_pos h5, if_pos (by omega), h5]
    unfold mkCell
    rw [if_neg (by omega), if_pos (by omega), show (j * 7 + 5) / 7 = j by omega]
  rw [if_neg h5]
  by_cases h4 : o = j * 7 + 4
  · rw [if_pos h4, if_pos (by omega)]
    exact mkCell_int ws k f j o 4 h4 (by omega) _ (by omega)
  rw [if_neg h4]
  by_cases h3 : o = j * 7 + 1 + 2
  · rw [if_pos h3, if_pos (by omega)]
    exact mkCell_int ws k f j o 3 (by omega) (by omega) _ (by omega)
  rw [if_neg h3]
  by_cases h2 : o = j * 7 + 1 + 1
  · rw [if_pos h2, if_pos (by omega)]
    exact mkCell_int ws k f j o 2 (by omega) (by omega) _ (by omega)
  rw [if_neg h2]
  by_cases h1 : o = j * 7 + 1
  · rw [if_pos h1, if_pos (by omega)]
    exact mkCell_int ws k f j o 1 (by omega) (by omega) _ (by omega)
  rw [if_neg h1]
  by_cases h0 : o = j * 7
  · rw [if_pos h0, if_pos (by omega)]
    exact mkCell_int ws k f j o 0 (by omega) (by omega) _ (by omega)
  rw [if_neg h0]
  by_cases hl : o < j * 7
  · rw [if_pos hl, if_pos (by omega)]
  · rw [if_neg hl]
    by_cases h6 : o < (j + 1) * 7
    · rw [if_pos h6]
      unfold mkCell
      rw [if_neg (by omega), if_neg (by omega)]
    · rw [if_neg h6]

abbrev mark6 (w : World) (b o : Nat) (m : Int) : World :=
  (((((w.setCell ⟨b, o, none⟩ (.int .i64 m)).setCell ⟨b, o + 1, none⟩ (.int .i64 (m + 1))).setCell ⟨b, o + 1 + 1, none⟩ (.int .i64 (m + 1 + 1))).setCell ⟨b, o + 1 + 2, none⟩ (.int .i64 (m + 1 + 1 + 1))).setCell ⟨b, o + 4, none⟩ (.int .i64 (m + 1 + 1 + 1 + 1))).setCell ⟨b, o + 5, none⟩ (.bool ((m + 1 + 1 + 1 + 1 + 1) % 3 == 0))

theorem mark6_block (w : World) (b o : Nat) (m : Int) {g : Nat} (hg : g ≠ b) : (mark6 w b o m).heap[g]? = w.heap[g]? := by
  unfold mark6
  simp only [Below.heap_setCell _ _ _ _ (show g ≠ (⟨b, _, none⟩ : Addr).block from hg)]

/-- Writes of one's own, from block number base on: the row's block and, where there are some, those of the dependencies, all apart, none of them shut. -/
structure OwnG (w : World) (base b : Nat) (ws : List Wr) (γ : Nat → Nat) : Prop where
  lt : b < w.heap.size
  le : base ≤ b
  open_ : ∀ o, w.frozen? ⟨b, o, none⟩ = false
  at_ : ∀ i, i < ws.length → ∃ a cap, WrAt w b (i * 7) (ws.getD i wz) a cap ∧ (0 < (ws.getD i wz).xs.length → a = some ⟨γ i, 0, none⟩)
  deps : ∀ i, i < ws.length → 0 < (ws.getD i wz).xs.length → base ≤ γ i ∧ γ i < w.heap.size ∧ γ i ≠ b ∧ HoldsDeps w (γ i) 0 (ws.getD i wz).xs ∧ ∀ o, w.frozen? ⟨γ i, o, none⟩ = false
  inj : ∀ i j, i < ws.length → j < ws.length → 0 < (ws.getD i wz).xs.length → 0 < (ws.getD j wz).xs.length → γ i = γ j → i = j

theorem OwnWs.gen {w : World} {base b : Nat} {ws : List Wr} {γ : Nat → Nat} (h : OwnWs w base b ws γ) : OwnG w base b ws γ where
  lt := h.holds.1
  le := h.le
  open_ := h.open_
  at_ := fun i hi => by
    obtain ⟨⟨cap, h1⟩, _, _⟩ := h.holds.2 i hi
    exact ⟨_, cap, h1, fun _ => rfl⟩
  deps := fun i hi _ => ⟨(h.deps i hi).1, (h.holds.2 i hi).2.1, (h.deps i hi).2.1, (h.holds.2 i hi).2.2, (h.deps i hi).2.2⟩
  inj := fun i j hi hj _ _ e => h.inj i j hi hj e

theorem OwnG.below {w w' : World} {base b : Nat} {ws : List Wr} {γ : Nat → Nat} (h : OwnG w base b ws γ) (hb : Below w.heap.size w w') : OwnG w' base b ws γ where
  lt := Nat.lt_of_lt_of_le h.lt hb.size
  le := h.le
  open_ := fun o => (hb.frozen (p := ⟨b, o, none⟩) h.lt).trans (h.open_ o)
  at_ := fun i hi => by
    obtain ⟨a, cap, h1, h2⟩ := h.at_ i hi
    exact ⟨a, cap, h1.of_block (hb.block _ h.lt), h2⟩
  deps := fun i hi hp => by
    obtain ⟨h1, h2, h3, h4, h5⟩ := h.deps i hi hp
    exact ⟨h1, Nat.lt_of_lt_of_le h2 hb.size, h3, h4.below hb h2, fun o => (hb.frozen (p := ⟨γ i, o, none⟩) h2).trans (h5 o)⟩
  inj := h.inj

theorem OwnG.isWs {w : World} {base b : Nat} {ws : List Wr} {γ : Nat → Nat} (h : OwnG w base b ws γ) (hx : Few ws) : IsWs w (some ⟨b, 0, none⟩) ws := by
  refine .inr ⟨b, 0, rfl, h.lt, fun i hi => ?_⟩
  obtain ⟨a, cap, h1, h2⟩ := h.at_ i hi
  refine ⟨a, cap, by rw [Nat.zero_add]; exact h1, by have := hx i hi; unfold maxLen; omega, ?_⟩
  by_cases hp : 0 < (ws.getD i wz).xs.length
  · exact .inr ⟨_, _, h2 hp, (h.deps i hi hp).2.1, (h.deps i hi hp).2.2.2.1⟩
  · exact .inl (List.length_eq_zero_iff.1 (by omega))

/-- The blocks that a row of writes takes up. -/
def TakenUp (b : Nat) (ws : List Wr) (γ : Nat → Nat) (x : Nat) : Prop := x = b ∨ ∃ i, i < ws.length ∧ 0 < (ws.getD i wz).xs.length ∧ x = γ i

/-- While a row is being marked: of its writes the first j are. -/
structure MarkInv (w wr : World) (b : Nat) (ws : List Wr) (γ : Nat → Nat) (k : Int) (f : Nat → Value) (j : Nat) : Prop where
  row : CellsAre wr b (ws.length * 7) (fun o => if o < j * 7 then mkCell ws k f o else f o)
  deps : ∀ i, i < ws.length → 0 < (ws.getD i wz).xs.length → CellsAre wr (γ i) ((ws.getD i wz).xs.length * 4) (fun o => if i < j then markFn (markK ws k i + 1 + 1 + 1 + 1 + 1 + 1) o else .int .i64 (depCell (ws.getD i wz).xs o))
  only : Only (TakenUp b ws γ) w wr

theorem markInv_round {w wr w2 : World} {base b : Nat} {ws : List Wr} {γ : Nat → Nat} {k : Int} {f : Nat → Value} {j : Nat} (hO : OwnG w base b ws γ) (hj : j < ws.length) (h : MarkInv w wr b ws γ k f j)
    (h2 : CellsAre w2 (γ j) ((ws.getD j wz).xs.length * 4) (markFn (markK ws k j + 1 + 1 + 1 + 1 + 1 + 1))) (h3 : Only (fun x => 0 < (ws.getD j wz).xs.length ∧ x = γ j) (mark6 wr b (j * 7) (markK ws k j)) w2) : MarkInv w w2 b ws γ k f (j + 1) where
  row := by
    have h6 : CellsAre (mark6 wr b (j * 7) (markK ws k j)) b (ws.length * 7) (fun o => if o < (j + 1) * 7 then mkCell ws k f o else f o) :=
      ((((((h.row.set (by omega) _).set (by omega) _).set (by omega) _).set (by omega) _).set (by omega) _).set (by omega) _).congr (fun o _ => mk_step ws k f j o)
    exact h6.of_block (h3.block b (fun e => (hO.deps j hj e.1).2.2.1 e.2.symm))
  deps := by
    intro i hi hp
    by_cases hij : i = j
    · subst hij
      exact h2.congr (fun o _ => by rw [if_pos (by omega)])
    · have e : ¬ (0 < (ws.getD j wz).xs.length ∧ γ i = γ j) := fun e => hij (hO.inj i j hi hj hp e.1 e.2)
      refine ((h.deps i hi hp).of_block ((h3.block (γ i) e).trans (mark6_block _ _ _ _ (hO.deps i hi hp).2.2.1))).congr (fun o _ => ?_)
      by_cases hl : i < j
      · rw [if_pos hl, if_pos (by omega)]
      · rw [if_neg hl, if_neg (by omega)]
  only := by
    refine Only.trans ((((((h.only.set (.inl rfl) _ _).set (.inl rfl) _ _).set (.inl rfl) _ _).set (.inl rfl) _ _).set (.inl rfl) _ _).set (.inl rfl) _ _) h3 fun x hx => .inr ⟨j, hj, hx.1, hx.2⟩

theorem markInv_start {w : World} {base b : Nat} {ws : List Wr} {γ : Nat → Nat} (k : Int) (hO : OwnG w base b ws γ) : MarkInv w w b ws γ k (fun o => (w.cell? ⟨b, o, none⟩).getD undef) 0 where
  row := by
    intro o ho
    dsimp only
    rw [if_neg (by omega)]
    obtain ⟨a, cap, ⟨h0, h1, h2, h3, h4, h5, h6⟩, _⟩ := hO.at_ (o / 7) (by omega)
    have h7 : o % 7 = 0 ∨ o % 7 = 1 ∨ o % 7 = 2 ∨ o % 7 = 3 ∨ o % 7 = 4 ∨ o % 7 = 5 ∨ o % 7 = 6 := by omega
    have hx : ∃ v, w.cell? ⟨b, o, none⟩ = some v := by
      rcases h7 with e | e | e | e | e | e | e
      · exact ⟨_, by rw [show o = o / 7 * 7 by omega]; exact h0⟩
      · exact ⟨_, by rw [show o = o / 7 * 7 + 1 by omega]; exact h1⟩
      · exact ⟨_, by rw [show o = o / 7 * 7 + 2 by omega]; exact h2⟩
      · exact ⟨_, by rw [show o = o / 7 * 7 + 3 by omega]; exact h3⟩
      · exact ⟨_, by rw [show o = o / 7 * 7 + 4 by omega]; exact h4⟩
      · exact ⟨_, by rw [show o = o / 7 * 7 + 5 by omega]; exact h5⟩
      · exact ⟨_, by rw [show o = o / 7 * 7 + 6 by omega]; exact h6⟩
    obtain ⟨v, hv⟩ := hx
    simp [hv]
  deps := by
    intro i hi hp o ho
    dsimp only
    rw [if_neg (by omega)]
    have := holds_cells (hO.deps i hi hp).2.2.2.1 ho
    rwa [Nat.zero_add] at this
  only := Only.refl _ _

theorem markInv_slice {w wr : World} {base b : Nat} {ws : List Wr} {γ : Nat → Nat} {k : Int} {j i : Nat} (hO : OwnG w base b ws γ) (h : MarkInv w wr b ws γ k (fun o => (w.cell? ⟨b, o, none⟩).getD undef) j) (hi : i < ws.length) :
    ∃ a cp, wr.cell? ⟨b, i * 7 + 6, none⟩ = some (.slice a (ws.getD i wz).xs.length cp) ∧ (0 < (ws.getD i wz).xs.length → a = some ⟨γ i, 0, none⟩) := by
  obtain ⟨a, cap, ⟨_, _, _, _, _, _, h6⟩, ha⟩ := hO.at_ i hi
  refine ⟨a, cap, ?_, ha⟩
  rw [h.row (i * 7 + 6) (by omega)]
  have e : mkCell ws k (fun o => (w.cell? ⟨b, o, none⟩).getD undef) (i * 7 + 6) = (w.cell? ⟨b, i * 7 + 6, none⟩).getD undef := by
    unfold mkCell
    rw [if_neg (by omega), if_neg (by omega)]
  simp only [e, ite_self, h6]
  rfl

/-- A row of writes that is marked, from k on. -/
def MarkedWs (w : World) (b : Nat) (ws : List Wr) (γ : Nat → Nat) (k : Int) : Prop :=
  ∀ i, i < ws.length → (w.cell? ⟨b, i * 7, none⟩ = some (.int .i64 (markK ws k i)) ∧ w.cell? ⟨b, i * 7 + 1, none⟩ = some (.int .i64 (markK ws k i + 1)) ∧ w.cell? ⟨b, i * 7 + 1 + 1, none⟩ = some (.int .i64 (markK ws k i + 1 + 1)) ∧ w.cell? ⟨b, i * 7 + 1 + 2, none⟩ = some (.int .i64 (markK ws k i + 1 + 1 + 1)) ∧
    w.cell? ⟨b, i * 7 + 4, none⟩ = some (.int .i64 (markK ws k i + 1 + 1 + 1 + 1)) ∧ w.cell? ⟨b, i * 7 + 5, none⟩ = some (.bool ((markK ws k i + 1 + 1 + 1 + 1 + 1) % 3 == 0)) ∧ ∃ a cp, w.cell? ⟨b, i * 7 + 6, none⟩ = some (.slice a (ws.getD i wz).xs.length cp) ∧ (0 < (ws.getD i wz).xs.length → a = some ⟨γ i, 0, none⟩)) ∧
    (0 < (ws.getD i wz).xs.length → CellsAre w (γ i) ((ws.getD i wz).xs.length * 4) (markFn (markK ws k i + 1 + 1 + 1 + 1 + 1 + 1)))

theorem MarkedWs.below {w w' : World} {b : Nat} {ws : List Wr} {γ : Nat → Nat} {k : Int} {B : Nat} (h : MarkedWs w b ws γ k) (hb : Below B w w') (h1 : b < B) (h2 : ∀ i, i < ws.length → 0 < (ws.getD i wz).xs.length → γ i < B) : MarkedWs w' b ws γ k := by
  intro i hi
  obtain ⟨⟨e0, e1, e2, e3, e4, e5, a, cp, e6, e7⟩, hd⟩ := h i hi
  have c : ∀ o, w'.cell? ⟨b, o, none⟩ = w.cell? ⟨b, o, none⟩ := fun o => hb.cell (p := ⟨b, o, none⟩) h1
  exact ⟨⟨(c _).trans e0, (c _).trans e1, (c _).trans e2, (c _).trans e3, (c _).trans e4, (c _).trans e5, a, cp, (c _).trans e6, e7⟩, fun hp => (hd hp).of_block (hb.block _ (h2 i hi hp))⟩

theorem markInv_end {w wr : World} {base b : Nat} {ws : List Wr} {γ : Nat → Nat} {k : Int} (hO : OwnG w base b ws γ) (h : MarkInv w wr b ws γ k (fun o => (w.cell? ⟨b, o, none⟩).getD undef) ws.length) : MarkedWs wr b ws γ k := by
  intro i hi
  have r : ∀ c, c < 7 → wr.cell? ⟨b, i * 7 + c, none⟩ = some (mkCell ws k (fun o => (w.cell? ⟨b, o, none⟩).getD undef) (i * 7 + c)) := fun c hc => by
    rw [h.row _ (by omega)]
    dsimp only
    rw [if_pos (by omega)]
  refine ⟨⟨?_, ?_, ?_, ?_, ?_, ?_, markInv_slice hO h hi⟩, fun hp => (h.deps i hi hp).congr (fun o _ => by rw [if_pos hi])⟩
  · rw [show i * 7 = i * 7 + 0 from rfl, r 0 (by omega), mkCell_int ws k _ i (i * 7 + 0) 0 rfl (by omega) (markK ws k i) (by omega)]
  · rw [r 1 (by omega), mkCell_int ws k _ i (i * 7 + 1) 1 rfl (by omega) (markK ws k i + 1) (by omega)]
  · rw [show i * 7 + 1 + 1 = i * 7 + 2 from rfl, r 2 (by omega), mkCell_int ws k _ i (i * 7 + 2) 2 rfl (by omega) (markK ws k i + 1 + 1) (by omega)]
  · rw [show i * 7 + 1 + 2 = i * 7 + 3 from rfl, r 3 (by omega), mkCell_int ws k _ i (i * 7 + 3) 3 rfl (by omega) (markK ws k i + 1 + 1 + 1) (by omega)]
  · rw [r 4 (by omega), mkCell_int ws k _ i (i * 7 + 4) 4 rfl (by omega) (markK ws k i + 1 + 1 + 1 + 1) (by omega)]
  · rw [r 5 (by omega)]
    unfold mkCell
    rw [if_neg (by omega), if_pos (by omega), show (i * 7 + 5) / 7 = i by omega]

end Go.Proofs.YtidpcjcnhklmpacDoor
