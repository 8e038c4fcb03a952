/- A write's text, read back: what a reader that reads word by word knows. -/
import Derived.Test.YtlbcpppmpbbkdalDoorRParse
namespace Go.Proofs.YtlbcpppmpbbkdalDoor
open Go.ChangeShapes Go.WideShapes Go.ChangeAt Go.RowKit Go.Joins

theorem depKey_ge {xs : List Dp} (h : depsOkB xs = true) : ∀ i, i < xs.length → (i : Int) ≤ (xs.getD i dz).k
  | 0, hi => by
    have := btw_bounds (dep_key h hi)
    simpa using this.1
  | i + 1, hi => by
    have ih := depKey_ge h i (by omega)
    unfold depsOkB at h
    have := List.all_eq_true.1 h (i + 1) (List.mem_range.2 hi)
    simp only [depGood, Bool.and_eq_true, decide_eq_true_eq] at this
    rcases this.2.2 with h1 | h1
    · omega
    · simp only [Nat.add_sub_cancel] at h1
      omega

theorem depR_len {xs : List Dp} (h : depsOkB xs = true) : xs.length ≤ 6 := by
  by_cases h0 : xs.length = 0
  · omega
  · have h1 := depKey_ge h (xs.length - 1) (by omega)
    have h2 := btw_bounds (dep_key h (show xs.length - 1 < xs.length by omega))
    omega

def Sml (n : Int) : Prop := -1000000 ≤ n ∧ n ≤ 1000000

theorem sml_of {n lo hi : Int} (h : btw n lo hi = true) (h0 : -1000000 ≤ lo) (h1 : hi ≤ 1000000) : Sml n := by
  have := btw_bounds h
  exact ⟨by omega, by omega⟩

theorem sml_tag {c s q : Int} (h : tagOkB c s q = true) : Sml c ∧ Sml s ∧ Sml q := by
  unfold tagOkB at h
  simp only [Bool.and_eq_true] at h
  exact ⟨sml_of h.1 (by omega) (by omega), sml_of h.2.1 (by omega) (by omega), sml_of h.2.2 (by omega) (by omega)⟩

theorem sml_ns {x : Wr} (h : okR x = true) : ∀ n ∈ nsR x, Sml n := by
  obtain ⟨k, c, s, q, v, de, xs⟩ := x
  obtain ⟨o1, o2, o3, o4, -⟩ := ok_parts h
  obtain ⟨t1, t2, t3⟩ := sml_tag o2
  have hl := depR_len o4
  simp only at hl
  intro n hn
  unfold nsR headNs at hn
  rcases List.mem_append.1 hn with hn | hn
  · simp only [List.mem_cons, List.not_mem_nil, or_false] at hn
    rcases hn with rfl | rfl | rfl | rfl | rfl | rfl | rfl
    · exact sml_of o1 (by omega) (by omega)
    · exact t1
    · exact t2
    · exact t3
    · exact sml_of (val_btw o3) (by omega) (by omega)
    · cases de <;> exact ⟨by decide, by decide⟩
    · exact ⟨by omega, by omega⟩
  · obtain ⟨d, hd, hn⟩ := List.mem_flatMap.1 hn
    obtain ⟨i, hi, rfl⟩ := List.mem_iff_getElem.1 hd
    have e : xs.getD i dz = xs[i] := by simp [List.getD, hi]
    have h1 := dep_key o4 hi
    have h2 := depsOk_tag o4 hi
    rw [e] at h1 h2
    obtain ⟨u1, u2, u3⟩ := sml_tag h2
    unfold depNs at hn
    simp only [List.mem_cons, List.not_mem_nil, or_false] at hn
    rcases hn with rfl | rfl | rfl | rfl
    · exact sml_of h1 (by omega) (by omega)
    · exact u1
    · exact u2
    · exact u3

theorem rng_ns {x : Wr} (h : okR x = true) : ∀ n ∈ nsR x, Rng n := fun n hn => by
  have := sml_ns h n hn
  exact ⟨by have := this.1; omega, by have := this.2; omega⟩

theorem itoa_short {n : Int} (h : Sml n) : (Lib.itoa n).length ≤ 8 := by
  obtain ⟨h0, h1⟩ := h
  have hu : n.natAbs < 10 ^ (6 + 1) := by
    have : (10 : Nat) ^ (6 + 1) = 10000000 := by decide
    omega
  have h2 := (dec_facts 6 n.natAbs hu).2.2.2
  unfold Lib.itoa
  split
  · simp
    omega
  · have e : n.toNat = n.natAbs := by omega
    rw [e]
    omega

theorem nums_short : ∀ {ns : List Int}, (∀ n ∈ ns, Sml n) → (numsText ns).length ≤ 9 * ns.length
  | [], _ => by simp [numsText]
  | n :: r, h => by
    have h1 := itoa_short (h n (by simp))
    have h2 := nums_short (ns := r) fun m hm => h m (by simp [hm])
    have e : numsText (n :: r) = (32 :: Lib.itoa n) ++ numsText r := by simp [numsText]
    rw [e, List.length_append, List.length_cons, List.length_cons]
    omega

/-- A word that is no numeral: the text is no write's. -/
theorem read_word {bs : List UInt8} {W : List ByteArray} (hW : NoBlank W) (hg : glue W = bs ++ [32]) {j : Nat} {y : ByteArray} (hj : W[j + 1]? = some y) {n : Int} (hs : NumSays y n false) (x : Wr) : ¬ IsText bs x := fun hx => by
  have hr := rng_ns hx.1
  have e := words_are hx hr hW hg
  rw [e] at hj
  simp only [wordsOf, List.getElem?_cons_succ, List.getElem?_map, Option.map_eq_some_iff] at hj
  obtain ⟨m, hm, rfl⟩ := hj
  have hmr := hr m (List.mem_of_getElem? hm)
  have := hs.2.2.2 m hmr.1 hmr.2 (by simp [str])
  simp at this

/-- All words are numerals: they are those of the write. -/
theorem read_all {bs : List UInt8} {W : List ByteArray} (hW : NoBlank W) (hg : glue W = bs ++ [32]) {zs : List Int} (hz : W.drop 1 = zs.map fun n => str (Lib.itoa n)) (hr : ∀ n ∈ zs, Rng n) {x : Wr} (hx : IsText bs x) : zs = nsR x := by
  have hr' := rng_ns hx.1
  have e := words_are hx hr' hW hg
  rw [e] at hz
  simp only [wordsOf, List.drop_succ_cons, List.drop_zero] at hz
  exact (map_itoa_inj hr' hr hz).symm

/-- Too few numbers, or not so many as dependencies ask: the text is no write's. -/
theorem read_count {bs : List UInt8} {W : List ByteArray} (hW : NoBlank W) (hg : glue W = bs ++ [32]) {zs : List Int} (hz : W.drop 1 = zs.map fun n => str (Lib.itoa n)) (hr : ∀ n ∈ zs, Rng n) (hc : zs.length < 7 ∨ zs.length % 4 ≠ 3) (x : Wr) : ¬ IsText bs x := fun hx => by
  have := read_all hW hg hz hr hx
  have hl := ns_len x
  rw [← this] at hl
  omega

/-- The write that the numbers say has another text: the text is no write's. -/
theorem read_other {bs : List UInt8} {W : List ByteArray} (hW : NoBlank W) (hg : glue W = bs ++ [32]) {zs : List Int} (hz : W.drop 1 = zs.map fun n => str (Lib.itoa n)) (hr : ∀ n ∈ zs, Rng n) (ho : textR (parseW zs) ≠ bs) (x : Wr) : ¬ IsText bs x := fun hx => by
  have := read_all hW hg hz hr hx
  rw [this, parse_back] at ho
  exact ho hx.2

theorem read_yes {bs : List UInt8} {x : Wr} (h : textR x = bs) (h0 : bs ≠ []) : IsText bs x := by
  refine ⟨?_, h⟩
  cases ho : okR x
  · exfalso
    unfold textR writeText at h
    have ho' : writeOkB x.k x.c x.s x.q x.v x.de x.xs = false := ho
    rw [ho'] at h
    exact h0 (by simpa using h.symm)
  · rfl

theorem text_is_one {bs : List UInt8} {x y : Wr} (hx : IsText bs x) (hy : IsText bs y) : x = y := by
  have e := words_are (W := wordsOf (nsR y)) hx (rng_ns hx.1) (no_blank_words (rng_ns hy.1)) (by rw [text_glue hy.1, hy.2])
  have h2 := map_itoa_inj (rng_ns hy.1) (rng_ns hx.1) (by simpa [wordsOf] using e)
  rw [← parse_back x, ← parse_back y, h2]

/-- A text of more than 400 bytes is no write's. -/
theorem text_len {bs : List UInt8} {x : Wr} (hx : IsText bs x) : bs.length ≤ 400 := by
  have h1 := nums_short (sml_ns hx.1)
  have h2 := ns_len x
  have h3 : x.xs.length ≤ 6 := depR_len (ok_parts hx.1).2.2.2.1
  have h4 := text_glue hx.1
  rw [glue_words, hx.2] at h4
  have h5 := congrArg List.length h4
  simp at h5
  omega

end Go.Proofs.YtlbcpppmpbbkdalDoor
