/- A write's text, read back: plain facts. -/
import Derived.Test.YtlbcpppmpbbkdalDoorWordsP
import Derived.Test.YtlbcpppmpbbkdalDoorRWords
import Derived.Test.YtlbcpppmpbbkdalDoorMaps
namespace Go.Proofs.YtlbcpppmpbbkdalDoor
open Go.ChangeShapes Go.WideShapes Go.ChangeAt Go.RowKit Go.Joins

def okR (x : Wr) : Bool := writeOkB x.k x.c x.s x.q x.v x.de x.xs

def textR (x : Wr) : List UInt8 := writeText x.k x.c x.s x.q x.v x.de x.xs

/-- The numbers of a write's text. -/
def nsR (x : Wr) : List Int := headNs x.k x.c x.s x.q x.v x.de x.xs.length ++ x.xs.flatMap depNs

/-- The text of a write that is WriteOk. -/
def IsText (bs : List UInt8) (x : Wr) : Prop := okR x = true ∧ textR x = bs

def Rng (n : Int) : Prop := -100000000000 < n ∧ n < 100000000000

theorem glue_words (ns : List Int) : glue (wordsOf ns) = 119 :: numsText ns ++ [32] := by
  have h : ∀ ns : List Int, (ns.map fun n => str (Lib.itoa n)).flatMap (fun x => x.data.toList ++ [32]) = (numsText ns ++ [32]).drop 1 ∨ ns = [] := by
    intro ns
    induction ns with
    | nil => exact .inr rfl
    | cons n r ih =>
      refine .inl ?_
      rcases ih with ih | rfl
      · cases r with
        | nil => simp [numsText, str]
        | cons m r =>
          rw [List.map_cons, List.flatMap_cons, ih]
          simp [numsText, str]
      · simp [numsText, str]
  unfold glue wordsOf
  rw [List.flatMap_cons]
  rcases h ns with h1 | rfl
  · cases ns with
    | nil => simp [numsText, str]
    | cons n r =>
      rw [h1]
      simp [numsText, str]
  · simp [numsText, str]

theorem text_glue {x : Wr} (h : okR x = true) : glue (wordsOf (nsR x)) = textR x ++ [32] := by
  rw [glue_words]
  unfold textR writeText nsR
  have h' : writeOkB x.k x.c x.s x.q x.v x.de x.xs = true := h
  rw [if_pos h', text_nums]

theorem no_blank_num {n : Int} (h : Rng n) : (32 : UInt8) ∉ Lib.itoa n := by
  obtain ⟨f1, _, _, _, f5, f6⟩ := itoa_parts h.1 h.2
  intro hm
  by_cases hn : n < 0
  · rw [f5 hn] at hm
    rcases List.mem_cons.1 hm with hm | hm
    · exact absurd hm (by decide)
    · exact absurd (f1 32 hm).1 (by decide)
  · rw [← f6 (by omega)] at hm
    exact absurd (f1 32 hm).1 (by decide)

theorem no_blank_words {ns : List Int} (h : ∀ n ∈ ns, Rng n) : NoBlank (wordsOf ns) := fun x hx => by
  unfold wordsOf at hx
  rcases List.mem_cons.1 hx with rfl | hx
  · simp [str]
  · obtain ⟨n, hn, rfl⟩ := List.mem_map.1 hx
    show (32 : UInt8) ∉ (Lib.itoa n).toArray.toList
    rw [List.toList_toArray]
    exact no_blank_num (h n hn)

theorem itoa_inj {m n : Int} (hm : Rng m) (hn : Rng n) (h : Lib.itoa m = Lib.itoa n) : m = n := by
  obtain ⟨f1, f2, _, _, f5, f6⟩ := itoa_parts hm.1 hm.2
  obtain ⟨g1, g2, _, _, g5, g6⟩ := itoa_parts hn.1 hn.2
  rw [h] at f1 f2 f5 f6
  have e : m.natAbs = n.natAbs := by rw [← f2, g2]
  by_cases h1 : m < 0
  · by_cases h2 : n < 0
    · omega
    · have := f5 h1
      rw [g6 (by omega)] at this
      have hl := congrArg List.length this
      simp at hl
  · by_cases h2 : n < 0
    · have := g5 h2
      rw [f6 (by omega)] at this
      have hl := congrArg List.length this
      simp at hl
    · omega

theorem str_inj {a b : List UInt8} (h : str a = str b) : a = b := by
  have := congrArg (fun x : ByteArray => x.data.toList) h
  simpa [str] using this

theorem map_itoa_inj : ∀ {ms ns : List Int}, (∀ n ∈ ms, Rng n) → (∀ n ∈ ns, Rng n) → (ms.map fun n => str (Lib.itoa n)) = (ns.map fun n => str (Lib.itoa n)) → ms = ns
  | [], [], _, _, _ => rfl
  | [], n :: ns, _, _, h => by simp at h
  | m :: ms, [], _, _, h => by simp at h
  | m :: ms, n :: ns, hm, hn, h => by
    simp only [List.map_cons, List.cons.injEq] at h
    rw [itoa_inj (hm m (by simp)) (hn n (by simp)) (str_inj h.1), map_itoa_inj (fun x hx => hm x (by simp [hx])) (fun x hx => hn x (by simp [hx])) h.2]

theorem words_are {bs : List UInt8} {x : Wr} {W : List ByteArray} (hx : IsText bs x) (hr : ∀ n ∈ nsR x, Rng n) (hW : NoBlank W) (hg : glue W = bs ++ [32]) : W = wordsOf (nsR x) := by
  refine glue_inj hW (no_blank_words hr) ?_
  rw [text_glue hx.1, hx.2, hg]

/-- Dependencies out of numbers. -/
def parseD : List Int → List Dp
  | k :: c :: s :: q :: r => ⟨k, c, s, q⟩ :: parseD r
  | _ => []

theorem parseD_back : ∀ xs : List Dp, parseD (xs.flatMap depNs) = xs
  | [] => rfl
  | d :: r => by
    show (⟨d.k, d.c, d.s, d.q⟩ : Dp) :: parseD (r.flatMap depNs) = d :: r
    rw [parseD_back r]

/-- The write that numbers say. -/
def parseW (zs : List Int) : Wr := ⟨zs.getD 0 0, zs.getD 1 0, zs.getD 2 0, zs.getD 3 0, zs.getD 4 0, zs.getD 5 0 == 1, parseD (zs.drop 7)⟩

theorem parse_back (x : Wr) : parseW (nsR x) = x := by
  obtain ⟨k, c, s, q, v, de, xs⟩ := x
  unfold parseW nsR headNs
  simp only [List.cons_append, List.nil_append, List.drop_succ_cons, List.drop_zero, parseD_back]
  simp only [List.getD_cons_zero, List.getD_cons_succ]
  congr 1
  cases de <;> rfl

theorem ns_len (x : Wr) : (nsR x).length = 7 + 4 * x.xs.length := by
  have h : ∀ xs : List Dp, (xs.flatMap depNs).length = 4 * xs.length := by
    intro xs
    induction xs with
    | nil => rfl
    | cons d r ih =>
      rw [List.flatMap_cons, List.length_append, ih]
      simp [depNs]
      omega
  unfold nsR
  rw [List.length_append, h]
  simp [headNs]

end Go.Proofs.YtlbcpppmpbbkdalDoor
