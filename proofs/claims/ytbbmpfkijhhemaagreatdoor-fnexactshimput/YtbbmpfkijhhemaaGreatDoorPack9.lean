import Derived.Test.YtbbmpfkijhhemaaGreatDoorPack8
import Derived.Test.YtbbmpfkijhhemaaGreatDoorPack2
import Derived.Test.YtbbmpfkijhhemaaGreatDoorPack1
import Derived.Lib.Hide
import Derived.Laws.BitsAllLaws
import Derived.Test.YtbbmpfkijhhemaaGreatDoorPack7
import Derived.Test.YtbbmpfkijhhemaaGreatDoorPack5
namespace Go.Proofs.YtbbmpfkijhhemaaGreatDoor
open Go.ChangeShapes Go.WideShapes Go.ChangeAt Go.RowKit Go.Joins

def okR (x : Wr) : Bool := writeOkB x.k x.c x.s x.q x.v x.de x.xs

def textR (x : Wr) : List UInt8 := writeText x.k x.c x.s x.q x.v x.de x.xs

def nsR (x : Wr) : List Int := headNs x.k x.c x.s x.q x.v x.de x.xs.length ++ x.xs.flatMap depNs

def IsText (bs : List UInt8) (x : Wr) : Prop := okR x = true ∧ textR x = bs

def Rng (n : Int) : Prop := -100000000000 < n ∧ n < 100000000000

theorem glue_words (ns : List Int) : glue (wordsOf ns) = 119 :: numsText ns ++ [32] := by
  have h : ∀ ns : List Int, (ns.map fun n => str (Lib.itoa n)).flatMap (fun x => x.data.toList ++ [32]) = (numsText ns ++ [32]).drop 1 ∨ ns = [] := by
    intro ns
    induction ns with
    | nil => exact .inr rfl
    | cons n r ih =>
      refine .inl ?_
      rcases ih with ih | rfl
      · cases r with
        | nil => simp [numsText, str]
        | cons m r =>
          rw [List.map_cons, List.flatMap_cons, ih]
          simp [numsText, str]
      · simp [numsText, str]
  unfold glue wordsOf
  rw [List.flatMap_cons]
  rcases h ns with h1 | rfl
  · cases ns with
    | nil => simp [numsText, str]
    | cons n r =>
      rw [h1]
      simp [numsText, str]
  · simp [numsText, str]

theorem text_glue {x : Wr} (h : okR x = true) : glue (wordsOf (nsR x)) = textR x ++ [32] := by
  rw [glue_words]
  unfold textR writeText nsR
  have h' : writeOkB x.k x.c x.s x.q x.v x.de x.xs = true := h
  rw [if_pos h', text_nums]

theorem no_blank_num {n : Int} (h : Rng n) : (32 : UInt8) ∉ Lib.itoa n := by
  obtain ⟨f1, _, _, _, f5, f6⟩ := itoa_parts h.1 h.2
  intro hm
  by_cases hn : n < 0
  · rw [f5 hn] at hm
    rcases List.mem_cons.1 hm with hm | hm
    · exact absurd hm (by decide)
    · exact absurd (f1 32 hm).1 (by decide)
  · rw [← f6 (by omega)] at hm
    exact absurd (f1 32 hm).1 (by decide)

theorem no_blank_words {ns : List Int} (h : ∀ n ∈ ns, Rng n) : NoBlank (wordsOf ns) := fun x hx => by
  unfold wordsOf at hx
  rcases List.mem_cons.1 hx with rfl | hx
  · simp [str]
  · obtain ⟨n, hn, rfl⟩ := List.mem_map.1 hx
    show (32 : UInt8) ∉ (Lib.itoa n).toArray.toList
    rw [List.toList_toArray]
    exact no_blank_num (h n hn)

theorem itoa_inj {m n : Int} (hm : Rng m) (hn : Rng n) (h : Lib.itoa m = Lib.itoa n) : m = n := by
  obtain ⟨f1, f2, _, _, f5, f6⟩ := itoa_parts hm.1 hm.2
  obtain ⟨g1, g2, _, _, g5, g6⟩ := itoa_parts hn.1 hn.2
  rw [h] at f1 f2 f5 f6
  have e : m.natAbs = n.natAbs := by rw [← f2, g2]
  by_cases h1 : m < 0
  · by_cases h2 : n < 0
    · omega
    · have := f5 h1
      rw [g6 (by omega)] at this
      have hl := congrArg List.length this
      simp at hl
  · by_cases h2 : n < 0
    · have := g5 h2
      rw [f6 (by omega)] at this
      have hl := congrArg List.length this
      simp at hl
    · omega

theorem str_inj {a b : List UInt8} (h : str a = str b) : a = b := by
  have := congrArg (fun x : ByteArray => x.data.toList) h
  simpa [str] using this

theorem map_itoa_inj : ∀ {ms ns : List Int}, (∀ n ∈ ms, Rng n) → (∀ n ∈ ns, Rng n) → (ms.map fun n => str (Lib.itoa n)) = (ns.map fun n => str (Lib.itoa n)) → ms = ns
  | [], [], _, _, _ => rfl
  | [], n :: ns, _, _, h => by simp at h
  | m :: ms, [], _, _, h => by simp at h
  | m :: ms, n :: ns, hm, hn, h => by
    simp only [List.map_cons, List.cons.injEq] at h
    rw [itoa_inj (hm m (by simp)) (hn n (by simp)) (str_inj h.1), map_itoa_inj (fun x hx => hm x (by simp [hx])) (fun x hx => hn x (by simp [hx])) h.2]

theorem words_are {bs : List UInt8} {x : Wr} {W : List ByteArray} (hx : IsText bs x) (hr : ∀ n ∈ nsR x, Rng n) (hW : NoBlank W) (hg : glue W = bs ++ [32]) : W = wordsOf (nsR x) := by
  refine glue_inj hW (no_blank_words hr) ?_
  rw [text_glue hx.1, hx.2, hg]

def parseD : List Int → List Dp
  | k :: c :: s :: q :: r => ⟨k, c, s, q⟩ :: parseD r
  | _ => []

theorem parseD_back : ∀ xs : List Dp, parseD (xs.flatMap depNs) = xs
  | [] => rfl
  | d :: r => by
    show (⟨d.k, d.c, d.s, d.q⟩ : Dp) :: parseD (r.flatMap depNs) = d :: r
    rw [parseD_back r]

def parseW (zs : List Int) : Wr := ⟨zs.getD 0 0, zs.getD 1 0, zs.getD 2 0, zs.getD 3 0, zs.getD 4 0, zs.getD 5 0 == 1, parseD (zs.drop 7)⟩

theorem parse_back (x : Wr) : parseW (nsR x) = x := by
  obtain ⟨k, c, s, q, v, de, xs⟩ := x
  unfold parseW nsR headNs
  simp only [List.cons_append, List.nil_append, List.drop_succ_cons, List.drop_zero, parseD_back]
  simp only [List.getD_cons_zero, List.getD_cons_succ]
  congr 1
  cases de <;> rfl

theorem ns_len (x : Wr) : (nsR x).length = 7 + 4 * x.xs.length := by
  have h : ∀ xs : List Dp, (xs.flatMap depNs).length = 4 * xs.length := by
    intro xs
    induction xs with
    | nil => rfl
    | cons d r ih =>
      rw [List.flatMap_cons, List.length_append, ih]
      simp [depNs]
      omega
  unfold nsR
  rw [List.length_append, h]
  simp [headNs]

end Go.Proofs.YtbbmpfkijhhemaaGreatDoor

namespace Go.Proofs.YtbbmpfkijhhemaaGreatDoor
open Go.ChangeShapes Go.WideShapes Go.ChangeAt Go.RowKit Go.Joins

theorem depKey_ge {xs : List Dp} (h : depsOkB xs = true) : ∀ i, i < xs.length → (i : Int) ≤ (xs.getD i dz).k
  | 0, hi => by
    have := btw_bounds (dep_key h hi)
    simpa using this.1
  | i + 1, hi => by
    have ih := depKey_ge h i (by omega)
    unfold depsOkB at h
    have := List.all_eq_true.1 h (i + 1) (List.mem_range.2 hi)
    simp only [depGood, Bool.and_eq_true, decide_eq_true_eq] at this
    rcases this.2.2 with h1 | h1
    · omega
    · simp only [Nat.add_sub_cancel] at h1
      omega

theorem depR_len {xs : List Dp} (h : depsOkB xs = true) : xs.length ≤ 6 := by
  by_cases h0 : xs.length = 0
  · omega
  · have h1 := depKey_ge h (xs.length - 1) (by omega)
    have h2 := btw_bounds (dep_key h (show xs.length - 1 < xs.length by omega))
    omega

def Sml (n : Int) : Prop := -1000000 ≤ n ∧ n ≤ 1000000

theorem sml_of {n lo hi : Int} (h : btw n lo hi = true) (h0 : -1000000 ≤ lo) (h1 : hi ≤ 1000000) : Sml n := by
  have := btw_bounds h
  exact ⟨by omega, by omega⟩

theorem sml_tag {c s q : Int} (h : tagOkB c s q = true) : Sml c ∧ Sml s ∧ Sml q := by
  unfold tagOkB at h
  simp only [Bool.and_eq_true] at h
  exact ⟨sml_of h.1 (by omega) (by omega), sml_of h.2.1 (by omega) (by omega), sml_of h.2.2 (by omega) (by omega)⟩

theorem sml_ns {x : Wr} (h : okR x = true) : ∀ n ∈ nsR x, Sml n := by
  obtain ⟨k, c, s, q, v, de, xs⟩ := x
  obtain ⟨o1, o2, o3, o4, -⟩ := ok_parts h
  obtain ⟨t1, t2, t3⟩ := sml_tag o2
  have hl := depR_len o4
  simp only at hl
  intro n hn
  unfold nsR headNs at hn
  rcases List.mem_append.1 hn with hn | hn
  · simp only [List.mem_cons, List.not_mem_nil, or_false] at hn
    rcases hn with rfl | rfl | rfl | rfl | rfl | rfl | rfl
    · exact sml_of o1 (by omega) (by omega)
    · exact t1
    · exact t2
    · exact t3
    · exact sml_of (val_btw o3) (by omega) (by omega)
    · cases de <;> exact ⟨by decide, by decide⟩
    · exact ⟨by omega, by omega⟩
  · obtain ⟨d, hd, hn⟩ := List.mem_flatMap.1 hn
    obtain ⟨i, hi, rfl⟩ := List.mem_iff_getElem.1 hd
    have e : xs.getD i dz = xs[i] := by simp [List.getD, hi]
    have h1 := dep_key o4 hi
    have h2 := depsOk_tag o4 hi
    rw [e] at h1 h2
    obtain ⟨u1, u2, u3⟩ := sml_tag h2
    unfold depNs at hn
    simp only [List.mem_cons, List.not_mem_nil, or_false] at hn
    rcases hn with rfl | rfl | rfl | rfl
    · exact sml_of h1 (by omega) (by omega)
    · exact u1
    · exact u2
    · exact u3

theorem rng_ns {x : Wr} (h : okR x = true) : ∀ n ∈ nsR x, Rng n := fun n hn => by
  have := sml_ns h n hn
  exact ⟨by have := this.1; omega, by have := this.2; omega⟩

theorem itoa_short {n : Int} (h : Sml n) : (Lib.itoa n).length ≤ 8 := by
  obtain ⟨h0, h1⟩ := h
  have hu : n.natAbs < 10 ^ (6 + 1) := by
    have : (10 : Nat) ^ (6 + 1) = 10000000 := by decide
    omega
  have h2 := (dec_facts 6 n.natAbs hu).2.2.2
  unfold Lib.itoa
  split
  · simp
    omega
  · have e : n.toNat = n.natAbs := by omega
    rw [e]
    omega

theorem nums_short : ∀ {ns : List Int}, (∀ n ∈ ns, Sml n) → (numsText ns).length ≤ 9 * ns.length
  | [], _ => by simp [numsText]
  | n :: r, h => by
    have h1 := itoa_short (h n (by simp))
    have h2 := nums_short (ns := r) fun m hm => h m (by simp [hm])
    have e : numsText (n :: r) = (32 :: Lib.itoa n) ++ numsText r := by simp [numsText]
    rw [e, List.length_append, List.length_cons, List.length_cons]
    omega

theorem read_word {bs : List UInt8} {W : List ByteArray} (hW : NoBlank W) (hg : glue W = bs ++ [32]) {j : Nat} {y : ByteArray} (hj : W[j + 1]? = some y) {n : Int} (hs : NumSays y n false) (x : Wr) : ¬ IsText bs x := fun hx => by
  have hr := rng_ns hx.1
  have e := words_are hx hr hW hg
  rw [e] at hj
  simp only [wordsOf, List.getElem?_cons_succ, List.getElem?_map, Option.map_eq_some_iff] at hj
  obtain ⟨m, hm, rfl⟩ := hj
  have hmr := hr m (List.mem_of_getElem? hm)
  have := hs.2.2.2 m hmr.1 hmr.2 (by simp [str])
  simp at this

theorem read_all {bs : List UInt8} {W : List ByteArray} (hW : NoBlank W) (hg : glue W = bs ++ [32]) {zs : List Int} (hz : W.drop 1 = zs.map fun n => str (Lib.itoa n)) (hr : ∀ n ∈ zs, Rng n) {x : Wr} (hx : IsText bs x) : zs = nsR x := by
  have hr' := rng_ns hx.1
  have e := words_are hx hr' hW hg
  rw [e] at hz
  simp only [wordsOf, List.drop_succ_cons, List.drop_zero] at hz
  exact (map_itoa_inj hr' hr hz).symm

theorem read_count {bs : List UInt8} {W : List ByteArray} (hW : NoBlank W) (hg : glue W = bs ++ [32]) {zs : List Int} (hz : W.drop 1 = zs.map fun n => str (Lib.itoa n)) (hr : ∀ n ∈ zs, Rng n) (hc : zs.length < 7 ∨ zs.length % 4 ≠ 3) (x : Wr) : ¬ IsText bs x := fun hx => by
  have := read_all hW hg hz hr hx
  have hl := ns_len x
  rw [← this] at hl
  omega

theorem read_other {bs : List UInt8} {W : List ByteArray} (hW : NoBlank W) (hg : glue W = bs ++ [32]) {zs : List Int} (hz : W.drop 1 = zs.map fun n => str (Lib.itoa n)) (hr : ∀ n ∈ zs, Rng n) (ho : textR (parseW zs) ≠ bs) (x : Wr) : ¬ IsText bs x := fun hx => by
  have := read_all hW hg hz hr hx
  rw [this, parse_back] at ho
  exact ho hx.2

theorem read_yes {bs : List UInt8} {x : Wr} (h : textR x = bs) (h0 : bs ≠ []) : IsText bs x := by
  refine ⟨?_, h⟩
  cases ho : okR x
  · exfalso
    unfold textR writeText at h
    have ho' : writeOkB x.k x.c x.s x.q x.v x.de x.xs = false := ho
    rw [ho'] at h
    exact h0 (by simpa using h.symm)
  · rfl

theorem text_is_one {bs : List UInt8} {x y : Wr} (hx : IsText bs x) (hy : IsText bs y) : x = y := by
  have e := words_are (W := wordsOf (nsR y)) hx (rng_ns hx.1) (no_blank_words (rng_ns hy.1)) (by rw [text_glue hy.1, hy.2])
  have h2 := map_itoa_inj (rng_ns hy.1) (rng_ns hx.1) (by simpa [wordsOf] using e)
  rw [← parse_back x, ← parse_back y, h2]

theorem text_len {bs : List UInt8} {x : Wr} (hx : IsText bs x) : bs.length ≤ 400 := by
  have h1 := nums_short (sml_ns hx.1)
  have h2 := ns_len x
  have h3 : x.xs.length ≤ 6 := depR_len (ok_parts hx.1).2.2.2.1
  have h4 := text_glue hx.1
  rw [glue_words, hx.2] at h4
  have h5 := congrArg List.length h4
  simp at h5
  omega

end Go.Proofs.YtbbmpfkijhhemaaGreatDoor

namespace Go.Proofs.YtbbmpfkijhhemaaGreatDoor
open Go.ChangeShapes Go.WideShapes Go.ChangeAt Go.RowKit Go.Joins
set_option maxRecDepth 100000

def crcBit (x : Nat) : Nat := if x % 2 = 1 then (x / 2) ^^^ 3988292384 else x / 2

def crcBits : Nat → Nat → Nat
  | 0, x => x
  | k + 1, x => crcBit (crcBits k x)

def crcByte (x : Nat) (b : UInt8) : Nat := crcBits 8 (x ^^^ b.toNat)

def crcRun (bs : List UInt8) : Nat := bs.foldl crcByte 4294967295

def crcL (bs : List UInt8) : Nat := crcRun bs ^^^ 4294967295

theorem xor32 {a b : Nat} (ha : a < 4294967296) (hb : b < 4294967296) : a ^^^ b < 4294967296 := Nat.xor_lt_two_pow (n := 32) (by omega) (by omega)

theorem crcBit_bd {x : Nat} (h : x < 4294967296) : crcBit x < 4294967296 := by
  unfold crcBit
  split
  · exact xor32 (by omega) (by omega)
  · omega

theorem crcBits_bd {x : Nat} (h : x < 4294967296) : ∀ k, crcBits k x < 4294967296
  | 0 => h
  | k + 1 => crcBit_bd (crcBits_bd h k)

theorem crcByte_bd {x : Nat} (h : x < 4294967296) (b : UInt8) : crcByte x b < 4294967296 :=
  crcBits_bd (xor32 h (by have := b.toNat_lt; omega)) 8

theorem crc_fold : ∀ (bs : List UInt8) (x : Nat), x < 4294967296 → bs.foldl crcByte x < 4294967296
  | [], _, h => h
  | b :: r, x, h => crc_fold r (crcByte x b) (crcByte_bd h b)

theorem crcRun_bd (bs : List UInt8) : crcRun bs < 4294967296 := crc_fold bs _ (by omega)

theorem crcL_bd (bs : List UInt8) : crcL bs < 4294967296 := xor32 (crcRun_bd bs) (by omega)

theorem crcRun_snoc (bs : List UInt8) (b : UInt8) : crcRun (bs ++ [b]) = crcByte (crcRun bs) b := by
  unfold crcRun
  rw [List.foldl_append]
  rfl

theorem crcRun_take {s : ByteArray} {k : Nat} (h : k < s.size) : crcRun (s.data.toList.take (k + 1)) = crcByte (crcRun (s.data.toList.take k)) s[k] := by
  have hl : k < s.data.toList.length := by simpa using h
  rw [List.take_succ_eq_append_getElem hl, crcRun_snoc]
  rfl

theorem i64_xor_nat {a b : Nat} (ha : a < 4294967296) (hb : b < 4294967296) : bits .xor .i64 (a : Int) (b : Int) = ((a ^^^ b : Nat) : Int) := by
  have hx := xor32 ha hb
  show IntKind.i64.wrap ((BitVec.ofInt 64 (a : Int) ^^^ BitVec.ofInt 64 (b : Int)).toNat : Int) = _
  rw [BitVec.toNat_xor, ofInt_u64 a (by omega), ofInt_u64 b (by omega), wrap_small _ (by omega) (by omega)]

set_option maxHeartbeats 2000000 in
theorem specCrc_any (s : ByteArray) (w : World) (hs : s.size ≤ 9223372036854775807) :
    Calls Tryz.prog 140 #[.string s] w fun e w' => e = .returned (.int .i64 (crcL s.data.toList : Nat)) ∧ w' = w := by
  go_enter Tryz.func140, Tryz.ntmps140
  go_wp2
  go_loopw [3, 4] (fun x i wr => ∃ k : Nat, k ≤ s.size ∧ i = .int .i64 k ∧ x = .int .i64 (crcRun (s.data.toList.take k) : Nat) ∧ wr = w) (fun _ i _ => s.size - (intOf i).toNat)
  case atStart => exact ⟨0, Nat.zero_le _, rfl, rfl, rfl⟩
  case round =>
    obtain ⟨k, hk, rfl, rfl, rfl⟩ := hrel
    by_cases hk' : k < s.size
    · have i1 : (0 : Int) ≤ (k : Int) := by omega
      have i2 : (k : Int) < (s.size : Int) := by omega
      have HT := Lib.hid (crcRun_take hk')
      have hb := crcRun_bd (s.data.toList.take k)
      have hc : (s[k].toNat : Nat) < 4294967296 := by have := s[k].toNat_lt; omega
      have hu : s[k].toNat < 256 := UInt8.toNat_lt _
      have hu' : wrap64 (s[k].toNat : Int) = (s[k].toNat : Int) := by unfold wrap64; omega
      have hx : bits .xor .i64 ((crcRun (s.data.toList.take k) : Nat) : Int) ((s[k].toNat : Nat) : Int) = ((crcRun (s.data.toList.take k) ^^^ s[k].toNat : Nat) : Int) := i64_xor_nat hb hc
      have hy := xor32 hb hc
      have HB : Hid (crcByte (crcRun (s.data.toList.take k)) s[k] = crcBits 8 (crcRun (s.data.toList.take k) ^^^ s[k].toNat)) := rfl
      go_wp2
      generalize crcRun (s.data.toList.take k) ^^^ s[k].toNat = y at *
      clear hx
      go_loopw [3, 5] (fun x i wq => ∃ j : Nat, j ≤ 8 ∧ i = .int .i64 j ∧ x = .int .i64 (crcBits j y : Nat) ∧ wq = wr) (fun _ i _ => 8 - (intOf i).toNat)
      case atStart => exact ⟨0, Nat.zero_le _, rfl, rfl, rfl⟩
      case round =>
        obtain ⟨j, hj, rfl, rfl, rfl⟩ := hrel
        by_cases hj' : j < 8
        · have j1 : (j : Int) < 8 := by omega
          have hz := crcBits_bd hy j
          have HS : Hid (crcBits (j + 1) y = crcBit (crcBits j y)) := rfl
          generalize crcBits j y = z at *
          have hz2 : (z / 2 : Nat) < 4294967296 := by omega
          have d1 : ((z : Int)).tmod 2 = ((z % 2 : Nat) : Int) := by rw [Int.tmod_eq_emod_of_nonneg (by omega)]; omega
          have d2 : ((z : Int)).tdiv 2 = ((z / 2 : Nat) : Int) := by rw [Int.tdiv_eq_ediv_of_nonneg (by omega)]; omega
          have hx : bits .xor .i64 ((z / 2 : Nat) : Int) 3988292384 = ((z / 2 ^^^ 3988292384 : Nat) : Int) := i64_xor_nat hz2 (b := 3988292384) (by omega)
          by_cases hm : z % 2 = 1
          · have HE : Hid (crcBits (j + 1) y = z / 2 ^^^ 3988292384) := by
              rw [HS.out]
              unfold crcBit
              rw [if_pos hm]
              exact Lib.hid rfl
            go_wp2
            refine ⟨⟨j + 1, by omega, by go_num, ?_, trivial⟩, by simp [intOf]; omega⟩
            have e2 : (z : Int) / 2 = ((z / 2 : Nat) : Int) := by omega
            rw [HE.out, e2, hx]
          · have HE : Hid (crcBits (j + 1) y = z / 2) := by
              rw [HS.out]
              unfold crcBit
              rw [if_neg hm]
              exact Lib.hid rfl
            have hm0 : z % 2 = 0 := by omega
            go_wp2
            refine ⟨⟨j + 1, by omega, by go_num, ?_, trivial⟩, by simp [intOf]; omega⟩
            have e2 : (z : Int) / 2 = ((z / 2 : Nat) : Int) := by omega
            rw [HE.out, e2]
        · have hjj : j = 8 := by omega
          subst hjj
          go_wp2
          exact ⟨⟨k + 1, by omega, by go_num, by rw [HT.out, HB.out], trivial⟩, by simp [intOf]; omega⟩
    · have hkk : k = s.size := by omega
      subst hkk
      have e : s.data.toList.take s.size = s.data.toList := List.take_of_length_le (by simp)
      rw [e]
      have hb := crcRun_bd s.data.toList
      have hx : bits .xor .i64 ((crcRun s.data.toList : Nat) : Int) 4294967295 = ((crcL s.data.toList : Nat) : Int) := i64_xor_nat hb (b := 4294967295) (by omega)
      go_wp2
      go_ret
      exact ⟨rfl, rfl⟩

end Go.Proofs.YtbbmpfkijhhemaaGreatDoor

namespace Go.Proofs.YtbbmpfkijhhemaaGreatDoor
open Go.ChangeShapes Go.WideShapes Go.ChangeAt Go.RowKit Go.Joins

def okWs (ws : List Wr) : Bool := decide (1 ≤ ws.length ∧ ws.length ≤ 6) && ws.all okR

def lineW (x : Wr) : List UInt8 := textR x ++ [10]

def headB (n : Nat) : List UInt8 := [98, 97, 116, 99, 104, 32] ++ Lib.itoa n

def bodyB (ws : List Wr) : List UInt8 := headB ws.length ++ 10 :: ws.flatMap lineW

def sumB (ws : List Wr) : List UInt8 := [115, 117, 109, 32] ++ Lib.itoa (crcL (bodyB ws) : Int)

def batchT (ws : List Wr) : List UInt8 := if okWs ws = true then bodyB ws ++ (sumB ws ++ [10]) else []

theorem okWs_all {ws : List Wr} (h : okWs ws = true) : ∀ x ∈ ws, okR x = true := by
  unfold okWs at h
  simp only [Bool.and_eq_true, List.all_eq_true] at h
  exact h.2

theorem okWs_len {ws : List Wr} (h : okWs ws = true) : 1 ≤ ws.length ∧ ws.length ≤ 6 := by
  unfold okWs at h
  simp only [Bool.and_eq_true, decide_eq_true_eq] at h
  exact h.1

theorem no_line_num {n : Int} (h : Rng n) : (10 : UInt8) ∉ Lib.itoa n := by
  obtain ⟨f1, _, _, _, f5, f6⟩ := itoa_parts h.1 h.2
  intro hm
  by_cases hn : n < 0
  · rw [f5 hn] at hm
    rcases List.mem_cons.1 hm with hm | hm
    · exact absurd hm (by decide)
    · exact absurd (f1 10 hm).1 (by decide)
  · rw [← f6 (by omega)] at hm
    exact absurd (f1 10 hm).1 (by decide)

theorem no_line_nums {ns : List Int} (h : ∀ n ∈ ns, Rng n) : (10 : UInt8) ∉ numsText ns := by
  intro hm
  unfold numsText at hm
  obtain ⟨n, hn, hb⟩ := List.mem_flatMap.1 hm
  rcases List.mem_cons.1 hb with hb | hb
  · exact absurd hb (by decide)
  · exact no_line_num (h n hn) hb

theorem no_line_text {x : Wr} (h : okR x = true) : (10 : UInt8) ∉ textR x := by
  intro hm
  have e := text_glue h
  rw [glue_words] at e
  have hm2 : (10 : UInt8) ∈ textR x ++ [32] := List.mem_append_left _ hm
  rw [← e] at hm2
  rcases List.mem_append.1 hm2 with h1 | h1
  · rcases List.mem_cons.1 h1 with h2 | h2
    · exact absurd h2 (by decide)
    · exact no_line_nums (rng_ns h) h2
  · simp at h1

theorem line_one : ∀ {l l' r r' s : List UInt8}, (10 : UInt8) ∉ l → (10 : UInt8) ∉ l' → l ++ 10 :: r <+: s → l' ++ 10 :: r' <+: s → l = l' ∧ ∃ t, s = l ++ 10 :: t ∧ r <+: t ∧ r' <+: t
  | [], [], r, r', s, _, _, h, h' => by
    obtain ⟨t, rfl⟩ := h
    refine ⟨rfl, r ++ t, by simp, List.prefix_append _ _, ?_⟩
    have h2 : 10 :: r' <+: 10 :: (r ++ t) := by simpa using h'
    exact (List.prefix_cons_inj 10).1 h2
  | [], c :: l', r, r', s, _, h2, h, h' => by
    exfalso
    obtain ⟨t, rfl⟩ := h
    have h3 : c :: (l' ++ 10 :: r') <+: 10 :: (r ++ t) := by simpa using h'
    have := (List.cons_prefix_cons.1 h3).1
    exact h2 (by rw [this]; simp)
  | c :: l, [], r, r', s, h1, _, h, h' => by
    exfalso
    obtain ⟨t, rfl⟩ := h'
    have h3 : c :: (l ++ 10 :: r) <+: 10 :: (r' ++ t) := by simpa using h
    have := (List.cons_prefix_cons.1 h3).1
    exact h1 (by rw [this]; simp)
  | c :: l, d :: l', r, r', s, h1, h2, h, h' => by
    cases s with
    | nil => exact absurd (List.prefix_nil.1 h) (by simp)
    | cons a s =>
      have k : c = a ∧ l ++ 10 :: r <+: s := by simpa using List.cons_prefix_cons.1 (by simpa using h)
      have k' : d = a ∧ l' ++ 10 :: r' <+: s := by simpa using List.cons_prefix_cons.1 (by simpa using h')
      obtain ⟨e, t, ht, q1, q2⟩ := line_one (fun hm => h1 (List.mem_cons_of_mem _ hm)) (fun hm => h2 (List.mem_cons_of_mem _ hm)) k.2 k'.2
      exact ⟨by rw [k.1, k'.1, e], t, by rw [ht, k.1]; rfl, q1, q2⟩

theorem lines_one : ∀ {ws vs : List Wr} {r r' s : List UInt8}, ws.length = vs.length → (∀ x ∈ ws, okR x = true) → (∀ x ∈ vs, okR x = true) → ws.flatMap lineW ++ r <+: s → vs.flatMap lineW ++ r' <+: s → ws = vs
  | [], [], _, _, _, _, _, _, _, _ => rfl
  | [], v :: vs, _, _, _, h, _, _, _, _ => by simp at h
  | x :: ws, [], _, _, _, h, _, _, _, _ => by simp at h
  | x :: ws, v :: vs, r, r', s, hl, h1, h2, h, h' => by
    have k : textR x ++ 10 :: (ws.flatMap lineW ++ r) <+: s := by simpa [lineW] using h
    have k' : textR v ++ 10 :: (vs.flatMap lineW ++ r') <+: s := by simpa [lineW] using h'
    have o1 := h1 x (by simp)
    have o2 := h2 v (by simp)
    obtain ⟨e, t, -, q1, q2⟩ := line_one (no_line_text o1) (no_line_text o2) k k'
    have e1 : x = v := text_is_one ⟨o1, rfl⟩ ⟨o2, e.symm⟩
    have e2 : ws = vs := lines_one (by simpa using hl) (fun y hy => h1 y (List.mem_cons_of_mem _ hy)) (fun y hy => h2 y (List.mem_cons_of_mem _ hy)) q1 q2
    rw [e1, e2]

theorem rng_small {n : Nat} (h : n ≤ 6) : Rng (n : Int) := ⟨by omega, by omega⟩

theorem no_line_head {n : Nat} (h : n ≤ 6) : (10 : UInt8) ∉ headB n := by
  intro hm
  unfold headB at hm
  rcases List.mem_append.1 hm with h1 | h1
  · simp at h1
  · exact no_line_num (rng_small h) h1

theorem batch_one {a b : List Wr} {s : List UInt8} (ha : okWs a = true) (hb : okWs b = true) (h : batchT a <+: s) (h' : batchT b <+: s) : a = b := by
  unfold batchT at h h'
  rw [if_pos ha] at h
  rw [if_pos hb] at h'
  have k : headB a.length ++ 10 :: (a.flatMap lineW ++ (sumB a ++ [10])) <+: s := by simpa [bodyB] using h
  have k' : headB b.length ++ 10 :: (b.flatMap lineW ++ (sumB b ++ [10])) <+: s := by simpa [bodyB] using h'
  obtain ⟨e, t, -, q1, q2⟩ := line_one (no_line_head (okWs_len ha).2) (no_line_head (okWs_len hb).2) k k'
  unfold headB at e
  have e1 := itoa_inj (rng_small (okWs_len ha).2) (rng_small (okWs_len hb).2) (List.append_cancel_left e)
  exact lines_one (by omega) (okWs_all ha) (okWs_all hb) q1 q2

theorem batch_pos {a : List Wr} (h : okWs a = true) : 0 < (batchT a).length := by
  unfold batchT
  rw [if_pos h]
  simp [bodyB, headB]

def logT (bs : List (List Wr)) : List UInt8 := bs.flatMap batchT

def IsLog (s : List UInt8) (bs : List (List Wr)) : Prop := (∀ b ∈ bs, okWs b = true) ∧ logT bs <+: s ∧ ∀ b, okWs b = true → ¬ logT bs ++ batchT b <+: s

theorem logT_cons (b : List Wr) (bs : List (List Wr)) : logT (b :: bs) = batchT b ++ logT bs := by simp [logT]

theorem prefix_left {a b s : List UInt8} (h : a ++ b <+: s) : a <+: s := List.IsPrefix.trans (List.prefix_append a b) h

theorem prefix_strip {a b t : List UInt8} (h : a ++ b <+: a ++ t) : b <+: t := (List.prefix_append_right_inj a).1 h

theorem log_first : ∀ {bs cs : List (List Wr)} {s : List UInt8}, IsLog s bs → (∀ b ∈ cs, okWs b = true) → logT cs <+: s → cs <+: bs
  | _, [], _, _, _, _ => List.nil_prefix
  | [], c :: cs, s, h, hc, hp => by
    exfalso
    rw [logT_cons] at hp
    exact h.2.2 c (hc c (by simp)) (by simpa [logT] using prefix_left hp)
  | b :: bs, c :: cs, s, h, hc, hp => by
    have h2 := h.2.1
    rw [logT_cons] at h2 hp
    have e : b = c := batch_one (h.1 b (by simp)) (hc c (by simp)) (prefix_left h2) (prefix_left hp)
    subst e
    obtain ⟨t, rfl⟩ := prefix_left h2
    have ih := log_first (bs := bs) (cs := cs) (s := t) ⟨fun x hx => h.1 x (List.mem_cons_of_mem _ hx), prefix_strip h2, fun x hx hq => h.2.2 x hx (by
      rw [logT_cons, List.append_assoc]
      exact (List.prefix_append_right_inj _).2 hq)⟩ (fun x hx => hc x (List.mem_cons_of_mem _ hx)) (prefix_strip hp)
    exact (List.prefix_cons_inj b).2 ih

theorem log_one {bs cs : List (List Wr)} {s : List UInt8} (h : IsLog s bs) (h' : IsLog s cs) : bs = cs := by
  have h1 := log_first h h'.1 h'.2.1
  have h2 := log_first h' h.1 h.2.1
  exact List.IsPrefix.eq_of_length h2 (Nat.le_antisymm h2.length_le h1.length_le)

end Go.Proofs.YtbbmpfkijhhemaaGreatDoor

namespace Go.Proofs.YtbbmpfkijhhemaaGreatDoor
open Go.ChangeShapes Go.WideShapes Go.ChangeAt Go.RowKit Go.Joins
set_option maxRecDepth 100000
attribute [local go_sem ↓] Go.wp_at_zero Go.wp_at_succ

def IsWs0 (w : World) (a : Option Addr) (ws : List Wr) : Prop :=
  ws = [] ∨ ∃ b o, a = some ⟨b, o, none⟩ ∧ b < w.heap.size ∧ ∀ i, i < ws.length → ∃ a' cap, WrAt w b (o + i * 7) (ws.getD i wz) a' cap ∧ Deps0 w a' (ws.getD i wz).xs

theorem deps0_stay {w w' : World} {a : Option Addr} {xs : List Dp} (h : Deps0 w a xs) (hb : Below w.heap.size w w') : Deps0 w' a xs := by
  rcases h with h | ⟨g, h1, h2, h3⟩
  · exact .inl h
  · exact .inr ⟨g, h1, Nat.lt_of_lt_of_le h2 hb.size, h3.below hb h2⟩

theorem IsWs0.below {w w' : World} {a : Option Addr} {ws : List Wr} (h : IsWs0 w a ws) (hb : Below w.heap.size w w') : IsWs0 w' a ws := by
  rcases h with h | ⟨b, o, ha, hlt, hh⟩
  · exact .inl h
  · refine .inr ⟨b, o, ha, Nat.lt_of_lt_of_le hlt hb.size, fun i hi => ?_⟩
    obtain ⟨a', cap, h1, h2⟩ := hh i hi
    exact ⟨a', cap, h1.of_block (hb.block b hlt), deps0_stay h2 hb⟩

def accB (ws : List Wr) (j : Nat) : List UInt8 := headB ws.length ++ 10 :: (ws.take j).flatMap lineW

theorem accB_next (ws : List Wr) {j : Nat} (h : j < ws.length) : accB ws (j + 1) = accB ws j ++ (textR (ws.getD j wz) ++ [10]) := by
  unfold accB
  have e : ws.take (j + 1) = ws.take j ++ [ws.getD j wz] := by
    rw [List.take_add_one, List.getElem?_eq_getElem h]
    simp [List.getD, h]
  rw [e, List.flatMap_append]
  simp [lineW]

theorem okR_text {x : Wr} : textR x = [] ↔ okR x = false := by
  unfold textR writeText okR
  cases h : writeOkB x.k x.c x.s x.q x.v x.de x.xs
  · simp
  · simp [headText]

theorem okWs_iff {ws : List Wr} : okWs ws = true ↔ (1 ≤ ws.length ∧ ws.length ≤ 6) ∧ ∀ i, i < ws.length → okR (ws.getD i wz) = true := by
  unfold okWs
  simp only [Bool.and_eq_true, decide_eq_true_eq, List.all_eq_true]
  constructor
  · rintro ⟨h1, h2⟩
    exact ⟨h1, fun i hi => h2 _ (by simp [List.getD, hi])⟩
  · rintro ⟨h1, h2⟩
    refine ⟨h1, fun x hx => ?_⟩
    obtain ⟨i, hi, rfl⟩ := List.getElem_of_mem hx
    have := h2 i hi
    simpa [List.getD, hi] using this

theorem text_400 {x : Wr} : (textR x).length ≤ 400 := by
  cases h : okR x
  · rw [okR_text.2 h]
    simp
  · exact text_len ⟨h, rfl⟩

set_option maxHeartbeats 4000000 in
theorem specBatch_any (a : Option Addr) (n cap : Nat) (ws : List Wr) (w : World) (hn : ws.length = n) (hm : n ≤ 1048576) (hx : Few ws) (hh : IsWs0 w a ws) :
    Calls Tryz.prog 107 #[.slice a n cap] w fun e w' => e = .returned (.string (str (batchT ws))) ∧ Below w.heap.size w w' := by
  by_cases hr : 1 ≤ n ∧ n ≤ 6
  rotate_left
  · have HE : Hid (batchT ws = []) := by
      show _ = _
      unfold batchT
      rw [if_neg fun h => hr (by rw [← hn]; exact okWs_len h)]
    clear hh hn hx
    have hb : btw (n : Int) 1 6 = false := by
      cases h : btw (n : Int) 1 6
      · rfl
      · exact absurd (by have := btw_bounds h; omega) hr
    go_enter Tryz.func107, Tryz.ntmps107
    go_wp2_with fail
    refine (between_any _ _ _ _).mono ?_
    rintro e w1 ⟨rfl, hw⟩
    subst w1
    rw [hb]
    go_wp2
    go_ret
    exact ⟨by rw [HE.out]; rfl, Below.refl _ _⟩
  have hb : btw (n : Int) 1 6 = true := by unfold btw; simp; omega
  have HH := Lib.hid hh
  have HN := Lib.hid hn
  have HX := Lib.hid hx
  clear hh hn hx
  have z0 : (⟨(Lib.itoa (n : Int)).toArray⟩ : ByteArray).size ≤ 21 := by
    have := Lib.itoa_length_le (n : Int) (by omega) (by omega)
    simpa [ByteArray.size] using this
  have HE0 : Hid ((⟨#[98, 97, 116, 99, 104, 32]⟩ : ByteArray) ++ ⟨(Lib.itoa (n : Int)).toArray⟩ ++ ⟨#[10]⟩ = str (accB ws 0)) := by
    have e1 : (⟨#[98, 97, 116, 99, 104, 32]⟩ : ByteArray) = str [98, 97, 116, 99, 104, 32] := rfl
    have e2 : (⟨(Lib.itoa (n : Int)).toArray⟩ : ByteArray) = str (Lib.itoa (n : Int)) := rfl
    have e3 : (⟨#[10]⟩ : ByteArray) = str [10] := rfl
    show _ = _
    rw [e1, e2, e3, str_add, str_add]
    unfold accB headB
    rw [HN.out]
    simp
  go_enter Tryz.func107, Tryz.ntmps107
  go_wp2_with fail
  refine (between_any _ _ _ _).mono ?_
  rintro e w1 ⟨rfl, hw⟩
  subst w1
  rw [hb]
  clear hb
  go_wp2_with fail
  refine (specNum (n : Int) _ (by omega) (by omega)).mono ?_
  rintro e w1 ⟨rfl, hb1⟩
  have HB1 := Lib.hid hb1
  clear hb1
  obtain ⟨t0, ht0⟩ : ∃ t0 : ByteArray, ⟨(Lib.itoa (n : Int)).toArray⟩ = t0 := ⟨_, rfl⟩
  rw [ht0] at z0 HE0 ⊢
  clear ht0
  have z1 : ((⟨#[98, 97, 116, 99, 104, 32]⟩ : ByteArray) ++ t0).size ≤ 27 := by
    rw [ByteArray.size_append]
    have : (⟨#[98, 97, 116, 99, 104, 32]⟩ : ByteArray).size = 6 := rfl
    omega
  have z2 : ((⟨#[98, 97, 116, 99, 104, 32]⟩ : ByteArray) ++ t0 ++ ⟨#[10]⟩).size ≤ 28 := by
    rw [ByteArray.size_append]
    have : (⟨#[10]⟩ : ByteArray).size = 1 := rfl
    omega
  go_wp2
  go_loopw [3, 4] (fun t i wr => ∃ (j : Nat) (acc : ByteArray), j ≤ n ∧ i = .int .i64 j ∧ t = .string acc ∧ acc.size ≤ 28 + 401 * j ∧ Hid (acc = str (accB ws j)) ∧ Hid (∀ i, i < j → okR (ws.getD i wz) = true) ∧ Hid (Below w.heap.size w wr)) (fun _ i _ => n - (intOf i).toNat)
  case atStart => exact ⟨0, _, Nat.zero_le _, rfl, rfl, by omega, HE0, fun i h => absurd h (Nat.not_lt_zero i), HB1⟩
  case round =>
    clear HE0 HB1 z0 z1 z2
    obtain ⟨j, acc, hj, rfl, rfl, hsz, HA, HO, HB⟩ := hrel
    by_cases hj' : j < n
    · have hjj : j < ws.length := by rw [HN.out]; exact hj'
      have i1 : (0 : Int) ≤ (j : Int) := by omega
      have i2 : (j : Int) < (n : Int) := by omega
      obtain ⟨b, o, rfl, hz, hall⟩ : ∃ b o, a = some ⟨b, o, none⟩ ∧ b < wr.heap.size ∧ ∀ i, i < ws.length → ∃ a' cap, WrAt wr b (o + i * 7) (ws.getD i wz) a' cap ∧ Deps0 wr a' (ws.getD i wz).xs := by
        rcases HH.out.below HB.out with h | h
        · rw [h] at hjj
          simp at hjj
        · exact h
      obtain ⟨ad, cp, ⟨e0, e1, e2, e3, e4, e5, e6⟩, hd⟩ := hall j hjj
      have hxl := HX.out j hjj
      have HD := Lib.hid hd
      have HNX := Lib.hid (accB_next ws hjj)
      have HT4 := Lib.hid (text_400 (x := ws.getD j wz))
      have HIF := Lib.hid (okR_text (x := ws.getD j wz))
      have HNO : Hid (okR (ws.getD j wz) = false → batchT ws = []) := fun h => by
        unfold batchT
        rw [if_neg fun hk => by have := (okWs_iff.1 hk).2 j hjj; rw [h] at this; cases this]
      have HO2 : Hid (okR (ws.getD j wz) = true → ∀ i, i < j + 1 → okR (ws.getD i wz) = true) := fun h i hi => by
        by_cases hij : i < j
        · exact HO.out i hij
        · obtain rfl : i = j := by omega
          exact h
      clear hall hd
      generalize ws.getD j wz = x at *
      obtain ⟨xk, xc, xs', xq, xv, xd, xx⟩ := x
      simp only at e0 e1 e2 e3 e4 e5 e6 hxl HD
      go_wp2_with fail
      refine (specText_gen xk xc xs' xq xv xd ad xx _ cp _ rfl hxl HD.out).mono ?_
      rintro e w2 ⟨rfl, hb⟩
      have HB2 := Lib.hid (below_step HB.out HB.out.size hb)
      clear hb HB HD e0 e1 e2 e3 e4 e5 e6
      have HTX : Hid (textR ⟨xk, xc, xs', xq, xv, xd, xx⟩ = writeText xk xc xs' xq xv xd xx) := rfl
      cases hok : okR ⟨xk, xc, xs', xq, xv, xd, xx⟩
      · have h0 : str (writeText xk xc xs' xq xv xd xx) = ⟨#[]⟩ := by
          rw [← HTX.out, HIF.out.2 hok]
          rfl
        rw [h0]
        have HE := Lib.hid (HNO.out hok)
        clear hok
        go_wp2
        go_ret
        exact ⟨by rw [HE.out]; rfl, HB2.out⟩
      · have HE2 := Lib.hid (HO2.out hok)
        have hne : textR ⟨xk, xc, xs', xq, xv, xd, xx⟩ ≠ [] := fun h => by
          have := HIF.out.1 h
          rw [hok] at this
          cases this
        have h4 := HT4.out
        rw [HTX.out] at hne h4 HNX
        have hs : (str (writeText xk xc xs' xq xv xd xx)).size ≤ 400 := by rw [str_size]; exact h4
        have HNE : Hid (accB ws (j + 1) = accB ws j ++ (writeText xk xc xs' xq xv xd xx ++ [10])) := HNX.out
        have hnl : (str (writeText xk xc xs' xq xv xd xx)).toList.isEmpty = false := by
          rw [ByteArray.toList_eq]
          cases h : writeText xk xc xs' xq xv xd xx with
          | nil => exact absurd h hne
          | cons => rfl
        have HSA : Hid (acc ++ str (writeText xk xc xs' xq xv xd xx) ++ ⟨#[10]⟩ = str (accB ws (j + 1))) := by
          have e3 : (⟨#[10]⟩ : ByteArray) = str [10] := rfl
          show _ = _
          rw [HA.out, e3, str_add, str_add, HNE.out, List.append_assoc]
        clear hok hne h4 HNX HNE HT4 HIF HNO HO2 HTX
        generalize str (writeText xk xc xs' xq xv xd xx) = tx at *
        have y1 : (acc ++ tx).size ≤ 428 + 401 * j := by rw [ByteArray.size_append]; omega
        have y2 : (acc ++ tx ++ ⟨#[10]⟩).size ≤ 28 + 401 * (j + 1) := by
          rw [ByteArray.size_append]
          have : (⟨#[10]⟩ : ByteArray).size = 1 := rfl
          omega
        go_wp2
        exact ⟨⟨j + 1, _, by omega, by go_num, rfl, y2, HSA, HE2, HB2⟩, by simp [intOf]; omega⟩
    · have hjn : j = n := by omega
      subst hjn
      have hacc : acc.size ≤ 3000 := by omega
      have HOK : Hid (okWs ws = true) := okWs_iff.2 ⟨by rw [HN.out]; exact hr, fun i hi => HO.out i (by rw [← HN.out]; exact hi)⟩
      have HBD : Hid (accB ws j = bodyB ws) := by
        show _ = _
        unfold accB bodyB
        rw [List.take_of_length_le (by rw [HN.out]; exact Nat.le_refl _)]
      have HCR : Hid (crcL acc.data.toList = crcL (bodyB ws)) := by
        show _ = _
        rw [HA.out, HBD.out]
        rfl
      have hcb := crcL_bd (bodyB ws)
      have z3 : (acc ++ ⟨#[115, 117, 109, 32]⟩).size ≤ 3004 := by
        rw [ByteArray.size_append]
        have : (⟨#[115, 117, 109, 32]⟩ : ByteArray).size = 4 := rfl
        omega
      have HFE : Hid (acc ++ ⟨#[115, 117, 109, 32]⟩ ++ ⟨(Lib.itoa ((crcL (bodyB ws) : Nat) : Int)).toArray⟩ ++ ⟨#[10]⟩ = str (batchT ws)) := by
        have e1 : (⟨#[115, 117, 109, 32]⟩ : ByteArray) = str [115, 117, 109, 32] := rfl
        have e2 : (⟨(Lib.itoa ((crcL (bodyB ws) : Nat) : Int)).toArray⟩ : ByteArray) = str (Lib.itoa ((crcL (bodyB ws) : Nat) : Int)) := rfl
        have e3 : (⟨#[10]⟩ : ByteArray) = str [10] := rfl
        show _ = _
        unfold batchT
        rw [if_pos HOK.out, HA.out, HBD.out, e1, e2, e3, str_add, str_add, str_add]
        simp [sumB]
      have z4 : (⟨(Lib.itoa ((crcL (bodyB ws) : Nat) : Int)).toArray⟩ : ByteArray).size ≤ 21 := by
        have := Lib.itoa_length_le ((crcL (bodyB ws) : Nat) : Int) (by omega) (by omega)
        simpa [ByteArray.size] using this
      go_wp2_with fail
      refine (specCrc_any acc _ (by omega)).mono ?_
      rintro e w2 ⟨rfl, hw⟩
      subst w2
      rw [HCR.out]
      go_wp2_with fail
      refine (specNum _ _ (by omega) (by omega)).mono ?_
      rintro e w2 ⟨rfl, hb⟩
      have HB2 := Lib.hid (below_step HB.out HB.out.size hb)
      clear hb
      generalize (⟨(Lib.itoa ((crcL (bodyB ws) : Nat) : Int)).toArray⟩ : ByteArray) = tc at *
      have z5 : (acc ++ ⟨#[115, 117, 109, 32]⟩ ++ tc).size ≤ 3100 := by rw [ByteArray.size_append]; omega
      have z6 : (acc ++ ⟨#[115, 117, 109, 32]⟩ ++ tc ++ ⟨#[10]⟩).size ≤ 3200 := by
        rw [ByteArray.size_append]
        have : (⟨#[10]⟩ : ByteArray).size = 1 := rfl
        omega
      go_wp2
      go_ret
      exact ⟨by rw [← HFE.out]; rfl, HB2.out⟩

end Go.Proofs.YtbbmpfkijhhemaaGreatDoor

namespace Go.Proofs.YtbbmpfkijhhemaaGreatDoor
open Go.ChangeShapes Go.WideShapes Go.ChangeAt Go.RowKit Go.Joins
set_option maxRecDepth 100000

def ValidAt (t : List UInt8) (ws : List Wr) : Prop := okWs ws = true ∧ batchT ws <+: t

def restB (ws : List Wr) (k : Nat) : List UInt8 := (ws.drop k).flatMap lineW ++ (sumB ws ++ [10])

theorem batchT_rest {ws : List Wr} (h : okWs ws = true) : batchT ws = headB ws.length ++ 10 :: restB ws 0 := by
  unfold batchT restB bodyB
  rw [if_pos h]
  simp

theorem restB_next {ws : List Wr} {k : Nat} (h : k < ws.length) : restB ws k = textR (ws.getD k wz) ++ 10 :: restB ws (k + 1) := by
  unfold restB
  have e : ws.drop k = ws.getD k wz :: ws.drop (k + 1) := by
    rw [List.drop_eq_getElem_cons h]
    simp [List.getD, h]
  rw [e, List.flatMap_cons]
  simp [lineW]

theorem restB_end (ws : List Wr) : restB ws ws.length = sumB ws ++ 10 :: [] := by
  unfold restB
  simp

theorem no_line_sum (ws : List Wr) : (10 : UInt8) ∉ sumB ws := by
  intro hm
  unfold sumB at hm
  rcases List.mem_append.1 hm with h1 | h1
  · simp at h1
  · have := crcL_bd (bodyB ws)
    exact no_line_num ⟨by omega, by omega⟩ h1

theorem has_line {l r t : List UInt8} (h : l ++ 10 :: r <+: t) : (10 : UInt8) ∈ t := by
  obtain ⟨q, rfl⟩ := h
  simp

theorem valid_line {t : List UInt8} {ws : List Wr} (h : ValidAt t ws) : (10 : UInt8) ∈ t := by
  have h2 := h.2
  rw [batchT_rest h.1] at h2
  exact has_line h2

theorem valid_head {t l r : List UInt8} {ws : List Wr} (h : ValidAt t ws) (ht : t = l ++ 10 :: r) (hl : (10 : UInt8) ∉ l) : l = headB ws.length ∧ restB ws 0 <+: r := by
  have h2 := h.2
  rw [batchT_rest h.1] at h2
  obtain ⟨e, q, hq, -, q2⟩ := line_one hl (no_line_head (okWs_len h.1).2) (by rw [ht]; exact List.prefix_refl _) h2
  rw [ht] at hq
  have e2 : r = q := by
    have := List.append_cancel_left hq
    exact (List.cons.inj this).2
  exact ⟨e, by rw [e2]; exact q2⟩

theorem valid_next {t l r : List UInt8} {ws : List Wr} {k : Nat} (ho : okWs ws = true) (hk : k < ws.length) (h : restB ws k <+: t) (ht : t = l ++ 10 :: r) (hl : (10 : UInt8) ∉ l) : IsText l (ws.getD k wz) ∧ restB ws (k + 1) <+: r := by
  have o1 := (okWs_iff.1 ho).2 k hk
  rw [restB_next hk] at h
  obtain ⟨e, q, hq, -, q2⟩ := line_one hl (no_line_text o1) (by rw [ht]; exact List.prefix_refl _) h
  rw [ht] at hq
  have e2 : r = q := by
    have := List.append_cancel_left hq
    exact (List.cons.inj this).2
  exact ⟨⟨o1, e.symm⟩, by rw [e2]; exact q2⟩

theorem valid_last {t l r : List UInt8} {ws : List Wr} (h : restB ws ws.length <+: t) (ht : t = l ++ 10 :: r) (hl : (10 : UInt8) ∉ l) : l = sumB ws := by
  rw [restB_end] at h
  exact (line_one hl (no_line_sum ws) (by rw [ht]; exact List.prefix_refl _) h).1

def farB (ws : List Wr) (k : Nat) : Nat := (accB ws k).length

theorem farB_next {ws : List Wr} {k : Nat} (h : k < ws.length) : farB ws (k + 1) = farB ws k + (textR (ws.getD k wz)).length + 1 := by
  unfold farB
  rw [accB_next ws h]
  simp
  omega

theorem batchT_len {ws : List Wr} (h : okWs ws = true) : (batchT ws).length = farB ws ws.length + (sumB ws).length + 1 := by
  unfold batchT farB accB bodyB
  rw [if_pos h, List.take_length]
  simp
  omega

theorem prefix_extract {t q : List UInt8} (h : q <+: t) : t.take q.length = q := List.prefix_iff_eq_take.1 h |>.symm

end Go.Proofs.YtbbmpfkijhhemaaGreatDoor

namespace Go.Proofs.YtbbmpfkijhhemaaGreatDoor
open Go.ChangeShapes Go.WideShapes Go.ChangeAt Go.RowKit Go.Joins
set_option maxRecDepth 100000
attribute [local go_sem ↓] Go.wp_at_zero Go.wp_at_succ

theorem byte_at {s : ByteArray} {j : Nat} (h : j < s.size) : s.data.toList[j]? = some s[j] := by
  have hl : j < s.data.toList.length := by simpa using h
  rw [List.getElem?_eq_getElem hl]
  rfl

def NoEnd (s : ByteArray) (i j : Nat) : Prop := ∀ k, i ≤ k → k < j → s.data.toList[k]? ≠ some 10

theorem line_found {s : ByteArray} {i j : Nat} (hij : i ≤ j) (hj : j < s.size) (h : NoEnd s i j) (he : s[j] = 10) : ∃ l r, s.data.toList.drop i = l ++ 10 :: r ∧ (10 : UInt8) ∉ l ∧ l.length = j - i ∧ str l = s.extract i j := by
  have hl : j < s.data.toList.length := by simpa using hj
  refine ⟨(s.data.toList.drop i).take (j - i), s.data.toList.drop (j + 1), ?_, ?_, ?_, ?_⟩
  · have e1 : s.data.toList.drop j = 10 :: s.data.toList.drop (j + 1) := by
      rw [List.drop_eq_getElem_cons hl]
      congr 1
    have e2 := (List.take_append_drop (j - i) (s.data.toList.drop i)).symm
    rw [List.drop_drop, show i + (j - i) = j by omega, e1] at e2
    exact e2
  · intro hm
    obtain ⟨k, hk, he2⟩ := List.getElem_of_mem hm
    have hk2 : k < j - i := by
      have := hk
      simp at this
      omega
    refine h (i + k) (by omega) (by omega) ?_
    rw [← he2, List.getElem_take, List.getElem_drop]
    exact List.getElem?_eq_getElem (by omega)
  · simp
    omega
  · apply ByteArray.ext
    show ((s.data.toList.drop i).take (j - i)).toArray = (s.extract i j).data
    rw [ByteArray.data_extract]
    apply Array.ext'
    rw [Array.toList_extract, List.extract_eq_take_drop]

theorem line_none {s : ByteArray} {i : Nat} (h : NoEnd s i s.size) : (10 : UInt8) ∉ s.data.toList.drop i := by
  intro hm
  obtain ⟨k, hk, he⟩ := List.getElem_of_mem hm
  have hk2 : i + k < s.data.toList.length := by
    have := hk
    simp at this
    simp
    omega
  refine h (i + k) (by omega) (by simpa using hk2) ?_
  rw [← he, List.getElem_drop]
  exact List.getElem?_eq_getElem hk2

set_option maxHeartbeats 2000000 in
theorem line_any (s : ByteArray) (i : Nat) (w : World) (hs : s.size ≤ 1048576) (hi : i ≤ s.size) :
    Calls Tryz.prog 179 #[.string s, .int .i64 (i : Int)] w fun e w' => ((∃ l r, s.data.toList.drop i = l ++ 10 :: r ∧ (10 : UInt8) ∉ l ∧ e = .returned (.tuple #[.string (str l), .int .i64 ((i + l.length + 1 : Nat) : Int), .bool true])) ∨ ((10 : UInt8) ∉ s.data.toList.drop i ∧ e = .returned (.tuple #[.string ⟨#[]⟩, .int .i64 (i : Int), .bool false]))) ∧ w' = w := by
  go_enter Tryz.func179, Tryz.ntmps179
  go_wp2
  go_loopw [7] (fun t wr => ∃ j : Nat, i ≤ j ∧ j ≤ s.size ∧ t = .int .i64 j ∧ Hid (NoEnd s i j) ∧ wr = w) (fun t _ => s.size - (intOf t).toNat)
  case atStart => exact ⟨i, Nat.le_refl _, hi, rfl, fun k h1 h2 => absurd h2 (by omega), rfl⟩
  case round =>
    obtain ⟨j, hij, hj, rfl, HN, rfl⟩ := hrel
    by_cases hj' : j < s.size
    · have i1 : (0 : Int) ≤ (j : Int) := by omega
      have i2 : (j : Int) < (s.size : Int) := by omega
      by_cases he : s[j] = 10
      · have HF := Lib.hid (line_found hij hj' HN.out he)
        have hu : ((s[j].toNat : Nat) : Int) = 10 := by rw [he]; rfl
        have j1 : (i : Int) ≤ (j : Int) := by omega
        have j2 : (j : Int) ≤ (s.size : Int) := by omega
        go_wp2
        obtain ⟨l, r, q1, q2, q3, q4⟩ := HF.out
        have e3 : ((i + l.length + 1 : Nat) : Int) = (j : Int) + 1 := by omega
        exact bodyPost_ret (v := .tuple #[.string (s.extract i j), .int .i64 ((j : Int) + 1), .bool true]) (by simp [results, Tryz.results179, go_sem]) rfl ⟨.inl ⟨l, r, q1, q2, by rw [q4, e3]⟩, rfl⟩
      · have HN2 : Hid (NoEnd s i (j + 1)) := fun k h1 h2 => by
          by_cases hk : k < j
          · exact HN.out k h1 hk
          · obtain rfl : k = j := by omega
            rw [byte_at hj']
            simpa using he
        have hu : ¬ ((s[j].toNat : Nat) : Int) = 10 := fun h => he (by
          have h2 : s[j].toNat = 10 := by omega
          exact UInt8.toNat_inj.1 h2)
        go_wp2
        exact ⟨⟨j + 1, by omega, by omega, by go_num, HN2, trivial⟩, by simp [intOf]; omega⟩
    · have hjj : j = s.size := by omega
      subst hjj
      have HL := Lib.hid (line_none HN.out)
      go_wp2
      exact bodyPost_ret (v := .tuple #[.string ⟨#[]⟩, .int .i64 (i : Int), .bool false]) (by simp [results, Tryz.results179, go_sem]) rfl ⟨.inr ⟨HL.out, rfl⟩, rfl⟩

end Go.Proofs.YtbbmpfkijhhemaaGreatDoor

namespace Go.Proofs.YtbbmpfkijhhemaaGreatDoor
open Go.ChangeShapes Go.WideShapes Go.ChangeAt Go.RowKit Go.Joins
set_option maxRecDepth 100000

set_option maxHeartbeats 8000000 in
theorem words_any (s : ByteArray) (w : World) (hs : s.size ≤ 1048576) :
    Calls Tryz.prog 180 #[.string s, .int .u8 32] w fun e w' => ∃ g cp W, e = .returned (.slice (some ⟨g, 0, none⟩) W.length cp) ∧ W.length ≤ s.size + 1 ∧ NoBlank W ∧ glue W = s.data.toList ++ [32] ∧ StrRow w' w.heap.size g cp W ∧ Below w.heap.size w w' := by
  obtain ⟨i0, hi0, hx0⟩ := Option.map_eq_some_iff.1 infoString
  simp only [Prod.mk.injEq] at hx0
  have HI0 := Lib.hid hi0
  have HX0 := Lib.hid hx0
  clear hi0 hx0
  have hdl : s.data.toList.length = s.size := by simp
  have HDL := Lib.hid hdl
  clear hdl
  go_enter Tryz.func180, Tryz.ntmps180
  go_wp2
  go_loopw [5, 6, 7] (fun o f i wr => ∃ (k fr L g cp : Nat) (W : List ByteArray), k ≤ s.size + 1 ∧ i = .int .i64 k ∧ f = .int .i64 fr ∧ o = .slice (some ⟨g, 0, none⟩) L cp ∧ L ≤ k ∧ Hid (W.length = L) ∧ Hid (SplitTo s.data.toList k fr W) ∧ Hid (StrRow wr w.heap.size g cp W) ∧ Hid (Below w.heap.size w wr)) (fun _ _ i _ => s.size + 1 - (intOf i).toNat)
  case atStart => exact ⟨0, 0, 0, w.heap.size, 0, [], Nat.zero_le _, rfl, rfl, rfl, Nat.le_refl _, rfl, ⟨fun x hx => by simp at hx, .inl ⟨Nat.zero_le _, Nat.le_refl _, rfl, by simp⟩⟩, ⟨Nat.le_refl _, by simp, World.ownsRow_made w #[] 0 (Nat.le_refl _) (by simp [maxLen]) (by simp)⟩, (Below.refl _ _).alloc (Nat.le_refl _) _⟩
  case round =>
    obtain ⟨k, fr, L, g, cp, W, hk, rfl, rfl, rfl, hLk, HL, HS, HR, HB⟩ := hrel
    by_cases hk1 : k ≤ s.size
    · have hfr : fr ≤ k := split_from HS.out (by rw [HDL.out]; exact hk1)
      have j1 : (0 : Int) ≤ (fr : Int) := by omega
      have j2 : (fr : Int) ≤ (k : Int) := by omega
      have j3 : (k : Int) ≤ (s.size : Int) := by omega
      by_cases hk2 : k < s.size
      · have i1 : (0 : Int) ≤ (k : Int) := by omega
        have i2 : (k : Int) < (s.size : Int) := by omega
        have i3 : ¬ (k : Int) = (s.size : Int) := by omega
        have i4 : ((k : Int) == (s.size : Int)) = false := by simp; omega
        by_cases hb : s[k] = 32
        · have i5 : ((s[k].toNat : Int) == 32) = true := by
            rw [hb]
            rfl
          have HS8 := Lib.hid (split_word HS.out hk2 hb)
          clear HS hb
          have HBA : Hid (Below wr.heap.size wr (wr.alloc (.cells #[.string (s.extract fr k)] 9))) := (Below.refl _ _).alloc (Nat.le_refl _) _
          have HOW : Hid ((wr.alloc (.cells #[.string (s.extract fr k)] 9)).ownsRow w.heap.size 9 1 (.slice (some ⟨g, 0, none⟩) L cp) L (W.map Value.string)) := by
            have := (HR.out.below HBA.out).own
            rw [HL.out] at this
            exact this
          have hsz : w.heap.size ≤ wr.heap.size := HB.out.size
          go_wp2_with (at_builtin; refine wpList_append_lies _ (by rfl) _ _ _ (by rfl) w.heap.size 9 i0 (.string ⟨#[]⟩) 1 16 Tryz.underlying182 HI0.out HX0.out.1 HX0.out.2.1 HX0.out.2.2 (by rfl) (by omega) (.slice (some ⟨g, 0, none⟩) L cp) L (W.map Value.string) (by rfl) HOW.out ⟨wr.heap.size, 0, none⟩ 1 1 [.string (s.extract fr k)] (by rfl) (by rfl) (World.news_of_block (cs := #[.string (s.extract fr k)]) (t := 9) (fr := (0, 0)) (heap_alloc_new wr _)) (by simp [Value.oneCell']) (by omega) (by unfold maxLen; omega) (by omega) (by simp; omega) _ rfl ?_; intro g3 cp3 W5 hown hgrow hg3 _; refine Hid.out ?_)
          refine Lib.hid ?_
          have HL8 : Hid ((W ++ [s.extract fr k]).length = L + 1) := by
            rw [List.length_append, HL.out]
            exact Lib.hid rfl
          have HR8 : Hid (StrRow W5 w.heap.size g3 cp3 (W ++ [s.extract fr k])) := by
            refine ⟨(hown.lt g3 rfl).1, (hown.lt g3 rfl).2, ?_⟩
            rw [HL8.out, List.map_append]
            exact hown
          have hgw : w.heap.size ≤ g := HR.out.le
          have HB8 : Hid (Below w.heap.size w W5) := (HB.out.alloc hsz _).grown hgrow (by simp; omega) (fun j hj => by
            simp only [Value.ownBlock, Option.some.injEq] at hj
            omega)
          clear hown hgrow HBA HOW HL HR HB
          go_wp2
          exact ⟨⟨k + 1, k + 1, L + 1, g3, cp3, _, by omega, by go_num, by go_num, rfl, by omega, HL8, HS8, HR8, HB8⟩, by simp [intOf]; omega⟩
        · have i5 : ((s[k].toNat : Int) == 32) = false := by
            simp only [beq_eq_false_iff_ne]
            intro h
            exact hb (UInt8.toNat_inj.1 (by rw [show s[k].toNat = 32 by omega]; rfl))
          have HS8 := Lib.hid (split_go HS.out hk2 hb)
          clear HS hb
          go_wp2
          exact ⟨⟨k + 1, fr, L, g, cp, W, by omega, by go_num, rfl, rfl, by omega, HL, HS8, HR, HB⟩, by simp [intOf]; omega⟩
      · have hke : k = s.size := by omega
        subst hke
        have HS8 := Lib.hid (split_last HS.out)
        clear HS hk1 hk2 j3
        have HBA : Hid (Below wr.heap.size wr (wr.alloc (.cells #[.string (s.extract fr s.size)] 9))) := (Below.refl _ _).alloc (Nat.le_refl _) _
        have HOW : Hid ((wr.alloc (.cells #[.string (s.extract fr s.size)] 9)).ownsRow w.heap.size 9 1 (.slice (some ⟨g, 0, none⟩) L cp) L (W.map Value.string)) := by
          have := (HR.out.below HBA.out).own
          rw [HL.out] at this
          exact this
        have hsz : w.heap.size ≤ wr.heap.size := HB.out.size
        go_wp2_with (at_builtin; refine wpList_append_lies _ (by rfl) _ _ _ (by rfl) w.heap.size 9 i0 (.string ⟨#[]⟩) 1 16 Tryz.underlying182 HI0.out HX0.out.1 HX0.out.2.1 HX0.out.2.2 (by rfl) (by omega) (.slice (some ⟨g, 0, none⟩) L cp) L (W.map Value.string) (by rfl) HOW.out ⟨wr.heap.size, 0, none⟩ 1 1 [.string (s.extract fr s.size)] (by rfl) (by rfl) (World.news_of_block (cs := #[.string (s.extract fr s.size)]) (t := 9) (fr := (0, 0)) (heap_alloc_new wr _)) (by simp [Value.oneCell']) (by omega) (by unfold maxLen; omega) (by omega) (by simp; omega) _ rfl ?_; intro g3 cp3 W5 hown hgrow hg3 _; refine Hid.out ?_)
        refine Lib.hid ?_
        have HL8 : Hid ((W ++ [s.extract fr s.size]).length = L + 1) := by
          rw [List.length_append, HL.out]
          exact Lib.hid rfl
        have HR8 : Hid (StrRow W5 w.heap.size g3 cp3 (W ++ [s.extract fr s.size])) := by
          refine ⟨(hown.lt g3 rfl).1, (hown.lt g3 rfl).2, ?_⟩
          rw [HL8.out, List.map_append]
          exact hown
        have hgw : w.heap.size ≤ g := HR.out.le
        have HB8 : Hid (Below w.heap.size w W5) := (HB.out.alloc hsz _).grown hgrow (by simp; omega) (fun j hj => by
          simp only [Value.ownBlock, Option.some.injEq] at hj
          omega)
        clear hown hgrow HBA HOW HL HR HB
        go_wp2
        exact ⟨⟨s.size + 1, s.size + 1, L + 1, g3, cp3, _, by omega, by go_num, by go_num, rfl, by omega, HL8, HS8, HR8, HB8⟩, by simp [intOf]⟩
    · have hke : k = s.size + 1 := by omega
      subst hke
      obtain ⟨hnb, hgl⟩ : NoBlank W ∧ glue W = s.data.toList ++ [32] := by
        obtain ⟨h1, ⟨h2, _⟩ | ⟨_, h3⟩⟩ := HS.out
        · have := HDL.out
          omega
        · exact ⟨h1, h3⟩
      have HNB := Lib.hid hnb
      have HGL := Lib.hid hgl
      have j4 : ¬ ((s.size + 1 : Nat) : Int) ≤ (s.size : Int) := by omega
      clear hnb hgl HS
      go_wp2
      go_ret
      exact ⟨g, cp, W, by rw [HL.out]; rfl, by rw [HL.out]; exact hLk, HNB.out, HGL.out, HR.out, HB.out⟩

end Go.Proofs.YtbbmpfkijhhemaaGreatDoor

namespace Go.Proofs.YtbbmpfkijhhemaaGreatDoor
open Go.ChangeShapes Go.WideShapes Go.ChangeAt Go.RowKit Go.Joins
set_option maxRecDepth 100000

structure RBox (w : World) (b : Nat) (k c s q v : Int) (de : Bool) (x : Option Addr) (len cap : Nat) : Prop where
  lt : b < w.heap.size
  c0 : w.cell? ⟨b, 0, none⟩ = some (.int .i64 k)
  c1 : w.cell? ⟨b, 1, none⟩ = some (.int .i64 c)
  c2 : w.cell? ⟨b, 2, none⟩ = some (.int .i64 s)
  c3 : w.cell? ⟨b, 3, none⟩ = some (.int .i64 q)
  c4 : w.cell? ⟨b, 4, none⟩ = some (.int .i64 v)
  c5 : w.cell? ⟨b, 5, none⟩ = some (.bool de)
  c6 : w.cell? ⟨b, 6, none⟩ = some (.slice x len cap)
  fz : ∀ o, w.frozen? ⟨b, o, none⟩ = false

theorem frozen_ofb {w w' : World} {b o : Nat} (h : w'.heap[b]? = w.heap[b]?) : w'.frozen? ⟨b, o, none⟩ = w.frozen? ⟨b, o, none⟩ := by
  unfold World.frozen?
  simp only [h]

theorem RBox.start (w : World) (k c s q v : Int) (de : Bool) (x : Option Addr) (len cap : Nat) (t : Nat) : RBox (w.alloc (.cells #[.int .i64 k, .int .i64 c, .int .i64 s, .int .i64 q, .int .i64 v, .bool de, .slice x len cap] t)) w.heap.size k c s q v de x len cap :=
  ⟨by simp, by simp [go_sem], by simp [go_sem], by simp [go_sem], by simp [go_sem], by simp [go_sem], by simp [go_sem], by simp [go_sem], fun o => by simp [go_sem]⟩

theorem RBox.hole {w w' : World} {B b : Nat} {k c s q v : Int} {de : Bool} {x : Option Addr} {len cap : Nat} (h : RBox w b k c s q v de x len cap) (hh : Hole B w w') (hn : b ≠ B) : RBox w' b k c s q v de x len cap :=
  ⟨Nat.lt_of_lt_of_le h.lt hh.size, (hh.cell h.lt hn).trans h.c0, (hh.cell h.lt hn).trans h.c1, (hh.cell h.lt hn).trans h.c2, (hh.cell h.lt hn).trans h.c3, (hh.cell h.lt hn).trans h.c4, (hh.cell h.lt hn).trans h.c5, (hh.cell h.lt hn).trans h.c6, fun o => (hh.frozen h.lt hn).trans (h.fz o)⟩

theorem RBox.set0 {w : World} {b : Nat} {k c s q v : Int} {de : Bool} {x : Option Addr} {len cap : Nat} (h : RBox w b k c s q v de x len cap) (y : Int) : RBox (w.setCell ⟨b, 0, none⟩ (.int .i64 y)) b y c s q v de x len cap :=
  ⟨by simpa [World.setCell] using h.lt, cell_set_same h.c0, cell_set_off h.c1 (by omega), cell_set_off h.c2 (by omega), cell_set_off h.c3 (by omega), cell_set_off h.c4 (by omega), cell_set_off h.c5 (by omega), cell_set_off h.c6 (by omega), fun o => by rw [World.frozen?_setCell]; exact h.fz o⟩

theorem RBox.set1 {w : World} {b : Nat} {k c s q v : Int} {de : Bool} {x : Option Addr} {len cap : Nat} (h : RBox w b k c s q v de x len cap) (y : Int) : RBox (w.setCell ⟨b, 1, none⟩ (.int .i64 y)) b k y s q v de x len cap :=
  ⟨by simpa [World.setCell] using h.lt, cell_set_off h.c0 (by omega), cell_set_same h.c1, cell_set_off h.c2 (by omega), cell_set_off h.c3 (by omega), cell_set_off h.c4 (by omega), cell_set_off h.c5 (by omega), cell_set_off h.c6 (by omega), fun o => by rw [World.frozen?_setCell]; exact h.fz o⟩

theorem RBox.set4 {w : World} {b : Nat} {k c s q v : Int} {de : Bool} {x : Option Addr} {len cap : Nat} (h : RBox w b k c s q v de x len cap) (y : Int) : RBox (w.setCell ⟨b, 4, none⟩ (.int .i64 y)) b k c s q y de x len cap :=
  ⟨by simpa [World.setCell] using h.lt, cell_set_off h.c0 (by omega), cell_set_off h.c1 (by omega), cell_set_off h.c2 (by omega), cell_set_off h.c3 (by omega), cell_set_same h.c4, cell_set_off h.c5 (by omega), cell_set_off h.c6 (by omega), fun o => by rw [World.frozen?_setCell]; exact h.fz o⟩

theorem RBox.set5 {w : World} {b : Nat} {k c s q v : Int} {de : Bool} {x : Option Addr} {len cap : Nat} (h : RBox w b k c s q v de x len cap) (y : Bool) : RBox (w.setCell ⟨b, 5, none⟩ (.bool y)) b k c s q v y x len cap :=
  ⟨by simpa [World.setCell] using h.lt, cell_set_off h.c0 (by omega), cell_set_off h.c1 (by omega), cell_set_off h.c2 (by omega), cell_set_off h.c3 (by omega), cell_set_off h.c4 (by omega), cell_set_same h.c5, cell_set_off h.c6 (by omega), fun o => by rw [World.frozen?_setCell]; exact h.fz o⟩

theorem RBox.set6 {w : World} {b : Nat} {k c s q v : Int} {de : Bool} {x : Option Addr} {len cap : Nat} (h : RBox w b k c s q v de x len cap) (y : Option Addr) (l' c' : Nat) : RBox (w.setCell ⟨b, 6, none⟩ (.slice y l' c')) b k c s q v de y l' c' :=
  ⟨by simpa [World.setCell] using h.lt, cell_set_off h.c0 (by omega), cell_set_off h.c1 (by omega), cell_set_off h.c2 (by omega), cell_set_off h.c3 (by omega), cell_set_off h.c4 (by omega), cell_set_off h.c5 (by omega), cell_set_same h.c6, fun o => by rw [World.frozen?_setCell]; exact h.fz o⟩

theorem RBox.set2 {w : World} {b : Nat} {k c s q v : Int} {de : Bool} {x : Option Addr} {len cap : Nat} (h : RBox w b k c s q v de x len cap) (y : Int) : RBox (w.setCell ⟨b, 2, none⟩ (.int .i64 y)) b k c y q v de x len cap :=
  ⟨by simpa [World.setCell] using h.lt, cell_set_off h.c0 (by omega), cell_set_off h.c1 (by omega), cell_set_same h.c2, cell_set_off h.c3 (by omega), cell_set_off h.c4 (by omega), cell_set_off h.c5 (by omega), cell_set_off h.c6 (by omega), fun o => by rw [World.frozen?_setCell]; exact h.fz o⟩

theorem RBox.set3 {w : World} {b : Nat} {k c s q v : Int} {de : Bool} {x : Option Addr} {len cap : Nat} (h : RBox w b k c s q v de x len cap) (y : Int) : RBox (w.setCell ⟨b, 3, none⟩ (.int .i64 y)) b k c s y v de x len cap :=
  ⟨by simpa [World.setCell] using h.lt, cell_set_off h.c0 (by omega), cell_set_off h.c1 (by omega), cell_set_off h.c2 (by omega), cell_set_same h.c3, cell_set_off h.c4 (by omega), cell_set_off h.c5 (by omega), cell_set_off h.c6 (by omega), fun o => by rw [World.frozen?_setCell]; exact h.fz o⟩

theorem RBox.of_block {w w' : World} {b : Nat} {k c s q v : Int} {de : Bool} {x : Option Addr} {len cap : Nat} (h : RBox w b k c s q v de x len cap) (hs : w.heap.size ≤ w'.heap.size) (hb : w'.heap[b]? = w.heap[b]?) : RBox w' b k c s q v de x len cap := by
  have e : ∀ o, w'.cell? ⟨b, o, none⟩ = w.cell? ⟨b, o, none⟩ := fun o => World.cell?_of_block (a := ⟨b, o, none⟩) hb
  exact ⟨Nat.lt_of_lt_of_le h.lt hs, (e 0).trans h.c0, (e 1).trans h.c1, (e 2).trans h.c2, (e 3).trans h.c3, (e 4).trans h.c4, (e 5).trans h.c5, (e 6).trans h.c6, fun o => (frozen_ofb hb).trans (h.fz o)⟩

theorem RBox.drew {w : World} {b : Nat} {k c s q v : Int} {de : Bool} {x : Option Addr} {len cap : Nat} (h : RBox w b k c s q v de x len cap) : RBox w.drew b k c s q v de x len cap := h.of_block (Nat.le_refl _) rfl

def StQ (de : Bool) (Wl : World) (T : Nat) (k c s q u : Int) (x : Option Addr) (o cpd : Nat) (lo : Nat) (w' : World) : Prop := Hole T Wl w' ∧ RBox w' T k c s q u de x o cpd ∧ lo ≤ w'.heap.size

def AppQ (z : Tmp) (ob : Option Nat) : ReachU := fun d w w' => if d = some z then w.grownBy w' ob else Below w.heap.size w w'

theorem appQ_below {z : Tmp} {ob : Option Nat} {d : Option Tmp} {w w' : World} (hd : d ≠ some z) (h : AppQ z ob d w w') : Below w.heap.size w w' := by
  unfold AppQ at h
  rw [if_neg hd] at h
  exact h

theorem stQ_step {z : Tmp} {de : Bool} {Wl : World} {T : Nat} {k c s q u : Int} {x : Option Addr} {o cpd lo : Nat} (hob : ∀ b, (Value.slice x o cpd).ownBlock = some b → Wl.heap.size ≤ b ∧ b < lo) (hT : T < Wl.heap.size) {d : Option Tmp} {w w' : World} (h : StQ de Wl T k c s q u x o cpd lo w) (hr : AppQ z (Value.slice x o cpd).ownBlock d w w') : StQ de Wl T k c s q u x o cpd lo w' := by
  obtain ⟨h1, h2, h3⟩ := h
  by_cases hd : d = some z
  · unfold AppQ at hr
    rw [if_pos hd] at hr
    have hb : ∀ b, b < Wl.heap.size → w'.heap[b]? = w.heap[b]? := fun b hlt => hr.block b (Nat.lt_of_lt_of_le hlt h1.size) fun e => by
      have := (hob b e.symm).1
      omega
    exact ⟨⟨hr.os.trans h1.os, hr.tape.trans h1.tape, hr.output.trans h1.output, Nat.le_trans h1.size hr.size, fun k hk hn => (hb k hk).trans (h1.block k hk hn)⟩, h2.of_block hr.size (hb T hT), Nat.le_trans h3 hr.size⟩
  · have hb := appQ_below hd hr
    exact ⟨h1.trans (Hole.of_below hb), h2.of_block hb.size (hb.block T h2.lt), Nat.le_trans h3 hb.size⟩

theorem appQ_refl {z : Tmp} {ob : Option Nat} {d : Option Tmp} (hd : d ≠ some z) (w : World) : AppQ z ob d w w := by
  unfold AppQ
  rw [if_neg hd]
  exact Below.refl _ _

theorem appQ_alloc {z : Tmp} {ob : Option Nat} {d : Option Tmp} (hd : d ≠ some z) (w : World) (o : Obj) : AppQ z ob d w (w.alloc o) := by
  unfold AppQ
  rw [if_neg hd]
  exact (Below.refl _ _).alloc (Nat.le_refl _) _

theorem appQ_grown {z : Tmp} {ob : Option Nat} {w w' : World} (h : w.grownBy w' ob) : AppQ z ob (some z) w w' := by
  unfold AppQ
  rw [if_pos rfl]
  exact h

def DepNewQ (ob : Option Nat) (d : Dp) : Fact := fun v w => ∃ g', v = .slice (some ⟨g', 0, none⟩) 1 1 ∧ g' < w.heap.size ∧ ob ≠ some g' ∧ ∀ j u, (dpVals d)[j]? = some u → w.cell? ((⟨g', 0, none⟩ : Addr).add j) = some u

theorem lasts_depNewQ (z : Tmp) (U : Tmp → Option Tmp) (dst : Option Tmp) (ob : Option Nat) (d : Dp) : lastsU U (AppQ z ob) dst (DepNewQ ob d) := by
  rintro d' _ _ v w w' ⟨g', h1, h2, h3, h4⟩ hr
  have hb : w'.heap[g']? = w.heap[g']? ∧ w.heap.size ≤ w'.heap.size := by
    by_cases hd : d' = some z
    · unfold AppQ at hr
      rw [if_pos hd] at hr
      exact ⟨hr.block g' h2 (fun e => h3 e.symm), hr.size⟩
    · have := appQ_below hd hr
      exact ⟨this.block g' h2, this.size⟩
  refine ⟨g', h1, Nat.lt_of_lt_of_le h2 hb.2, h3, fun j u hu => ?_⟩
  have := h4 j u hu
  rw [add_block] at this ⊢
  exact (World.cell?_of_block (a := ⟨g', j, none⟩) hb.1).trans this

def DepRowQ (G o : Nat) (ds : List Dp) : Fact := fun v w => ∃ g3 cp3, v = .slice (some ⟨g3, 0, none⟩) (o + 1) cp3 ∧ RowD w G (.slice (some ⟨g3, 0, none⟩) (o + 1) cp3) ds

theorem lasts_depRowQ (z : Tmp) (U : Tmp → Option Tmp) (ob : Option Nat) (G o : Nat) (ds : List Dp) : lastsU U (AppQ z ob) (some z) (DepRowQ G o ds) := by
  rintro d' hd _ v w w' ⟨g3, cp3, h1, h2⟩ hr
  exact ⟨g3, cp3, h1, h2.below (appQ_below hd hr)⟩

theorem RowD.holeQ {w w' : World} {B base : Nat} {v : Value} {ds : List Dp} (h : RowD w base v ds) (hh : Hole B w w') (hB : B < base) : RowD w' base v ds :=
  World.ownsRow.kept (row := some B) h ⟨hh.os, hh.tape, hh.output, hh.size, fun k hk hn => hh.block k hk (fun e => hn (by rw [e]))⟩ (by
    by_cases e : v.ownBlock = none
    · exact .inl e
    · refine .inr fun e2 => ?_
      have := (World.ownsRow.lt h B e2).1
      omega)

end Go.Proofs.YtbbmpfkijhhemaaGreatDoor

namespace Go.Proofs.YtbbmpfkijhhemaaGreatDoor
open Go.ChangeShapes Go.WideShapes Go.ChangeAt Go.RowKit Go.Joins
attribute [local go_sem ↓] Go.wp_at_zero Go.wp_at_succ

def intV (z : Int) : Value := .int .i64 z

theorem infoInt : (Tryz.prog.info? 3).map (fun i => (i.zero, i.size, i.bytes)) = some (some (.int .i64 0), 1, 8) := by kernel_rfl

def IsInts (w : World) (a : Option Addr) (zs : List Int) : Prop :=
  zs = [] ∨ ∃ b, a = some ⟨b, 0, none⟩ ∧ b < w.heap.size ∧ ∀ i, i < zs.length → w.cell? ⟨b, i, none⟩ = some (.int .i64 (zs.getD i 0))

theorem IsInts.below {w w' : World} {a : Option Addr} {zs : List Int} (h : IsInts w a zs) (hb : Below w.heap.size w w') : IsInts w' a zs := by
  rcases h with h | ⟨b, ha, hlt, hh⟩
  · exact .inl h
  · exact .inr ⟨b, ha, Nat.lt_of_lt_of_le hlt hb.size, fun i hi => (hb.cell (p := ⟨b, i, none⟩) hlt).trans (hh i hi)⟩

theorem IsInts.at {w w' : World} {a : Option Addr} {zs : List Int} (h : IsInts w a zs) (hb : Below w.heap.size w w') {k : Nat} (hk : k < zs.length) : ∃ b, a = some ⟨b, 0, none⟩ ∧ b < w'.heap.size ∧ w'.cell? ⟨b, k, none⟩ = some (.int .i64 (zs.getD k 0)) := by
  rcases h.below hb with h | ⟨b, ha, hlt, hh⟩
  · subst h
    simp at hk
  · exact ⟨b, ha, hlt, hh k hk⟩

def OwnI (w : World) (lo hi : Nat) (a : Option Addr) (zs : List Int) : Prop :=
  zs = [] ∨ ∃ b, a = some ⟨b, 0, none⟩ ∧ lo ≤ b ∧ b < hi ∧ b < w.heap.size ∧ (∀ i, i < zs.length → w.cell? ⟨b, i, none⟩ = some (.int .i64 (zs.getD i 0))) ∧ ∀ o, w.frozen? ⟨b, o, none⟩ = false

theorem OwnI.below {w w' : World} {lo hi : Nat} {a : Option Addr} {zs : List Int} (h : OwnI w lo hi a zs) (hb : Below w.heap.size w w') : OwnI w' lo hi a zs := by
  rcases h with h | ⟨b, ha, h1, h2, hlt, hh, hf⟩
  · exact .inl h
  · exact .inr ⟨b, ha, h1, h2, Nat.lt_of_lt_of_le hlt hb.size, fun i hi => (hb.cell (p := ⟨b, i, none⟩) hlt).trans (hh i hi), fun o => (hb.frozen (p := ⟨b, o, none⟩) hlt).trans (hf o)⟩

theorem OwnI.only {w w' : World} {S : Nat → Prop} {lo hi : Nat} {a : Option Addr} {zs : List Int} (h : OwnI w lo hi a zs) (ho : Only S w w') (hS : ∀ x, S x → x < lo) : OwnI w' lo hi a zs := by
  rcases h with h | ⟨b, ha, h1, h2, hlt, hh, hf⟩
  · exact .inl h
  · have hb : w'.heap[b]? = w.heap[b]? := ho.block b fun e => by have := hS b e; omega
    exact .inr ⟨b, ha, h1, h2, by rw [ho.size]; exact hlt, fun i hi => (World.cell?_of_block (a := ⟨b, i, none⟩) hb).trans (hh i hi), fun o => (ho.frozen _).trans (hf o)⟩

def RowI (w : World) (base : Nat) (v : Value) (zs : List Int) : Prop := w.ownsRow base 3 1 v zs.length (zs.map intV)

theorem RowI.form {w : World} {base : Nat} {v : Value} {zs : List Int} (h : RowI w base v zs) : ∃ a cap, v = .slice a zs.length cap ∧ OwnI w base w.heap.size a zs := by
  rcases h.2 with ⟨h1, h2⟩ | ⟨g, cap, cur, h1, h2, h3, _⟩
  · exact ⟨none, 0, by rw [h1, h2], .inl (List.length_eq_zero_iff.1 h2)⟩
  · have hlt : g < w.heap.size := (Array.getElem?_eq_some_iff.1 h3).1
    subst h1
    refine ⟨_, cap, rfl, .inr ⟨g, rfl, h2, hlt, hlt, fun i hi => ?_, fun o => World.ownsRow.frozenAt h o⟩⟩
    rw [World.ownsRow.cellAt h i (by omega)]
    simp [intV, List.getD, hi]

theorem RowI.below {w w' : World} {base : Nat} {v : Value} {zs : List Int} (h : RowI w base v zs) (hb : Below w.heap.size w w') : RowI w' base v zs :=
  World.ownsRow.kept (row := none) h ⟨hb.os, hb.tape, hb.output, hb.size, fun k hk _ => hb.block k hk⟩ (by
    by_cases e : v.ownBlock = none
    · exact .inl e
    · exact .inr e)

theorem RowI.mono {w : World} {base base' : Nat} {v : Value} {zs : List Int} (h : RowI w base v zs) (hb : base' ≤ base) : RowI w base' v zs := by
  refine ⟨h.1, ?_⟩
  rcases h.2 with h1 | ⟨g, cap, cur, h1, h2, h3⟩
  · exact .inl h1
  · exact .inr ⟨g, cap, cur, h1, Nat.le_trans hb h2, h3⟩

theorem oneI_cells (w : World) (t : Nat) (z : Int) : ∀ j u, ([intV z] : List Value)[j]? = some u → (w.alloc (.cells #[.int .i64 z] t)).cell? ((⟨w.heap.size, 0, none⟩ : Addr).add j) = some u := by
  intro j u hu
  have e1 : (⟨w.heap.size, 0, none⟩ : Addr).add j = ⟨w.heap.size, j, none⟩ := by
    unfold Addr.add
    split
    · rename_i h
      rw [h]
    · simp
  rw [e1, cell_of_row _ _ j _ t (0, 0) (heap_alloc_new w _), ← hu]
  simp [intV]

theorem intV_one (zs : List Int) : ∀ u ∈ zs.map intV, u.oneCell' = true := by
  intro u hu
  obtain ⟨z, _, rfl⟩ := List.mem_map.1 hu
  rfl

def MarkedI (w : World) (a : Option Addr) (n : Nat) (k : Int) : Prop := n = 0 ∨ ∃ b, a = some ⟨b, 0, none⟩ ∧ b < w.heap.size ∧ CellsAre w b n (markFn k)

theorem MarkedI.below {w w' : World} {a : Option Addr} {n : Nat} {k : Int} (h : MarkedI w a n k) (hb : Below w.heap.size w w') : MarkedI w' a n k := by
  rcases h with h | ⟨b, ha, hlt, hc⟩
  · exact .inl h
  · exact .inr ⟨b, ha, Nat.lt_of_lt_of_le hlt hb.size, hc.of_block (hb.block b hlt)⟩

end Go.Proofs.YtbbmpfkijhhemaaGreatDoor
