import Derived.Test.YtidpcjcnhklmpalGreatDoorPack3
import Derived.Test.YtidpcjcnhklmpalGreatDoorPack1
import Derived.Lib.Hide
import Derived.Laws.BitsAllLaws
import Derived.Shelf.Strings.Search3
import Derived.Shelf.Strings.Prefix
import Derived.Test.YtidpcjcnhklmpalGreatDoorProg
import Derived.BigQuiet
/- A write's text, read back: what a reader that reads word by word knows. -/
namespace Go.Proofs.YtidpcjcnhklmpalGreatDoor
open Go.ChangeShapes Go.WideShapes Go.ChangeAt Go.RowKit Go.Joins

theorem depKey_ge {xs : List Dp} (h : depsOkB xs = true) : ∀ i, i < xs.length → (i : Int) ≤ (xs.getD i dz).k
  | 0, hi => by
    have := btw_bounds (dep_key h hi)
    simpa using this.1
  | i + 1, hi => by
    have ih := depKey_ge h i (by omega)
    unfold depsOkB at h
    have := List.all_eq_true.1 h (i + 1) (List.mem_range.2 hi)
    simp only [depGood, Bool.and_eq_true, decide_eq_true_eq] at this
    rcases this.2.2 with h1 | h1
    · omega
    · simp only [Nat.add_sub_cancel] at h1
      omega

theorem depR_len {xs : List Dp} (h : depsOkB xs = true) : xs.length ≤ 6 := by
  by_cases h0 : xs.length = 0
  · omega
  · have h1 := depKey_ge h (xs.length - 1) (by omega)
    have h2 := btw_bounds (dep_key h (show xs.length - 1 < xs.length by omega))
    omega

def Sml (n : Int) : Prop := -1000000 ≤ n ∧ n ≤ 1000000

theorem sml_of {n lo hi : Int} (h : btw n lo hi = true) (h0 : -1000000 ≤ lo) (h1 : hi ≤ 1000000) : Sml n := by
  have := btw_bounds h
  exact ⟨by omega, by omega⟩

theorem sml_tag {c s q : Int} (h : tagOkB c s q = true) : Sml c ∧ Sml s ∧ Sml q := by
  unfold tagOkB at h
  simp only [Bool.and_eq_true] at h
  exact ⟨sml_of h.1 (by omega) (by omega), sml_of h.2.1 (by omega) (by omega), sml_of h.2.2 (by omega) (by omega)⟩

theorem sml_ns {x : Wr} (h : okR x = true) : ∀ n ∈ nsR x, Sml n := by
  obtain ⟨k, c, s, q, v, de, xs⟩ := x
  obtain ⟨o1, o2, o3, o4, -⟩ := ok_parts h
  obtain ⟨t1, t2, t3⟩ := sml_tag o2
  have hl := depR_len o4
  simp only at hl
  intro n hn
  unfold nsR headNs at hn
  rcases List.mem_append.1 hn with hn | hn
  · simp only [List.mem_cons, List.not_mem_nil, or_false] at hn
    rcases hn with rfl | rfl | rfl | rfl | rfl | rfl | rfl
    · exact sml_of o1 (by omega) (by omega)
    · exact t1
    · exact t2
    · exact t3
    · exact sml_of (val_btw o3) (by omega) (by omega)
    · cases de <;> exact ⟨by decide, by decide⟩
    · exact ⟨by omega, by omega⟩
  · obtain ⟨d, hd, hn⟩ := List.mem_flatMap.1 hn
    obtain ⟨i, hi, rfl⟩ := List.mem_iff_getElem.1 hd
    have e : xs.getD i dz = xs[i] := by simp [List.getD, hi]
    have h1 := dep_key o4 hi
    have h2 := depsOk_tag o4 hi
    rw [e] at h1 h2
    obtain ⟨u1, u2, u3⟩ := sml_tag h2
    unfold depNs at hn
    simp only [List.mem_cons, List.not_mem_nil, or_false] at hn
    rcases hn with rfl | rfl | rfl | rfl
    · exact sml_of h1 (by omega) (by omega)
    · exact u1
    · exact u2
    · exact u3

theorem rng_ns {x : Wr} (h : okR x = true) : ∀ n ∈ nsR x, Rng n := fun n hn => by
  have := sml_ns h n hn
  exact ⟨by have := this.1; omega, by have := this.2; omega⟩

theorem itoa_short {n : Int} (h : Sml n) : (Lib.itoa n).length ≤ 8 := by
  obtain ⟨h0, h1⟩ := h
  have hu : n.natAbs < 10 ^ (6 + 1) := by
    have : (10 : Nat) ^ (6 + 1) = 10000000 := by decide
    omega
  have h2 := (dec_facts 6 n.natAbs hu).2.2.2
  unfold Lib.itoa
  split
  · simp
    omega
  · have e : n.toNat = n.natAbs := by omega
    rw [e]
    omega

theorem nums_short : ∀ {ns : List Int}, (∀ n ∈ ns, Sml n) → (numsText ns).length ≤ 9 * ns.length
  | [], _ => by simp [numsText]
  | n :: r, h => by
    have h1 := itoa_short (h n (by simp))
    have h2 := nums_short (ns := r) fun m hm => h m (by simp [hm])
    have e : numsText (n :: r) = (32 :: Lib.itoa n) ++ numsText r := by simp [numsText]
    rw [e, List.length_append, List.length_cons, List.length_cons]
    omega

/-- A word that is no numeral: the text is no write's. -/
theorem read_word {bs : List UInt8} {W : List ByteArray} (hW : NoBlank W) (hg : glue W = bs ++ [32]) {j : Nat} {y : ByteArray} (hj : W[j + 1]? = some y) {n : Int} (hs : NumSays y n false) (x : Wr) : ¬ IsText bs x := fun hx => by
  have hr := rng_ns hx.1
  have e := words_are hx hr hW hg
  rw [e] at hj
  simp only [wordsOf, List.getElem?_cons_succ, List.getElem?_map, Option.map_eq_some_iff] at hj
  obtain ⟨m, hm, rfl⟩ := hj
  have hmr := hr m (List.mem_of_getElem? hm)
  have := hs.2.2.2 m hmr.1 hmr.2 (by simp [str])
  simp at this

/-- All words are numerals: they are those of the write. -/
theorem read_all {bs : List UInt8} {W : List ByteArray} (hW : NoBlank W) (hg : glue W = bs ++ [32]) {zs : List Int} (hz : W.drop 1 = zs.map fun n => str (Lib.itoa n)) (hr : ∀ n ∈ zs, Rng n) {x : Wr} (hx : IsText bs x) : zs = nsR x := by
  have hr' := rng_ns hx.1
  have e := words_are hx hr' hW hg
  rw [e] at hz
  simp only [wordsOf, List.drop_succ_cons, List.drop_zero] at hz
  exact (map_itoa_inj hr' hr hz).symm

/-- Too few numbers, or not so many as dependencies ask: the text is no write's. -/
theorem read_count {bs : List UInt8} {W : List ByteArray} (hW : NoBlank W) (hg : glue W = bs ++ [32]) {zs : List Int} (hz : W.drop 1 = zs.map fun n => str (Lib.itoa n)) (hr : ∀ n ∈ zs, Rng n) (hc : zs.length < 7 ∨ zs.length % 4 ≠ 3) (x : Wr) : ¬ IsText bs x := fun hx => by
  have := read_all hW hg hz hr hx
  have hl := ns_len x
  rw [← this] at hl
  omega

/-- The write that the numbers say has another text: the text is no write's. -/
theorem read_other {bs : List UInt8} {W : List ByteArray} (hW : NoBlank W) (hg : glue W = bs ++ [32]) {zs : List Int} (hz : W.drop 1 = zs.map fun n => str (Lib.itoa n)) (hr : ∀ n ∈ zs, Rng n) (ho : textR (parseW zs) ≠ bs) (x : Wr) : ¬ IsText bs x := fun hx => by
  have := read_all hW hg hz hr hx
  rw [this, parse_back] at ho
  exact ho hx.2

theorem read_yes {bs : List UInt8} {x : Wr} (h : textR x = bs) (h0 : bs ≠ []) : IsText bs x := by
  refine ⟨?_, h⟩
  cases ho : okR x
  · exfalso
    unfold textR writeText at h
    have ho' : writeOkB x.k x.c x.s x.q x.v x.de x.xs = false := ho
    rw [ho'] at h
    exact h0 (by simpa using h.symm)
  · rfl

theorem text_is_one {bs : List UInt8} {x y : Wr} (hx : IsText bs x) (hy : IsText bs y) : x = y := by
  have e := words_are (W := wordsOf (nsR y)) hx (rng_ns hx.1) (no_blank_words (rng_ns hy.1)) (by rw [text_glue hy.1, hy.2])
  have h2 := map_itoa_inj (rng_ns hy.1) (rng_ns hx.1) (by simpa [wordsOf] using e)
  rw [← parse_back x, ← parse_back y, h2]

/-- A text of more than 400 bytes is no write's. -/
theorem text_len {bs : List UInt8} {x : Wr} (hx : IsText bs x) : bs.length ≤ 400 := by
  have h1 := nums_short (sml_ns hx.1)
  have h2 := ns_len x
  have h3 : x.xs.length ≤ 6 := depR_len (ok_parts hx.1).2.2.2.1
  have h4 := text_glue hx.1
  rw [glue_words, hx.2] at h4
  have h5 := congrArg List.length h4
  simp at h5
  omega

end Go.Proofs.YtidpcjcnhklmpalGreatDoor

/- The remainder of 32 bits with the polynomial of IEEE: plain facts; the contract of spec.Crc. -/
namespace Go.Proofs.YtidpcjcnhklmpalGreatDoor
open Go.ChangeShapes Go.WideShapes Go.ChangeAt Go.RowKit Go.Joins

/-- One step, for one bit. -/
def crcBit (x : Nat) : Nat := if x % 2 = 1 then (x / 2) ^^^ 3988292384 else x / 2

def crcBits : Nat → Nat → Nat
  | 0, x => x
  | k + 1, x => crcBit (crcBits k x)

def crcByte (x : Nat) (b : UInt8) : Nat := crcBits 8 (x ^^^ b.toNat)

def crcRun (bs : List UInt8) : Nat := bs.foldl crcByte 4294967295

def crcL (bs : List UInt8) : Nat := crcRun bs ^^^ 4294967295

set_option maxRecDepth 100000 in
theorem xor32 {a b : Nat} (ha : a < 4294967296) (hb : b < 4294967296) : a ^^^ b < 4294967296 := Nat.xor_lt_two_pow (n := 32) (by omega) (by omega)

set_option maxRecDepth 100000 in
theorem crcBit_bd {x : Nat} (h : x < 4294967296) : crcBit x < 4294967296 := by
  unfold crcBit
  split
  · exact xor32 (by omega) (by omega)
  · omega

set_option maxRecDepth 100000 in
theorem crcBits_bd {x : Nat} (h : x < 4294967296) : ∀ k, crcBits k x < 4294967296
  | 0 => h
  | k + 1 => crcBit_bd (crcBits_bd h k)

set_option maxRecDepth 100000 in
theorem crcByte_bd {x : Nat} (h : x < 4294967296) (b : UInt8) : crcByte x b < 4294967296 :=
  crcBits_bd (xor32 h (by have := b.toNat_lt; omega)) 8

set_option maxRecDepth 100000 in
theorem crc_fold : ∀ (bs : List UInt8) (x : Nat), x < 4294967296 → bs.foldl crcByte x < 4294967296
  | [], _, h => h
  | b :: r, x, h => crc_fold r (crcByte x b) (crcByte_bd h b)

set_option maxRecDepth 100000 in
theorem crcRun_bd (bs : List UInt8) : crcRun bs < 4294967296 := crc_fold bs _ (by omega)

set_option maxRecDepth 100000 in
theorem crcL_bd (bs : List UInt8) : crcL bs < 4294967296 := xor32 (crcRun_bd bs) (by omega)

set_option maxRecDepth 100000 in
theorem crcRun_snoc (bs : List UInt8) (b : UInt8) : crcRun (bs ++ [b]) = crcByte (crcRun bs) b := by
  unfold crcRun
  rw [List.foldl_append]
  rfl

set_option maxRecDepth 100000 in
theorem crcRun_take {s : ByteArray} {k : Nat} (h : k < s.size) : crcRun (s.data.toList.take (k + 1)) = crcByte (crcRun (s.data.toList.take k)) s[k] := by
  have hl : k < s.data.toList.length := by simpa using h
  rw [List.take_succ_eq_append_getElem hl, crcRun_snoc]
  rfl

set_option maxRecDepth 100000 in
theorem i64_xor_nat {a b : Nat} (ha : a < 4294967296) (hb : b < 4294967296) : bits .xor .i64 (a : Int) (b : Int) = ((a ^^^ b : Nat) : Int) := by
  have hx := xor32 ha hb
  show IntKind.i64.wrap ((BitVec.ofInt 64 (a : Int) ^^^ BitVec.ofInt 64 (b : Int)).toNat : Int) = _
  rw [BitVec.toNat_xor, ofInt_u64 a (by omega), ofInt_u64 b (by omega), wrap_small _ (by omega) (by omega)]

set_option maxRecDepth 100000 in
set_option maxHeartbeats 2000000 in
theorem specCrc_any (s : ByteArray) (w : World) (hs : s.size ≤ 9223372036854775807) :
    Calls Tryz.prog 31 #[.string s] w fun e w' => e = .returned (.int .i64 (crcL s.data.toList : Nat)) ∧ w' = w := by
  go_enter Tryz.func31, Tryz.ntmps31
  go_wp2
  go_loopw [3, 4] (fun x i wr => ∃ k : Nat, k ≤ s.size ∧ i = .int .i64 k ∧ x = .int .i64 (crcRun (s.data.toList.take k) : Nat) ∧ wr = w) (fun _ i _ => s.size - (intOf i).toNat)
  case atStart => exact ⟨0, Nat.zero_le _, rfl, rfl, rfl⟩
  case round =>
    obtain ⟨k, hk, rfl, rfl, rfl⟩ := hrel
    by_cases hk' : k < s.size
    · have i1 : (0 : Int) ≤ (k : Int) := by omega
      have i2 : (k : Int) < (s.size : Int) := by omega
      have HT := Lib.hid (crcRun_take hk')
      have hb := crcRun_bd (s.data.toList.take k)
      have hc : (s[k].toNat : Nat) < 4294967296 := by have := s[k].toNat_lt; omega
      have hu : s[k].toNat < 256 := UInt8.toNat_lt _
      have hu' : wrap64 (s[k].toNat : Int) = (s[k].toNat : Int) := by unfold wrap64; omega
      have hx : bits .xor .i64 ((crcRun (s.data.toList.take k) : Nat) : Int) ((s[k].toNat : Nat) : Int) = ((crcRun (s.data.toList.take k) ^^^ s[k].toNat : Nat) : Int) := i64_xor_nat hb hc
      have hy := xor32 hb hc
      have HB : Hid (crcByte (crcRun (s.data.toList.take k)) s[k] = crcBits 8 (crcRun (s.data.toList.take k) ^^^ s[k].toNat)) := rfl
      go_wp2
      generalize crcRun (s.data.toList.take k) ^^^ s[k].toNat = y at *
      clear hx
      go_loopw [3, 5] (fun x i wq => ∃ j : Nat, j ≤ 8 ∧ i = .int .i64 j ∧ x = .int .i64 (crcBits j y : Nat) ∧ wq = wr) (fun _ i _ => 8 - (intOf i).toNat)
      case atStart => exact ⟨0, Nat.zero_le _, rfl, rfl, rfl⟩
      case round =>
        obtain ⟨j, hj, rfl, rfl, rfl⟩ := hrel
        by_cases hj' : j < 8
        · have j1 : (j : Int) < 8 := by omega
          have hz := crcBits_bd hy j
          have HS : Hid (crcBits (j + 1) y = crcBit (crcBits j y)) := rfl
          generalize crcBits j y = z at *
          have hz2 : (z / 2 : Nat) < 4294967296 := by omega
          have d1 : ((z : Int)).tmod 2 = ((z % 2 : Nat) : Int) := by rw [Int.tmod_eq_emod_of_nonneg (by omega)]; omega
          have d2 : ((z : Int)).tdiv 2 = ((z / 2 : Nat) : Int) := by rw [Int.tdiv_eq_ediv_of_nonneg (by omega)]; omega
          have hx : bits .xor .i64 ((z / 2 : Nat) : Int) 3988292384 = ((z / 2 ^^^ 3988292384 : Nat) : Int) := i64_xor_nat hz2 (b := 3988292384) (by omega)
          by_cases hm : z % 2 = 1
          · have HE : Hid (crcBits (j + 1) y = z / 2 ^^^ 3988292384) := by
              rw [HS.out]
              unfold crcBit
              rw [if_pos hm]
              exact Lib.hid rfl
            go_wp2
            refine ⟨⟨j + 1, by omega, by go_num, ?_, trivial⟩, by simp [intOf]; omega⟩
            have e2 : (z : Int) / 2 = ((z / 2 : Nat) : Int) := by omega
            rw [HE.out, e2, hx]
          · have HE : Hid (crcBits (j + 1) y = z / 2) := by
              rw [HS.out]
              unfold crcBit
              rw [if_neg hm]
              exact Lib.hid rfl
            have hm0 : z % 2 = 0 := by omega
            go_wp2
            refine ⟨⟨j + 1, by omega, by go_num, ?_, trivial⟩, by simp [intOf]; omega⟩
            have e2 : (z : Int) / 2 = ((z / 2 : Nat) : Int) := by omega
            rw [HE.out, e2]
        · have hjj : j = 8 := by omega
          subst hjj
          go_wp2
          exact ⟨⟨k + 1, by omega, by go_num, by rw [HT.out, HB.out], trivial⟩, by simp [intOf]; omega⟩
    · have hkk : k = s.size := by omega
      subst hkk
      have e : s.data.toList.take s.size = s.data.toList := List.take_of_length_le (by simp)
      rw [e]
      have hb := crcRun_bd s.data.toList
      have hx : bits .xor .i64 ((crcRun s.data.toList : Nat) : Int) 4294967295 = ((crcL s.data.toList : Nat) : Int) := i64_xor_nat hb (b := 4294967295) (by omega)
      go_wp2
      go_ret
      exact ⟨rfl, rfl⟩

end Go.Proofs.YtidpcjcnhklmpalGreatDoor

/- Batches of writes as text, and logs: plain facts. -/
namespace Go.Proofs.YtidpcjcnhklmpalGreatDoor
open Go.ChangeShapes Go.WideShapes Go.ChangeAt Go.RowKit Go.Joins

/-- The writes of a batch: at least one, at most six, each WriteOk. -/
def okWs (ws : List Wr) : Bool := decide (1 ≤ ws.length ∧ ws.length ≤ 6) && ws.all okR

def lineW (x : Wr) : List UInt8 := textR x ++ [10]

def headB (n : Nat) : List UInt8 := [98, 97, 116, 99, 104, 32] ++ Lib.itoa n

def bodyB (ws : List Wr) : List UInt8 := headB ws.length ++ 10 :: ws.flatMap lineW

def sumB (ws : List Wr) : List UInt8 := [115, 117, 109, 32] ++ Lib.itoa (crcL (bodyB ws) : Int)

def batchT (ws : List Wr) : List UInt8 := if okWs ws = true then bodyB ws ++ (sumB ws ++ [10]) else []

theorem okWs_all {ws : List Wr} (h : okWs ws = true) : ∀ x ∈ ws, okR x = true := by
  unfold okWs at h
  simp only [Bool.and_eq_true, List.all_eq_true] at h
  exact h.2

theorem okWs_len {ws : List Wr} (h : okWs ws = true) : 1 ≤ ws.length ∧ ws.length ≤ 6 := by
  unfold okWs at h
  simp only [Bool.and_eq_true, decide_eq_true_eq] at h
  exact h.1

theorem no_line_num {n : Int} (h : Rng n) : (10 : UInt8) ∉ Lib.itoa n := by
  obtain ⟨f1, _, _, _, f5, f6⟩ := itoa_parts h.1 h.2
  intro hm
  by_cases hn : n < 0
  · rw [f5 hn] at hm
    rcases List.mem_cons.1 hm with hm | hm
    · exact absurd hm (by decide)
    · exact absurd (f1 10 hm).1 (by decide)
  · rw [← f6 (by omega)] at hm
    exact absurd (f1 10 hm).1 (by decide)

theorem no_line_nums {ns : List Int} (h : ∀ n ∈ ns, Rng n) : (10 : UInt8) ∉ numsText ns := by
  intro hm
  unfold numsText at hm
  obtain ⟨n, hn, hb⟩ := List.mem_flatMap.1 hm
  rcases List.mem_cons.1 hb with hb | hb
  · exact absurd hb (by decide)
  · exact no_line_num (h n hn) hb

theorem no_line_text {x : Wr} (h : okR x = true) : (10 : UInt8) ∉ textR x := by
  intro hm
  have e := text_glue h
  rw [glue_words] at e
  have hm2 : (10 : UInt8) ∈ textR x ++ [32] := List.mem_append_left _ hm
  rw [← e] at hm2
  rcases List.mem_append.1 hm2 with h1 | h1
  · rcases List.mem_cons.1 h1 with h2 | h2
    · exact absurd h2 (by decide)
    · exact no_line_nums (rng_ns h) h2
  · simp at h1

/-- Two lines that begin the same text are the same. -/
theorem line_one : ∀ {l l' r r' s : List UInt8}, (10 : UInt8) ∉ l → (10 : UInt8) ∉ l' → l ++ 10 :: r <+: s → l' ++ 10 :: r' <+: s → l = l' ∧ ∃ t, s = l ++ 10 :: t ∧ r <+: t ∧ r' <+: t
  | [], [], r, r', s, _, _, h, h' => by
    obtain ⟨t, rfl⟩ := h
    refine ⟨rfl, r ++ t, by simp, List.prefix_append _ _, ?_⟩
    have h2 : 10 :: r' <+: 10 :: (r ++ t) := by simpa using h'
    exact (List.prefix_cons_inj 10).1 h2
  | [], c :: l', r, r', s, _, h2, h, h' => by
    exfalso
    obtain ⟨t, rfl⟩ := h
    have h3 : c :: (l' ++ 10 :: r') <+: 10 :: (r ++ t) := by simpa using h'
    have := (List.cons_prefix_cons.1 h3).1
    exact h2 (by rw [this]; simp)
  | c :: l, [], r, r', s, h1, _, h, h' => by
    exfalso
    obtain ⟨t, rfl⟩ := h'
    have h3 : c :: (l ++ 10 :: r) <+: 10 :: (r' ++ t) := by simpa using h
    have := (List.cons_prefix_cons.1 h3).1
    exact h1 (by rw [this]; simp)
  | c :: l, d :: l', r, r', s, h1, h2, h, h' => by
    cases s with
    | nil => exact absurd (List.prefix_nil.1 h) (by simp)
    | cons a s =>
      have k : c = a ∧ l ++ 10 :: r <+: s := by simpa using List.cons_prefix_cons.1 (by simpa using h)
      have k' : d = a ∧ l' ++ 10 :: r' <+: s := by simpa using List.cons_prefix_cons.1 (by simpa using h')
      obtain ⟨e, t, ht, q1, q2⟩ := line_one (fun hm => h1 (List.mem_cons_of_mem _ hm)) (fun hm => h2 (List.mem_cons_of_mem _ hm)) k.2 k'.2
      exact ⟨by rw [k.1, k'.1, e], t, by rw [ht, k.1]; rfl, q1, q2⟩

theorem lines_one : ∀ {ws vs : List Wr} {r r' s : List UInt8}, ws.length = vs.length → (∀ x ∈ ws, okR x = true) → (∀ x ∈ vs, okR x = true) → ws.flatMap lineW ++ r <+: s → vs.flatMap lineW ++ r' <+: s → ws = vs
  | [], [], _, _, _, _, _, _, _, _ => rfl
  | [], v :: vs, _, _, _, h, _, _, _, _ => by simp at h
  | x :: ws, [], _, _, _, h, _, _, _, _ => by simp at h
  | x :: ws, v :: vs, r, r', s, hl, h1, h2, h, h' => by
    have k : textR x ++ 10 :: (ws.flatMap lineW ++ r) <+: s := by simpa [lineW] using h
    have k' : textR v ++ 10 :: (vs.flatMap lineW ++ r') <+: s := by simpa [lineW] using h'
    have o1 := h1 x (by simp)
    have o2 := h2 v (by simp)
    obtain ⟨e, t, -, q1, q2⟩ := line_one (no_line_text o1) (no_line_text o2) k k'
    have e1 : x = v := text_is_one ⟨o1, rfl⟩ ⟨o2, e.symm⟩
    have e2 : ws = vs := lines_one (by simpa using hl) (fun y hy => h1 y (List.mem_cons_of_mem _ hy)) (fun y hy => h2 y (List.mem_cons_of_mem _ hy)) q1 q2
    rw [e1, e2]

theorem rng_small {n : Nat} (h : n ≤ 6) : Rng (n : Int) := ⟨by omega, by omega⟩

theorem no_line_head {n : Nat} (h : n ≤ 6) : (10 : UInt8) ∉ headB n := by
  intro hm
  unfold headB at hm
  rcases List.mem_append.1 hm with h1 | h1
  · simp at h1
  · exact no_line_num (rng_small h) h1

/-- Of the batches one at most has a text with which this one begins. -/
theorem batch_one {a b : List Wr} {s : List UInt8} (ha : okWs a = true) (hb : okWs b = true) (h : batchT a <+: s) (h' : batchT b <+: s) : a = b := by
  unfold batchT at h h'
  rw [if_pos ha] at h
  rw [if_pos hb] at h'
  have k : headB a.length ++ 10 :: (a.flatMap lineW ++ (sumB a ++ [10])) <+: s := by simpa [bodyB] using h
  have k' : headB b.length ++ 10 :: (b.flatMap lineW ++ (sumB b ++ [10])) <+: s := by simpa [bodyB] using h'
  obtain ⟨e, t, -, q1, q2⟩ := line_one (no_line_head (okWs_len ha).2) (no_line_head (okWs_len hb).2) k k'
  unfold headB at e
  have e1 := itoa_inj (rng_small (okWs_len ha).2) (rng_small (okWs_len hb).2) (List.append_cancel_left e)
  exact lines_one (by omega) (okWs_all ha) (okWs_all hb) q1 q2

theorem batch_pos {a : List Wr} (h : okWs a = true) : 0 < (batchT a).length := by
  unfold batchT
  rw [if_pos h]
  simp [bodyB, headB]

/-- The text of a log. -/
def logT (bs : List (List Wr)) : List UInt8 := bs.flatMap batchT

/-- The most batches with whose texts this text begins. -/
def IsLog (s : List UInt8) (bs : List (List Wr)) : Prop := (∀ b ∈ bs, okWs b = true) ∧ logT bs <+: s ∧ ∀ b, okWs b = true → ¬ logT bs ++ batchT b <+: s

theorem logT_cons (b : List Wr) (bs : List (List Wr)) : logT (b :: bs) = batchT b ++ logT bs := by simp [logT]

theorem prefix_left {a b s : List UInt8} (h : a ++ b <+: s) : a <+: s := List.IsPrefix.trans (List.prefix_append a b) h

theorem prefix_strip {a b t : List UInt8} (h : a ++ b <+: a ++ t) : b <+: t := (List.prefix_append_right_inj a).1 h

/-- Whatever batches a text begins with, they are the first of those that are read. -/
theorem log_first : ∀ {bs cs : List (List Wr)} {s : List UInt8}, IsLog s bs → (∀ b ∈ cs, okWs b = true) → logT cs <+: s → cs <+: bs
  | _, [], _, _, _, _ => List.nil_prefix
  | [], c :: cs, s, h, hc, hp => by
    exfalso
    rw [logT_cons] at hp
    exact h.2.2 c (hc c (by simp)) (by simpa [logT] using prefix_left hp)
  | b :: bs, c :: cs, s, h, hc, hp => by
    have h2 := h.2.1
    rw [logT_cons] at h2 hp
    have e : b = c := batch_one (h.1 b (by simp)) (hc c (by simp)) (prefix_left h2) (prefix_left hp)
    subst e
    obtain ⟨t, rfl⟩ := prefix_left h2
    have ih := log_first (bs := bs) (cs := cs) (s := t) ⟨fun x hx => h.1 x (List.mem_cons_of_mem _ hx), prefix_strip h2, fun x hx hq => h.2.2 x hx (by
      rw [logT_cons, List.append_assoc]
      exact (List.prefix_append_right_inj _).2 hq)⟩ (fun x hx => hc x (List.mem_cons_of_mem _ hx)) (prefix_strip hp)
    exact (List.prefix_cons_inj b).2 ih

theorem log_one {bs cs : List (List Wr)} {s : List UInt8} (h : IsLog s bs) (h' : IsLog s cs) : bs = cs := by
  have h1 := log_first h h'.1 h'.2.1
  have h2 := log_first h' h.1 h.2.1
  exact List.IsPrefix.eq_of_length h2 (Nat.le_antisymm h2.length_le h1.length_le)

/-- Of a log that is cut: the first of its batches; all of them, where they are whole. -/
theorem log_cut {bs cs : List (List Wr)} {s : List UInt8} {k : Nat} (h : IsLog s bs) (h' : IsLog (s.take k) cs) : cs <+: bs ∧ ((logT bs).length ≤ k → cs = bs) := by
  have h1 := log_first h h'.1 (List.IsPrefix.trans h'.2.1 (List.take_prefix k s))
  refine ⟨h1, fun hk => ?_⟩
  have h2 : logT bs <+: s.take k := by
    rw [List.prefix_take_iff]
    exact ⟨h.2.1, hk⟩
  have h3 := log_first h' h.1 h2
  exact (List.IsPrefix.eq_of_length h1 (Nat.le_antisymm h1.length_le h3.length_le))

end Go.Proofs.YtidpcjcnhklmpalGreatDoor

/- Contracts of eqWriteS and of the specification's MapOk. -/
namespace Go.Proofs.YtidpcjcnhklmpalGreatDoor
open Go.ChangeShapes Go.WideShapes Go.ChangeAt Go.RowKit Go.Joins
attribute [local go_sem ↓] Go.wp_at_zero Go.wp_at_succ

abbrev wrOf (x : Wr) (a : Option Addr) (cap : Nat) : Value := wrV x.k x.c x.s x.q x.v x.de a x.xs.length cap

abbrev okW (x : Wr) : Bool := writeOkB x.k x.c x.s x.q x.v x.de x.xs

/-- Each write's dependencies are not too many. -/
def Few (ws : List Wr) : Prop := ∀ i, i < ws.length → (ws.getD i wz).xs.length ≤ 1048576

theorem few_of_bulk {ws : List Wr} (h : bulk ws ≤ 1048576) : Few ws := fun i hi => Nat.le_trans (bulk_one ws i hi) h

/-- One write of a row, in this world and in each later one. -/
theorem HoldsWs.get {w w' : World} {b : Nat} {ws : List Wr} {γ : Nat → Nat} (h : HoldsWs w b ws γ) (hb : Below w.heap.size w w') {i n : Nat} (hn : ws.length = n) (hi : i < n) :
    ∃ cap, b < w'.heap.size ∧ WrAt w' b (i * 7) (ws.getD i wz) (some ⟨γ i, 0, none⟩) cap ∧ γ i < w'.heap.size ∧ HoldsDeps w' (γ i) 0 (ws.getD i wz).xs := by
  obtain ⟨⟨cap, h1⟩, h2, h3⟩ := (h.below hb).2 i (by omega)
  exact ⟨cap, (h.below hb).1, h1, h2, h3⟩

/-- One write of a slice that is not empty, in this world and in each later one. -/
theorem IsWs.at {w w' : World} {a : Option Addr} {ws : List Wr} (h : IsWs w a ws) (hb : Below w.heap.size w w') {k n : Nat} (hn : ws.length = n) (hk : k < n) :
    ∃ b o a' cap, a = some ⟨b, o, none⟩ ∧ b < w'.heap.size ∧ WrAt w' b (o + k * 7) (ws.getD k wz) a' cap ∧ IsDeps w' a' (ws.getD k wz).xs := by
  rcases h.below hb with h | ⟨b, o, ha, hlt, hh⟩
  · subst h
    simp at hn
    omega
  · obtain ⟨a', cap, h1, _, h3⟩ := hh k (by omega)
    exact ⟨b, o, a', cap, ha, hlt, h1, h3⟩

/-- One write of a slice, in every later world. -/
theorem IsWs.later {w : World} {a : Option Addr} {ws : List Wr} (h : IsWs w a ws) {k n : Nat} (hn : ws.length = n) (hk : k < n) :
    ∃ b o a' cap, a = some ⟨b, o, none⟩ ∧ ∀ w', Below w.heap.size w w' → b < w'.heap.size ∧ WrAt w' b (o + k * 7) (ws.getD k wz) a' cap ∧ IsDeps w' a' (ws.getD k wz).xs := by
  rcases h with h | ⟨b, o, ha, hlt, hh⟩
  · subst h
    simp at hn
    omega
  · obtain ⟨a', cap, h1, _, h3⟩ := hh k (by omega)
    exact ⟨b, o, a', cap, ha, fun w' hb => ⟨Nat.lt_of_lt_of_le hlt hb.size, h1.of_block (hb.block _ hlt), h3.below hb⟩⟩

theorem IsWs.keyAt {w w' : World} {b o : Nat} {ws : List Wr} (h : IsWs w (some ⟨b, o, none⟩) ws) (hb : Below w.heap.size w w') {k n : Nat} (hn : ws.length = n) (hk : k < n) : w'.cell? ⟨b, o + k * 7, none⟩ = some (.int .i64 (ws.getD k wz).k) := by
  obtain ⟨b', o', _, _, he, _, ⟨h0, _⟩, _⟩ := h.at hb hn hk
  injection he with he
  injection he with e1 e2
  subst e1 e2
  exact h0

theorem HoldsWs.isWs {w : World} {b : Nat} {ws : List Wr} {γ : Nat → Nat} (h : HoldsWs w b ws γ) (hx : Few ws) : IsWs w (some ⟨b, 0, none⟩) ws := by
  refine .inr ⟨b, 0, rfl, h.1, fun i hi => ?_⟩
  obtain ⟨⟨cap, h1⟩, h2, h3⟩ := h.2 i hi
  exact ⟨_, cap, by rw [Nat.zero_add]; exact h1, by have := hx i hi; unfold maxLen; omega, .inr ⟨_, _, rfl, h2, h3⟩⟩

set_option maxHeartbeats 2000000 in
theorem eqWriteS_gen (a a' : Option Addr) (n cap cap' : Nat) (ws : List Wr) (w : World) (hn : ws.length = n) (hm : n ≤ 1048576) (hx : Few ws) (hh : IsWs w a ws) (hh' : IsWs w a' ws) :
    Calls Tryz.prog 26 #[.slice a n cap, .slice a' n cap'] w fun e w' => e = .returned (.bool true) ∧ Below w.heap.size w w' := by
  have HH : Hid (IsWs w a ws) := hh
  have HH' : Hid (IsWs w a' ws) := hh'
  have HN : Hid (ws.length = n) := hn
  have HX : Hid (Few ws) := hx
  clear hh hh' hn hx
  go_enter Tryz.func26, Tryz.ntmps26
  go_wp2
  go_loopw [5] (fun i wr => ∃ k : Nat, k ≤ n ∧ i = .int .i64 k ∧ Hid (Below w.heap.size w wr)) (fun i _ => n - (intOf i).toNat)
  case atStart => exact ⟨0, Nat.zero_le _, rfl, Below.refl _ _⟩
  case round =>
    obtain ⟨k, hk, rfl, HB⟩ := hrel
    by_cases hk' : k < n
    · obtain ⟨b, o, ad, cp, rfl, hz, ⟨e0, e1, e2, e3, e4, e5, e6⟩, hd⟩ := HH.out.at HB.out HN.out hk'
      obtain ⟨b', o', ad', cp', rfl, hz', ⟨f0, f1, f2, f3, f4, f5, f6⟩, hd'⟩ := HH'.out.at HB.out HN.out hk'
      have i1 : (0 : Int) ≤ (k : Int) := by omega
      have i2 : (k : Int) < (n : Int) := by omega
      have HC : Hid (∀ p : Aft wr.heap.size wr, Calls Tryz.prog 38 #[wrOf (ws.getD k wz) ad cp, wrOf (ws.getD k wz) ad' cp'] p.now fun e w' => e = .returned (.bool true) ∧ Below p.now.heap.size p.now w') := fun p =>
        eqWrite_gen _ _ _ _ _ _ _ _ _ _ _ (ws.getD k wz).xs _ (HX.out k (by rw [HN.out]; exact hk')) rfl (hd.below p.below) (hd'.below p.below)
      clear hd hd' HH HH'
      generalize ws.getD k wz = x at *
      obtain ⟨xk, xc, xs', xq, xv, xd, xx⟩ := x
      simp only at e0 e1 e2 e3 e4 e5 e6 f0 f1 f2 f3 f4 f5 f6 HC
      go_wp2_with fail
      have ge0 := aft_cell hz e0
      have ge1 := aft_cell hz e1
      have ge2 := aft_cell hz e2
      have ge3 := aft_cell hz e3
      have ge4 := aft_cell hz e4
      have ge5 := aft_cell hz e5
      have ge6 := aft_cell hz e6
      have gf0 := aft_cell hz' f0
      have gf1 := aft_cell hz' f1
      have gf2 := aft_cell hz' f2
      have gf3 := aft_cell hz' f3
      have gf4 := aft_cell hz' f4
      have gf5 := aft_cell hz' f5
      have gf6 := aft_cell hz' f6
      have ne := aft_some wr
      refine wp_region_aft (by kernel_rfl) (by kernel_rfl) ?_
      repeat (first | go_big_quiet_step (first | (go_at_call 38; exact aft_of (HC.out _))))
      refine wpQuiet_nil ?_
      intro wq hq
      go_wp2
      exact ⟨⟨k + 1, by omega, by go_num, below_step HB.out HB.out.size hq⟩, by simp [intOf]; omega⟩
    · go_wp2
      go_ret
      exact ⟨rfl, HB.out⟩

theorem eqWriteS_same (b b' n cap cap' : Nat) (ws : List Wr) (γ γ' : Nat → Nat) (w : World) (hn : ws.length = n) (hm : n ≤ 1048576) (hx : Few ws) (hh : HoldsWs w b ws γ) (hh' : HoldsWs w b' ws γ') :
    Calls Tryz.prog 26 #[.slice (some ⟨b, 0, none⟩) n cap, .slice (some ⟨b', 0, none⟩) n cap'] w fun e w' => e = .returned (.bool true) ∧ Below w.heap.size w w' :=
  eqWriteS_gen _ _ n cap cap' ws w hn hm hx (hh.isWs hx) (hh'.isWs hx)

def wrGood (ws : List Wr) (i : Nat) : Bool := okW (ws.getD i wz) && decide (i = 0 ∨ (ws.getD (i - 1) wz).k < (ws.getD i wz).k)

def mapOkB (ws : List Wr) : Bool := (List.range ws.length).all (wrGood ws)

theorem mapOk_true {ws : List Wr} (h : ∀ i, i < ws.length → wrGood ws i = true) : mapOkB ws = true := by
  unfold mapOkB
  rw [List.all_eq_true]
  intro i hi
  exact h i (List.mem_range.1 hi)

theorem mapOk_false {ws : List Wr} {i : Nat} (hi : i < ws.length) (h : wrGood ws i = false) : mapOkB ws = false := by
  unfold mapOkB
  rw [List.all_eq_false]
  exact ⟨i, List.mem_range.2 hi, by simp [h]⟩

theorem good_next {ws : List Wr} {k : Nat} (h : ∀ j, j < k → wrGood ws j = true) (hk : wrGood ws k = true) : ∀ j, j < k + 1 → wrGood ws j = true := fun j hj => by
  by_cases h' : j < k
  · exact h j h'
  · have : j = k := by omega
    rw [this]
    exact hk

end Go.Proofs.YtidpcjcnhklmpalGreatDoor

/- The contract of spec.BatchText. -/
namespace Go.Proofs.YtidpcjcnhklmpalGreatDoor
open Go.ChangeShapes Go.WideShapes Go.ChangeAt Go.RowKit Go.Joins
attribute [local go_sem ↓] Go.wp_at_zero Go.wp_at_succ

/-- A list of writes, the dependencies of each from a block's begin on. -/
def IsWs0 (w : World) (a : Option Addr) (ws : List Wr) : Prop :=
  ws = [] ∨ ∃ b o, a = some ⟨b, o, none⟩ ∧ b < w.heap.size ∧ ∀ i, i < ws.length → ∃ a' cap, WrAt w b (o + i * 7) (ws.getD i wz) a' cap ∧ Deps0 w a' (ws.getD i wz).xs

set_option maxRecDepth 100000 in
theorem deps0_stay {w w' : World} {a : Option Addr} {xs : List Dp} (h : Deps0 w a xs) (hb : Below w.heap.size w w') : Deps0 w' a xs := by
  rcases h with h | ⟨g, h1, h2, h3⟩
  · exact .inl h
  · exact .inr ⟨g, h1, Nat.lt_of_lt_of_le h2 hb.size, h3.below hb h2⟩

set_option maxRecDepth 100000 in
theorem IsWs0.below {w w' : World} {a : Option Addr} {ws : List Wr} (h : IsWs0 w a ws) (hb : Below w.heap.size w w') : IsWs0 w' a ws := by
  rcases h with h | ⟨b, o, ha, hlt, hh⟩
  · exact .inl h
  · refine .inr ⟨b, o, ha, Nat.lt_of_lt_of_le hlt hb.size, fun i hi => ?_⟩
    obtain ⟨a', cap, h1, h2⟩ := hh i hi
    exact ⟨a', cap, h1.of_block (hb.block b hlt), deps0_stay h2 hb⟩

/-- The text behind so many writes. -/
def accB (ws : List Wr) (j : Nat) : List UInt8 := headB ws.length ++ 10 :: (ws.take j).flatMap lineW

set_option maxRecDepth 100000 in
theorem accB_next (ws : List Wr) {j : Nat} (h : j < ws.length) : accB ws (j + 1) = accB ws j ++ (textR (ws.getD j wz) ++ [10]) := by
  unfold accB
  have e : ws.take (j + 1) = ws.take j ++ [ws.getD j wz] := by
    rw [List.take_add_one, List.getElem?_eq_getElem h]
    simp [List.getD, h]
  rw [e, List.flatMap_append]
  simp [lineW]

set_option maxRecDepth 100000 in
theorem okR_text {x : Wr} : textR x = [] ↔ okR x = false := by
  unfold textR writeText okR
  cases h : writeOkB x.k x.c x.s x.q x.v x.de x.xs
  · simp
  · simp [headText]

set_option maxRecDepth 100000 in
theorem okWs_iff {ws : List Wr} : okWs ws = true ↔ (1 ≤ ws.length ∧ ws.length ≤ 6) ∧ ∀ i, i < ws.length → okR (ws.getD i wz) = true := by
  unfold okWs
  simp only [Bool.and_eq_true, decide_eq_true_eq, List.all_eq_true]
  constructor
  · rintro ⟨h1, h2⟩
    exact ⟨h1, fun i hi => h2 _ (by simp [List.getD, hi])⟩
  · rintro ⟨h1, h2⟩
    refine ⟨h1, fun x hx => ?_⟩
    obtain ⟨i, hi, rfl⟩ := List.getElem_of_mem hx
    have := h2 i hi
    simpa [List.getD, hi] using this

set_option maxRecDepth 100000 in
theorem text_400 {x : Wr} : (textR x).length ≤ 400 := by
  cases h : okR x
  · rw [okR_text.2 h]
    simp
  · exact text_len ⟨h, rfl⟩

set_option maxRecDepth 100000 in
set_option maxHeartbeats 4000000 in
theorem specBatch_any (a : Option Addr) (n cap : Nat) (ws : List Wr) (w : World) (hn : ws.length = n) (hm : n ≤ 1048576) (hx : Few ws) (hh : IsWs0 w a ws) :
    Calls Tryz.prog 20 #[.slice a n cap] w fun e w' => e = .returned (.string (str (batchT ws))) ∧ Below w.heap.size w w' := by
  by_cases hr : 1 ≤ n ∧ n ≤ 6
  rotate_left
  · have HE : Hid (batchT ws = []) := by
      show _ = _
      unfold batchT
      rw [if_neg fun h => hr (by rw [← hn]; exact okWs_len h)]
    clear hh hn hx
    have hb : btw (n : Int) 1 6 = false := by
      cases h : btw (n : Int) 1 6
      · rfl
      · exact absurd (by have := btw_bounds h; omega) hr
    go_enter Tryz.func20, Tryz.ntmps20
    go_wp2_with fail
    refine (between_any _ _ _ _).mono ?_
    rintro e w1 ⟨rfl, hw⟩
    subst w1
    rw [hb]
    go_wp2
    go_ret
    exact ⟨by rw [HE.out]; rfl, Below.refl _ _⟩
  have hb : btw (n : Int) 1 6 = true := by unfold btw; simp; omega
  have HH := Lib.hid hh
  have HN := Lib.hid hn
  have HX := Lib.hid hx
  clear hh hn hx
  have z0 : (⟨(Lib.itoa (n : Int)).toArray⟩ : ByteArray).size ≤ 21 := by
    have := Lib.itoa_length_le (n : Int) (by omega) (by omega)
    simpa [ByteArray.size] using this
  have HE0 : Hid ((⟨#[98, 97, 116, 99, 104, 32]⟩ : ByteArray) ++ ⟨(Lib.itoa (n : Int)).toArray⟩ ++ ⟨#[10]⟩ = str (accB ws 0)) := by
    have e1 : (⟨#[98, 97, 116, 99, 104, 32]⟩ : ByteArray) = str [98, 97, 116, 99, 104, 32] := rfl
    have e2 : (⟨(Lib.itoa (n : Int)).toArray⟩ : ByteArray) = str (Lib.itoa (n : Int)) := rfl
    have e3 : (⟨#[10]⟩ : ByteArray) = str [10] := rfl
    show _ = _
    rw [e1, e2, e3, str_add, str_add]
    unfold accB headB
    rw [HN.out]
    simp
  go_enter Tryz.func20, Tryz.ntmps20
  go_wp2_with fail
  refine (between_any _ _ _ _).mono ?_
  rintro e w1 ⟨rfl, hw⟩
  subst w1
  rw [hb]
  clear hb
  go_wp2_with fail
  refine (specNum (n : Int) _ (by omega) (by omega)).mono ?_
  rintro e w1 ⟨rfl, hb1⟩
  have HB1 := Lib.hid hb1
  clear hb1
  obtain ⟨t0, ht0⟩ : ∃ t0 : ByteArray, ⟨(Lib.itoa (n : Int)).toArray⟩ = t0 := ⟨_, rfl⟩
  rw [ht0] at z0 HE0 ⊢
  clear ht0
  have z1 : ((⟨#[98, 97, 116, 99, 104, 32]⟩ : ByteArray) ++ t0).size ≤ 27 := by
    rw [ByteArray.size_append]
    have : (⟨#[98, 97, 116, 99, 104, 32]⟩ : ByteArray).size = 6 := rfl
    omega
  have z2 : ((⟨#[98, 97, 116, 99, 104, 32]⟩ : ByteArray) ++ t0 ++ ⟨#[10]⟩).size ≤ 28 := by
    rw [ByteArray.size_append]
    have : (⟨#[10]⟩ : ByteArray).size = 1 := rfl
    omega
  go_wp2
  go_loopw [3, 4] (fun t i wr => ∃ (j : Nat) (acc : ByteArray), j ≤ n ∧ i = .int .i64 j ∧ t = .string acc ∧ acc.size ≤ 28 + 401 * j ∧ Hid (acc = str (accB ws j)) ∧ Hid (∀ i, i < j → okR (ws.getD i wz) = true) ∧ Hid (Below w.heap.size w wr)) (fun _ i _ => n - (intOf i).toNat)
  case atStart => exact ⟨0, _, Nat.zero_le _, rfl, rfl, by omega, HE0, fun i h => absurd h (Nat.not_lt_zero i), HB1⟩
  case round =>
    clear HE0 HB1 z0 z1 z2
    obtain ⟨j, acc, hj, rfl, rfl, hsz, HA, HO, HB⟩ := hrel
    by_cases hj' : j < n
    · have hjj : j < ws.length := by rw [HN.out]; exact hj'
      have i1 : (0 : Int) ≤ (j : Int) := by omega
      have i2 : (j : Int) < (n : Int) := by omega
      obtain ⟨b, o, rfl, hz, hall⟩ : ∃ b o, a = some ⟨b, o, none⟩ ∧ b < wr.heap.size ∧ ∀ i, i < ws.length → ∃ a' cap, WrAt wr b (o + i * 7) (ws.getD i wz) a' cap ∧ Deps0 wr a' (ws.getD i wz).xs := by
        rcases HH.out.below HB.out with h | h
        · rw [h] at hjj
          simp at hjj
        · exact h
      obtain ⟨ad, cp, ⟨e0, e1, e2, e3, e4, e5, e6⟩, hd⟩ := hall j hjj
      have hxl := HX.out j hjj
      have HD := Lib.hid hd
      have HNX := Lib.hid (accB_next ws hjj)
      have HT4 := Lib.hid (text_400 (x := ws.getD j wz))
      have HIF := Lib.hid (okR_text (x := ws.getD j wz))
      have HNO : Hid (okR (ws.getD j wz) = false → batchT ws = []) := fun h => by
        unfold batchT
        rw [if_neg fun hk => by have := (okWs_iff.1 hk).2 j hjj; rw [h] at this; cases this]
      have HO2 : Hid (okR (ws.getD j wz) = true → ∀ i, i < j + 1 → okR (ws.getD i wz) = true) := fun h i hi => by
        by_cases hij : i < j
        · exact HO.out i hij
        · obtain rfl : i = j := by omega
          exact h
      clear hall hd
      generalize ws.getD j wz = x at *
      obtain ⟨xk, xc, xs', xq, xv, xd, xx⟩ := x
      simp only at e0 e1 e2 e3 e4 e5 e6 hxl HD
      go_wp2_with fail
      refine (specText_gen xk xc xs' xq xv xd ad xx _ cp _ rfl hxl HD.out).mono ?_
      rintro e w2 ⟨rfl, hb⟩
      have HB2 := Lib.hid (below_step HB.out HB.out.size hb)
      clear hb HB HD e0 e1 e2 e3 e4 e5 e6
      have HTX : Hid (textR ⟨xk, xc, xs', xq, xv, xd, xx⟩ = writeText xk xc xs' xq xv xd xx) := rfl
      cases hok : okR ⟨xk, xc, xs', xq, xv, xd, xx⟩
      · have h0 : str (writeText xk xc xs' xq xv xd xx) = ⟨#[]⟩ := by
          rw [← HTX.out, HIF.out.2 hok]
          rfl
        rw [h0]
        have HE := Lib.hid (HNO.out hok)
        clear hok
        go_wp2
        go_ret
        exact ⟨by rw [HE.out]; rfl, HB2.out⟩
      · have HE2 := Lib.hid (HO2.out hok)
        have hne : textR ⟨xk, xc, xs', xq, xv, xd, xx⟩ ≠ [] := fun h => by
          have := HIF.out.1 h
          rw [hok] at this
          cases this
        have h4 := HT4.out
        rw [HTX.out] at hne h4 HNX
        have hs : (str (writeText xk xc xs' xq xv xd xx)).size ≤ 400 := by rw [str_size]; exact h4
        have HNE : Hid (accB ws (j + 1) = accB ws j ++ (writeText xk xc xs' xq xv xd xx ++ [10])) := HNX.out
        have hnl : (str (writeText xk xc xs' xq xv xd xx)).toList.isEmpty = false := by
          rw [ByteArray.toList_eq]
          cases h : writeText xk xc xs' xq xv xd xx with
          | nil => exact absurd h hne
          | cons => rfl
        have HSA : Hid (acc ++ str (writeText xk xc xs' xq xv xd xx) ++ ⟨#[10]⟩ = str (accB ws (j + 1))) := by
          have e3 : (⟨#[10]⟩ : ByteArray) = str [10] := rfl
          show _ = _
          rw [HA.out, e3, str_add, str_add, HNE.out, List.append_assoc]
        clear hok hne h4 HNX HNE HT4 HIF HNO HO2 HTX
        generalize str (writeText xk xc xs' xq xv xd xx) = tx at *
        have y1 : (acc ++ tx).size ≤ 428 + 401 * j := by rw [ByteArray.size_append]; omega
        have y2 : (acc ++ tx ++ ⟨#[10]⟩).size ≤ 28 + 401 * (j + 1) := by
          rw [ByteArray.size_append]
          have : (⟨#[10]⟩ : ByteArray).size = 1 := rfl
          omega
        go_wp2
        exact ⟨⟨j + 1, _, by omega, by go_num, rfl, y2, HSA, HE2, HB2⟩, by simp [intOf]; omega⟩
    · have hjn : j = n := by omega
      subst hjn
      have hacc : acc.size ≤ 3000 := by omega
      have HOK : Hid (okWs ws = true) := okWs_iff.2 ⟨by rw [HN.out]; exact hr, fun i hi => HO.out i (by rw [← HN.out]; exact hi)⟩
      have HBD : Hid (accB ws j = bodyB ws) := by
        show _ = _
        unfold accB bodyB
        rw [List.take_of_length_le (by rw [HN.out]; exact Nat.le_refl _)]
      have HCR : Hid (crcL acc.data.toList = crcL (bodyB ws)) := by
        show _ = _
        rw [HA.out, HBD.out]
        rfl
      have hcb := crcL_bd (bodyB ws)
      have z3 : (acc ++ ⟨#[115, 117, 109, 32]⟩).size ≤ 3004 := by
        rw [ByteArray.size_append]
        have : (⟨#[115, 117, 109, 32]⟩ : ByteArray).size = 4 := rfl
        omega
      have HFE : Hid (acc ++ ⟨#[115, 117, 109, 32]⟩ ++ ⟨(Lib.itoa ((crcL (bodyB ws) : Nat) : Int)).toArray⟩ ++ ⟨#[10]⟩ = str (batchT ws)) := by
        have e1 : (⟨#[115, 117, 109, 32]⟩ : ByteArray) = str [115, 117, 109, 32] := rfl
        have e2 : (⟨(Lib.itoa ((crcL (bodyB ws) : Nat) : Int)).toArray⟩ : ByteArray) = str (Lib.itoa ((crcL (bodyB ws) : Nat) : Int)) := rfl
        have e3 : (⟨#[10]⟩ : ByteArray) = str [10] := rfl
        show _ = _
        unfold batchT
        rw [if_pos HOK.out, HA.out, HBD.out, e1, e2, e3, str_add, str_add, str_add]
        simp [sumB]
      have z4 : (⟨(Lib.itoa ((crcL (bodyB ws) : Nat) : Int)).toArray⟩ : ByteArray).size ≤ 21 := by
        have := Lib.itoa_length_le ((crcL (bodyB ws) : Nat) : Int) (by omega) (by omega)
        simpa [ByteArray.size] using this
      go_wp2_with fail
      refine (specCrc_any acc _ (by omega)).mono ?_
      rintro e w2 ⟨rfl, hw⟩
      subst w2
      rw [HCR.out]
      go_wp2_with fail
      refine (specNum _ _ (by omega) (by omega)).mono ?_
      rintro e w2 ⟨rfl, hb⟩
      have HB2 := Lib.hid (below_step HB.out HB.out.size hb)
      clear hb
      generalize (⟨(Lib.itoa ((crcL (bodyB ws) : Nat) : Int)).toArray⟩ : ByteArray) = tc at *
      have z5 : (acc ++ ⟨#[115, 117, 109, 32]⟩ ++ tc).size ≤ 3100 := by rw [ByteArray.size_append]; omega
      have z6 : (acc ++ ⟨#[115, 117, 109, 32]⟩ ++ tc ++ ⟨#[10]⟩).size ≤ 3200 := by
        rw [ByteArray.size_append]
        have : (⟨#[10]⟩ : ByteArray).size = 1 := rfl
        omega
      go_wp2
      go_ret
      exact ⟨by rw [← HFE.out]; rfl, HB2.out⟩

end Go.Proofs.YtidpcjcnhklmpalGreatDoor

/- The contract of spec.l06Line: the line that begins at a place. -/
namespace Go.Proofs.YtidpcjcnhklmpalGreatDoor
open Go.ChangeShapes Go.WideShapes Go.ChangeAt Go.RowKit Go.Joins
attribute [local go_sem ↓] Go.wp_at_zero Go.wp_at_succ

set_option maxRecDepth 100000 in
theorem byte_at {s : ByteArray} {j : Nat} (h : j < s.size) : s.data.toList[j]? = some s[j] := by
  have hl : j < s.data.toList.length := by simpa using h
  rw [List.getElem?_eq_getElem hl]
  rfl

/-- No line ends between two places. -/
def NoEnd (s : ByteArray) (i j : Nat) : Prop := ∀ k, i ≤ k → k < j → s.data.toList[k]? ≠ some 10

set_option maxRecDepth 100000 in
theorem line_found {s : ByteArray} {i j : Nat} (hij : i ≤ j) (hj : j < s.size) (h : NoEnd s i j) (he : s[j] = 10) : ∃ l r, s.data.toList.drop i = l ++ 10 :: r ∧ (10 : UInt8) ∉ l ∧ l.length = j - i ∧ str l = s.extract i j := by
  have hl : j < s.data.toList.length := by simpa using hj
  refine ⟨(s.data.toList.drop i).take (j - i), s.data.toList.drop (j + 1), ?_, ?_, ?_, ?_⟩
  · have e1 : s.data.toList.drop j = 10 :: s.data.toList.drop (j + 1) := by
      rw [List.drop_eq_getElem_cons hl]
      congr 1
    have e2 := (List.take_append_drop (j - i) (s.data.toList.drop i)).symm
    rw [List.drop_drop, show i + (j - i) = j by omega, e1] at e2
    exact e2
  · intro hm
    obtain ⟨k, hk, he2⟩ := List.getElem_of_mem hm
    have hk2 : k < j - i := by
      have := hk
      simp at this
      omega
    refine h (i + k) (by omega) (by omega) ?_
    rw [← he2, List.getElem_take, List.getElem_drop]
    exact List.getElem?_eq_getElem (by omega)
  · simp
    omega
  · apply ByteArray.ext
    show ((s.data.toList.drop i).take (j - i)).toArray = (s.extract i j).data
    rw [ByteArray.data_extract]
    apply Array.ext'
    rw [Array.toList_extract, List.extract_eq_take_drop]

set_option maxRecDepth 100000 in
theorem line_none {s : ByteArray} {i : Nat} (h : NoEnd s i s.size) : (10 : UInt8) ∉ s.data.toList.drop i := by
  intro hm
  obtain ⟨k, hk, he⟩ := List.getElem_of_mem hm
  have hk2 : i + k < s.data.toList.length := by
    have := hk
    simp at this
    simp
    omega
  refine h (i + k) (by omega) (by simpa using hk2) ?_
  rw [← he, List.getElem_drop]
  exact List.getElem?_eq_getElem hk2

set_option maxRecDepth 100000 in
set_option maxHeartbeats 2000000 in
theorem line_any (s : ByteArray) (i : Nat) (w : World) (hs : s.size ≤ 1048576) (hi : i ≤ s.size) :
    Calls Tryz.prog 15 #[.string s, .int .i64 (i : Int)] w fun e w' => ((∃ l r, s.data.toList.drop i = l ++ 10 :: r ∧ (10 : UInt8) ∉ l ∧ e = .returned (.tuple #[.string (str l), .int .i64 ((i + l.length + 1 : Nat) : Int), .bool true])) ∨ ((10 : UInt8) ∉ s.data.toList.drop i ∧ e = .returned (.tuple #[.string ⟨#[]⟩, .int .i64 (i : Int), .bool false]))) ∧ w' = w := by
  go_enter Tryz.func15, Tryz.ntmps15
  go_wp2
  go_loopw [7] (fun t wr => ∃ j : Nat, i ≤ j ∧ j ≤ s.size ∧ t = .int .i64 j ∧ Hid (NoEnd s i j) ∧ wr = w) (fun t _ => s.size - (intOf t).toNat)
  case atStart => exact ⟨i, Nat.le_refl _, hi, rfl, fun k h1 h2 => absurd h2 (by omega), rfl⟩
  case round =>
    obtain ⟨j, hij, hj, rfl, HN, rfl⟩ := hrel
    by_cases hj' : j < s.size
    · have i1 : (0 : Int) ≤ (j : Int) := by omega
      have i2 : (j : Int) < (s.size : Int) := by omega
      by_cases he : s[j] = 10
      · have HF := Lib.hid (line_found hij hj' HN.out he)
        have hu : ((s[j].toNat : Nat) : Int) = 10 := by rw [he]; rfl
        have j1 : (i : Int) ≤ (j : Int) := by omega
        have j2 : (j : Int) ≤ (s.size : Int) := by omega
        go_wp2
        obtain ⟨l, r, q1, q2, q3, q4⟩ := HF.out
        have e3 : ((i + l.length + 1 : Nat) : Int) = (j : Int) + 1 := by omega
        exact bodyPost_ret (v := .tuple #[.string (s.extract i j), .int .i64 ((j : Int) + 1), .bool true]) (by simp [results, Tryz.results15, go_sem]) rfl ⟨.inl ⟨l, r, q1, q2, by rw [q4, e3]⟩, rfl⟩
      · have HN2 : Hid (NoEnd s i (j + 1)) := fun k h1 h2 => by
          by_cases hk : k < j
          · exact HN.out k h1 hk
          · obtain rfl : k = j := by omega
            rw [byte_at hj']
            simpa using he
        have hu : ¬ ((s[j].toNat : Nat) : Int) = 10 := fun h => he (by
          have h2 : s[j].toNat = 10 := by omega
          exact UInt8.toNat_inj.1 h2)
        go_wp2
        exact ⟨⟨j + 1, by omega, by omega, by go_num, HN2, trivial⟩, by simp [intOf]; omega⟩
    · have hjj : j = s.size := by omega
      subst hjj
      have HL := Lib.hid (line_none HN.out)
      go_wp2
      exact bodyPost_ret (v := .tuple #[.string ⟨#[]⟩, .int .i64 (i : Int), .bool false]) (by simp [results, Tryz.results15, go_sem]) rfl ⟨.inr ⟨HL.out, rfl⟩, rfl⟩

end Go.Proofs.YtidpcjcnhklmpalGreatDoor

/-
  DERIVED: THE SHELF's CONTRACTS AT THIS DUMP, IN PLAIN WORDS (tools/lay-plain.mjs out of 'TryzShelf.lean', which tools/lay-shelf.mjs wrote): THE SAME DECLARATIONS UNDER THE SAME NAMES: 'import', 'namespace', 'open', 'def', 'theorem' AND NOTHING ELSE: no command of the shelf's: FOR A HAND-IN. Each laying: the table of numbers ('.._ren') and one theorem, a field a fact of the dump's own or the kernel's comparison; each contract: ONE APPLICATION.
-/
namespace Go.Proofs
open Go.Shelf
def Tryz.lays143_ren : Go.Shelf.Ren := ⟨fun | 143 => 54 | 219 => 63 | 217 => 72 | 225 => 73 | 224 => 74 | 267 => 75 | 266 => 88 | 314 => 89 | n => n, fun | 9 => 9 | 3 => 3 | 4 => 4 | 5 => 5 | 46 => 133 | 146 => 144 | 51 => 129 | n => n, fun | 1 => 5 | n => n⟩
theorem Tryz.lays143 : Go.Proofs.Lays.n143 Tryz.prog Tryz.lays143_ren := {
  mixed := by kernel_rfl
  f143 := Tryz.func54.trans (congrArg some (by kernel_rfl))
  f217 := Tryz.func72.trans (congrArg some (by kernel_rfl))
  f219 := Tryz.func63.trans (congrArg some (by kernel_rfl))
  f224 := Tryz.func74.trans (congrArg some (by kernel_rfl))
  f225 := Tryz.func73.trans (congrArg some (by kernel_rfl))
  f266 := Tryz.func88.trans (congrArg some (by kernel_rfl))
  f267 := Tryz.func75.trans (congrArg some (by kernel_rfl))
  f314 := Tryz.func89.trans (congrArg some (by kernel_rfl))
  t3 := Tryz.underlying3
  a3 := Tryz.isAgg3
  z3 := Tryz.sizeOf3
  v3 := Tryz.zeroValue3
  t4 := Tryz.underlying4
  a4 := Tryz.isAgg4
  z4 := Tryz.sizeOf4
  v4 := Tryz.zeroValue4
  t5 := Tryz.underlying5
  a5 := Tryz.isAgg5
  z5 := Tryz.sizeOf5
  v5 := Tryz.zeroValue5
  t9 := Tryz.underlying9
  a9 := Tryz.isAgg9
  z9 := Tryz.sizeOf9
  v9 := Tryz.zeroValue9
  t46 := Tryz.underlying133
  a46 := Tryz.isAgg133
  z46 := Tryz.sizeOf133
  v46 := Tryz.zeroValue133
  t51 := Tryz.underlying129
  a51 := Tryz.isAgg129
  z51 := Tryz.sizeOf129
  v51 := Tryz.zeroValue129
  t146 := Tryz.underlying144
  a146 := Tryz.isAgg144
  z146 := Tryz.sizeOf144
  v146 := Tryz.zeroValue144
  g1 := by kernel_rfl }
open Go.RowKit Go.Lib in
/-- strings.Index: "Index returns the index of the first instance of substr in s, or -1 if substr is not present in s.": AT A substr OF ONE BYTE c: IT RETURNS 'Lib.indexByte s c'; the world is as it was. (LAID: no walk: one application.) -/
theorem Tryz.strings_Index_one (s : ByteArray) (c : UInt8) (w : World) :
    Calls Tryz.prog 54 #[.string s, .string ⟨#[c]⟩] w fun e w' => e = .returned (.int .i64 (Lib.indexByte s.data.toList c)) ∧ w' = w := Any.strings_Index_one Tryz.lays143 s c w
open Go.RowKit Go.Lib in
/-- strings.Index: "Index returns the index of the first instance of substr in s, or -1 if substr is not present in s.": IT RETURNS 'Lib.index s substr'; the world is as it was. (LAID: no walk: one application.) -/
theorem Tryz.strings_Index (s sub : ByteArray) (m : Int) (w : World) (hs : s.size < 4294967281) (hm : w.cell? ⟨5, 0, none⟩ = some (.int .i64 m)) :
    Calls Tryz.prog 54 #[.string s, .string sub] w fun e w' => e = .returned (.int .i64 (Lib.index s.data.toList sub.data.toList)) ∧ w' = w := Any.strings_Index Tryz.lays143 s sub m w hs hm
def Tryz.lays207_ren : Go.Shelf.Ren := ⟨fun | 207 => 70 | n => n, fun | 9 => 9 | 4 => 4 | 3 => 3 | n => n, fun | n => n⟩
theorem Tryz.lays207 : Go.Proofs.Lays.n207 Tryz.prog Tryz.lays207_ren := {
  mixed := by kernel_rfl
  f207 := Tryz.func70.trans (congrArg some (by kernel_rfl))
  t3 := Tryz.underlying3
  a3 := Tryz.isAgg3
  z3 := Tryz.sizeOf3
  v3 := Tryz.zeroValue3
  t4 := Tryz.underlying4
  a4 := Tryz.isAgg4
  z4 := Tryz.sizeOf4
  v4 := Tryz.zeroValue4
  t9 := Tryz.underlying9
  a9 := Tryz.isAgg9
  z9 := Tryz.sizeOf9
  v9 := Tryz.zeroValue9 }
open Go.RowKit Go.Lib in
/-- internal/stringslite.HasSuffix (what strings.HasSuffix calls). (LAID: no walk: one application.) -/
theorem Tryz.stringslite_HasSuffix (s p : ByteArray) (w : World) (hs : s.size ≤ 9223372036854775807) :
    Calls Tryz.prog 70 #[.string s, .string p] w fun e w' => e = .returned (.bool (Lib.hasSuffix s.data.toList p.data.toList)) ∧ w' = w := Any.stringslite_HasSuffix Tryz.lays207 s p w hs
def Tryz.lays209_ren : Go.Shelf.Ren := ⟨fun | 209 => 59 | 207 => 70 | n => n, fun | 9 => 9 | 4 => 4 | 3 => 3 | n => n, fun | n => n⟩
theorem Tryz.lays209 : Go.Proofs.Lays.n209 Tryz.prog Tryz.lays209_ren := {
  mixed := by kernel_rfl
  f207 := Tryz.func70.trans (congrArg some (by kernel_rfl))
  f209 := Tryz.func59.trans (congrArg some (by kernel_rfl))
  t3 := Tryz.underlying3
  a3 := Tryz.isAgg3
  z3 := Tryz.sizeOf3
  v3 := Tryz.zeroValue3
  t4 := Tryz.underlying4
  a4 := Tryz.isAgg4
  z4 := Tryz.sizeOf4
  v4 := Tryz.zeroValue4
  t9 := Tryz.underlying9
  a9 := Tryz.isAgg9
  z9 := Tryz.sizeOf9
  v9 := Tryz.zeroValue9 }
open Go.RowKit Go.Lib in
/-- internal/stringslite.TrimSuffix (what strings.TrimSuffix calls). (LAID: no walk: one application.) -/
theorem Tryz.stringslite_TrimSuffix (s p : ByteArray) (w : World) (hs : s.size ≤ 9223372036854775807) :
    Calls Tryz.prog 59 #[.string s, .string p] w fun e w' => e = .returned (.string ⟨(Lib.trimSuffix s.data.toList p.data.toList).toArray⟩) ∧ w' = w := Any.stringslite_TrimSuffix Tryz.lays209 s p w hs
def Tryz.lays102_ren : Go.Shelf.Ren := ⟨fun | 102 => 46 | 209 => 59 | 207 => 70 | n => n, fun | 9 => 9 | 4 => 4 | 3 => 3 | n => n, fun | n => n⟩
theorem Tryz.lays102 : Go.Proofs.Lays.n102 Tryz.prog Tryz.lays102_ren := {
  mixed := by kernel_rfl
  f102 := Tryz.func46.trans (congrArg some (by kernel_rfl))
  f207 := Tryz.func70.trans (congrArg some (by kernel_rfl))
  f209 := Tryz.func59.trans (congrArg some (by kernel_rfl))
  t3 := Tryz.underlying3
  a3 := Tryz.isAgg3
  z3 := Tryz.sizeOf3
  v3 := Tryz.zeroValue3
  t4 := Tryz.underlying4
  a4 := Tryz.isAgg4
  z4 := Tryz.sizeOf4
  v4 := Tryz.zeroValue4
  t9 := Tryz.underlying9
  a9 := Tryz.isAgg9
  z9 := Tryz.sizeOf9
  v9 := Tryz.zeroValue9 }
open Go.RowKit Go.Lib in
/-- strings.TrimSuffix: "TrimSuffix returns s without the provided trailing suffix string. If s doesn't end with suffix, s is returned unchanged.": IT RETURNS 'Lib.trimSuffix s suffix'; the world is as it was. (LAID: no walk: one application.) -/
theorem Tryz.strings_TrimSuffix (s p : ByteArray) (w : World) (hs : s.size ≤ 9223372036854775807) :
    Calls Tryz.prog 46 #[.string s, .string p] w fun e w' => e = .returned (.string ⟨(Lib.trimSuffix s.data.toList p.data.toList).toArray⟩) ∧ w' = w := Any.strings_TrimSuffix Tryz.lays102 s p w hs
end Go.Proofs

/- The reader of logs: its block; the contract of its line. -/
namespace Go.Proofs.YtidpcjcnhklmpalGreatDoor
open Go.ChangeShapes Go.WideShapes Go.ChangeAt Go.RowKit Go.Joins
attribute [local go_sem ↓] Go.wp_at_zero Go.wp_at_succ

/-- A reader of the text s, at place p, in block B. -/
structure Rdr (w : World) (B : Nat) (s : ByteArray) (p : Nat) : Prop where
  lt : B < w.heap.size
  c0 : w.cell? ⟨B, 0, none⟩ = some (.string s)
  c1 : w.cell? ⟨B, 1, none⟩ = some (.int .i64 (p : Int))
  fz : ∀ o, w.frozen? ⟨B, o, none⟩ = false

set_option maxRecDepth 100000 in
theorem Rdr.below {w w' : World} {B p : Nat} {s : ByteArray} (h : Rdr w B s p) (hb : Below w.heap.size w w') : Rdr w' B s p :=
  ⟨Nat.lt_of_lt_of_le h.lt hb.size, held_cell hb h.c0 h.lt, held_cell hb h.c1 h.lt, fun o => (hb.frozen (p := ⟨B, o, none⟩) h.lt).trans (h.fz o)⟩

set_option maxRecDepth 100000 in
theorem Rdr.drewN {w : World} {B p : Nat} {s : ByteArray} (h : Rdr w B s p) (n : Nat) : Rdr (w.drewN n) B s p := h.below (below_drewN (Below.refl _ _) n)

set_option maxRecDepth 100000 in
theorem Rdr.set {w : World} {B p : Nat} {s : ByteArray} (h : Rdr w B s p) (q : Nat) : Rdr (w.setCell ⟨B, 1, none⟩ (.int .i64 (q : Int))) B s q :=
  ⟨by simpa [World.setCell] using h.lt, cell_set_off h.c0 (by omega), cell_set_same h.c1, fun o => by rw [World.frozen?_setCell]; exact h.fz o⟩

/-- What the reader's own variables hold: errors. -/
def EV (w : World) : Prop :=
  (4 < w.heap.size ∧ ∃ t v, w.cell? ⟨4, 0, none⟩ = some (.iface t v)) ∧
  (1 < w.heap.size ∧ ∃ t v, w.cell? ⟨1, 0, none⟩ = some (.iface t v)) ∧
  (2 < w.heap.size ∧ ∃ t v, w.cell? ⟨2, 0, none⟩ = some (.iface t v)) ∧
  (3 < w.heap.size ∧ ∃ t v, w.cell? ⟨3, 0, none⟩ = some (.iface t v))

set_option maxRecDepth 100000 in
theorem EV.below {w w' : World} (h : EV w) (hb : Below w.heap.size w w') : EV w' := by
  obtain ⟨⟨l1, t1, p1, h1⟩, ⟨l2, t2, p2, h2⟩, ⟨l3, t3, p3, h3⟩, l4, t4, p4, h4⟩ := h
  exact ⟨⟨Nat.lt_of_lt_of_le l1 hb.size, t1, p1, (hb.cell (p := ⟨_, 0, none⟩) l1).trans h1⟩, ⟨Nat.lt_of_lt_of_le l2 hb.size, t2, p2, (hb.cell (p := ⟨_, 0, none⟩) l2).trans h2⟩, ⟨Nat.lt_of_lt_of_le l3 hb.size, t3, p3, (hb.cell (p := ⟨_, 0, none⟩) l3).trans h3⟩, Nat.lt_of_lt_of_le l4 hb.size, t4, p4, (hb.cell (p := ⟨_, 0, none⟩) l4).trans h4⟩

set_option maxRecDepth 100000 in
theorem idx_first : ∀ (l r : List UInt8), (10 : UInt8) ∉ l → Lib.indexByte (l ++ 10 :: r) 10 = (l.length : Int)
  | [], r, _ => rfl
  | b :: l, r, h => by
    have hb : (b == (10 : UInt8)) = false := by
      simp only [List.mem_cons, not_or] at h
      simpa using fun e => h.1 e.symm
    have ih := idx_first l r (fun hm => h (List.mem_cons_of_mem _ hm))
    show (if b == 10 then (0 : Int) else if Lib.indexByte (l ++ 10 :: r) 10 == -1 then -1 else Lib.indexByte (l ++ 10 :: r) 10 + 1) = _
    rw [hb, ih]
    have hn : (((l.length : Int)) == -1) = false := by
      simp only [beq_eq_false_iff_ne]
      omega
    simp [hn]

set_option maxRecDepth 100000 in
theorem idx_none : ∀ (l : List UInt8), (10 : UInt8) ∉ l → Lib.indexByte l 10 = -1
  | [], _ => rfl
  | b :: l, h => by
    have hb : (b == (10 : UInt8)) = false := by
      simp only [List.mem_cons, not_or] at h
      simpa using fun e => h.1 e.symm
    have ih := idx_none l (fun hm => h (List.mem_cons_of_mem _ hm))
    show (if b == 10 then (0 : Int) else if Lib.indexByte l 10 == -1 then -1 else Lib.indexByte l 10 + 1) = _
    rw [hb, ih]
    simp

set_option maxRecDepth 100000 in
/-- A text has no line that ends, or it has a first one. -/
theorem first_line : ∀ (t : List UInt8), (10 : UInt8) ∉ t ∨ ∃ l r, t = l ++ 10 :: r ∧ (10 : UInt8) ∉ l
  | [] => .inl (by simp)
  | b :: t => by
    by_cases hb : b = 10
    · exact .inr ⟨[], t, by rw [hb]; rfl, by simp⟩
    · rcases first_line t with h | ⟨l, r, rfl, h⟩
      · refine .inl fun hm => ?_
        rcases List.mem_cons.1 hm with h1 | h1
        · exact hb h1.symm
        · exact h h1
      · refine .inr ⟨b :: l, r, rfl, fun hm => ?_⟩
        rcases List.mem_cons.1 hm with h1 | h1
        · exact hb h1.symm
        · exact h h1

set_option maxRecDepth 100000 in
theorem extract_end (s : ByteArray) (p : Nat) : (s.extract p s.size).data.toList = s.data.toList.drop p := by
  rw [piece, List.take_of_length_le (by simp)]

set_option maxRecDepth 100000 in
theorem extract_line {s : ByteArray} {p : Nat} {l r : List UInt8} (h : s.data.toList.drop p = l ++ 10 :: r) : s.extract p (p + l.length + 1) = str (l ++ [10]) := by
  apply ByteArray.ext
  apply Array.ext'
  have e : (s.extract p (p + l.length + 1)).data.toList = (s.data.toList.drop p).take (l.length + 1) := by
    rw [piece, List.drop_take, show p + l.length + 1 - p = l.length + 1 by omega]
  show (s.extract p (p + l.length + 1)).data.toList = (str (l ++ [10])).data.toList
  rw [e, h]
  simp only [str, List.take_append, List.take_of_length_le (Nat.le_succ l.length)]
  simp

set_option maxRecDepth 100000 in
theorem line_fits {s : ByteArray} {p : Nat} {l r : List UInt8} (h : s.data.toList.drop p = l ++ 10 :: r) : p + l.length + 1 ≤ s.size := by
  have h1 := congrArg List.length h
  simp only [List.length_drop, List.length_append, List.length_cons] at h1
  have h2 : s.data.toList.length = s.size := by simp
  omega

set_option maxRecDepth 100000 in
set_option maxHeartbeats 4000000 in
theorem rdLine_any (w0 : World) (s : ByteArray) (p B : Nat) (w : World) (hs : s.size ≤ 1048576) (hp : p ≤ s.size) (hE : EV w0) (hb : Below w0.heap.size w0 w) (hr : Rdr w B s p) :
    Calls Tryz.prog 43 #[.pointer (some ⟨B, 0, none⟩)] w fun e w' => Hole B w w' ∧
      ((∃ l r, s.data.toList.drop p = l ++ 10 :: r ∧ (10 : UInt8) ∉ l ∧ e = .returned (.tuple #[.string (str (l ++ [10])), .nilIface]) ∧ Rdr w' B s (p + l.length + 1)) ∨
       ((10 : UInt8) ∉ s.data.toList.drop p ∧ ∃ t v, e = .returned (.tuple #[.string ⟨#[]⟩, .iface t v]))) := by
  obtain ⟨lt0, tE, vE, cE0⟩ := hE.1
  have cE := (hb.cell (p := ⟨4, 0, none⟩) lt0).trans cE0
  have HR := Lib.hid hr
  have c0 := hr.c0
  have c1 := hr.c1
  have fz := hr.fz
  have p0 : (0 : Int) ≤ (p : Int) := by omega
  have p1 : (p : Int) ≤ (s.size : Int) := by omega
  clear hr hb hE cE0
  rcases first_line (s.data.toList.drop p) with hno | ⟨l, r, hlr, hl⟩
  · have HC : ∀ W, Calls Tryz.prog 54 #[.string (s.extract p s.size), .string ⟨#[10]⟩] W fun e w' => e = .returned (.int .i64 (-1)) ∧ w' = W := fun W => by
      refine (Tryz.strings_Index_one (s.extract p s.size) 10 W).mono ?_
      rintro e w' ⟨rfl, hw⟩
      rw [extract_end, idx_none _ hno]
      exact ⟨rfl, hw⟩
    have HNO := Lib.hid hno
    clear hno
    go_enter Tryz.func43, Tryz.ntmps43
    go_wp2_with fail
    go_quiet ((go_at_call 54; exact Calls.quiet_of_same (HC _)))
    go_wp2_with fail
    go_quiet (fail)
    go_wp2
    refine bodyPost_ret (v := .tuple #[.string ⟨#[]⟩, .iface tE vE]) (by simp [results, Tryz.results43, go_sem]) rfl ?_
    exact ⟨((Hole.refl B w).drewN _).drewN _, .inr ⟨HNO.out, _, _, rfl⟩⟩
  · have HC : ∀ W, Calls Tryz.prog 54 #[.string (s.extract p s.size), .string ⟨#[10]⟩] W fun e w' => e = .returned (.int .i64 (l.length : Int)) ∧ w' = W := fun W => by
      refine (Tryz.strings_Index_one (s.extract p s.size) 10 W).mono ?_
      rintro e w' ⟨rfl, hw⟩
      rw [extract_end, hlr, idx_first _ _ hl]
      exact ⟨rfl, hw⟩
    have hf := line_fits hlr
    have HX := Lib.hid (extract_line hlr)
    have HLR := Lib.hid hlr
    have HL := Lib.hid hl
    have hsz : (s.extract p (p + l.length + 1)).size = l.length + 1 := by rw [HX.out, str_size]; simp
    clear hlr hl
    generalize hn : l.length = n at *
    have HN := Lib.hid hn
    clear hn
    have w1 : IntKind.i64.wrap ((p : Int) + (n : Int)) = (p : Int) + (n : Int) := IntWalk.i64_in _ (by omega)
    have w2 : IntKind.i64.wrap ((p : Int) + (n : Int) + 1) = ((p + n + 1 : Nat) : Int) := (IntWalk.i64_in _ (by omega)).trans (by omega)
    have w3 : (p : Int) ≤ ((p + n + 1 : Nat) : Int) := by omega
    have w4 : ((p + n + 1 : Nat) : Int) ≤ (s.size : Int) := by omega
    have w5 : (p : Int) ≤ (p : Int) + (n : Int) + 1 := by omega
    have w6 : (p : Int) + (n : Int) + 1 ≤ (s.size : Int) := by omega
    go_enter Tryz.func43, Tryz.ntmps43
    go_wp2_with fail
    go_quiet ((go_at_call 54; exact Calls.quiet_of_same (HC _)))
    go_wp2_with fail
    go_quiet (fail)
    go_wp2
    have e9 : (p : Int) + ((n : Int) + 1) = ((p + n + 1 : Nat) : Int) := by omega
    refine bodyPost_ret (v := .tuple #[.string (s.extract p (p + n + 1)), .nilIface]) (by simp [results, Tryz.results43, go_sem]) rfl ?_
    rw [e9]
    exact ⟨((Hole.refl B w).drewN _).set 1 _, .inl ⟨l, r, HLR.out, HL.out, by rw [HX.out], by rw [HN.out]; exact (HR.out.drewN _).set _⟩⟩

end Go.Proofs.YtidpcjcnhklmpalGreatDoor

/- A batch's text, read line by line: plain facts. -/
namespace Go.Proofs.YtidpcjcnhklmpalGreatDoor
open Go.ChangeShapes Go.WideShapes Go.ChangeAt Go.RowKit Go.Joins

/-- The text begins with the text of this batch. -/
def ValidAt (t : List UInt8) (ws : List Wr) : Prop := okWs ws = true ∧ batchT ws <+: t

/-- What is left of a batch's text behind its head and so many writes. -/
def restB (ws : List Wr) (k : Nat) : List UInt8 := (ws.drop k).flatMap lineW ++ (sumB ws ++ [10])

set_option maxRecDepth 100000 in
theorem batchT_rest {ws : List Wr} (h : okWs ws = true) : batchT ws = headB ws.length ++ 10 :: restB ws 0 := by
  unfold batchT restB bodyB
  rw [if_pos h]
  simp

set_option maxRecDepth 100000 in
theorem restB_next {ws : List Wr} {k : Nat} (h : k < ws.length) : restB ws k = textR (ws.getD k wz) ++ 10 :: restB ws (k + 1) := by
  unfold restB
  have e : ws.drop k = ws.getD k wz :: ws.drop (k + 1) := by
    rw [List.drop_eq_getElem_cons h]
    simp [List.getD, h]
  rw [e, List.flatMap_cons]
  simp [lineW]

set_option maxRecDepth 100000 in
theorem restB_end (ws : List Wr) : restB ws ws.length = sumB ws ++ 10 :: [] := by
  unfold restB
  simp

set_option maxRecDepth 100000 in
theorem no_line_sum (ws : List Wr) : (10 : UInt8) ∉ sumB ws := by
  intro hm
  unfold sumB at hm
  rcases List.mem_append.1 hm with h1 | h1
  · simp at h1
  · have := crcL_bd (bodyB ws)
    exact no_line_num ⟨by omega, by omega⟩ h1

set_option maxRecDepth 100000 in
theorem has_line {l r t : List UInt8} (h : l ++ 10 :: r <+: t) : (10 : UInt8) ∈ t := by
  obtain ⟨q, rfl⟩ := h
  simp

set_option maxRecDepth 100000 in
theorem valid_line {t : List UInt8} {ws : List Wr} (h : ValidAt t ws) : (10 : UInt8) ∈ t := by
  have h2 := h.2
  rw [batchT_rest h.1] at h2
  exact has_line h2

set_option maxRecDepth 100000 in
/-- The first line of a batch's text is its head. -/
theorem valid_head {t l r : List UInt8} {ws : List Wr} (h : ValidAt t ws) (ht : t = l ++ 10 :: r) (hl : (10 : UInt8) ∉ l) : l = headB ws.length ∧ restB ws 0 <+: r := by
  have h2 := h.2
  rw [batchT_rest h.1] at h2
  obtain ⟨e, q, hq, -, q2⟩ := line_one hl (no_line_head (okWs_len h.1).2) (by rw [ht]; exact List.prefix_refl _) h2
  rw [ht] at hq
  have e2 : r = q := by
    have := List.append_cancel_left hq
    exact (List.cons.inj this).2
  exact ⟨e, by rw [e2]; exact q2⟩

set_option maxRecDepth 100000 in
/-- The next line is the next write's. -/
theorem valid_next {t l r : List UInt8} {ws : List Wr} {k : Nat} (ho : okWs ws = true) (hk : k < ws.length) (h : restB ws k <+: t) (ht : t = l ++ 10 :: r) (hl : (10 : UInt8) ∉ l) : IsText l (ws.getD k wz) ∧ restB ws (k + 1) <+: r := by
  have o1 := (okWs_iff.1 ho).2 k hk
  rw [restB_next hk] at h
  obtain ⟨e, q, hq, -, q2⟩ := line_one hl (no_line_text o1) (by rw [ht]; exact List.prefix_refl _) h
  rw [ht] at hq
  have e2 : r = q := by
    have := List.append_cancel_left hq
    exact (List.cons.inj this).2
  exact ⟨⟨o1, e.symm⟩, by rw [e2]; exact q2⟩

set_option maxRecDepth 100000 in
/-- The last line is the sum's. -/
theorem valid_last {t l r : List UInt8} {ws : List Wr} (h : restB ws ws.length <+: t) (ht : t = l ++ 10 :: r) (hl : (10 : UInt8) ∉ l) : l = sumB ws := by
  rw [restB_end] at h
  exact (line_one hl (no_line_sum ws) (by rw [ht]; exact List.prefix_refl _) h).1

/-- How many bytes the head and so many writes are. -/
def farB (ws : List Wr) (k : Nat) : Nat := (accB ws k).length

set_option maxRecDepth 100000 in
theorem farB_next {ws : List Wr} {k : Nat} (h : k < ws.length) : farB ws (k + 1) = farB ws k + (textR (ws.getD k wz)).length + 1 := by
  unfold farB
  rw [accB_next ws h]
  simp
  omega

set_option maxRecDepth 100000 in
theorem batchT_len {ws : List Wr} (h : okWs ws = true) : (batchT ws).length = farB ws ws.length + (sumB ws).length + 1 := by
  unfold batchT farB accB bodyB
  rw [if_pos h, List.take_length]
  simp
  omega

set_option maxRecDepth 100000 in
theorem prefix_extract {t q : List UInt8} (h : q <+: t) : t.take q.length = q := List.prefix_iff_eq_take.1 h |>.symm

end Go.Proofs.YtidpcjcnhklmpalGreatDoor
