import Derived.Test.YtidpcjcnhklmpacDoorPack1
import Derived.Deep.AppendLies
import Derived.OwnWalk
import Derived.Lib.ItoaMem
import Derived.Lib.ItoaLen
import Derived.Lib.Slices
import Derived.Lib.AppendIntMem
import Derived.Laws.IdiomStrings
import Derived.Test.YtidpcjcnhklmpacDoorPack3
import Derived.Lib.Join
import Derived.Shelf.LaysM
import Derived.Shelf.Strconv.Itoa3
import Derived.Test.YtidpcjcnhklmpacDoorProg
import Derived.Test.YtidpcjcnhklmpacDoorPack2
import Derived.Laws.MakeOwn
import Derived.Laws.OwnMore
/- The number's text of the specification: spec.NumText gives the decimal numeral. -/
namespace Go.Proofs.YtidpcjcnhklmpacDoor
open Go.ChangeShapes Go.WideShapes Go.ChangeAt Go.RowKit Go.Joins

def dgs (k : Int) : List UInt8 := if k = 0 then [] else Lib.decDigits k.natAbs

theorem dgs_step (k : Int) (hk : k ≠ 0) (acc : List UInt8) : dgs (k.tdiv 10) ++ (UInt8.ofNat (48 + k.natAbs % 10) :: acc) = dgs k ++ acc := by
  have hq : (k.tdiv 10).natAbs = k.natAbs / 10 := by rw [Int.natAbs_tdiv]; rfl
  unfold dgs
  rw [if_neg hk]
  by_cases h : k.natAbs < 10
  · have h0 : k.tdiv 10 = 0 := by have : (k.tdiv 10).natAbs = 0 := by rw [hq]; omega
                                  omega
    rw [if_pos h0, Lib.decDigits_one h, Nat.mod_eq_of_lt h]
    rfl
  · have h0 : k.tdiv 10 ≠ 0 := by intro e; rw [e] at hq; simp at hq; omega
    rw [if_neg h0, hq]
    conv => rhs; rw [Lib.decDigits, dif_neg h]
    simp

/-- A row of bytes of the call's own. -/
structure OwnBytes (w : World) (base g cap : Nat) (bs : List UInt8) : Prop where
  le : base ≤ g
  lt : g < w.heap.size
  own : w.ownsRow base 5 1 (.slice (some ⟨g, 0, none⟩) bs.length cap) bs.length (Lib.byteCells bs)

theorem infoByte : (Tryd.prog.info? 5).map (fun i => (i.zero, i.size, i.bytes)) = some (some (.int .u8 0), 1, 1) := by kernel_rfl

theorem ownb_start (w : World) (base : Nat) (hb : base ≤ w.heap.size) : OwnBytes (w.alloc (.cells #[] 5)) base w.heap.size 0 [] :=
  ⟨hb, by simp, World.ownsRow_made w #[] 0 hb (by simp [maxLen]) (by simp)⟩

theorem ownb_cells {w : World} {base g cap : Nat} {bs : List UInt8} (h : OwnBytes w base g cap bs) : ∀ j u, (Lib.byteCells bs)[j]? = some u → w.cell? ((⟨g, 0, none⟩ : Addr).add j) = some u :=
  h.own.cells (g := g) rfl

theorem own_one (w : World) (base : Nat) (x : Value) (hb : base ≤ w.heap.size) : (w.alloc (.cells #[x] 5)).ownsRow base 5 1 (.slice (some ⟨w.heap.size, 0, none⟩) 1 1) 1 [x] :=
  ⟨by simp, .inr ⟨w.heap.size, 1, #[x], rfl, hb, heap_alloc_new w _, Nat.le_refl _, by simp [maxLen], by simp, by simp⟩⟩

theorem bcons (x : UInt8) (acc : List UInt8) : Lib.byteCells (x :: acc) = [Value.int .u8 x.toNat] ++ Lib.byteCells acc := by simp [Lib.byteCells]

theorem blen (acc : List UInt8) : (Lib.byteCells acc).length = acc.length := by simp [Lib.byteCells]

theorem bone (acc : List UInt8) : ∀ u ∈ Lib.byteCells acc, u.oneCell' = true := by
  intro u hu
  simp only [Lib.byteCells, List.mem_map] at hu
  obtain ⟨b, _, rfl⟩ := hu
  rfl

/-- Behind 'append([]byte{x}, out...)'. -/
theorem ownb_cons {w wr w5 : World} {base : Nat} {acc : List UInt8} {x : UInt8} {z : Int} {v' : Value} (hz : z = x.toNat) (hb : base ≤ wr.heap.size) (hB : Below base w wr)
    (hown : w5.ownsRow base 5 1 v' (1 + acc.length) ([Value.int .u8 z] ++ Lib.byteCells acc)) (hgrow : (wr.alloc (.cells #[.int .u8 z] 5)).grownBy w5 (some wr.heap.size)) :
    ∃ g cp, v' = .slice (some ⟨g, 0, none⟩) (x :: acc).length cp ∧ OwnBytes w5 base g cp (x :: acc) ∧ Below base w w5 := by
  subst hz
  obtain ⟨g, cap, rfl, hle, hlt⟩ := hown.form (by omega)
  have e : (x :: acc).length = 1 + acc.length := by simp; omega
  refine ⟨g, cap, by rw [e], ⟨hle, hlt, by rw [e, bcons]; exact hown⟩, ?_⟩
  exact (hB.alloc hb _).grown hgrow (by simp; omega) (fun k hk => by injection hk with hk; omega)

theorem dig_u8 (k : Int) (z : Int) (hz : z = k.tmod 10 ∨ z = -k.tmod 10) (hz0 : 0 ≤ z) :
    wrap64 (48 + z) % 256 = ((UInt8.ofNat (48 + k.natAbs % 10)).toNat : Int) := by
  have e : z = ((k.natAbs % 10 : Nat) : Int) := by
    have h1 : (k.tmod 10).natAbs = k.natAbs % 10 := by rw [Int.natAbs_tmod]; rfl
    omega
  have h10 : k.natAbs % 10 < 10 := Nat.mod_lt _ (by omega)
  rw [e]
  unfold wrap64
  simp only [UInt8.toNat_ofNat']
  omega

theorem text_of (n : Int) (acc : List UInt8) (h : dgs 0 ++ acc = Lib.decDigits n.natAbs) : (¬ n < 0 → acc = Lib.itoa n) ∧ (n < 0 → 45 :: acc = Lib.itoa n) := by
  have e : acc = Lib.decDigits n.natAbs := by simpa [dgs] using h
  unfold Lib.itoa
  constructor
  · intro hh
    rw [if_neg hh, e]
    congr 1
    omega
  · intro hh
    rw [if_pos hh, e]

theorem acc_le (n k : Int) (acc : List UInt8) (h0 : -9223372036854775808 ≤ n) (h1 : n ≤ 9223372036854775807) (h : dgs k ++ acc = Lib.decDigits n.natAbs) : acc.length ≤ 21 := by
  have h2 := Lib.itoa_length_le n h0 h1
  have h3 : (Lib.decDigits n.natAbs).length ≤ (Lib.itoa n).length := by
    unfold Lib.itoa
    split
    · simp
    · have : n.natAbs = n.toNat := by omega
      rw [this]
      exact Nat.le_refl _
  have h4 := congrArg List.length h
  rw [List.length_append] at h4
  omega

set_option maxRecDepth 100000 in
set_option maxHeartbeats 4000000 in
theorem specNum (n : Int) (w : World) (h0 : -9223372036854775808 ≤ n) (h1 : n ≤ 9223372036854775807) :
    Calls Tryd.prog 37 #[.int .i64 n] w fun e w' => e = .returned (.string ⟨(Lib.itoa n).toArray⟩) ∧ Below w.heap.size w w' := by
  go_enter Tryd.func37, Tryd.ntmps37
  by_cases hn : n = 0
  · subst hn
    have e0 : (Lib.itoa 0).toArray = #[48] := by decide +kernel
    rw [e0]
    go_wp2
    go_ret
    exact ⟨rfl, Below.refl _ _⟩
  obtain ⟨i0, hi0, hz0, hz1, hz2⟩ := info_parts infoByte
  have HI0 : Hid (Tryd.prog.info? 5 = some i0) := hi0
  have HZ0 : Hid (i0.zero = some (.int .u8 0)) := hz0
  have HZ1 : Hid (i0.size = 1) := hz1
  have HZ2 : Hid (i0.bytes = 1) := hz2
  clear hi0 hz0 hz1 hz2
  have hn' : (n == 0) = false := by simp [hn]
  go_wp2
  go_loopw [3, 4] (fun o m wr => ∃ (k : Int) (g cp : Nat) (acc : List UInt8), m = .int .i64 k ∧ o = .slice (some ⟨g, 0, none⟩) acc.length cp ∧ -9223372036854775808 ≤ k ∧ k ≤ 9223372036854775807 ∧ Hid (dgs k ++ acc = Lib.decDigits n.natAbs) ∧ Hid (OwnBytes wr w.heap.size g cp acc) ∧ Hid (Below w.heap.size w wr)) (fun _ m _ => (intOf m).natAbs)
  case atStart => exact ⟨n, w.heap.size, 0, [], rfl, rfl, h0, h1, by simp [Hid, dgs, hn], ownb_start w _ (Nat.le_refl _), (Below.refl _ _).alloc (Nat.le_refl _) _⟩
  case round =>
    obtain ⟨k, g, cp, acc, rfl, rfl, k0, k1, HD, HO, HB⟩ := hrel
    have hacc : acc.length ≤ 21 := acc_le n k acc h0 h1 HD.out
    have hsz : w.heap.size ≤ wr.heap.size := HB.out.size
    by_cases hk : k = 0
    · subst hk
      have ht := text_of n acc HD.out
      by_cases hneg : n < 0
      · have HT : Hid (45 :: acc = Lib.itoa n) := ht.2 hneg
        clear ht
        go_wp2_with (at_builtin; refine wpList_append_own _ (by rfl) _ _ _ (by rfl) w.heap.size 5 i0 _ 1 1 Tryd.underlying22 HI0.out HZ0.out HZ1.out HZ2.out (by rfl) (by omega) (.slice (some ⟨wr.heap.size, 0, none⟩) 1 1) 1 [.int .u8 45] (by rfl) (own_one wr _ _ hsz) ⟨g, 0, none⟩ acc.length cp (Lib.byteCells acc) (by rfl) (by rw [blen, Nat.mul_one]) ((HO.out.own.alloc _).cells (g := g) rfl) (bone acc) (by unfold maxLen; omega) (by omega) (by simp; omega) ?_; intro v' w5 hown hgrow _; refine Hid.out ?_)
        refine Lib.hid ?_
        obtain ⟨g', cp', rfl, hO5, hB5⟩ := ownb_cons (x := 45) (by rfl) hsz HB.out hown hgrow
        obtain ⟨l, hl⟩ : ∃ l, l = Lib.itoa n := ⟨_, rfl⟩
        have HL : Hid (l = Lib.itoa n) := hl
        rw [HT.out, ← hl] at hO5 ⊢
        have hcv := run_convert_bytes_back (P := Tryd.prog) w5 22 9 5 ⟨g', 0, none⟩ cp' l Tryd.underlying22 Tryd.underlying5 Tryd.underlying9 (fun j hj => ownb_cells hO5 j _ (by simp [Lib.byteCells, hj]))
        have HB5 : Hid (Below w.heap.size w w5) := hB5
        clear hown hgrow hO5 hB5 hl HT
        go_wp2
        go_ret
        have hl := HL.out
        subst hl
        exact ⟨rfl, HB5.out⟩
      · have HT : Hid (acc = Lib.itoa n) := ht.1 hneg
        clear ht
        have hcv := run_convert_bytes_back (P := Tryd.prog) wr 22 9 5 ⟨g, 0, none⟩ cp acc Tryd.underlying22 Tryd.underlying5 Tryd.underlying9 (fun j hj => ownb_cells HO.out j _ (by simp [Lib.byteCells, hj]))
        go_wp2
        go_ret
        have hl := HT.out
        subst hl
        exact ⟨rfl, HB.out⟩
    · have hk' : (k == 0) = false := by simp [hk]
      have hst := dgs_step k hk acc
      have HD5 : Hid (dgs (k.tdiv 10) ++ (UInt8.ofNat (48 + k.natAbs % 10) :: acc) = Lib.decDigits n.natAbs) := hst.trans HD.out
      clear hst
      have q0 : (k.tdiv 10).natAbs = k.natAbs / 10 := by rw [Int.natAbs_tdiv]; rfl
      by_cases hd : k.tmod 10 < 0
      · have w1 : wrap64 (-k.tmod 10) = -k.tmod 10 := by have := Int.lt_tmod_of_pos k (show (0:Int) < 10 by omega); unfold wrap64; omega
        have hu := dig_u8 k (-k.tmod 10) (.inr rfl) (by omega)
        have HU : Hid (wrap64 (48 + -k.tmod 10) % 256 = ((UInt8.ofNat (48 + k.natAbs % 10)).toNat : Int)) := hu
        clear hu
        go_wp2_with (at_builtin; refine wpList_append_own _ (by rfl) _ _ _ (by rfl) w.heap.size 5 i0 _ 1 1 Tryd.underlying22 HI0.out HZ0.out HZ1.out HZ2.out (by rfl) (by omega) (.slice (some ⟨wr.heap.size, 0, none⟩) 1 1) 1 [_] (by rfl) (own_one wr _ _ hsz) ⟨g, 0, none⟩ acc.length cp (Lib.byteCells acc) (by rfl) (by rw [blen, Nat.mul_one]) ((HO.out.own.alloc _).cells (g := g) rfl) (bone acc) (by unfold maxLen; omega) (by omega) (by simp; omega) ?_; intro v' w5 hown hgrow _; refine Hid.out ?_)
        refine Lib.hid ?_
        obtain ⟨g', cp', rfl, hO5, hB5⟩ := ownb_cons HU.out hsz HB.out hown hgrow
        have HO5 : Hid (OwnBytes w5 w.heap.size g' cp' (UInt8.ofNat (48 + k.natAbs % 10) :: acc)) := hO5
        have HB5 : Hid (Below w.heap.size w w5) := hB5
        clear hown hgrow hO5 hB5
        go_wp2
        exact ⟨⟨k.tdiv 10, g', cp', _, rfl, rfl, by omega, by omega, HD5, HO5, HB5⟩, (show (k.tdiv 10).natAbs < k.natAbs by omega)⟩
      · have hu := dig_u8 k (k.tmod 10) (.inl rfl) (by omega)
        have HU : Hid (wrap64 (48 + k.tmod 10) % 256 = ((UInt8.ofNat (48 + k.natAbs % 10)).toNat : Int)) := hu
        clear hu
        go_wp2_with (at_builtin; refine wpList_append_own _ (by rfl) _ _ _ (by rfl) w.heap.size 5 i0 _ 1 1 Tryd.underlying22 HI0.out HZ0.out HZ1.out HZ2.out (by rfl) (by omega) (.slice (some ⟨wr.heap.size, 0, none⟩) 1 1) 1 [_] (by rfl) (own_one wr _ _ hsz) ⟨g, 0, none⟩ acc.length cp (Lib.byteCells acc) (by rfl) (by rw [blen, Nat.mul_one]) ((HO.out.own.alloc _).cells (g := g) rfl) (bone acc) (by unfold maxLen; omega) (by omega) (by simp; omega) ?_; intro v' w5 hown hgrow _; refine Hid.out ?_)
        refine Lib.hid ?_
        obtain ⟨g', cp', rfl, hO5, hB5⟩ := ownb_cons HU.out hsz HB.out hown hgrow
        have HO5 : Hid (OwnBytes w5 w.heap.size g' cp' (UInt8.ofNat (48 + k.natAbs % 10) :: acc)) := hO5
        have HB5 : Hid (Below w.heap.size w w5) := hB5
        clear hown hgrow hO5 hB5
        go_wp2
        exact ⟨⟨k.tdiv 10, g', cp', _, rfl, rfl, by omega, by omega, HD5, HO5, HB5⟩, (show (k.tdiv 10).natAbs < k.natAbs by omega)⟩
end Go.Proofs.YtidpcjcnhklmpacDoor

/- The specification's texts of lists of numbers: l01Nums, l01TagNums, l01Bit. -/
namespace Go.Proofs.YtidpcjcnhklmpacDoor
open Go.ChangeShapes Go.WideShapes Go.ChangeAt Go.RowKit Go.Joins

def numsText (ns : List Int) : List UInt8 := ns.flatMap fun n => 32 :: Lib.itoa n

def HoldsInts (w : World) (b o : Nat) (ns : List Int) : Prop := ∀ i, i < ns.length → w.cell? ⟨b, o + i, none⟩ = some (.int .i64 (ns.getD i 0))

theorem HoldsInts.below {w w' : World} {B b o : Nat} {ns : List Int} (h : HoldsInts w b o ns) (hb : Below B w w') (hB : b < B) : HoldsInts w' b o ns :=
  fun i hi => (hb.cell (p := ⟨b, o + i, none⟩) hB).trans (h i hi)

def Ints64 (ns : List Int) : Prop := ∀ i, i < ns.length → -9223372036854775808 ≤ ns.getD i 0 ∧ ns.getD i 0 ≤ 9223372036854775807

def bitI (de : Bool) : Int := if de then 1 else 0

theorem bitI_any (de : Bool) (w : World) : Calls Tryd.prog 75 #[.bool de] w fun e w' => e = .returned (.int .i64 (bitI de)) ∧ w' = w := by
  go_enter Tryd.func75, Tryd.ntmps75
  cases de
  · go_wp2
    go_ret
    exact ⟨rfl, rfl⟩
  · go_wp2
    go_ret
    exact ⟨rfl, rfl⟩

theorem nums_take (ns : List Int) (j : Nat) (h : j < ns.length) : numsText (ns.take (j + 1)) = numsText (ns.take j) ++ (32 :: Lib.itoa (ns.getD j 0)) := by
  unfold numsText
  rw [List.take_add_one, List.getElem?_eq_getElem h, List.flatMap_append]
  simp [List.getD, h]

theorem nums_len (ns : List Int) (h : Ints64 ns) : ∀ j, j ≤ ns.length → (numsText (ns.take j)).length ≤ 22 * j
  | 0, _ => by simp [numsText]
  | j + 1, hj => by
    rw [nums_take ns j (by omega), List.length_append, List.length_cons]
    have := nums_len ns h j (by omega)
    have hb := h j (by omega)
    have := Lib.itoa_length_le _ hb.1 hb.2
    omega

/-- A text as Go's string. -/
def str (l : List UInt8) : ByteArray := ⟨l.toArray⟩

theorem str_size (l : List UInt8) : (str l).size = l.length := by simp [str, ByteArray.size]

theorem str_add (a b : List UInt8) : str a ++ str b = str (a ++ b) := by
  apply ByteArray.ext
  simp [str]

theorem specNum' (n : Int) (w : World) (h : -9223372036854775808 ≤ n ∧ n ≤ 9223372036854775807) :
    Calls Tryd.prog 37 #[.int .i64 n] w fun e w' => e = .returned (.string (str (Lib.itoa n))) ∧ Below w.heap.size w w' := specNum n w h.1 h.2

set_option maxRecDepth 100000 in
set_option maxHeartbeats 4000000 in
theorem nums_any (b o cap : Nat) (ns : List Int) (w : World) (hn : ns.length ≤ 100) (h64 : Ints64 ns) (hlt : b < w.heap.size) (hh : HoldsInts w b o ns) :
    Calls Tryd.prog 107 #[.slice (some ⟨b, o, none⟩) ns.length cap] w fun e w' => e = .returned (.string (str (numsText ns))) ∧ Below w.heap.size w w' := by
  have HH : Hid (HoldsInts w b o ns) := hh
  have HI : Hid (Ints64 ns) := h64
  clear hh h64
  go_enter Tryd.func107, Tryd.ntmps107
  go_wp2
  go_loopw [3, 4] (fun t i wr => ∃ (j : Nat) (acc : ByteArray), j ≤ ns.length ∧ i = .int .i64 j ∧ t = .string acc ∧ acc.size ≤ 2200 ∧ Hid (acc = str (numsText (ns.take j))) ∧ Hid (Below w.heap.size w wr)) (fun _ i _ => ns.length - (intOf i).toNat)
  case atStart => exact ⟨0, str [], by omega, rfl, rfl, by simp [str_size], rfl, Below.refl _ _⟩
  case round =>
    obtain ⟨j, acc, hj, rfl, rfl, hsz, HA, HB⟩ := hrel
    by_cases hj' : j < ns.length
    · have i1 : (j : Int) < (ns.length : Int) := by omega
      have c1 := (HH.out.below HB.out hlt) j hj'
      have hb := HI.out j hj'
      have e1 : ns.getD j 0 = ns[j] := by simp [List.getD, hj']
      rw [e1] at c1 hb
      obtain ⟨x, HX⟩ : ∃ x, Hid (x = ns[j]) := ⟨ns[j], Lib.hid rfl⟩
      rw [← HX.out] at c1 hb
      go_wp2_with fail
      refine (specNum' x _ hb).mono ?_
      rintro e w1 ⟨rfl, hb1⟩
      have hsz1 : (str (Lib.itoa x)).size ≤ 21 := by rw [str_size]; exact Lib.itoa_length_le _ hb.1 hb.2
      obtain ⟨r, HR⟩ : ∃ r, Hid (r = str (Lib.itoa x)) := ⟨_, Lib.hid rfl⟩
      rw [← HR.out] at hsz1 ⊢
      have HB1 : Hid (Below w.heap.size w w1) := below_step HB.out HB.out.size hb1
      clear hb1
      go_wp2
      have hnew : acc ++ ⟨#[32]⟩ ++ r = str (numsText (ns.take (j + 1))) := by
        rw [HA.out, HR.out, nums_take ns j hj', e1, ← HX.out, show (⟨#[32]⟩ : ByteArray) = str [32] from rfl, str_add, str_add, List.append_assoc]
        rfl
      have hlen : (acc ++ ⟨#[32]⟩ ++ r).size ≤ 2200 := by
        rw [hnew, str_size]
        have := nums_len ns HI.out (j + 1) (by omega)
        omega
      exact ⟨⟨j + 1, _, by omega, by go_num, rfl, hlen, hnew, HB1⟩, by simp [intOf]; omega⟩
    · have hjn : j = ns.length := by omega
      subst hjn
      go_wp2
      go_ret
      rw [HA.out, List.take_length]
      exact ⟨rfl, HB.out⟩

theorem holds_ints_block {w : World} {g t : Nat} {cs : Array Value} {fr : Nat × Nat} {ns : List Int} (hb : w.heap[g]? = some (.cells cs t fr)) (hc : cs = (ns.map (Value.int .i64)).toArray) : HoldsInts w g 0 ns := by
  intro i hi
  subst hc
  rw [Nat.zero_add, cell_of_row w g i _ t fr hb]
  simp [List.getD, hi]

theorem tagNums_any (c s q : Int) (w : World) :
    Calls Tryd.prog 108 #[tagV c s q] w fun e w' => ∃ g, e = .returned (.slice (some ⟨g, 0, none⟩) 3 3) ∧ w.heap.size ≤ g ∧ g < w'.heap.size ∧ HoldsInts w' g 0 [c, s, q] ∧ Below w.heap.size w w' := by
  go_enter Tryd.func108, Tryd.ntmps108
  go_wp2
  go_ret
  refine ⟨w.heap.size + 1, rfl, by omega, by simp, holds_ints_block (cs := #[.int .i64 c, .int .i64 s, .int .i64 q]) (t := 3) (fr := (0, 0)) ?_ rfl, ((Below.refl _ _).alloc (Nat.le_refl _) _).alloc (by simp) _⟩
  have := heap_alloc_new (w.alloc (.cells #[.int .i64 c, .int .i64 s, .int .i64 q] 78)) (.cells #[.int .i64 c, .int .i64 s, .int .i64 q] 3)
  simpa using this
end Go.Proofs.YtidpcjcnhklmpacDoor

/- The text of a write, by the specification. -/
namespace Go.Proofs.YtidpcjcnhklmpacDoor
open Go.ChangeShapes Go.WideShapes Go.ChangeAt Go.RowKit Go.Joins

def depText (d : Dp) : List UInt8 := numsText [d.k] ++ numsText [d.c, d.s, d.q]

def headText (k c s q v : Int) (de : Bool) (n : Nat) : List UInt8 := 119 :: (numsText [k] ++ (numsText [c, s, q] ++ numsText [v, bitI de, n]))

def writeText (k c s q v : Int) (de : Bool) (xs : List Dp) : List UInt8 := if writeOkB k c s q v de xs then headText k c s q v de xs.length ++ xs.flatMap depText else []

/-- Numbers of one's own, in a row: what is known of its slice. -/
def IntsFact (ns : List Int) : Fact := fun v w => ∃ g, v = .slice (some ⟨g, 0, none⟩) ns.length ns.length ∧ g < w.heap.size ∧ HoldsInts w g 0 ns

theorem lasts_ints (ns : List Int) : lasts (fun w w' => Below w.heap.size w w') (IntsFact ns) := by
  rintro v w w' ⟨g, hv, hg, hh⟩ hb
  exact ⟨g, hv, Nat.lt_of_lt_of_le hg hb.size, hh.below hb hg⟩

theorem ints_new {w : World} {t : Nat} (ns : List Int) : IntsFact ns (.slice (some ⟨w.heap.size, 0, none⟩) ns.length ns.length) (w.alloc (.cells (ns.map (Value.int .i64)).toArray t)) :=
  ⟨_, rfl, by simp, holds_ints_block (heap_alloc_new w _) rfl⟩

theorem nums_fact {ns : List Int} {v : Value} {w : World} (h : IntsFact ns v w) (hn : ns.length ≤ 100) (h64 : Ints64 ns) :
    Calls Tryd.prog 107 #[v] w fun e w' => e = .returned (.string (str (numsText ns))) ∧ Below w.heap.size w w' := by
  obtain ⟨g, rfl, hg, hh⟩ := h
  exact nums_any g 0 _ ns w hn h64 hg hh

theorem tagNums_fact (c s q : Int) (w : World) :
    Calls Tryd.prog 108 #[tagV c s q] w fun e w' => ∃ v, e = .returned v ∧ Below w.heap.size w w' ∧ IntsFact [c, s, q] v w' := by
  refine (tagNums_any c s q w).mono ?_
  rintro e w' ⟨g, rfl, _, hg, hh, hb⟩
  exact ⟨_, rfl, hb, g, rfl, hg, hh⟩

theorem nums_size (ns : List Int) (h : Ints64 ns) : (str (numsText ns)).size ≤ 22 * ns.length := by
  rw [str_size]
  have := nums_len ns h ns.length (Nat.le_refl _)
  rwa [List.take_length] at this

theorem ok_parts {k c s q v : Int} {de : Bool} {xs : List Dp} (h : writeOkB k c s q v de xs = true) : btw k 0 5 = true ∧ tagOkB c s q = true ∧ valOkB v de = true ∧ depsOkB xs = true ∧ aheadAll xs c s q = true := by
  simp only [writeOkB, Bool.and_eq_true] at h
  exact ⟨h.1, h.2.1, h.2.2.1, h.2.2.2.1, h.2.2.2.2⟩

theorem ints1 {a : Int} (ha : -9223372036854775808 ≤ a ∧ a ≤ 9223372036854775807) : Ints64 [a] := by
  intro i hi
  match i, hi with
  | 0, _ => exact ha

theorem ints3 {a b c : Int} (ha : -9223372036854775808 ≤ a ∧ a ≤ 9223372036854775807) (hb : -9223372036854775808 ≤ b ∧ b ≤ 9223372036854775807) (hc : -9223372036854775808 ≤ c ∧ c ≤ 9223372036854775807) : Ints64 [a, b, c] := by
  intro i hi
  match i, hi with
  | 0, _ => exact ha
  | 1, _ => exact hb
  | 2, _ => exact hc

theorem btw_bounds {a lo hi : Int} (h : btw a lo hi = true) : lo ≤ a ∧ a ≤ hi := by simpa [btw] using h

theorem ints_tag {c s q : Int} (h : tagOkB c s q = true) : Ints64 [c, s, q] := by
  have := tagOk_bounds h
  exact ints3 (by omega) (by omega) (by omega)

theorem ints_key {k : Int} (h : btw k 0 5 = true) : Ints64 [k] := by
  have := btw_bounds h
  exact ints1 (by omega)

theorem ints_rest {v : Int} {de : Bool} {n : Nat} (h : valOkB v de = true) (hn : n ≤ 1048576) : Ints64 [v, bitI de, (n : Int)] := by
  have := btw_bounds (val_btw h)
  have hb : 0 ≤ bitI de ∧ bitI de ≤ 1 := by cases de <;> simp [bitI]
  exact ints3 (by omega) (by omega) (by omega)

theorem dep_key {xs : List Dp} (h : depsOkB xs = true) {i : Nat} (hi : i < xs.length) : btw (xs.getD i dz).k 0 5 = true := by
  unfold depsOkB at h
  have := List.all_eq_true.1 h i (List.mem_range.2 hi)
  simp only [depGood, Bool.and_eq_true] at this
  exact this.1

theorem dep_cells4 {w w' : World} {g : Nat} {xs : List Dp} (h : HoldsDeps w g 0 xs) (hb : Below w.heap.size w w') (hg : g < w.heap.size) {j : Nat} (hj : j < xs.length) :
    w'.cell? ⟨g, j * 4, none⟩ = some (.int .i64 (xs.getD j dz).k) ∧ w'.cell? ⟨g, j * 4 + 1, none⟩ = some (.int .i64 (xs.getD j dz).c) ∧ w'.cell? ⟨g, j * 4 + 2, none⟩ = some (.int .i64 (xs.getD j dz).s) ∧ w'.cell? ⟨g, j * 4 + 3, none⟩ = some (.int .i64 (xs.getD j dz).q) := by
  have := (h.below hb hg) j hj
  rw [Nat.zero_add] at this
  exact this

theorem deps_take (xs : List Dp) (j : Nat) (h : j < xs.length) : (xs.take (j + 1)).flatMap depText = (xs.take j).flatMap depText ++ depText (xs.getD j dz) := by
  rw [List.take_add_one, List.getElem?_eq_getElem h, List.flatMap_append]
  simp [List.getD, h]

/-- Dependencies from a block's begin on, or none. -/
def Deps0 (w : World) (a : Option Addr) (xs : List Dp) : Prop := xs = [] ∨ ∃ g, a = some ⟨g, 0, none⟩ ∧ g < w.heap.size ∧ HoldsDeps w g 0 xs

theorem Deps0.isDeps {w : World} {a : Option Addr} {xs : List Dp} (h : Deps0 w a xs) : IsDeps w a xs := by
  rcases h with h | ⟨g, h1, h2, h3⟩
  · exact .inl h
  · exact .inr ⟨g, 0, h1, h2, h3⟩

theorem Deps0.get {w : World} {a : Option Addr} {xs : List Dp} (h : Deps0 w a xs) {j : Nat} (hj : j < xs.length) : ∃ g, a = some ⟨g, 0, none⟩ ∧ g < w.heap.size ∧ HoldsDeps w g 0 xs := by
  rcases h with rfl | h
  · simp at hj
  · exact h

set_option maxRecDepth 100000 in
set_option maxHeartbeats 4000000 in
theorem specText_gen (k c s q v : Int) (de : Bool) (ag : Option Addr) (xs : List Dp) (len cap : Nat) (w : World) (hl : xs.length = len) (hn : len ≤ 1048576) (hh : Deps0 w ag xs) :
    Calls Tryd.prog 96 #[wrV k c s q v de ag len cap] w fun e w' => e = .returned (.string (str (writeText k c s q v de xs))) ∧ Below w.heap.size w w' := by
  subst hl
  have HH : Hid (Deps0 w ag xs) := hh
  clear hh
  go_enter Tryd.func96, Tryd.ntmps96
  go_wp2_with fail
  refine (specWriteOk_gen k c s q v de ag xs _ cap _ rfl hn (HH.out.isDeps.below ((Below.refl _ _).alloc (Nat.le_refl _) _))).mono ?_
  rintro e w1 ⟨rfl, hb⟩
  have HX : Hid (BoxIn w w1 k c s q v de ag xs.length cap) := BoxIn.start hb
  clear hb
  cases hok : writeOkB k c s q v de xs
  · have HW : Hid (writeText k c s q v de xs = []) := by simp [writeText, hok, Hid]
    go_wp2
    go_ret
    rw [HW.out]
    exact ⟨rfl, HX.out.below⟩
  · have HW : Hid (writeText k c s q v de xs = headText k c s q v de xs.length ++ xs.flatMap depText) := by simp [writeText, hok, Hid]
    obtain ⟨o1, o2, o3, o4, -⟩ := ok_parts hok
    have i1 : Ints64 [k] := ints_key o1
    have i2 : Ints64 [c, s, q] := ints_tag o2
    have i3 : Ints64 [v, bitI de, (xs.length : Int)] := ints_rest o3 hn
    obtain ⟨t1, HT1⟩ : ∃ t, Hid (t = str (numsText [k])) := ⟨_, Lib.hid rfl⟩
    obtain ⟨t2, HT2⟩ : ∃ t, Hid (t = str (numsText [c, s, q])) := ⟨_, Lib.hid rfl⟩
    obtain ⟨t3, HT3⟩ : ∃ t, Hid (t = str (numsText [v, bitI de, (xs.length : Int)])) := ⟨_, Lib.hid rfl⟩
    have z1 : t1.size ≤ 22 := by rw [HT1.out]; exact nums_size _ i1
    have z2 : t2.size ≤ 66 := by rw [HT2.out]; exact nums_size _ i2
    have z3 : t3.size ≤ 66 := by rw [HT3.out]; exact nums_size _ i3
    go_wp2_with fail
    refine wp_region_slots 22 [[(1, false)], [(8, true)], [(9, true)], [(10, true)], [(11, true)], [(1, false)], [(13, true)], [(14, true)], [(15, true)], [(12, true), (16, true)], [(1, false)], [(18, true)], [(1, false)], [(20, true)], [(21, true)], [(1, false)], [(23, true)], [(24, true)], [(19, true), (22, true), (25, true)], [(26, true)], [(17, true), (27, true)], [(28, true)]] (fun w' => BoxIn w w' k c s q v de ag xs.length cap) (fun w w' => Below w.heap.size w w') (by kernel_rfl) (by kernel_rfl) (by rfl) (HX.out.step (Below.refl _ _).drew) (fun _ _ h hb => h.step hb) ?_
    iterate 2 (apply slot_eq; · (intro ρ w' ⟨p1, p2, p3⟩ ⟨hz, hbl, c0, c1, c2, c3, c4, c5, c6⟩ hn; simp at hn; go_simp; exact ⟨Below.refl _ _, rfl⟩))
    -- its key
    refine slot_fact (IntsFact [k]) (lasts_ints _) ?_ ?_
    · intro ρ w' ⟨p1, p2, p3⟩ ⟨hz, hbl, c0, c1, c2, c3, c4, c5, c6⟩ hn
      simp at hn
      go_simp
      exact ⟨(Below.refl _ _).alloc (Nat.le_refl _) _, ints_new [k]⟩
    apply slot_eq
    · intro ρ w' ⟨p1, p2, p3⟩ ⟨hz, hbl, c0, c1, c2, c3, c4, c5, c6⟩ hn
      simp at hn
      go_simp
      exact got_call (nums_fact hn (by simp) i1) fun e w'' ⟨he, hb⟩ => ⟨_, he, hb, by rw [← HT1.out]⟩
    apply slot_eq
    · intro ρ w' ⟨p1, p2, p3⟩ ⟨hz, hbl, c0, c1, c2, c3, c4, c5, c6⟩ hn
      simp at hn
      go_simp
      rw [if_neg (by omega)]
      exact ⟨Below.refl _ _, rfl⟩
    -- its tag
    iterate 2 (apply slot_eq; · (intro ρ w' ⟨p1, p2, p3⟩ ⟨hz, hbl, c0, c1, c2, c3, c4, c5, c6⟩ hn; simp at hn; go_simp; exact ⟨Below.refl _ _, rfl⟩))
    refine slot_fact (IntsFact [c, s, q]) (lasts_ints _) ?_ ?_
    · intro ρ w' ⟨p1, p2, p3⟩ ⟨hz, hbl, c0, c1, c2, c3, c4, c5, c6⟩ hn
      simp at hn
      go_simp
      exact got_call (tagNums_fact c s q _) fun e w'' h => h
    apply slot_eq
    · intro ρ w' ⟨p1, p2, p3⟩ ⟨hz, hbl, c0, c1, c2, c3, c4, c5, c6⟩ hn
      simp at hn
      go_simp
      exact got_call (nums_fact hn (by simp) i2) fun e w'' ⟨he, hb⟩ => ⟨_, he, hb, by rw [← HT2.out]⟩
    apply slot_eq
    · intro ρ w' ⟨p1, p2, p3⟩ ⟨hz, hbl, c0, c1, c2, c3, c4, c5, c6⟩ hn
      simp at hn
      go_simp
      rw [if_neg (by omega)]
      exact ⟨Below.refl _ _, rfl⟩
    -- its value, whether it is dead, how many deps
    iterate 4 (apply slot_eq; · (intro ρ w' ⟨p1, p2, p3⟩ ⟨hz, hbl, c0, c1, c2, c3, c4, c5, c6⟩ hn; simp at hn; go_simp; exact ⟨Below.refl _ _, rfl⟩))
    apply slot_eq
    · intro ρ w' ⟨p1, p2, p3⟩ ⟨hz, hbl, c0, c1, c2, c3, c4, c5, c6⟩ hn
      simp at hn
      go_simp
      exact got_call (bitI_any de _) fun e w'' ⟨he, hb⟩ => ⟨_, he, by rw [hb]; exact Below.refl _ _, rfl⟩
    iterate 3 (apply slot_eq; · (intro ρ w' ⟨p1, p2, p3⟩ ⟨hz, hbl, c0, c1, c2, c3, c4, c5, c6⟩ hn; simp at hn; go_simp; exact ⟨Below.refl _ _, rfl⟩))
    refine slot_fact (IntsFact [v, bitI de, (xs.length : Int)]) (lasts_ints _) ?_ ?_
    · intro ρ w' ⟨p1, p2, p3⟩ ⟨hz, hbl, c0, c1, c2, c3, c4, c5, c6⟩ hn
      simp at hn
      go_simp
      exact ⟨(Below.refl _ _).alloc (Nat.le_refl _) _, ints_new [v, bitI de, (xs.length : Int)]⟩
    apply slot_eq
    · intro ρ w' ⟨p1, p2, p3⟩ ⟨hz, hbl, c0, c1, c2, c3, c4, c5, c6⟩ hn
      simp at hn
      go_simp
      exact got_call (nums_fact hn (by simp) i3) fun e w'' ⟨he, hb⟩ => ⟨_, he, hb, by rw [← HT3.out]⟩
    apply slot_eq
    · intro ρ w' ⟨p1, p2, p3⟩ ⟨hz, hbl, c0, c1, c2, c3, c4, c5, c6⟩ hn
      simp at hn
      go_simp
      rw [if_neg (by omega)]
      exact ⟨Below.refl _ _, rfl⟩
    iterate 1 (apply slot_eq; · (intro ρ w' ⟨p1, p2, p3⟩ ⟨hz, hbl, c0, c1, c2, c3, c4, c5, c6⟩ hn; simp at hn; go_simp; exact ⟨Below.refl _ _, rfl⟩))
    refine slot_end ?_
    intro vs w2 hS hF
    have HX2 : Hid (BoxIn w w2 k c s q v de ag xs.length cap) := hS
    simp at hF
    obtain ⟨h3, -⟩ := hF
    obtain ⟨t0, HT0⟩ : ∃ t, Hid (t = ⟨#[119]⟩ ++ t1 ++ t2 ++ t3) := ⟨_, Lib.hid rfl⟩
    have z0 : t0.size ≤ 155 := by
      have e1 : (⟨#[119]⟩ : ByteArray).size = 1 := rfl
      rw [HT0.out]
      simp only [ByteArray.size_append]
      omega
    rw [← HT0.out] at h3
    have HE : Hid (t0 = str (headText k c s q v de xs.length)) := by
      have e1 : (⟨#[119]⟩ : ByteArray) = str [119] := rfl
      rw [HT0.out, HT1.out, HT2.out, HT3.out, e1, str_add, str_add, str_add]
      simp [headText, Hid]
    clear hS HT0 HT1 HT2 HT3 z1 z2 z3
    simp only [List.take_succ_cons, List.take_zero, List.drop_succ_cons, List.drop_zero, putAll, h3]
    clear h3
    go_wp2
    go_loopw [3, 4] (fun t i wr => ∃ (j : Nat) (acc : ByteArray), j ≤ xs.length ∧ i = .int .i64 j ∧ t = .string acc ∧ acc.size ≤ 155 + 88 * j ∧ Hid (acc = str (headText k c s q v de xs.length ++ (xs.take j).flatMap depText)) ∧ Hid (BoxIn w wr k c s q v de ag xs.length cap)) (fun _ i _ => xs.length - (intOf i).toNat)
    case atStart => exact ⟨0, t0, by omega, rfl, rfl, by omega, by rw [HE.out]; simp [Hid], HX2⟩
    case round =>
    obtain ⟨j, acc, hj, rfl, rfl, hsz, HA, HX3⟩ := hrel
    have c6 := HX3.out.c6
    by_cases hj' : j < xs.length
    · have j1 : (0 : Int) ≤ (j : Int) := by omega
      have j2 : (j : Int) < (xs.length : Int) := by omega
      obtain ⟨g, rfl, hlt, hhd⟩ := HH.out.get hj'
      have HD : Hid (∀ w', Below w.heap.size w w' → w'.cell? ⟨g, j * 4, none⟩ = some (.int .i64 (xs.getD j dz).k) ∧ w'.cell? ⟨g, j * 4 + 1, none⟩ = some (.int .i64 (xs.getD j dz).c) ∧ w'.cell? ⟨g, j * 4 + 2, none⟩ = some (.int .i64 (xs.getD j dz).s) ∧ w'.cell? ⟨g, j * 4 + 3, none⟩ = some (.int .i64 (xs.getD j dz).q)) := fun w' hb => dep_cells4 hhd hb hlt hj'
      have i4 : Ints64 [(xs.getD j dz).k] := ints_key (dep_key o4 hj')
      have i5 : Ints64 [(xs.getD j dz).c, (xs.getD j dz).s, (xs.getD j dz).q] := ints_tag (depsOk_tag o4 hj')
      have HN : Hid (depText (xs.getD j dz) = numsText [(xs.getD j dz).k] ++ numsText [(xs.getD j dz).c, (xs.getD j dz).s, (xs.getD j dz).q]) := rfl
      generalize (xs.getD j dz).k = x0 at HD HN i4
      generalize (xs.getD j dz).c = x1 at HD HN i5
      generalize (xs.getD j dz).s = x2 at HD HN i5
      generalize (xs.getD j dz).q = x3 at HD HN i5
      obtain ⟨t4, HT4⟩ : ∃ t, Hid (t = str (numsText [x0])) := ⟨_, Lib.hid rfl⟩
      obtain ⟨t5, HT5⟩ : ∃ t, Hid (t = str (numsText [x1, x2, x3])) := ⟨_, Lib.hid rfl⟩
      have z4 : t4.size ≤ 22 := by rw [HT4.out]; exact nums_size _ i4
      have z5 : t5.size ≤ 66 := by rw [HT5.out]; exact nums_size _ i5
      go_wp2_with fail
      refine wp_region_slots 20 [[(3, false)], [(1, false)], [(37, true)], [(4, false)], [(38, true), (39, true)], [(40, true)], [(41, true)], [(42, true)], [(43, true)], [(36, true), (44, true)], [(1, false)], [(46, true)], [(4, false)], [(47, true), (48, true)], [(49, true)], [(50, true)], [(51, true)], [(52, true)], [(45, true), (53, true)], [(54, true)]] (fun w' => BoxIn w w' k c s q v de (some ⟨g, 0, none⟩) xs.length cap) (fun w w' => Below w.heap.size w w') (by kernel_rfl) (by kernel_rfl) (by rfl) (HX3.out.step (Below.refl _ _).drew) (fun _ _ h hb => h.step hb) ?_
      iterate 7 (apply slot_eq; · (intro ρ w' ⟨p1, p2, p3⟩ ⟨hz, hbl, c0, c1, c2, c3, c4, c5, c6⟩ hn; obtain ⟨e0, e1, e2, e3⟩ := HD.out w' hbl; simp at hn; go_simp; exact ⟨Below.refl _ _, rfl⟩))
      refine slot_fact (IntsFact [x0]) (lasts_ints _) ?_ ?_
      · intro ρ w' ⟨p1, p2, p3⟩ ⟨hz, hbl, c0, c1, c2, c3, c4, c5, c6⟩ hn
        simp at hn
        go_simp
        exact ⟨(Below.refl _ _).alloc (Nat.le_refl _) _, ints_new [x0]⟩
      apply slot_eq
      · intro ρ w' ⟨p1, p2, p3⟩ ⟨hz, hbl, c0, c1, c2, c3, c4, c5, c6⟩ hn
        simp at hn
        go_simp
        exact got_call (nums_fact hn (by simp) i4) fun e w'' ⟨he, hb⟩ => ⟨_, he, hb, by rw [← HT4.out]⟩
      apply slot_eq
      · intro ρ w' ⟨p1, p2, p3⟩ ⟨hz, hbl, c0, c1, c2, c3, c4, c5, c6⟩ hn
        simp at hn
        go_simp
        rw [if_neg (by omega)]
        exact ⟨Below.refl _ _, rfl⟩
      iterate 6 (apply slot_eq; · (intro ρ w' ⟨p1, p2, p3⟩ ⟨hz, hbl, c0, c1, c2, c3, c4, c5, c6⟩ hn; obtain ⟨e0, e1, e2, e3⟩ := HD.out w' hbl; simp at hn; go_simp; exact ⟨Below.refl _ _, rfl⟩))
      refine slot_fact (IntsFact [x1, x2, x3]) (lasts_ints _) ?_ ?_
      · intro ρ w' ⟨p1, p2, p3⟩ ⟨hz, hbl, c0, c1, c2, c3, c4, c5, c6⟩ hn
        simp at hn
        go_simp
        exact got_call (tagNums_fact x1 x2 x3 _) fun e w'' h => h
      apply slot_eq
      · intro ρ w' ⟨p1, p2, p3⟩ ⟨hz, hbl, c0, c1, c2, c3, c4, c5, c6⟩ hn
        simp at hn
        go_simp
        exact got_call (nums_fact hn (by simp) i5) fun e w'' ⟨he, hb⟩ => ⟨_, he, hb, by rw [← HT5.out]⟩
      apply slot_eq
      · intro ρ w' ⟨p1, p2, p3⟩ ⟨hz, hbl, c0, c1, c2, c3, c4, c5, c6⟩ hn
        simp at hn
        go_simp
        rw [if_neg (by omega)]
        exact ⟨Below.refl _ _, rfl⟩
      iterate 1 (apply slot_eq; · (intro ρ w' ⟨p1, p2, p3⟩ ⟨hz, hbl, c0, c1, c2, c3, c4, c5, c6⟩ hn; obtain ⟨e0, e1, e2, e3⟩ := HD.out w' hbl; simp at hn; go_simp; exact ⟨Below.refl _ _, rfl⟩))
      refine slot_end ?_
      intro vs w3 hS hF
      have HX4 : Hid (BoxIn w w3 k c s q v de (some ⟨g, 0, none⟩) xs.length cap) := hS
      simp at hF
      obtain ⟨h3, -⟩ := hF
      have HNEW : Hid (acc ++ t4 ++ t5 = str (headText k c s q v de xs.length ++ (xs.take (j + 1)).flatMap depText)) := by
        rw [HA.out, HT4.out, HT5.out, str_add, str_add, deps_take xs j hj', HN.out]
        simp [Hid]
      have hlen : (acc ++ t4 ++ t5).size ≤ 155 + 88 * (j + 1) := by
        simp only [ByteArray.size_append]
        omega
      clear hS HT4 HT5 z4 z5
      simp only [List.take_succ_cons, List.take_zero, List.drop_succ_cons, List.drop_zero, putAll, h3]
      clear h3
      go_wp2
      exact ⟨⟨j + 1, _, by omega, by go_num, rfl, hlen, HNEW, HX4⟩, by simp [intOf]; omega⟩
    · have hjn : j = xs.length := by omega
      subst hjn
      go_wp2
      go_ret
      rw [HW.out, HA.out, List.take_length]
      exact ⟨rfl, HX3.out.below⟩

set_option maxRecDepth 100000 in
theorem specText_any (k c s q v : Int) (de : Bool) (g : Nat) (xs : List Dp) (len cap : Nat) (w : World) (hl : xs.length = len) (hn : len ≤ 1048576) (hlt : g < w.heap.size) (hh : HoldsDeps w g 0 xs) :
    Calls Tryd.prog 96 #[wrV k c s q v de (some ⟨g, 0, none⟩) len cap] w fun e w' => e = .returned (.string (str (writeText k c s q v de xs))) ∧ Below w.heap.size w w' :=
  specText_gen k c s q v de _ xs len cap w hl hn (.inr ⟨g, rfl, hlt, hh⟩)

end Go.Proofs.YtidpcjcnhklmpacDoor

/- The words of a write's text, with no program in sight. -/
namespace Go.Proofs.YtidpcjcnhklmpacDoor
open Go.ChangeShapes Go.WideShapes Go.ChangeAt Go.RowKit Go.Joins

def wordsOf (ns : List Int) : List ByteArray := str [119] :: ns.map fun n => str (Lib.itoa n)

theorem join_words (ns : List Int) : Lib.join ((wordsOf ns).map (·.data.toList)) [32] = 119 :: numsText ns := by
  simp only [wordsOf, List.map_cons, Lib.join_cons, Lib.joinTail, List.map_map]
  simp [str, numsText, List.flatMap, Function.comp_def]

def headNs (k c s q v : Int) (de : Bool) (n : Nat) : List Int := [k, c, s, q, v, bitI de, n]

def depNs (d : Dp) : List Int := [d.k, d.c, d.s, d.q]

theorem text_nums (k c s q v : Int) (de : Bool) (xs : List Dp) (n : Nat) : 119 :: numsText (headNs k c s q v de n ++ xs.flatMap depNs) = headText k c s q v de n ++ xs.flatMap depText := by
  have e : depText = fun d => numsText (depNs d) := by
    funext d
    simp [depText, depNs, numsText]
  rw [e]
  simp [headText, headNs, numsText, List.flatMap_assoc]

end Go.Proofs.YtidpcjcnhklmpacDoor

/-
  DERIVED: THE SHELF's CONTRACTS AT THIS DUMP, IN PLAIN WORDS (tools/lay-plain.mjs out of 'TrydShelf.lean', which tools/lay-shelf.mjs wrote): THE SAME DECLARATIONS UNDER THE SAME NAMES: 'import', 'namespace', 'open', 'def', 'theorem' AND NOTHING ELSE: no command of the shelf's: FOR A HAND-IN. Each laying: the table of numbers ('.._ren') and one theorem, a field a fact of the dump's own or the kernel's comparison; each contract: ONE APPLICATION.
-/
namespace Go.Proofs
open Go.Shelf
def Tryd.laysM246_ren : Go.Shelf.Ren := ⟨fun | 246 => 112 | 283 => 115 | 284 => 116 | 285 => 117 | 286 => 118 | 129 => 120 | 317 => 119 | 318 => 121 | 319 => 122 | 320 => 123 | 337 => 124 | 338 => 125 | n => n, fun | 2 => 2 | 3 => 3 | 9 => 9 | 4 => 4 | 171 => 141 | 0 => 0 | 53 => 119 | 37 => 22 | 5 => 5 | 173 => 144 | 212 => 146 | 51 => 147 | 20 => 20 | 213 => 148 | 46 => 132 | 232 => 151 | 233 => 152 | n => n, fun | 17 => 1 | 18 => 2 | 19 => 3 | n => n⟩
theorem Tryd.laysM246 : Go.Proofs.LaysM.n246 Tryd.prog Tryd.laysM246_ren := {
  mixed := by kernel_rfl
  f129 := Tryd.func120.trans (congrArg some (by kernel_rfl))
  f246 := Tryd.func112.trans (congrArg some (by kernel_rfl))
  f283 := Tryd.func115.trans (congrArg some (by kernel_rfl))
  f284 := Tryd.func116.trans (congrArg some (by kernel_rfl))
  f285 := Tryd.func117.trans (congrArg some (by kernel_rfl))
  f286 := Tryd.func118.trans (congrArg some (by kernel_rfl))
  f317 := Tryd.func119.trans (congrArg some (by kernel_rfl))
  f318 := Tryd.func121.trans (congrArg some (by kernel_rfl))
  f319 := Tryd.func122.trans (congrArg some (by kernel_rfl))
  f320 := Tryd.func123.trans (congrArg some (by kernel_rfl))
  f337 := Tryd.func124.trans (congrArg some (by kernel_rfl))
  f338 := Tryd.func125.trans (congrArg some (by kernel_rfl))
  t0 := Tryd.underlying0
  a0 := Tryd.isAgg0
  z0 := Tryd.sizeOf0
  v0 := Tryd.zeroValue0
  t2 := Tryd.underlying2
  a2 := Tryd.isAgg2
  z2 := Tryd.sizeOf2
  v2 := Tryd.zeroValue2
  t3 := Tryd.underlying3
  a3 := Tryd.isAgg3
  z3 := Tryd.sizeOf3
  v3 := Tryd.zeroValue3
  t4 := Tryd.underlying4
  a4 := Tryd.isAgg4
  z4 := Tryd.sizeOf4
  v4 := Tryd.zeroValue4
  t5 := Tryd.underlying5
  a5 := Tryd.isAgg5
  z5 := Tryd.sizeOf5
  v5 := Tryd.zeroValue5
  t9 := Tryd.underlying9
  a9 := Tryd.isAgg9
  z9 := Tryd.sizeOf9
  v9 := Tryd.zeroValue9
  t20 := Tryd.underlying20
  a20 := Tryd.isAgg20
  z20 := Tryd.sizeOf20
  v20 := Tryd.zeroValue20
  t37 := Tryd.underlying22
  a37 := Tryd.isAgg22
  z37 := Tryd.sizeOf22
  v37 := Tryd.zeroValue22
  t46 := Tryd.underlying132
  a46 := Tryd.isAgg132
  z46 := Tryd.sizeOf132
  v46 := Tryd.zeroValue132
  t51 := Tryd.underlying147
  a51 := Tryd.isAgg147
  z51 := Tryd.sizeOf147
  v51 := Tryd.zeroValue147
  t53 := Tryd.underlying119
  a53 := Tryd.isAgg119
  z53 := Tryd.sizeOf119
  v53 := Tryd.zeroValue119
  t171 := Tryd.underlying141
  a171 := Tryd.isAgg141
  z171 := Tryd.sizeOf141
  v171 := Tryd.zeroValue141
  t173 := Tryd.underlying144
  a173 := Tryd.isAgg144
  z173 := Tryd.sizeOf144
  v173 := Tryd.zeroValue144
  t212 := Tryd.underlying146
  a212 := Tryd.isAgg146
  z212 := Tryd.sizeOf146
  v212 := Tryd.zeroValue146
  t213 := Tryd.underlying148
  a213 := Tryd.isAgg148
  z213 := Tryd.sizeOf148
  t232 := Tryd.underlying151
  a232 := Tryd.isAgg151
  z232 := Tryd.sizeOf151
  v232 := Tryd.zeroValue151
  t233 := Tryd.underlying152
  a233 := Tryd.isAgg152
  z233 := Tryd.sizeOf152
  v233 := Tryd.zeroValue152
  g17 := by kernel_rfl
  g18 := by kernel_rfl
  g19 := by kernel_rfl
  i0 := by kernel_rfl
  i2 := by kernel_rfl
  i3 := by kernel_rfl
  i4 := by kernel_rfl
  i5 := by kernel_rfl
  i9 := by kernel_rfl
  i20 := by kernel_rfl
  i37 := by kernel_rfl
  i46 := by kernel_rfl
  i51 := by kernel_rfl
  i53 := by kernel_rfl
  i171 := by kernel_rfl
  i173 := by kernel_rfl
  i212 := by kernel_rfl
  i232 := by kernel_rfl
  i233 := by kernel_rfl
  m17 := by kernel_rfl
  m18 := by kernel_rfl
  m19 := by kernel_rfl }
open Go.RowKit Go.Sort Go.Lib in
/-- internal/strconv.FormatInt: "FormatInt returns the string representation of i in the given base": AT BASE 10: i's decimal numeral, for every int64. The world behind the call: the world before it, new blocks behind the heap, draws. (LAID: no walk: one application.) -/
theorem Tryd.internal_strconv_FormatInt_10 (n : Int) (h0 : -9223372036854775808 ≤ n) (h1 : n ≤ 9223372036854775807) (w : World) (htab : Lib.TabIs Tryd.prog w "internal/strconv.uint64pow10" .u64 Lib.pow10Tab) :
    Calls Tryd.prog 112 #[.int .i64 n, .int .i64 10] w fun e w' => e = .returned (.string ⟨(Lib.itoa n).toArray⟩) ∧ ∃ k os, w' = grow (w.drewN k) os := Any.internal_strconv_FormatInt_10 Tryd.laysM246 n h0 h1 w htab
def Tryd.lays246_ren : Go.Shelf.Ren := ⟨fun | 246 => 112 | 283 => 115 | 284 => 116 | 285 => 117 | 286 => 118 | 129 => 120 | 317 => 119 | 318 => 121 | 319 => 122 | 320 => 123 | 337 => 124 | 338 => 125 | n => n, fun | 2 => 2 | 3 => 3 | 9 => 9 | 4 => 4 | 171 => 141 | 0 => 0 | 53 => 119 | 37 => 22 | 5 => 5 | 173 => 144 | 212 => 146 | 51 => 147 | 20 => 20 | 213 => 148 | 46 => 132 | 232 => 151 | 233 => 152 | n => n, fun | 17 => 1 | 18 => 2 | 19 => 3 | n => n⟩
theorem Tryd.lays246 : Go.Proofs.Lays.n246 Tryd.prog Tryd.lays246_ren := {
  mixed := by kernel_rfl
  f129 := Tryd.func120.trans (congrArg some (by kernel_rfl))
  f246 := Tryd.func112.trans (congrArg some (by kernel_rfl))
  f283 := Tryd.func115.trans (congrArg some (by kernel_rfl))
  f284 := Tryd.func116.trans (congrArg some (by kernel_rfl))
  f285 := Tryd.func117.trans (congrArg some (by kernel_rfl))
  f286 := Tryd.func118.trans (congrArg some (by kernel_rfl))
  f317 := Tryd.func119.trans (congrArg some (by kernel_rfl))
  f318 := Tryd.func121.trans (congrArg some (by kernel_rfl))
  f319 := Tryd.func122.trans (congrArg some (by kernel_rfl))
  f320 := Tryd.func123.trans (congrArg some (by kernel_rfl))
  f337 := Tryd.func124.trans (congrArg some (by kernel_rfl))
  f338 := Tryd.func125.trans (congrArg some (by kernel_rfl))
  t0 := Tryd.underlying0
  a0 := Tryd.isAgg0
  z0 := Tryd.sizeOf0
  v0 := Tryd.zeroValue0
  t2 := Tryd.underlying2
  a2 := Tryd.isAgg2
  z2 := Tryd.sizeOf2
  v2 := Tryd.zeroValue2
  t3 := Tryd.underlying3
  a3 := Tryd.isAgg3
  z3 := Tryd.sizeOf3
  v3 := Tryd.zeroValue3
  t4 := Tryd.underlying4
  a4 := Tryd.isAgg4
  z4 := Tryd.sizeOf4
  v4 := Tryd.zeroValue4
  t5 := Tryd.underlying5
  a5 := Tryd.isAgg5
  z5 := Tryd.sizeOf5
  v5 := Tryd.zeroValue5
  t9 := Tryd.underlying9
  a9 := Tryd.isAgg9
  z9 := Tryd.sizeOf9
  v9 := Tryd.zeroValue9
  t20 := Tryd.underlying20
  a20 := Tryd.isAgg20
  z20 := Tryd.sizeOf20
  v20 := Tryd.zeroValue20
  t37 := Tryd.underlying22
  a37 := Tryd.isAgg22
  z37 := Tryd.sizeOf22
  v37 := Tryd.zeroValue22
  t46 := Tryd.underlying132
  a46 := Tryd.isAgg132
  z46 := Tryd.sizeOf132
  v46 := Tryd.zeroValue132
  t51 := Tryd.underlying147
  a51 := Tryd.isAgg147
  z51 := Tryd.sizeOf147
  v51 := Tryd.zeroValue147
  t53 := Tryd.underlying119
  a53 := Tryd.isAgg119
  z53 := Tryd.sizeOf119
  v53 := Tryd.zeroValue119
  t171 := Tryd.underlying141
  a171 := Tryd.isAgg141
  z171 := Tryd.sizeOf141
  v171 := Tryd.zeroValue141
  t173 := Tryd.underlying144
  a173 := Tryd.isAgg144
  z173 := Tryd.sizeOf144
  v173 := Tryd.zeroValue144
  t212 := Tryd.underlying146
  a212 := Tryd.isAgg146
  z212 := Tryd.sizeOf146
  v212 := Tryd.zeroValue146
  t213 := Tryd.underlying148
  a213 := Tryd.isAgg148
  z213 := Tryd.sizeOf148
  t232 := Tryd.underlying151
  a232 := Tryd.isAgg151
  z232 := Tryd.sizeOf151
  v232 := Tryd.zeroValue151
  t233 := Tryd.underlying152
  a233 := Tryd.isAgg152
  z233 := Tryd.sizeOf152
  v233 := Tryd.zeroValue152
  g17 := by kernel_rfl
  g18 := by kernel_rfl
  g19 := by kernel_rfl }
open Go.RowKit Go.Sort Go.Lib in
/-- THE ROAD WITHOUT THE TABLE: 0 <= i < 100: two constants are read, nothing is laid: no premise on the world, and the world is as it was. (LAID: no walk: one application.) -/
theorem Tryd.internal_strconv_FormatInt_10_small (i : Nat) (hi : i < 100) (w : World) :
    Calls Tryd.prog 112 #[.int .i64 i, .int .i64 10] w fun e w' => e = .returned (.string ⟨(Lib.decDigits i).toArray⟩) ∧ w' = w := Any.internal_strconv_FormatInt_10_small Tryd.lays246 i hi w
def Tryd.laysM243_ren : Go.Shelf.Ren := ⟨fun | 243 => 106 | 246 => 112 | 283 => 115 | 284 => 116 | 285 => 117 | 286 => 118 | 129 => 120 | 317 => 119 | 318 => 121 | 319 => 122 | 320 => 123 | 337 => 124 | 338 => 125 | n => n, fun | 3 => 3 | 9 => 9 | 2 => 2 | 4 => 4 | 171 => 141 | 0 => 0 | 53 => 119 | 37 => 22 | 5 => 5 | 173 => 144 | 212 => 146 | 51 => 147 | 20 => 20 | 213 => 148 | 46 => 132 | 232 => 151 | 233 => 152 | n => n, fun | 17 => 1 | 18 => 2 | 19 => 3 | n => n⟩
theorem Tryd.laysM243 : Go.Proofs.LaysM.n243 Tryd.prog Tryd.laysM243_ren := {
  mixed := by kernel_rfl
  f129 := Tryd.func120.trans (congrArg some (by kernel_rfl))
  f243 := Tryd.func106.trans (congrArg some (by kernel_rfl))
  f246 := Tryd.func112.trans (congrArg some (by kernel_rfl))
  f283 := Tryd.func115.trans (congrArg some (by kernel_rfl))
  f284 := Tryd.func116.trans (congrArg some (by kernel_rfl))
  f285 := Tryd.func117.trans (congrArg some (by kernel_rfl))
  f286 := Tryd.func118.trans (congrArg some (by kernel_rfl))
  f317 := Tryd.func119.trans (congrArg some (by kernel_rfl))
  f318 := Tryd.func121.trans (congrArg some (by kernel_rfl))
  f319 := Tryd.func122.trans (congrArg some (by kernel_rfl))
  f320 := Tryd.func123.trans (congrArg some (by kernel_rfl))
  f337 := Tryd.func124.trans (congrArg some (by kernel_rfl))
  f338 := Tryd.func125.trans (congrArg some (by kernel_rfl))
  t0 := Tryd.underlying0
  a0 := Tryd.isAgg0
  z0 := Tryd.sizeOf0
  v0 := Tryd.zeroValue0
  t2 := Tryd.underlying2
  a2 := Tryd.isAgg2
  z2 := Tryd.sizeOf2
  v2 := Tryd.zeroValue2
  t3 := Tryd.underlying3
  a3 := Tryd.isAgg3
  z3 := Tryd.sizeOf3
  v3 := Tryd.zeroValue3
  t4 := Tryd.underlying4
  a4 := Tryd.isAgg4
  z4 := Tryd.sizeOf4
  v4 := Tryd.zeroValue4
  t5 := Tryd.underlying5
  a5 := Tryd.isAgg5
  z5 := Tryd.sizeOf5
  v5 := Tryd.zeroValue5
  t9 := Tryd.underlying9
  a9 := Tryd.isAgg9
  z9 := Tryd.sizeOf9
  v9 := Tryd.zeroValue9
  t20 := Tryd.underlying20
  a20 := Tryd.isAgg20
  z20 := Tryd.sizeOf20
  v20 := Tryd.zeroValue20
  t37 := Tryd.underlying22
  a37 := Tryd.isAgg22
  z37 := Tryd.sizeOf22
  v37 := Tryd.zeroValue22
  t46 := Tryd.underlying132
  a46 := Tryd.isAgg132
  z46 := Tryd.sizeOf132
  v46 := Tryd.zeroValue132
  t51 := Tryd.underlying147
  a51 := Tryd.isAgg147
  z51 := Tryd.sizeOf147
  v51 := Tryd.zeroValue147
  t53 := Tryd.underlying119
  a53 := Tryd.isAgg119
  z53 := Tryd.sizeOf119
  v53 := Tryd.zeroValue119
  t171 := Tryd.underlying141
  a171 := Tryd.isAgg141
  z171 := Tryd.sizeOf141
  v171 := Tryd.zeroValue141
  t173 := Tryd.underlying144
  a173 := Tryd.isAgg144
  z173 := Tryd.sizeOf144
  v173 := Tryd.zeroValue144
  t212 := Tryd.underlying146
  a212 := Tryd.isAgg146
  z212 := Tryd.sizeOf146
  v212 := Tryd.zeroValue146
  t213 := Tryd.underlying148
  a213 := Tryd.isAgg148
  z213 := Tryd.sizeOf148
  t232 := Tryd.underlying151
  a232 := Tryd.isAgg151
  z232 := Tryd.sizeOf151
  v232 := Tryd.zeroValue151
  t233 := Tryd.underlying152
  a233 := Tryd.isAgg152
  z233 := Tryd.sizeOf152
  v233 := Tryd.zeroValue152
  g17 := by kernel_rfl
  g18 := by kernel_rfl
  g19 := by kernel_rfl
  i0 := by kernel_rfl
  i2 := by kernel_rfl
  i3 := by kernel_rfl
  i4 := by kernel_rfl
  i5 := by kernel_rfl
  i9 := by kernel_rfl
  i20 := by kernel_rfl
  i37 := by kernel_rfl
  i46 := by kernel_rfl
  i51 := by kernel_rfl
  i53 := by kernel_rfl
  i171 := by kernel_rfl
  i173 := by kernel_rfl
  i212 := by kernel_rfl
  i232 := by kernel_rfl
  i233 := by kernel_rfl
  m17 := by kernel_rfl
  m18 := by kernel_rfl
  m19 := by kernel_rfl }
open Go.RowKit Go.Sort Go.Lib in
/-- internal/strconv.Itoa: "Itoa is equivalent to FormatInt(int64(i), 10).": i's decimal numeral, for every int. (LAID: no walk: one application.) -/
theorem Tryd.internal_strconv_Itoa (n : Int) (h0 : -9223372036854775808 ≤ n) (h1 : n ≤ 9223372036854775807) (w : World) (htab : Lib.TabIs Tryd.prog w "internal/strconv.uint64pow10" .u64 Lib.pow10Tab) :
    Calls Tryd.prog 106 #[.int .i64 n] w fun e w' => e = .returned (.string ⟨(Lib.itoa n).toArray⟩) ∧ ∃ k os, w' = grow (w.drewN k) os := Any.internal_strconv_Itoa Tryd.laysM243 n h0 h1 w htab
def Tryd.lays243_ren : Go.Shelf.Ren := ⟨fun | 243 => 106 | 246 => 112 | 283 => 115 | 284 => 116 | 285 => 117 | 286 => 118 | 129 => 120 | 317 => 119 | 318 => 121 | 319 => 122 | 320 => 123 | 337 => 124 | 338 => 125 | n => n, fun | 3 => 3 | 9 => 9 | 2 => 2 | 4 => 4 | 171 => 141 | 0 => 0 | 53 => 119 | 37 => 22 | 5 => 5 | 173 => 144 | 212 => 146 | 51 => 147 | 20 => 20 | 213 => 148 | 46 => 132 | 232 => 151 | 233 => 152 | n => n, fun | 17 => 1 | 18 => 2 | 19 => 3 | n => n⟩
theorem Tryd.lays243 : Go.Proofs.Lays.n243 Tryd.prog Tryd.lays243_ren := {
  mixed := by kernel_rfl
  f129 := Tryd.func120.trans (congrArg some (by kernel_rfl))
  f243 := Tryd.func106.trans (congrArg some (by kernel_rfl))
  f246 := Tryd.func112.trans (congrArg some (by kernel_rfl))
  f283 := Tryd.func115.trans (congrArg some (by kernel_rfl))
  f284 := Tryd.func116.trans (congrArg some (by kernel_rfl))
  f285 := Tryd.func117.trans (congrArg some (by kernel_rfl))
  f286 := Tryd.func118.trans (congrArg some (by kernel_rfl))
  f317 := Tryd.func119.trans (congrArg some (by kernel_rfl))
  f318 := Tryd.func121.trans (congrArg some (by kernel_rfl))
  f319 := Tryd.func122.trans (congrArg some (by kernel_rfl))
  f320 := Tryd.func123.trans (congrArg some (by kernel_rfl))
  f337 := Tryd.func124.trans (congrArg some (by kernel_rfl))
  f338 := Tryd.func125.trans (congrArg some (by kernel_rfl))
  t0 := Tryd.underlying0
  a0 := Tryd.isAgg0
  z0 := Tryd.sizeOf0
  v0 := Tryd.zeroValue0
  t2 := Tryd.underlying2
  a2 := Tryd.isAgg2
  z2 := Tryd.sizeOf2
  v2 := Tryd.zeroValue2
  t3 := Tryd.underlying3
  a3 := Tryd.isAgg3
  z3 := Tryd.sizeOf3
  v3 := Tryd.zeroValue3
  t4 := Tryd.underlying4
  a4 := Tryd.isAgg4
  z4 := Tryd.sizeOf4
  v4 := Tryd.zeroValue4
  t5 := Tryd.underlying5
  a5 := Tryd.isAgg5
  z5 := Tryd.sizeOf5
  v5 := Tryd.zeroValue5
  t9 := Tryd.underlying9
  a9 := Tryd.isAgg9
  z9 := Tryd.sizeOf9
  v9 := Tryd.zeroValue9
  t20 := Tryd.underlying20
  a20 := Tryd.isAgg20
  z20 := Tryd.sizeOf20
  v20 := Tryd.zeroValue20
  t37 := Tryd.underlying22
  a37 := Tryd.isAgg22
  z37 := Tryd.sizeOf22
  v37 := Tryd.zeroValue22
  t46 := Tryd.underlying132
  a46 := Tryd.isAgg132
  z46 := Tryd.sizeOf132
  v46 := Tryd.zeroValue132
  t51 := Tryd.underlying147
  a51 := Tryd.isAgg147
  z51 := Tryd.sizeOf147
  v51 := Tryd.zeroValue147
  t53 := Tryd.underlying119
  a53 := Tryd.isAgg119
  z53 := Tryd.sizeOf119
  v53 := Tryd.zeroValue119
  t171 := Tryd.underlying141
  a171 := Tryd.isAgg141
  z171 := Tryd.sizeOf141
  v171 := Tryd.zeroValue141
  t173 := Tryd.underlying144
  a173 := Tryd.isAgg144
  z173 := Tryd.sizeOf144
  v173 := Tryd.zeroValue144
  t212 := Tryd.underlying146
  a212 := Tryd.isAgg146
  z212 := Tryd.sizeOf146
  v212 := Tryd.zeroValue146
  t213 := Tryd.underlying148
  a213 := Tryd.isAgg148
  z213 := Tryd.sizeOf148
  t232 := Tryd.underlying151
  a232 := Tryd.isAgg151
  z232 := Tryd.sizeOf151
  v232 := Tryd.zeroValue151
  t233 := Tryd.underlying152
  a233 := Tryd.isAgg152
  z233 := Tryd.sizeOf152
  v233 := Tryd.zeroValue152
  g17 := by kernel_rfl
  g18 := by kernel_rfl
  g19 := by kernel_rfl }
open Go.RowKit Go.Sort Go.Lib in
/-- THE ROAD WITHOUT THE TABLE: 0 <= i < 100. (LAID: no walk: one application.) -/
theorem Tryd.internal_strconv_Itoa_small (i : Nat) (hi : i < 100) (w : World) :
    Calls Tryd.prog 106 #[.int .i64 i] w fun e w' => e = .returned (.string ⟨(Lib.decDigits i).toArray⟩) ∧ w' = w := Any.internal_strconv_Itoa_small Tryd.lays243 i hi w
def Tryd.laysM171_ren : Go.Shelf.Ren := ⟨fun | 171 => 87 | 243 => 106 | 246 => 112 | 283 => 115 | 284 => 116 | 285 => 117 | 286 => 118 | 129 => 120 | 317 => 119 | 318 => 121 | 319 => 122 | 320 => 123 | 337 => 124 | 338 => 125 | n => n, fun | 3 => 3 | 9 => 9 | 2 => 2 | 4 => 4 | 171 => 141 | 0 => 0 | 53 => 119 | 37 => 22 | 5 => 5 | 173 => 144 | 212 => 146 | 51 => 147 | 20 => 20 | 213 => 148 | 46 => 132 | 232 => 151 | 233 => 152 | n => n, fun | 17 => 1 | 18 => 2 | 19 => 3 | n => n⟩
theorem Tryd.laysM171 : Go.Proofs.LaysM.n171 Tryd.prog Tryd.laysM171_ren := {
  mixed := by kernel_rfl
  f129 := Tryd.func120.trans (congrArg some (by kernel_rfl))
  f171 := Tryd.func87.trans (congrArg some (by kernel_rfl))
  f243 := Tryd.func106.trans (congrArg some (by kernel_rfl))
  f246 := Tryd.func112.trans (congrArg some (by kernel_rfl))
  f283 := Tryd.func115.trans (congrArg some (by kernel_rfl))
  f284 := Tryd.func116.trans (congrArg some (by kernel_rfl))
  f285 := Tryd.func117.trans (congrArg some (by kernel_rfl))
  f286 := Tryd.func118.trans (congrArg some (by kernel_rfl))
  f317 := Tryd.func119.trans (congrArg some (by kernel_rfl))
  f318 := Tryd.func121.trans (congrArg some (by kernel_rfl))
  f319 := Tryd.func122.trans (congrArg some (by kernel_rfl))
  f320 := Tryd.func123.trans (congrArg some (by kernel_rfl))
  f337 := Tryd.func124.trans (congrArg some (by kernel_rfl))
  f338 := Tryd.func125.trans (congrArg some (by kernel_rfl))
  t0 := Tryd.underlying0
  a0 := Tryd.isAgg0
  z0 := Tryd.sizeOf0
  v0 := Tryd.zeroValue0
  t2 := Tryd.underlying2
  a2 := Tryd.isAgg2
  z2 := Tryd.sizeOf2
  v2 := Tryd.zeroValue2
  t3 := Tryd.underlying3
  a3 := Tryd.isAgg3
  z3 := Tryd.sizeOf3
  v3 := Tryd.zeroValue3
  t4 := Tryd.underlying4
  a4 := Tryd.isAgg4
  z4 := Tryd.sizeOf4
  v4 := Tryd.zeroValue4
  t5 := Tryd.underlying5
  a5 := Tryd.isAgg5
  z5 := Tryd.sizeOf5
  v5 := Tryd.zeroValue5
  t9 := Tryd.underlying9
  a9 := Tryd.isAgg9
  z9 := Tryd.sizeOf9
  v9 := Tryd.zeroValue9
  t20 := Tryd.underlying20
  a20 := Tryd.isAgg20
  z20 := Tryd.sizeOf20
  v20 := Tryd.zeroValue20
  t37 := Tryd.underlying22
  a37 := Tryd.isAgg22
  z37 := Tryd.sizeOf22
  v37 := Tryd.zeroValue22
  t46 := Tryd.underlying132
  a46 := Tryd.isAgg132
  z46 := Tryd.sizeOf132
  v46 := Tryd.zeroValue132
  t51 := Tryd.underlying147
  a51 := Tryd.isAgg147
  z51 := Tryd.sizeOf147
  v51 := Tryd.zeroValue147
  t53 := Tryd.underlying119
  a53 := Tryd.isAgg119
  z53 := Tryd.sizeOf119
  v53 := Tryd.zeroValue119
  t171 := Tryd.underlying141
  a171 := Tryd.isAgg141
  z171 := Tryd.sizeOf141
  v171 := Tryd.zeroValue141
  t173 := Tryd.underlying144
  a173 := Tryd.isAgg144
  z173 := Tryd.sizeOf144
  v173 := Tryd.zeroValue144
  t212 := Tryd.underlying146
  a212 := Tryd.isAgg146
  z212 := Tryd.sizeOf146
  v212 := Tryd.zeroValue146
  t213 := Tryd.underlying148
  a213 := Tryd.isAgg148
  z213 := Tryd.sizeOf148
  t232 := Tryd.underlying151
  a232 := Tryd.isAgg151
  z232 := Tryd.sizeOf151
  v232 := Tryd.zeroValue151
  t233 := Tryd.underlying152
  a233 := Tryd.isAgg152
  z233 := Tryd.sizeOf152
  v233 := Tryd.zeroValue152
  g17 := by kernel_rfl
  g18 := by kernel_rfl
  g19 := by kernel_rfl
  i0 := by kernel_rfl
  i2 := by kernel_rfl
  i3 := by kernel_rfl
  i4 := by kernel_rfl
  i5 := by kernel_rfl
  i9 := by kernel_rfl
  i20 := by kernel_rfl
  i37 := by kernel_rfl
  i46 := by kernel_rfl
  i51 := by kernel_rfl
  i53 := by kernel_rfl
  i171 := by kernel_rfl
  i173 := by kernel_rfl
  i212 := by kernel_rfl
  i232 := by kernel_rfl
  i233 := by kernel_rfl
  m17 := by kernel_rfl
  m18 := by kernel_rfl
  m19 := by kernel_rfl }
open Go.RowKit Go.Sort Go.Lib in
/-- strconv.Itoa: "Itoa is equivalent to FormatInt(int64(i), 10).": i's DECIMAL NUMERAL ('Lib.itoa': a '-' where i is negative, then the digits), FOR EVERY int. The world behind the call: the world before it, new blocks behind the heap (the library's 'var a [24]byte'), draws. (LAID: no walk: one application.) -/
theorem Tryd.strconv_Itoa (n : Int) (h0 : -9223372036854775808 ≤ n) (h1 : n ≤ 9223372036854775807) (w : World) (htab : Lib.TabIs Tryd.prog w "internal/strconv.uint64pow10" .u64 Lib.pow10Tab) :
    Calls Tryd.prog 87 #[.int .i64 n] w fun e w' => e = .returned (.string ⟨(Lib.itoa n).toArray⟩) ∧ ∃ k os, w' = grow (w.drewN k) os := Any.strconv_Itoa Tryd.laysM171 n h0 h1 w htab
def Tryd.lays171_ren : Go.Shelf.Ren := ⟨fun | 171 => 87 | 243 => 106 | 246 => 112 | 283 => 115 | 284 => 116 | 285 => 117 | 286 => 118 | 129 => 120 | 317 => 119 | 318 => 121 | 319 => 122 | 320 => 123 | 337 => 124 | 338 => 125 | n => n, fun | 3 => 3 | 9 => 9 | 2 => 2 | 4 => 4 | 171 => 141 | 0 => 0 | 53 => 119 | 37 => 22 | 5 => 5 | 173 => 144 | 212 => 146 | 51 => 147 | 20 => 20 | 213 => 148 | 46 => 132 | 232 => 151 | 233 => 152 | n => n, fun | 17 => 1 | 18 => 2 | 19 => 3 | n => n⟩
theorem Tryd.lays171 : Go.Proofs.Lays.n171 Tryd.prog Tryd.lays171_ren := {
  mixed := by kernel_rfl
  f129 := Tryd.func120.trans (congrArg some (by kernel_rfl))
  f171 := Tryd.func87.trans (congrArg some (by kernel_rfl))
  f243 := Tryd.func106.trans (congrArg some (by kernel_rfl))
  f246 := Tryd.func112.trans (congrArg some (by kernel_rfl))
  f283 := Tryd.func115.trans (congrArg some (by kernel_rfl))
  f284 := Tryd.func116.trans (congrArg some (by kernel_rfl))
  f285 := Tryd.func117.trans (congrArg some (by kernel_rfl))
  f286 := Tryd.func118.trans (congrArg some (by kernel_rfl))
  f317 := Tryd.func119.trans (congrArg some (by kernel_rfl))
  f318 := Tryd.func121.trans (congrArg some (by kernel_rfl))
  f319 := Tryd.func122.trans (congrArg some (by kernel_rfl))
  f320 := Tryd.func123.trans (congrArg some (by kernel_rfl))
  f337 := Tryd.func124.trans (congrArg some (by kernel_rfl))
  f338 := Tryd.func125.trans (congrArg some (by kernel_rfl))
  t0 := Tryd.underlying0
  a0 := Tryd.isAgg0
  z0 := Tryd.sizeOf0
  v0 := Tryd.zeroValue0
  t2 := Tryd.underlying2
  a2 := Tryd.isAgg2
  z2 := Tryd.sizeOf2
  v2 := Tryd.zeroValue2
  t3 := Tryd.underlying3
  a3 := Tryd.isAgg3
  z3 := Tryd.sizeOf3
  v3 := Tryd.zeroValue3
  t4 := Tryd.underlying4
  a4 := Tryd.isAgg4
  z4 := Tryd.sizeOf4
  v4 := Tryd.zeroValue4
  t5 := Tryd.underlying5
  a5 := Tryd.isAgg5
  z5 := Tryd.sizeOf5
  v5 := Tryd.zeroValue5
  t9 := Tryd.underlying9
  a9 := Tryd.isAgg9
  z9 := Tryd.sizeOf9
  v9 := Tryd.zeroValue9
  t20 := Tryd.underlying20
  a20 := Tryd.isAgg20
  z20 := Tryd.sizeOf20
  v20 := Tryd.zeroValue20
  t37 := Tryd.underlying22
  a37 := Tryd.isAgg22
  z37 := Tryd.sizeOf22
  v37 := Tryd.zeroValue22
  t46 := Tryd.underlying132
  a46 := Tryd.isAgg132
  z46 := Tryd.sizeOf132
  v46 := Tryd.zeroValue132
  t51 := Tryd.underlying147
  a51 := Tryd.isAgg147
  z51 := Tryd.sizeOf147
  v51 := Tryd.zeroValue147
  t53 := Tryd.underlying119
  a53 := Tryd.isAgg119
  z53 := Tryd.sizeOf119
  v53 := Tryd.zeroValue119
  t171 := Tryd.underlying141
  a171 := Tryd.isAgg141
  z171 := Tryd.sizeOf141
  v171 := Tryd.zeroValue141
  t173 := Tryd.underlying144
  a173 := Tryd.isAgg144
  z173 := Tryd.sizeOf144
  v173 := Tryd.zeroValue144
  t212 := Tryd.underlying146
  a212 := Tryd.isAgg146
  z212 := Tryd.sizeOf146
  v212 := Tryd.zeroValue146
  t213 := Tryd.underlying148
  a213 := Tryd.isAgg148
  z213 := Tryd.sizeOf148
  t232 := Tryd.underlying151
  a232 := Tryd.isAgg151
  z232 := Tryd.sizeOf151
  v232 := Tryd.zeroValue151
  t233 := Tryd.underlying152
  a233 := Tryd.isAgg152
  z233 := Tryd.sizeOf152
  v233 := Tryd.zeroValue152
  g17 := by kernel_rfl
  g18 := by kernel_rfl
  g19 := by kernel_rfl }
open Go.RowKit Go.Sort Go.Lib in
/-- THE ROAD WITHOUT THE TABLE: 0 <= i < 100: NO PREMISE ON THE WORLD, AND THE WORLD IS AS IT WAS: a row that keeps its argument in that range need list no table ('laid = []'). (LAID: no walk: one application.) -/
theorem Tryd.strconv_Itoa_small (i : Nat) (hi : i < 100) (w : World) :
    Calls Tryd.prog 87 #[.int .i64 i] w fun e w' => e = .returned (.string ⟨(Lib.decDigits i).toArray⟩) ∧ w' = w := Any.strconv_Itoa_small Tryd.lays171 i hi w
end Go.Proofs

/- The program's number's text: impl.NumText gives the decimal numeral, where the library's table of powers of ten lies as its initialiser lays it. -/
namespace Go.Proofs.YtidpcjcnhklmpacDoor
open Go.ChangeShapes Go.WideShapes Go.ChangeAt Go.RowKit Go.Joins

def Tab (w : World) : Prop := Lib.TabIs Tryd.prog w "internal/strconv.uint64pow10" .u64 Lib.pow10Tab

theorem gPow : Tryd.prog.globalNamed "internal/strconv.uint64pow10" = some 1 := by kernel_rfl

theorem grown_below (w : World) (k : Nat) (os : Array Obj) : Below w.heap.size w (Sort.grow (w.drewN k) os) :=
  ⟨rfl, rfl, rfl, by simp [Sort.grow], fun j hj => by
    have hj' : j < (w.drewN k).heap.size := hj
    show ((w.drewN k).heap ++ os)[j]? = w.heap[j]?
    rw [Array.getElem?_append_left hj']
    rfl⟩

theorem Tab.below {w w' : World} {B : Nat} (h : Tab w) (hb : Below B w w') (hB : 1 < B) : Tab w' := by
  unfold Tab Lib.TabIs at h ⊢
  rw [← h]
  unfold World.var?
  simp only [gPow, Option.bind_some]
  rw [hb.block _ hB]

theorem Tab.lt {w : World} (h : Tab w) : 1 < w.heap.size := by
  have := h.cell gPow 0 (by simp [Lib.pow10Tab])
  exact block_lt_of_cell this

set_option maxRecDepth 100000 in
theorem implNum (n : Int) (w : World) (h0 : -9223372036854775808 ≤ n) (h1 : n ≤ 9223372036854775807) (ht : Tab w) :
    Calls Tryd.prog 63 #[.int .i64 n] w fun e w' => e = .returned (.string ⟨(Lib.itoa n).toArray⟩) ∧ Below w.heap.size w w' := by
  have HT : Hid (Tab w) := ht
  clear ht
  go_enter Tryd.func63, Tryd.ntmps63
  go_wp2_with fail
  refine (Tryd.strconv_Itoa n h0 h1 _ HT.out).mono ?_
  rintro e w1 ⟨rfl, k, os, rfl⟩
  have HB := Lib.hid (grown_below w k os)
  generalize Sort.grow (w.drewN k) os = w2 at HB ⊢
  go_wp2
  go_ret
  exact ⟨rfl, HB.out⟩
end Go.Proofs.YtidpcjcnhklmpacDoor

/- Words of one's own, in a row that is written into; what they are when they are joined. -/
namespace Go.Proofs.YtidpcjcnhklmpacDoor
open Go.ChangeShapes Go.WideShapes Go.ChangeAt Go.RowKit Go.Joins

structure OwnStrs (w : World) (base g cap : Nat) (ws : List ByteArray) : Prop where
  le : base ≤ g
  lt : g < w.heap.size
  own : w.ownsRow base 9 1 (.slice (some ⟨g, 0, none⟩) ws.length cap) ws.length (ws.map Value.string)

theorem OwnStrs.below {w w' : World} {base g cap : Nat} {ws : List ByteArray} (h : OwnStrs w base g cap ws) (hb : Below w.heap.size w w') : OwnStrs w' base g cap ws :=
  ⟨h.le, Nat.lt_of_lt_of_le h.lt hb.size, h.own.kept (row := none) ⟨hb.os, hb.tape, hb.output, hb.size, fun k hk _ => hb.block k hk⟩ (.inr (by simp [Value.ownBlock]))⟩

theorem OwnStrs.set {w : World} {base g cap : Nat} {ws : List ByteArray} (h : OwnStrs w base g cap ws) (j : Nat) (t : ByteArray) : OwnStrs (w.setCell ⟨g, j, none⟩ (.string t)) base g cap (ws.set j t) := by
  refine ⟨h.le, by simpa using h.lt, ?_⟩
  have := (h.own.stored j (.string t)).1
  rw [← List.map_set] at this
  simpa using this

theorem OwnStrs.cell {w : World} {base g cap : Nat} {ws : List ByteArray} (h : OwnStrs w base g cap ws) {j : Nat} {t : ByteArray} (ht : ws[j]? = some t) : w.cell? ⟨g, j, none⟩ = some (.string t) := by
  rw [h.own.cellAt j (by have := (List.getElem?_eq_some_iff.1 ht).1; omega)]
  simp [ht]

theorem OwnStrs.froz {w : World} {base g cap : Nat} {ws : List ByteArray} (h : OwnStrs w base g cap ws) (j : Nat) : w.frozen? ⟨g, j, none⟩ = false := h.own.frozenAt j

/-- A write's box, and a row of words behind it. -/
structure Words (w W : World) (k c s q v : Int) (de : Bool) (a : Option Addr) (len cap g wc : Nat) (ws : List ByteArray) : Prop where
  box : BoxIn w W k c s q v de a len cap
  row : OwnStrs W (w.heap.size + 1) g wc ws

theorem Words.step {w W W' : World} {k c s q v : Int} {de : Bool} {a : Option Addr} {len cap g wc : Nat} {ws : List ByteArray} (h : Words w W k c s q v de a len cap g wc ws) (hb : Below W.heap.size W W') : Words w W' k c s q v de a len cap g wc ws :=
  ⟨h.box.step hb, h.row.below hb⟩

theorem Words.set {w W : World} {k c s q v : Int} {de : Bool} {a : Option Addr} {len cap g wc : Nat} {ws : List ByteArray} (h : Words w W k c s q v de a len cap g wc ws) (j : Nat) (t : ByteArray) : Words w (W.setCell ⟨g, j, none⟩ (.string t)) k c s q v de a len cap g wc (ws.set j t) := by
  have hle := h.row.le
  refine ⟨h.box.other (by simp) (h.box.below.setCell (p := ⟨g, j, none⟩) (show w.heap.size ≤ g by omega) _) (Below.heap_setCell _ _ _ _ (show w.heap.size ≠ g by omega)), h.row.set j t⟩

theorem Words.grown {w W W' : World} {k c s q v : Int} {de : Bool} {a : Option Addr} {len cap g wc g' wc' : Nat} {ws ws' : List ByteArray} (h : Words w W k c s q v de a len cap g wc ws) (hg : W.grownBy W' (some g)) (ho : OwnStrs W' (w.heap.size + 1) g' wc' ws') : Words w W' k c s q v de a len cap g' wc' ws' := by
  have hle := h.row.le
  refine ⟨h.box.other hg.size (h.box.below.grown hg h.box.below.size fun j hj => by injection hj with hj; omega) (hg.block _ h.box.lt (by simp; omega)), ho⟩

theorem Words.ne {w W : World} {k c s q v : Int} {de : Bool} {a : Option Addr} {len cap g wc : Nat} {ws : List ByteArray} (h : Words w W k c s q v de a len cap g wc ws) : g ≠ w.heap.size := by
  have := h.row.le
  omega

theorem Words.tab {w W : World} {k c s q v : Int} {de : Bool} {a : Option Addr} {len cap g wc : Nat} {ws : List ByteArray} (h : Words w W k c s q v de a len cap g wc ws) (ht : Tab w) : Tab W := ht.below h.box.below ht.lt

theorem implNumT (n : Int) (t : ByteArray) (w : World) (ht : t = str (Lib.itoa n)) (h : -9223372036854775808 ≤ n ∧ n ≤ 9223372036854775807) (hT : Tab w) :
    Calls Tryd.prog 63 #[.int .i64 n] w fun e w' => e = .returned (.string t) ∧ Below w.heap.size w w' := by
  subst ht
  exact implNum n w h.1 h.2 hT

theorem flag_any (de : Bool) (w : World) : Calls Tryd.prog 81 #[.bool de] w fun e w' => e = .returned (.int .i64 (bitI de)) ∧ w' = w := by
  go_enter Tryd.func81, Tryd.ntmps81
  cases de
  · go_wp2
    go_ret
    exact ⟨rfl, rfl⟩
  · go_wp2
    go_ret
    exact ⟨rfl, rfl⟩

theorem infoStr : (Tryd.prog.info? 9).map (fun i => (i.zero, i.size, i.bytes)) = some (some (.string ⟨#[]⟩), 1, 16) := by kernel_rfl

set_option maxRecDepth 100000 in
theorem make_words {w w1 : World} {k c s q v : Int} {de : Bool} {a : Option Addr} {len cap : Nat} (h : BoxIn w w1 k c s q v de a len cap) (n : Nat) (hn : n ≤ 1048576) :
    ∃ W, (Instr.makeSlice 96 (.int .i64 8) (.int .i64 (8 + 4 * (n : Int)))).run Tryd.prog w1 = .ok (.slice (some ⟨w1.heap.size, 0, none⟩) 8 (8 + 4 * n)) W ∧ Words w W k c s q v de a len cap w1.heap.size (8 + 4 * n) (List.replicate 8 ⟨#[]⟩) := by
  obtain ⟨i, hi, hx⟩ := Option.map_eq_some_iff.1 infoStr
  simp only [Prod.mk.injEq] at hx
  have hr := run_make (P := Tryd.prog) w1 96 9 i (.string ⟨#[]⟩) Tryd.underlying96 hi hx.1 .i64 .i64 8 (8 + 4 * (n : Int)) (by omega) (by omega) (by rw [hx.2.2]; omega) (by omega)
  have e1 : (8 + 4 * (n : Int)).toNat = 8 + 4 * n := by omega
  rw [e1, hx.2.1, Nat.mul_one] at hr
  refine ⟨_, hr, ⟨h.step ((Below.refl _ _).alloc (Nat.le_refl _) _), ⟨h.lt, by simp, by simp, .inr ⟨w1.heap.size, 8 + 4 * n, _, rfl, h.lt, heap_alloc_new w1 _, by simp, by simp [maxLen]; omega, by rw [size_madeCells]; omega, ?_⟩⟩⟩⟩
  rw [show (Value.string ⟨#[]⟩).cells = #[Value.string ⟨#[]⟩] from rfl, toList_madeCells_one, List.take_replicate]
  simp only [List.length_replicate, List.map_replicate]
  congr 1
  omega

/-- Words of one's own, as a slice that is handed on. -/
def StrsFact (ts : List ByteArray) : Fact := fun v w => ∃ g, v = .slice (some ⟨g, 0, none⟩) ts.length ts.length ∧ g < w.heap.size ∧ ∀ j u, (ts.map Value.string)[j]? = some u → w.cell? ⟨g, j, none⟩ = some u

theorem lasts_strs (ts : List ByteArray) : lasts (fun w w' => Below w.heap.size w w') (StrsFact ts) := by
  rintro v w w' ⟨g, hv, hg, hh⟩ hb
  exact ⟨g, hv, Nat.lt_of_lt_of_le hg hb.size, fun j u hu => (hb.cell (p := ⟨g, j, none⟩) hg).trans (hh j u hu)⟩

theorem strs_new {w : World} {t : Nat} (ts : List ByteArray) : StrsFact ts (.slice (some ⟨w.heap.size, 0, none⟩) ts.length ts.length) (w.alloc (.cells (ts.map Value.string).toArray t)) :=
  ⟨_, rfl, by simp, fun j u hu => by rw [cell_of_row _ _ j _ t (0, 0) (heap_alloc_new w _)]; simpa using hu⟩

end Go.Proofs.YtidpcjcnhklmpacDoor
