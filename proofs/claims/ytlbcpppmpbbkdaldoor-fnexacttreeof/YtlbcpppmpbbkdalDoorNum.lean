/- The number's text of the specification: spec.NumText gives the decimal numeral. -/
import Derived.Test.YtlbcpppmpbbkdalDoorSmall
import Derived.Test.YtlbcpppmpbbkdalDoorAft
import Derived.Deep.AppendLies
import Derived.OwnWalk
import Derived.Lib.ItoaMem
import Derived.Lib.ItoaLen
import Derived.Lib.Slices
import Derived.Lib.AppendIntMem
import Derived.Laws.IdiomStrings
namespace Go.Proofs.YtlbcpppmpbbkdalDoor
open Go.ChangeShapes Go.WideShapes Go.ChangeAt Go.RowKit Go.Joins

def dgs (k : Int) : List UInt8 := if k = 0 then [] else Lib.decDigits k.natAbs

theorem dgs_step (k : Int) (hk : k ≠ 0) (acc : List UInt8) : dgs (k.tdiv 10) ++ (UInt8.ofNat (48 + k.natAbs % 10) :: acc) = dgs k ++ acc := by
  have hq : (k.tdiv 10).natAbs = k.natAbs / 10 := by rw [Int.natAbs_tdiv]; rfl
  unfold dgs
  rw [if_neg hk]
  by_cases h : k.natAbs < 10
  · have h0 : k.tdiv 10 = 0 := by have : (k.tdiv 10).natAbs = 0 := by rw [hq]; omega
                                  omega
    rw [if_pos h0, Lib.decDigits_one h, Nat.mod_eq_of_lt h]
    rfl
  · have h0 : k.tdiv 10 ≠ 0 := by intro e; rw [e] at hq; simp at hq; omega
    rw [if_neg h0, hq]
    conv => rhs; rw [Lib.decDigits, dif_neg h]
    simp

/-- A row of bytes of the call's own. -/
structure OwnBytes (w : World) (base g cap : Nat) (bs : List UInt8) : Prop where
  le : base ≤ g
  lt : g < w.heap.size
  own : w.ownsRow base 5 1 (.slice (some ⟨g, 0, none⟩) bs.length cap) bs.length (Lib.byteCells bs)

theorem infoByte : (Tryd.prog.info? 5).map (fun i => (i.zero, i.size, i.bytes)) = some (some (.int .u8 0), 1, 1) := by kernel_rfl

theorem ownb_start (w : World) (base : Nat) (hb : base ≤ w.heap.size) : OwnBytes (w.alloc (.cells #[] 5)) base w.heap.size 0 [] :=
  ⟨hb, by simp, World.ownsRow_made w #[] 0 hb (by simp [maxLen]) (by simp)⟩

theorem ownb_cells {w : World} {base g cap : Nat} {bs : List UInt8} (h : OwnBytes w base g cap bs) : ∀ j u, (Lib.byteCells bs)[j]? = some u → w.cell? ((⟨g, 0, none⟩ : Addr).add j) = some u :=
  h.own.cells (g := g) rfl

theorem own_one (w : World) (base : Nat) (x : Value) (hb : base ≤ w.heap.size) : (w.alloc (.cells #[x] 5)).ownsRow base 5 1 (.slice (some ⟨w.heap.size, 0, none⟩) 1 1) 1 [x] :=
  ⟨by simp, .inr ⟨w.heap.size, 1, #[x], rfl, hb, heap_alloc_new w _, Nat.le_refl _, by simp [maxLen], by simp, by simp⟩⟩

theorem bcons (x : UInt8) (acc : List UInt8) : Lib.byteCells (x :: acc) = [Value.int .u8 x.toNat] ++ Lib.byteCells acc := by simp [Lib.byteCells]

theorem blen (acc : List UInt8) : (Lib.byteCells acc).length = acc.length := by simp [Lib.byteCells]

theorem bone (acc : List UInt8) : ∀ u ∈ Lib.byteCells acc, u.oneCell' = true := by
  intro u hu
  simp only [Lib.byteCells, List.mem_map] at hu
  obtain ⟨b, _, rfl⟩ := hu
  rfl

/-- Behind 'append([]byte{x}, out...)'. -/
theorem ownb_cons {w wr w5 : World} {base : Nat} {acc : List UInt8} {x : UInt8} {z : Int} {v' : Value} (hz : z = x.toNat) (hb : base ≤ wr.heap.size) (hB : Below base w wr)
    (hown : w5.ownsRow base 5 1 v' (1 + acc.length) ([Value.int .u8 z] ++ Lib.byteCells acc)) (hgrow : (wr.alloc (.cells #[.int .u8 z] 5)).grownBy w5 (some wr.heap.size)) :
    ∃ g cp, v' = .slice (some ⟨g, 0, none⟩) (x :: acc).length cp ∧ OwnBytes w5 base g cp (x :: acc) ∧ Below base w w5 := by
  subst hz
  obtain ⟨g, cap, rfl, hle, hlt⟩ := hown.form (by omega)
  have e : (x :: acc).length = 1 + acc.length := by simp; omega
  refine ⟨g, cap, by rw [e], ⟨hle, hlt, by rw [e, bcons]; exact hown⟩, ?_⟩
  exact (hB.alloc hb _).grown hgrow (by simp; omega) (fun k hk => by injection hk with hk; omega)

theorem dig_u8 (k : Int) (z : Int) (hz : z = k.tmod 10 ∨ z = -k.tmod 10) (hz0 : 0 ≤ z) :
    wrap64 (48 + z) % 256 = ((UInt8.ofNat (48 + k.natAbs % 10)).toNat : Int) := by
  have e : z = ((k.natAbs % 10 : Nat) : Int) := by
    have h1 : (k.tmod 10).natAbs = k.natAbs % 10 := by rw [Int.natAbs_tmod]; rfl
    omega
  have h10 : k.natAbs % 10 < 10 := Nat.mod_lt _ (by omega)
  rw [e]
  unfold wrap64
  simp only [UInt8.toNat_ofNat']
  omega

theorem text_of (n : Int) (acc : List UInt8) (h : dgs 0 ++ acc = Lib.decDigits n.natAbs) : (¬ n < 0 → acc = Lib.itoa n) ∧ (n < 0 → 45 :: acc = Lib.itoa n) := by
  have e : acc = Lib.decDigits n.natAbs := by simpa [dgs] using h
  unfold Lib.itoa
  constructor
  · intro hh
    rw [if_neg hh, e]
    congr 1
    omega
  · intro hh
    rw [if_pos hh, e]

theorem acc_le (n k : Int) (acc : List UInt8) (h0 : -9223372036854775808 ≤ n) (h1 : n ≤ 9223372036854775807) (h : dgs k ++ acc = Lib.decDigits n.natAbs) : acc.length ≤ 21 := by
  have h2 := Lib.itoa_length_le n h0 h1
  have h3 : (Lib.decDigits n.natAbs).length ≤ (Lib.itoa n).length := by
    unfold Lib.itoa
    split
    · simp
    · have : n.natAbs = n.toNat := by omega
      rw [this]
      exact Nat.le_refl _
  have h4 := congrArg List.length h
  rw [List.length_append] at h4
  omega

set_option maxRecDepth 100000 in
set_option maxHeartbeats 4000000 in
theorem specNum (n : Int) (w : World) (h0 : -9223372036854775808 ≤ n) (h1 : n ≤ 9223372036854775807) :
    Calls Tryd.prog 21 #[.int .i64 n] w fun e w' => e = .returned (.string ⟨(Lib.itoa n).toArray⟩) ∧ Below w.heap.size w w' := by
  go_enter Tryd.func21, Tryd.ntmps21
  by_cases hn : n = 0
  · subst hn
    have e0 : (Lib.itoa 0).toArray = #[48] := by decide +kernel
    rw [e0]
    go_wp2
    go_ret
    exact ⟨rfl, Below.refl _ _⟩
  obtain ⟨i0, hi0, hz0, hz1, hz2⟩ := info_parts infoByte
  have HI0 : Hid (Tryd.prog.info? 5 = some i0) := hi0
  have HZ0 : Hid (i0.zero = some (.int .u8 0)) := hz0
  have HZ1 : Hid (i0.size = 1) := hz1
  have HZ2 : Hid (i0.bytes = 1) := hz2
  clear hi0 hz0 hz1 hz2
  have hn' : (n == 0) = false := by simp [hn]
  go_wp2
  go_loopw [3, 4] (fun o m wr => ∃ (k : Int) (g cp : Nat) (acc : List UInt8), m = .int .i64 k ∧ o = .slice (some ⟨g, 0, none⟩) acc.length cp ∧ -9223372036854775808 ≤ k ∧ k ≤ 9223372036854775807 ∧ Hid (dgs k ++ acc = Lib.decDigits n.natAbs) ∧ Hid (OwnBytes wr w.heap.size g cp acc) ∧ Hid (Below w.heap.size w wr)) (fun _ m _ => (intOf m).natAbs)
  case atStart => exact ⟨n, w.heap.size, 0, [], rfl, rfl, h0, h1, by simp [Hid, dgs, hn], ownb_start w _ (Nat.le_refl _), (Below.refl _ _).alloc (Nat.le_refl _) _⟩
  case round =>
    obtain ⟨k, g, cp, acc, rfl, rfl, k0, k1, HD, HO, HB⟩ := hrel
    have hacc : acc.length ≤ 21 := acc_le n k acc h0 h1 HD.out
    have hsz : w.heap.size ≤ wr.heap.size := HB.out.size
    by_cases hk : k = 0
    · subst hk
      have ht := text_of n acc HD.out
      by_cases hneg : n < 0
      · have HT : Hid (45 :: acc = Lib.itoa n) := ht.2 hneg
        clear ht
        go_wp2_with (at_builtin; refine wpList_append_own _ (by rfl) _ _ _ (by rfl) w.heap.size 5 i0 _ 1 1 Tryd.underlying66 HI0.out HZ0.out HZ1.out HZ2.out (by rfl) (by omega) (.slice (some ⟨wr.heap.size, 0, none⟩) 1 1) 1 [.int .u8 45] (by rfl) (own_one wr _ _ hsz) ⟨g, 0, none⟩ acc.length cp (Lib.byteCells acc) (by rfl) (by rw [blen, Nat.mul_one]) ((HO.out.own.alloc _).cells (g := g) rfl) (bone acc) (by unfold maxLen; omega) (by omega) (by simp; omega) ?_; intro v' w5 hown hgrow _; refine Hid.out ?_)
        refine Lib.hid ?_
        obtain ⟨g', cp', rfl, hO5, hB5⟩ := ownb_cons (x := 45) (by rfl) hsz HB.out hown hgrow
        obtain ⟨l, hl⟩ : ∃ l, l = Lib.itoa n := ⟨_, rfl⟩
        have HL : Hid (l = Lib.itoa n) := hl
        rw [HT.out, ← hl] at hO5 ⊢
        have hcv := run_convert_bytes_back (P := Tryd.prog) w5 66 9 5 ⟨g', 0, none⟩ cp' l Tryd.underlying66 Tryd.underlying5 Tryd.underlying9 (fun j hj => ownb_cells hO5 j _ (by simp [Lib.byteCells, hj]))
        have HB5 : Hid (Below w.heap.size w w5) := hB5
        clear hown hgrow hO5 hB5 hl HT
        go_wp2
        go_ret
        have hl := HL.out
        subst hl
        exact ⟨rfl, HB5.out⟩
      · have HT : Hid (acc = Lib.itoa n) := ht.1 hneg
        clear ht
        have hcv := run_convert_bytes_back (P := Tryd.prog) wr 66 9 5 ⟨g, 0, none⟩ cp acc Tryd.underlying66 Tryd.underlying5 Tryd.underlying9 (fun j hj => ownb_cells HO.out j _ (by simp [Lib.byteCells, hj]))
        go_wp2
        go_ret
        have hl := HT.out
        subst hl
        exact ⟨rfl, HB.out⟩
    · have hk' : (k == 0) = false := by simp [hk]
      have hst := dgs_step k hk acc
      have HD5 : Hid (dgs (k.tdiv 10) ++ (UInt8.ofNat (48 + k.natAbs % 10) :: acc) = Lib.decDigits n.natAbs) := hst.trans HD.out
      clear hst
      have q0 : (k.tdiv 10).natAbs = k.natAbs / 10 := by rw [Int.natAbs_tdiv]; rfl
      by_cases hd : k.tmod 10 < 0
      · have w1 : wrap64 (-k.tmod 10) = -k.tmod 10 := by have := Int.lt_tmod_of_pos k (show (0:Int) < 10 by omega); unfold wrap64; omega
        have hu := dig_u8 k (-k.tmod 10) (.inr rfl) (by omega)
        have HU : Hid (wrap64 (48 + -k.tmod 10) % 256 = ((UInt8.ofNat (48 + k.natAbs % 10)).toNat : Int)) := hu
        clear hu
        go_wp2_with (at_builtin; refine wpList_append_own _ (by rfl) _ _ _ (by rfl) w.heap.size 5 i0 _ 1 1 Tryd.underlying66 HI0.out HZ0.out HZ1.out HZ2.out (by rfl) (by omega) (.slice (some ⟨wr.heap.size, 0, none⟩) 1 1) 1 [_] (by rfl) (own_one wr _ _ hsz) ⟨g, 0, none⟩ acc.length cp (Lib.byteCells acc) (by rfl) (by rw [blen, Nat.mul_one]) ((HO.out.own.alloc _).cells (g := g) rfl) (bone acc) (by unfold maxLen; omega) (by omega) (by simp; omega) ?_; intro v' w5 hown hgrow _; refine Hid.out ?_)
        refine Lib.hid ?_
        obtain ⟨g', cp', rfl, hO5, hB5⟩ := ownb_cons HU.out hsz HB.out hown hgrow
        have HO5 : Hid (OwnBytes w5 w.heap.size g' cp' (UInt8.ofNat (48 + k.natAbs % 10) :: acc)) := hO5
        have HB5 : Hid (Below w.heap.size w w5) := hB5
        clear hown hgrow hO5 hB5
        go_wp2
        exact ⟨⟨k.tdiv 10, g', cp', _, rfl, rfl, by omega, by omega, HD5, HO5, HB5⟩, (show (k.tdiv 10).natAbs < k.natAbs by omega)⟩
      · have hu := dig_u8 k (k.tmod 10) (.inl rfl) (by omega)
        have HU : Hid (wrap64 (48 + k.tmod 10) % 256 = ((UInt8.ofNat (48 + k.natAbs % 10)).toNat : Int)) := hu
        clear hu
        go_wp2_with (at_builtin; refine wpList_append_own _ (by rfl) _ _ _ (by rfl) w.heap.size 5 i0 _ 1 1 Tryd.underlying66 HI0.out HZ0.out HZ1.out HZ2.out (by rfl) (by omega) (.slice (some ⟨wr.heap.size, 0, none⟩) 1 1) 1 [_] (by rfl) (own_one wr _ _ hsz) ⟨g, 0, none⟩ acc.length cp (Lib.byteCells acc) (by rfl) (by rw [blen, Nat.mul_one]) ((HO.out.own.alloc _).cells (g := g) rfl) (bone acc) (by unfold maxLen; omega) (by omega) (by simp; omega) ?_; intro v' w5 hown hgrow _; refine Hid.out ?_)
        refine Lib.hid ?_
        obtain ⟨g', cp', rfl, hO5, hB5⟩ := ownb_cons HU.out hsz HB.out hown hgrow
        have HO5 : Hid (OwnBytes w5 w.heap.size g' cp' (UInt8.ofNat (48 + k.natAbs % 10) :: acc)) := hO5
        have HB5 : Hid (Below w.heap.size w w5) := hB5
        clear hown hgrow hO5 hB5
        go_wp2
        exact ⟨⟨k.tdiv 10, g', cp', _, rfl, rfl, by omega, by omega, HD5, HO5, HB5⟩, (show (k.tdiv 10).natAbs < k.natAbs by omega)⟩
end Go.Proofs.YtlbcpppmpbbkdalDoor
