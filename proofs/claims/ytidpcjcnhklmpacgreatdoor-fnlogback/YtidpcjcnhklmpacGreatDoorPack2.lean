import Derived.Test.YtidpcjcnhklmpacGreatDoorPack1
import Derived.Deep.AppendLies
import Derived.OwnWalk
import Derived.Lib.ItoaMem
import Derived.Lib.ItoaLen
import Derived.Lib.Slices
import Derived.Lib.AppendIntMem
import Derived.Laws.IdiomStrings
import Derived.Below
import Derived.Deep.DrawnRows
import Derived.Deep.RegionHeld3
import Derived.WalkSmall
import Derived.Deep.OwnRows
import Derived.Laws.BitsAllLaws
/- The number's text of the specification: spec.NumText gives the decimal numeral. -/
namespace Go.Proofs.YtidpcjcnhklmpacGreatDoor
open Go.ChangeShapes Go.WideShapes Go.ChangeAt Go.RowKit Go.Joins

def dgs (k : Int) : List UInt8 := if k = 0 then [] else Lib.decDigits k.natAbs

theorem dgs_step (k : Int) (hk : k ≠ 0) (acc : List UInt8) : dgs (k.tdiv 10) ++ (UInt8.ofNat (48 + k.natAbs % 10) :: acc) = dgs k ++ acc := by
  have hq : (k.tdiv 10).natAbs = k.natAbs / 10 := by rw [Int.natAbs_tdiv]; rfl
  unfold dgs
  rw [if_neg hk]
  by_cases h : k.natAbs < 10
  · have h0 : k.tdiv 10 = 0 := by have : (k.tdiv 10).natAbs = 0 := by rw [hq]; omega
                                  omega
    rw [if_pos h0, Lib.decDigits_one h, Nat.mod_eq_of_lt h]
    rfl
  · have h0 : k.tdiv 10 ≠ 0 := by intro e; rw [e] at hq; simp at hq; omega
    rw [if_neg h0, hq]
    conv => rhs; rw [Lib.decDigits, dif_neg h]
    simp

/-- A row of bytes of the call's own. -/
structure OwnBytes (w : World) (base g cap : Nat) (bs : List UInt8) : Prop where
  le : base ≤ g
  lt : g < w.heap.size
  own : w.ownsRow base 5 1 (.slice (some ⟨g, 0, none⟩) bs.length cap) bs.length (Lib.byteCells bs)

theorem infoByte : (Tryz.prog.info? 5).map (fun i => (i.zero, i.size, i.bytes)) = some (some (.int .u8 0), 1, 1) := by kernel_rfl

theorem ownb_start (w : World) (base : Nat) (hb : base ≤ w.heap.size) : OwnBytes (w.alloc (.cells #[] 5)) base w.heap.size 0 [] :=
  ⟨hb, by simp, World.ownsRow_made w #[] 0 hb (by simp [maxLen]) (by simp)⟩

theorem ownb_cells {w : World} {base g cap : Nat} {bs : List UInt8} (h : OwnBytes w base g cap bs) : ∀ j u, (Lib.byteCells bs)[j]? = some u → w.cell? ((⟨g, 0, none⟩ : Addr).add j) = some u :=
  h.own.cells (g := g) rfl

theorem own_one (w : World) (base : Nat) (x : Value) (hb : base ≤ w.heap.size) : (w.alloc (.cells #[x] 5)).ownsRow base 5 1 (.slice (some ⟨w.heap.size, 0, none⟩) 1 1) 1 [x] :=
  ⟨by simp, .inr ⟨w.heap.size, 1, #[x], rfl, hb, heap_alloc_new w _, Nat.le_refl _, by simp [maxLen], by simp, by simp⟩⟩

theorem bcons (x : UInt8) (acc : List UInt8) : Lib.byteCells (x :: acc) = [Value.int .u8 x.toNat] ++ Lib.byteCells acc := by simp [Lib.byteCells]

theorem blen (acc : List UInt8) : (Lib.byteCells acc).length = acc.length := by simp [Lib.byteCells]

theorem bone (acc : List UInt8) : ∀ u ∈ Lib.byteCells acc, u.oneCell' = true := by
  intro u hu
  simp only [Lib.byteCells, List.mem_map] at hu
  obtain ⟨b, _, rfl⟩ := hu
  rfl

/-- Behind 'append([]byte{x}, out...)'. -/
theorem ownb_cons {w wr w5 : World} {base : Nat} {acc : List UInt8} {x : UInt8} {z : Int} {v' : Value} (hz : z = x.toNat) (hb : base ≤ wr.heap.size) (hB : Below base w wr)
    (hown : w5.ownsRow base 5 1 v' (1 + acc.length) ([Value.int .u8 z] ++ Lib.byteCells acc)) (hgrow : (wr.alloc (.cells #[.int .u8 z] 5)).grownBy w5 (some wr.heap.size)) :
    ∃ g cp, v' = .slice (some ⟨g, 0, none⟩) (x :: acc).length cp ∧ OwnBytes w5 base g cp (x :: acc) ∧ Below base w w5 := by
  subst hz
  obtain ⟨g, cap, rfl, hle, hlt⟩ := hown.form (by omega)
  have e : (x :: acc).length = 1 + acc.length := by simp; omega
  refine ⟨g, cap, by rw [e], ⟨hle, hlt, by rw [e, bcons]; exact hown⟩, ?_⟩
  exact (hB.alloc hb _).grown hgrow (by simp; omega) (fun k hk => by injection hk with hk; omega)

theorem dig_u8 (k : Int) (z : Int) (hz : z = k.tmod 10 ∨ z = -k.tmod 10) (hz0 : 0 ≤ z) :
    wrap64 (48 + z) % 256 = ((UInt8.ofNat (48 + k.natAbs % 10)).toNat : Int) := by
  have e : z = ((k.natAbs % 10 : Nat) : Int) := by
    have h1 : (k.tmod 10).natAbs = k.natAbs % 10 := by rw [Int.natAbs_tmod]; rfl
    omega
  have h10 : k.natAbs % 10 < 10 := Nat.mod_lt _ (by omega)
  rw [e]
  unfold wrap64
  simp only [UInt8.toNat_ofNat']
  omega

theorem text_of (n : Int) (acc : List UInt8) (h : dgs 0 ++ acc = Lib.decDigits n.natAbs) : (¬ n < 0 → acc = Lib.itoa n) ∧ (n < 0 → 45 :: acc = Lib.itoa n) := by
  have e : acc = Lib.decDigits n.natAbs := by simpa [dgs] using h
  unfold Lib.itoa
  constructor
  · intro hh
    rw [if_neg hh, e]
    congr 1
    omega
  · intro hh
    rw [if_pos hh, e]

theorem acc_le (n k : Int) (acc : List UInt8) (h0 : -9223372036854775808 ≤ n) (h1 : n ≤ 9223372036854775807) (h : dgs k ++ acc = Lib.decDigits n.natAbs) : acc.length ≤ 21 := by
  have h2 := Lib.itoa_length_le n h0 h1
  have h3 : (Lib.decDigits n.natAbs).length ≤ (Lib.itoa n).length := by
    unfold Lib.itoa
    split
    · simp
    · have : n.natAbs = n.toNat := by omega
      rw [this]
      exact Nat.le_refl _
  have h4 := congrArg List.length h
  rw [List.length_append] at h4
  omega

set_option maxRecDepth 100000 in
set_option maxHeartbeats 4000000 in
theorem specNum (n : Int) (w : World) (h0 : -9223372036854775808 ≤ n) (h1 : n ≤ 9223372036854775807) :
    Calls Tryz.prog 63 #[.int .i64 n] w fun e w' => e = .returned (.string ⟨(Lib.itoa n).toArray⟩) ∧ Below w.heap.size w w' := by
  go_enter Tryz.func63, Tryz.ntmps63
  by_cases hn : n = 0
  · subst hn
    have e0 : (Lib.itoa 0).toArray = #[48] := by decide +kernel
    rw [e0]
    go_wp2
    go_ret
    exact ⟨rfl, Below.refl _ _⟩
  obtain ⟨i0, hi0, hz0, hz1, hz2⟩ := info_parts infoByte
  have HI0 : Hid (Tryz.prog.info? 5 = some i0) := hi0
  have HZ0 : Hid (i0.zero = some (.int .u8 0)) := hz0
  have HZ1 : Hid (i0.size = 1) := hz1
  have HZ2 : Hid (i0.bytes = 1) := hz2
  clear hi0 hz0 hz1 hz2
  have hn' : (n == 0) = false := by simp [hn]
  go_wp2
  go_loopw [3, 4] (fun o m wr => ∃ (k : Int) (g cp : Nat) (acc : List UInt8), m = .int .i64 k ∧ o = .slice (some ⟨g, 0, none⟩) acc.length cp ∧ -9223372036854775808 ≤ k ∧ k ≤ 9223372036854775807 ∧ Hid (dgs k ++ acc = Lib.decDigits n.natAbs) ∧ Hid (OwnBytes wr w.heap.size g cp acc) ∧ Hid (Below w.heap.size w wr)) (fun _ m _ => (intOf m).natAbs)
  case atStart => exact ⟨n, w.heap.size, 0, [], rfl, rfl, h0, h1, by simp [Hid, dgs, hn], ownb_start w _ (Nat.le_refl _), (Below.refl _ _).alloc (Nat.le_refl _) _⟩
  case round =>
    obtain ⟨k, g, cp, acc, rfl, rfl, k0, k1, HD, HO, HB⟩ := hrel
    have hacc : acc.length ≤ 21 := acc_le n k acc h0 h1 HD.out
    have hsz : w.heap.size ≤ wr.heap.size := HB.out.size
    by_cases hk : k = 0
    · subst hk
      have ht := text_of n acc HD.out
      by_cases hneg : n < 0
      · have HT : Hid (45 :: acc = Lib.itoa n) := ht.2 hneg
        clear ht
        go_wp2_with (at_builtin; refine wpList_append_own _ (by rfl) _ _ _ (by rfl) w.heap.size 5 i0 _ 1 1 Tryz.underlying22 HI0.out HZ0.out HZ1.out HZ2.out (by rfl) (by omega) (.slice (some ⟨wr.heap.size, 0, none⟩) 1 1) 1 [.int .u8 45] (by rfl) (own_one wr _ _ hsz) ⟨g, 0, none⟩ acc.length cp (Lib.byteCells acc) (by rfl) (by rw [blen, Nat.mul_one]) ((HO.out.own.alloc _).cells (g := g) rfl) (bone acc) (by unfold maxLen; omega) (by omega) (by simp; omega) ?_; intro v' w5 hown hgrow _; refine Hid.out ?_)
        refine Lib.hid ?_
        obtain ⟨g', cp', rfl, hO5, hB5⟩ := ownb_cons (x := 45) (by rfl) hsz HB.out hown hgrow
        obtain ⟨l, hl⟩ : ∃ l, l = Lib.itoa n := ⟨_, rfl⟩
        have HL : Hid (l = Lib.itoa n) := hl
        rw [HT.out, ← hl] at hO5 ⊢
        have hcv := run_convert_bytes_back (P := Tryz.prog) w5 22 9 5 ⟨g', 0, none⟩ cp' l Tryz.underlying22 Tryz.underlying5 Tryz.underlying9 (fun j hj => ownb_cells hO5 j _ (by simp [Lib.byteCells, hj]))
        have HB5 : Hid (Below w.heap.size w w5) := hB5
        clear hown hgrow hO5 hB5 hl HT
        go_wp2
        go_ret
        have hl := HL.out
        subst hl
        exact ⟨rfl, HB5.out⟩
      · have HT : Hid (acc = Lib.itoa n) := ht.1 hneg
        clear ht
        have hcv := run_convert_bytes_back (P := Tryz.prog) wr 22 9 5 ⟨g, 0, none⟩ cp acc Tryz.underlying22 Tryz.underlying5 Tryz.underlying9 (fun j hj => ownb_cells HO.out j _ (by simp [Lib.byteCells, hj]))
        go_wp2
        go_ret
        have hl := HT.out
        subst hl
        exact ⟨rfl, HB.out⟩
    · have hk' : (k == 0) = false := by simp [hk]
      have hst := dgs_step k hk acc
      have HD5 : Hid (dgs (k.tdiv 10) ++ (UInt8.ofNat (48 + k.natAbs % 10) :: acc) = Lib.decDigits n.natAbs) := hst.trans HD.out
      clear hst
      have q0 : (k.tdiv 10).natAbs = k.natAbs / 10 := by rw [Int.natAbs_tdiv]; rfl
      by_cases hd : k.tmod 10 < 0
      · have w1 : wrap64 (-k.tmod 10) = -k.tmod 10 := by have := Int.lt_tmod_of_pos k (show (0:Int) < 10 by omega); unfold wrap64; omega
        have hu := dig_u8 k (-k.tmod 10) (.inr rfl) (by omega)
        have HU : Hid (wrap64 (48 + -k.tmod 10) % 256 = ((UInt8.ofNat (48 + k.natAbs % 10)).toNat : Int)) := hu
        clear hu
        go_wp2_with (at_builtin; refine wpList_append_own _ (by rfl) _ _ _ (by rfl) w.heap.size 5 i0 _ 1 1 Tryz.underlying22 HI0.out HZ0.out HZ1.out HZ2.out (by rfl) (by omega) (.slice (some ⟨wr.heap.size, 0, none⟩) 1 1) 1 [_] (by rfl) (own_one wr _ _ hsz) ⟨g, 0, none⟩ acc.length cp (Lib.byteCells acc) (by rfl) (by rw [blen, Nat.mul_one]) ((HO.out.own.alloc _).cells (g := g) rfl) (bone acc) (by unfold maxLen; omega) (by omega) (by simp; omega) ?_; intro v' w5 hown hgrow _; refine Hid.out ?_)
        refine Lib.hid ?_
        obtain ⟨g', cp', rfl, hO5, hB5⟩ := ownb_cons HU.out hsz HB.out hown hgrow
        have HO5 : Hid (OwnBytes w5 w.heap.size g' cp' (UInt8.ofNat (48 + k.natAbs % 10) :: acc)) := hO5
        have HB5 : Hid (Below w.heap.size w w5) := hB5
        clear hown hgrow hO5 hB5
        go_wp2
        exact ⟨⟨k.tdiv 10, g', cp', _, rfl, rfl, by omega, by omega, HD5, HO5, HB5⟩, (show (k.tdiv 10).natAbs < k.natAbs by omega)⟩
      · have hu := dig_u8 k (k.tmod 10) (.inl rfl) (by omega)
        have HU : Hid (wrap64 (48 + k.tmod 10) % 256 = ((UInt8.ofNat (48 + k.natAbs % 10)).toNat : Int)) := hu
        clear hu
        go_wp2_with (at_builtin; refine wpList_append_own _ (by rfl) _ _ _ (by rfl) w.heap.size 5 i0 _ 1 1 Tryz.underlying22 HI0.out HZ0.out HZ1.out HZ2.out (by rfl) (by omega) (.slice (some ⟨wr.heap.size, 0, none⟩) 1 1) 1 [_] (by rfl) (own_one wr _ _ hsz) ⟨g, 0, none⟩ acc.length cp (Lib.byteCells acc) (by rfl) (by rw [blen, Nat.mul_one]) ((HO.out.own.alloc _).cells (g := g) rfl) (bone acc) (by unfold maxLen; omega) (by omega) (by simp; omega) ?_; intro v' w5 hown hgrow _; refine Hid.out ?_)
        refine Lib.hid ?_
        obtain ⟨g', cp', rfl, hO5, hB5⟩ := ownb_cons HU.out hsz HB.out hown hgrow
        have HO5 : Hid (OwnBytes w5 w.heap.size g' cp' (UInt8.ofNat (48 + k.natAbs % 10) :: acc)) := hO5
        have HB5 : Hid (Below w.heap.size w w5) := hB5
        clear hown hgrow hO5 hB5
        go_wp2
        exact ⟨⟨k.tdiv 10, g', cp', _, rfl, rfl, by omega, by omega, HD5, HO5, HB5⟩, (show (k.tdiv 10).natAbs < k.natAbs by omega)⟩
end Go.Proofs.YtidpcjcnhklmpacGreatDoor

/- Plain facts on signs and orders: no Go in sight. -/
namespace Go.Proofs.YtidpcjcnhklmpacGreatDoor

def sgn (a b : Int) : Int := if a < b then -1 else if b < a then 1 else 0

def tcmp (c s q c' s' q' : Int) : Int := if c ≠ c' then sgn c c' else if s ≠ s' then sgn s s' else sgn q q'

def orI : List Int → Int
  | [] => 0
  | x :: r => if x ≠ 0 then x else orI r

theorem sgn_zero {a b : Int} : sgn a b = 0 ↔ a = b := by
  unfold sgn
  split
  · omega
  · split <;> omega

theorem sgn_self (a : Int) : sgn a a = 0 := sgn_zero.2 rfl

theorem sgn_bd (a b : Int) : -1 ≤ sgn a b ∧ sgn a b ≤ 1 := by
  unfold sgn
  split
  · omega
  · split <;> omega

theorem sgn_neg (a b : Int) : sgn b a = - sgn a b := by
  unfold sgn
  rcases Int.lt_trichotomy a b with h | h | h
  · have h' : ¬ b < a := by omega
    rw [if_neg h', if_pos h, if_pos h]
    decide
  · subst h
    simp
  · have h' : ¬ a < b := by omega
    rw [if_pos h, if_neg h', if_pos h]

theorem orI_three (c s q c' s' q' : Int) : orI [sgn c c', sgn s s', sgn q q'] = tcmp c s q c' s' q' := by
  simp only [orI, tcmp, ne_eq, sgn_zero]
  by_cases h1 : c = c'
  · by_cases h2 : s = s'
    · by_cases h3 : q = q'
      · simp [h1, h2, h3, sgn_self]
      · simp [h1, h2, h3]
    · simp [h1, h2]
  · simp [h1]

theorem tcmp_zero {c s q c' s' q' : Int} : tcmp c s q c' s' q' = 0 ↔ (c = c' ∧ s = s' ∧ q = q') := by
  unfold tcmp
  by_cases h1 : c = c'
  · by_cases h2 : s = s'
    · simp [h1, h2, sgn_zero]
    · simp [h1, h2, sgn_zero]
  · simp [h1, sgn_zero]

theorem tcmp_self (c s q : Int) : tcmp c s q c s q = 0 := tcmp_zero.2 ⟨rfl, rfl, rfl⟩

theorem tcmp_bd (c s q c' s' q' : Int) : -1 ≤ tcmp c s q c' s' q' ∧ tcmp c s q c' s' q' ≤ 1 := by
  unfold tcmp
  split
  · exact sgn_bd _ _
  · split
    · exact sgn_bd _ _
    · exact sgn_bd _ _

end Go.Proofs.YtidpcjcnhklmpacGreatDoor

/- Dependencies in memory; contracts of what is small: toDep, eqTag, eqDep, szDepS, l01Key, keyOk. -/
namespace Go.Proofs.YtidpcjcnhklmpacGreatDoor
open Go.ChangeShapes Go.WideShapes Go.ChangeAt Go.RowKit Go.Joins

structure Dp where
  k : Int
  c : Int
  s : Int
  q : Int

def dz : Dp := ⟨0, 0, 0, 0⟩

abbrev depV (k c s q : Int) : Value := .agg #[.int .i64 k, .int .i64 c, .int .i64 s, .int .i64 q]

theorem key_any (n : Int) (w : World) :
    Calls Tryz.prog 97 #[.int .i64 n] w fun e w' => e = .returned (.bool (btw n 0 5)) ∧ w' = w := by
  go_enter Tryz.func97, Tryz.ntmps97
  go_wp2_with (go_at_call 44; refine (between_any _ _ _ _).mono ?_; rintro e w' ⟨rfl, rfl⟩)
  go_ret
  exact ⟨rfl, rfl⟩

theorem keyOk_any (n : Int) (w : World) :
    Calls Tryz.prog 55 #[.int .i64 n] w fun e w' => e = .returned (.bool (btw n 0 5)) ∧ w' = w := by
  go_enter Tryz.func55, Tryz.ntmps55
  go_wp2_with (go_at_call 21; refine (inRange_any _ _ _ _).mono ?_; rintro e w' ⟨rfl, rfl⟩)
  go_ret
  exact ⟨rfl, rfl⟩

theorem key_is (n : Int) (v : Bool) (h : btw n 0 5 = v) (w : World) :
    Calls Tryz.prog 97 #[.int .i64 n] w fun e w' => e = .returned (.bool v) ∧ w' = w := by
  subst h
  exact key_any n w

theorem keyOk_is (n : Int) (v : Bool) (h : btw n 0 5 = v) (w : World) :
    Calls Tryz.prog 55 #[.int .i64 n] w fun e w' => e = .returned (.bool v) ∧ w' = w := by
  subst h
  exact keyOk_any n w

theorem specTagOk_is (c s q : Int) (v : Bool) (h : tagOkB c s q = v) (w : World) :
    Calls Tryz.prog 98 #[tagV c s q] w fun e w' => e = .returned (.bool v) ∧ Below w.heap.size w w' := by
  subst h
  exact specTagOk_any c s q w

theorem implTagOk_is (c s q : Int) (v : Bool) (h : tagOkB c s q = v) (w : World) :
    Calls Tryz.prog 56 #[tagV c s q] w fun e w' => e = .returned (.bool v) ∧ Below w.heap.size w w' := by
  subst h
  exact implTagOk_any c s q w

/-- The cells of block b from place o on hold the list xs. -/
def HoldsDeps (w : World) (b o : Nat) (xs : List Dp) : Prop :=
  ∀ i, i < xs.length → w.cell? ⟨b, o + i * 4, none⟩ = some (.int .i64 (xs.getD i dz).k) ∧ w.cell? ⟨b, o + i * 4 + 1, none⟩ = some (.int .i64 (xs.getD i dz).c) ∧
    w.cell? ⟨b, o + i * 4 + 2, none⟩ = some (.int .i64 (xs.getD i dz).s) ∧ w.cell? ⟨b, o + i * 4 + 3, none⟩ = some (.int .i64 (xs.getD i dz).q)

theorem HoldsDeps.below {w w' : World} {b o B : Nat} {xs : List Dp} (h : HoldsDeps w b o xs) (hb : Below B w w') (hB : b < B) : HoldsDeps w' b o xs := by
  intro i hi
  obtain ⟨h0, h1, h2, h3⟩ := h i hi
  exact ⟨(hb.cell (p := ⟨b, _, none⟩) hB).trans h0, (hb.cell (p := ⟨b, _, none⟩) hB).trans h1, (hb.cell (p := ⟨b, _, none⟩) hB).trans h2, (hb.cell (p := ⟨b, _, none⟩) hB).trans h3⟩

/-- What a slice of dependencies leads to: where it is not empty, to a row that holds xs. -/
def IsDeps (w : World) (a : Option Addr) (xs : List Dp) : Prop := xs = [] ∨ ∃ b o, a = some ⟨b, o, none⟩ ∧ b < w.heap.size ∧ HoldsDeps w b o xs

theorem IsDeps.below {w w' : World} {a : Option Addr} {xs : List Dp} (h : IsDeps w a xs) (hb : Below w.heap.size w w') : IsDeps w' a xs := by
  rcases h with h | ⟨b, o, ha, hlt, hh⟩
  · exact .inl h
  · exact .inr ⟨b, o, ha, Nat.lt_of_lt_of_le hlt hb.size, hh.below hb hlt⟩

/-- One dependency of a slice that is not empty, in this world and in each later one. -/
theorem IsDeps.at {w w' : World} {a : Option Addr} {xs : List Dp} (h : IsDeps w a xs) (hb : Below w.heap.size w w') {k : Nat} (hk : k < xs.length) :
    ∃ b o, a = some ⟨b, o, none⟩ ∧ b < w'.heap.size ∧ w'.cell? ⟨b, o + k * 4, none⟩ = some (.int .i64 (xs.getD k dz).k) ∧ w'.cell? ⟨b, o + k * 4 + 1, none⟩ = some (.int .i64 (xs.getD k dz).c) ∧
    w'.cell? ⟨b, o + k * 4 + 2, none⟩ = some (.int .i64 (xs.getD k dz).s) ∧ w'.cell? ⟨b, o + k * 4 + 3, none⟩ = some (.int .i64 (xs.getD k dz).q) := by
  rcases h with h | ⟨b, o, ha, hlt, hh⟩
  · subst h
    simp at hk
  · exact ⟨b, o, ha, Nat.lt_of_lt_of_le hlt hb.size, (hh.below hb hlt) k hk⟩

theorem IsDeps.cells {w w' : World} {b o : Nat} {xs : List Dp} (h : IsDeps w (some ⟨b, o, none⟩) xs) (hb : Below w.heap.size w w') {k : Nat} (hk : k < xs.length) :
    b < w'.heap.size ∧ w'.cell? ⟨b, o + k * 4, none⟩ = some (.int .i64 (xs.getD k dz).k) ∧ w'.cell? ⟨b, o + k * 4 + 1, none⟩ = some (.int .i64 (xs.getD k dz).c) ∧
    w'.cell? ⟨b, o + k * 4 + 2, none⟩ = some (.int .i64 (xs.getD k dz).s) ∧ w'.cell? ⟨b, o + k * 4 + 3, none⟩ = some (.int .i64 (xs.getD k dz).q) := by
  obtain ⟨b', o', he, h1⟩ := h.at hb hk
  injection he with he
  injection he with e1 e2
  subst e1 e2
  exact h1

def depGood (xs : List Dp) (i : Nat) : Bool :=
  btw (xs.getD i dz).k 0 5 && (tagOkB (xs.getD i dz).c (xs.getD i dz).s (xs.getD i dz).q && decide (i = 0 ∨ (xs.getD (i - 1) dz).k < (xs.getD i dz).k))

def depsOkB (xs : List Dp) : Bool := (List.range xs.length).all (depGood xs)

theorem depsOk_true {xs : List Dp} (h : ∀ i, i < xs.length → depGood xs i = true) : depsOkB xs = true := by
  unfold depsOkB
  rw [List.all_eq_true]
  intro i hi
  exact h i (List.mem_range.1 hi)

theorem depsOk_false {xs : List Dp} {i : Nat} (hi : i < xs.length) (h : depGood xs i = false) : depsOkB xs = false := by
  unfold depsOkB
  rw [List.all_eq_false]
  exact ⟨i, List.mem_range.2 hi, by simp [h]⟩

end Go.Proofs.YtidpcjcnhklmpacGreatDoor

/- The specification's texts of lists of numbers: l01Nums, l01TagNums, l01Bit. -/
namespace Go.Proofs.YtidpcjcnhklmpacGreatDoor
open Go.ChangeShapes Go.WideShapes Go.ChangeAt Go.RowKit Go.Joins

def numsText (ns : List Int) : List UInt8 := ns.flatMap fun n => 32 :: Lib.itoa n

def HoldsInts (w : World) (b o : Nat) (ns : List Int) : Prop := ∀ i, i < ns.length → w.cell? ⟨b, o + i, none⟩ = some (.int .i64 (ns.getD i 0))

theorem HoldsInts.below {w w' : World} {B b o : Nat} {ns : List Int} (h : HoldsInts w b o ns) (hb : Below B w w') (hB : b < B) : HoldsInts w' b o ns :=
  fun i hi => (hb.cell (p := ⟨b, o + i, none⟩) hB).trans (h i hi)

def Ints64 (ns : List Int) : Prop := ∀ i, i < ns.length → -9223372036854775808 ≤ ns.getD i 0 ∧ ns.getD i 0 ≤ 9223372036854775807

def bitI (de : Bool) : Int := if de then 1 else 0

theorem bitI_any (de : Bool) (w : World) : Calls Tryz.prog 48 #[.bool de] w fun e w' => e = .returned (.int .i64 (bitI de)) ∧ w' = w := by
  go_enter Tryz.func48, Tryz.ntmps48
  cases de
  · go_wp2
    go_ret
    exact ⟨rfl, rfl⟩
  · go_wp2
    go_ret
    exact ⟨rfl, rfl⟩

theorem nums_take (ns : List Int) (j : Nat) (h : j < ns.length) : numsText (ns.take (j + 1)) = numsText (ns.take j) ++ (32 :: Lib.itoa (ns.getD j 0)) := by
  unfold numsText
  rw [List.take_add_one, List.getElem?_eq_getElem h, List.flatMap_append]
  simp [List.getD, h]

theorem nums_len (ns : List Int) (h : Ints64 ns) : ∀ j, j ≤ ns.length → (numsText (ns.take j)).length ≤ 22 * j
  | 0, _ => by simp [numsText]
  | j + 1, hj => by
    rw [nums_take ns j (by omega), List.length_append, List.length_cons]
    have := nums_len ns h j (by omega)
    have hb := h j (by omega)
    have := Lib.itoa_length_le _ hb.1 hb.2
    omega

/-- A text as Go's string. -/
def str (l : List UInt8) : ByteArray := ⟨l.toArray⟩

theorem str_size (l : List UInt8) : (str l).size = l.length := by simp [str, ByteArray.size]

theorem str_add (a b : List UInt8) : str a ++ str b = str (a ++ b) := by
  apply ByteArray.ext
  simp [str]

theorem specNum' (n : Int) (w : World) (h : -9223372036854775808 ≤ n ∧ n ≤ 9223372036854775807) :
    Calls Tryz.prog 63 #[.int .i64 n] w fun e w' => e = .returned (.string (str (Lib.itoa n))) ∧ Below w.heap.size w w' := specNum n w h.1 h.2

set_option maxRecDepth 100000 in
set_option maxHeartbeats 4000000 in
theorem nums_any (b o cap : Nat) (ns : List Int) (w : World) (hn : ns.length ≤ 100) (h64 : Ints64 ns) (hlt : b < w.heap.size) (hh : HoldsInts w b o ns) :
    Calls Tryz.prog 85 #[.slice (some ⟨b, o, none⟩) ns.length cap] w fun e w' => e = .returned (.string (str (numsText ns))) ∧ Below w.heap.size w w' := by
  have HH : Hid (HoldsInts w b o ns) := hh
  have HI : Hid (Ints64 ns) := h64
  clear hh h64
  go_enter Tryz.func85, Tryz.ntmps85
  go_wp2
  go_loopw [3, 4] (fun t i wr => ∃ (j : Nat) (acc : ByteArray), j ≤ ns.length ∧ i = .int .i64 j ∧ t = .string acc ∧ acc.size ≤ 2200 ∧ Hid (acc = str (numsText (ns.take j))) ∧ Hid (Below w.heap.size w wr)) (fun _ i _ => ns.length - (intOf i).toNat)
  case atStart => exact ⟨0, str [], by omega, rfl, rfl, by simp [str_size], rfl, Below.refl _ _⟩
  case round =>
    obtain ⟨j, acc, hj, rfl, rfl, hsz, HA, HB⟩ := hrel
    by_cases hj' : j < ns.length
    · have i1 : (j : Int) < (ns.length : Int) := by omega
      have c1 := (HH.out.below HB.out hlt) j hj'
      have hb := HI.out j hj'
      have e1 : ns.getD j 0 = ns[j] := by simp [List.getD, hj']
      rw [e1] at c1 hb
      obtain ⟨x, HX⟩ : ∃ x, Hid (x = ns[j]) := ⟨ns[j], Lib.hid rfl⟩
      rw [← HX.out] at c1 hb
      go_wp2_with fail
      refine (specNum' x _ hb).mono ?_
      rintro e w1 ⟨rfl, hb1⟩
      have hsz1 : (str (Lib.itoa x)).size ≤ 21 := by rw [str_size]; exact Lib.itoa_length_le _ hb.1 hb.2
      obtain ⟨r, HR⟩ : ∃ r, Hid (r = str (Lib.itoa x)) := ⟨_, Lib.hid rfl⟩
      rw [← HR.out] at hsz1 ⊢
      have HB1 : Hid (Below w.heap.size w w1) := below_step HB.out HB.out.size hb1
      clear hb1
      go_wp2
      have hnew : acc ++ ⟨#[32]⟩ ++ r = str (numsText (ns.take (j + 1))) := by
        rw [HA.out, HR.out, nums_take ns j hj', e1, ← HX.out, show (⟨#[32]⟩ : ByteArray) = str [32] from rfl, str_add, str_add, List.append_assoc]
        rfl
      have hlen : (acc ++ ⟨#[32]⟩ ++ r).size ≤ 2200 := by
        rw [hnew, str_size]
        have := nums_len ns HI.out (j + 1) (by omega)
        omega
      exact ⟨⟨j + 1, _, by omega, by go_num, rfl, hlen, hnew, HB1⟩, by simp [intOf]; omega⟩
    · have hjn : j = ns.length := by omega
      subst hjn
      go_wp2
      go_ret
      rw [HA.out, List.take_length]
      exact ⟨rfl, HB.out⟩

theorem holds_ints_block {w : World} {g t : Nat} {cs : Array Value} {fr : Nat × Nat} {ns : List Int} (hb : w.heap[g]? = some (.cells cs t fr)) (hc : cs = (ns.map (Value.int .i64)).toArray) : HoldsInts w g 0 ns := by
  intro i hi
  subst hc
  rw [Nat.zero_add, cell_of_row w g i _ t fr hb]
  simp [List.getD, hi]

theorem tagNums_any (c s q : Int) (w : World) :
    Calls Tryz.prog 86 #[tagV c s q] w fun e w' => ∃ g, e = .returned (.slice (some ⟨g, 0, none⟩) 3 3) ∧ w.heap.size ≤ g ∧ g < w'.heap.size ∧ HoldsInts w' g 0 [c, s, q] ∧ Below w.heap.size w w' := by
  go_enter Tryz.func86, Tryz.ntmps86
  go_wp2
  go_ret
  refine ⟨w.heap.size + 1, rfl, by omega, by simp, holds_ints_block (cs := #[.int .i64 c, .int .i64 s, .int .i64 q]) (t := 3) (fr := (0, 0)) ?_ rfl, ((Below.refl _ _).alloc (Nat.le_refl _) _).alloc (by simp) _⟩
  have := heap_alloc_new (w.alloc (.cells #[.int .i64 c, .int .i64 s, .int .i64 q] 53)) (.cells #[.int .i64 c, .int .i64 s, .int .i64 q] 3)
  simpa using this
end Go.Proofs.YtidpcjcnhklmpacGreatDoor

/- Contracts of spec.DepsOk and impl.DepsOk. -/
namespace Go.Proofs.YtidpcjcnhklmpacGreatDoor
open Go.ChangeShapes Go.WideShapes Go.ChangeAt Go.RowKit Go.Joins
attribute [local go_sem ↓] Go.wp_at_zero Go.wp_at_succ

theorem ret_bool {a b : Bool} (h : a = b) : Ending.returned (.bool a) = .returned (.bool b) := by rw [h]

set_option maxHeartbeats 1000000 in
theorem specDepsOk_gen (a : Option Addr) (xs : List Dp) (cap : Nat) (w : World) (hn : xs.length ≤ 1048576) (hh : IsDeps w a xs) :
    Calls Tryz.prog 99 #[.slice a xs.length cap] w fun e w' => e = .returned (.bool (depsOkB xs)) ∧ Below w.heap.size w w' := by
  have HH : Hid (IsDeps w a xs) := hh
  clear hh
  go_enter Tryz.func99, Tryz.ntmps99
  go_wp2
  go_loopw [3] (fun i wr => ∃ k : Nat, k ≤ xs.length ∧ i = .int .i64 k ∧ Hid (∀ j, j < k → depGood xs j = true) ∧ Hid (Below w.heap.size w wr)) (fun i _ => xs.length - (intOf i).toNat)
  case atStart => exact ⟨0, Nat.zero_le _, rfl, fun j hj => by omega, Below.refl _ _⟩
  case round =>
    obtain ⟨k, hk, rfl, HG, HB⟩ := hrel
    by_cases hk' : k < xs.length
    · obtain ⟨b, o, rfl, hz, e0, e1, e2, e3⟩ := HH.out.at HB.out hk'
      have HD : Hid (depGood xs k = (btw (xs.getD k dz).k 0 5 && (tagOkB (xs.getD k dz).c (xs.getD k dz).s (xs.getD k dz).q && decide (k = 0 ∨ (xs.getD (k - 1) dz).k < (xs.getD k dz).k)))) := rfl
      have i1 : (0 : Int) ≤ (k : Int) := by omega
      have i2 : (k : Int) < (xs.length : Int) := by omega
      cases h1 : btw (xs.getD k dz).k 0 5
      · have HF : Hid (depsOkB xs = false) := depsOk_false hk' (by rw [HD.out, h1]; rfl)
        clear HD
        generalize (xs.getD k dz).k = x at *
        generalize (xs.getD k dz).c = c at *
        generalize (xs.getD k dz).s = s at *
        generalize (xs.getD k dz).q = q at *
        go_wp2_with fail
        have ge0 := aft_cell hz e0
        have ge1 := aft_cell hz e1
        have ge2 := aft_cell hz e2
        have ge3 := aft_cell hz e3
        have ne := aft_some wr
        refine wp_region_aft (by kernel_rfl) (by kernel_rfl) ?_
        repeat (first | go_big_quiet_step (first | (go_at_call 97; exact aft_same (key_is _ false h1 _))))
        refine wpQuiet_nil ?_
        intro wq hq
        go_wp2
        go_ret
        exact ⟨ret_bool HF.out.symm, below_step HB.out HB.out.size hq⟩
      · cases h2 : tagOkB (xs.getD k dz).c (xs.getD k dz).s (xs.getD k dz).q
        · have HF : Hid (depsOkB xs = false) := depsOk_false hk' (by rw [HD.out, h1, h2]; rfl)
          clear HD
          generalize (xs.getD k dz).k = x at *
          generalize (xs.getD k dz).c = c at *
          generalize (xs.getD k dz).s = s at *
          generalize (xs.getD k dz).q = q at *
          go_wp2_with fail
          have ge0 := aft_cell hz e0
          have ge1 := aft_cell hz e1
          have ge2 := aft_cell hz e2
          have ge3 := aft_cell hz e3
          have ne := aft_some wr
          refine wp_region_aft (by kernel_rfl) (by kernel_rfl) ?_
          repeat (first | go_big_quiet_step (first | (go_at_call 97; exact aft_same (key_is _ true h1 _)) | (go_at_call 98; exact aft_of (specTagOk_is _ _ _ false h2 _))))
          refine wpQuiet_nil ?_
          intro wq hq
          go_wp2
          go_ret
          exact ⟨ret_bool HF.out.symm, below_step HB.out HB.out.size hq⟩
        · by_cases h0 : k = 0
          · have HF : Hid (depGood xs k = true) := by rw [HD.out, h1, h2, Bool.true_and, Bool.true_and]; exact decide_eq_true (Or.inl h0)
            have HG' : Hid (∀ j, j < k + 1 → depGood xs j = true) := fun j hj => by
              by_cases h : j < k
              · exact HG.out j h
              · have : j = k := by omega
                rw [this]
                exact HF.out
            clear HD HF
            have hd : decide (0 < k) = false := by simp [h0]
            clear h0
            generalize (xs.getD k dz).k = x at *
            generalize (xs.getD k dz).c = c at *
            generalize (xs.getD k dz).s = s at *
            generalize (xs.getD k dz).q = q at *
            go_wp2_with fail
            have ge0 := aft_cell hz e0
            have ge1 := aft_cell hz e1
            have ge2 := aft_cell hz e2
            have ge3 := aft_cell hz e3
            have ne := aft_some wr
            refine wp_region_aft (by kernel_rfl) (by kernel_rfl) ?_
            repeat (first | go_big_quiet_step (first | (go_at_call 97; exact aft_same (key_is _ true h1 _)) | (go_at_call 98; exact aft_of (specTagOk_is _ _ _ true h2 _))))
            refine wpQuiet_nil ?_
            intro wq hq
            go_wp2
            exact ⟨⟨k + 1, by omega, by go_num, HG', below_step HB.out HB.out.size hq⟩, by simp [intOf]; omega⟩
          · obtain ⟨j, rfl⟩ : ∃ j, k = j + 1 := ⟨k - 1, by omega⟩
            obtain ⟨-, f0, -⟩ := HH.out.cells HB.out (show j < xs.length by omega)
            rw [show j + 1 - 1 = j from rfl] at HD
            have i3 : (j : Int) + 1 < (xs.length : Int) := by omega
            by_cases hy : (xs.getD j dz).k < (xs.getD (j + 1) dz).k
            · have HF : Hid (depGood xs (j + 1) = true) := by rw [HD.out, h1, h2, Bool.true_and, Bool.true_and]; exact decide_eq_true (Or.inr hy)
              have HG' : Hid (∀ i, i < j + 1 + 1 → depGood xs i = true) := fun i hi => by
                by_cases h : i < j + 1
                · exact HG.out i h
                · have : i = j + 1 := by omega
                  rw [this]
                  exact HF.out
              clear HD HF
              generalize (xs.getD j dz).k = y at *
              generalize (xs.getD (j + 1) dz).k = x at *
              generalize (xs.getD (j + 1) dz).c = c at *
              generalize (xs.getD (j + 1) dz).s = s at *
              generalize (xs.getD (j + 1) dz).q = q at *
              go_wp2_with fail
              have ge0 := aft_cell hz e0
              have ge1 := aft_cell hz e1
              have ge2 := aft_cell hz e2
              have ge3 := aft_cell hz e3
              have gf0 := aft_cell hz f0
              have ne := aft_some wr
              refine wp_region_aft (by kernel_rfl) (by kernel_rfl) ?_
              repeat (first | go_big_quiet_step (first | (go_at_call 97; exact aft_same (key_is _ true h1 _)) | (go_at_call 98; exact aft_of (specTagOk_is _ _ _ true h2 _))))
              refine wpQuiet_nil ?_
              intro wq hq
              go_wp2
              exact ⟨⟨j + 1 + 1, by omega, by go_num, HG', below_step HB.out HB.out.size hq⟩, by simp [intOf]; omega⟩
            · have HF : Hid (depsOkB xs = false) := depsOk_false hk' (by rw [HD.out, h1, h2, Bool.true_and, Bool.true_and]; exact decide_eq_false (by omega))
              clear HD
              generalize (xs.getD j dz).k = y at *
              generalize (xs.getD (j + 1) dz).k = x at *
              generalize (xs.getD (j + 1) dz).c = c at *
              generalize (xs.getD (j + 1) dz).s = s at *
              generalize (xs.getD (j + 1) dz).q = q at *
              go_wp2_with fail
              have ge0 := aft_cell hz e0
              have ge1 := aft_cell hz e1
              have ge2 := aft_cell hz e2
              have ge3 := aft_cell hz e3
              have gf0 := aft_cell hz f0
              have ne := aft_some wr
              refine wp_region_aft (by kernel_rfl) (by kernel_rfl) ?_
              repeat (first | go_big_quiet_step (first | (go_at_call 97; exact aft_same (key_is _ true h1 _)) | (go_at_call 98; exact aft_of (specTagOk_is _ _ _ true h2 _))))
              refine wpQuiet_nil ?_
              intro wq hq
              go_wp2
              go_ret
              exact ⟨ret_bool HF.out.symm, below_step HB.out HB.out.size hq⟩
    · go_wp2
      go_ret
      exact ⟨ret_bool (depsOk_true fun i hi => HG.out i (by omega)).symm, HB.out⟩

theorem specDepsOk_any (b o : Nat) (xs : List Dp) (cap : Nat) (w : World) (hn : xs.length ≤ 1048576) (hlt : b < w.heap.size) (hh : HoldsDeps w b o xs) :
    Calls Tryz.prog 99 #[.slice (some ⟨b, o, none⟩) xs.length cap] w fun e w' => e = .returned (.bool (depsOkB xs)) ∧ Below w.heap.size w w' :=
  specDepsOk_gen _ xs cap w hn (.inr ⟨b, o, rfl, hlt, hh⟩)

end Go.Proofs.YtidpcjcnhklmpacGreatDoor

/- The contracts of toDepS and eqDepS. -/
namespace Go.Proofs.YtidpcjcnhklmpacGreatDoor
open Go.ChangeShapes Go.WideShapes Go.ChangeAt Go.RowKit Go.Joins
attribute [local go_sem ↓] Go.wp_at_zero Go.wp_at_succ

def depCell (xs : List Dp) (j : Nat) : Int :=
  if j % 4 = 0 then (xs.getD (j / 4) dz).k else if j % 4 = 1 then (xs.getD (j / 4) dz).c else if j % 4 = 2 then (xs.getD (j / 4) dz).s else (xs.getD (j / 4) dz).q

def depFill (xs : List Dp) (k j : Nat) : Value := .int .i64 (if j < k * 4 then depCell xs j else 0)

theorem depCell0 (xs : List Dp) (k : Nat) : depCell xs (k * 4) = (xs.getD k dz).k := by
  unfold depCell
  rw [if_pos (by omega), show k * 4 / 4 = k by omega]

theorem depCell1 (xs : List Dp) (k : Nat) : depCell xs (k * 4 + 1) = (xs.getD k dz).c := by
  unfold depCell
  rw [if_neg (by omega), if_pos (by omega), show (k * 4 + 1) / 4 = k by omega]

theorem depCell2 (xs : List Dp) (k : Nat) : depCell xs (k * 4 + 2) = (xs.getD k dz).s := by
  unfold depCell
  rw [if_neg (by omega), if_neg (by omega), if_pos (by omega), show (k * 4 + 2) / 4 = k by omega]

theorem depCell3 (xs : List Dp) (k : Nat) : depCell xs (k * 4 + 3) = (xs.getD k dz).q := by
  unfold depCell
  rw [if_neg (by omega), if_neg (by omega), if_neg (by omega), show (k * 4 + 3) / 4 = k by omega]

theorem fill_step (xs : List Dp) (k j : Nat) :
    (if j = k * 4 + 3 then Value.int .i64 (xs.getD k dz).q else if j = k * 4 + 2 then Value.int .i64 (xs.getD k dz).s else if j = k * 4 + 1 then Value.int .i64 (xs.getD k dz).c else if j = k * 4 then Value.int .i64 (xs.getD k dz).k else depFill xs k j) = depFill xs (k + 1) j := by
  unfold depFill
  by_cases h3 : j = k * 4 + 3
  · rw [if_pos h3, if_pos (by omega), h3, depCell3]
  rw [if_neg h3]
  by_cases h2 : j = k * 4 + 2
  · rw [if_pos h2, if_pos (by omega), h2, depCell2]
  rw [if_neg h2]
  by_cases h1 : j = k * 4 + 1
  · rw [if_pos h1, if_pos (by omega), h1, depCell1]
  rw [if_neg h1]
  by_cases h0 : j = k * 4
  · rw [if_pos h0, if_pos (by omega), h0, depCell0]
  rw [if_neg h0]
  by_cases hl : j < k * 4
  · rw [if_pos hl, if_pos (by omega)]
  · rw [if_neg hl, if_neg (by omega)]

theorem holds_of_row {w : World} {g t : Nat} {xs : List Dp} (h : w.rowIs g t (xs.length * 4) (depFill xs xs.length)) : HoldsDeps w g 0 xs := by
  intro i hi
  rw [Nat.zero_add]
  refine ⟨?_, ?_, ?_, ?_⟩
  · rw [h.cell (by omega), depFill, if_pos (by omega), depCell0]
  · rw [h.cell (by omega), depFill, if_pos (by omega), depCell1]
  · rw [h.cell (by omega), depFill, if_pos (by omega), depCell2]
  · rw [h.cell (by omega), depFill, if_pos (by omega), depCell3]

theorem row_start (w : World) (t n : Nat) (xs : List Dp) : (w.alloc (.cells (madeCells #[.int .i64 0, .int .i64 0, .int .i64 0, .int .i64 0] (n * 4)) t)).rowIs w.heap.size t (n * 4) (depFill xs 0) := by
  refine ⟨_, Go.Deep.blk_alloc_new _ _, size_madeCells _ _, fun i hi => ?_⟩
  have e : depFill xs 0 i = .int .i64 0 := by unfold depFill; rw [if_neg (by omega)]
  rw [e]
  have h4 : i % 4 = 0 ∨ i % 4 = 1 ∨ i % 4 = 2 ∨ i % 4 = 3 := by omega
  rcases h4 with h | h | h | h <;> simp [madeCells, hi, h]

theorem row_step {w : World} {g t n : Nat} {xs : List Dp} {k : Nat} (h : w.rowIs g t n (depFill xs k)) :
    ((((w.setCell ⟨g, k * 4, none⟩ (.int .i64 (xs.getD k dz).k)).setCell ⟨g, k * 4 + 1, none⟩ (.int .i64 (xs.getD k dz).c)).setCell ⟨g, k * 4 + 2, none⟩ (.int .i64 (xs.getD k dz).s)).setCell ⟨g, k * 4 + 3, none⟩ (.int .i64 (xs.getD k dz).q)).rowIs g t n (depFill xs (k + 1)) :=
  ((((h.set _ _).set _ _).set _ _).set _ _).congr (fun j _ => fill_step xs k j)

theorem infoDep : (Tryz.prog.info? 102).map (fun i => (i.zero, i.size, i.bytes)) = some (some (depV 0 0 0 0), 4, 32) := by kernel_rfl

theorem run_make_deps (n : Nat) (hn : n ≤ 1048576) (w : World) :
    (Instr.makeSlice 54 (.int .i64 (n : Int)) (.int .i64 (n : Int))).run Tryz.prog w = .ok (.slice (some ⟨w.heap.size, 0, none⟩) n n) (w.alloc (.cells (madeCells #[.int .i64 0, .int .i64 0, .int .i64 0, .int .i64 0] (n * 4)) 102)) := by
  obtain ⟨i, hi, hzz⟩ := Option.map_eq_some_iff.1 infoDep
  simp only [Prod.mk.injEq] at hzz
  obtain ⟨hz, hs, hb⟩ := hzz
  have hr := run_make (P := Tryz.prog) w 54 102 i _ Tryz.underlying54 hi hz .i64 .i64 n n (by omega) (Int.le_refl _) (by rw [hb]; omega) (by omega)
  simp only [Int.toNat_natCast, hs] at hr
  exact hr

/-- Below a block that is being written. -/
theorem below_set4 {B : Nat} {a w : World} {g : Nat} (h : Below B a w) (hg : B ≤ g) (o0 o1 o2 o3 : Nat) (v0 v1 v2 v3 : Value) : Below B a ((((w.setCell ⟨g, o0, none⟩ v0).setCell ⟨g, o1, none⟩ v1).setCell ⟨g, o2, none⟩ v2).setCell ⟨g, o3, none⟩ v3) :=
  (((h.setCell (p := ⟨g, o0, none⟩) hg v0).setCell (p := ⟨g, o1, none⟩) hg v1).setCell (p := ⟨g, o2, none⟩) hg v2).setCell (p := ⟨g, o3, none⟩) hg v3

end Go.Proofs.YtidpcjcnhklmpacGreatDoor

/- The contract of impl.DepsOk. -/
namespace Go.Proofs.YtidpcjcnhklmpacGreatDoor
open Go.ChangeShapes Go.WideShapes Go.ChangeAt Go.RowKit Go.Joins

def lastOf (xs : List Dp) (k : Nat) : Int := if k = 0 then -1 else (xs.getD (k - 1) dz).k

theorem depGood_bad {xs : List Dp} {k : Nat} (h1 : btw (xs.getD k dz).k 0 5 = true) (h : (xs.getD k dz).k ≤ lastOf xs k) : depGood xs k = false := by
  have e : depGood xs k = (btw (xs.getD k dz).k 0 5 && (tagOkB (xs.getD k dz).c (xs.getD k dz).s (xs.getD k dz).q && decide (k = 0 ∨ (xs.getD (k - 1) dz).k < (xs.getD k dz).k))) := rfl
  have hd : decide (k = 0 ∨ (xs.getD (k - 1) dz).k < (xs.getD k dz).k) = false := by
    apply decide_eq_false
    unfold lastOf at h
    have h1' := h1
    unfold btw at h1'
    have h1'' := of_decide_eq_true h1'
    split at h
    · omega
    · omega
  rw [e, hd, h1, Bool.and_false, Bool.and_false]

theorem depGood_good {xs : List Dp} {k : Nat} (h1 : btw (xs.getD k dz).k 0 5 = true) (h2 : tagOkB (xs.getD k dz).c (xs.getD k dz).s (xs.getD k dz).q = true) (h : lastOf xs k < (xs.getD k dz).k) : depGood xs k = true := by
  have e : depGood xs k = (btw (xs.getD k dz).k 0 5 && (tagOkB (xs.getD k dz).c (xs.getD k dz).s (xs.getD k dz).q && decide (k = 0 ∨ (xs.getD (k - 1) dz).k < (xs.getD k dz).k))) := rfl
  have hd : decide (k = 0 ∨ (xs.getD (k - 1) dz).k < (xs.getD k dz).k) = true := by
    apply decide_eq_true
    unfold lastOf at h
    split at h
    · exact Or.inl ‹_›
    · exact Or.inr h
  rw [e, hd, h1, h2]
  rfl

theorem depGood_tag {xs : List Dp} {k : Nat} (h2 : tagOkB (xs.getD k dz).c (xs.getD k dz).s (xs.getD k dz).q = false) : depGood xs k = false := by
  have e : depGood xs k = (btw (xs.getD k dz).k 0 5 && (tagOkB (xs.getD k dz).c (xs.getD k dz).s (xs.getD k dz).q && decide (k = 0 ∨ (xs.getD (k - 1) dz).k < (xs.getD k dz).k))) := rfl
  rw [e, h2, Bool.false_and, Bool.and_false]

theorem depGood_key {xs : List Dp} {k : Nat} (h1 : btw (xs.getD k dz).k 0 5 = false) : depGood xs k = false := by
  have e : depGood xs k = (btw (xs.getD k dz).k 0 5 && (tagOkB (xs.getD k dz).c (xs.getD k dz).s (xs.getD k dz).q && decide (k = 0 ∨ (xs.getD (k - 1) dz).k < (xs.getD k dz).k))) := rfl
  rw [e, h1, Bool.false_and]

set_option maxHeartbeats 1000000 in
theorem implDepsOk_gen (a : Option Addr) (xs : List Dp) (cap : Nat) (w : World) (hn : xs.length ≤ 1048576) (hh : IsDeps w a xs) :
    Calls Tryz.prog 58 #[.slice a xs.length cap] w fun e w' => e = .returned (.bool (depsOkB xs)) ∧ Below w.heap.size w w' := by
  have HH : Hid (IsDeps w a xs) := hh
  clear hh
  go_enter Tryz.func58, Tryz.ntmps58
  go_wp2
  go_loopw [3, 8] (fun l i wr => ∃ k : Nat, ∃ la : Int, k ≤ xs.length ∧ i = .int .i64 k ∧ l = .int .i64 la ∧ Hid (lastOf xs k = la) ∧ Hid (∀ j, j < k → depGood xs j = true) ∧ Hid (Below w.heap.size w wr)) (fun _ i _ => xs.length - (intOf i).toNat)
  case atStart => exact ⟨0, -1, Nat.zero_le _, rfl, rfl, rfl, fun j hj => by omega, Below.refl _ _⟩
  case round =>
    obtain ⟨k, la, hk, rfl, rfl, HL, HG, HB⟩ := hrel
    by_cases hk' : k < xs.length
    · obtain ⟨b, o, rfl, hz, e0, e1, e2, e3⟩ := HH.out.at HB.out hk'
      have i1 : (0 : Int) ≤ (k : Int) := by omega
      have i2 : (k : Int) < (xs.length : Int) := by omega
      have HS : Hid (lastOf xs (k + 1) = (xs.getD k dz).k) := by unfold lastOf; simp [Hid]
      cases h1 : btw (xs.getD k dz).k 0 5
      · have HF : Hid (depsOkB xs = false) := depsOk_false hk' (depGood_key h1)
        clear HS
        generalize (xs.getD k dz).k = x at *
        generalize (xs.getD k dz).c = c at *
        generalize (xs.getD k dz).s = s at *
        generalize (xs.getD k dz).q = q at *
        go_wp2_with (go_at_call 55; refine (keyOk_is _ false h1 _).mono ?_; rintro e w' ⟨rfl, rfl⟩)
        go_ret
        exact ⟨ret_bool HF.out.symm, HB.out.alloc HB.out.size _⟩
      · by_cases h3 : (xs.getD k dz).k ≤ la
        · have HF : Hid (depsOkB xs = false) := depsOk_false hk' (depGood_bad h1 (by rw [HL.out]; exact h3))
          clear HS
          generalize (xs.getD k dz).k = x at *
          generalize (xs.getD k dz).c = c at *
          generalize (xs.getD k dz).s = s at *
          generalize (xs.getD k dz).q = q at *
          go_wp2_with (go_at_call 55; refine (keyOk_is _ true h1 _).mono ?_; rintro e w' ⟨rfl, rfl⟩)
          go_ret
          exact ⟨ret_bool HF.out.symm, HB.out.alloc HB.out.size _⟩
        · cases h2 : tagOkB (xs.getD k dz).c (xs.getD k dz).s (xs.getD k dz).q
          · have HF : Hid (depsOkB xs = false) := depsOk_false hk' (depGood_tag h2)
            clear HS
            generalize (xs.getD k dz).k = x at *
            generalize (xs.getD k dz).c = c at *
            generalize (xs.getD k dz).s = s at *
            generalize (xs.getD k dz).q = q at *
            go_wp2_with (first | (go_at_call 55; refine (keyOk_is _ true h1 _).mono ?_; rintro e w' ⟨rfl, rfl⟩) | (go_at_call 56; refine (implTagOk_is _ _ _ false h2 _).mono ?_; rintro e w' ⟨rfl, hb⟩))
            go_ret
            exact ⟨ret_bool HF.out.symm, below_step (HB.out.alloc HB.out.size _) (by have := HB.out.size; simp; omega) hb⟩
          · have HF : Hid (depGood xs k = true) := depGood_good h1 h2 (by rw [HL.out]; omega)
            have HG' : Hid (∀ j, j < k + 1 → depGood xs j = true) := fun j hj => by
              by_cases h : j < k
              · exact HG.out j h
              · have : j = k := by omega
                rw [this]
                exact HF.out
            clear HF
            generalize (xs.getD k dz).k = x at *
            generalize (xs.getD k dz).c = c at *
            generalize (xs.getD k dz).s = s at *
            generalize (xs.getD k dz).q = q at *
            go_wp2_with fail
            refine (keyOk_is _ true h1 _).mono ?_
            rintro e w' ⟨rfl, rfl⟩
            go_wp2_with fail
            refine (implTagOk_is _ _ _ true h2 _).mono ?_
            rintro e w' ⟨rfl, hb⟩
            have HB' : Hid (Below w.heap.size w w') := below_step (HB.out.alloc HB.out.size _) (by have := HB.out.size; simp; omega) hb
            obtain ⟨hc, _⟩ := bcell hb
            clear hb
            go_wp2
            exact ⟨⟨k + 1, x, by omega, by go_num, rfl, HS, HG', HB'⟩, by simp [intOf]; omega⟩
    · go_wp2
      go_ret
      exact ⟨ret_bool (depsOk_true fun i hi => HG.out i (by omega)).symm, HB.out⟩

theorem implDepsOk_any (b o : Nat) (xs : List Dp) (cap : Nat) (w : World) (hn : xs.length ≤ 1048576) (hlt : b < w.heap.size) (hh : HoldsDeps w b o xs) :
    Calls Tryz.prog 58 #[.slice (some ⟨b, o, none⟩) xs.length cap] w fun e w' => e = .returned (.bool (depsOkB xs)) ∧ Below w.heap.size w w' :=
  implDepsOk_gen _ xs cap w hn (.inr ⟨b, o, rfl, hlt, hh⟩)

end Go.Proofs.YtidpcjcnhklmpacGreatDoor

/- Contracts of TagCmp (spec and impl) and of what they call. -/
namespace Go.Proofs.YtidpcjcnhklmpacGreatDoor
open Go.ChangeShapes Go.WideShapes Go.ChangeAt Go.RowKit

theorem sign_any (a b : Int) (w : World) :
    Calls Tryz.prog 47 #[.int .i64 a, .int .i64 b] w fun e w' => e = .returned (.int .i64 (sgn a b)) ∧ w' = w := by
  rcases Int.lt_trichotomy a b with h | h | h
  · have e : sgn a b = -1 := by simp [sgn, h]
    rw [e]
    go_enter Tryz.func47, Tryz.ntmps47
    go_wp2
    go_ret
    exact ⟨rfl, rfl⟩
  · subst h
    rw [sgn_self]
    go_enter Tryz.func47, Tryz.ntmps47
    go_wp2
    go_ret
    exact ⟨rfl, rfl⟩
  · have h' : ¬ a < b := by omega
    have e : sgn a b = 1 := by simp [sgn, h, h']
    rw [e]
    go_enter Tryz.func47, Tryz.ntmps47
    go_wp2
    go_ret
    exact ⟨rfl, rfl⟩

theorem isNaN_any (a : Int) (w : World) :
    Calls Tryz.prog 96 #[.int .i64 a] w fun e w' => e = .returned (.bool false) ∧ w' = w := by
  go_enter Tryz.func96, Tryz.ntmps96
  go_wp2
  go_ret
  exact ⟨by simp, rfl⟩

theorem compare_any (a b : Int) (w : World) :
    Calls Tryz.prog 81 #[.int .i64 a, .int .i64 b] w fun e w' => e = .returned (.int .i64 (sgn a b)) ∧ w' = w := by
  rcases Int.lt_trichotomy a b with h | h | h
  · have e : sgn a b = -1 := by simp [sgn, h]
    rw [e]
    go_enter Tryz.func81, Tryz.ntmps81
    go_wp2_with (go_at_call 96; refine (isNaN_any _ _).mono ?_; rintro e w' ⟨rfl, rfl⟩)
    go_ret
    exact ⟨rfl, rfl⟩
  · subst h
    rw [sgn_self]
    go_enter Tryz.func81, Tryz.ntmps81
    go_wp2_with (go_at_call 96; refine (isNaN_any _ _).mono ?_; rintro e w' ⟨rfl, rfl⟩)
    go_ret
    exact ⟨rfl, rfl⟩
  · have h' : ¬ a < b := by omega
    have e : sgn a b = 1 := by simp [sgn, h, h']
    rw [e]
    go_enter Tryz.func81, Tryz.ntmps81
    go_wp2_with (go_at_call 96; refine (isNaN_any _ _).mono ?_; rintro e w' ⟨rfl, rfl⟩)
    go_ret
    exact ⟨rfl, rfl⟩

set_option maxHeartbeats 400000 in
theorem specTagCmp_any (c s q c' s' q' : Int) (w : World) :
    Calls Tryz.prog 46 #[tagV c s q, tagV c' s' q'] w fun e w' => e = .returned (.int .i64 (tcmp c s q c' s' q')) ∧ Below w.heap.size w w' := by
  by_cases h1 : c = c'
  · by_cases h2 : s = s'
    · subst h1 h2
      have e : tcmp c s q c s q' = sgn q q' := by simp [tcmp]
      rw [e]
      go_enter Tryz.func46, Tryz.ntmps46
      go_wp2_with (go_at_call 47; refine (sign_any _ _ _).mono ?_; rintro e w' ⟨rfl, rfl⟩)
      go_ret
      exact ⟨rfl, ((Below.refl _ _).alloc (Nat.le_refl _) _).alloc (by simp) _⟩
    · subst h1
      have e : tcmp c s q c s' q' = sgn s s' := by simp [tcmp, h2]
      rw [e]
      have h2' : (s != s') = true := by rw [bne_iff_ne]; exact h2
      go_enter Tryz.func46, Tryz.ntmps46
      go_wp2_with (go_at_call 47; refine (sign_any _ _ _).mono ?_; rintro e w' ⟨rfl, rfl⟩)
      go_ret
      exact ⟨rfl, ((Below.refl _ _).alloc (Nat.le_refl _) _).alloc (by simp) _⟩
  · have e : tcmp c s q c' s' q' = sgn c c' := by simp [tcmp, h1]
    rw [e]
    have h1' : (c != c') = true := by rw [bne_iff_ne]; exact h1
    go_enter Tryz.func46, Tryz.ntmps46
    go_wp2_with (go_at_call 47; refine (sign_any _ _ _).mono ?_; rintro e w' ⟨rfl, rfl⟩)
    go_ret
    exact ⟨rfl, ((Below.refl _ _).alloc (Nat.le_refl _) _).alloc (by simp) _⟩

def orTo (zs : List Int) (k : Nat) : Prop := ∀ i, i < k → zs.getD i 0 = 0

theorem orI_of_first : ∀ (zs : List Int) (k : Nat), k < zs.length → (∀ i, i < k → zs.getD i 0 = 0) → zs.getD k 0 ≠ 0 → orI zs = zs.getD k 0
  | [], _, h, _, _ => by simp at h
  | x :: r, 0, _, _, hn => by
    have hn' : x ≠ 0 := hn
    simp [orI, hn']
  | x :: r, k + 1, h, hz, hn => by
    have hx : x = 0 := hz 0 (by omega)
    have := orI_of_first r k (by simpa using h) (fun i hi => by simpa using hz (i + 1) (by omega)) (by simpa using hn)
    simp [orI, hx]
    simpa using this

theorem orI_of_none : ∀ (zs : List Int), (∀ i, i < zs.length → zs.getD i 0 = 0) → orI zs = 0
  | [], _ => rfl
  | x :: r, h => by
    have hx : x = 0 := h 0 (by simp)
    have := orI_of_none r (fun i hi => by simpa using h (i + 1) (by simpa using hi))
    simp [orI, hx, this]

theorem ret_i64 {a b : Int} (h : a = b) : Ending.returned (.int .i64 a) = .returned (.int .i64 b) := by rw [h]

set_option maxHeartbeats 400000 in
theorem or_any (b : Nat) (zs : List Int) (cap : Nat) (w : World) (hn : zs.length ≤ 1000) (hcl : ∀ i, i < zs.length → w.cell? ⟨b, i, none⟩ = some (.int .i64 (zs.getD i 0))) :
    Calls Tryz.prog 79 #[.slice (some ⟨b, 0, none⟩) zs.length cap] w fun e w' => e = .returned (.int .i64 (orI zs)) ∧ w' = w := by
  have HC : Hid (∀ i, i < zs.length → w.cell? ⟨b, i, none⟩ = some (.int .i64 (zs.getD i 0))) := hcl
  clear hcl
  go_enter Tryz.func79, Tryz.ntmps79
  go_wp2
  go_loop [8] (fun i => ∃ k : Nat, k ≤ zs.length ∧ i = .int .i64 k ∧ orTo zs k) (fun i => zs.length - (intOf i).toNat)
  case atStart => exact ⟨0, Nat.zero_le _, rfl, fun i hi => by omega⟩
  case round =>
    obtain ⟨k, hk, rfl, HZ⟩ := hrel
    by_cases hlt : k < zs.length
    · have hcell := HC.out k hlt
      by_cases hz : zs.getD k 0 = 0
      · rw [hz] at hcell
        have HZ0 : Hid (zs.getD k 0 = 0) := hz
        clear hz
        go_wp2
        go_round
        case rel => exact ⟨k + 1, by omega, by go_num, fun i hi => by
          by_cases h : i < k
          · exact HZ i h
          · have : i = k := by omega
            rw [this]
            exact HZ0.out⟩
        case measure => simp [intOf]; omega
      · have HF : Hid (orI zs = zs.getD k 0) := orI_of_first zs k hlt HZ hz
        have hz' : (zs.getD k 0 != 0) = true := by rw [bne_iff_ne]; exact hz
        clear hz
        generalize zs.getD k 0 = z at hcell hz' HF
        go_wp2
        go_ret
        exact ⟨ret_i64 HF.out.symm, rfl⟩
    · have HF : Hid (orI zs = 0) := orI_of_none zs (fun i hi => HZ i (by omega))
      go_wp2
      go_ret
      exact ⟨ret_i64 HF.out.symm, rfl⟩

end Go.Proofs.YtidpcjcnhklmpacGreatDoor

/- Writes: contracts of szWrite, toWrite, eqWrite, valOk, tagWord. -/
namespace Go.Proofs.YtidpcjcnhklmpacGreatDoor
open Go.ChangeShapes Go.WideShapes Go.ChangeAt Go.RowKit Go.Joins
attribute [local go_sem ↓] Go.wp_at_zero Go.wp_at_succ

theorem HoldsDeps.set {w : World} {b o : Nat} {xs : List Dp} {a : Addr} (h : HoldsDeps w b o xs) (hne : a.block ≠ b) (v : Value) : HoldsDeps (w.setCell a v) b o xs := by
  intro i hi
  obtain ⟨h0, h1, h2, h3⟩ := h i hi
  have hn : ∀ o', a ≠ ⟨b, o', none⟩ := fun o' e => hne (by rw [e])
  exact ⟨(World.cell?_setCell_other _ _ _ _ (hn _)).trans h0, (World.cell?_setCell_other _ _ _ _ (hn _)).trans h1, (World.cell?_setCell_other _ _ _ _ (hn _)).trans h2, (World.cell?_setCell_other _ _ _ _ (hn _)).trans h3⟩

abbrev wrV (k c s q v : Int) (de : Bool) (a : Option Addr) (len cap : Nat) : Value := .agg #[.int .i64 k, .int .i64 c, .int .i64 s, .int .i64 q, .int .i64 v, .bool de, .slice a len cap]

def valOkB (v : Int) (de : Bool) : Bool := if de then v == 0 else btw v (-1000000) 1000000

theorem valOk_any (v : Int) (de : Bool) (w : World) :
    Calls Tryz.prog 57 #[.int .i64 v, .bool de] w fun e w' => e = .returned (.bool (valOkB v de)) ∧ w' = w := by
  cases de
  · go_enter Tryz.func57, Tryz.ntmps57
    go_wp2_with (go_at_call 21; refine (inRange_any _ _ _ _).mono ?_; rintro e w' ⟨rfl, rfl⟩)
    go_ret
    exact ⟨rfl, rfl⟩
  · go_enter Tryz.func57, Tryz.ntmps57
    go_wp2_with (go_at_call 21; refine (inRange_any _ _ _ _).mono ?_; rintro e w' ⟨rfl, rfl⟩)
    go_ret
    exact ⟨rfl, rfl⟩

theorem word_or (c s q : Int) (h1 : 1 ≤ c) (h2 : c ≤ 100000) (h3 : 0 ≤ s) (h4 : s ≤ 3) (h5 : 1 ≤ q) (h6 : q ≤ 1000) :
    bits BinOp.or IntKind.u64 (bits BinOp.or IntKind.u64 (c * 4096) (s * 1024)) q = c * 4096 + s * 1024 + q := by
  obtain ⟨c, rfl⟩ := Int.eq_ofNat_of_zero_le (show 0 ≤ c by omega)
  obtain ⟨s, rfl⟩ := Int.eq_ofNat_of_zero_le h3
  obtain ⟨q, rfl⟩ := Int.eq_ofNat_of_zero_le (show 0 ≤ q by omega)
  have e1 : bits BinOp.or IntKind.u64 ((c : Int) * 4096) ((s : Int) * 1024) = ((4096 * c + s * 1024 : Nat) : Int) := by
    rw [u64_or _ _ (by omega) (by omega) (by omega) (by omega), show ((c : Int) * 4096).toNat = 2 ^ 12 * c by omega, show ((s : Int) * 1024).toNat = s * 1024 by omega,
      ← Nat.two_pow_add_eq_or_of_lt (show s * 1024 < 2 ^ 12 by omega) c]
  rw [e1, u64_or _ _ (by omega) (by omega) (by omega) (by omega), Int.toNat_natCast, Int.toNat_natCast, show 4096 * c + s * 1024 = 2 ^ 10 * (4 * c + s) by omega,
    ← Nat.two_pow_add_eq_or_of_lt (show q < 2 ^ 10 by omega) (4 * c + s)]
  omega

set_option maxHeartbeats 400000 in
theorem tagWord_raw (c s q : Int) (w : World) (h1 : 1 ≤ c) (h2 : c ≤ 100000) (h3 : 0 ≤ s) (h4 : s ≤ 3) (h5 : 1 ≤ q) (h6 : q ≤ 1000) :
    Calls Tryz.prog 59 #[tagV c s q] w fun e w' => e = .returned (.int .u64 (c * 4096 + s * 1024 + q)) ∧ Below w.heap.size w w' := by
  have HE : Hid (bits BinOp.or IntKind.u64 (bits BinOp.or IntKind.u64 (c * 4096) (s * 1024)) q = c * 4096 + s * 1024 + q) := word_or c s q h1 h2 h3 h4 h5 h6
  go_enter Tryz.func59, Tryz.ntmps59
  go_wp2
  go_ret
  exact ⟨by rw [HE.out]; rfl, (Below.refl _ _).alloc (Nat.le_refl _) _⟩

theorem tagOk_bounds {c s q : Int} (h : tagOkB c s q = true) : 1 ≤ c ∧ c ≤ 100000 ∧ 0 ≤ s ∧ s ≤ 3 ∧ 1 ≤ q ∧ q ≤ 1000 := by
  unfold tagOkB btw at h
  simp only [Bool.and_eq_true, decide_eq_true_eq] at h
  omega

theorem tagWord_any (c s q : Int) (w : World) (h : tagOkB c s q = true) :
    Calls Tryz.prog 59 #[tagV c s q] w fun e w' => e = .returned (.int .u64 (c * 4096 + s * 1024 + q)) ∧ Below w.heap.size w w' := by
  obtain ⟨h1, h2, h3, h4, h5, h6⟩ := tagOk_bounds h
  exact tagWord_raw c s q w h1 h2 h3 h4 h5 h6

/-- The packed words stand as the tags do. -/
theorem word_order {c s q c' s' q' : Int} (h : tagOkB c s q = true) (h' : tagOkB c' s' q' = true) : (c' * 4096 + s' * 1024 + q' ≤ c * 4096 + s * 1024 + q) ↔ 0 ≤ tcmp c s q c' s' q' := by
  obtain ⟨h1, h2, h3, h4, h5, h6⟩ := tagOk_bounds h
  obtain ⟨g1, g2, g3, g4, g5, g6⟩ := tagOk_bounds h'
  unfold tcmp sgn
  by_cases e1 : c = c'
  · rw [if_neg (by simpa using e1)]
    by_cases e2 : s = s'
    · rw [if_neg (by simpa using e2)]
      split
      · omega
      · split <;> omega
    · rw [if_pos e2]
      split
      · omega
      · split <;> omega
  · rw [if_pos e1]
    split
    · omega
    · split <;> omega

end Go.Proofs.YtidpcjcnhklmpacGreatDoor
