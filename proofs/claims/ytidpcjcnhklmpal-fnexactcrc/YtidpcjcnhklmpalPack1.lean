import Derived.Test.YtidpcjcnhklmpalRows
import Derived.WalkKit
import Derived.ProofKit
import Derived.OpenShut
import Derived.BigQuiet
import Derived.Deep.QuietTactic
import Derived.Outline
import Derived.Laws.ResultCell
import Derived.Lib.SmallJoins
import Derived.ChangeOld
import Derived.Below
import Derived.Lib.Hide
import Derived.Laws.BitsAllLaws
/- Contracts of the functions on tags: spec and impl. -/
namespace Go.Proofs.Ytidpcjcnhklmpal
open Go.ChangeShapes Go.WideShapes Go.ChangeAt Go.RowKit

def btw (n lo hi : Int) : Bool := decide (lo ≤ n ∧ n ≤ hi)

end Go.Proofs.Ytidpcjcnhklmpal

/- Contracts of TagOk (spec and impl) and of toTag. -/
namespace Go.Proofs.Ytidpcjcnhklmpal
open Go.ChangeShapes Go.WideShapes Go.ChangeAt Go.RowKit

abbrev tagV (c s q : Int) : Value := .agg #[.int .i64 c, .int .i64 s, .int .i64 q]

def tagOkB (c s q : Int) : Bool := btw c 1 100000 && (btw s 0 3 && btw q 1 1000)

end Go.Proofs.Ytidpcjcnhklmpal

/- Small facts that every law's proof uses. -/
namespace Go.Proofs.Ytidpcjcnhklmpal
open Go.ChangeShapes Go.WideShapes Go.ChangeAt Go.RowKit Go.Joins

theorem own : ownKnob Try.prog.godebug = none := by kernel_rfl

theorem laidOut : laidOutB Try.prog = true := by kernel_rfl

theorem bcell {W w1 : World} (hb : Below W.heap.size W w1) : (∀ b o, b < W.heap.size → w1.cell? ⟨b, o, none⟩ = W.cell? ⟨b, o, none⟩) ∧ (∀ b o, b < W.heap.size → w1.frozen? ⟨b, o, none⟩ = W.frozen? ⟨b, o, none⟩) :=
  ⟨fun b o h => hb.cell (p := ⟨b, o, none⟩) h, fun b o h => hb.frozen (p := ⟨b, o, none⟩) h⟩

/-- One step more behind a chain of 'Below'. -/
theorem below_step {B : Nat} {w w1 w2 : World} (h : Below B w w1) (hB : B ≤ w1.heap.size) (k : Below w1.heap.size w1 w2) : Below B w w2 := h.trans (k.mono hB)

theorem held_cell {W w' : World} {b o : Nat} {v : Value} (hb : Below W.heap.size W w') (h : W.cell? ⟨b, o, none⟩ = some v) (hz : b < W.heap.size) : w'.cell? ⟨b, o, none⟩ = some v :=
  (hb.cell (p := ⟨b, o, none⟩) hz).trans h

end Go.Proofs.Ytidpcjcnhklmpal

/- A region that draws its order, whose operations only read, and whose callees may make memory and turn nothing that was there: walked once, in the order of the text. The class of worlds: those that hold what was there ('Below'). -/
namespace Go.Proofs.Ytidpcjcnhklmpal
open Go.RowKit

structure Aft (B : Nat) (w : World) where
  now : World
  below : Below B w now

theorem wp_region_aft {P : Program} {id : Nat} {Q : Exit → Act → World → Prop} {a : Act} {w : World} {l : List Oper} (hm : P.follows .mixedOrders = true) (hB : Region.lexB .any l.toArray = true)
    (h : wpQuiet P l.toArray (fun w' => ∃ p : Aft w.heap.size w, w' = p.now) (fun a' => ∀ w', Below w.heap.size w w' → Q .normal a' w') l a) : (Code.region id l.toArray true).wp P Q a w := by
  refine wp_region_quiet (C := fun w' => ∃ p : Aft w.heap.size w, w' = p.now) hm hB ⟨⟨w.drew, (Below.refl _ _).drew⟩, rfl⟩ ?_
  have e : (fun a' => ∀ w', (∃ p : Aft w.heap.size w, w' = p.now) → Q .normal a' w') = (fun a' => ∀ w', Below w.heap.size w w' → Q .normal a' w') := by
    funext a'
    apply propext
    constructor
    · intro hh w' hb
      exact hh w' ⟨⟨w', hb⟩, rfl⟩
    · rintro hh w' ⟨p, rfl⟩
      exact hh _ p.below
  rw [e]
  simpa using h

theorem aft_some (w : World) : Nonempty (Aft w.heap.size w) := ⟨⟨w, Below.refl _ _⟩⟩

theorem aft_of {P : Program} {f : FuncId} {args : Array Value} {w : World} {p : Aft w.heap.size w} {v : Value}
    (h : Calls P f args p.now fun e w' => e = .returned v ∧ Below p.now.heap.size p.now w') : Calls P f args p.now fun e w'' => e = .returned v ∧ ∃ p' : Aft w.heap.size w, w'' = p'.now :=
  h.mono fun _ w'' ⟨he, hb⟩ => ⟨he, ⟨w'', p.below.trans (hb.mono p.below.size)⟩, rfl⟩

theorem aft_same {P : Program} {f : FuncId} {args : Array Value} {w : World} {p : Aft w.heap.size w} {v : Value}
    (h : Calls P f args p.now fun e w' => e = .returned v ∧ w' = p.now) : Calls P f args p.now fun e w'' => e = .returned v ∧ ∃ p' : Aft w.heap.size w, w'' = p'.now :=
  h.mono fun _ _ ⟨he, hb⟩ => ⟨he, p, hb⟩

theorem aft_cell {w : World} {b o : Nat} {v : Value} (hb : b < w.heap.size) (h : w.cell? ⟨b, o, none⟩ = some v) : ∀ p : Aft w.heap.size w, p.now.cell? ⟨b, o, none⟩ = some v :=
  fun p => (p.below.cell (p := ⟨b, o, none⟩) hb).trans h

end Go.Proofs.Ytidpcjcnhklmpal

/- The remainder of 32 bits with the polynomial of IEEE: plain facts; the contract of spec.Crc. -/
namespace Go.Proofs.Ytidpcjcnhklmpal
open Go.ChangeShapes Go.WideShapes Go.ChangeAt Go.RowKit Go.Joins

/-- One step, for one bit. -/
def crcBit (x : Nat) : Nat := if x % 2 = 1 then (x / 2) ^^^ 3988292384 else x / 2

def crcBits : Nat → Nat → Nat
  | 0, x => x
  | k + 1, x => crcBit (crcBits k x)

def crcByte (x : Nat) (b : UInt8) : Nat := crcBits 8 (x ^^^ b.toNat)

def crcRun (bs : List UInt8) : Nat := bs.foldl crcByte 4294967295

def crcL (bs : List UInt8) : Nat := crcRun bs ^^^ 4294967295

set_option maxRecDepth 100000 in
theorem xor32 {a b : Nat} (ha : a < 4294967296) (hb : b < 4294967296) : a ^^^ b < 4294967296 := Nat.xor_lt_two_pow (n := 32) (by omega) (by omega)

set_option maxRecDepth 100000 in
theorem crcBit_bd {x : Nat} (h : x < 4294967296) : crcBit x < 4294967296 := by
  unfold crcBit
  split
  · exact xor32 (by omega) (by omega)
  · omega

set_option maxRecDepth 100000 in
theorem crcBits_bd {x : Nat} (h : x < 4294967296) : ∀ k, crcBits k x < 4294967296
  | 0 => h
  | k + 1 => crcBit_bd (crcBits_bd h k)

set_option maxRecDepth 100000 in
theorem crcByte_bd {x : Nat} (h : x < 4294967296) (b : UInt8) : crcByte x b < 4294967296 :=
  crcBits_bd (xor32 h (by have := b.toNat_lt; omega)) 8

set_option maxRecDepth 100000 in
theorem crc_fold : ∀ (bs : List UInt8) (x : Nat), x < 4294967296 → bs.foldl crcByte x < 4294967296
  | [], _, h => h
  | b :: r, x, h => crc_fold r (crcByte x b) (crcByte_bd h b)

set_option maxRecDepth 100000 in
theorem crcRun_bd (bs : List UInt8) : crcRun bs < 4294967296 := crc_fold bs _ (by omega)

set_option maxRecDepth 100000 in
theorem crcL_bd (bs : List UInt8) : crcL bs < 4294967296 := xor32 (crcRun_bd bs) (by omega)

set_option maxRecDepth 100000 in
theorem crcRun_snoc (bs : List UInt8) (b : UInt8) : crcRun (bs ++ [b]) = crcByte (crcRun bs) b := by
  unfold crcRun
  rw [List.foldl_append]
  rfl

set_option maxRecDepth 100000 in
theorem crcRun_take {s : ByteArray} {k : Nat} (h : k < s.size) : crcRun (s.data.toList.take (k + 1)) = crcByte (crcRun (s.data.toList.take k)) s[k] := by
  have hl : k < s.data.toList.length := by simpa using h
  rw [List.take_succ_eq_append_getElem hl, crcRun_snoc]
  rfl

set_option maxRecDepth 100000 in
theorem i64_xor_nat {a b : Nat} (ha : a < 4294967296) (hb : b < 4294967296) : bits .xor .i64 (a : Int) (b : Int) = ((a ^^^ b : Nat) : Int) := by
  have hx := xor32 ha hb
  show IntKind.i64.wrap ((BitVec.ofInt 64 (a : Int) ^^^ BitVec.ofInt 64 (b : Int)).toNat : Int) = _
  rw [BitVec.toNat_xor, ofInt_u64 a (by omega), ofInt_u64 b (by omega), wrap_small _ (by omega) (by omega)]

set_option maxRecDepth 100000 in
set_option maxHeartbeats 2000000 in
theorem specCrc_any (s : ByteArray) (w : World) (hs : s.size ≤ 9223372036854775807) :
    Calls Try.prog 11 #[.string s] w fun e w' => e = .returned (.int .i64 (crcL s.data.toList : Nat)) ∧ w' = w := by
  go_enter Try.func11, Try.ntmps11
  go_wp2
  go_loopw [3, 4] (fun x i wr => ∃ k : Nat, k ≤ s.size ∧ i = .int .i64 k ∧ x = .int .i64 (crcRun (s.data.toList.take k) : Nat) ∧ wr = w) (fun _ i _ => s.size - (intOf i).toNat)
  case atStart => exact ⟨0, Nat.zero_le _, rfl, rfl, rfl⟩
  case round =>
    obtain ⟨k, hk, rfl, rfl, rfl⟩ := hrel
    by_cases hk' : k < s.size
    · have i1 : (0 : Int) ≤ (k : Int) := by omega
      have i2 : (k : Int) < (s.size : Int) := by omega
      have HT := Lib.hid (crcRun_take hk')
      have hb := crcRun_bd (s.data.toList.take k)
      have hc : (s[k].toNat : Nat) < 4294967296 := by have := s[k].toNat_lt; omega
      have hu : s[k].toNat < 256 := UInt8.toNat_lt _
      have hu' : wrap64 (s[k].toNat : Int) = (s[k].toNat : Int) := by unfold wrap64; omega
      have hx : bits .xor .i64 ((crcRun (s.data.toList.take k) : Nat) : Int) ((s[k].toNat : Nat) : Int) = ((crcRun (s.data.toList.take k) ^^^ s[k].toNat : Nat) : Int) := i64_xor_nat hb hc
      have hy := xor32 hb hc
      have HB : Hid (crcByte (crcRun (s.data.toList.take k)) s[k] = crcBits 8 (crcRun (s.data.toList.take k) ^^^ s[k].toNat)) := rfl
      go_wp2
      generalize crcRun (s.data.toList.take k) ^^^ s[k].toNat = y at *
      clear hx
      go_loopw [3, 5] (fun x i wq => ∃ j : Nat, j ≤ 8 ∧ i = .int .i64 j ∧ x = .int .i64 (crcBits j y : Nat) ∧ wq = wr) (fun _ i _ => 8 - (intOf i).toNat)
      case atStart => exact ⟨0, Nat.zero_le _, rfl, rfl, rfl⟩
      case round =>
        obtain ⟨j, hj, rfl, rfl, rfl⟩ := hrel
        by_cases hj' : j < 8
        · have j1 : (j : Int) < 8 := by omega
          have hz := crcBits_bd hy j
          have HS : Hid (crcBits (j + 1) y = crcBit (crcBits j y)) := rfl
          generalize crcBits j y = z at *
          have hz2 : (z / 2 : Nat) < 4294967296 := by omega
          have d1 : ((z : Int)).tmod 2 = ((z % 2 : Nat) : Int) := by rw [Int.tmod_eq_emod_of_nonneg (by omega)]; omega
          have d2 : ((z : Int)).tdiv 2 = ((z / 2 : Nat) : Int) := by rw [Int.tdiv_eq_ediv_of_nonneg (by omega)]; omega
          have hx : bits .xor .i64 ((z / 2 : Nat) : Int) 3988292384 = ((z / 2 ^^^ 3988292384 : Nat) : Int) := i64_xor_nat hz2 (b := 3988292384) (by omega)
          by_cases hm : z % 2 = 1
          · have HE : Hid (crcBits (j + 1) y = z / 2 ^^^ 3988292384) := by
              rw [HS.out]
              unfold crcBit
              rw [if_pos hm]
              exact Lib.hid rfl
            go_wp2
            refine ⟨⟨j + 1, by omega, by go_num, ?_, trivial⟩, by simp [intOf]; omega⟩
            have e2 : (z : Int) / 2 = ((z / 2 : Nat) : Int) := by omega
            rw [HE.out, e2, hx]
          · have HE : Hid (crcBits (j + 1) y = z / 2) := by
              rw [HS.out]
              unfold crcBit
              rw [if_neg hm]
              exact Lib.hid rfl
            have hm0 : z % 2 = 0 := by omega
            go_wp2
            refine ⟨⟨j + 1, by omega, by go_num, ?_, trivial⟩, by simp [intOf]; omega⟩
            have e2 : (z : Int) / 2 = ((z / 2 : Nat) : Int) := by omega
            rw [HE.out, e2]
        · have hjj : j = 8 := by omega
          subst hjj
          go_wp2
          exact ⟨⟨k + 1, by omega, by go_num, by rw [HT.out, HB.out], trivial⟩, by simp [intOf]; omega⟩
    · have hkk : k = s.size := by omega
      subst hkk
      have e : s.data.toList.take s.size = s.data.toList := List.take_of_length_le (by simp)
      rw [e]
      have hb := crcRun_bd s.data.toList
      have hx : bits .xor .i64 ((crcRun s.data.toList : Nat) : Int) 4294967295 = ((crcL s.data.toList : Nat) : Int) := i64_xor_nat hb (b := 4294967295) (by omega)
      go_wp2
      go_ret
      exact ⟨rfl, rfl⟩

end Go.Proofs.Ytidpcjcnhklmpal

/- The contract of impl.Crc: the same remainder, reckoned in 32 bits. -/
namespace Go.Proofs.Ytidpcjcnhklmpal
open Go.ChangeShapes Go.WideShapes Go.ChangeAt Go.RowKit Go.Joins

set_option maxRecDepth 100000 in
set_option maxHeartbeats 2000000 in
theorem crcStep_any (x : Nat) (w : World) (hx : x < 4294967296) :
    Calls Try.prog 14 #[.int .u32 (x : Int)] w fun e w' => e = .returned (.int .u32 (crcBits 8 x : Nat)) ∧ w' = w := by
  go_enter Try.func14, Try.ntmps14
  go_wp2
  go_loopw [0, 4] (fun r i wq => ∃ j : Nat, j ≤ 8 ∧ i = .int .i64 j ∧ r = .int .u32 (crcBits j x : Nat) ∧ wq = w) (fun _ i _ => 8 - (intOf i).toNat)
  case atStart => exact ⟨0, Nat.zero_le _, rfl, rfl, rfl⟩
  case round =>
    obtain ⟨j, hj, rfl, rfl, rfl⟩ := hrel
    by_cases hj' : j < 8
    · have j1 : (j : Int) < 8 := by omega
      have hz := crcBits_bd hx j
      have HS : Hid (crcBits (j + 1) x = crcBit (crcBits j x)) := rfl
      generalize crcBits j x = z at *
      have hz2 : (z / 2 : Nat) < 4294967296 := by omega
      have ha : bits .and .u32 (z : Int) 1 = ((z % 2 : Nat) : Int) := by
        have h := u32_and_nat z 1 hz (by omega)
        rw [nat_mask1] at h
        exact h
      have hx : bits .xor .u32 ((z / 2 : Nat) : Int) 3988292384 = ((z / 2 ^^^ 3988292384 : Nat) : Int) := u32_xor_nat (z / 2) 3988292384 hz2 (by omega)
      by_cases hm : z % 2 = 1
      · have HE : Hid (crcBits (j + 1) x = z / 2 ^^^ 3988292384) := by
          rw [HS.out]
          unfold crcBit
          rw [if_pos hm]
          exact Lib.hid rfl
        go_wp2
        refine ⟨⟨j + 1, by omega, by go_num, ?_, trivial⟩, by simp [intOf]; omega⟩
        have e2 : (z : Int) / 2 = ((z / 2 : Nat) : Int) := by omega
        rw [HE.out, e2, hx]
      · have HE : Hid (crcBits (j + 1) x = z / 2) := by
          rw [HS.out]
          unfold crcBit
          rw [if_neg hm]
          exact Lib.hid rfl
        have hm0 : z % 2 = 0 := by omega
        go_wp2
        refine ⟨⟨j + 1, by omega, by go_num, ?_, trivial⟩, by simp [intOf]; omega⟩
        have e2 : (z : Int) / 2 = ((z / 2 : Nat) : Int) := by omega
        rw [HE.out, e2]
    · have hjj : j = 8 := by omega
      subst hjj
      go_wp2
      go_ret
      exact ⟨rfl, rfl⟩

set_option maxRecDepth 100000 in
set_option maxHeartbeats 2000000 in
theorem implCrc_any (s : ByteArray) (w : World) (hs : s.size ≤ 9223372036854775807) :
    Calls Try.prog 12 #[.string s] w fun e w' => e = .returned (.int .i64 (crcL s.data.toList : Nat)) ∧ w' = w := by
  go_enter Try.func12, Try.ntmps12
  go_wp2
  go_loopw [3, 7] (fun x i wr => ∃ k : Nat, k ≤ s.size ∧ i = .int .i64 k ∧ x = .int .u32 (crcRun (s.data.toList.take k) : Nat) ∧ wr = w) (fun _ i _ => s.size - (intOf i).toNat)
  case atStart => exact ⟨0, Nat.zero_le _, rfl, rfl, rfl⟩
  case round =>
    obtain ⟨k, hk, rfl, rfl, rfl⟩ := hrel
    by_cases hk' : k < s.size
    · have i1 : (0 : Int) ≤ (k : Int) := by omega
      have i2 : (k : Int) < (s.size : Int) := by omega
      have HT := Lib.hid (crcRun_take hk')
      have hb := crcRun_bd (s.data.toList.take k)
      have hc : (s[k].toNat : Nat) < 4294967296 := by have := s[k].toNat_lt; omega
      have hu : s[k].toNat < 256 := UInt8.toNat_lt _
      have hx : bits .xor .u32 ((crcRun (s.data.toList.take k) : Nat) : Int) ((s[k].toNat : Nat) : Int) = ((crcRun (s.data.toList.take k) ^^^ s[k].toNat : Nat) : Int) := u32_xor_nat _ _ hb hc
      have hy := xor32 hb hc
      have HB : Hid (crcByte (crcRun (s.data.toList.take k)) s[k] = crcBits 8 (crcRun (s.data.toList.take k) ^^^ s[k].toNat)) := rfl
      go_wp2_with fail
      refine (crcStep_any _ _ hy).mono ?_
      rintro e w1 ⟨rfl, hw⟩
      subst w1
      go_wp2
      exact ⟨⟨k + 1, by omega, by go_num, by rw [HT.out, HB.out], trivial⟩, by simp [intOf]; omega⟩
    · have hkk : k = s.size := by omega
      subst hkk
      have e : s.data.toList.take s.size = s.data.toList := List.take_of_length_le (by simp)
      rw [e]
      have hb := crcRun_bd s.data.toList
      have hl := crcL_bd s.data.toList
      have hx : bits .xor .u32 ((crcRun s.data.toList : Nat) : Int) 4294967295 = ((crcL s.data.toList : Nat) : Int) := u32_xor_nat _ 4294967295 hb (by omega)
      go_wp2
      go_ret
      exact ⟨rfl, rfl⟩

end Go.Proofs.Ytidpcjcnhklmpal
