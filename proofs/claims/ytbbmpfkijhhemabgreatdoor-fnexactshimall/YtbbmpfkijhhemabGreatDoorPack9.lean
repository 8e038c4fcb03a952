import Derived.Test.YtbbmpfkijhhemabGreatDoorPack8
import Derived.Test.YtbbmpfkijhhemabGreatDoorPack1
import Derived.Deep.AppendLies
import Derived.OwnWalk
import Derived.Lib.ItoaMem
import Derived.Lib.ItoaLen
import Derived.Lib.Slices
import Derived.Lib.AppendIntMem
import Derived.Laws.IdiomStrings
import Derived.Test.YtbbmpfkijhhemabGreatDoorPack7
import Derived.Test.YtbbmpfkijhhemabGreatDoorPack2
import Derived.Lib.Join
import Derived.Lib.ItoaNum
/- A site's shim as a value and in a block; the contracts of spec.l07Site, spec.l07Clock and of the laws' szShim, eqShim. -/
namespace Go.Proofs.YtbbmpfkijhhemabGreatDoor
open Go.ChangeShapes Go.WideShapes Go.ChangeAt Go.RowKit Go.Joins
attribute [local go_sem ↓] Go.wp_at_zero Go.wp_at_succ

/-- A shim as a value: site, clock, seq, last, the writes' slice, the log. -/
def shV (si cl sq la : Int) (a : Option Addr) (n cap : Nat) (t : ByteArray) : Value := .agg #[.int .i64 si, .int .i64 cl, .int .i64 sq, .int .i64 la, .slice a n cap, .string t]

/-- A shim in a block of its own. -/
structure SBox (w : World) (b : Nat) (si cl sq la : Int) (a : Option Addr) (n cap : Nat) (t : ByteArray) : Prop where
  lt : b < w.heap.size
  c0 : w.cell? ⟨b, 0, none⟩ = some (.int .i64 si)
  c1 : w.cell? ⟨b, 1, none⟩ = some (.int .i64 cl)
  c2 : w.cell? ⟨b, 2, none⟩ = some (.int .i64 sq)
  c3 : w.cell? ⟨b, 3, none⟩ = some (.int .i64 la)
  c4 : w.cell? ⟨b, 4, none⟩ = some (.slice a n cap)
  c5 : w.cell? ⟨b, 5, none⟩ = some (.string t)
  fz : ∀ o, w.frozen? ⟨b, o, none⟩ = false

set_option maxRecDepth 100000 in
theorem SBox.start (w : World) (si cl sq la : Int) (a : Option Addr) (n cap : Nat) (t : ByteArray) (ty : Nat) : SBox (w.alloc (.cells #[.int .i64 si, .int .i64 cl, .int .i64 sq, .int .i64 la, .slice a n cap, .string t] ty)) w.heap.size si cl sq la a n cap t := by
  have h := heap_alloc_new w (.cells #[.int .i64 si, .int .i64 cl, .int .i64 sq, .int .i64 la, .slice a n cap, .string t] ty)
  refine ⟨by simp, ?_, ?_, ?_, ?_, ?_, ?_, fun o => by simp [go_sem]⟩ <;> (rw [cell_of_row _ _ _ _ ty (0, 0) h]; rfl)

set_option maxRecDepth 100000 in
theorem SBox.of_block {w w' : World} {b : Nat} {si cl sq la : Int} {a : Option Addr} {n cap : Nat} {t : ByteArray} (h : SBox w b si cl sq la a n cap t) (hs : w.heap.size ≤ w'.heap.size) (hb : w'.heap[b]? = w.heap[b]?) : SBox w' b si cl sq la a n cap t := by
  have e : ∀ o, w'.cell? ⟨b, o, none⟩ = w.cell? ⟨b, o, none⟩ := fun o => World.cell?_of_block (a := ⟨b, o, none⟩) hb
  exact ⟨Nat.lt_of_lt_of_le h.lt hs, (e _).trans h.c0, (e _).trans h.c1, (e _).trans h.c2, (e _).trans h.c3, (e _).trans h.c4, (e _).trans h.c5, fun o => (World.frozen?_of_block (w := w) hb).trans (h.fz o)⟩

set_option maxRecDepth 100000 in
theorem SBox.below {w w' : World} {b : Nat} {si cl sq la : Int} {a : Option Addr} {n cap : Nat} {t : ByteArray} (h : SBox w b si cl sq la a n cap t) (hb : Below w.heap.size w w') : SBox w' b si cl sq la a n cap t := h.of_block hb.size (hb.block b h.lt)

/-- The greatest clock of some writes; 0 of none. -/
def clockL (ws : List Wr) : Int := ws.foldl (fun n x => max n x.c) 0

set_option maxRecDepth 100000 in
theorem clock_take (ws : List Wr) (k : Nat) (h : k < ws.length) : clockL (ws.take (k + 1)) = max (clockL (ws.take k)) (ws.getD k wz).c := by
  unfold clockL
  have e : ws.take (k + 1) = ws.take k ++ [ws.getD k wz] := by
    rw [List.take_add_one, List.getElem?_eq_getElem h]
    simp [List.getD, h]
  rw [e, List.foldl_append]
  rfl

set_option maxRecDepth 100000 in
theorem site_any (si : Int) (w : World) :
    Calls Tryz.prog 25 #[.int .i64 si] w fun e w' => e = .returned (.bool (btw si 0 3)) ∧ w' = w := by
  go_enter Tryz.func25, Tryz.ntmps25
  go_wp2_with fail
  refine (between_any _ _ _ _).mono ?_
  rintro e w1 ⟨rfl, hw⟩
  subst w1
  go_wp2
  go_ret
  exact ⟨rfl, rfl⟩

set_option maxRecDepth 100000 in
set_option maxHeartbeats 2000000 in
theorem clock_any (a : Option Addr) (n cap : Nat) (ws : List Wr) (w : World) (hn : ws.length = n) (hm : n ≤ 1048576) (hh : IsWs w a ws) :
    Calls Tryz.prog 45 #[.slice a n cap] w fun e w' => e = .returned (.int .i64 (clockL ws)) ∧ w' = w := by
  have HH := Lib.hid hh
  have HN := Lib.hid hn
  clear hh hn
  go_enter Tryz.func45, Tryz.ntmps45
  go_wp2
  go_loopw [3, 4] (fun t i wr => ∃ k : Nat, k ≤ n ∧ i = .int .i64 k ∧ t = .int .i64 (clockL (ws.take k)) ∧ wr = w) (fun _ i _ => n - (intOf i).toNat)
  case atStart => exact ⟨0, Nat.zero_le _, rfl, rfl, rfl⟩
  case round =>
    obtain ⟨k, hk, rfl, rfl, rfl⟩ := hrel
    by_cases hk' : k < n
    · have hkw : k < ws.length := by rw [HN.out]; exact hk'
      have i1 : (0 : Int) ≤ (k : Int) := by omega
      have i2 : (k : Int) < (n : Int) := by omega
      obtain ⟨b, o, ad, cp, rfl, hz, ⟨e0, e1, e2, e3, e4, e5, e6⟩, -⟩ := HH.out.at (Below.refl _ _) HN.out hk'
      have HT := Lib.hid (clock_take ws k hkw)
      generalize ws.getD k wz = x at *
      obtain ⟨xk, xc, xs', xq, xv, xd, xx⟩ := x
      simp only at e0 e1 e2 e3 e4 e5 e6 HT
      generalize clockL (ws.take k) = c at *
      go_wp2
      refine ⟨⟨k + 1, by omega, by go_num, ?_, trivial⟩, by simp [intOf]; omega⟩
      rw [HT.out]
      first | done | (congr 1; done) | (congr 1; omega)
    · have hkk : k = n := by omega
      subst hkk
      have e : ws.take k = ws := List.take_of_length_le (by rw [HN.out]; exact Nat.le_refl _)
      rw [e]
      go_wp2
      go_ret
      exact ⟨rfl, rfl⟩

set_option maxRecDepth 100000 in
set_option maxHeartbeats 2000000 in
theorem szShim_any (si cl sq la : Int) (a : Option Addr) (n cap : Nat) (t : ByteArray) (left : Int) (ws : List Wr) (w : World) (h0 : 0 ≤ left) (h1 : left ≤ 1048576) (hm : n ≤ maxLen) (ht : t.size ≤ 9223372036854775807) (hn : ws.length = n) (h : IsWs w a ws) :
    Calls Tryz.prog 4 #[shV si cl sq la a n cap t, .int .i64 left] w fun e w' => ∃ r : Int, e = .returned (.int .i64 r) ∧ (r = -1 ∨ (0 ≤ r ∧ r = left - n - bulk ws - t.size)) ∧ Below w.heap.size w w' := by
  have H := Lib.hid h
  have HN := Lib.hid hn
  clear h hn
  have HB : Hid (Below w.heap.size w (w.alloc (.cells #[.int .i64 si, .int .i64 cl, .int .i64 sq, .int .i64 la, .slice a n cap, .string t] 24))) := (Below.refl _ _).alloc (Nat.le_refl _) _
  have HS := Lib.hid (SBox.start w si cl sq la a n cap t 24)
  unfold shV
  go_enter Tryz.func4, Tryz.ntmps4
  go_wp2_with fail
  generalize w.alloc (.cells #[.int .i64 si, .int .i64 cl, .int .i64 sq, .int .i64 la, .slice a n cap, .string t] 24) = W0 at *
  refine (szWriteS_any a n cap left ws _ h0 h1 hm HN.out (H.out.below HB.out)).mono ?_
  rintro e w1 ⟨r, rfl, hr, hb⟩
  have HB1 := Lib.hid (below_step HB.out HB.out.size hb)
  have HS1 := Lib.hid (HS.out.below hb)
  clear hb HB HS
  rcases hr with rfl | ⟨r0, hr⟩
  · go_wp2
    go_ret
    exact ⟨_, rfl, .inl rfl, HB1.out⟩
  · have c5 := HS1.out.c5
    have HR := Lib.hid hr
    have hr1 : r ≤ 1048576 := by omega
    clear hr
    by_cases hlt : r - (t.size : Int) < 0
    · have w1' : IntKind.i64.wrap (r - (t.size : Int)) = r - (t.size : Int) := IntWalk.i64_in _ (by omega)
      go_wp2
      go_ret
      exact ⟨_, rfl, .inl rfl, HB1.out⟩
    · have w1' : IntKind.i64.wrap (r - (t.size : Int)) = r - (t.size : Int) := IntWalk.i64_in _ (by omega)
      go_wp2
      go_ret
      exact ⟨r - (t.size : Int), rfl, .inr ⟨by omega, by have := HR.out; omega⟩, HB1.out⟩

set_option maxRecDepth 100000 in
set_option maxHeartbeats 2000000 in
theorem eqShim_same (si cl sq la : Int) (a a' : Option Addr) (n cap cap' : Nat) (t : ByteArray) (ws : List Wr) (w : World) (hn : ws.length = n) (hm : n ≤ 1048576) (hx : Few ws) (h : IsWs w a ws) (h' : IsWs w a' ws) :
    Calls Tryz.prog 9 #[shV si cl sq la a n cap t, shV si cl sq la a' n cap' t] w fun e w' => e = .returned (.bool true) ∧ Below w.heap.size w w' := by
  have H := Lib.hid h
  have H' := Lib.hid h'
  have HN := Lib.hid hn
  have HX := Lib.hid hx
  clear h h' hn hx
  have HB : Hid (Below w.heap.size w ((w.alloc (.cells #[.int .i64 si, .int .i64 cl, .int .i64 sq, .int .i64 la, .slice a n cap, .string t] 29)).alloc (.cells #[.int .i64 si, .int .i64 cl, .int .i64 sq, .int .i64 la, .slice a' n cap', .string t] 29))) := ((Below.refl _ _).alloc (Nat.le_refl _) _).alloc (by simp) _
  have HS' := Lib.hid (SBox.start (w.alloc (.cells #[.int .i64 si, .int .i64 cl, .int .i64 sq, .int .i64 la, .slice a n cap, .string t] 29)) si cl sq la a' n cap' t 29)
  have HS := Lib.hid ((SBox.start w si cl sq la a n cap t 29).below ((Below.refl _ _).alloc (Nat.le_refl _) (.cells #[.int .i64 si, .int .i64 cl, .int .i64 sq, .int .i64 la, .slice a' n cap', .string t] 29)))
  have hz : (w.alloc (.cells #[.int .i64 si, .int .i64 cl, .int .i64 sq, .int .i64 la, .slice a n cap, .string t] 29)).heap.size = w.heap.size + 1 := by simp
  rw [hz] at HS'
  clear hz
  unfold shV
  go_enter Tryz.func9, Tryz.ntmps9
  go_wp2_with fail
  generalize (w.alloc (.cells #[.int .i64 si, .int .i64 cl, .int .i64 sq, .int .i64 la, .slice a n cap, .string t] 29)).alloc (.cells #[.int .i64 si, .int .i64 cl, .int .i64 sq, .int .i64 la, .slice a' n cap', .string t] 29) = W0 at *
  refine (eqWriteS_gen _ _ n _ _ ws _ HN.out hm HX.out (H.out.below HB.out) (H'.out.below HB.out)).mono ?_
  rintro e w1 ⟨rfl, hb⟩
  have HB1 := Lib.hid (below_step HB.out HB.out.size hb)
  have HS1 := Lib.hid (HS.out.below hb)
  have HS1' := Lib.hid (HS'.out.below hb)
  clear hb HB HS HS'
  have c5 := HS1.out.c5
  have d5 := HS1'.out.c5
  go_wp2
  go_ret
  exact ⟨rfl, HB1.out⟩

end Go.Proofs.YtbbmpfkijhhemabGreatDoor

/- The number's text of the specification: spec.NumText gives the decimal numeral. -/
namespace Go.Proofs.YtbbmpfkijhhemabGreatDoor
open Go.ChangeShapes Go.WideShapes Go.ChangeAt Go.RowKit Go.Joins

def dgs (k : Int) : List UInt8 := if k = 0 then [] else Lib.decDigits k.natAbs

theorem dgs_step (k : Int) (hk : k ≠ 0) (acc : List UInt8) : dgs (k.tdiv 10) ++ (UInt8.ofNat (48 + k.natAbs % 10) :: acc) = dgs k ++ acc := by
  have hq : (k.tdiv 10).natAbs = k.natAbs / 10 := by rw [Int.natAbs_tdiv]; rfl
  unfold dgs
  rw [if_neg hk]
  by_cases h : k.natAbs < 10
  · have h0 : k.tdiv 10 = 0 := by
      have : (k.tdiv 10).natAbs = 0 := by rw [hq]; omega
      omega
    rw [if_pos h0, Lib.decDigits_one h, Nat.mod_eq_of_lt h]
    rfl
  · have h0 : k.tdiv 10 ≠ 0 := by intro e; rw [e] at hq; simp at hq; omega
    rw [if_neg h0, hq]
    conv => rhs; rw [Lib.decDigits, dif_neg h]
    simp

/-- A row of bytes of the call's own. -/
structure OwnBytes (w : World) (base g cap : Nat) (bs : List UInt8) : Prop where
  le : base ≤ g
  lt : g < w.heap.size
  own : w.ownsRow base 5 1 (.slice (some ⟨g, 0, none⟩) bs.length cap) bs.length (Lib.byteCells bs)

theorem infoByte : (Tryz.prog.info? 5).map (fun i => (i.zero, i.size, i.bytes)) = some (some (.int .u8 0), 1, 1) := by kernel_rfl

theorem ownb_start (w : World) (base : Nat) (hb : base ≤ w.heap.size) : OwnBytes (w.alloc (.cells #[] 5)) base w.heap.size 0 [] :=
  ⟨hb, by simp, World.ownsRow_made w #[] 0 hb (by simp [maxLen]) (by simp)⟩

theorem ownb_cells {w : World} {base g cap : Nat} {bs : List UInt8} (h : OwnBytes w base g cap bs) : ∀ j u, (Lib.byteCells bs)[j]? = some u → w.cell? ((⟨g, 0, none⟩ : Addr).add j) = some u :=
  h.own.cells (g := g) rfl

theorem own_one (w : World) (base : Nat) (x : Value) (hb : base ≤ w.heap.size) : (w.alloc (.cells #[x] 5)).ownsRow base 5 1 (.slice (some ⟨w.heap.size, 0, none⟩) 1 1) 1 [x] :=
  ⟨by simp, .inr ⟨w.heap.size, 1, #[x], rfl, hb, heap_alloc_new w _, Nat.le_refl _, by simp [maxLen], by simp, by simp⟩⟩

theorem bcons (x : UInt8) (acc : List UInt8) : Lib.byteCells (x :: acc) = [Value.int .u8 x.toNat] ++ Lib.byteCells acc := by simp [Lib.byteCells]

theorem blen (acc : List UInt8) : (Lib.byteCells acc).length = acc.length := by simp [Lib.byteCells]

theorem bone (acc : List UInt8) : ∀ u ∈ Lib.byteCells acc, u.oneCell' = true := by
  intro u hu
  simp only [Lib.byteCells, List.mem_map] at hu
  obtain ⟨b, _, rfl⟩ := hu
  rfl

/-- Behind 'append([]byte{x}, out...)'. -/
theorem ownb_cons {w wr w5 : World} {base : Nat} {acc : List UInt8} {x : UInt8} {z : Int} {v' : Value} (hz : z = x.toNat) (hb : base ≤ wr.heap.size) (hB : Below base w wr)
    (hown : w5.ownsRow base 5 1 v' (1 + acc.length) ([Value.int .u8 z] ++ Lib.byteCells acc)) (hgrow : (wr.alloc (.cells #[.int .u8 z] 5)).grownBy w5 (some wr.heap.size)) :
    ∃ g cp, v' = .slice (some ⟨g, 0, none⟩) (x :: acc).length cp ∧ OwnBytes w5 base g cp (x :: acc) ∧ Below base w w5 := by
  subst hz
  obtain ⟨g, cap, rfl, hle, hlt⟩ := hown.form (by omega)
  have e : (x :: acc).length = 1 + acc.length := by simp; omega
  refine ⟨g, cap, by rw [e], ⟨hle, hlt, by rw [e, bcons]; exact hown⟩, ?_⟩
  exact (hB.alloc hb _).grown hgrow (by simp; omega) (fun k hk => by injection hk with hk; omega)

theorem dig_u8 (k : Int) (z : Int) (hz : z = k.tmod 10 ∨ z = -k.tmod 10) (hz0 : 0 ≤ z) :
    wrap64 (48 + z) % 256 = ((UInt8.ofNat (48 + k.natAbs % 10)).toNat : Int) := by
  have e : z = ((k.natAbs % 10 : Nat) : Int) := by
    have h1 : (k.tmod 10).natAbs = k.natAbs % 10 := by rw [Int.natAbs_tmod]; rfl
    omega
  have h10 : k.natAbs % 10 < 10 := Nat.mod_lt _ (by omega)
  rw [e]
  unfold wrap64
  simp only [UInt8.toNat_ofNat']
  omega

theorem text_of (n : Int) (acc : List UInt8) (h : dgs 0 ++ acc = Lib.decDigits n.natAbs) : (¬ n < 0 → acc = Lib.itoa n) ∧ (n < 0 → 45 :: acc = Lib.itoa n) := by
  have e : acc = Lib.decDigits n.natAbs := by simpa [dgs] using h
  unfold Lib.itoa
  constructor
  · intro hh
    rw [if_neg hh, e]
    congr 1
    omega
  · intro hh
    rw [if_pos hh, e]

theorem acc_le (n k : Int) (acc : List UInt8) (h0 : -9223372036854775808 ≤ n) (h1 : n ≤ 9223372036854775807) (h : dgs k ++ acc = Lib.decDigits n.natAbs) : acc.length ≤ 21 := by
  have h2 := Lib.itoa_length_le n h0 h1
  have h3 : (Lib.decDigits n.natAbs).length ≤ (Lib.itoa n).length := by
    unfold Lib.itoa
    split
    · simp
    · have : n.natAbs = n.toNat := by omega
      rw [this]
      exact Nat.le_refl _
  have h4 := congrArg List.length h
  rw [List.length_append] at h4
  omega

set_option maxRecDepth 100000 in
set_option maxHeartbeats 4000000 in
theorem specNum (n : Int) (w : World) (h0 : -9223372036854775808 ≤ n) (h1 : n ≤ 9223372036854775807) :
    Calls Tryz.prog 99 #[.int .i64 n] w fun e w' => e = .returned (.string ⟨(Lib.itoa n).toArray⟩) ∧ Below w.heap.size w w' := by
  go_enter Tryz.func99, Tryz.ntmps99
  by_cases hn : n = 0
  · subst hn
    have e0 : (Lib.itoa 0).toArray = #[48] := by decide +kernel
    rw [e0]
    go_wp2
    go_ret
    exact ⟨rfl, Below.refl _ _⟩
  obtain ⟨i0, hi0, hz0, hz1, hz2⟩ := info_parts infoByte
  have HI0 : Hid (Tryz.prog.info? 5 = some i0) := hi0
  have HZ0 : Hid (i0.zero = some (.int .u8 0)) := hz0
  have HZ1 : Hid (i0.size = 1) := hz1
  have HZ2 : Hid (i0.bytes = 1) := hz2
  clear hi0 hz0 hz1 hz2
  have hn' : (n == 0) = false := by simp [hn]
  go_wp2
  go_loopw [3, 4] (fun o m wr => ∃ (k : Int) (g cp : Nat) (acc : List UInt8), m = .int .i64 k ∧ o = .slice (some ⟨g, 0, none⟩) acc.length cp ∧ -9223372036854775808 ≤ k ∧ k ≤ 9223372036854775807 ∧ Hid (dgs k ++ acc = Lib.decDigits n.natAbs) ∧ Hid (OwnBytes wr w.heap.size g cp acc) ∧ Hid (Below w.heap.size w wr)) (fun _ m _ => (intOf m).natAbs)
  case atStart => exact ⟨n, w.heap.size, 0, [], rfl, rfl, h0, h1, by simp [Hid, dgs, hn], ownb_start w _ (Nat.le_refl _), (Below.refl _ _).alloc (Nat.le_refl _) _⟩
  case round =>
    obtain ⟨k, g, cp, acc, rfl, rfl, k0, k1, HD, HO, HB⟩ := hrel
    have hacc : acc.length ≤ 21 := acc_le n k acc h0 h1 HD.out
    have hsz : w.heap.size ≤ wr.heap.size := HB.out.size
    by_cases hk : k = 0
    · subst hk
      have ht := text_of n acc HD.out
      by_cases hneg : n < 0
      · have HT : Hid (45 :: acc = Lib.itoa n) := ht.2 hneg
        clear ht
        go_wp2_with (at_builtin; refine wpList_append_own _ (by rfl) _ _ _ (by rfl) w.heap.size 5 i0 _ 1 1 Tryz.underlying164 HI0.out HZ0.out HZ1.out HZ2.out (by rfl) (by omega) (.slice (some ⟨wr.heap.size, 0, none⟩) 1 1) 1 [.int .u8 45] (by rfl) (own_one wr _ _ hsz) ⟨g, 0, none⟩ acc.length cp (Lib.byteCells acc) (by rfl) (by rw [blen, Nat.mul_one]) ((HO.out.own.alloc _).cells (g := g) rfl) (bone acc) (by unfold maxLen; omega) (by omega) (by simp; omega) ?_; intro v' w5 hown hgrow _; refine Hid.out ?_)
        refine Lib.hid ?_
        obtain ⟨g', cp', rfl, hO5, hB5⟩ := ownb_cons (x := 45) (by rfl) hsz HB.out hown hgrow
        obtain ⟨l, hl⟩ : ∃ l, l = Lib.itoa n := ⟨_, rfl⟩
        have HL : Hid (l = Lib.itoa n) := hl
        rw [HT.out, ← hl] at hO5 ⊢
        have hcv := run_convert_bytes_back (P := Tryz.prog) w5 164 9 5 ⟨g', 0, none⟩ cp' l Tryz.underlying164 Tryz.underlying5 Tryz.underlying9 (fun j hj => ownb_cells hO5 j _ (by simp [Lib.byteCells, hj]))
        have HB5 : Hid (Below w.heap.size w w5) := hB5
        clear hown hgrow hO5 hB5 hl HT
        go_wp2
        go_ret
        have hl := HL.out
        subst hl
        exact ⟨rfl, HB5.out⟩
      · have HT : Hid (acc = Lib.itoa n) := ht.1 hneg
        clear ht
        have hcv := run_convert_bytes_back (P := Tryz.prog) wr 164 9 5 ⟨g, 0, none⟩ cp acc Tryz.underlying164 Tryz.underlying5 Tryz.underlying9 (fun j hj => ownb_cells HO.out j _ (by simp [Lib.byteCells, hj]))
        go_wp2
        go_ret
        have hl := HT.out
        subst hl
        exact ⟨rfl, HB.out⟩
    · have hk' : (k == 0) = false := by simp [hk]
      have hst := dgs_step k hk acc
      have HD5 : Hid (dgs (k.tdiv 10) ++ (UInt8.ofNat (48 + k.natAbs % 10) :: acc) = Lib.decDigits n.natAbs) := hst.trans HD.out
      clear hst
      have q0 : (k.tdiv 10).natAbs = k.natAbs / 10 := by rw [Int.natAbs_tdiv]; rfl
      by_cases hd : k.tmod 10 < 0
      · have w1 : wrap64 (-k.tmod 10) = -k.tmod 10 := by have := Int.lt_tmod_of_pos k (show (0:Int) < 10 by omega); unfold wrap64; omega
        have hu := dig_u8 k (-k.tmod 10) (.inr rfl) (by omega)
        have HU : Hid (wrap64 (48 + -k.tmod 10) % 256 = ((UInt8.ofNat (48 + k.natAbs % 10)).toNat : Int)) := hu
        clear hu
        go_wp2_with (at_builtin; refine wpList_append_own _ (by rfl) _ _ _ (by rfl) w.heap.size 5 i0 _ 1 1 Tryz.underlying164 HI0.out HZ0.out HZ1.out HZ2.out (by rfl) (by omega) (.slice (some ⟨wr.heap.size, 0, none⟩) 1 1) 1 [_] (by rfl) (own_one wr _ _ hsz) ⟨g, 0, none⟩ acc.length cp (Lib.byteCells acc) (by rfl) (by rw [blen, Nat.mul_one]) ((HO.out.own.alloc _).cells (g := g) rfl) (bone acc) (by unfold maxLen; omega) (by omega) (by simp; omega) ?_; intro v' w5 hown hgrow _; refine Hid.out ?_)
        refine Lib.hid ?_
        obtain ⟨g', cp', rfl, hO5, hB5⟩ := ownb_cons HU.out hsz HB.out hown hgrow
        have HO5 : Hid (OwnBytes w5 w.heap.size g' cp' (UInt8.ofNat (48 + k.natAbs % 10) :: acc)) := hO5
        have HB5 : Hid (Below w.heap.size w w5) := hB5
        clear hown hgrow hO5 hB5
        go_wp2
        exact ⟨⟨k.tdiv 10, g', cp', _, rfl, rfl, by omega, by omega, HD5, HO5, HB5⟩, (show (k.tdiv 10).natAbs < k.natAbs by omega)⟩
      · have hu := dig_u8 k (k.tmod 10) (.inl rfl) (by omega)
        have HU : Hid (wrap64 (48 + k.tmod 10) % 256 = ((UInt8.ofNat (48 + k.natAbs % 10)).toNat : Int)) := hu
        clear hu
        go_wp2_with (at_builtin; refine wpList_append_own _ (by rfl) _ _ _ (by rfl) w.heap.size 5 i0 _ 1 1 Tryz.underlying164 HI0.out HZ0.out HZ1.out HZ2.out (by rfl) (by omega) (.slice (some ⟨wr.heap.size, 0, none⟩) 1 1) 1 [_] (by rfl) (own_one wr _ _ hsz) ⟨g, 0, none⟩ acc.length cp (Lib.byteCells acc) (by rfl) (by rw [blen, Nat.mul_one]) ((HO.out.own.alloc _).cells (g := g) rfl) (bone acc) (by unfold maxLen; omega) (by omega) (by simp; omega) ?_; intro v' w5 hown hgrow _; refine Hid.out ?_)
        refine Lib.hid ?_
        obtain ⟨g', cp', rfl, hO5, hB5⟩ := ownb_cons HU.out hsz HB.out hown hgrow
        have HO5 : Hid (OwnBytes w5 w.heap.size g' cp' (UInt8.ofNat (48 + k.natAbs % 10) :: acc)) := hO5
        have HB5 : Hid (Below w.heap.size w w5) := hB5
        clear hown hgrow hO5 hB5
        go_wp2
        exact ⟨⟨k.tdiv 10, g', cp', _, rfl, rfl, by omega, by omega, HD5, HO5, HB5⟩, (show (k.tdiv 10).natAbs < k.natAbs by omega)⟩
end Go.Proofs.YtbbmpfkijhhemabGreatDoor

/- The specification's texts of lists of numbers: l01Nums, l01TagNums, l01Bit. -/
namespace Go.Proofs.YtbbmpfkijhhemabGreatDoor
open Go.ChangeShapes Go.WideShapes Go.ChangeAt Go.RowKit Go.Joins

def numsText (ns : List Int) : List UInt8 := ns.flatMap fun n => 32 :: Lib.itoa n

def HoldsInts (w : World) (b o : Nat) (ns : List Int) : Prop := ∀ i, i < ns.length → w.cell? ⟨b, o + i, none⟩ = some (.int .i64 (ns.getD i 0))

theorem HoldsInts.below {w w' : World} {B b o : Nat} {ns : List Int} (h : HoldsInts w b o ns) (hb : Below B w w') (hB : b < B) : HoldsInts w' b o ns :=
  fun i hi => (hb.cell (p := ⟨b, o + i, none⟩) hB).trans (h i hi)

def Ints64 (ns : List Int) : Prop := ∀ i, i < ns.length → -9223372036854775808 ≤ ns.getD i 0 ∧ ns.getD i 0 ≤ 9223372036854775807

def bitI (de : Bool) : Int := if de then 1 else 0

theorem bitI_any (de : Bool) (w : World) : Calls Tryz.prog 63 #[.bool de] w fun e w' => e = .returned (.int .i64 (bitI de)) ∧ w' = w := by
  go_enter Tryz.func63, Tryz.ntmps63
  cases de
  · go_wp2
    go_ret
    exact ⟨rfl, rfl⟩
  · go_wp2
    go_ret
    exact ⟨rfl, rfl⟩

theorem nums_take (ns : List Int) (j : Nat) (h : j < ns.length) : numsText (ns.take (j + 1)) = numsText (ns.take j) ++ (32 :: Lib.itoa (ns.getD j 0)) := by
  unfold numsText
  rw [List.take_add_one, List.getElem?_eq_getElem h, List.flatMap_append]
  simp [List.getD, h]

theorem nums_len (ns : List Int) (h : Ints64 ns) : ∀ j, j ≤ ns.length → (numsText (ns.take j)).length ≤ 22 * j
  | 0, _ => by simp [numsText]
  | j + 1, hj => by
    rw [nums_take ns j (by omega), List.length_append, List.length_cons]
    have := nums_len ns h j (by omega)
    have hb := h j (by omega)
    have := Lib.itoa_length_le _ hb.1 hb.2
    omega

/-- A text as Go's string. -/
def str (l : List UInt8) : ByteArray := ⟨l.toArray⟩

theorem str_size (l : List UInt8) : (str l).size = l.length := by simp [str, ByteArray.size]

theorem str_add (a b : List UInt8) : str a ++ str b = str (a ++ b) := by
  apply ByteArray.ext
  simp [str]

theorem specNum' (n : Int) (w : World) (h : -9223372036854775808 ≤ n ∧ n ≤ 9223372036854775807) :
    Calls Tryz.prog 99 #[.int .i64 n] w fun e w' => e = .returned (.string (str (Lib.itoa n))) ∧ Below w.heap.size w w' := specNum n w h.1 h.2

set_option maxRecDepth 100000 in
set_option maxHeartbeats 4000000 in
theorem nums_any (b o cap : Nat) (ns : List Int) (w : World) (hn : ns.length ≤ 100) (h64 : Ints64 ns) (hlt : b < w.heap.size) (hh : HoldsInts w b o ns) :
    Calls Tryz.prog 109 #[.slice (some ⟨b, o, none⟩) ns.length cap] w fun e w' => e = .returned (.string (str (numsText ns))) ∧ Below w.heap.size w w' := by
  have HH : Hid (HoldsInts w b o ns) := hh
  have HI : Hid (Ints64 ns) := h64
  clear hh h64
  go_enter Tryz.func109, Tryz.ntmps109
  go_wp2
  go_loopw [3, 4] (fun t i wr => ∃ (j : Nat) (acc : ByteArray), j ≤ ns.length ∧ i = .int .i64 j ∧ t = .string acc ∧ acc.size ≤ 2200 ∧ Hid (acc = str (numsText (ns.take j))) ∧ Hid (Below w.heap.size w wr)) (fun _ i _ => ns.length - (intOf i).toNat)
  case atStart => exact ⟨0, str [], by omega, rfl, rfl, by simp [str_size], rfl, Below.refl _ _⟩
  case round =>
    obtain ⟨j, acc, hj, rfl, rfl, hsz, HA, HB⟩ := hrel
    by_cases hj' : j < ns.length
    · have i1 : (j : Int) < (ns.length : Int) := by omega
      have c1 := (HH.out.below HB.out hlt) j hj'
      have hb := HI.out j hj'
      have e1 : ns.getD j 0 = ns[j] := by simp [List.getD, hj']
      rw [e1] at c1 hb
      obtain ⟨x, HX⟩ : ∃ x, Hid (x = ns[j]) := ⟨ns[j], Lib.hid rfl⟩
      rw [← HX.out] at c1 hb
      go_wp2_with fail
      refine (specNum' x _ hb).mono ?_
      rintro e w1 ⟨rfl, hb1⟩
      have hsz1 : (str (Lib.itoa x)).size ≤ 21 := by rw [str_size]; exact Lib.itoa_length_le _ hb.1 hb.2
      obtain ⟨r, HR⟩ : ∃ r, Hid (r = str (Lib.itoa x)) := ⟨_, Lib.hid rfl⟩
      rw [← HR.out] at hsz1 ⊢
      have HB1 : Hid (Below w.heap.size w w1) := below_step HB.out HB.out.size hb1
      clear hb1
      go_wp2
      have hnew : acc ++ ⟨#[32]⟩ ++ r = str (numsText (ns.take (j + 1))) := by
        rw [HA.out, HR.out, nums_take ns j hj', e1, ← HX.out, show (⟨#[32]⟩ : ByteArray) = str [32] from rfl, str_add, str_add, List.append_assoc]
        rfl
      have hlen : (acc ++ ⟨#[32]⟩ ++ r).size ≤ 2200 := by
        rw [hnew, str_size]
        have := nums_len ns HI.out (j + 1) (by omega)
        omega
      exact ⟨⟨j + 1, _, by omega, by go_num, rfl, hlen, hnew, HB1⟩, by simp [intOf]; omega⟩
    · have hjn : j = ns.length := by omega
      subst hjn
      go_wp2
      go_ret
      rw [HA.out, List.take_length]
      exact ⟨rfl, HB.out⟩

theorem holds_ints_block {w : World} {g t : Nat} {cs : Array Value} {fr : Nat × Nat} {ns : List Int} (hb : w.heap[g]? = some (.cells cs t fr)) (hc : cs = (ns.map (Value.int .i64)).toArray) : HoldsInts w g 0 ns := by
  intro i hi
  subst hc
  rw [Nat.zero_add, cell_of_row w g i _ t fr hb]
  simp [List.getD, hi]

theorem tagNums_any (c s q : Int) (w : World) :
    Calls Tryz.prog 110 #[tagV c s q] w fun e w' => ∃ g, e = .returned (.slice (some ⟨g, 0, none⟩) 3 3) ∧ w.heap.size ≤ g ∧ g < w'.heap.size ∧ HoldsInts w' g 0 [c, s, q] ∧ Below w.heap.size w w' := by
  go_enter Tryz.func110, Tryz.ntmps110
  go_wp2
  go_ret
  refine ⟨w.heap.size + 1, rfl, by omega, by simp, holds_ints_block (cs := #[.int .i64 c, .int .i64 s, .int .i64 q]) (t := 3) (fr := (0, 0)) ?_ rfl, ((Below.refl _ _).alloc (Nat.le_refl _) _).alloc (by simp) _⟩
  have := heap_alloc_new (w.alloc (.cells #[.int .i64 c, .int .i64 s, .int .i64 q] 40)) (.cells #[.int .i64 c, .int .i64 s, .int .i64 q] 3)
  simpa using this
end Go.Proofs.YtbbmpfkijhhemabGreatDoor

/- The text of a write, by the specification. -/
namespace Go.Proofs.YtbbmpfkijhhemabGreatDoor
open Go.ChangeShapes Go.WideShapes Go.ChangeAt Go.RowKit Go.Joins

def depText (d : Dp) : List UInt8 := numsText [d.k] ++ numsText [d.c, d.s, d.q]

def headText (k c s q v : Int) (de : Bool) (n : Nat) : List UInt8 := 119 :: (numsText [k] ++ (numsText [c, s, q] ++ numsText [v, bitI de, n]))

def writeText (k c s q v : Int) (de : Bool) (xs : List Dp) : List UInt8 := if writeOkB k c s q v de xs then headText k c s q v de xs.length ++ xs.flatMap depText else []

/-- Numbers of one's own, in a row: what is known of its slice. -/
def IntsFact (ns : List Int) : Fact := fun v w => ∃ g, v = .slice (some ⟨g, 0, none⟩) ns.length ns.length ∧ g < w.heap.size ∧ HoldsInts w g 0 ns

theorem lasts_ints (ns : List Int) : lasts (fun w w' => Below w.heap.size w w') (IntsFact ns) := by
  rintro v w w' ⟨g, hv, hg, hh⟩ hb
  exact ⟨g, hv, Nat.lt_of_lt_of_le hg hb.size, hh.below hb hg⟩

theorem ints_new {w : World} {t : Nat} (ns : List Int) : IntsFact ns (.slice (some ⟨w.heap.size, 0, none⟩) ns.length ns.length) (w.alloc (.cells (ns.map (Value.int .i64)).toArray t)) :=
  ⟨_, rfl, by simp, holds_ints_block (heap_alloc_new w _) rfl⟩

theorem nums_fact {ns : List Int} {v : Value} {w : World} (h : IntsFact ns v w) (hn : ns.length ≤ 100) (h64 : Ints64 ns) :
    Calls Tryz.prog 109 #[v] w fun e w' => e = .returned (.string (str (numsText ns))) ∧ Below w.heap.size w w' := by
  obtain ⟨g, rfl, hg, hh⟩ := h
  exact nums_any g 0 _ ns w hn h64 hg hh

theorem tagNums_fact (c s q : Int) (w : World) :
    Calls Tryz.prog 110 #[tagV c s q] w fun e w' => ∃ v, e = .returned v ∧ Below w.heap.size w w' ∧ IntsFact [c, s, q] v w' := by
  refine (tagNums_any c s q w).mono ?_
  rintro e w' ⟨g, rfl, _, hg, hh, hb⟩
  exact ⟨_, rfl, hb, g, rfl, hg, hh⟩

theorem nums_size (ns : List Int) (h : Ints64 ns) : (str (numsText ns)).size ≤ 22 * ns.length := by
  rw [str_size]
  have := nums_len ns h ns.length (Nat.le_refl _)
  rwa [List.take_length] at this

theorem ok_parts {k c s q v : Int} {de : Bool} {xs : List Dp} (h : writeOkB k c s q v de xs = true) : btw k 0 5 = true ∧ tagOkB c s q = true ∧ valOkB v de = true ∧ depsOkB xs = true ∧ aheadAll xs c s q = true := by
  simp only [writeOkB, Bool.and_eq_true] at h
  exact ⟨h.1, h.2.1, h.2.2.1, h.2.2.2.1, h.2.2.2.2⟩

theorem ints1 {a : Int} (ha : -9223372036854775808 ≤ a ∧ a ≤ 9223372036854775807) : Ints64 [a] := by
  intro i hi
  match i, hi with
  | 0, _ => exact ha

theorem ints3 {a b c : Int} (ha : -9223372036854775808 ≤ a ∧ a ≤ 9223372036854775807) (hb : -9223372036854775808 ≤ b ∧ b ≤ 9223372036854775807) (hc : -9223372036854775808 ≤ c ∧ c ≤ 9223372036854775807) : Ints64 [a, b, c] := by
  intro i hi
  match i, hi with
  | 0, _ => exact ha
  | 1, _ => exact hb
  | 2, _ => exact hc

theorem btw_bounds {a lo hi : Int} (h : btw a lo hi = true) : lo ≤ a ∧ a ≤ hi := by simpa [btw] using h

theorem ints_tag {c s q : Int} (h : tagOkB c s q = true) : Ints64 [c, s, q] := by
  have := tagOk_bounds h
  exact ints3 (by omega) (by omega) (by omega)

theorem ints_key {k : Int} (h : btw k 0 5 = true) : Ints64 [k] := by
  have := btw_bounds h
  exact ints1 (by omega)

theorem ints_rest {v : Int} {de : Bool} {n : Nat} (h : valOkB v de = true) (hn : n ≤ 1048576) : Ints64 [v, bitI de, (n : Int)] := by
  have := btw_bounds (val_btw h)
  have hb : 0 ≤ bitI de ∧ bitI de ≤ 1 := by cases de <;> simp [bitI]
  exact ints3 (by omega) (by omega) (by omega)

theorem dep_key {xs : List Dp} (h : depsOkB xs = true) {i : Nat} (hi : i < xs.length) : btw (xs.getD i dz).k 0 5 = true := by
  unfold depsOkB at h
  have := List.all_eq_true.1 h i (List.mem_range.2 hi)
  simp only [depGood, Bool.and_eq_true] at this
  exact this.1

theorem dep_cells4 {w w' : World} {g : Nat} {xs : List Dp} (h : HoldsDeps w g 0 xs) (hb : Below w.heap.size w w') (hg : g < w.heap.size) {j : Nat} (hj : j < xs.length) :
    w'.cell? ⟨g, j * 4, none⟩ = some (.int .i64 (xs.getD j dz).k) ∧ w'.cell? ⟨g, j * 4 + 1, none⟩ = some (.int .i64 (xs.getD j dz).c) ∧ w'.cell? ⟨g, j * 4 + 2, none⟩ = some (.int .i64 (xs.getD j dz).s) ∧ w'.cell? ⟨g, j * 4 + 3, none⟩ = some (.int .i64 (xs.getD j dz).q) := by
  have := (h.below hb hg) j hj
  rw [Nat.zero_add] at this
  exact this

theorem deps_take (xs : List Dp) (j : Nat) (h : j < xs.length) : (xs.take (j + 1)).flatMap depText = (xs.take j).flatMap depText ++ depText (xs.getD j dz) := by
  rw [List.take_add_one, List.getElem?_eq_getElem h, List.flatMap_append]
  simp [List.getD, h]

/-- Dependencies from a block's begin on, or none. -/
def Deps0 (w : World) (a : Option Addr) (xs : List Dp) : Prop := xs = [] ∨ ∃ g, a = some ⟨g, 0, none⟩ ∧ g < w.heap.size ∧ HoldsDeps w g 0 xs

theorem Deps0.isDeps {w : World} {a : Option Addr} {xs : List Dp} (h : Deps0 w a xs) : IsDeps w a xs := by
  rcases h with h | ⟨g, h1, h2, h3⟩
  · exact .inl h
  · exact .inr ⟨g, 0, h1, h2, h3⟩

theorem Deps0.get {w : World} {a : Option Addr} {xs : List Dp} (h : Deps0 w a xs) {j : Nat} (hj : j < xs.length) : ∃ g, a = some ⟨g, 0, none⟩ ∧ g < w.heap.size ∧ HoldsDeps w g 0 xs := by
  rcases h with rfl | h
  · simp at hj
  · exact h

set_option maxRecDepth 100000 in
set_option maxHeartbeats 4000000 in
theorem specText_gen (k c s q v : Int) (de : Bool) (ag : Option Addr) (xs : List Dp) (len cap : Nat) (w : World) (hl : xs.length = len) (hn : len ≤ 1048576) (hh : Deps0 w ag xs) :
    Calls Tryz.prog 100 #[wrV k c s q v de ag len cap] w fun e w' => e = .returned (.string (str (writeText k c s q v de xs))) ∧ Below w.heap.size w w' := by
  subst hl
  have HH : Hid (Deps0 w ag xs) := hh
  clear hh
  go_enter Tryz.func100, Tryz.ntmps100
  go_wp2_with fail
  refine (specWriteOk_gen k c s q v de ag xs _ cap _ rfl hn (HH.out.isDeps.below ((Below.refl _ _).alloc (Nat.le_refl _) _))).mono ?_
  rintro e w1 ⟨rfl, hb⟩
  have HX : Hid (BoxIn w w1 k c s q v de ag xs.length cap) := BoxIn.start hb
  clear hb
  cases hok : writeOkB k c s q v de xs
  · have HW : Hid (writeText k c s q v de xs = []) := by simp [writeText, hok, Hid]
    go_wp2
    go_ret
    rw [HW.out]
    exact ⟨rfl, HX.out.below⟩
  · have HW : Hid (writeText k c s q v de xs = headText k c s q v de xs.length ++ xs.flatMap depText) := by simp [writeText, hok, Hid]
    obtain ⟨o1, o2, o3, o4, -⟩ := ok_parts hok
    have i1 : Ints64 [k] := ints_key o1
    have i2 : Ints64 [c, s, q] := ints_tag o2
    have i3 : Ints64 [v, bitI de, (xs.length : Int)] := ints_rest o3 hn
    obtain ⟨t1, HT1⟩ : ∃ t, Hid (t = str (numsText [k])) := ⟨_, Lib.hid rfl⟩
    obtain ⟨t2, HT2⟩ : ∃ t, Hid (t = str (numsText [c, s, q])) := ⟨_, Lib.hid rfl⟩
    obtain ⟨t3, HT3⟩ : ∃ t, Hid (t = str (numsText [v, bitI de, (xs.length : Int)])) := ⟨_, Lib.hid rfl⟩
    have z1 : t1.size ≤ 22 := by rw [HT1.out]; exact nums_size _ i1
    have z2 : t2.size ≤ 66 := by rw [HT2.out]; exact nums_size _ i2
    have z3 : t3.size ≤ 66 := by rw [HT3.out]; exact nums_size _ i3
    go_wp2_with fail
    refine wp_region_slots 22 [[(1, false)], [(8, true)], [(9, true)], [(10, true)], [(11, true)], [(1, false)], [(13, true)], [(14, true)], [(15, true)], [(12, true), (16, true)], [(1, false)], [(18, true)], [(1, false)], [(20, true)], [(21, true)], [(1, false)], [(23, true)], [(24, true)], [(19, true), (22, true), (25, true)], [(26, true)], [(17, true), (27, true)], [(28, true)]] (fun w' => BoxIn w w' k c s q v de ag xs.length cap) (fun w w' => Below w.heap.size w w') (by kernel_rfl) (by kernel_rfl) (by rfl) (HX.out.step (Below.refl _ _).drew) (fun _ _ h hb => h.step hb) ?_
    iterate 2 (apply slot_eq; · (intro ρ w' ⟨p1, p2, p3⟩ ⟨hz, hbl, c0, c1, c2, c3, c4, c5, c6⟩ hn; simp at hn; go_simp; exact ⟨Below.refl _ _, rfl⟩))
    -- its key
    refine slot_fact (IntsFact [k]) (lasts_ints _) ?_ ?_
    · intro ρ w' ⟨p1, p2, p3⟩ ⟨hz, hbl, c0, c1, c2, c3, c4, c5, c6⟩ hn
      simp at hn
      go_simp
      exact ⟨(Below.refl _ _).alloc (Nat.le_refl _) _, ints_new [k]⟩
    apply slot_eq
    · intro ρ w' ⟨p1, p2, p3⟩ ⟨hz, hbl, c0, c1, c2, c3, c4, c5, c6⟩ hn
      simp at hn
      go_simp
      exact got_call (nums_fact hn (by simp) i1) fun e w'' ⟨he, hb⟩ => ⟨_, he, hb, by rw [← HT1.out]⟩
    apply slot_eq
    · intro ρ w' ⟨p1, p2, p3⟩ ⟨hz, hbl, c0, c1, c2, c3, c4, c5, c6⟩ hn
      simp at hn
      go_simp
      rw [if_neg (by omega)]
      exact ⟨Below.refl _ _, rfl⟩
    -- its tag
    iterate 2 (apply slot_eq; · (intro ρ w' ⟨p1, p2, p3⟩ ⟨hz, hbl, c0, c1, c2, c3, c4, c5, c6⟩ hn; simp at hn; go_simp; exact ⟨Below.refl _ _, rfl⟩))
    refine slot_fact (IntsFact [c, s, q]) (lasts_ints _) ?_ ?_
    · intro ρ w' ⟨p1, p2, p3⟩ ⟨hz, hbl, c0, c1, c2, c3, c4, c5, c6⟩ hn
      simp at hn
      go_simp
      exact got_call (tagNums_fact c s q _) fun e w'' h => h
    apply slot_eq
    · intro ρ w' ⟨p1, p2, p3⟩ ⟨hz, hbl, c0, c1, c2, c3, c4, c5, c6⟩ hn
      simp at hn
      go_simp
      exact got_call (nums_fact hn (by simp) i2) fun e w'' ⟨he, hb⟩ => ⟨_, he, hb, by rw [← HT2.out]⟩
    apply slot_eq
    · intro ρ w' ⟨p1, p2, p3⟩ ⟨hz, hbl, c0, c1, c2, c3, c4, c5, c6⟩ hn
      simp at hn
      go_simp
      rw [if_neg (by omega)]
      exact ⟨Below.refl _ _, rfl⟩
    -- its value, whether it is dead, how many deps
    iterate 4 (apply slot_eq; · (intro ρ w' ⟨p1, p2, p3⟩ ⟨hz, hbl, c0, c1, c2, c3, c4, c5, c6⟩ hn; simp at hn; go_simp; exact ⟨Below.refl _ _, rfl⟩))
    apply slot_eq
    · intro ρ w' ⟨p1, p2, p3⟩ ⟨hz, hbl, c0, c1, c2, c3, c4, c5, c6⟩ hn
      simp at hn
      go_simp
      exact got_call (bitI_any de _) fun e w'' ⟨he, hb⟩ => ⟨_, he, by rw [hb]; exact Below.refl _ _, rfl⟩
    iterate 3 (apply slot_eq; · (intro ρ w' ⟨p1, p2, p3⟩ ⟨hz, hbl, c0, c1, c2, c3, c4, c5, c6⟩ hn; simp at hn; go_simp; exact ⟨Below.refl _ _, rfl⟩))
    refine slot_fact (IntsFact [v, bitI de, (xs.length : Int)]) (lasts_ints _) ?_ ?_
    · intro ρ w' ⟨p1, p2, p3⟩ ⟨hz, hbl, c0, c1, c2, c3, c4, c5, c6⟩ hn
      simp at hn
      go_simp
      exact ⟨(Below.refl _ _).alloc (Nat.le_refl _) _, ints_new [v, bitI de, (xs.length : Int)]⟩
    apply slot_eq
    · intro ρ w' ⟨p1, p2, p3⟩ ⟨hz, hbl, c0, c1, c2, c3, c4, c5, c6⟩ hn
      simp at hn
      go_simp
      exact got_call (nums_fact hn (by simp) i3) fun e w'' ⟨he, hb⟩ => ⟨_, he, hb, by rw [← HT3.out]⟩
    apply slot_eq
    · intro ρ w' ⟨p1, p2, p3⟩ ⟨hz, hbl, c0, c1, c2, c3, c4, c5, c6⟩ hn
      simp at hn
      go_simp
      rw [if_neg (by omega)]
      exact ⟨Below.refl _ _, rfl⟩
    iterate 1 (apply slot_eq; · (intro ρ w' ⟨p1, p2, p3⟩ ⟨hz, hbl, c0, c1, c2, c3, c4, c5, c6⟩ hn; simp at hn; go_simp; exact ⟨Below.refl _ _, rfl⟩))
    refine slot_end ?_
    intro vs w2 hS hF
    have HX2 : Hid (BoxIn w w2 k c s q v de ag xs.length cap) := hS
    simp at hF
    obtain ⟨h3, -⟩ := hF
    obtain ⟨t0, HT0⟩ : ∃ t, Hid (t = ⟨#[119]⟩ ++ t1 ++ t2 ++ t3) := ⟨_, Lib.hid rfl⟩
    have z0 : t0.size ≤ 155 := by
      have e1 : (⟨#[119]⟩ : ByteArray).size = 1 := rfl
      rw [HT0.out]
      simp only [ByteArray.size_append]
      omega
    rw [← HT0.out] at h3
    have HE : Hid (t0 = str (headText k c s q v de xs.length)) := by
      have e1 : (⟨#[119]⟩ : ByteArray) = str [119] := rfl
      rw [HT0.out, HT1.out, HT2.out, HT3.out, e1, str_add, str_add, str_add]
      simp [headText, Hid]
    clear hS HT0 HT1 HT2 HT3 z1 z2 z3
    simp only [List.take_succ_cons, List.take_zero, List.drop_succ_cons, List.drop_zero, putAll, h3]
    clear h3
    go_wp2
    go_loopw [3, 4] (fun t i wr => ∃ (j : Nat) (acc : ByteArray), j ≤ xs.length ∧ i = .int .i64 j ∧ t = .string acc ∧ acc.size ≤ 155 + 88 * j ∧ Hid (acc = str (headText k c s q v de xs.length ++ (xs.take j).flatMap depText)) ∧ Hid (BoxIn w wr k c s q v de ag xs.length cap)) (fun _ i _ => xs.length - (intOf i).toNat)
    case atStart => exact ⟨0, t0, by omega, rfl, rfl, by omega, by rw [HE.out]; simp [Hid], HX2⟩
    case round =>
    obtain ⟨j, acc, hj, rfl, rfl, hsz, HA, HX3⟩ := hrel
    have c6 := HX3.out.c6
    by_cases hj' : j < xs.length
    · have j1 : (0 : Int) ≤ (j : Int) := by omega
      have j2 : (j : Int) < (xs.length : Int) := by omega
      obtain ⟨g, rfl, hlt, hhd⟩ := HH.out.get hj'
      have HD : Hid (∀ w', Below w.heap.size w w' → w'.cell? ⟨g, j * 4, none⟩ = some (.int .i64 (xs.getD j dz).k) ∧ w'.cell? ⟨g, j * 4 + 1, none⟩ = some (.int .i64 (xs.getD j dz).c) ∧ w'.cell? ⟨g, j * 4 + 2, none⟩ = some (.int .i64 (xs.getD j dz).s) ∧ w'.cell? ⟨g, j * 4 + 3, none⟩ = some (.int .i64 (xs.getD j dz).q)) := fun w' hb => dep_cells4 hhd hb hlt hj'
      have i4 : Ints64 [(xs.getD j dz).k] := ints_key (dep_key o4 hj')
      have i5 : Ints64 [(xs.getD j dz).c, (xs.getD j dz).s, (xs.getD j dz).q] := ints_tag (depsOk_tag o4 hj')
      have HN : Hid (depText (xs.getD j dz) = numsText [(xs.getD j dz).k] ++ numsText [(xs.getD j dz).c, (xs.getD j dz).s, (xs.getD j dz).q]) := rfl
      generalize (xs.getD j dz).k = x0 at HD HN i4
      generalize (xs.getD j dz).c = x1 at HD HN i5
      generalize (xs.getD j dz).s = x2 at HD HN i5
      generalize (xs.getD j dz).q = x3 at HD HN i5
      obtain ⟨t4, HT4⟩ : ∃ t, Hid (t = str (numsText [x0])) := ⟨_, Lib.hid rfl⟩
      obtain ⟨t5, HT5⟩ : ∃ t, Hid (t = str (numsText [x1, x2, x3])) := ⟨_, Lib.hid rfl⟩
      have z4 : t4.size ≤ 22 := by rw [HT4.out]; exact nums_size _ i4
      have z5 : t5.size ≤ 66 := by rw [HT5.out]; exact nums_size _ i5
      go_wp2_with fail
      refine wp_region_slots 20 [[(3, false)], [(1, false)], [(37, true)], [(4, false)], [(38, true), (39, true)], [(40, true)], [(41, true)], [(42, true)], [(43, true)], [(36, true), (44, true)], [(1, false)], [(46, true)], [(4, false)], [(47, true), (48, true)], [(49, true)], [(50, true)], [(51, true)], [(52, true)], [(45, true), (53, true)], [(54, true)]] (fun w' => BoxIn w w' k c s q v de (some ⟨g, 0, none⟩) xs.length cap) (fun w w' => Below w.heap.size w w') (by kernel_rfl) (by kernel_rfl) (by rfl) (HX3.out.step (Below.refl _ _).drew) (fun _ _ h hb => h.step hb) ?_
      iterate 7 (apply slot_eq; · (intro ρ w' ⟨p1, p2, p3⟩ ⟨hz, hbl, c0, c1, c2, c3, c4, c5, c6⟩ hn; obtain ⟨e0, e1, e2, e3⟩ := HD.out w' hbl; simp at hn; go_simp; exact ⟨Below.refl _ _, rfl⟩))
      refine slot_fact (IntsFact [x0]) (lasts_ints _) ?_ ?_
      · intro ρ w' ⟨p1, p2, p3⟩ ⟨hz, hbl, c0, c1, c2, c3, c4, c5, c6⟩ hn
        simp at hn
        go_simp
        exact ⟨(Below.refl _ _).alloc (Nat.le_refl _) _, ints_new [x0]⟩
      apply slot_eq
      · intro ρ w' ⟨p1, p2, p3⟩ ⟨hz, hbl, c0, c1, c2, c3, c4, c5, c6⟩ hn
        simp at hn
        go_simp
        exact got_call (nums_fact hn (by simp) i4) fun e w'' ⟨he, hb⟩ => ⟨_, he, hb, by rw [← HT4.out]⟩
      apply slot_eq
      · intro ρ w' ⟨p1, p2, p3⟩ ⟨hz, hbl, c0, c1, c2, c3, c4, c5, c6⟩ hn
        simp at hn
        go_simp
        rw [if_neg (by omega)]
        exact ⟨Below.refl _ _, rfl⟩
      iterate 6 (apply slot_eq; · (intro ρ w' ⟨p1, p2, p3⟩ ⟨hz, hbl, c0, c1, c2, c3, c4, c5, c6⟩ hn; obtain ⟨e0, e1, e2, e3⟩ := HD.out w' hbl; simp at hn; go_simp; exact ⟨Below.refl _ _, rfl⟩))
      refine slot_fact (IntsFact [x1, x2, x3]) (lasts_ints _) ?_ ?_
      · intro ρ w' ⟨p1, p2, p3⟩ ⟨hz, hbl, c0, c1, c2, c3, c4, c5, c6⟩ hn
        simp at hn
        go_simp
        exact got_call (tagNums_fact x1 x2 x3 _) fun e w'' h => h
      apply slot_eq
      · intro ρ w' ⟨p1, p2, p3⟩ ⟨hz, hbl, c0, c1, c2, c3, c4, c5, c6⟩ hn
        simp at hn
        go_simp
        exact got_call (nums_fact hn (by simp) i5) fun e w'' ⟨he, hb⟩ => ⟨_, he, hb, by rw [← HT5.out]⟩
      apply slot_eq
      · intro ρ w' ⟨p1, p2, p3⟩ ⟨hz, hbl, c0, c1, c2, c3, c4, c5, c6⟩ hn
        simp at hn
        go_simp
        rw [if_neg (by omega)]
        exact ⟨Below.refl _ _, rfl⟩
      iterate 1 (apply slot_eq; · (intro ρ w' ⟨p1, p2, p3⟩ ⟨hz, hbl, c0, c1, c2, c3, c4, c5, c6⟩ hn; obtain ⟨e0, e1, e2, e3⟩ := HD.out w' hbl; simp at hn; go_simp; exact ⟨Below.refl _ _, rfl⟩))
      refine slot_end ?_
      intro vs w3 hS hF
      have HX4 : Hid (BoxIn w w3 k c s q v de (some ⟨g, 0, none⟩) xs.length cap) := hS
      simp at hF
      obtain ⟨h3, -⟩ := hF
      have HNEW : Hid (acc ++ t4 ++ t5 = str (headText k c s q v de xs.length ++ (xs.take (j + 1)).flatMap depText)) := by
        rw [HA.out, HT4.out, HT5.out, str_add, str_add, deps_take xs j hj', HN.out]
        simp [Hid]
      have hlen : (acc ++ t4 ++ t5).size ≤ 155 + 88 * (j + 1) := by
        simp only [ByteArray.size_append]
        omega
      clear hS HT4 HT5 z4 z5
      simp only [List.take_succ_cons, List.take_zero, List.drop_succ_cons, List.drop_zero, putAll, h3]
      clear h3
      go_wp2
      exact ⟨⟨j + 1, _, by omega, by go_num, rfl, hlen, HNEW, HX4⟩, by simp [intOf]; omega⟩
    · have hjn : j = xs.length := by omega
      subst hjn
      go_wp2
      go_ret
      rw [HW.out, HA.out, List.take_length]
      exact ⟨rfl, HX3.out.below⟩

set_option maxRecDepth 100000 in
theorem specText_any (k c s q v : Int) (de : Bool) (g : Nat) (xs : List Dp) (len cap : Nat) (w : World) (hl : xs.length = len) (hn : len ≤ 1048576) (hlt : g < w.heap.size) (hh : HoldsDeps w g 0 xs) :
    Calls Tryz.prog 100 #[wrV k c s q v de (some ⟨g, 0, none⟩) len cap] w fun e w' => e = .returned (.string (str (writeText k c s q v de xs))) ∧ Below w.heap.size w w' :=
  specText_gen k c s q v de _ xs len cap w hl hn (.inr ⟨g, rfl, hlt, hh⟩)

end Go.Proofs.YtbbmpfkijhhemabGreatDoor

/- The words of a write's text, with no program in sight. -/
namespace Go.Proofs.YtbbmpfkijhhemabGreatDoor
open Go.ChangeShapes Go.WideShapes Go.ChangeAt Go.RowKit Go.Joins

def wordsOf (ns : List Int) : List ByteArray := str [119] :: ns.map fun n => str (Lib.itoa n)

theorem join_words (ns : List Int) : Lib.join ((wordsOf ns).map (·.data.toList)) [32] = 119 :: numsText ns := by
  simp only [wordsOf, List.map_cons, Lib.join_cons, Lib.joinTail, List.map_map]
  simp [str, numsText, List.flatMap, Function.comp_def]

def headNs (k c s q v : Int) (de : Bool) (n : Nat) : List Int := [k, c, s, q, v, bitI de, n]

def depNs (d : Dp) : List Int := [d.k, d.c, d.s, d.q]

theorem text_nums (k c s q v : Int) (de : Bool) (xs : List Dp) (n : Nat) : 119 :: numsText (headNs k c s q v de n ++ xs.flatMap depNs) = headText k c s q v de n ++ xs.flatMap depText := by
  have e : depText = fun d => numsText (depNs d) := by
    funext d
    simp [depText, depNs, numsText]
  rw [e]
  simp [headText, headNs, numsText, List.flatMap_assoc]

end Go.Proofs.YtbbmpfkijhhemabGreatDoor

/- Numerals and their numbers: plain facts. -/
namespace Go.Proofs.YtbbmpfkijhhemabGreatDoor
open Go

/-- The number that digits say. -/
def dval (l : List UInt8) : Nat := l.foldl (fun n d => 10 * n + (d.toNat - 48)) 0

theorem dval_snoc (l : List UInt8) (d : UInt8) : dval (l ++ [d]) = 10 * dval l + (d.toNat - 48) := by
  unfold dval
  rw [List.foldl_append]
  rfl

def Digs (l : List UInt8) : Prop := ∀ d ∈ l, 48 ≤ d.toNat ∧ d.toNat ≤ 57

theorem digs_snoc {l : List UInt8} {d : UInt8} (h : Digs l) (h' : 48 ≤ d.toNat ∧ d.toNat ≤ 57) : Digs (l ++ [d]) := fun x hx => by
  rcases List.mem_append.1 hx with hx | hx
  · exact h x hx
  · have : x = d := by simpa using hx
    rw [this]
    exact h'

theorem one_digit {u : Nat} (h : u < 10) : (UInt8.ofNat (48 + u)).toNat = 48 + u := by
  rw [UInt8.toNat_ofNat']
  omega

theorem dec_snoc {u : Nat} (h : ¬ u < 10) : Lib.decDigits u = Lib.decDigits (u / 10) ++ [UInt8.ofNat (48 + u % 10)] := by
  rw [Lib.decDigits, dif_neg h]

theorem dec_facts : ∀ (k u : Nat), u < 10 ^ (k + 1) → Digs (Lib.decDigits u) ∧ dval (Lib.decDigits u) = u ∧ 1 ≤ (Lib.decDigits u).length ∧ (Lib.decDigits u).length ≤ k + 1
  | k, u, hu => by
    by_cases h : u < 10
    · rw [Lib.decDigits_one h]
      have e := one_digit h
      refine ⟨fun d hd => ?_, ?_, by simp, by simp⟩
      · have : d = UInt8.ofNat (48 + u) := by simpa using hd
        rw [this, e]
        omega
      · show 10 * 0 + ((UInt8.ofNat (48 + u)).toNat - 48) = u
        rw [e]
        omega
    · rw [dec_snoc h]
      have hm : u % 10 < 10 := Nat.mod_lt _ (by omega)
      match k, hu with
      | 0, hu => omega
      | k + 1, hu =>
        obtain ⟨h1, h2, h3, h4⟩ := dec_facts k (u / 10) (by rw [Nat.pow_succ] at hu; omega)
        refine ⟨digs_snoc h1 (by rw [one_digit hm]; omega), ?_, by simp, by simp; omega⟩
        rw [dval_snoc, h2, one_digit hm]
        omega

theorem dval_lt : ∀ (n : Nat) (l : List UInt8), l.length = n → Digs l → dval l < 10 ^ n
  | 0, l, hl, _ => by
    have : l = [] := List.length_eq_zero_iff.1 hl
    rw [this]
    decide
  | n + 1, l, hl, hd => by
    have hne : l ≠ [] := fun e => by rw [e] at hl; simp at hl
    have e := List.dropLast_concat_getLast hne
    have h1 := dval_lt n l.dropLast (by simp [hl]) (fun d h => hd d (List.dropLast_subset l h))
    have h2 := hd (l.getLast hne) (List.getLast_mem hne)
    rw [← e, dval_snoc, Nat.pow_succ]
    omega

/-- What a word says: whether a sign leads it, its digits. -/
def unsigned (bs : List UInt8) : List UInt8 := match bs with
  | 45 :: r => r
  | r => r

theorem itoa_parts {m : Int} (h0 : -100000000000 < m) (h1 : m < 100000000000) : Digs (unsigned (Lib.itoa m)) ∧ dval (unsigned (Lib.itoa m)) = m.natAbs ∧ 1 ≤ (unsigned (Lib.itoa m)).length ∧ (unsigned (Lib.itoa m)).length ≤ 11 ∧ (m < 0 → Lib.itoa m = 45 :: unsigned (Lib.itoa m)) ∧ (0 ≤ m → unsigned (Lib.itoa m) = Lib.itoa m) := by
  have hu : m.natAbs < 10 ^ (10 + 1) := by
    have : (10 : Nat) ^ (10 + 1) = 100000000000 := by decide
    omega
  obtain ⟨f1, f2, f3, f4⟩ := dec_facts 10 m.natAbs hu
  unfold Lib.itoa
  by_cases hm : m < 0
  · rw [if_pos hm]
    exact ⟨f1, f2, f3, f4, fun _ => rfl, fun h => by omega⟩
  · rw [if_neg hm]
    have e : m.toNat = m.natAbs := by omega
    rw [e]
    have hne : unsigned (Lib.decDigits m.natAbs) = Lib.decDigits m.natAbs := by
      unfold unsigned
      split
      · rename_i r he
        have := f1 45 (by rw [he]; simp)
        exact absurd this.1 (by decide)
      · rfl
    rw [hne]
    exact ⟨f1, f2, f3, f4, fun h => absurd h hm, fun _ => rfl⟩

end Go.Proofs.YtbbmpfkijhhemabGreatDoor

/- The contract of spec.l01Num. -/
namespace Go.Proofs.YtbbmpfkijhhemabGreatDoor
open Go.ChangeShapes Go.WideShapes Go.ChangeAt Go.RowKit Go.Joins

/-- What l01Num says of a word: a number, and whether the word is its numeral. -/
def NumSays (s : ByteArray) (n : Int) (b : Bool) : Prop := -100000000000 < n ∧ n < 100000000000 ∧ (b = true → s.data.toList = Lib.itoa n) ∧ ∀ m : Int, -100000000000 < m → m < 100000000000 → s.data.toList = Lib.itoa m → b = true ∧ n = m

theorem take_byte {s : ByteArray} {k : Nat} (h : k < s.size) : s.data.toList.take (k + 1) = s.data.toList.take k ++ [s[k]] := by
  have hl : k < s.data.toList.length := by simpa using h
  rw [List.take_succ_eq_append_getElem hl]
  rfl

theorem mem_byte {s : ByteArray} {k : Nat} (h : k < s.size) : s[k] ∈ s.data.toList := by
  have hl : k < s.data.toList.length := by simpa using h
  exact List.getElem_mem hl

theorem btw_digit (d : UInt8) : btw (d.toNat : Int) 48 57 = true ↔ 48 ≤ d.toNat ∧ d.toNat ≤ 57 := by
  unfold btw
  simp
  omega

/-- What a word's digits T must be for it to be a numeral. -/
def NumOk (neg : Bool) (L T : List UInt8) : Prop := ∀ m : Int, -100000000000 < m → m < 100000000000 → L = Lib.itoa m → (neg = true ↔ m < 0) ∧ Digs T ∧ dval T = m.natAbs ∧ 1 ≤ T.length ∧ T.length ≤ 11

theorem numOk_plain {L : List UInt8} (h : L.head? ≠ some 45) : NumOk false L L := fun m h0 h1 e => by
  obtain ⟨f1, f2, f3, f4, f5, f6⟩ := itoa_parts h0 h1
  by_cases hm : m < 0
  · rw [e, f5 hm] at h
    simp at h
  · have e2 := f6 (by omega)
    rw [e2] at f1 f2 f3 f4
    rw [e]
    exact ⟨by simp; omega, f1, f2, f3, f4⟩

theorem numOk_neg {T : List UInt8} : NumOk true (45 :: T) T := fun m h0 h1 e => by
  obtain ⟨f1, f2, f3, f4, f5, f6⟩ := itoa_parts h0 h1
  by_cases hm : m < 0
  · have e2 := f5 hm
    rw [← e] at e2
    injection e2 with _ e3
    rw [← e, ← e3] at f1 f2 f3 f4
    exact ⟨by simp [hm], f1, f2, f3, f4⟩
  · have e2 := f6 (by omega)
    rw [e2, ← e] at f1
    exact absurd (f1 45 (by simp)).1 (by decide)

def signed (neg : Bool) (n : Nat) : Int := if neg = true then -(n : Int) else n

theorem says_end {s : ByteArray} {neg : Bool} {T : List UInt8} (h : NumOk neg s.data.toList T) (hd : Digs T) (hl : T.length ≤ 11) {b : Bool} (hb : b = true ↔ Lib.itoa (signed neg (dval T)) = s.data.toList) : NumSays s (signed neg (dval T)) b := by
  have hlt : dval T < 100000000000 := by
    have h1 := dval_lt T.length T rfl hd
    have h2 : 10 ^ T.length ≤ 10 ^ 11 := Nat.pow_le_pow_right (by omega) hl
    have h3 : (10 : Nat) ^ 11 = 100000000000 := by decide
    omega
  have hr : -100000000000 < signed neg (dval T) ∧ signed neg (dval T) < 100000000000 := by
    unfold signed
    split <;> omega
  refine ⟨hr.1, hr.2, fun hb' => (hb.1 hb').symm, fun m h0 h1 e => ?_⟩
  obtain ⟨g1, _, g3, _, _⟩ := h m h0 h1 e
  have hm : signed neg (dval T) = m := by
    unfold signed
    rw [g3]
    split
    · rename_i hn
      have := g1.1 hn
      omega
    · rename_i hn
      have : ¬ m < 0 := fun h => hn (g1.2 h)
      omega
  refine ⟨hb.2 ?_, hm⟩
  rw [hm, e]

theorem says_not {s : ByteArray} {neg : Bool} {T : List UInt8} (h : NumOk neg s.data.toList T) (hbad : ¬ (Digs T ∧ 1 ≤ T.length ∧ T.length ≤ 11)) : NumSays s 0 false :=
  ⟨by omega, by omega, fun h => by simp at h, fun m h0 h1 e => by
    obtain ⟨_, g2, _, g4, g5⟩ := h m h0 h1 e
    exact absurd ⟨g2, g4, g5⟩ hbad⟩

theorem btw_len {n : Nat} : btw (n : Int) 1 11 = true ↔ 1 ≤ n ∧ n ≤ 11 := by
  unfold btw
  simp
  omega

set_option maxRecDepth 100000 in
set_option maxHeartbeats 8000000 in
theorem num_plain (s : ByteArray) (w : World) (hs : s.size ≤ 1048576) (h0 : 0 < s.size) (h45 : s[0] ≠ 45) :
    Calls Tryz.prog 83 #[.string s] w fun e w' => ∃ n b, e = .returned (.tuple #[.int .i64 n, .bool b]) ∧ NumSays s n b ∧ Below w.heap.size w w' := by
  have hz : (0 : Int) < (s.size : Int) := by omega
  have h45' : ((s[0].toNat : Int) == 45) = false := by
    simp only [beq_eq_false_iff_ne]
    intro h
    exact h45 (UInt8.toNat_inj.1 (by rw [show s[0].toNat = 45 by omega]; rfl))
  have HNO : Hid (NumOk false s.data.toList s.data.toList) := numOk_plain (by
    have hl : 0 < s.data.toList.length := by simpa using h0
    rw [List.head?_eq_getElem?, List.getElem?_eq_getElem hl]
    intro h
    injection h with h
    exact h45 h)
  cases hb : btw (s.size : Int) 1 11
  · have HS : Hid (NumSays s 0 false) := says_not HNO.out fun h => by
      have := btw_len.2 (by simpa using h.2)
      rw [hb] at this
      cases this
    go_enter Tryz.func83, Tryz.ntmps83
    go_wp2_with fail
    refine (between_any _ _ _ _).mono ?_
    rintro e w ⟨rfl, rfl⟩
    rw [hb]
    go_wp2
    exact bodyPost_ret (v := .tuple #[.int .i64 0, .bool false]) (by simp [results, Tryz.results83, go_sem]) rfl ⟨_, _, rfl, HS.out, Below.refl _ _⟩
  · have hlt := btw_len.1 hb
    go_enter Tryz.func83, Tryz.ntmps83
    go_wp2_with fail
    refine (between_any _ _ _ _).mono ?_
    rintro e w ⟨rfl, rfl⟩
    rw [hb]
    go_wp2
    go_loopw [4, 6] (fun t' i wr => ∃ k : Nat, k ≤ s.size ∧ i = .int .i64 k ∧ t' = .int .i64 (dval (s.data.toList.take k) : Nat) ∧ Hid (Digs (s.data.toList.take k)) ∧ wr = w) (fun _ i _ => s.size - (intOf i).toNat)
    case atStart => exact ⟨0, Nat.zero_le _, rfl, rfl, fun d hd => by simp at hd, rfl⟩
    case round =>
      obtain ⟨k, hk, rfl, rfl, HD, rfl⟩ := hrel
      have hdv : dval (s.data.toList.take k) < 100000000000 := by
        have := dval_lt k _ (by rw [List.length_take]; simp; omega) HD.out
        have h2 : 10 ^ k ≤ 10 ^ 11 := Nat.pow_le_pow_right (by omega) (by omega)
        have h3 : (10 : Nat) ^ 11 = 100000000000 := by decide
        omega
      by_cases hk' : k < s.size
      · have i1 : (0 : Int) ≤ (k : Int) := by omega
        have i2 : (k : Int) < (s.size : Int) := by omega
        have HT := Lib.hid (take_byte hk')
        have HM := Lib.hid (mem_byte hk')
        have hu : s[k].toNat < 256 := UInt8.toNat_lt _
        have hu' : wrap64 (s[k].toNat : Int) = (s[k].toNat : Int) := by unfold wrap64; omega
        cases hd : btw (s[k].toNat : Int) 48 57
        · have HS : Hid (NumSays s 0 false) := says_not HNO.out fun h => by
            have := (btw_digit _).2 (h.1 _ HM.out)
            rw [hd] at this
            cases this
          go_wp2_with fail
          refine (between_any _ _ _ _).mono ?_
          rintro e w ⟨rfl, rfl⟩
          rw [hd]
          go_wp2
          exact bodyPost_ret (v := .tuple #[.int .i64 0, .bool false]) (by simp [results, Tryz.results83, go_sem]) rfl ⟨_, _, rfl, HS.out, Below.refl _ _⟩
        · have hdg := (btw_digit _).1 hd
          have HD2 : Hid (Digs (s.data.toList.take (k + 1))) := by
            rw [HT.out]
            exact Lib.hid (digs_snoc HD.out hdg)
          have HV : Hid (dval (s.data.toList.take (k + 1)) = 10 * dval (s.data.toList.take k) + (s[k].toNat - 48)) := by
            rw [HT.out]
            exact Lib.hid (dval_snoc _ _)
          go_wp2_with fail
          refine (between_any _ _ _ _).mono ?_
          rintro e w ⟨rfl, rfl⟩
          rw [hd]
          go_wp2
          refine ⟨⟨k + 1, hk', rfl, ?_, HD2, trivial⟩, by simp [intOf]; omega⟩
          rw [HV.out]
          congr 1
          omega
      · have hke : k = s.size := by omega
        subst hke
        have etk : s.data.toList.take s.size = s.data.toList := List.take_of_length_le (by simp)
        rw [etk] at HD hdv ⊢
        have HE : Hid (signed false (dval s.data.toList) = (dval s.data.toList : Nat)) := rfl
        go_wp2_with fail
        refine (specNum _ _ (by omega) (by omega)).mono ?_
        rintro e w2 ⟨rfl, hbb⟩
        have HB := Lib.hid hbb
        clear hbb
        go_wp2
        exact bodyPost_ret (v := .tuple #[.int .i64 (dval s.data.toList : Nat), .bool ((⟨(Lib.itoa (dval s.data.toList : Nat)).toArray⟩ : ByteArray).toList == s.toList)]) (by simp [results, Tryz.results83, go_sem]) rfl ⟨_, _, rfl, by
          rw [← HE.out]
          exact says_end HNO.out HD.out (by simpa using hlt.2) (by rw [beq_iff_eq, ByteArray.toList_eq, ByteArray.toList_eq]), HB.out⟩

set_option maxRecDepth 100000 in
set_option maxHeartbeats 8000000 in
theorem num_neg (s : ByteArray) (w : World) (hs : s.size ≤ 1048576) (h0 : 0 < s.size) (h45 : s[0] = 45) :
    Calls Tryz.prog 83 #[.string s] w fun e w' => ∃ n b, e = .returned (.tuple #[.int .i64 n, .bool b]) ∧ NumSays s n b ∧ Below w.heap.size w w' := by
  have hz : (0 : Int) < (s.size : Int) := by omega
  have h45' : ((s[0].toNat : Int) == 45) = true := by
    rw [h45]
    rfl
  have e45 : s.data.toList = 45 :: s.data.toList.drop 1 := by
    have hl : 0 < s.data.toList.length := by simpa using h0
    have e1 : s.data.toList[0] = 45 := h45
    rw [← e1, List.getElem_cons_drop]
    simp
  obtain ⟨t, ht⟩ : ∃ t, s.extract 1 s.size = t := ⟨_, rfl⟩
  have htl : t.data.toList = s.data.toList.drop 1 := by
    rw [← ht]
    simp
    rw [List.take_of_length_le (by simp)]
  have hts : t.size ≤ 1048576 := by
    have h1 : t.data.toList.length = s.data.toList.length - 1 := by rw [htl, List.length_drop]
    simp at h1
    omega
  have HNO : Hid (NumOk true s.data.toList t.data.toList) := by
    rw [htl]
    conv => arg 1; arg 2; rw [e45]
    exact Lib.hid numOk_neg
  have hne : (t.toList == s.toList) = false := by
    rw [beq_eq_false_iff_ne, ByteArray.toList_eq, ByteArray.toList_eq, htl]
    intro h
    have h1 := congrArg List.length h
    rw [List.length_drop] at h1
    simp at h1
    omega
  have h1s : (1 : Int) ≤ (s.size : Int) := by omega
  clear e45 htl
  cases hb : btw (t.size : Int) 1 11
  · have HS : Hid (NumSays s 0 false) := says_not HNO.out fun h => by
      have := btw_len.2 (by simpa using h.2)
      rw [hb] at this
      cases this
    go_enter Tryz.func83, Tryz.ntmps83
    go_wp2_with fail
    refine (between_any _ _ _ _).mono ?_
    rintro e w ⟨rfl, rfl⟩
    rw [hb]
    go_wp2
    exact bodyPost_ret (v := .tuple #[.int .i64 0, .bool false]) (by simp [results, Tryz.results83, go_sem]) rfl ⟨_, _, rfl, HS.out, Below.refl _ _⟩
  · have hlt := btw_len.1 hb
    go_enter Tryz.func83, Tryz.ntmps83
    go_wp2_with fail
    refine (between_any _ _ _ _).mono ?_
    rintro e w ⟨rfl, rfl⟩
    rw [hb]
    go_wp2
    go_loopw [4, 6] (fun t' i wr => ∃ k : Nat, k ≤ t.size ∧ i = .int .i64 k ∧ t' = .int .i64 (dval (t.data.toList.take k) : Nat) ∧ Hid (Digs (t.data.toList.take k)) ∧ wr = w) (fun _ i _ => t.size - (intOf i).toNat)
    case atStart => exact ⟨0, Nat.zero_le _, rfl, rfl, fun d hd => by simp at hd, rfl⟩
    case round =>
      obtain ⟨k, hk, rfl, rfl, HD, rfl⟩ := hrel
      have hdv : dval (t.data.toList.take k) < 100000000000 := by
        have := dval_lt k _ (by rw [List.length_take]; simp; omega) HD.out
        have h2 : 10 ^ k ≤ 10 ^ 11 := Nat.pow_le_pow_right (by omega) (by omega)
        have h3 : (10 : Nat) ^ 11 = 100000000000 := by decide
        omega
      by_cases hk' : k < t.size
      · have i1 : (0 : Int) ≤ (k : Int) := by omega
        have i2 : (k : Int) < (t.size : Int) := by omega
        have HT := Lib.hid (take_byte hk')
        have HM := Lib.hid (mem_byte hk')
        have hu : t[k].toNat < 256 := UInt8.toNat_lt _
        have hu' : wrap64 (t[k].toNat : Int) = (t[k].toNat : Int) := by unfold wrap64; omega
        cases hd : btw (t[k].toNat : Int) 48 57
        · have HS : Hid (NumSays s 0 false) := says_not HNO.out fun h => by
            have := (btw_digit _).2 (h.1 _ HM.out)
            rw [hd] at this
            cases this
          go_wp2_with fail
          refine (between_any _ _ _ _).mono ?_
          rintro e w ⟨rfl, rfl⟩
          rw [hd]
          go_wp2
          exact bodyPost_ret (v := .tuple #[.int .i64 0, .bool false]) (by simp [results, Tryz.results83, go_sem]) rfl ⟨_, _, rfl, HS.out, Below.refl _ _⟩
        · have hdg := (btw_digit _).1 hd
          have HD2 : Hid (Digs (t.data.toList.take (k + 1))) := by
            rw [HT.out]
            exact Lib.hid (digs_snoc HD.out hdg)
          have HV : Hid (dval (t.data.toList.take (k + 1)) = 10 * dval (t.data.toList.take k) + (t[k].toNat - 48)) := by
            rw [HT.out]
            exact Lib.hid (dval_snoc _ _)
          go_wp2_with fail
          refine (between_any _ _ _ _).mono ?_
          rintro e w ⟨rfl, rfl⟩
          rw [hd]
          go_wp2
          refine ⟨⟨k + 1, hk', rfl, ?_, HD2, trivial⟩, by simp [intOf]; omega⟩
          rw [HV.out]
          congr 1
          omega
      · have hke : k = t.size := by omega
        subst hke
        have etk : t.data.toList.take t.size = t.data.toList := List.take_of_length_le (by simp)
        rw [etk] at HD hdv ⊢
        have HE : Hid (signed true (dval t.data.toList) = (-(dval t.data.toList : Nat))) := rfl
        go_wp2_with fail
        refine (specNum _ _ (by omega) (by omega)).mono ?_
        rintro e w2 ⟨rfl, hbb⟩
        have HB := Lib.hid hbb
        clear hbb
        go_wp2
        exact bodyPost_ret (v := .tuple #[.int .i64 (-(dval t.data.toList : Nat)), .bool ((⟨(Lib.itoa (-(dval t.data.toList : Nat))).toArray⟩ : ByteArray).toList == s.toList)]) (by simp [results, Tryz.results83, go_sem]) rfl ⟨_, _, rfl, by
          rw [← HE.out]
          exact says_end HNO.out HD.out (by simpa using hlt.2) (by rw [beq_iff_eq, ByteArray.toList_eq, ByteArray.toList_eq]), HB.out⟩

set_option maxRecDepth 100000 in
set_option maxHeartbeats 1000000 in
theorem num_none (s : ByteArray) (w : World) (h0 : s.size = 0) :
    Calls Tryz.prog 83 #[.string s] w fun e w' => ∃ n b, e = .returned (.tuple #[.int .i64 n, .bool b]) ∧ NumSays s n b ∧ Below w.heap.size w w' := by
  have hl : s.data.toList = [] := List.length_eq_zero_iff.1 (by simpa using h0)
  have HS : Hid (NumSays s 0 false) := says_not (neg := false) (T := []) (by rw [hl]; exact numOk_plain (by simp)) (by simp)
  have hb : btw 0 1 11 = false := rfl
  clear hl
  go_enter Tryz.func83, Tryz.ntmps83
  go_wp2_with fail
  refine (between_any _ _ _ _).mono ?_
  rintro e w ⟨rfl, rfl⟩
  rw [hb]
  go_wp2
  exact bodyPost_ret (v := .tuple #[.int .i64 0, .bool false]) (by simp [results, Tryz.results83, go_sem]) rfl ⟨_, _, rfl, HS.out, Below.refl _ _⟩

set_option maxRecDepth 100000 in
theorem num_any (s : ByteArray) (w : World) (hs : s.size ≤ 1048576) :
    Calls Tryz.prog 83 #[.string s] w fun e w' => ∃ n b, e = .returned (.tuple #[.int .i64 n, .bool b]) ∧ NumSays s n b ∧ Below w.heap.size w w' := by
  by_cases h0 : s.size = 0
  · exact num_none s w h0
  · have h1 : 0 < s.size := by omega
    by_cases h : s[0] = 45
    · exact num_neg s w hs h1 h
    · exact num_plain s w hs h1 h

end Go.Proofs.YtbbmpfkijhhemabGreatDoor
