import Derived.Shelf.Strings.Search3
import Derived.Shelf.Strings.Prefix
import Derived.Test.YtidpcjcnhklmpacGreatDoorProg
import Derived.Test.YtidpcjcnhklmpacGreatDoorPack1
import Derived.Test.YtidpcjcnhklmpacGreatDoorPack4
import Derived.Test.YtidpcjcnhklmpacGreatDoorPack3
import Derived.BigQuiet
import Derived.Shelf.LaysM
import Derived.Shelf.Strconv.Itoa3
import Derived.Test.YtidpcjcnhklmpacGreatDoorPack2
/-
  DERIVED: THE SHELF's CONTRACTS AT THIS DUMP, IN PLAIN WORDS (tools/lay-plain.mjs out of 'TryzShelf.lean', which tools/lay-shelf.mjs wrote): THE SAME DECLARATIONS UNDER THE SAME NAMES: 'import', 'namespace', 'open', 'def', 'theorem' AND NOTHING ELSE: no command of the shelf's: FOR A HAND-IN. Each laying: the table of numbers ('.._ren') and one theorem, a field a fact of the dump's own or the kernel's comparison; each contract: ONE APPLICATION.
-/
namespace Go.Proofs
open Go.Shelf
def Tryz.lays143_ren : Go.Shelf.Ren := ⟨fun | 143 => 100 | 219 => 107 | 217 => 115 | 225 => 116 | 224 => 117 | 267 => 118 | 266 => 127 | 314 => 128 | n => n, fun | 9 => 9 | 3 => 3 | 4 => 4 | 5 => 5 | 46 => 147 | 146 => 177 | 51 => 142 | n => n, fun | 1 => 5 | n => n⟩
theorem Tryz.lays143 : Go.Proofs.Lays.n143 Tryz.prog Tryz.lays143_ren := {
  mixed := by kernel_rfl
  f143 := Tryz.func100.trans (congrArg some (by kernel_rfl))
  f217 := Tryz.func115.trans (congrArg some (by kernel_rfl))
  f219 := Tryz.func107.trans (congrArg some (by kernel_rfl))
  f224 := Tryz.func117.trans (congrArg some (by kernel_rfl))
  f225 := Tryz.func116.trans (congrArg some (by kernel_rfl))
  f266 := Tryz.func127.trans (congrArg some (by kernel_rfl))
  f267 := Tryz.func118.trans (congrArg some (by kernel_rfl))
  f314 := Tryz.func128.trans (congrArg some (by kernel_rfl))
  t3 := Tryz.underlying3
  a3 := Tryz.isAgg3
  z3 := Tryz.sizeOf3
  v3 := Tryz.zeroValue3
  t4 := Tryz.underlying4
  a4 := Tryz.isAgg4
  z4 := Tryz.sizeOf4
  v4 := Tryz.zeroValue4
  t5 := Tryz.underlying5
  a5 := Tryz.isAgg5
  z5 := Tryz.sizeOf5
  v5 := Tryz.zeroValue5
  t9 := Tryz.underlying9
  a9 := Tryz.isAgg9
  z9 := Tryz.sizeOf9
  v9 := Tryz.zeroValue9
  t46 := Tryz.underlying147
  a46 := Tryz.isAgg147
  z46 := Tryz.sizeOf147
  v46 := Tryz.zeroValue147
  t51 := Tryz.underlying142
  a51 := Tryz.isAgg142
  z51 := Tryz.sizeOf142
  v51 := Tryz.zeroValue142
  t146 := Tryz.underlying177
  a146 := Tryz.isAgg177
  z146 := Tryz.sizeOf177
  v146 := Tryz.zeroValue177
  g1 := by kernel_rfl }
open Go.RowKit Go.Lib in
/-- strings.Index: "Index returns the index of the first instance of substr in s, or -1 if substr is not present in s.": AT A substr OF ONE BYTE c: IT RETURNS 'Lib.indexByte s c'; the world is as it was. (LAID: no walk: one application.) -/
theorem Tryz.strings_Index_one (s : ByteArray) (c : UInt8) (w : World) :
    Calls Tryz.prog 100 #[.string s, .string ⟨#[c]⟩] w fun e w' => e = .returned (.int .i64 (Lib.indexByte s.data.toList c)) ∧ w' = w := Any.strings_Index_one Tryz.lays143 s c w
open Go.RowKit Go.Lib in
/-- strings.Index: "Index returns the index of the first instance of substr in s, or -1 if substr is not present in s.": IT RETURNS 'Lib.index s substr'; the world is as it was. (LAID: no walk: one application.) -/
theorem Tryz.strings_Index (s sub : ByteArray) (m : Int) (w : World) (hs : s.size < 4294967281) (hm : w.cell? ⟨5, 0, none⟩ = some (.int .i64 m)) :
    Calls Tryz.prog 100 #[.string s, .string sub] w fun e w' => e = .returned (.int .i64 (Lib.index s.data.toList sub.data.toList)) ∧ w' = w := Any.strings_Index Tryz.lays143 s sub m w hs hm
def Tryz.lays207_ren : Go.Shelf.Ren := ⟨fun | 207 => 110 | n => n, fun | 9 => 9 | 4 => 4 | 3 => 3 | n => n, fun | n => n⟩
theorem Tryz.lays207 : Go.Proofs.Lays.n207 Tryz.prog Tryz.lays207_ren := {
  mixed := by kernel_rfl
  f207 := Tryz.func110.trans (congrArg some (by kernel_rfl))
  t3 := Tryz.underlying3
  a3 := Tryz.isAgg3
  z3 := Tryz.sizeOf3
  v3 := Tryz.zeroValue3
  t4 := Tryz.underlying4
  a4 := Tryz.isAgg4
  z4 := Tryz.sizeOf4
  v4 := Tryz.zeroValue4
  t9 := Tryz.underlying9
  a9 := Tryz.isAgg9
  z9 := Tryz.sizeOf9
  v9 := Tryz.zeroValue9 }
open Go.RowKit Go.Lib in
/-- internal/stringslite.HasSuffix (what strings.HasSuffix calls). (LAID: no walk: one application.) -/
theorem Tryz.stringslite_HasSuffix (s p : ByteArray) (w : World) (hs : s.size ≤ 9223372036854775807) :
    Calls Tryz.prog 110 #[.string s, .string p] w fun e w' => e = .returned (.bool (Lib.hasSuffix s.data.toList p.data.toList)) ∧ w' = w := Any.stringslite_HasSuffix Tryz.lays207 s p w hs
def Tryz.lays209_ren : Go.Shelf.Ren := ⟨fun | 209 => 103 | 207 => 110 | n => n, fun | 9 => 9 | 4 => 4 | 3 => 3 | n => n, fun | n => n⟩
theorem Tryz.lays209 : Go.Proofs.Lays.n209 Tryz.prog Tryz.lays209_ren := {
  mixed := by kernel_rfl
  f207 := Tryz.func110.trans (congrArg some (by kernel_rfl))
  f209 := Tryz.func103.trans (congrArg some (by kernel_rfl))
  t3 := Tryz.underlying3
  a3 := Tryz.isAgg3
  z3 := Tryz.sizeOf3
  v3 := Tryz.zeroValue3
  t4 := Tryz.underlying4
  a4 := Tryz.isAgg4
  z4 := Tryz.sizeOf4
  v4 := Tryz.zeroValue4
  t9 := Tryz.underlying9
  a9 := Tryz.isAgg9
  z9 := Tryz.sizeOf9
  v9 := Tryz.zeroValue9 }
open Go.RowKit Go.Lib in
/-- internal/stringslite.TrimSuffix (what strings.TrimSuffix calls). (LAID: no walk: one application.) -/
theorem Tryz.stringslite_TrimSuffix (s p : ByteArray) (w : World) (hs : s.size ≤ 9223372036854775807) :
    Calls Tryz.prog 103 #[.string s, .string p] w fun e w' => e = .returned (.string ⟨(Lib.trimSuffix s.data.toList p.data.toList).toArray⟩) ∧ w' = w := Any.stringslite_TrimSuffix Tryz.lays209 s p w hs
def Tryz.lays102_ren : Go.Shelf.Ren := ⟨fun | 102 => 92 | 209 => 103 | 207 => 110 | n => n, fun | 9 => 9 | 4 => 4 | 3 => 3 | n => n, fun | n => n⟩
theorem Tryz.lays102 : Go.Proofs.Lays.n102 Tryz.prog Tryz.lays102_ren := {
  mixed := by kernel_rfl
  f102 := Tryz.func92.trans (congrArg some (by kernel_rfl))
  f207 := Tryz.func110.trans (congrArg some (by kernel_rfl))
  f209 := Tryz.func103.trans (congrArg some (by kernel_rfl))
  t3 := Tryz.underlying3
  a3 := Tryz.isAgg3
  z3 := Tryz.sizeOf3
  v3 := Tryz.zeroValue3
  t4 := Tryz.underlying4
  a4 := Tryz.isAgg4
  z4 := Tryz.sizeOf4
  v4 := Tryz.zeroValue4
  t9 := Tryz.underlying9
  a9 := Tryz.isAgg9
  z9 := Tryz.sizeOf9
  v9 := Tryz.zeroValue9 }
open Go.RowKit Go.Lib in
/-- strings.TrimSuffix: "TrimSuffix returns s without the provided trailing suffix string. If s doesn't end with suffix, s is returned unchanged.": IT RETURNS 'Lib.trimSuffix s suffix'; the world is as it was. (LAID: no walk: one application.) -/
theorem Tryz.strings_TrimSuffix (s p : ByteArray) (w : World) (hs : s.size ≤ 9223372036854775807) :
    Calls Tryz.prog 92 #[.string s, .string p] w fun e w' => e = .returned (.string ⟨(Lib.trimSuffix s.data.toList p.data.toList).toArray⟩) ∧ w' = w := Any.strings_TrimSuffix Tryz.lays102 s p w hs
end Go.Proofs

/- The reader of logs: its block; the contract of its line. -/
namespace Go.Proofs.YtidpcjcnhklmpacGreatDoor
open Go.ChangeShapes Go.WideShapes Go.ChangeAt Go.RowKit Go.Joins
attribute [local go_sem ↓] Go.wp_at_zero Go.wp_at_succ

/-- A reader of the text s, at place p, in block B. -/
structure Rdr (w : World) (B : Nat) (s : ByteArray) (p : Nat) : Prop where
  lt : B < w.heap.size
  c0 : w.cell? ⟨B, 0, none⟩ = some (.string s)
  c1 : w.cell? ⟨B, 1, none⟩ = some (.int .i64 (p : Int))
  fz : ∀ o, w.frozen? ⟨B, o, none⟩ = false

set_option maxRecDepth 100000 in
theorem Rdr.below {w w' : World} {B p : Nat} {s : ByteArray} (h : Rdr w B s p) (hb : Below w.heap.size w w') : Rdr w' B s p :=
  ⟨Nat.lt_of_lt_of_le h.lt hb.size, held_cell hb h.c0 h.lt, held_cell hb h.c1 h.lt, fun o => (hb.frozen (p := ⟨B, o, none⟩) h.lt).trans (h.fz o)⟩

set_option maxRecDepth 100000 in
theorem Rdr.drewN {w : World} {B p : Nat} {s : ByteArray} (h : Rdr w B s p) (n : Nat) : Rdr (w.drewN n) B s p := h.below (below_drewN (Below.refl _ _) n)

set_option maxRecDepth 100000 in
theorem Rdr.set {w : World} {B p : Nat} {s : ByteArray} (h : Rdr w B s p) (q : Nat) : Rdr (w.setCell ⟨B, 1, none⟩ (.int .i64 (q : Int))) B s q :=
  ⟨by simpa [World.setCell] using h.lt, cell_set_off h.c0 (by omega), cell_set_same h.c1, fun o => by rw [World.frozen?_setCell]; exact h.fz o⟩

/-- What the reader's own variables hold: errors. -/
def EV (w : World) : Prop :=
  (4 < w.heap.size ∧ ∃ t v, w.cell? ⟨4, 0, none⟩ = some (.iface t v)) ∧
  (1 < w.heap.size ∧ ∃ t v, w.cell? ⟨1, 0, none⟩ = some (.iface t v)) ∧
  (2 < w.heap.size ∧ ∃ t v, w.cell? ⟨2, 0, none⟩ = some (.iface t v)) ∧
  (3 < w.heap.size ∧ ∃ t v, w.cell? ⟨3, 0, none⟩ = some (.iface t v))

set_option maxRecDepth 100000 in
theorem EV.below {w w' : World} (h : EV w) (hb : Below w.heap.size w w') : EV w' := by
  obtain ⟨⟨l1, t1, p1, h1⟩, ⟨l2, t2, p2, h2⟩, ⟨l3, t3, p3, h3⟩, l4, t4, p4, h4⟩ := h
  exact ⟨⟨Nat.lt_of_lt_of_le l1 hb.size, t1, p1, (hb.cell (p := ⟨_, 0, none⟩) l1).trans h1⟩, ⟨Nat.lt_of_lt_of_le l2 hb.size, t2, p2, (hb.cell (p := ⟨_, 0, none⟩) l2).trans h2⟩, ⟨Nat.lt_of_lt_of_le l3 hb.size, t3, p3, (hb.cell (p := ⟨_, 0, none⟩) l3).trans h3⟩, Nat.lt_of_lt_of_le l4 hb.size, t4, p4, (hb.cell (p := ⟨_, 0, none⟩) l4).trans h4⟩

set_option maxRecDepth 100000 in
theorem idx_first : ∀ (l r : List UInt8), (10 : UInt8) ∉ l → Lib.indexByte (l ++ 10 :: r) 10 = (l.length : Int)
  | [], r, _ => rfl
  | b :: l, r, h => by
    have hb : (b == (10 : UInt8)) = false := by
      simp only [List.mem_cons, not_or] at h
      simpa using fun e => h.1 e.symm
    have ih := idx_first l r (fun hm => h (List.mem_cons_of_mem _ hm))
    show (if b == 10 then (0 : Int) else if Lib.indexByte (l ++ 10 :: r) 10 == -1 then -1 else Lib.indexByte (l ++ 10 :: r) 10 + 1) = _
    rw [hb, ih]
    have hn : (((l.length : Int)) == -1) = false := by
      simp only [beq_eq_false_iff_ne]
      omega
    simp [hn]

set_option maxRecDepth 100000 in
theorem idx_none : ∀ (l : List UInt8), (10 : UInt8) ∉ l → Lib.indexByte l 10 = -1
  | [], _ => rfl
  | b :: l, h => by
    have hb : (b == (10 : UInt8)) = false := by
      simp only [List.mem_cons, not_or] at h
      simpa using fun e => h.1 e.symm
    have ih := idx_none l (fun hm => h (List.mem_cons_of_mem _ hm))
    show (if b == 10 then (0 : Int) else if Lib.indexByte l 10 == -1 then -1 else Lib.indexByte l 10 + 1) = _
    rw [hb, ih]
    simp

set_option maxRecDepth 100000 in
/-- A text has no line that ends, or it has a first one. -/
theorem first_line : ∀ (t : List UInt8), (10 : UInt8) ∉ t ∨ ∃ l r, t = l ++ 10 :: r ∧ (10 : UInt8) ∉ l
  | [] => .inl (by simp)
  | b :: t => by
    by_cases hb : b = 10
    · exact .inr ⟨[], t, by rw [hb]; rfl, by simp⟩
    · rcases first_line t with h | ⟨l, r, rfl, h⟩
      · refine .inl fun hm => ?_
        rcases List.mem_cons.1 hm with h1 | h1
        · exact hb h1.symm
        · exact h h1
      · refine .inr ⟨b :: l, r, rfl, fun hm => ?_⟩
        rcases List.mem_cons.1 hm with h1 | h1
        · exact hb h1.symm
        · exact h h1

set_option maxRecDepth 100000 in
theorem extract_end (s : ByteArray) (p : Nat) : (s.extract p s.size).data.toList = s.data.toList.drop p := by
  rw [piece, List.take_of_length_le (by simp)]

set_option maxRecDepth 100000 in
theorem extract_line {s : ByteArray} {p : Nat} {l r : List UInt8} (h : s.data.toList.drop p = l ++ 10 :: r) : s.extract p (p + l.length + 1) = str (l ++ [10]) := by
  apply ByteArray.ext
  apply Array.ext'
  have e : (s.extract p (p + l.length + 1)).data.toList = (s.data.toList.drop p).take (l.length + 1) := by
    rw [piece, List.drop_take, show p + l.length + 1 - p = l.length + 1 by omega]
  show (s.extract p (p + l.length + 1)).data.toList = (str (l ++ [10])).data.toList
  rw [e, h]
  simp only [str, List.take_append, List.take_of_length_le (Nat.le_succ l.length)]
  simp

set_option maxRecDepth 100000 in
theorem line_fits {s : ByteArray} {p : Nat} {l r : List UInt8} (h : s.data.toList.drop p = l ++ 10 :: r) : p + l.length + 1 ≤ s.size := by
  have h1 := congrArg List.length h
  simp only [List.length_drop, List.length_append, List.length_cons] at h1
  have h2 : s.data.toList.length = s.size := by simp
  omega

set_option maxRecDepth 100000 in
set_option maxHeartbeats 4000000 in
theorem rdLine_any (w0 : World) (s : ByteArray) (p B : Nat) (w : World) (hs : s.size ≤ 1048576) (hp : p ≤ s.size) (hE : EV w0) (hb : Below w0.heap.size w0 w) (hr : Rdr w B s p) :
    Calls Tryz.prog 90 #[.pointer (some ⟨B, 0, none⟩)] w fun e w' => Hole B w w' ∧
      ((∃ l r, s.data.toList.drop p = l ++ 10 :: r ∧ (10 : UInt8) ∉ l ∧ e = .returned (.tuple #[.string (str (l ++ [10])), .nilIface]) ∧ Rdr w' B s (p + l.length + 1)) ∨
       ((10 : UInt8) ∉ s.data.toList.drop p ∧ ∃ t v, e = .returned (.tuple #[.string ⟨#[]⟩, .iface t v]))) := by
  obtain ⟨lt0, tE, vE, cE0⟩ := hE.1
  have cE := (hb.cell (p := ⟨4, 0, none⟩) lt0).trans cE0
  have HR := Lib.hid hr
  have c0 := hr.c0
  have c1 := hr.c1
  have fz := hr.fz
  have p0 : (0 : Int) ≤ (p : Int) := by omega
  have p1 : (p : Int) ≤ (s.size : Int) := by omega
  clear hr hb hE cE0
  rcases first_line (s.data.toList.drop p) with hno | ⟨l, r, hlr, hl⟩
  · have HC : ∀ W, Calls Tryz.prog 100 #[.string (s.extract p s.size), .string ⟨#[10]⟩] W fun e w' => e = .returned (.int .i64 (-1)) ∧ w' = W := fun W => by
      refine (Tryz.strings_Index_one (s.extract p s.size) 10 W).mono ?_
      rintro e w' ⟨rfl, hw⟩
      rw [extract_end, idx_none _ hno]
      exact ⟨rfl, hw⟩
    have HNO := Lib.hid hno
    clear hno
    go_enter Tryz.func90, Tryz.ntmps90
    go_wp2_with fail
    go_quiet ((go_at_call 100; exact Calls.quiet_of_same (HC _)))
    go_wp2_with fail
    go_quiet (fail)
    go_wp2
    refine bodyPost_ret (v := .tuple #[.string ⟨#[]⟩, .iface tE vE]) (by simp [results, Tryz.results90, go_sem]) rfl ?_
    exact ⟨((Hole.refl B w).drewN _).drewN _, .inr ⟨HNO.out, _, _, rfl⟩⟩
  · have HC : ∀ W, Calls Tryz.prog 100 #[.string (s.extract p s.size), .string ⟨#[10]⟩] W fun e w' => e = .returned (.int .i64 (l.length : Int)) ∧ w' = W := fun W => by
      refine (Tryz.strings_Index_one (s.extract p s.size) 10 W).mono ?_
      rintro e w' ⟨rfl, hw⟩
      rw [extract_end, hlr, idx_first _ _ hl]
      exact ⟨rfl, hw⟩
    have hf := line_fits hlr
    have HX := Lib.hid (extract_line hlr)
    have HLR := Lib.hid hlr
    have HL := Lib.hid hl
    have hsz : (s.extract p (p + l.length + 1)).size = l.length + 1 := by rw [HX.out, str_size]; simp
    clear hlr hl
    generalize hn : l.length = n at *
    have HN := Lib.hid hn
    clear hn
    have w1 : IntKind.i64.wrap ((p : Int) + (n : Int)) = (p : Int) + (n : Int) := IntWalk.i64_in _ (by omega)
    have w2 : IntKind.i64.wrap ((p : Int) + (n : Int) + 1) = ((p + n + 1 : Nat) : Int) := (IntWalk.i64_in _ (by omega)).trans (by omega)
    have w3 : (p : Int) ≤ ((p + n + 1 : Nat) : Int) := by omega
    have w4 : ((p + n + 1 : Nat) : Int) ≤ (s.size : Int) := by omega
    have w5 : (p : Int) ≤ (p : Int) + (n : Int) + 1 := by omega
    have w6 : (p : Int) + (n : Int) + 1 ≤ (s.size : Int) := by omega
    go_enter Tryz.func90, Tryz.ntmps90
    go_wp2_with fail
    go_quiet ((go_at_call 100; exact Calls.quiet_of_same (HC _)))
    go_wp2_with fail
    go_quiet (fail)
    go_wp2
    have e9 : (p : Int) + ((n : Int) + 1) = ((p + n + 1 : Nat) : Int) := by omega
    refine bodyPost_ret (v := .tuple #[.string (s.extract p (p + n + 1)), .nilIface]) (by simp [results, Tryz.results90, go_sem]) rfl ?_
    rw [e9]
    exact ⟨((Hole.refl B w).drewN _).set 1 _, .inl ⟨l, r, HLR.out, HL.out, by rw [HX.out], by rw [HN.out]; exact (HR.out.drewN _).set _⟩⟩

end Go.Proofs.YtidpcjcnhklmpacGreatDoor

/- A batch's text, read line by line: plain facts. -/
namespace Go.Proofs.YtidpcjcnhklmpacGreatDoor
open Go.ChangeShapes Go.WideShapes Go.ChangeAt Go.RowKit Go.Joins

/-- The text begins with the text of this batch. -/
def ValidAt (t : List UInt8) (ws : List Wr) : Prop := okWs ws = true ∧ batchT ws <+: t

/-- What is left of a batch's text behind its head and so many writes. -/
def restB (ws : List Wr) (k : Nat) : List UInt8 := (ws.drop k).flatMap lineW ++ (sumB ws ++ [10])

set_option maxRecDepth 100000 in
theorem batchT_rest {ws : List Wr} (h : okWs ws = true) : batchT ws = headB ws.length ++ 10 :: restB ws 0 := by
  unfold batchT restB bodyB
  rw [if_pos h]
  simp

set_option maxRecDepth 100000 in
theorem restB_next {ws : List Wr} {k : Nat} (h : k < ws.length) : restB ws k = textR (ws.getD k wz) ++ 10 :: restB ws (k + 1) := by
  unfold restB
  have e : ws.drop k = ws.getD k wz :: ws.drop (k + 1) := by
    rw [List.drop_eq_getElem_cons h]
    simp [List.getD, h]
  rw [e, List.flatMap_cons]
  simp [lineW]

set_option maxRecDepth 100000 in
theorem restB_end (ws : List Wr) : restB ws ws.length = sumB ws ++ 10 :: [] := by
  unfold restB
  simp

set_option maxRecDepth 100000 in
theorem no_line_sum (ws : List Wr) : (10 : UInt8) ∉ sumB ws := by
  intro hm
  unfold sumB at hm
  rcases List.mem_append.1 hm with h1 | h1
  · simp at h1
  · have := crcL_bd (bodyB ws)
    exact no_line_num ⟨by omega, by omega⟩ h1

set_option maxRecDepth 100000 in
theorem has_line {l r t : List UInt8} (h : l ++ 10 :: r <+: t) : (10 : UInt8) ∈ t := by
  obtain ⟨q, rfl⟩ := h
  simp

set_option maxRecDepth 100000 in
theorem valid_line {t : List UInt8} {ws : List Wr} (h : ValidAt t ws) : (10 : UInt8) ∈ t := by
  have h2 := h.2
  rw [batchT_rest h.1] at h2
  exact has_line h2

set_option maxRecDepth 100000 in
/-- The first line of a batch's text is its head. -/
theorem valid_head {t l r : List UInt8} {ws : List Wr} (h : ValidAt t ws) (ht : t = l ++ 10 :: r) (hl : (10 : UInt8) ∉ l) : l = headB ws.length ∧ restB ws 0 <+: r := by
  have h2 := h.2
  rw [batchT_rest h.1] at h2
  obtain ⟨e, q, hq, -, q2⟩ := line_one hl (no_line_head (okWs_len h.1).2) (by rw [ht]; exact List.prefix_refl _) h2
  rw [ht] at hq
  have e2 : r = q := by
    have := List.append_cancel_left hq
    exact (List.cons.inj this).2
  exact ⟨e, by rw [e2]; exact q2⟩

set_option maxRecDepth 100000 in
/-- The next line is the next write's. -/
theorem valid_next {t l r : List UInt8} {ws : List Wr} {k : Nat} (ho : okWs ws = true) (hk : k < ws.length) (h : restB ws k <+: t) (ht : t = l ++ 10 :: r) (hl : (10 : UInt8) ∉ l) : IsText l (ws.getD k wz) ∧ restB ws (k + 1) <+: r := by
  have o1 := (okWs_iff.1 ho).2 k hk
  rw [restB_next hk] at h
  obtain ⟨e, q, hq, -, q2⟩ := line_one hl (no_line_text o1) (by rw [ht]; exact List.prefix_refl _) h
  rw [ht] at hq
  have e2 : r = q := by
    have := List.append_cancel_left hq
    exact (List.cons.inj this).2
  exact ⟨⟨o1, e.symm⟩, by rw [e2]; exact q2⟩

set_option maxRecDepth 100000 in
/-- The last line is the sum's. -/
theorem valid_last {t l r : List UInt8} {ws : List Wr} (h : restB ws ws.length <+: t) (ht : t = l ++ 10 :: r) (hl : (10 : UInt8) ∉ l) : l = sumB ws := by
  rw [restB_end] at h
  exact (line_one hl (no_line_sum ws) (by rw [ht]; exact List.prefix_refl _) h).1

/-- How many bytes the head and so many writes are. -/
def farB (ws : List Wr) (k : Nat) : Nat := (accB ws k).length

set_option maxRecDepth 100000 in
theorem farB_next {ws : List Wr} {k : Nat} (h : k < ws.length) : farB ws (k + 1) = farB ws k + (textR (ws.getD k wz)).length + 1 := by
  unfold farB
  rw [accB_next ws h]
  simp
  omega

set_option maxRecDepth 100000 in
theorem batchT_len {ws : List Wr} (h : okWs ws = true) : (batchT ws).length = farB ws ws.length + (sumB ws).length + 1 := by
  unfold batchT farB accB bodyB
  rw [if_pos h, List.take_length]
  simp
  omega

set_option maxRecDepth 100000 in
theorem prefix_extract {t q : List UInt8} (h : q <+: t) : t.take q.length = q := List.prefix_iff_eq_take.1 h |>.symm

end Go.Proofs.YtidpcjcnhklmpacGreatDoor

/- The contract of impl.Crc: the same remainder, reckoned in 32 bits. -/
namespace Go.Proofs.YtidpcjcnhklmpacGreatDoor
open Go.ChangeShapes Go.WideShapes Go.ChangeAt Go.RowKit Go.Joins

set_option maxRecDepth 100000 in
set_option maxHeartbeats 2000000 in
theorem crcStep_any (x : Nat) (w : World) (hx : x < 4294967296) :
    Calls Tryz.prog 78 #[.int .u32 (x : Int)] w fun e w' => e = .returned (.int .u32 (crcBits 8 x : Nat)) ∧ w' = w := by
  go_enter Tryz.func78, Tryz.ntmps78
  go_wp2
  go_loopw [0, 4] (fun r i wq => ∃ j : Nat, j ≤ 8 ∧ i = .int .i64 j ∧ r = .int .u32 (crcBits j x : Nat) ∧ wq = w) (fun _ i _ => 8 - (intOf i).toNat)
  case atStart => exact ⟨0, Nat.zero_le _, rfl, rfl, rfl⟩
  case round =>
    obtain ⟨j, hj, rfl, rfl, rfl⟩ := hrel
    by_cases hj' : j < 8
    · have j1 : (j : Int) < 8 := by omega
      have hz := crcBits_bd hx j
      have HS : Hid (crcBits (j + 1) x = crcBit (crcBits j x)) := rfl
      generalize crcBits j x = z at *
      have hz2 : (z / 2 : Nat) < 4294967296 := by omega
      have ha : bits .and .u32 (z : Int) 1 = ((z % 2 : Nat) : Int) := by
        have h := u32_and_nat z 1 hz (by omega)
        rw [nat_mask1] at h
        exact h
      have hx : bits .xor .u32 ((z / 2 : Nat) : Int) 3988292384 = ((z / 2 ^^^ 3988292384 : Nat) : Int) := u32_xor_nat (z / 2) 3988292384 hz2 (by omega)
      by_cases hm : z % 2 = 1
      · have HE : Hid (crcBits (j + 1) x = z / 2 ^^^ 3988292384) := by
          rw [HS.out]
          unfold crcBit
          rw [if_pos hm]
          exact Lib.hid rfl
        go_wp2
        refine ⟨⟨j + 1, by omega, by go_num, ?_, trivial⟩, by simp [intOf]; omega⟩
        have e2 : (z : Int) / 2 = ((z / 2 : Nat) : Int) := by omega
        rw [HE.out, e2, hx]
      · have HE : Hid (crcBits (j + 1) x = z / 2) := by
          rw [HS.out]
          unfold crcBit
          rw [if_neg hm]
          exact Lib.hid rfl
        have hm0 : z % 2 = 0 := by omega
        go_wp2
        refine ⟨⟨j + 1, by omega, by go_num, ?_, trivial⟩, by simp [intOf]; omega⟩
        have e2 : (z : Int) / 2 = ((z / 2 : Nat) : Int) := by omega
        rw [HE.out, e2]
    · have hjj : j = 8 := by omega
      subst hjj
      go_wp2
      go_ret
      exact ⟨rfl, rfl⟩

set_option maxRecDepth 100000 in
set_option maxHeartbeats 2000000 in
theorem implCrc_any (s : ByteArray) (w : World) (hs : s.size ≤ 9223372036854775807) :
    Calls Tryz.prog 52 #[.string s] w fun e w' => e = .returned (.int .i64 (crcL s.data.toList : Nat)) ∧ w' = w := by
  go_enter Tryz.func52, Tryz.ntmps52
  go_wp2
  go_loopw [3, 7] (fun x i wr => ∃ k : Nat, k ≤ s.size ∧ i = .int .i64 k ∧ x = .int .u32 (crcRun (s.data.toList.take k) : Nat) ∧ wr = w) (fun _ i _ => s.size - (intOf i).toNat)
  case atStart => exact ⟨0, Nat.zero_le _, rfl, rfl, rfl⟩
  case round =>
    obtain ⟨k, hk, rfl, rfl, rfl⟩ := hrel
    by_cases hk' : k < s.size
    · have i1 : (0 : Int) ≤ (k : Int) := by omega
      have i2 : (k : Int) < (s.size : Int) := by omega
      have HT := Lib.hid (crcRun_take hk')
      have hb := crcRun_bd (s.data.toList.take k)
      have hc : (s[k].toNat : Nat) < 4294967296 := by have := s[k].toNat_lt; omega
      have hu : s[k].toNat < 256 := UInt8.toNat_lt _
      have hx : bits .xor .u32 ((crcRun (s.data.toList.take k) : Nat) : Int) ((s[k].toNat : Nat) : Int) = ((crcRun (s.data.toList.take k) ^^^ s[k].toNat : Nat) : Int) := u32_xor_nat _ _ hb hc
      have hy := xor32 hb hc
      have HB : Hid (crcByte (crcRun (s.data.toList.take k)) s[k] = crcBits 8 (crcRun (s.data.toList.take k) ^^^ s[k].toNat)) := rfl
      go_wp2_with fail
      refine (crcStep_any _ _ hy).mono ?_
      rintro e w1 ⟨rfl, hw⟩
      subst w1
      go_wp2
      exact ⟨⟨k + 1, by omega, by go_num, by rw [HT.out, HB.out], trivial⟩, by simp [intOf]; omega⟩
    · have hkk : k = s.size := by omega
      subst hkk
      have e : s.data.toList.take s.size = s.data.toList := List.take_of_length_le (by simp)
      rw [e]
      have hb := crcRun_bd s.data.toList
      have hl := crcL_bd s.data.toList
      have hx : bits .xor .u32 ((crcRun s.data.toList : Nat) : Int) 4294967295 = ((crcL s.data.toList : Nat) : Int) := u32_xor_nat _ 4294967295 hb (by omega)
      go_wp2
      go_ret
      exact ⟨rfl, rfl⟩

end Go.Proofs.YtidpcjcnhklmpacGreatDoor

/-
  DERIVED: THE SHELF's CONTRACTS AT THIS DUMP, IN PLAIN WORDS (tools/lay-plain.mjs out of 'TryzShelf.lean', which tools/lay-shelf.mjs wrote): THE SAME DECLARATIONS UNDER THE SAME NAMES: 'import', 'namespace', 'open', 'def', 'theorem' AND NOTHING ELSE: no command of the shelf's: FOR A HAND-IN. Each laying: the table of numbers ('.._ren') and one theorem, a field a fact of the dump's own or the kernel's comparison; each contract: ONE APPLICATION.
-/
namespace Go.Proofs
open Go.Shelf
def Tryz.laysM246_ren : Go.Shelf.Ren := ⟨fun | 246 => 104 | 283 => 111 | 284 => 112 | 285 => 113 | 286 => 114 | 129 => 123 | 317 => 122 | 318 => 124 | 319 => 125 | 320 => 126 | 337 => 136 | 338 => 137 | n => n, fun | 2 => 2 | 3 => 3 | 9 => 9 | 4 => 4 | 171 => 166 | 0 => 0 | 53 => 109 | 37 => 22 | 5 => 5 | 173 => 169 | 212 => 174 | 51 => 142 | 20 => 20 | 213 => 175 | 46 => 147 | 232 => 193 | 233 => 194 | n => n, fun | 17 => 6 | 18 => 9 | 19 => 10 | n => n⟩
theorem Tryz.laysM246 : Go.Proofs.LaysM.n246 Tryz.prog Tryz.laysM246_ren := {
  mixed := by kernel_rfl
  f129 := Tryz.func123.trans (congrArg some (by kernel_rfl))
  f246 := Tryz.func104.trans (congrArg some (by kernel_rfl))
  f283 := Tryz.func111.trans (congrArg some (by kernel_rfl))
  f284 := Tryz.func112.trans (congrArg some (by kernel_rfl))
  f285 := Tryz.func113.trans (congrArg some (by kernel_rfl))
  f286 := Tryz.func114.trans (congrArg some (by kernel_rfl))
  f317 := Tryz.func122.trans (congrArg some (by kernel_rfl))
  f318 := Tryz.func124.trans (congrArg some (by kernel_rfl))
  f319 := Tryz.func125.trans (congrArg some (by kernel_rfl))
  f320 := Tryz.func126.trans (congrArg some (by kernel_rfl))
  f337 := Tryz.func136.trans (congrArg some (by kernel_rfl))
  f338 := Tryz.func137.trans (congrArg some (by kernel_rfl))
  t0 := Tryz.underlying0
  a0 := Tryz.isAgg0
  z0 := Tryz.sizeOf0
  v0 := Tryz.zeroValue0
  t2 := Tryz.underlying2
  a2 := Tryz.isAgg2
  z2 := Tryz.sizeOf2
  v2 := Tryz.zeroValue2
  t3 := Tryz.underlying3
  a3 := Tryz.isAgg3
  z3 := Tryz.sizeOf3
  v3 := Tryz.zeroValue3
  t4 := Tryz.underlying4
  a4 := Tryz.isAgg4
  z4 := Tryz.sizeOf4
  v4 := Tryz.zeroValue4
  t5 := Tryz.underlying5
  a5 := Tryz.isAgg5
  z5 := Tryz.sizeOf5
  v5 := Tryz.zeroValue5
  t9 := Tryz.underlying9
  a9 := Tryz.isAgg9
  z9 := Tryz.sizeOf9
  v9 := Tryz.zeroValue9
  t20 := Tryz.underlying20
  a20 := Tryz.isAgg20
  z20 := Tryz.sizeOf20
  v20 := Tryz.zeroValue20
  t37 := Tryz.underlying22
  a37 := Tryz.isAgg22
  z37 := Tryz.sizeOf22
  v37 := Tryz.zeroValue22
  t46 := Tryz.underlying147
  a46 := Tryz.isAgg147
  z46 := Tryz.sizeOf147
  v46 := Tryz.zeroValue147
  t51 := Tryz.underlying142
  a51 := Tryz.isAgg142
  z51 := Tryz.sizeOf142
  v51 := Tryz.zeroValue142
  t53 := Tryz.underlying109
  a53 := Tryz.isAgg109
  z53 := Tryz.sizeOf109
  v53 := Tryz.zeroValue109
  t171 := Tryz.underlying166
  a171 := Tryz.isAgg166
  z171 := Tryz.sizeOf166
  v171 := Tryz.zeroValue166
  t173 := Tryz.underlying169
  a173 := Tryz.isAgg169
  z173 := Tryz.sizeOf169
  v173 := Tryz.zeroValue169
  t212 := Tryz.underlying174
  a212 := Tryz.isAgg174
  z212 := Tryz.sizeOf174
  v212 := Tryz.zeroValue174
  t213 := Tryz.underlying175
  a213 := Tryz.isAgg175
  z213 := Tryz.sizeOf175
  t232 := Tryz.underlying193
  a232 := Tryz.isAgg193
  z232 := Tryz.sizeOf193
  v232 := Tryz.zeroValue193
  t233 := Tryz.underlying194
  a233 := Tryz.isAgg194
  z233 := Tryz.sizeOf194
  v233 := Tryz.zeroValue194
  g17 := by kernel_rfl
  g18 := by kernel_rfl
  g19 := by kernel_rfl
  i0 := by kernel_rfl
  i2 := by kernel_rfl
  i3 := by kernel_rfl
  i4 := by kernel_rfl
  i5 := by kernel_rfl
  i9 := by kernel_rfl
  i20 := by kernel_rfl
  i37 := by kernel_rfl
  i46 := by kernel_rfl
  i51 := by kernel_rfl
  i53 := by kernel_rfl
  i171 := by kernel_rfl
  i173 := by kernel_rfl
  i212 := by kernel_rfl
  i232 := by kernel_rfl
  i233 := by kernel_rfl
  m17 := by kernel_rfl
  m18 := by kernel_rfl
  m19 := by kernel_rfl }
open Go.RowKit Go.Sort Go.Lib in
/-- internal/strconv.FormatInt: "FormatInt returns the string representation of i in the given base": AT BASE 10: i's decimal numeral, for every int64. The world behind the call: the world before it, new blocks behind the heap, draws. (LAID: no walk: one application.) -/
theorem Tryz.internal_strconv_FormatInt_10 (n : Int) (h0 : -9223372036854775808 ≤ n) (h1 : n ≤ 9223372036854775807) (w : World) (htab : Lib.TabIs Tryz.prog w "internal/strconv.uint64pow10" .u64 Lib.pow10Tab) :
    Calls Tryz.prog 104 #[.int .i64 n, .int .i64 10] w fun e w' => e = .returned (.string ⟨(Lib.itoa n).toArray⟩) ∧ ∃ k os, w' = grow (w.drewN k) os := Any.internal_strconv_FormatInt_10 Tryz.laysM246 n h0 h1 w htab
def Tryz.lays246_ren : Go.Shelf.Ren := ⟨fun | 246 => 104 | 283 => 111 | 284 => 112 | 285 => 113 | 286 => 114 | 129 => 123 | 317 => 122 | 318 => 124 | 319 => 125 | 320 => 126 | 337 => 136 | 338 => 137 | n => n, fun | 2 => 2 | 3 => 3 | 9 => 9 | 4 => 4 | 171 => 166 | 0 => 0 | 53 => 109 | 37 => 22 | 5 => 5 | 173 => 169 | 212 => 174 | 51 => 142 | 20 => 20 | 213 => 175 | 46 => 147 | 232 => 193 | 233 => 194 | n => n, fun | 17 => 6 | 18 => 9 | 19 => 10 | n => n⟩
theorem Tryz.lays246 : Go.Proofs.Lays.n246 Tryz.prog Tryz.lays246_ren := {
  mixed := by kernel_rfl
  f129 := Tryz.func123.trans (congrArg some (by kernel_rfl))
  f246 := Tryz.func104.trans (congrArg some (by kernel_rfl))
  f283 := Tryz.func111.trans (congrArg some (by kernel_rfl))
  f284 := Tryz.func112.trans (congrArg some (by kernel_rfl))
  f285 := Tryz.func113.trans (congrArg some (by kernel_rfl))
  f286 := Tryz.func114.trans (congrArg some (by kernel_rfl))
  f317 := Tryz.func122.trans (congrArg some (by kernel_rfl))
  f318 := Tryz.func124.trans (congrArg some (by kernel_rfl))
  f319 := Tryz.func125.trans (congrArg some (by kernel_rfl))
  f320 := Tryz.func126.trans (congrArg some (by kernel_rfl))
  f337 := Tryz.func136.trans (congrArg some (by kernel_rfl))
  f338 := Tryz.func137.trans (congrArg some (by kernel_rfl))
  t0 := Tryz.underlying0
  a0 := Tryz.isAgg0
  z0 := Tryz.sizeOf0
  v0 := Tryz.zeroValue0
  t2 := Tryz.underlying2
  a2 := Tryz.isAgg2
  z2 := Tryz.sizeOf2
  v2 := Tryz.zeroValue2
  t3 := Tryz.underlying3
  a3 := Tryz.isAgg3
  z3 := Tryz.sizeOf3
  v3 := Tryz.zeroValue3
  t4 := Tryz.underlying4
  a4 := Tryz.isAgg4
  z4 := Tryz.sizeOf4
  v4 := Tryz.zeroValue4
  t5 := Tryz.underlying5
  a5 := Tryz.isAgg5
  z5 := Tryz.sizeOf5
  v5 := Tryz.zeroValue5
  t9 := Tryz.underlying9
  a9 := Tryz.isAgg9
  z9 := Tryz.sizeOf9
  v9 := Tryz.zeroValue9
  t20 := Tryz.underlying20
  a20 := Tryz.isAgg20
  z20 := Tryz.sizeOf20
  v20 := Tryz.zeroValue20
  t37 := Tryz.underlying22
  a37 := Tryz.isAgg22
  z37 := Tryz.sizeOf22
  v37 := Tryz.zeroValue22
  t46 := Tryz.underlying147
  a46 := Tryz.isAgg147
  z46 := Tryz.sizeOf147
  v46 := Tryz.zeroValue147
  t51 := Tryz.underlying142
  a51 := Tryz.isAgg142
  z51 := Tryz.sizeOf142
  v51 := Tryz.zeroValue142
  t53 := Tryz.underlying109
  a53 := Tryz.isAgg109
  z53 := Tryz.sizeOf109
  v53 := Tryz.zeroValue109
  t171 := Tryz.underlying166
  a171 := Tryz.isAgg166
  z171 := Tryz.sizeOf166
  v171 := Tryz.zeroValue166
  t173 := Tryz.underlying169
  a173 := Tryz.isAgg169
  z173 := Tryz.sizeOf169
  v173 := Tryz.zeroValue169
  t212 := Tryz.underlying174
  a212 := Tryz.isAgg174
  z212 := Tryz.sizeOf174
  v212 := Tryz.zeroValue174
  t213 := Tryz.underlying175
  a213 := Tryz.isAgg175
  z213 := Tryz.sizeOf175
  t232 := Tryz.underlying193
  a232 := Tryz.isAgg193
  z232 := Tryz.sizeOf193
  v232 := Tryz.zeroValue193
  t233 := Tryz.underlying194
  a233 := Tryz.isAgg194
  z233 := Tryz.sizeOf194
  v233 := Tryz.zeroValue194
  g17 := by kernel_rfl
  g18 := by kernel_rfl
  g19 := by kernel_rfl }
open Go.RowKit Go.Sort Go.Lib in
/-- THE ROAD WITHOUT THE TABLE: 0 <= i < 100: two constants are read, nothing is laid: no premise on the world, and the world is as it was. (LAID: no walk: one application.) -/
theorem Tryz.internal_strconv_FormatInt_10_small (i : Nat) (hi : i < 100) (w : World) :
    Calls Tryz.prog 104 #[.int .i64 i, .int .i64 10] w fun e w' => e = .returned (.string ⟨(Lib.decDigits i).toArray⟩) ∧ w' = w := Any.internal_strconv_FormatInt_10_small Tryz.lays246 i hi w
def Tryz.laysM243_ren : Go.Shelf.Ren := ⟨fun | 243 => 93 | 246 => 104 | 283 => 111 | 284 => 112 | 285 => 113 | 286 => 114 | 129 => 123 | 317 => 122 | 318 => 124 | 319 => 125 | 320 => 126 | 337 => 136 | 338 => 137 | n => n, fun | 3 => 3 | 9 => 9 | 2 => 2 | 4 => 4 | 171 => 166 | 0 => 0 | 53 => 109 | 37 => 22 | 5 => 5 | 173 => 169 | 212 => 174 | 51 => 142 | 20 => 20 | 213 => 175 | 46 => 147 | 232 => 193 | 233 => 194 | n => n, fun | 17 => 6 | 18 => 9 | 19 => 10 | n => n⟩
theorem Tryz.laysM243 : Go.Proofs.LaysM.n243 Tryz.prog Tryz.laysM243_ren := {
  mixed := by kernel_rfl
  f129 := Tryz.func123.trans (congrArg some (by kernel_rfl))
  f243 := Tryz.func93.trans (congrArg some (by kernel_rfl))
  f246 := Tryz.func104.trans (congrArg some (by kernel_rfl))
  f283 := Tryz.func111.trans (congrArg some (by kernel_rfl))
  f284 := Tryz.func112.trans (congrArg some (by kernel_rfl))
  f285 := Tryz.func113.trans (congrArg some (by kernel_rfl))
  f286 := Tryz.func114.trans (congrArg some (by kernel_rfl))
  f317 := Tryz.func122.trans (congrArg some (by kernel_rfl))
  f318 := Tryz.func124.trans (congrArg some (by kernel_rfl))
  f319 := Tryz.func125.trans (congrArg some (by kernel_rfl))
  f320 := Tryz.func126.trans (congrArg some (by kernel_rfl))
  f337 := Tryz.func136.trans (congrArg some (by kernel_rfl))
  f338 := Tryz.func137.trans (congrArg some (by kernel_rfl))
  t0 := Tryz.underlying0
  a0 := Tryz.isAgg0
  z0 := Tryz.sizeOf0
  v0 := Tryz.zeroValue0
  t2 := Tryz.underlying2
  a2 := Tryz.isAgg2
  z2 := Tryz.sizeOf2
  v2 := Tryz.zeroValue2
  t3 := Tryz.underlying3
  a3 := Tryz.isAgg3
  z3 := Tryz.sizeOf3
  v3 := Tryz.zeroValue3
  t4 := Tryz.underlying4
  a4 := Tryz.isAgg4
  z4 := Tryz.sizeOf4
  v4 := Tryz.zeroValue4
  t5 := Tryz.underlying5
  a5 := Tryz.isAgg5
  z5 := Tryz.sizeOf5
  v5 := Tryz.zeroValue5
  t9 := Tryz.underlying9
  a9 := Tryz.isAgg9
  z9 := Tryz.sizeOf9
  v9 := Tryz.zeroValue9
  t20 := Tryz.underlying20
  a20 := Tryz.isAgg20
  z20 := Tryz.sizeOf20
  v20 := Tryz.zeroValue20
  t37 := Tryz.underlying22
  a37 := Tryz.isAgg22
  z37 := Tryz.sizeOf22
  v37 := Tryz.zeroValue22
  t46 := Tryz.underlying147
  a46 := Tryz.isAgg147
  z46 := Tryz.sizeOf147
  v46 := Tryz.zeroValue147
  t51 := Tryz.underlying142
  a51 := Tryz.isAgg142
  z51 := Tryz.sizeOf142
  v51 := Tryz.zeroValue142
  t53 := Tryz.underlying109
  a53 := Tryz.isAgg109
  z53 := Tryz.sizeOf109
  v53 := Tryz.zeroValue109
  t171 := Tryz.underlying166
  a171 := Tryz.isAgg166
  z171 := Tryz.sizeOf166
  v171 := Tryz.zeroValue166
  t173 := Tryz.underlying169
  a173 := Tryz.isAgg169
  z173 := Tryz.sizeOf169
  v173 := Tryz.zeroValue169
  t212 := Tryz.underlying174
  a212 := Tryz.isAgg174
  z212 := Tryz.sizeOf174
  v212 := Tryz.zeroValue174
  t213 := Tryz.underlying175
  a213 := Tryz.isAgg175
  z213 := Tryz.sizeOf175
  t232 := Tryz.underlying193
  a232 := Tryz.isAgg193
  z232 := Tryz.sizeOf193
  v232 := Tryz.zeroValue193
  t233 := Tryz.underlying194
  a233 := Tryz.isAgg194
  z233 := Tryz.sizeOf194
  v233 := Tryz.zeroValue194
  g17 := by kernel_rfl
  g18 := by kernel_rfl
  g19 := by kernel_rfl
  i0 := by kernel_rfl
  i2 := by kernel_rfl
  i3 := by kernel_rfl
  i4 := by kernel_rfl
  i5 := by kernel_rfl
  i9 := by kernel_rfl
  i20 := by kernel_rfl
  i37 := by kernel_rfl
  i46 := by kernel_rfl
  i51 := by kernel_rfl
  i53 := by kernel_rfl
  i171 := by kernel_rfl
  i173 := by kernel_rfl
  i212 := by kernel_rfl
  i232 := by kernel_rfl
  i233 := by kernel_rfl
  m17 := by kernel_rfl
  m18 := by kernel_rfl
  m19 := by kernel_rfl }
open Go.RowKit Go.Sort Go.Lib in
/-- internal/strconv.Itoa: "Itoa is equivalent to FormatInt(int64(i), 10).": i's decimal numeral, for every int. (LAID: no walk: one application.) -/
theorem Tryz.internal_strconv_Itoa (n : Int) (h0 : -9223372036854775808 ≤ n) (h1 : n ≤ 9223372036854775807) (w : World) (htab : Lib.TabIs Tryz.prog w "internal/strconv.uint64pow10" .u64 Lib.pow10Tab) :
    Calls Tryz.prog 93 #[.int .i64 n] w fun e w' => e = .returned (.string ⟨(Lib.itoa n).toArray⟩) ∧ ∃ k os, w' = grow (w.drewN k) os := Any.internal_strconv_Itoa Tryz.laysM243 n h0 h1 w htab
def Tryz.lays243_ren : Go.Shelf.Ren := ⟨fun | 243 => 93 | 246 => 104 | 283 => 111 | 284 => 112 | 285 => 113 | 286 => 114 | 129 => 123 | 317 => 122 | 318 => 124 | 319 => 125 | 320 => 126 | 337 => 136 | 338 => 137 | n => n, fun | 3 => 3 | 9 => 9 | 2 => 2 | 4 => 4 | 171 => 166 | 0 => 0 | 53 => 109 | 37 => 22 | 5 => 5 | 173 => 169 | 212 => 174 | 51 => 142 | 20 => 20 | 213 => 175 | 46 => 147 | 232 => 193 | 233 => 194 | n => n, fun | 17 => 6 | 18 => 9 | 19 => 10 | n => n⟩
theorem Tryz.lays243 : Go.Proofs.Lays.n243 Tryz.prog Tryz.lays243_ren := {
  mixed := by kernel_rfl
  f129 := Tryz.func123.trans (congrArg some (by kernel_rfl))
  f243 := Tryz.func93.trans (congrArg some (by kernel_rfl))
  f246 := Tryz.func104.trans (congrArg some (by kernel_rfl))
  f283 := Tryz.func111.trans (congrArg some (by kernel_rfl))
  f284 := Tryz.func112.trans (congrArg some (by kernel_rfl))
  f285 := Tryz.func113.trans (congrArg some (by kernel_rfl))
  f286 := Tryz.func114.trans (congrArg some (by kernel_rfl))
  f317 := Tryz.func122.trans (congrArg some (by kernel_rfl))
  f318 := Tryz.func124.trans (congrArg some (by kernel_rfl))
  f319 := Tryz.func125.trans (congrArg some (by kernel_rfl))
  f320 := Tryz.func126.trans (congrArg some (by kernel_rfl))
  f337 := Tryz.func136.trans (congrArg some (by kernel_rfl))
  f338 := Tryz.func137.trans (congrArg some (by kernel_rfl))
  t0 := Tryz.underlying0
  a0 := Tryz.isAgg0
  z0 := Tryz.sizeOf0
  v0 := Tryz.zeroValue0
  t2 := Tryz.underlying2
  a2 := Tryz.isAgg2
  z2 := Tryz.sizeOf2
  v2 := Tryz.zeroValue2
  t3 := Tryz.underlying3
  a3 := Tryz.isAgg3
  z3 := Tryz.sizeOf3
  v3 := Tryz.zeroValue3
  t4 := Tryz.underlying4
  a4 := Tryz.isAgg4
  z4 := Tryz.sizeOf4
  v4 := Tryz.zeroValue4
  t5 := Tryz.underlying5
  a5 := Tryz.isAgg5
  z5 := Tryz.sizeOf5
  v5 := Tryz.zeroValue5
  t9 := Tryz.underlying9
  a9 := Tryz.isAgg9
  z9 := Tryz.sizeOf9
  v9 := Tryz.zeroValue9
  t20 := Tryz.underlying20
  a20 := Tryz.isAgg20
  z20 := Tryz.sizeOf20
  v20 := Tryz.zeroValue20
  t37 := Tryz.underlying22
  a37 := Tryz.isAgg22
  z37 := Tryz.sizeOf22
  v37 := Tryz.zeroValue22
  t46 := Tryz.underlying147
  a46 := Tryz.isAgg147
  z46 := Tryz.sizeOf147
  v46 := Tryz.zeroValue147
  t51 := Tryz.underlying142
  a51 := Tryz.isAgg142
  z51 := Tryz.sizeOf142
  v51 := Tryz.zeroValue142
  t53 := Tryz.underlying109
  a53 := Tryz.isAgg109
  z53 := Tryz.sizeOf109
  v53 := Tryz.zeroValue109
  t171 := Tryz.underlying166
  a171 := Tryz.isAgg166
  z171 := Tryz.sizeOf166
  v171 := Tryz.zeroValue166
  t173 := Tryz.underlying169
  a173 := Tryz.isAgg169
  z173 := Tryz.sizeOf169
  v173 := Tryz.zeroValue169
  t212 := Tryz.underlying174
  a212 := Tryz.isAgg174
  z212 := Tryz.sizeOf174
  v212 := Tryz.zeroValue174
  t213 := Tryz.underlying175
  a213 := Tryz.isAgg175
  z213 := Tryz.sizeOf175
  t232 := Tryz.underlying193
  a232 := Tryz.isAgg193
  z232 := Tryz.sizeOf193
  v232 := Tryz.zeroValue193
  t233 := Tryz.underlying194
  a233 := Tryz.isAgg194
  z233 := Tryz.sizeOf194
  v233 := Tryz.zeroValue194
  g17 := by kernel_rfl
  g18 := by kernel_rfl
  g19 := by kernel_rfl }
open Go.RowKit Go.Sort Go.Lib in
/-- THE ROAD WITHOUT THE TABLE: 0 <= i < 100. (LAID: no walk: one application.) -/
theorem Tryz.internal_strconv_Itoa_small (i : Nat) (hi : i < 100) (w : World) :
    Calls Tryz.prog 93 #[.int .i64 i] w fun e w' => e = .returned (.string ⟨(Lib.decDigits i).toArray⟩) ∧ w' = w := Any.internal_strconv_Itoa_small Tryz.lays243 i hi w
def Tryz.laysM171_ren : Go.Shelf.Ren := ⟨fun | 171 => 74 | 243 => 93 | 246 => 104 | 283 => 111 | 284 => 112 | 285 => 113 | 286 => 114 | 129 => 123 | 317 => 122 | 318 => 124 | 319 => 125 | 320 => 126 | 337 => 136 | 338 => 137 | n => n, fun | 3 => 3 | 9 => 9 | 2 => 2 | 4 => 4 | 171 => 166 | 0 => 0 | 53 => 109 | 37 => 22 | 5 => 5 | 173 => 169 | 212 => 174 | 51 => 142 | 20 => 20 | 213 => 175 | 46 => 147 | 232 => 193 | 233 => 194 | n => n, fun | 17 => 6 | 18 => 9 | 19 => 10 | n => n⟩
theorem Tryz.laysM171 : Go.Proofs.LaysM.n171 Tryz.prog Tryz.laysM171_ren := {
  mixed := by kernel_rfl
  f129 := Tryz.func123.trans (congrArg some (by kernel_rfl))
  f171 := Tryz.func74.trans (congrArg some (by kernel_rfl))
  f243 := Tryz.func93.trans (congrArg some (by kernel_rfl))
  f246 := Tryz.func104.trans (congrArg some (by kernel_rfl))
  f283 := Tryz.func111.trans (congrArg some (by kernel_rfl))
  f284 := Tryz.func112.trans (congrArg some (by kernel_rfl))
  f285 := Tryz.func113.trans (congrArg some (by kernel_rfl))
  f286 := Tryz.func114.trans (congrArg some (by kernel_rfl))
  f317 := Tryz.func122.trans (congrArg some (by kernel_rfl))
  f318 := Tryz.func124.trans (congrArg some (by kernel_rfl))
  f319 := Tryz.func125.trans (congrArg some (by kernel_rfl))
  f320 := Tryz.func126.trans (congrArg some (by kernel_rfl))
  f337 := Tryz.func136.trans (congrArg some (by kernel_rfl))
  f338 := Tryz.func137.trans (congrArg some (by kernel_rfl))
  t0 := Tryz.underlying0
  a0 := Tryz.isAgg0
  z0 := Tryz.sizeOf0
  v0 := Tryz.zeroValue0
  t2 := Tryz.underlying2
  a2 := Tryz.isAgg2
  z2 := Tryz.sizeOf2
  v2 := Tryz.zeroValue2
  t3 := Tryz.underlying3
  a3 := Tryz.isAgg3
  z3 := Tryz.sizeOf3
  v3 := Tryz.zeroValue3
  t4 := Tryz.underlying4
  a4 := Tryz.isAgg4
  z4 := Tryz.sizeOf4
  v4 := Tryz.zeroValue4
  t5 := Tryz.underlying5
  a5 := Tryz.isAgg5
  z5 := Tryz.sizeOf5
  v5 := Tryz.zeroValue5
  t9 := Tryz.underlying9
  a9 := Tryz.isAgg9
  z9 := Tryz.sizeOf9
  v9 := Tryz.zeroValue9
  t20 := Tryz.underlying20
  a20 := Tryz.isAgg20
  z20 := Tryz.sizeOf20
  v20 := Tryz.zeroValue20
  t37 := Tryz.underlying22
  a37 := Tryz.isAgg22
  z37 := Tryz.sizeOf22
  v37 := Tryz.zeroValue22
  t46 := Tryz.underlying147
  a46 := Tryz.isAgg147
  z46 := Tryz.sizeOf147
  v46 := Tryz.zeroValue147
  t51 := Tryz.underlying142
  a51 := Tryz.isAgg142
  z51 := Tryz.sizeOf142
  v51 := Tryz.zeroValue142
  t53 := Tryz.underlying109
  a53 := Tryz.isAgg109
  z53 := Tryz.sizeOf109
  v53 := Tryz.zeroValue109
  t171 := Tryz.underlying166
  a171 := Tryz.isAgg166
  z171 := Tryz.sizeOf166
  v171 := Tryz.zeroValue166
  t173 := Tryz.underlying169
  a173 := Tryz.isAgg169
  z173 := Tryz.sizeOf169
  v173 := Tryz.zeroValue169
  t212 := Tryz.underlying174
  a212 := Tryz.isAgg174
  z212 := Tryz.sizeOf174
  v212 := Tryz.zeroValue174
  t213 := Tryz.underlying175
  a213 := Tryz.isAgg175
  z213 := Tryz.sizeOf175
  t232 := Tryz.underlying193
  a232 := Tryz.isAgg193
  z232 := Tryz.sizeOf193
  v232 := Tryz.zeroValue193
  t233 := Tryz.underlying194
  a233 := Tryz.isAgg194
  z233 := Tryz.sizeOf194
  v233 := Tryz.zeroValue194
  g17 := by kernel_rfl
  g18 := by kernel_rfl
  g19 := by kernel_rfl
  i0 := by kernel_rfl
  i2 := by kernel_rfl
  i3 := by kernel_rfl
  i4 := by kernel_rfl
  i5 := by kernel_rfl
  i9 := by kernel_rfl
  i20 := by kernel_rfl
  i37 := by kernel_rfl
  i46 := by kernel_rfl
  i51 := by kernel_rfl
  i53 := by kernel_rfl
  i171 := by kernel_rfl
  i173 := by kernel_rfl
  i212 := by kernel_rfl
  i232 := by kernel_rfl
  i233 := by kernel_rfl
  m17 := by kernel_rfl
  m18 := by kernel_rfl
  m19 := by kernel_rfl }
open Go.RowKit Go.Sort Go.Lib in
/-- strconv.Itoa: "Itoa is equivalent to FormatInt(int64(i), 10).": i's DECIMAL NUMERAL ('Lib.itoa': a '-' where i is negative, then the digits), FOR EVERY int. The world behind the call: the world before it, new blocks behind the heap (the library's 'var a [24]byte'), draws. (LAID: no walk: one application.) -/
theorem Tryz.strconv_Itoa (n : Int) (h0 : -9223372036854775808 ≤ n) (h1 : n ≤ 9223372036854775807) (w : World) (htab : Lib.TabIs Tryz.prog w "internal/strconv.uint64pow10" .u64 Lib.pow10Tab) :
    Calls Tryz.prog 74 #[.int .i64 n] w fun e w' => e = .returned (.string ⟨(Lib.itoa n).toArray⟩) ∧ ∃ k os, w' = grow (w.drewN k) os := Any.strconv_Itoa Tryz.laysM171 n h0 h1 w htab
def Tryz.lays171_ren : Go.Shelf.Ren := ⟨fun | 171 => 74 | 243 => 93 | 246 => 104 | 283 => 111 | 284 => 112 | 285 => 113 | 286 => 114 | 129 => 123 | 317 => 122 | 318 => 124 | 319 => 125 | 320 => 126 | 337 => 136 | 338 => 137 | n => n, fun | 3 => 3 | 9 => 9 | 2 => 2 | 4 => 4 | 171 => 166 | 0 => 0 | 53 => 109 | 37 => 22 | 5 => 5 | 173 => 169 | 212 => 174 | 51 => 142 | 20 => 20 | 213 => 175 | 46 => 147 | 232 => 193 | 233 => 194 | n => n, fun | 17 => 6 | 18 => 9 | 19 => 10 | n => n⟩
theorem Tryz.lays171 : Go.Proofs.Lays.n171 Tryz.prog Tryz.lays171_ren := {
  mixed := by kernel_rfl
  f129 := Tryz.func123.trans (congrArg some (by kernel_rfl))
  f171 := Tryz.func74.trans (congrArg some (by kernel_rfl))
  f243 := Tryz.func93.trans (congrArg some (by kernel_rfl))
  f246 := Tryz.func104.trans (congrArg some (by kernel_rfl))
  f283 := Tryz.func111.trans (congrArg some (by kernel_rfl))
  f284 := Tryz.func112.trans (congrArg some (by kernel_rfl))
  f285 := Tryz.func113.trans (congrArg some (by kernel_rfl))
  f286 := Tryz.func114.trans (congrArg some (by kernel_rfl))
  f317 := Tryz.func122.trans (congrArg some (by kernel_rfl))
  f318 := Tryz.func124.trans (congrArg some (by kernel_rfl))
  f319 := Tryz.func125.trans (congrArg some (by kernel_rfl))
  f320 := Tryz.func126.trans (congrArg some (by kernel_rfl))
  f337 := Tryz.func136.trans (congrArg some (by kernel_rfl))
  f338 := Tryz.func137.trans (congrArg some (by kernel_rfl))
  t0 := Tryz.underlying0
  a0 := Tryz.isAgg0
  z0 := Tryz.sizeOf0
  v0 := Tryz.zeroValue0
  t2 := Tryz.underlying2
  a2 := Tryz.isAgg2
  z2 := Tryz.sizeOf2
  v2 := Tryz.zeroValue2
  t3 := Tryz.underlying3
  a3 := Tryz.isAgg3
  z3 := Tryz.sizeOf3
  v3 := Tryz.zeroValue3
  t4 := Tryz.underlying4
  a4 := Tryz.isAgg4
  z4 := Tryz.sizeOf4
  v4 := Tryz.zeroValue4
  t5 := Tryz.underlying5
  a5 := Tryz.isAgg5
  z5 := Tryz.sizeOf5
  v5 := Tryz.zeroValue5
  t9 := Tryz.underlying9
  a9 := Tryz.isAgg9
  z9 := Tryz.sizeOf9
  v9 := Tryz.zeroValue9
  t20 := Tryz.underlying20
  a20 := Tryz.isAgg20
  z20 := Tryz.sizeOf20
  v20 := Tryz.zeroValue20
  t37 := Tryz.underlying22
  a37 := Tryz.isAgg22
  z37 := Tryz.sizeOf22
  v37 := Tryz.zeroValue22
  t46 := Tryz.underlying147
  a46 := Tryz.isAgg147
  z46 := Tryz.sizeOf147
  v46 := Tryz.zeroValue147
  t51 := Tryz.underlying142
  a51 := Tryz.isAgg142
  z51 := Tryz.sizeOf142
  v51 := Tryz.zeroValue142
  t53 := Tryz.underlying109
  a53 := Tryz.isAgg109
  z53 := Tryz.sizeOf109
  v53 := Tryz.zeroValue109
  t171 := Tryz.underlying166
  a171 := Tryz.isAgg166
  z171 := Tryz.sizeOf166
  v171 := Tryz.zeroValue166
  t173 := Tryz.underlying169
  a173 := Tryz.isAgg169
  z173 := Tryz.sizeOf169
  v173 := Tryz.zeroValue169
  t212 := Tryz.underlying174
  a212 := Tryz.isAgg174
  z212 := Tryz.sizeOf174
  v212 := Tryz.zeroValue174
  t213 := Tryz.underlying175
  a213 := Tryz.isAgg175
  z213 := Tryz.sizeOf175
  t232 := Tryz.underlying193
  a232 := Tryz.isAgg193
  z232 := Tryz.sizeOf193
  v232 := Tryz.zeroValue193
  t233 := Tryz.underlying194
  a233 := Tryz.isAgg194
  z233 := Tryz.sizeOf194
  v233 := Tryz.zeroValue194
  g17 := by kernel_rfl
  g18 := by kernel_rfl
  g19 := by kernel_rfl }
open Go.RowKit Go.Sort Go.Lib in
/-- THE ROAD WITHOUT THE TABLE: 0 <= i < 100: NO PREMISE ON THE WORLD, AND THE WORLD IS AS IT WAS: a row that keeps its argument in that range need list no table ('laid = []'). (LAID: no walk: one application.) -/
theorem Tryz.strconv_Itoa_small (i : Nat) (hi : i < 100) (w : World) :
    Calls Tryz.prog 74 #[.int .i64 i] w fun e w' => e = .returned (.string ⟨(Lib.decDigits i).toArray⟩) ∧ w' = w := Any.strconv_Itoa_small Tryz.lays171 i hi w
end Go.Proofs

/- The program's number's text: impl.NumText gives the decimal numeral, where the library's table of powers of ten lies as its initialiser lays it. -/
namespace Go.Proofs.YtidpcjcnhklmpacGreatDoor
open Go.ChangeShapes Go.WideShapes Go.ChangeAt Go.RowKit Go.Joins

def Tab (w : World) : Prop := Lib.TabIs Tryz.prog w "internal/strconv.uint64pow10" .u64 Lib.pow10Tab

theorem gPow : Tryz.prog.globalNamed "internal/strconv.uint64pow10" = some 6 := by kernel_rfl

theorem grown_below (w : World) (k : Nat) (os : Array Obj) : Below w.heap.size w (Sort.grow (w.drewN k) os) :=
  ⟨rfl, rfl, rfl, by simp [Sort.grow], fun j hj => by
    have hj' : j < (w.drewN k).heap.size := hj
    show ((w.drewN k).heap ++ os)[j]? = w.heap[j]?
    rw [Array.getElem?_append_left hj']
    rfl⟩

theorem Tab.below {w w' : World} {B : Nat} (h : Tab w) (hb : Below B w w') (hB : 6 < B) : Tab w' := by
  unfold Tab Lib.TabIs at h ⊢
  rw [← h]
  unfold World.var?
  simp only [gPow, Option.bind_some]
  rw [hb.block _ hB]

theorem Tab.lt {w : World} (h : Tab w) : 6 < w.heap.size := by
  have := h.cell gPow 0 (by simp [Lib.pow10Tab])
  exact block_lt_of_cell this

set_option maxRecDepth 100000 in
theorem implNum (n : Int) (w : World) (h0 : -9223372036854775808 ≤ n) (h1 : n ≤ 9223372036854775807) (ht : Tab w) :
    Calls Tryz.prog 49 #[.int .i64 n] w fun e w' => e = .returned (.string ⟨(Lib.itoa n).toArray⟩) ∧ Below w.heap.size w w' := by
  have HT : Hid (Tab w) := ht
  clear ht
  go_enter Tryz.func49, Tryz.ntmps49
  go_wp2_with fail
  refine (Tryz.strconv_Itoa n h0 h1 _ HT.out).mono ?_
  rintro e w1 ⟨rfl, k, os, rfl⟩
  have HB := Lib.hid (grown_below w k os)
  generalize Sort.grow (w.drewN k) os = w2 at HB ⊢
  go_wp2
  go_ret
  exact ⟨rfl, HB.out⟩
end Go.Proofs.YtidpcjcnhklmpacGreatDoor

/- The lines of a batch's head and of its sum: the contracts of impl.headLine and impl.sumLine. -/
namespace Go.Proofs.YtidpcjcnhklmpacGreatDoor
open Go.ChangeShapes Go.WideShapes Go.ChangeAt Go.RowKit Go.Joins
attribute [local go_sem ↓] Go.wp_at_zero Go.wp_at_succ

set_option maxRecDepth 100000 in
set_option maxHeartbeats 2000000 in
theorem headLine_any (n : Nat) (w : World) (hn : n ≤ 6) (ht : Tab w) :
    Calls Tryz.prog 23 #[.int .i64 (n : Int)] w fun e w' => e = .returned (.string (str (headB n ++ [10]))) ∧ Below w.heap.size w w' := by
  have HE : Hid ((⟨#[98, 97, 116, 99, 104, 32]⟩ : ByteArray) ++ ⟨(Lib.itoa (n : Int)).toArray⟩ ++ ⟨#[10]⟩ = str (headB n ++ [10])) := by
    have e1 : (⟨#[98, 97, 116, 99, 104, 32]⟩ : ByteArray) = str [98, 97, 116, 99, 104, 32] := rfl
    have e2 : (⟨(Lib.itoa (n : Int)).toArray⟩ : ByteArray) = str (Lib.itoa (n : Int)) := rfl
    have e3 : (⟨#[10]⟩ : ByteArray) = str [10] := rfl
    show _ = _
    rw [e1, e2, e3, str_add, str_add]
    rfl
  have z0 : (⟨(Lib.itoa (n : Int)).toArray⟩ : ByteArray).size ≤ 21 := by
    have := Lib.itoa_length_le (n : Int) (by omega) (by omega)
    simpa [ByteArray.size] using this
  have HT := Lib.hid ht
  clear ht
  go_enter Tryz.func23, Tryz.ntmps23
  go_wp2_with fail
  refine (implNum (n : Int) _ (by omega) (by omega) HT.out).mono ?_
  rintro e w1 ⟨rfl, hb⟩
  have HB := Lib.hid hb
  clear hb
  generalize (⟨(Lib.itoa (n : Int)).toArray⟩ : ByteArray) = t0 at *
  have z1 : ((⟨#[98, 97, 116, 99, 104, 32]⟩ : ByteArray) ++ t0).size ≤ 27 := by
    rw [ByteArray.size_append]
    have : (⟨#[98, 97, 116, 99, 104, 32]⟩ : ByteArray).size = 6 := rfl
    omega
  have z2 : ((⟨#[98, 97, 116, 99, 104, 32]⟩ : ByteArray) ++ t0 ++ ⟨#[10]⟩).size ≤ 28 := by
    rw [ByteArray.size_append]
    have : (⟨#[10]⟩ : ByteArray).size = 1 := rfl
    omega
  go_wp2
  go_ret
  exact ⟨by rw [← HE.out]; rfl, HB.out⟩

/-- The line of the sum of this text. -/
def sumL (bs : List UInt8) : List UInt8 := [115, 117, 109, 32] ++ Lib.itoa (crcL bs : Int)

set_option maxRecDepth 100000 in
theorem sumL_size (bs : List UInt8) : (sumL bs).length ≤ 25 := by
  have h := crcL_bd bs
  have := Lib.itoa_length_le ((crcL bs : Nat) : Int) (by omega) (by omega)
  unfold sumL
  simp
  omega

set_option maxRecDepth 100000 in
set_option maxHeartbeats 2000000 in
theorem sumLine_any (s : ByteArray) (w : World) (hs : s.size ≤ 1048576) (ht : Tab w) :
    Calls Tryz.prog 25 #[.string s] w fun e w' => e = .returned (.string (str (sumL s.data.toList ++ [10]))) ∧ Below w.heap.size w w' := by
  have hcb := crcL_bd s.data.toList
  have HE : Hid ((⟨#[115, 117, 109, 32]⟩ : ByteArray) ++ ⟨(Lib.itoa ((crcL s.data.toList : Nat) : Int)).toArray⟩ ++ ⟨#[10]⟩ = str (sumL s.data.toList ++ [10])) := by
    have e1 : (⟨#[115, 117, 109, 32]⟩ : ByteArray) = str [115, 117, 109, 32] := rfl
    have e2 : (⟨(Lib.itoa ((crcL s.data.toList : Nat) : Int)).toArray⟩ : ByteArray) = str (Lib.itoa ((crcL s.data.toList : Nat) : Int)) := rfl
    have e3 : (⟨#[10]⟩ : ByteArray) = str [10] := rfl
    show _ = _
    rw [e1, e2, e3, str_add, str_add]
    rfl
  have z0 : (⟨(Lib.itoa ((crcL s.data.toList : Nat) : Int)).toArray⟩ : ByteArray).size ≤ 21 := by
    have := Lib.itoa_length_le ((crcL s.data.toList : Nat) : Int) (by omega) (by omega)
    simpa [ByteArray.size] using this
  have HT := Lib.hid ht
  clear ht
  go_enter Tryz.func25, Tryz.ntmps25
  go_wp2_with fail
  refine (implCrc_any s _ (by omega)).mono ?_
  rintro e w1 ⟨rfl, hw⟩
  subst w1
  go_wp2_with fail
  refine (implNum ((crcL s.data.toList : Nat) : Int) _ (by omega) (by omega) HT.out).mono ?_
  rintro e w1 ⟨rfl, hb⟩
  have HB := Lib.hid hb
  clear hb
  generalize (⟨(Lib.itoa ((crcL s.data.toList : Nat) : Int)).toArray⟩ : ByteArray) = t0 at *
  have z1 : ((⟨#[115, 117, 109, 32]⟩ : ByteArray) ++ t0).size ≤ 25 := by
    rw [ByteArray.size_append]
    have : (⟨#[115, 117, 109, 32]⟩ : ByteArray).size = 4 := rfl
    omega
  have z2 : ((⟨#[115, 117, 109, 32]⟩ : ByteArray) ++ t0 ++ ⟨#[10]⟩).size ≤ 26 := by
    rw [ByteArray.size_append]
    have : (⟨#[10]⟩ : ByteArray).size = 1 := rfl
    omega
  go_wp2
  go_ret
  exact ⟨by rw [← HE.out]; rfl, HB.out⟩

end Go.Proofs.YtidpcjcnhklmpacGreatDoor

/- The contract of spec.l01Words at the blank: the walk. -/
namespace Go.Proofs.YtidpcjcnhklmpacGreatDoor
open Go.ChangeShapes Go.WideShapes Go.ChangeAt Go.RowKit Go.Joins

set_option maxRecDepth 100000 in
set_option maxHeartbeats 8000000 in
theorem words_any (s : ByteArray) (w : World) (hs : s.size ≤ 1048576) :
    Calls Tryz.prog 42 #[.string s, .int .u8 32] w fun e w' => ∃ g cp W, e = .returned (.slice (some ⟨g, 0, none⟩) W.length cp) ∧ W.length ≤ s.size + 1 ∧ NoBlank W ∧ glue W = s.data.toList ++ [32] ∧ StrRow w' w.heap.size g cp W ∧ Below w.heap.size w w' := by
  obtain ⟨i0, hi0, hx0⟩ := Option.map_eq_some_iff.1 infoString
  simp only [Prod.mk.injEq] at hx0
  have HI0 := Lib.hid hi0
  have HX0 := Lib.hid hx0
  clear hi0 hx0
  have hdl : s.data.toList.length = s.size := by simp
  have HDL := Lib.hid hdl
  clear hdl
  go_enter Tryz.func42, Tryz.ntmps42
  go_wp2
  go_loopw [5, 6, 7] (fun o f i wr => ∃ (k fr L g cp : Nat) (W : List ByteArray), k ≤ s.size + 1 ∧ i = .int .i64 k ∧ f = .int .i64 fr ∧ o = .slice (some ⟨g, 0, none⟩) L cp ∧ L ≤ k ∧ Hid (W.length = L) ∧ Hid (SplitTo s.data.toList k fr W) ∧ Hid (StrRow wr w.heap.size g cp W) ∧ Hid (Below w.heap.size w wr)) (fun _ _ i _ => s.size + 1 - (intOf i).toNat)
  case atStart => exact ⟨0, 0, 0, w.heap.size, 0, [], Nat.zero_le _, rfl, rfl, rfl, Nat.le_refl _, rfl, ⟨fun x hx => by simp at hx, .inl ⟨Nat.zero_le _, Nat.le_refl _, rfl, by simp⟩⟩, ⟨Nat.le_refl _, by simp, World.ownsRow_made w #[] 0 (Nat.le_refl _) (by simp [maxLen]) (by simp)⟩, (Below.refl _ _).alloc (Nat.le_refl _) _⟩
  case round =>
    obtain ⟨k, fr, L, g, cp, W, hk, rfl, rfl, rfl, hLk, HL, HS, HR, HB⟩ := hrel
    by_cases hk1 : k ≤ s.size
    · have hfr : fr ≤ k := split_from HS.out (by rw [HDL.out]; exact hk1)
      have j1 : (0 : Int) ≤ (fr : Int) := by omega
      have j2 : (fr : Int) ≤ (k : Int) := by omega
      have j3 : (k : Int) ≤ (s.size : Int) := by omega
      by_cases hk2 : k < s.size
      · have i1 : (0 : Int) ≤ (k : Int) := by omega
        have i2 : (k : Int) < (s.size : Int) := by omega
        have i3 : ¬ (k : Int) = (s.size : Int) := by omega
        have i4 : ((k : Int) == (s.size : Int)) = false := by simp; omega
        by_cases hb : s[k] = 32
        · have i5 : ((s[k].toNat : Int) == 32) = true := by
            rw [hb]
            rfl
          have HS8 := Lib.hid (split_word HS.out hk2 hb)
          clear HS hb
          have HBA : Hid (Below wr.heap.size wr (wr.alloc (.cells #[.string (s.extract fr k)] 9))) := (Below.refl _ _).alloc (Nat.le_refl _) _
          have HOW : Hid ((wr.alloc (.cells #[.string (s.extract fr k)] 9)).ownsRow w.heap.size 9 1 (.slice (some ⟨g, 0, none⟩) L cp) L (W.map Value.string)) := by
            have := (HR.out.below HBA.out).own
            rw [HL.out] at this
            exact this
          have hsz : w.heap.size ≤ wr.heap.size := HB.out.size
          go_wp2_with (at_builtin; refine wpList_append_lies _ (by rfl) _ _ _ (by rfl) w.heap.size 9 i0 (.string ⟨#[]⟩) 1 16 Tryz.underlying92 HI0.out HX0.out.1 HX0.out.2.1 HX0.out.2.2 (by rfl) (by omega) (.slice (some ⟨g, 0, none⟩) L cp) L (W.map Value.string) (by rfl) HOW.out ⟨wr.heap.size, 0, none⟩ 1 1 [.string (s.extract fr k)] (by rfl) (by rfl) (World.news_of_block (cs := #[.string (s.extract fr k)]) (t := 9) (fr := (0, 0)) (heap_alloc_new wr _)) (by simp [Value.oneCell']) (by omega) (by unfold maxLen; omega) (by omega) (by simp; omega) _ rfl ?_; intro g3 cp3 W5 hown hgrow hg3 _; refine Hid.out ?_)
          refine Lib.hid ?_
          have HL8 : Hid ((W ++ [s.extract fr k]).length = L + 1) := by
            rw [List.length_append, HL.out]
            exact Lib.hid rfl
          have HR8 : Hid (StrRow W5 w.heap.size g3 cp3 (W ++ [s.extract fr k])) := by
            refine ⟨(hown.lt g3 rfl).1, (hown.lt g3 rfl).2, ?_⟩
            rw [HL8.out, List.map_append]
            exact hown
          have hgw : w.heap.size ≤ g := HR.out.le
          have HB8 : Hid (Below w.heap.size w W5) := (HB.out.alloc hsz _).grown hgrow (by simp; omega) (fun j hj => by
            simp only [Value.ownBlock, Option.some.injEq] at hj
            omega)
          clear hown hgrow HBA HOW HL HR HB
          go_wp2
          exact ⟨⟨k + 1, k + 1, L + 1, g3, cp3, _, by omega, by go_num, by go_num, rfl, by omega, HL8, HS8, HR8, HB8⟩, by simp [intOf]; omega⟩
        · have i5 : ((s[k].toNat : Int) == 32) = false := by
            simp only [beq_eq_false_iff_ne]
            intro h
            exact hb (UInt8.toNat_inj.1 (by have : s[k].toNat = 32 := by omega
                                            rw [this]; rfl))
          have HS8 := Lib.hid (split_go HS.out hk2 hb)
          clear HS hb
          go_wp2
          exact ⟨⟨k + 1, fr, L, g, cp, W, by omega, by go_num, rfl, rfl, by omega, HL, HS8, HR, HB⟩, by simp [intOf]; omega⟩
      · have hke : k = s.size := by omega
        subst hke
        have HS8 := Lib.hid (split_last HS.out)
        clear HS hk1 hk2 j3
        have HBA : Hid (Below wr.heap.size wr (wr.alloc (.cells #[.string (s.extract fr s.size)] 9))) := (Below.refl _ _).alloc (Nat.le_refl _) _
        have HOW : Hid ((wr.alloc (.cells #[.string (s.extract fr s.size)] 9)).ownsRow w.heap.size 9 1 (.slice (some ⟨g, 0, none⟩) L cp) L (W.map Value.string)) := by
          have := (HR.out.below HBA.out).own
          rw [HL.out] at this
          exact this
        have hsz : w.heap.size ≤ wr.heap.size := HB.out.size
        go_wp2_with (at_builtin; refine wpList_append_lies _ (by rfl) _ _ _ (by rfl) w.heap.size 9 i0 (.string ⟨#[]⟩) 1 16 Tryz.underlying92 HI0.out HX0.out.1 HX0.out.2.1 HX0.out.2.2 (by rfl) (by omega) (.slice (some ⟨g, 0, none⟩) L cp) L (W.map Value.string) (by rfl) HOW.out ⟨wr.heap.size, 0, none⟩ 1 1 [.string (s.extract fr s.size)] (by rfl) (by rfl) (World.news_of_block (cs := #[.string (s.extract fr s.size)]) (t := 9) (fr := (0, 0)) (heap_alloc_new wr _)) (by simp [Value.oneCell']) (by omega) (by unfold maxLen; omega) (by omega) (by simp; omega) _ rfl ?_; intro g3 cp3 W5 hown hgrow hg3 _; refine Hid.out ?_)
        refine Lib.hid ?_
        have HL8 : Hid ((W ++ [s.extract fr s.size]).length = L + 1) := by
          rw [List.length_append, HL.out]
          exact Lib.hid rfl
        have HR8 : Hid (StrRow W5 w.heap.size g3 cp3 (W ++ [s.extract fr s.size])) := by
          refine ⟨(hown.lt g3 rfl).1, (hown.lt g3 rfl).2, ?_⟩
          rw [HL8.out, List.map_append]
          exact hown
        have hgw : w.heap.size ≤ g := HR.out.le
        have HB8 : Hid (Below w.heap.size w W5) := (HB.out.alloc hsz _).grown hgrow (by simp; omega) (fun j hj => by
          simp only [Value.ownBlock, Option.some.injEq] at hj
          omega)
        clear hown hgrow HBA HOW HL HR HB
        go_wp2
        exact ⟨⟨s.size + 1, s.size + 1, L + 1, g3, cp3, _, by omega, by go_num, by go_num, rfl, by omega, HL8, HS8, HR8, HB8⟩, by simp [intOf]⟩
    · have hke : k = s.size + 1 := by omega
      subst hke
      obtain ⟨hnb, hgl⟩ : NoBlank W ∧ glue W = s.data.toList ++ [32] := by
        obtain ⟨h1, ⟨h2, _⟩ | ⟨_, h3⟩⟩ := HS.out
        · have := HDL.out
          omega
        · exact ⟨h1, h3⟩
      have HNB := Lib.hid hnb
      have HGL := Lib.hid hgl
      have j4 : ¬ ((s.size + 1 : Nat) : Int) ≤ (s.size : Int) := by omega
      clear hnb hgl HS
      go_wp2
      go_ret
      exact ⟨g, cp, W, by rw [HL.out]; rfl, by rw [HL.out]; exact hLk, HNB.out, HGL.out, HR.out, HB.out⟩

end Go.Proofs.YtidpcjcnhklmpacGreatDoor
