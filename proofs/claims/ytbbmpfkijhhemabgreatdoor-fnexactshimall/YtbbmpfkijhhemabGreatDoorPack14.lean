import Derived.Test.YtbbmpfkijhhemabGreatDoorPack9
import Derived.Test.YtbbmpfkijhhemabGreatDoorPack12
import Derived.Test.YtbbmpfkijhhemabGreatDoorPack13
import Derived.Test.YtbbmpfkijhhemabGreatDoorPack7
import Derived.Shelf.Strings.Search3
import Derived.Shelf.Strings.Prefix
import Derived.Test.YtbbmpfkijhhemabGreatDoorProg
import Derived.Test.YtbbmpfkijhhemabGreatDoorPack8
import Derived.Test.YtbbmpfkijhhemabGreatDoorPack10
import Derived.BigQuiet
/- A shim's box written to, and apart from rows of writes; what a log says of a site's own writes: plain facts. -/
namespace Go.Proofs.YtbbmpfkijhhemabGreatDoor
open Go.ChangeShapes Go.WideShapes Go.ChangeAt Go.RowKit Go.Joins

set_option maxRecDepth 100000 in
theorem SBox.set0 {w : World} {b : Nat} {si cl sq la : Int} {a : Option Addr} {n cap : Nat} {t : ByteArray} (h : SBox w b si cl sq la a n cap t) (x : Int) : SBox (w.setCell ⟨b, 0, none⟩ (.int .i64 x)) b x cl sq la a n cap t := ⟨by simpa [World.setCell] using h.lt, cell_set_same h.c0, cell_set_off h.c1 (by omega), cell_set_off h.c2 (by omega), cell_set_off h.c3 (by omega), cell_set_off h.c4 (by omega), cell_set_off h.c5 (by omega), fun o => by rw [World.frozen?_setCell]; exact h.fz o⟩

set_option maxRecDepth 100000 in
theorem SBox.set1 {w : World} {b : Nat} {si cl sq la : Int} {a : Option Addr} {n cap : Nat} {t : ByteArray} (h : SBox w b si cl sq la a n cap t) (x : Int) : SBox (w.setCell ⟨b, 1, none⟩ (.int .i64 x)) b si x sq la a n cap t := ⟨by simpa [World.setCell] using h.lt, cell_set_off h.c0 (by omega), cell_set_same h.c1, cell_set_off h.c2 (by omega), cell_set_off h.c3 (by omega), cell_set_off h.c4 (by omega), cell_set_off h.c5 (by omega), fun o => by rw [World.frozen?_setCell]; exact h.fz o⟩

set_option maxRecDepth 100000 in
theorem SBox.set2 {w : World} {b : Nat} {si cl sq la : Int} {a : Option Addr} {n cap : Nat} {t : ByteArray} (h : SBox w b si cl sq la a n cap t) (x : Int) : SBox (w.setCell ⟨b, 2, none⟩ (.int .i64 x)) b si cl x la a n cap t := ⟨by simpa [World.setCell] using h.lt, cell_set_off h.c0 (by omega), cell_set_off h.c1 (by omega), cell_set_same h.c2, cell_set_off h.c3 (by omega), cell_set_off h.c4 (by omega), cell_set_off h.c5 (by omega), fun o => by rw [World.frozen?_setCell]; exact h.fz o⟩

set_option maxRecDepth 100000 in
theorem SBox.set3 {w : World} {b : Nat} {si cl sq la : Int} {a : Option Addr} {n cap : Nat} {t : ByteArray} (h : SBox w b si cl sq la a n cap t) (x : Int) : SBox (w.setCell ⟨b, 3, none⟩ (.int .i64 x)) b si cl sq x a n cap t := ⟨by simpa [World.setCell] using h.lt, cell_set_off h.c0 (by omega), cell_set_off h.c1 (by omega), cell_set_off h.c2 (by omega), cell_set_same h.c3, cell_set_off h.c4 (by omega), cell_set_off h.c5 (by omega), fun o => by rw [World.frozen?_setCell]; exact h.fz o⟩

set_option maxRecDepth 100000 in
theorem SBox.set4 {w : World} {b : Nat} {si cl sq la : Int} {a : Option Addr} {n cap : Nat} {t : ByteArray} (h : SBox w b si cl sq la a n cap t) (a' : Option Addr) (n' cap' : Nat) : SBox (w.setCell ⟨b, 4, none⟩ (.slice a' n' cap')) b si cl sq la a' n' cap' t := ⟨by simpa [World.setCell] using h.lt, cell_set_off h.c0 (by omega), cell_set_off h.c1 (by omega), cell_set_off h.c2 (by omega), cell_set_off h.c3 (by omega), cell_set_same h.c4, cell_set_off h.c5 (by omega), fun o => by rw [World.frozen?_setCell]; exact h.fz o⟩

set_option maxRecDepth 100000 in
theorem SBox.set5 {w : World} {b : Nat} {si cl sq la : Int} {a : Option Addr} {n cap : Nat} {t : ByteArray} (h : SBox w b si cl sq la a n cap t) (t' : ByteArray) : SBox (w.setCell ⟨b, 5, none⟩ (.string t')) b si cl sq la a n cap t' := ⟨by simpa [World.setCell] using h.lt, cell_set_off h.c0 (by omega), cell_set_off h.c1 (by omega), cell_set_off h.c2 (by omega), cell_set_off h.c3 (by omega), cell_set_off h.c4 (by omega), cell_set_same h.c5, fun o => by rw [World.frozen?_setCell]; exact h.fz o⟩

/-- A shim stored as a whole. -/
def putS (w : World) (b : Nat) (si cl sq la : Int) (a : Option Addr) (n cap : Nat) (t : ByteArray) : World := (((((w.setCell ⟨b, 0, none⟩ (.int .i64 si)).setCell ⟨b, 1, none⟩ (.int .i64 cl)).setCell ⟨b, 2, none⟩ (.int .i64 sq)).setCell ⟨b, 3, none⟩ (.int .i64 la)).setCell ⟨b, 4, none⟩ (.slice a n cap)).setCell ⟨b, 5, none⟩ (.string t)

set_option maxRecDepth 100000 in
theorem hole_putS {B : Nat} {w w' : World} (h : Hole B w w') (si cl sq la : Int) (a : Option Addr) (n cap : Nat) (t : ByteArray) : Hole B w (putS w' B si cl sq la a n cap t) := (((((h.set 0 _).set 1 _).set 2 _).set 3 _).set 4 _).set 5 _

set_option maxRecDepth 100000 in
theorem sbox_putS {w : World} {b : Nat} {si cl sq la : Int} {a : Option Addr} {n cap : Nat} {t : ByteArray} (h : SBox w b si cl sq la a n cap t) (si' cl' sq' la' : Int) (a' : Option Addr) (n' cap' : Nat) (t' : ByteArray) : SBox (putS w b si' cl' sq' la' a' n' cap' t') b si' cl' sq' la' a' n' cap' t' := (((((h.set0 si').set1 cl').set2 sq').set3 la').set4 a' n' cap').set5 t'

/-- The cells of the zero shim. -/
def zeroSh : Array Value := #[.int .i64 0, .int .i64 0, .int .i64 0, .int .i64 0, .slice none 0 0, .string ⟨#[]⟩]

set_option maxRecDepth 100000 in
theorem sbox_zero {w : World} {b ty : Nat} (h : w.heap[b]? = some (.cells zeroSh ty (0, 0))) : SBox w b 0 0 0 0 none 0 0 ⟨#[]⟩ := by
  have hlt : b < w.heap.size := (Array.getElem?_eq_some_iff.1 h).1
  refine ⟨hlt, ?_, ?_, ?_, ?_, ?_, ?_, fun o => by simp [World.frozen?, h]⟩ <;> (rw [cell_of_row _ _ _ _ ty (0, 0) h]; rfl)

/-- A new shim's block. -/
def ShimF (lo : Nat) : Fact := fun v w => ∃ b, v = .pointer (some ⟨b, 0, none⟩) ∧ lo ≤ b ∧ w.heap[b]? = some (.cells zeroSh 29 (0, 0))

set_option maxRecDepth 100000 in
theorem lasts_shim (lo : Nat) : lasts (fun w w' => Below w.heap.size w w') (ShimF lo) := by
  rintro v w w' ⟨b, h1, h2, h3⟩ hr
  exact ⟨b, h1, h2, (hr.block b (Array.getElem?_eq_some_iff.1 h3).1).trans h3⟩

set_option maxRecDepth 100000 in
theorem shim_mk (w : World) (lo : Nat) (h : lo ≤ w.heap.size) : ShimF lo (.pointer (some ⟨w.heap.size, 0, none⟩)) (w.alloc (.cells #[.int .i64 0, .int .i64 0, .int .i64 0, .int .i64 0, .slice none 0 0, .string ⟨#[]⟩] 29)) := ⟨_, rfl, h, heap_alloc_new w _⟩

set_option maxRecDepth 100000 in
theorem dep_c {x : Wr} (h : okW x = true) {i : Nat} (hi : i < x.xs.length) : 1 ≤ (x.xs.getD i dz).c := by
  have h1 := depsOk_each (okW_parts h).2.2 (d := x.xs.getD i dz) (by simp [List.getD, hi])
  have h2 := h1.2
  generalize x.xs.getD i dz = d at *
  simp [tagOkB, btw] at h2
  omega

set_option maxRecDepth 100000 in
/-- Dependencies that are right don't lie in the zero shim. -/
theorem deps_apart {w : World} {b g : Nat} {x : Wr} (hb : w.heap[b]? = some (.cells zeroSh 29 (0, 0))) (hok : okW x = true) (hp : 0 < x.xs.length) (hd : HoldsDeps w g 0 x.xs) : g ≠ b := by
  rintro rfl
  obtain ⟨-, h1, -, -⟩ := hd 0 hp
  have h2 := dep_c hok hp
  rw [cell_of_row _ _ _ _ _ (0, 0) hb] at h1
  have h3 : (some (Value.int .i64 0) : Option Value) = some (.int .i64 (x.xs.getD 0 dz).c) := h1
  injection h3 with h3
  injection h3 with _ h3
  omega

set_option maxRecDepth 100000 in
theorem row_apart {w : World} {b base n : Nat} {v : Value} {xs : List Value} (hb : w.heap[b]? = some (.cells zeroSh 29 (0, 0))) (h : w.ownsRow base 43 7 v n xs) : v.ownBlock ≠ some b := by
  intro e
  rcases h.2 with ⟨h1, -⟩ | ⟨g, cap, cur, h1, -, h3, -⟩
  · rw [h1] at e
    simp [Value.ownBlock] at e
  · rw [h1] at e
    have e2 : g = b := by simpa [Value.ownBlock] using e
    subst e2
    rw [hb] at h3
    injection h3 with h3
    injection h3 with _ h4 _
    exact absurd h4 (by decide)

set_option maxRecDepth 100000 in
theorem RowG.apartS {w : World} {b base : Nat} {v : Value} {es : List EnG} (h : RowG w base v es) (hb : w.heap[b]? = some (.cells zeroSh 29 (0, 0))) (hok : ∀ e ∈ es, okW e.x = true) : v.ownBlock ≠ some b ∧ ∀ e ∈ es, 0 < e.x.xs.length → e.g ≠ b :=
  ⟨row_apart hb h.own, fun e he hp => deps_apart hb (hok e he) hp ((h.deps e he).1 hp).2.2.2.1⟩

set_option maxRecDepth 100000 in
theorem RowG.aside {w w' : World} {B base : Nat} {v : Value} {es : List EnG} (h : RowG w base v es) (hh : Hole B w w') (ha : v.ownBlock ≠ some B ∧ ∀ e ∈ es, 0 < e.x.xs.length → e.g ≠ B) : RowG w' base v es where
  own := World.ownsRow.kept (row := some B) h.own ⟨hh.os, hh.tape, hh.output, hh.size, fun k hk hn => hh.block k hk (fun e => hn (by rw [e]))⟩ (.inr ha.1)
  deps := fun e he => ⟨(h.deps e he).1.of_block hh.size fun hp => hh.block e.g ((h.deps e he).1 hp).2.2.1 (ha.2 e he hp), (h.deps e he).2⟩
  apart := h.apart

set_option maxRecDepth 100000 in
theorem RowEs.apartS {w : World} {b base g cap : Nat} {es : List En} (h : RowEs w base g cap es) (hb : w.heap[b]? = some (.cells zeroSh 29 (0, 0))) (hok : ∀ e ∈ es, okW e.x = true) : g ≠ b ∧ ∀ e ∈ es, 0 < e.x.xs.length → e.g ≠ b :=
  ⟨fun e => row_apart hb h.own (by rw [e]; rfl), fun e he hp => deps_apart hb (hok e he) hp (h.deps e he).2.2.2⟩

set_option maxRecDepth 100000 in
theorem RowEs.aside {w w' : World} {B base g cap : Nat} {es : List En} (h : RowEs w base g cap es) (hh : Hole B w w') (ha : g ≠ B ∧ ∀ e ∈ es, 0 < e.x.xs.length → e.g ≠ B) : RowEs w' base g cap es where
  le := h.le
  lt := Nat.lt_of_lt_of_le h.lt hh.size
  own := h.own.kept (row := some B) ⟨hh.os, hh.tape, hh.output, hh.size, fun k hk hn => hh.block k hk (fun e => hn (by rw [e]))⟩ (.inr (by simpa [Value.ownBlock] using ha.1))
  deps := fun e he => by
    obtain ⟨h1, h2, h3, h4⟩ := h.deps e he
    refine ⟨h1, Nat.lt_of_lt_of_le h2 hh.size, h3, fun i hi => ?_⟩
    have hp : 0 < e.x.xs.length := by omega
    have e' : ∀ o, w'.cell? ⟨e.g, o, none⟩ = w.cell? ⟨e.g, o, none⟩ := fun o => World.cell?_of_block (a := ⟨e.g, o, none⟩) (hh.block e.g h2 (ha.2 e he hp))
    obtain ⟨a0, a1, a2, a3⟩ := h4 i hi
    exact ⟨(e' _).trans a0, (e' _).trans a1, (e' _).trans a2, (e' _).trans a3⟩

/-- The greatest number of a site's own writes, and that one's key. -/
def backStep (si : Int) (st : Int × Int) (x : Wr) : Int × Int := if x.s = si ∧ st.1 < x.q then (x.q, x.k) else st

def backRun (si : Int) (st : Int × Int) (ws : List Wr) : Int × Int := ws.foldl (backStep si) st

def backF (si : Int) (bs : List (List Wr)) : Int × Int := bs.foldl (backRun si) (0, -1)

set_option maxRecDepth 100000 in
theorem backRun_take (si : Int) (ws : List Wr) (st : Int × Int) (k : Nat) (h : k < ws.length) : backRun si st (ws.take (k + 1)) = backStep si (backRun si st (ws.take k)) (ws.getD k wz) := by
  unfold backRun
  have e : ws.take (k + 1) = ws.take k ++ [ws.getD k wz] := by
    rw [List.take_add_one, List.getElem?_eq_getElem h]
    simp [List.getD, h]
  rw [e, List.foldl_append]
  rfl

set_option maxRecDepth 100000 in
theorem backF_take (si : Int) (bs : List (List Wr)) (k : Nat) (h : k < bs.length) : backF si (bs.take (k + 1)) = backRun si (backF si (bs.take k)) (bs.getD k []) := by
  unfold backF
  have e : bs.take (k + 1) = bs.take k ++ [bs.getD k []] := by
    rw [List.take_add_one, List.getElem?_eq_getElem h]
    simp [List.getD, h]
  rw [e, List.foldl_append]
  rfl

set_option maxRecDepth 100000 in
theorem extract_pre {s : ByteArray} {l : List UInt8} (h : l <+: s.data.toList) : s.extract 0 l.length = str l := by
  have e := extract_take s 0 l.length
  rw [List.drop_zero, ← List.prefix_iff_eq_take.1 h, Nat.zero_add] at e
  have e2 : (s.extract 0 l.length).data.toList = (str l).data.toList := e
  cases hA : s.extract 0 l.length with
  | mk d =>
    rw [hA] at e2
    have e3 : d = (str l).data := Array.toList_inj.1 e2
    rw [e3]

set_option maxRecDepth 100000 in
theorem fewB_log {bs : List (List Wr)} (h : ∀ b ∈ bs, okWs b = true) : FewB bs := fun i hi => by
  have hm : bs.getD i [] ∈ bs := by simp [List.getD, hi]
  have h1 := okWs_len (h _ hm)
  have hk := okWs_all (h _ hm)
  generalize bs.getD i [] = ws at *
  refine ⟨by omega, fun j hj => ?_⟩
  have h2 := hk (ws.getD j wz) (by simp [List.getD, hj])
  have h3 := depR_len (ok_parts h2).2.2.2.1
  omega

end Go.Proofs.YtbbmpfkijhhemabGreatDoor

/- The contract of spec.ShimBack. -/
namespace Go.Proofs.YtbbmpfkijhhemabGreatDoor
open Go.ChangeShapes Go.WideShapes Go.ChangeAt Go.RowKit Go.Joins
attribute [local go_sem ↓] Go.wp_at_zero Go.wp_at_succ

set_option maxRecDepth 100000 in
theorem IsBs.base_lt {w : World} {b o : Nat} {a : Option Addr} {bs : List (List Wr)} {k : Nat} (h : IsBs w a bs) (hk : k < bs.length) (ha : a = some ⟨b, o, none⟩) : b < w.heap.size := by
  rcases h with h | ⟨b', o', ha', hlt, _⟩
  · subst h
    simp at hk
  · rw [ha'] at ha
    injection ha with ha
    injection ha with h1 _ _
    rw [← h1]
    exact hlt

set_option maxRecDepth 100000 in
theorem IsBs.elem {w w' : World} {b o : Nat} {bs : List (List Wr)} {k cap : Nat} {ad : Option Addr} (h : IsBs w (some ⟨b, o, none⟩) bs) (hk : k < bs.length) (hb : Below w.heap.size w w') (hc : w'.cell? ⟨b, o + k, none⟩ = some (.slice ad (bs.getD k []).length cap)) : IsWs w ad (bs.getD k []) := by
  rcases h with h | ⟨b', o', ha', hlt, hh⟩
  · subst h
    simp at hk
  · injection ha' with ha'
    injection ha' with h1 h2 _
    subst h1
    subst h2
    obtain ⟨a', cp, h3, h4⟩ := hh k hk
    have h5 := (World.cell?_of_block (a := ⟨b, o + k, none⟩) (hb.block b hlt)).trans h3
    rw [hc] at h5
    injection h5 with h5
    injection h5 with h6 _ _
    rw [h6]
    exact h4

set_option maxRecDepth 100000 in
theorem RowEs.holeE {w w' : World} {B base g cap : Nat} {es : List En} (h : RowEs w base g cap es) (hh : Hole B w w') (hB : B < base) : RowEs w' base g cap es :=
  h.aside hh ⟨by have := h.le; omega, fun e he _ => by have := (h.deps e he).1; omega⟩

set_option maxRecDepth 100000 in
theorem RowEs.monoE {w : World} {base base' g cap : Nat} {es : List En} (h : RowEs w base g cap es) (hb : base' ≤ base) : RowEs w base' g cap es where
  le := Nat.le_trans hb h.le
  lt := h.lt
  own := by
    refine ⟨h.own.1, ?_⟩
    rcases h.own.2 with h1 | ⟨g, cap, cur, h1, h2, h3⟩
    · exact .inl h1
    · exact .inr ⟨g, cap, cur, h1, Nat.le_trans hb h2, h3⟩
  deps := fun e he => ⟨Nat.le_trans hb (h.deps e he).1, (h.deps e he).2⟩

/-- What the region's row and shim are. -/
def RowFS (base : Nat) (m : List Wr) : Fact := fun v w => ∃ g cp es L, v = .slice (some ⟨g, 0, none⟩) L cp ∧ es.length = L ∧ es.map (·.x) = m ∧ RowEs w base g cp es

def BuiltFS (base : Nat) (si : Int) (t : ByteArray) (m : List Wr) : Fact := fun v w => ∃ g cp es L, v = shV si 0 0 (-1) (some ⟨g, 0, none⟩) L cp t ∧ es.length = L ∧ es.map (·.x) = m ∧ RowEs w base g cp es

set_option maxRecDepth 100000 in
theorem lasts_RowFS (base : Nat) (m : List Wr) : lasts (fun w w' => Below w.heap.size w w') (RowFS base m) := by
  rintro v w w' ⟨g, cp, es, L, h1, h2, h3, h4⟩ hr
  exact ⟨g, cp, es, L, h1, h2, h3, h4.below hr⟩

set_option maxRecDepth 100000 in
theorem lasts_BuiltFS (base : Nat) (si : Int) (t : ByteArray) (m : List Wr) : lasts (fun w w' => Below w.heap.size w w') (BuiltFS base si t m) := by
  rintro v w w' ⟨g, cp, es, L, h1, h2, h3, h4⟩ hr
  exact ⟨g, cp, es, L, h1, h2, h3, h4.below hr⟩

set_option maxRecDepth 100000 in
set_option maxHeartbeats 16000000 in
theorem specBack_any (si : Int) (s : ByteArray) (w : World) (hs : s.size ≤ 1048576) :
    Calls Tryz.prog 28 #[.int .i64 si, .string s] w fun e w' => ((btw si 0 3 = false ∧ e = .returned (shV 0 0 0 0 none 0 0 ⟨#[]⟩)) ∨ (btw si 0 3 = true ∧ ∃ bs g cp es L, e = .returned (shV si (clockL (replayW bs)) (backF si bs).1 (backF si bs).2 (some ⟨g, 0, none⟩) L cp (str (logT bs))) ∧ IsLog s.data.toList bs ∧ es.length = L ∧ es.map (·.x) = replayW bs ∧ RowEs w' w.heap.size g cp es)) ∧ Below w.heap.size w w' := by
  have HB0 : Hid (Below w.heap.size w (w.alloc (.cells #[.int .i64 0, .int .i64 0, .int .i64 0, .int .i64 0, .slice none 0 0, .string ⟨#[]⟩] 29))) := (Below.refl _ _).alloc (Nat.le_refl _) _
  have HZ0 : Hid (SBox (w.alloc (.cells #[.int .i64 0, .int .i64 0, .int .i64 0, .int .i64 0, .slice none 0 0, .string ⟨#[]⟩] 29)) w.heap.size 0 0 0 0 none 0 0 ⟨#[]⟩) := SBox.start w 0 0 0 0 none 0 0 ⟨#[]⟩ 29
  go_enter Tryz.func28, Tryz.ntmps28
  go_wp2_with fail
  generalize w.alloc (.cells #[.int .i64 0, .int .i64 0, .int .i64 0, .int .i64 0, .slice none 0 0, .string ⟨#[]⟩] 29) = W0 at *
  refine (site_any si _).mono ?_
  rintro e w1 ⟨rfl, hw⟩
  subst w1
  by_cases hsi : btw si 0 3 = true
  rotate_left
  · have hsf : btw si 0 3 = false := by simpa using hsi
    have HSF := Lib.hid hsf
    rw [hsf]
    clear hsi hsf
    obtain ⟨yl, y0, y1, y2, y3, y4, y5, yf⟩ := HZ0.out
    obtain ⟨W9, hW9⟩ : ∃ W9, putS W0 w.heap.size 0 0 0 0 none 0 0 ⟨#[]⟩ = W9 := ⟨_, rfl⟩
    have HS9 : Hid (SBox W9 w.heap.size 0 0 0 0 none 0 0 ⟨#[]⟩) := by rw [← hW9]; exact sbox_putS HZ0.out _ _ _ _ _ _ _ _
    have HB9 : Hid (Below w.heap.size w W9) := by rw [← hW9]; exact Hole.below HB0.out (hole_putS (Hole.refl _ _) _ _ _ _ _ _ _ _) (Nat.le_refl _) HB0.out.size
    unfold putS at hW9
    go_wp2_with fail
    try rw [hW9]
    clear hW9 y0 y1 y2 y3 y4 y5 yf yl
    obtain ⟨yl, y0, y1, y2, y3, y4, y5, yf⟩ := HS9.out
    exact bodyPost_ret (v := shV 0 0 0 0 none 0 0 ⟨#[]⟩) (by simp [results, Tryz.results28, shV, go_sem, y0, y1, y2, y3, y4, y5]) rfl ⟨.inl ⟨HSF.out, rfl⟩, HB9.out⟩
  have HSI := Lib.hid hsi
  rw [hsi]
  clear hsi
  go_wp2_with fail
  refine (specLog_any s _ hs).mono ?_
  rintro e w3 ⟨ba, bc, bat, rfl, hlog, hbn, hown, hb⟩
  have HLG := Lib.hid hlog
  have HFB := Lib.hid (fewB_log hlog.1)
  have HIB : Hid (IsBs w3 ba (batsOf bat)) := hown.isBs HFB.out
  have hpl : (logT (batsOf bat)).length ≤ s.size := by
    have := hlog.2.1.length_le
    simpa using this
  have HTX : Hid (s.extract 0 (logT (batsOf bat)).length = str (logT (batsOf bat))) := extract_pre hlog.2.1
  have HBN : Hid ((batsOf bat).length = bat.length) := by simp [batsOf, Hid]
  have HB3 := Lib.hid (below_step HB0.out HB0.out.size hb)
  have HZ3 := Lib.hid (HZ0.out.below hb)
  have hz3 : w.heap.size < w3.heap.size := HZ3.out.lt
  have hn3 : bat.length ≤ 1048576 := by omega
  clear hb hown hlog HB0 HZ0 hbn
  generalize batsOf bat = bs at *
  generalize bat.length = n at *
  obtain ⟨pp, hpp⟩ : ∃ pp, pp = (logT bs).length := ⟨_, rfl⟩
  rw [← hpp] at HTX hpl
  rw [← hpp]
  clear hpp
  have p0 : (0 : Int) ≤ (pp : Int) := by omega
  have p1 : (pp : Int) ≤ (s.size : Int) := by omega
  have HOK : Hid (∀ x ∈ replayW bs, okW x = true) := ((mapOk_iff _).1 (replay_ok bs)).1
  have HRL := Lib.hid (mapOk_len (replay_ok bs))
  have HFR := Lib.hid (ok_few (replay_ok bs))
  go_wp2_with fail
  refine wp_region_slots 8 [[(0, false)], [(5, false)], [(21, true)], [(1, false)], [(6, false)], [(23, true), (24, true)], [(20, true), (22, true), (25, true)], []] (fun w' => Below w3.heap.size w3 w') (fun w w' => Below w.heap.size w w') (by kernel_rfl) (by kernel_rfl) (by rfl) (Below.refl _ _).drew (fun _ _ h hr => below_step h h.size hr) ?_
  iterate 2 (apply slot_eq; · (intro ρ w' ⟨p1, p2, p3⟩ hS hn; simp at hn; go_simp; exact ⟨Below.refl _ _, rfl⟩))
  refine slot_fact (RowFS w3.heap.size (replayW bs)) (lasts_RowFS _ _) ?_ ?_
  · intro ρ w' ⟨p1, p2, p3⟩ hS hn
    simp at hn
    go_simp
    exact got_call (specReplay_any ba n bc bs w' HBN.out hn3 HFB.out (HIB.out.below hS)) fun e w'' ⟨g, cp, es, L, he, hl, hm, hr, hb⟩ => ⟨_, he, hb, g, cp, es, L, rfl, hl, hm, hr.mono hS.size⟩
  iterate 3 (apply slot_eq; · (intro ρ w' ⟨p1, p2, p3⟩ hS hn; simp at hn; go_simp; exact ⟨Below.refl _ _, rfl⟩))
  refine slot_fact (BuiltFS w3.heap.size si (s.extract 0 pp) (replayW bs)) (lasts_BuiltFS _ _ _ _) ?_ ?_
  · intro ρ w' ⟨p1, p2, p3⟩ hS hn
    simp at hn
    obtain ⟨f20, ⟨g, cp, es, L, f22, hl, hm, hr⟩, f25⟩ := hn
    go_simp
    exact ⟨Below.refl _ _, g, cp, es, L, rfl, hl, hm, hr⟩
  refine slot_fact (ShimF w3.heap.size) (lasts_shim _) ?_ ?_
  · intro ρ w' ⟨p1, p2, p3⟩ hS hn
    have hsz := hS.size
    go_simp
    exact ⟨(Below.refl _ _).alloc (Nat.le_refl _) _, shim_mk w' _ hsz⟩
  refine slot_end ?_
  intro tv w5 hS hF
  simp at hF
  obtain ⟨⟨b, f7, hbl, hbox⟩, ⟨g, cp, es, L, f26, hl, hm, hr⟩, f25, f24, f23, ⟨g2, cp2, es2, L2, f22, -, -, -⟩, f21, f20⟩ := hF
  simp only [List.take_succ_cons, List.take_zero, List.drop_succ_cons, List.drop_zero, putAll, f7, f26, f25, f24, f23, f22, f21, f20]
  clear f7 f26 f25 f24 f23 f22 f21 f20
  simp only [Act.put, List.setIfInBounds_toArray, List.set_cons_succ, List.set_cons_zero]
  have HOE : Hid (∀ e ∈ es, okW e.x = true) := fun e he => HOK.out _ (by rw [← hm]; exact List.mem_map_of_mem he)
  have HAP := Lib.hid (hr.apartS hbox HOE.out)
  have HM := Lib.hid hm
  have HL := Lib.hid hl
  have HB5 := Lib.hid hS
  have HX5 := Lib.hid (sbox_zero hbox)
  have HR5 := Lib.hid hr
  clear hS hbox hr hm hl
  obtain ⟨yl, y0, y1, y2, y3, y4, y5, yf⟩ := HX5.out
  obtain ⟨W6, hW6⟩ : ∃ W6, putS w5 b si 0 0 (-1) (some ⟨g, 0, none⟩) L cp (s.extract 0 pp) = W6 := ⟨_, rfl⟩
  have HX6 : Hid (SBox W6 b si 0 0 (-1) (some ⟨g, 0, none⟩) L cp (s.extract 0 pp)) := by rw [← hW6]; exact sbox_putS HX5.out _ _ _ _ _ _ _ _
  have hH6 : Hole b w5 W6 := by rw [← hW6]; exact hole_putS (Hole.refl _ _) _ _ _ _ _ _ _ _
  have HR6 : Hid (RowEs W6 w3.heap.size g cp es) := HR5.out.aside hH6 HAP.out
  have HB6 : Hid (Below w3.heap.size w3 W6) := Hole.below HB5.out hH6 hbl HB5.out.size
  unfold putS at hW6
  unfold shV
  obtain ⟨ul, u0, u1, u2, u3, u4, u5, uf⟩ := HX6.out
  have HIW : Hid (IsWs W6 (some ⟨g, 0, none⟩) (replayW bs)) := HR6.out.isWs HM.out HFR.out
  have HLN : Hid ((replayW bs).length = L) := by rw [← HM.out, List.length_map]; exact HL
  have hL6 : L ≤ 6 := by rw [← HLN.out]; exact HRL.out
  go_wp2_with fail
  clear hW6 hH6 y0 y1 y2 y3 y4 y5 yf yl HX5 HR5 HB5
  refine (clock_any _ L cp _ _ HLN.out (by omega) HIW.out).mono ?_
  rintro e w7 ⟨rfl, hw⟩
  subst w7
  have HB7 := HB6
  have HX7 := HX6
  have HR7 := HR6
  have z0 := u0
  clear HIW
  obtain ⟨cl, hcl⟩ : ∃ cl, cl = clockL (replayW bs) := ⟨_, rfl⟩
  rw [← hcl]
  have HCL := Lib.hid hcl
  clear hcl
  have HX8 : Hid (SBox (W6.setCell ⟨b, 1, none⟩ (.int .i64 cl)) b si cl 0 (-1) (some ⟨g, 0, none⟩) L cp (s.extract 0 pp)) := HX7.out.set1 cl
  have HR8 : Hid (RowEs (W6.setCell ⟨b, 1, none⟩ (.int .i64 cl)) w3.heap.size g cp es) := HR7.out.aside ((Hole.refl _ _).set 1 _) HAP.out
  have HB8 : Hid (Below w3.heap.size w3 (W6.setCell ⟨b, 1, none⟩ (.int .i64 cl))) := Hole.below HB7.out ((Hole.refl _ _).set 1 _) hbl HB7.out.size
  go_wp2
  generalize (W6.setCell ⟨b, 1, none⟩ (.int .i64 cl)) = W8 at *
  clear HX7 HR7 HB7 HX6 HR6 HB6 u0 u1 u2 u3 u4 u5 uf ul z0
  go_loopw [8] (fun i wr => ∃ (k : Nat) (sq la : Int), k ≤ n ∧ i = .int .i64 k ∧ Hid (backF si (bs.take k) = (sq, la)) ∧ Hid (SBox wr b si cl sq la (some ⟨g, 0, none⟩) L cp (s.extract 0 pp)) ∧ Hid (RowEs wr w3.heap.size g cp es) ∧ Hid (Below w3.heap.size w3 wr)) (fun i _ => n - (intOf i).toNat)
  case atStart => exact ⟨0, 0, -1, Nat.zero_le _, rfl, rfl, HX8, HR8, HB8⟩
  case round =>
    clear HX8 HR8 HB8
    obtain ⟨k, sq, la, hk, rfl, HSQ, HX, HR, HB⟩ := hrel
    obtain ⟨W1, rfl⟩ : ∃ W1, W1 = wr := ⟨wr, rfl⟩
    by_cases hk' : k < n
    · have hkk : k < bs.length := by rw [HBN.out]; exact hk'
      have i1 : (0 : Int) ≤ (k : Int) := by omega
      have i2 : (k : Int) < (n : Int) := by omega
      obtain ⟨b1, o1, ad, cpd, rfl, hz, e0, hw⟩ := HIB.out.at HB.out hkk
      obtain ⟨hl, hf⟩ := HFB.out k hkk
      have HTK := Lib.hid (backF_take si bs k hkk)
      rw [HSQ.out] at HTK
      have HQ3 : Hid (∃ ad', some (⟨b1, o1, none⟩ : Addr) = some ⟨b1, o1, none⟩ ∧ ad' = ad) := ⟨ad, rfl, rfl⟩
      have HB1 := Lib.hid HB.out
      clear hf
      generalize hwsx : bs.getD k [] = ws at *
      have HWSX := Lib.hid hwsx
      clear hwsx
      have HW := Lib.hid hw
      clear hw HQ3
      obtain ⟨q, hq⟩ : ∃ q, ws.length = q := ⟨_, rfl⟩
      rw [hq] at e0 hl
      have HQ := Lib.hid hq
      clear hq
      have hb1 : b1 < w3.heap.size := HIB.out.base_lt hkk rfl
      have HE0 : Hid (∀ w', Below w3.heap.size W1 w' → w'.cell? ⟨b1, o1 + k, none⟩ = some (.slice ad q cpd)) := fun w' hb => (World.cell?_of_block (hb.block b1 hb1)).trans e0
      have HWB : Hid (IsWs w3 ad ws) := by rw [← HWSX.out]; exact HIB.out.elem hkk HB1.out (by rw [HWSX.out, HQ.out]; exact e0)
      go_wp2
      go_loopw [9] (fun i wq => ∃ (p : Nat) (sq2 la2 : Int), p ≤ q ∧ i = .int .i64 p ∧ Hid (backRun si (sq, la) (ws.take p) = (sq2, la2)) ∧ Hid (SBox wq b si cl sq2 la2 (some ⟨g, 0, none⟩) L cp (s.extract 0 pp)) ∧ Hid (RowEs wq w3.heap.size g cp es) ∧ Hid (Below w3.heap.size w3 wq) ∧ Hid (Below w3.heap.size W1 wq)) (fun i _ => q - (intOf i).toNat)
      case atStart => exact ⟨0, sq, la, Nat.zero_le _, rfl, rfl, HX, HR, HB, Below.refl _ _⟩
      case round =>
        clear HX HR HB
        obtain ⟨p, sq2, la2, hp, rfl, HS2, HX, HR, HB, HBW⟩ := hrel
        have e1 := HE0.out _ HBW.out
        have hb1r : b1 < wr.heap.size := Nat.lt_of_lt_of_le hb1 HB.out.size
        by_cases hp' : p < q
        · have hpp2 : p < ws.length := by rw [HQ.out]; exact hp'
          have j1 : (0 : Int) ≤ (p : Int) := by omega
          have j2 : (p : Int) < (q : Int) := by omega
          obtain ⟨b2, o2, ad2, cp2, rfl, hz2, ⟨c0, c1, c2, c3, c4, c5, c6⟩, hd⟩ := HWB.out.at HB.out HQ.out hp'
          have HS3 := Lib.hid (backRun_take si ws (sq, la) p hpp2)
          rw [HS2.out] at HS3
          clear hd
          generalize ws.getD p wz = x at *
          obtain ⟨xk, xc, xs', xq, xv, xd, xx⟩ := x
          simp only at c0 c1 c2 c3 c4 c5 c6
          have HBX : Hid (Below wr.heap.size wr (wr.alloc (.cells #[.int .i64 xk, .int .i64 xc, .int .i64 xs', .int .i64 xq, .int .i64 xv, .bool xd, .slice ad2 xx.length cp2] 43))) := (Below.refl _ _).alloc (Nat.le_refl _) _
          have HX2 := Lib.hid (HX.out.below HBX.out)
          have HR2 := Lib.hid (HR.out.below HBX.out)
          have HB2 := Lib.hid (below_step HB.out HB.out.size HBX.out)
          have HBW2 : Hid (Below w3.heap.size W1 (wr.alloc (.cells #[.int .i64 xk, .int .i64 xc, .int .i64 xs', .int .i64 xq, .int .i64 xv, .bool xd, .slice ad2 xx.length cp2] 43))) := HBW.out.trans (HBX.out.mono HB.out.size)
          have HWX : Hid (WrAt (wr.alloc (.cells #[.int .i64 xk, .int .i64 xc, .int .i64 xs', .int .i64 xq, .int .i64 xv, .bool xd, .slice ad2 xx.length cp2] 43)) wr.heap.size 0 ⟨xk, xc, xs', xq, xv, xd, xx⟩ ad2 cp2) := by
            have h := heap_alloc_new wr (.cells #[.int .i64 xk, .int .i64 xc, .int .i64 xs', .int .i64 xq, .int .i64 xv, .bool xd, .slice ad2 xx.length cp2] 43)
            refine ⟨?_, ?_, ?_, ?_, ?_, ?_, ?_⟩ <;> (rw [cell_of_row _ _ _ _ _ (0, 0) h]; rfl)
          have hne : wr.heap.size ≠ b := by have := HX.out.lt; omega
          obtain ⟨yl, y0, y1, y2, y3, y4, y5, yf⟩ := HX2.out
          by_cases hc : xs' = si ∧ sq2 < xq
          · have HS4 : Hid (backRun si (sq, la) (ws.take (p + 1)) = (xq, xk)) := by rw [HS3.out]; unfold backStep; rw [if_pos hc]; exact Lib.hid rfl
            obtain ⟨rfl, hlt⟩ := hc
            have HX3 := Lib.hid ((HX2.out.set2 xq).set3 xk)
            have HH3 := Lib.hid (((Hole.refl b (wr.alloc (.cells #[.int .i64 xk, .int .i64 xc, .int .i64 xs', .int .i64 xq, .int .i64 xv, .bool xd, .slice ad2 xx.length cp2] 43))).set 2 (.int .i64 xq)).set 3 (.int .i64 xk))
            have HR3 := Lib.hid (HR2.out.aside HH3.out HAP.out)
            have HB3' := Lib.hid (Hole.below HB2.out HH3.out hbl HB2.out.size)
            have HBW3 := Lib.hid (Hole.below HBW2.out HH3.out hbl HB2.out.size)
            go_wp2
            exact ⟨⟨p + 1, _, _, by omega, by go_num, HS4, HX3, HR3, HB3', HBW3⟩, by simp [intOf]; omega⟩
          · have HS4 : Hid (backRun si (sq, la) (ws.take (p + 1)) = (sq2, la2)) := by rw [HS3.out]; unfold backStep; rw [if_neg hc]; exact Lib.hid rfl
            by_cases h1 : xs' = si
            · subst h1
              have h2 : ¬ sq2 < xq := fun h => hc ⟨rfl, h⟩
              clear hc
              go_wp2
              exact ⟨⟨p + 1, _, _, by omega, by go_num, HS4, HX2, HR2, HB2, HBW2⟩, by simp [intOf]; omega⟩
            · clear hc
              go_wp2
              exact ⟨⟨p + 1, _, _, by omega, by go_num, HS4, HX2, HR2, HB2, HBW2⟩, by simp [intOf]; omega⟩
        · have hpp3 : p = q := by omega
          subst hpp3
          have HS4 : Hid (backF si (bs.take (k + 1)) = (sq2, la2)) := by
            have h := HS2.out
            rw [List.take_of_length_le (by rw [HQ.out]; exact Nat.le_refl _)] at h
            exact HTK.out.trans h
          go_wp2
          exact ⟨⟨k + 1, _, _, by omega, by go_num, HS4, HX, HR, HB⟩, by simp [intOf]; omega⟩
    · have hkk : k = n := by omega
      subst hkk
      have HSB : Hid (backF si bs = (sq, la)) := by
        have h := HSQ.out
        rw [List.take_of_length_le (by rw [HBN.out]; exact Nat.le_refl _)] at h
        exact h
      have HZ := Lib.hid (HZ3.out.below HB.out)
      have hwb : w.heap.size ≠ b := by omega
      obtain ⟨xl, x0, x1, x2, x3, x4, x5, xf⟩ := HX.out
      obtain ⟨yl, y0, y1, y2, y3, y4, y5, yf⟩ := HZ.out
      obtain ⟨W9, hW9⟩ : ∃ W9, putS W1 w.heap.size si cl sq la (some ⟨g, 0, none⟩) L cp (s.extract 0 pp) = W9 := ⟨_, rfl⟩
      have HS9 : Hid (SBox W9 w.heap.size si cl sq la (some ⟨g, 0, none⟩) L cp (s.extract 0 pp)) := by rw [← hW9]; exact sbox_putS HZ.out _ _ _ _ _ _ _ _
      have hH9 : Hole w.heap.size W1 W9 := by rw [← hW9]; exact hole_putS (Hole.refl _ _) _ _ _ _ _ _ _ _
      have HB9 : Hid (Below w.heap.size w W9) := Hole.below (HB3.out.trans (HB.out.mono (by omega))) hH9 (Nat.le_refl _) (by omega)
      have HR9 : Hid (RowEs W9 w3.heap.size g cp es) := HR.out.holeE hH9 hz3
      unfold putS at hW9
      go_wp2_with fail
      try rw [hW9]
      clear hW9 hH9 x0 x1 x2 x3 x4 x5 xf xl y0 y1 y2 y3 y4 y5 yf yl HX HR HZ
      obtain ⟨yl, y0, y1, y2, y3, y4, y5, yf⟩ := HS9.out
      refine bodyPost_ret (v := shV si cl sq la (some ⟨g, 0, none⟩) L cp (s.extract 0 pp)) (by simp [results, Tryz.results28, shV, go_sem, y0, y1, y2, y3, y4, y5]) rfl ⟨.inr ⟨HSI.out, bs, g, cp, es, L, ?_, HLG.out, HL.out, HM.out, HR9.out.monoE (by omega)⟩, HB9.out⟩
      rw [HSB.out, HCL.out, HTX.out]

end Go.Proofs.YtbbmpfkijhhemabGreatDoor

/-
  DERIVED: THE SHELF's CONTRACTS AT THIS DUMP, IN PLAIN WORDS (tools/lay-plain.mjs out of 'TryzShelf.lean', which tools/lay-shelf.mjs wrote): THE SAME DECLARATIONS UNDER THE SAME NAMES: 'import', 'namespace', 'open', 'def', 'theorem' AND NOTHING ELSE: no command of the shelf's: FOR A HAND-IN. Each laying: the table of numbers ('.._ren') and one theorem, a field a fact of the dump's own or the kernel's comparison; each contract: ONE APPLICATION.
-/
namespace Go.Proofs
open Go.Shelf
def Tryz.lays143_ren : Go.Shelf.Ren := ⟨fun | 143 => 118 | 219 => 125 | 217 => 132 | 225 => 133 | 224 => 134 | 267 => 135 | 266 => 143 | 314 => 144 | n => n, fun | 9 => 9 | 3 => 3 | 4 => 4 | 5 => 5 | 46 => 143 | 146 => 191 | 51 => 180 | n => n, fun | 1 => 5 | n => n⟩
theorem Tryz.lays143 : Go.Proofs.Lays.n143 Tryz.prog Tryz.lays143_ren := {
  mixed := by kernel_rfl
  f143 := Tryz.func118.trans (congrArg some (by kernel_rfl))
  f217 := Tryz.func132.trans (congrArg some (by kernel_rfl))
  f219 := Tryz.func125.trans (congrArg some (by kernel_rfl))
  f224 := Tryz.func134.trans (congrArg some (by kernel_rfl))
  f225 := Tryz.func133.trans (congrArg some (by kernel_rfl))
  f266 := Tryz.func143.trans (congrArg some (by kernel_rfl))
  f267 := Tryz.func135.trans (congrArg some (by kernel_rfl))
  f314 := Tryz.func144.trans (congrArg some (by kernel_rfl))
  t3 := Tryz.underlying3
  a3 := Tryz.isAgg3
  z3 := Tryz.sizeOf3
  v3 := Tryz.zeroValue3
  t4 := Tryz.underlying4
  a4 := Tryz.isAgg4
  z4 := Tryz.sizeOf4
  v4 := Tryz.zeroValue4
  t5 := Tryz.underlying5
  a5 := Tryz.isAgg5
  z5 := Tryz.sizeOf5
  v5 := Tryz.zeroValue5
  t9 := Tryz.underlying9
  a9 := Tryz.isAgg9
  z9 := Tryz.sizeOf9
  v9 := Tryz.zeroValue9
  t46 := Tryz.underlying143
  a46 := Tryz.isAgg143
  z46 := Tryz.sizeOf143
  v46 := Tryz.zeroValue143
  t51 := Tryz.underlying180
  a51 := Tryz.isAgg180
  z51 := Tryz.sizeOf180
  v51 := Tryz.zeroValue180
  t146 := Tryz.underlying191
  a146 := Tryz.isAgg191
  z146 := Tryz.sizeOf191
  v146 := Tryz.zeroValue191
  g1 := by kernel_rfl }
open Go.RowKit Go.Lib in
/-- strings.Index: "Index returns the index of the first instance of substr in s, or -1 if substr is not present in s.": AT A substr OF ONE BYTE c: IT RETURNS 'Lib.indexByte s c'; the world is as it was. (LAID: no walk: one application.) -/
theorem Tryz.strings_Index_one (s : ByteArray) (c : UInt8) (w : World) :
    Calls Tryz.prog 118 #[.string s, .string ⟨#[c]⟩] w fun e w' => e = .returned (.int .i64 (Lib.indexByte s.data.toList c)) ∧ w' = w := Any.strings_Index_one Tryz.lays143 s c w
open Go.RowKit Go.Lib in
/-- strings.Index: "Index returns the index of the first instance of substr in s, or -1 if substr is not present in s.": IT RETURNS 'Lib.index s substr'; the world is as it was. (LAID: no walk: one application.) -/
theorem Tryz.strings_Index (s sub : ByteArray) (m : Int) (w : World) (hs : s.size < 4294967281) (hm : w.cell? ⟨5, 0, none⟩ = some (.int .i64 m)) :
    Calls Tryz.prog 118 #[.string s, .string sub] w fun e w' => e = .returned (.int .i64 (Lib.index s.data.toList sub.data.toList)) ∧ w' = w := Any.strings_Index Tryz.lays143 s sub m w hs hm
def Tryz.lays207_ren : Go.Shelf.Ren := ⟨fun | 207 => 130 | n => n, fun | 9 => 9 | 4 => 4 | 3 => 3 | n => n, fun | n => n⟩
theorem Tryz.lays207 : Go.Proofs.Lays.n207 Tryz.prog Tryz.lays207_ren := {
  mixed := by kernel_rfl
  f207 := Tryz.func130.trans (congrArg some (by kernel_rfl))
  t3 := Tryz.underlying3
  a3 := Tryz.isAgg3
  z3 := Tryz.sizeOf3
  v3 := Tryz.zeroValue3
  t4 := Tryz.underlying4
  a4 := Tryz.isAgg4
  z4 := Tryz.sizeOf4
  v4 := Tryz.zeroValue4
  t9 := Tryz.underlying9
  a9 := Tryz.isAgg9
  z9 := Tryz.sizeOf9
  v9 := Tryz.zeroValue9 }
open Go.RowKit Go.Lib in
/-- internal/stringslite.HasSuffix (what strings.HasSuffix calls). (LAID: no walk: one application.) -/
theorem Tryz.stringslite_HasSuffix (s p : ByteArray) (w : World) (hs : s.size ≤ 9223372036854775807) :
    Calls Tryz.prog 130 #[.string s, .string p] w fun e w' => e = .returned (.bool (Lib.hasSuffix s.data.toList p.data.toList)) ∧ w' = w := Any.stringslite_HasSuffix Tryz.lays207 s p w hs
def Tryz.lays209_ren : Go.Shelf.Ren := ⟨fun | 209 => 123 | 207 => 130 | n => n, fun | 9 => 9 | 4 => 4 | 3 => 3 | n => n, fun | n => n⟩
theorem Tryz.lays209 : Go.Proofs.Lays.n209 Tryz.prog Tryz.lays209_ren := {
  mixed := by kernel_rfl
  f207 := Tryz.func130.trans (congrArg some (by kernel_rfl))
  f209 := Tryz.func123.trans (congrArg some (by kernel_rfl))
  t3 := Tryz.underlying3
  a3 := Tryz.isAgg3
  z3 := Tryz.sizeOf3
  v3 := Tryz.zeroValue3
  t4 := Tryz.underlying4
  a4 := Tryz.isAgg4
  z4 := Tryz.sizeOf4
  v4 := Tryz.zeroValue4
  t9 := Tryz.underlying9
  a9 := Tryz.isAgg9
  z9 := Tryz.sizeOf9
  v9 := Tryz.zeroValue9 }
open Go.RowKit Go.Lib in
/-- internal/stringslite.TrimSuffix (what strings.TrimSuffix calls). (LAID: no walk: one application.) -/
theorem Tryz.stringslite_TrimSuffix (s p : ByteArray) (w : World) (hs : s.size ≤ 9223372036854775807) :
    Calls Tryz.prog 123 #[.string s, .string p] w fun e w' => e = .returned (.string ⟨(Lib.trimSuffix s.data.toList p.data.toList).toArray⟩) ∧ w' = w := Any.stringslite_TrimSuffix Tryz.lays209 s p w hs
def Tryz.lays102_ren : Go.Shelf.Ren := ⟨fun | 102 => 116 | 209 => 123 | 207 => 130 | n => n, fun | 9 => 9 | 4 => 4 | 3 => 3 | n => n, fun | n => n⟩
theorem Tryz.lays102 : Go.Proofs.Lays.n102 Tryz.prog Tryz.lays102_ren := {
  mixed := by kernel_rfl
  f102 := Tryz.func116.trans (congrArg some (by kernel_rfl))
  f207 := Tryz.func130.trans (congrArg some (by kernel_rfl))
  f209 := Tryz.func123.trans (congrArg some (by kernel_rfl))
  t3 := Tryz.underlying3
  a3 := Tryz.isAgg3
  z3 := Tryz.sizeOf3
  v3 := Tryz.zeroValue3
  t4 := Tryz.underlying4
  a4 := Tryz.isAgg4
  z4 := Tryz.sizeOf4
  v4 := Tryz.zeroValue4
  t9 := Tryz.underlying9
  a9 := Tryz.isAgg9
  z9 := Tryz.sizeOf9
  v9 := Tryz.zeroValue9 }
open Go.RowKit Go.Lib in
/-- strings.TrimSuffix: "TrimSuffix returns s without the provided trailing suffix string. If s doesn't end with suffix, s is returned unchanged.": IT RETURNS 'Lib.trimSuffix s suffix'; the world is as it was. (LAID: no walk: one application.) -/
theorem Tryz.strings_TrimSuffix (s p : ByteArray) (w : World) (hs : s.size ≤ 9223372036854775807) :
    Calls Tryz.prog 116 #[.string s, .string p] w fun e w' => e = .returned (.string ⟨(Lib.trimSuffix s.data.toList p.data.toList).toArray⟩) ∧ w' = w := Any.strings_TrimSuffix Tryz.lays102 s p w hs
end Go.Proofs

/- The reader of logs: its block; the contract of its line. -/
namespace Go.Proofs.YtbbmpfkijhhemabGreatDoor
open Go.ChangeShapes Go.WideShapes Go.ChangeAt Go.RowKit Go.Joins
attribute [local go_sem ↓] Go.wp_at_zero Go.wp_at_succ

/-- A reader of the text s, at place p, in block B. -/
structure Rdr (w : World) (B : Nat) (s : ByteArray) (p : Nat) : Prop where
  lt : B < w.heap.size
  c0 : w.cell? ⟨B, 0, none⟩ = some (.string s)
  c1 : w.cell? ⟨B, 1, none⟩ = some (.int .i64 (p : Int))
  fz : ∀ o, w.frozen? ⟨B, o, none⟩ = false

set_option maxRecDepth 100000 in
theorem Rdr.below {w w' : World} {B p : Nat} {s : ByteArray} (h : Rdr w B s p) (hb : Below w.heap.size w w') : Rdr w' B s p :=
  ⟨Nat.lt_of_lt_of_le h.lt hb.size, held_cell hb h.c0 h.lt, held_cell hb h.c1 h.lt, fun o => (hb.frozen (p := ⟨B, o, none⟩) h.lt).trans (h.fz o)⟩

set_option maxRecDepth 100000 in
theorem Rdr.drewN {w : World} {B p : Nat} {s : ByteArray} (h : Rdr w B s p) (n : Nat) : Rdr (w.drewN n) B s p := h.below (below_drewN (Below.refl _ _) n)

set_option maxRecDepth 100000 in
theorem Rdr.set {w : World} {B p : Nat} {s : ByteArray} (h : Rdr w B s p) (q : Nat) : Rdr (w.setCell ⟨B, 1, none⟩ (.int .i64 (q : Int))) B s q :=
  ⟨by simpa [World.setCell] using h.lt, cell_set_off h.c0 (by omega), cell_set_same h.c1, fun o => by rw [World.frozen?_setCell]; exact h.fz o⟩

/-- What the reader's own variables hold: errors. -/
def EV (w : World) : Prop :=
  (4 < w.heap.size ∧ ∃ t v, w.cell? ⟨4, 0, none⟩ = some (.iface t v)) ∧
  (1 < w.heap.size ∧ ∃ t v, w.cell? ⟨1, 0, none⟩ = some (.iface t v)) ∧
  (2 < w.heap.size ∧ ∃ t v, w.cell? ⟨2, 0, none⟩ = some (.iface t v)) ∧
  (3 < w.heap.size ∧ ∃ t v, w.cell? ⟨3, 0, none⟩ = some (.iface t v))

set_option maxRecDepth 100000 in
theorem EV.below {w w' : World} (h : EV w) (hb : Below w.heap.size w w') : EV w' := by
  obtain ⟨⟨l1, t1, p1, h1⟩, ⟨l2, t2, p2, h2⟩, ⟨l3, t3, p3, h3⟩, l4, t4, p4, h4⟩ := h
  exact ⟨⟨Nat.lt_of_lt_of_le l1 hb.size, t1, p1, (hb.cell (p := ⟨_, 0, none⟩) l1).trans h1⟩, ⟨Nat.lt_of_lt_of_le l2 hb.size, t2, p2, (hb.cell (p := ⟨_, 0, none⟩) l2).trans h2⟩, ⟨Nat.lt_of_lt_of_le l3 hb.size, t3, p3, (hb.cell (p := ⟨_, 0, none⟩) l3).trans h3⟩, Nat.lt_of_lt_of_le l4 hb.size, t4, p4, (hb.cell (p := ⟨_, 0, none⟩) l4).trans h4⟩

set_option maxRecDepth 100000 in
theorem idx_first : ∀ (l r : List UInt8), (10 : UInt8) ∉ l → Lib.indexByte (l ++ 10 :: r) 10 = (l.length : Int)
  | [], r, _ => rfl
  | b :: l, r, h => by
    have hb : (b == (10 : UInt8)) = false := by
      simp only [List.mem_cons, not_or] at h
      simpa using fun e => h.1 e.symm
    have ih := idx_first l r (fun hm => h (List.mem_cons_of_mem _ hm))
    show (if b == 10 then (0 : Int) else if Lib.indexByte (l ++ 10 :: r) 10 == -1 then -1 else Lib.indexByte (l ++ 10 :: r) 10 + 1) = _
    rw [hb, ih]
    have hn : (((l.length : Int)) == -1) = false := by
      simp only [beq_eq_false_iff_ne]
      omega
    simp [hn]

set_option maxRecDepth 100000 in
theorem idx_none : ∀ (l : List UInt8), (10 : UInt8) ∉ l → Lib.indexByte l 10 = -1
  | [], _ => rfl
  | b :: l, h => by
    have hb : (b == (10 : UInt8)) = false := by
      simp only [List.mem_cons, not_or] at h
      simpa using fun e => h.1 e.symm
    have ih := idx_none l (fun hm => h (List.mem_cons_of_mem _ hm))
    show (if b == 10 then (0 : Int) else if Lib.indexByte l 10 == -1 then -1 else Lib.indexByte l 10 + 1) = _
    rw [hb, ih]
    simp

set_option maxRecDepth 100000 in
/-- A text has no line that ends, or it has a first one. -/
theorem first_line : ∀ (t : List UInt8), (10 : UInt8) ∉ t ∨ ∃ l r, t = l ++ 10 :: r ∧ (10 : UInt8) ∉ l
  | [] => .inl (by simp)
  | b :: t => by
    by_cases hb : b = 10
    · exact .inr ⟨[], t, by rw [hb]; rfl, by simp⟩
    · rcases first_line t with h | ⟨l, r, rfl, h⟩
      · refine .inl fun hm => ?_
        rcases List.mem_cons.1 hm with h1 | h1
        · exact hb h1.symm
        · exact h h1
      · refine .inr ⟨b :: l, r, rfl, fun hm => ?_⟩
        rcases List.mem_cons.1 hm with h1 | h1
        · exact hb h1.symm
        · exact h h1

set_option maxRecDepth 100000 in
theorem extract_end (s : ByteArray) (p : Nat) : (s.extract p s.size).data.toList = s.data.toList.drop p := by
  rw [piece, List.take_of_length_le (by simp)]

set_option maxRecDepth 100000 in
theorem extract_line {s : ByteArray} {p : Nat} {l r : List UInt8} (h : s.data.toList.drop p = l ++ 10 :: r) : s.extract p (p + l.length + 1) = str (l ++ [10]) := by
  apply ByteArray.ext
  apply Array.ext'
  have e : (s.extract p (p + l.length + 1)).data.toList = (s.data.toList.drop p).take (l.length + 1) := by
    rw [piece, List.drop_take, show p + l.length + 1 - p = l.length + 1 by omega]
  show (s.extract p (p + l.length + 1)).data.toList = (str (l ++ [10])).data.toList
  rw [e, h]
  simp only [str, List.take_append, List.take_of_length_le (Nat.le_succ l.length)]
  simp

set_option maxRecDepth 100000 in
theorem line_fits {s : ByteArray} {p : Nat} {l r : List UInt8} (h : s.data.toList.drop p = l ++ 10 :: r) : p + l.length + 1 ≤ s.size := by
  have h1 := congrArg List.length h
  simp only [List.length_drop, List.length_append, List.length_cons] at h1
  have h2 : s.data.toList.length = s.size := by simp
  omega

set_option maxRecDepth 100000 in
set_option maxHeartbeats 4000000 in
theorem rdLine_any (w0 : World) (s : ByteArray) (p B : Nat) (w : World) (hs : s.size ≤ 1048576) (hp : p ≤ s.size) (hE : EV w0) (hb : Below w0.heap.size w0 w) (hr : Rdr w B s p) :
    Calls Tryz.prog 113 #[.pointer (some ⟨B, 0, none⟩)] w fun e w' => Hole B w w' ∧
      ((∃ l r, s.data.toList.drop p = l ++ 10 :: r ∧ (10 : UInt8) ∉ l ∧ e = .returned (.tuple #[.string (str (l ++ [10])), .nilIface]) ∧ Rdr w' B s (p + l.length + 1)) ∨
       ((10 : UInt8) ∉ s.data.toList.drop p ∧ ∃ t v, e = .returned (.tuple #[.string ⟨#[]⟩, .iface t v]))) := by
  obtain ⟨lt0, tE, vE, cE0⟩ := hE.1
  have cE := (hb.cell (p := ⟨4, 0, none⟩) lt0).trans cE0
  have HR := Lib.hid hr
  have c0 := hr.c0
  have c1 := hr.c1
  have fz := hr.fz
  have p0 : (0 : Int) ≤ (p : Int) := by omega
  have p1 : (p : Int) ≤ (s.size : Int) := by omega
  clear hr hb hE cE0
  rcases first_line (s.data.toList.drop p) with hno | ⟨l, r, hlr, hl⟩
  · have HC : ∀ W, Calls Tryz.prog 118 #[.string (s.extract p s.size), .string ⟨#[10]⟩] W fun e w' => e = .returned (.int .i64 (-1)) ∧ w' = W := fun W => by
      refine (Tryz.strings_Index_one (s.extract p s.size) 10 W).mono ?_
      rintro e w' ⟨rfl, hw⟩
      rw [extract_end, idx_none _ hno]
      exact ⟨rfl, hw⟩
    have HNO := Lib.hid hno
    clear hno
    go_enter Tryz.func113, Tryz.ntmps113
    go_wp2_with fail
    go_quiet ((go_at_call 118; exact Calls.quiet_of_same (HC _)))
    go_wp2_with fail
    go_quiet (fail)
    go_wp2
    refine bodyPost_ret (v := .tuple #[.string ⟨#[]⟩, .iface tE vE]) (by simp [results, Tryz.results113, go_sem]) rfl ?_
    exact ⟨((Hole.refl B w).drewN _).drewN _, .inr ⟨HNO.out, _, _, rfl⟩⟩
  · have HC : ∀ W, Calls Tryz.prog 118 #[.string (s.extract p s.size), .string ⟨#[10]⟩] W fun e w' => e = .returned (.int .i64 (l.length : Int)) ∧ w' = W := fun W => by
      refine (Tryz.strings_Index_one (s.extract p s.size) 10 W).mono ?_
      rintro e w' ⟨rfl, hw⟩
      rw [extract_end, hlr, idx_first _ _ hl]
      exact ⟨rfl, hw⟩
    have hf := line_fits hlr
    have HX := Lib.hid (extract_line hlr)
    have HLR := Lib.hid hlr
    have HL := Lib.hid hl
    have hsz : (s.extract p (p + l.length + 1)).size = l.length + 1 := by rw [HX.out, str_size]; simp
    clear hlr hl
    generalize hn : l.length = n at *
    have HN := Lib.hid hn
    clear hn
    have w1 : IntKind.i64.wrap ((p : Int) + (n : Int)) = (p : Int) + (n : Int) := IntWalk.i64_in _ (by omega)
    have w2 : IntKind.i64.wrap ((p : Int) + (n : Int) + 1) = ((p + n + 1 : Nat) : Int) := (IntWalk.i64_in _ (by omega)).trans (by omega)
    have w3 : (p : Int) ≤ ((p + n + 1 : Nat) : Int) := by omega
    have w4 : ((p + n + 1 : Nat) : Int) ≤ (s.size : Int) := by omega
    have w5 : (p : Int) ≤ (p : Int) + (n : Int) + 1 := by omega
    have w6 : (p : Int) + (n : Int) + 1 ≤ (s.size : Int) := by omega
    go_enter Tryz.func113, Tryz.ntmps113
    go_wp2_with fail
    go_quiet ((go_at_call 118; exact Calls.quiet_of_same (HC _)))
    go_wp2_with fail
    go_quiet (fail)
    go_wp2
    have e9 : (p : Int) + ((n : Int) + 1) = ((p + n + 1 : Nat) : Int) := by omega
    refine bodyPost_ret (v := .tuple #[.string (s.extract p (p + n + 1)), .nilIface]) (by simp [results, Tryz.results113, go_sem]) rfl ?_
    rw [e9]
    exact ⟨((Hole.refl B w).drewN _).set 1 _, .inl ⟨l, r, HLR.out, HL.out, by rw [HX.out], by rw [HN.out]; exact (HR.out.drewN _).set _⟩⟩

end Go.Proofs.YtbbmpfkijhhemabGreatDoor

/- The contract of impl.Crc: the same remainder, reckoned in 32 bits. -/
namespace Go.Proofs.YtbbmpfkijhhemabGreatDoor
open Go.ChangeShapes Go.WideShapes Go.ChangeAt Go.RowKit Go.Joins

set_option maxRecDepth 100000 in
set_option maxHeartbeats 2000000 in
theorem crcStep_any (x : Nat) (w : World) (hx : x < 4294967296) :
    Calls Tryz.prog 131 #[.int .u32 (x : Int)] w fun e w' => e = .returned (.int .u32 (crcBits 8 x : Nat)) ∧ w' = w := by
  go_enter Tryz.func131, Tryz.ntmps131
  go_wp2
  go_loopw [0, 4] (fun r i wq => ∃ j : Nat, j ≤ 8 ∧ i = .int .i64 j ∧ r = .int .u32 (crcBits j x : Nat) ∧ wq = w) (fun _ i _ => 8 - (intOf i).toNat)
  case atStart => exact ⟨0, Nat.zero_le _, rfl, rfl, rfl⟩
  case round =>
    obtain ⟨j, hj, rfl, rfl, rfl⟩ := hrel
    by_cases hj' : j < 8
    · have j1 : (j : Int) < 8 := by omega
      have hz := crcBits_bd hx j
      have HS : Hid (crcBits (j + 1) x = crcBit (crcBits j x)) := rfl
      generalize crcBits j x = z at *
      have hz2 : (z / 2 : Nat) < 4294967296 := by omega
      have ha : bits .and .u32 (z : Int) 1 = ((z % 2 : Nat) : Int) := by
        have h := u32_and_nat z 1 hz (by omega)
        rw [nat_mask1] at h
        exact h
      have hx : bits .xor .u32 ((z / 2 : Nat) : Int) 3988292384 = ((z / 2 ^^^ 3988292384 : Nat) : Int) := u32_xor_nat (z / 2) 3988292384 hz2 (by omega)
      by_cases hm : z % 2 = 1
      · have HE : Hid (crcBits (j + 1) x = z / 2 ^^^ 3988292384) := by
          rw [HS.out]
          unfold crcBit
          rw [if_pos hm]
          exact Lib.hid rfl
        go_wp2
        refine ⟨⟨j + 1, by omega, by go_num, ?_, trivial⟩, by simp [intOf]; omega⟩
        have e2 : (z : Int) / 2 = ((z / 2 : Nat) : Int) := by omega
        rw [HE.out, e2, hx]
      · have HE : Hid (crcBits (j + 1) x = z / 2) := by
          rw [HS.out]
          unfold crcBit
          rw [if_neg hm]
          exact Lib.hid rfl
        have hm0 : z % 2 = 0 := by omega
        go_wp2
        refine ⟨⟨j + 1, by omega, by go_num, ?_, trivial⟩, by simp [intOf]; omega⟩
        have e2 : (z : Int) / 2 = ((z / 2 : Nat) : Int) := by omega
        rw [HE.out, e2]
    · have hjj : j = 8 := by omega
      subst hjj
      go_wp2
      go_ret
      exact ⟨rfl, rfl⟩

set_option maxRecDepth 100000 in
set_option maxHeartbeats 2000000 in
theorem implCrc_any (s : ByteArray) (w : World) (hs : s.size ≤ 9223372036854775807) :
    Calls Tryz.prog 124 #[.string s] w fun e w' => e = .returned (.int .i64 (crcL s.data.toList : Nat)) ∧ w' = w := by
  go_enter Tryz.func124, Tryz.ntmps124
  go_wp2
  go_loopw [3, 7] (fun x i wr => ∃ k : Nat, k ≤ s.size ∧ i = .int .i64 k ∧ x = .int .u32 (crcRun (s.data.toList.take k) : Nat) ∧ wr = w) (fun _ i _ => s.size - (intOf i).toNat)
  case atStart => exact ⟨0, Nat.zero_le _, rfl, rfl, rfl⟩
  case round =>
    obtain ⟨k, hk, rfl, rfl, rfl⟩ := hrel
    by_cases hk' : k < s.size
    · have i1 : (0 : Int) ≤ (k : Int) := by omega
      have i2 : (k : Int) < (s.size : Int) := by omega
      have HT := Lib.hid (crcRun_take hk')
      have hb := crcRun_bd (s.data.toList.take k)
      have hc : (s[k].toNat : Nat) < 4294967296 := by have := s[k].toNat_lt; omega
      have hu : s[k].toNat < 256 := UInt8.toNat_lt _
      have hx : bits .xor .u32 ((crcRun (s.data.toList.take k) : Nat) : Int) ((s[k].toNat : Nat) : Int) = ((crcRun (s.data.toList.take k) ^^^ s[k].toNat : Nat) : Int) := u32_xor_nat _ _ hb hc
      have hy := xor32 hb hc
      have HB : Hid (crcByte (crcRun (s.data.toList.take k)) s[k] = crcBits 8 (crcRun (s.data.toList.take k) ^^^ s[k].toNat)) := rfl
      go_wp2_with fail
      refine (crcStep_any _ _ hy).mono ?_
      rintro e w1 ⟨rfl, hw⟩
      subst w1
      go_wp2
      exact ⟨⟨k + 1, by omega, by go_num, by rw [HT.out, HB.out], trivial⟩, by simp [intOf]; omega⟩
    · have hkk : k = s.size := by omega
      subst hkk
      have e : s.data.toList.take s.size = s.data.toList := List.take_of_length_le (by simp)
      rw [e]
      have hb := crcRun_bd s.data.toList
      have hl := crcL_bd s.data.toList
      have hx : bits .xor .u32 ((crcRun s.data.toList : Nat) : Int) 4294967295 = ((crcL s.data.toList : Nat) : Int) := u32_xor_nat _ 4294967295 hb (by omega)
      go_wp2
      go_ret
      exact ⟨rfl, rfl⟩

end Go.Proofs.YtbbmpfkijhhemabGreatDoor
