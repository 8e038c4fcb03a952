/- Words of one's own, in a row that is written into; what they are when they are joined. -/
import Derived.Test.YtlbcpppmpbbkdalDoorWText
import Derived.Test.YtlbcpppmpbbkdalDoorWordsP
import Derived.Test.YtlbcpppmpbbkdalDoorWriteOk2
import Derived.Test.YtlbcpppmpbbkdalDoorImplNum
import Derived.Laws.MakeOwn
import Derived.Laws.OwnMore
import Derived.Lib.Join
namespace Go.Proofs.YtlbcpppmpbbkdalDoor
open Go.ChangeShapes Go.WideShapes Go.ChangeAt Go.RowKit Go.Joins

structure OwnStrs (w : World) (base g cap : Nat) (ws : List ByteArray) : Prop where
  le : base ≤ g
  lt : g < w.heap.size
  own : w.ownsRow base 9 1 (.slice (some ⟨g, 0, none⟩) ws.length cap) ws.length (ws.map Value.string)

theorem OwnStrs.below {w w' : World} {base g cap : Nat} {ws : List ByteArray} (h : OwnStrs w base g cap ws) (hb : Below w.heap.size w w') : OwnStrs w' base g cap ws :=
  ⟨h.le, Nat.lt_of_lt_of_le h.lt hb.size, h.own.kept (row := none) ⟨hb.os, hb.tape, hb.output, hb.size, fun k hk _ => hb.block k hk⟩ (.inr (by simp [Value.ownBlock]))⟩

theorem OwnStrs.set {w : World} {base g cap : Nat} {ws : List ByteArray} (h : OwnStrs w base g cap ws) (j : Nat) (t : ByteArray) : OwnStrs (w.setCell ⟨g, j, none⟩ (.string t)) base g cap (ws.set j t) := by
  refine ⟨h.le, by simpa using h.lt, ?_⟩
  have := (h.own.stored j (.string t)).1
  rw [← List.map_set] at this
  simpa using this

theorem OwnStrs.cell {w : World} {base g cap : Nat} {ws : List ByteArray} (h : OwnStrs w base g cap ws) {j : Nat} {t : ByteArray} (ht : ws[j]? = some t) : w.cell? ⟨g, j, none⟩ = some (.string t) := by
  rw [h.own.cellAt j (by have := (List.getElem?_eq_some_iff.1 ht).1; omega)]
  simp [ht]

theorem OwnStrs.froz {w : World} {base g cap : Nat} {ws : List ByteArray} (h : OwnStrs w base g cap ws) (j : Nat) : w.frozen? ⟨g, j, none⟩ = false := h.own.frozenAt j

/-- A write's box, and a row of words behind it. -/
structure Words (w W : World) (k c s q v : Int) (de : Bool) (a : Option Addr) (len cap g wc : Nat) (ws : List ByteArray) : Prop where
  box : BoxIn w W k c s q v de a len cap
  row : OwnStrs W (w.heap.size + 1) g wc ws

theorem Words.step {w W W' : World} {k c s q v : Int} {de : Bool} {a : Option Addr} {len cap g wc : Nat} {ws : List ByteArray} (h : Words w W k c s q v de a len cap g wc ws) (hb : Below W.heap.size W W') : Words w W' k c s q v de a len cap g wc ws :=
  ⟨h.box.step hb, h.row.below hb⟩

theorem Words.set {w W : World} {k c s q v : Int} {de : Bool} {a : Option Addr} {len cap g wc : Nat} {ws : List ByteArray} (h : Words w W k c s q v de a len cap g wc ws) (j : Nat) (t : ByteArray) : Words w (W.setCell ⟨g, j, none⟩ (.string t)) k c s q v de a len cap g wc (ws.set j t) := by
  have hle := h.row.le
  refine ⟨h.box.other (by simp) (h.box.below.setCell (p := ⟨g, j, none⟩) (show w.heap.size ≤ g by omega) _) (Below.heap_setCell _ _ _ _ (show w.heap.size ≠ g by omega)), h.row.set j t⟩

theorem Words.grown {w W W' : World} {k c s q v : Int} {de : Bool} {a : Option Addr} {len cap g wc g' wc' : Nat} {ws ws' : List ByteArray} (h : Words w W k c s q v de a len cap g wc ws) (hg : W.grownBy W' (some g)) (ho : OwnStrs W' (w.heap.size + 1) g' wc' ws') : Words w W' k c s q v de a len cap g' wc' ws' := by
  have hle := h.row.le
  refine ⟨h.box.other hg.size (h.box.below.grown hg h.box.below.size fun j hj => by injection hj with hj; omega) (hg.block _ h.box.lt (by simp; omega)), ho⟩

theorem Words.ne {w W : World} {k c s q v : Int} {de : Bool} {a : Option Addr} {len cap g wc : Nat} {ws : List ByteArray} (h : Words w W k c s q v de a len cap g wc ws) : g ≠ w.heap.size := by
  have := h.row.le
  omega

theorem Words.tab {w W : World} {k c s q v : Int} {de : Bool} {a : Option Addr} {len cap g wc : Nat} {ws : List ByteArray} (h : Words w W k c s q v de a len cap g wc ws) (ht : Tab w) : Tab W := ht.below h.box.below ht.lt

theorem implNumT (n : Int) (t : ByteArray) (w : World) (ht : t = str (Lib.itoa n)) (h : -9223372036854775808 ≤ n ∧ n ≤ 9223372036854775807) (hT : Tab w) :
    Calls Tryd.prog 43 #[.int .i64 n] w fun e w' => e = .returned (.string t) ∧ Below w.heap.size w w' := by
  subst ht
  exact implNum n w h.1 h.2 hT

theorem flag_any (de : Bool) (w : World) : Calls Tryd.prog 74 #[.bool de] w fun e w' => e = .returned (.int .i64 (bitI de)) ∧ w' = w := by
  go_enter Tryd.func74, Tryd.ntmps74
  cases de
  · go_wp2
    go_ret
    exact ⟨rfl, rfl⟩
  · go_wp2
    go_ret
    exact ⟨rfl, rfl⟩

theorem infoStr : (Tryd.prog.info? 9).map (fun i => (i.zero, i.size, i.bytes)) = some (some (.string ⟨#[]⟩), 1, 16) := by kernel_rfl

set_option maxRecDepth 100000 in
theorem make_words {w w1 : World} {k c s q v : Int} {de : Bool} {a : Option Addr} {len cap : Nat} (h : BoxIn w w1 k c s q v de a len cap) (n : Nat) (hn : n ≤ 1048576) :
    ∃ W, (Instr.makeSlice 99 (.int .i64 8) (.int .i64 (8 + 4 * (n : Int)))).run Tryd.prog w1 = .ok (.slice (some ⟨w1.heap.size, 0, none⟩) 8 (8 + 4 * n)) W ∧ Words w W k c s q v de a len cap w1.heap.size (8 + 4 * n) (List.replicate 8 ⟨#[]⟩) := by
  obtain ⟨i, hi, hx⟩ := Option.map_eq_some_iff.1 infoStr
  simp only [Prod.mk.injEq] at hx
  have hr := run_make (P := Tryd.prog) w1 99 9 i (.string ⟨#[]⟩) Tryd.underlying99 hi hx.1 .i64 .i64 8 (8 + 4 * (n : Int)) (by omega) (by omega) (by rw [hx.2.2]; omega) (by omega)
  have e1 : (8 + 4 * (n : Int)).toNat = 8 + 4 * n := by omega
  rw [e1, hx.2.1, Nat.mul_one] at hr
  refine ⟨_, hr, ⟨h.step ((Below.refl _ _).alloc (Nat.le_refl _) _), ⟨h.lt, by simp, by simp, .inr ⟨w1.heap.size, 8 + 4 * n, _, rfl, h.lt, heap_alloc_new w1 _, by simp, by simp [maxLen]; omega, by rw [size_madeCells]; omega, ?_⟩⟩⟩⟩
  rw [show (Value.string ⟨#[]⟩).cells = #[Value.string ⟨#[]⟩] from rfl, toList_madeCells_one, List.take_replicate]
  simp only [List.length_replicate, List.map_replicate]
  congr 1
  omega

/-- Words of one's own, as a slice that is handed on. -/
def StrsFact (ts : List ByteArray) : Fact := fun v w => ∃ g, v = .slice (some ⟨g, 0, none⟩) ts.length ts.length ∧ g < w.heap.size ∧ ∀ j u, (ts.map Value.string)[j]? = some u → w.cell? ⟨g, j, none⟩ = some u

theorem lasts_strs (ts : List ByteArray) : lasts (fun w w' => Below w.heap.size w w') (StrsFact ts) := by
  rintro v w w' ⟨g, hv, hg, hh⟩ hb
  exact ⟨g, hv, Nat.lt_of_lt_of_le hg hb.size, fun j u hu => (hb.cell (p := ⟨g, j, none⟩) hg).trans (hh j u hu)⟩

theorem strs_new {w : World} {t : Nat} (ts : List ByteArray) : StrsFact ts (.slice (some ⟨w.heap.size, 0, none⟩) ts.length ts.length) (w.alloc (.cells (ts.map Value.string).toArray t)) :=
  ⟨_, rfl, by simp, fun j u hu => by rw [cell_of_row _ _ j _ t (0, 0) (heap_alloc_new w _)]; simpa using hu⟩

end Go.Proofs.YtlbcpppmpbbkdalDoor
