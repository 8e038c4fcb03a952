import Derived.Test.YtidpcjcnhklmpajPack2
import Derived.Deep.Slices
import Derived.Deep.Strs
import Derived.Test.YtidpcjcnhklmpajPack3
/- What comes in, opened: tags, dependencies, slices of them, writes. -/
namespace Go.Proofs.Ytidpcjcnhklmpaj
open Go.ChangeShapes Go.WideShapes Go.ChangeAt Go.RowKit Go.Joins Go.Deep
set_option maxRecDepth 100000

theorem cellsInt : Try.prog.cellsOf 3 = 1 := by kernel_rfl

theorem cellsTag : Try.prog.cellsOf 47 = 3 := by kernel_rfl

theorem cellsDep : Try.prog.cellsOf 59 = 4 := by kernel_rfl

section
variable {H : Type} {enc : TypeId × Value → H} {w : World} {base : Nat} {spare : Nat → Bool} {held : Bool}

theorem tag_cells {fuel : Nat} {cs : List Value} {x : DataW H × List MemPlace} (h : DataW.trod enc Try.prog w base spare held fuel 47 cs = some x) : ∃ c s q : Int, cs = [.int .i64 c, .int .i64 s, .int .i64 q] := by
  obtain ⟨y0, y1, y2, n, _, hl, h0, h1, h2⟩ := trod_struct3 Try.underlying47 h
  rw [cellsTag] at hl
  match cs, hl with
  | [v0, v1, v2], _ =>
    obtain ⟨a0, e0, _, _⟩ := DataW.trod_int Try.underlying3 h0
    obtain ⟨a1, e1, _, _⟩ := DataW.trod_int Try.underlying3 h1
    obtain ⟨a2, e2, _, _⟩ := DataW.trod_int Try.underlying3 h2
    simp [cellsInt] at e0 e1 e2
    subst e0 e1 e2
    exact ⟨a0, a1, a2, rfl⟩

theorem dep_cells {fuel : Nat} {cs : List Value} {x : DataW H × List MemPlace} (h : DataW.trod enc Try.prog w base spare held fuel 59 cs = some x) : ∃ d : Dp, cs = [.int .i64 d.k, .int .i64 d.c, .int .i64 d.s, .int .i64 d.q] := by
  obtain ⟨y0, y1, n, _, hl, h0, h1⟩ := trod_struct2 Try.underlying59 h
  rw [cellsDep] at hl
  match cs, hl with
  | [v0, v1, v2, v3], _ =>
    obtain ⟨a0, e0, _, _⟩ := DataW.trod_int Try.underlying3 h0
    obtain ⟨c, s, q, e1⟩ := tag_cells h1
    simp [cellsInt] at e0
    simp [cellsTag] at e1
    obtain ⟨e1, e2, e3⟩ := e1
    subst e0 e1 e2 e3
    exact ⟨⟨a0, c, s, q⟩, rfl⟩

theorem add_form {a : Addr} {v : Value} (h : w.cell? a = some v) : a = ⟨a.block, a.off, none⟩ := by
  cases a with
  | mk b o s =>
    cases s with
    | none => rfl
    | some s =>
      simp only [World.cell?] at h
      split at h <;> simp at h

theorem add_plain (b o i : Nat) : (Addr.mk b o none).add i = ⟨b, o + i, none⟩ := by
  unfold Addr.add
  split
  · rename_i h
    rw [h]
    rfl
  · rfl

theorem deps_cells {fuel : Nat} {a : Option Addr} {len cap : Nat} {x : DataW H × List MemPlace} (h : DataW.trod enc Try.prog w base spare held fuel 33 [.slice a len cap] = some x) :
    ∃ xs : List Dp, xs.length = len ∧ len ≤ maxLen ∧ IsDeps w a xs := by
  rcases open_slice Try.underlying33 h with ⟨hcs, _⟩ | ⟨a', len', cap', m, n, D, Pl, hcs, _, hl, hm, hmm, _, hel⟩
  · simp at hcs
    obtain ⟨rfl, rfl, rfl⟩ := hcs
    exact ⟨[], rfl, Nat.zero_le _, .inl rfl⟩
  · simp at hcs
    obtain ⟨rfl, rfl, rfl⟩ := hcs
    have hml : len ≤ m := by rw [hmm]; split <;> omega
    have hd : ∀ i, i < len → ∃ d : Dp, w.cell? (a'.add (i * 4)) = some (.int .i64 d.k) ∧ w.cell? (a'.add (i * 4 + 1)) = some (.int .i64 d.c) ∧ w.cell? (a'.add (i * 4 + 2)) = some (.int .i64 d.s) ∧ w.cell? (a'.add (i * 4 + 3)) = some (.int .i64 d.q) := by
      intro i hi
      obtain ⟨cs', h1, h2⟩ := hel i (by omega)
      rw [cellsDep] at h1
      obtain ⟨_, _, hc⟩ := World.cells?_some h1
      obtain ⟨d, hdd⟩ := dep_cells h2
      rw [hdd] at hc
      have c0 := hc 0 (by omega)
      have c1 := hc 1 (by omega)
      have c2 := hc 2 (by omega)
      have c3 := hc 3 (by omega)
      rw [add_add] at c0 c1 c2 c3
      exact ⟨d, by simpa using c0, by simpa using c1, by simpa using c2, by simpa using c3⟩
    by_cases h0 : len = 0
    · subst h0
      exact ⟨[], rfl, Nat.zero_le _, .inl rfl⟩
    have : Inhabited Dp := ⟨dz⟩
    obtain ⟨f, hf⟩ := choose_lt hd
    have ha : a' = ⟨a'.block, a'.off, none⟩ := by
      have h1 := (hf 0 (by omega)).1
      simp [Addr.add] at h1
      exact add_form h1
    refine ⟨(List.range len).map f, by simp, by omega, .inr ⟨a'.block, a'.off, by rw [← ha], ?_, ?_⟩⟩
    · obtain ⟨cs', h1, _⟩ := hel 0 (by omega)
      rw [cellsDep] at h1
      have h2 := World.cells?_block h1 (by omega)
      simpa [Addr.add] using h2
    · intro i hi
      have hi' : i < len := by simpa using hi
      have hg : ((List.range len).map f).getD i dz = f i := by simp [List.getD, hi']
      rw [hg]
      obtain ⟨h1, h2, h3, h4⟩ := hf i hi'
      rw [ha] at h1 h2 h3 h4
      rw [add_plain] at h1 h2 h3 h4
      exact ⟨h1, h2, h3, h4⟩

theorem open_deps {b0 : Nat} {r : Reach} {v : Value} {d : DataW H} {p : List MemPlace} (hv : Value.okWide Try.prog w r b0 33 v) (h : DataW.Trod enc Try.prog w base (fun _ => true) held 33 v d p) :
    ∃ (a : Option Addr) (len cap : Nat) (xs : List Dp), v = .slice a len cap ∧ (xs.length = len ∧ len ≤ maxLen ∧ IsDeps w a xs) := by
  obtain ⟨a, len, cap, rfl⟩ := okWide_slice Try.underlying33 hv
  obtain ⟨fuel, hf⟩ := h
  obtain ⟨xs, hx⟩ := deps_cells (by simpa [Value.cells] using hf)
  exact ⟨a, len, cap, xs, rfl, hx⟩

theorem cellsBool : Try.prog.cellsOf 4 = 1 := by kernel_rfl

theorem cellsDepS : Try.prog.cellsOf 33 = 1 := by kernel_rfl

theorem cellsWrite : Try.prog.cellsOf 49 = 7 := by kernel_rfl

theorem slice_cells {fuel : Nat} {v : Value} {x : DataW H × List MemPlace} (h : DataW.trod enc Try.prog w base spare held fuel 33 [v] = some x) : ∃ a len cap, v = .slice a len cap := by
  rcases open_slice Try.underlying33 h with ⟨hcs, _⟩ | ⟨a', len', cap', m, n, D, Pl, hcs, _⟩
  · simp at hcs
    exact ⟨_, _, _, hcs⟩
  · simp at hcs
    exact ⟨_, _, _, hcs⟩

theorem open_write {b0 : Nat} {r : Reach} {v : Value} {d : DataW H} {p : List MemPlace} (hv : Value.okWide Try.prog w r b0 49 v) (h : DataW.Trod enc Try.prog w base (fun _ => true) held 49 v d p) :
    ∃ (k c s q va : Int) (de : Bool) (a : Option Addr) (len cap : Nat) (xs : List Dp), v = .agg #[.int .i64 k, .int .i64 c, .int .i64 s, .int .i64 q, .int .i64 va, .bool de, .slice a len cap] ∧ (xs.length = len ∧ len ≤ maxLen ∧ IsDeps w a xs) := by
  obtain ⟨cs, rfl, hsz⟩ := okWide_struct Try.underlying49 hv
  rw [cellsWrite] at hsz
  obtain ⟨fuel, hf⟩ := h
  obtain ⟨xs', n, _, _, _, hlen, hfd⟩ := DataW.trod_struct Try.underlying49 hf
  cases cs with
  | mk l =>
    have hl : l.length = 7 := by simpa using hsz
    match l, hl, xs', hlen with
    | [v0, v1, v2, v3, v4, v5, v6], _, [y0, y1, y2, y3, y4], _ =>
      have g0 := hfd 0 _ rfl
      have g1 := hfd 1 _ rfl
      have g2 := hfd 2 _ rfl
      have g3 := hfd 3 _ rfl
      have g4 := hfd 4 _ rfl
      simp [Value.cells, cellsInt, cellsTag, cellsBool, cellsDepS] at g0 g1 g2 g3 g4
      obtain ⟨k, e0, _, _⟩ := DataW.trod_int Try.underlying3 g0
      obtain ⟨c, s, q, e1⟩ := tag_cells g1
      obtain ⟨va, e2, _, _⟩ := DataW.trod_int Try.underlying3 g2
      obtain ⟨de, e3, _⟩ := DataW.trod_bool Try.underlying4 g3
      obtain ⟨a, len, cap, e4⟩ := slice_cells g4
      simp at e0 e1 e2 e3
      obtain ⟨e1, e1', e1''⟩ := e1
      subst e0 e1 e1' e1'' e2 e3 e4
      obtain ⟨xs, hx⟩ := deps_cells g4
      exact ⟨k, c, s, q, va, de, a, len, cap, xs, rfl, hx⟩

end
end Go.Proofs.Ytidpcjcnhklmpaj

/- What comes in, opened: slices of writes. -/
namespace Go.Proofs.Ytidpcjcnhklmpaj
open Go.ChangeShapes Go.WideShapes Go.ChangeAt Go.RowKit Go.Joins Go.Deep
set_option maxRecDepth 100000

section
variable {H : Type} {enc : TypeId × Value → H} {w : World} {base : Nat} {spare : Nat → Bool} {held : Bool}

theorem write_cells {fuel : Nat} {cs : List Value} {x : DataW H × List MemPlace} (h : DataW.trod enc Try.prog w base spare held fuel 49 cs = some x) :
    ∃ (y : Wr) (a : Option Addr) (cap : Nat), cs = [.int .i64 y.k, .int .i64 y.c, .int .i64 y.s, .int .i64 y.q, .int .i64 y.v, .bool y.de, .slice a y.xs.length cap] ∧ y.xs.length ≤ maxLen ∧ IsDeps w a y.xs := by
  obtain ⟨xs', n, hl0, _, _, hlen, hfd⟩ := DataW.trod_struct Try.underlying49 h
  have hl : cs.length = 7 := by rw [cellsWrite] at *; assumption
  match cs, hl, xs', hlen with
  | [v0, v1, v2, v3, v4, v5, v6], _, [y0, y1, y2, y3, y4], _ =>
    have g0 := hfd 0 _ rfl
    have g1 := hfd 1 _ rfl
    have g2 := hfd 2 _ rfl
    have g3 := hfd 3 _ rfl
    have g4 := hfd 4 _ rfl
    simp [cellsInt, cellsTag, cellsBool, cellsDepS] at g0 g1 g2 g3 g4
    obtain ⟨k, e0, _, _⟩ := DataW.trod_int Try.underlying3 g0
    obtain ⟨c, s, q, e1⟩ := tag_cells g1
    obtain ⟨va, e2, _, _⟩ := DataW.trod_int Try.underlying3 g2
    obtain ⟨de, e3, _⟩ := DataW.trod_bool Try.underlying4 g3
    obtain ⟨a, len, cap, e4⟩ := slice_cells g4
    simp at e0 e1 e2 e3
    obtain ⟨e1, e1', e1''⟩ := e1
    subst e0 e1 e1' e1'' e2 e3 e4
    obtain ⟨xs, hx1, hx2, hx3⟩ := deps_cells g4
    subst hx1
    exact ⟨⟨k, c, s, q, va, de, xs⟩, a, cap, rfl, hx2, hx3⟩

theorem ws_cells {fuel : Nat} {a : Option Addr} {len cap : Nat} {x : DataW H × List MemPlace} (h : DataW.trod enc Try.prog w base spare held fuel 22 [.slice a len cap] = some x) :
    ∃ ws : List Wr, ws.length = len ∧ len ≤ maxLen ∧ IsWs w a ws := by
  rcases open_slice Try.underlying22 h with ⟨hcs, _⟩ | ⟨a', len', cap', m, n, D, Pl, hcs, _, hl, hm, hmm, _, hel⟩
  · simp at hcs
    obtain ⟨rfl, rfl, rfl⟩ := hcs
    exact ⟨[], rfl, Nat.zero_le _, .inl rfl⟩
  · simp at hcs
    obtain ⟨rfl, rfl, rfl⟩ := hcs
    have hml : len ≤ m := by rw [hmm]; split <;> omega
    have hd : ∀ i, i < len → ∃ y : Wr, ∃ (ad : Option Addr) (cp : Nat), w.cell? (a'.add (i * 7)) = some (.int .i64 y.k) ∧ w.cell? (a'.add (i * 7 + 1)) = some (.int .i64 y.c) ∧ w.cell? (a'.add (i * 7 + 2)) = some (.int .i64 y.s) ∧ w.cell? (a'.add (i * 7 + 3)) = some (.int .i64 y.q) ∧ w.cell? (a'.add (i * 7 + 4)) = some (.int .i64 y.v) ∧ w.cell? (a'.add (i * 7 + 5)) = some (.bool y.de) ∧ w.cell? (a'.add (i * 7 + 6)) = some (.slice ad y.xs.length cp) ∧ y.xs.length ≤ maxLen ∧ IsDeps w ad y.xs := by
      intro i hi
      obtain ⟨cs', h1, h2⟩ := hel i (by omega)
      rw [cellsWrite] at h1
      obtain ⟨_, _, hc⟩ := World.cells?_some h1
      obtain ⟨y, ad, cp, hdd, hy1, hy2⟩ := write_cells h2
      rw [hdd] at hc
      have c0 := hc 0 (by omega)
      have c1 := hc 1 (by omega)
      have c2 := hc 2 (by omega)
      have c3 := hc 3 (by omega)
      have c4 := hc 4 (by omega)
      have c5 := hc 5 (by omega)
      have c6 := hc 6 (by omega)
      rw [add_add] at c0 c1 c2 c3 c4 c5 c6
      exact ⟨y, ad, cp, by simpa using c0, by simpa using c1, by simpa using c2, by simpa using c3, by simpa using c4, by simpa using c5, by simpa using c6, hy1, hy2⟩
    by_cases h0 : len = 0
    · subst h0
      exact ⟨[], rfl, Nat.zero_le _, .inl rfl⟩
    have : Inhabited Wr := ⟨wz⟩
    obtain ⟨f, hf⟩ := choose_lt hd
    have ha : a' = ⟨a'.block, a'.off, none⟩ := by
      obtain ⟨_, _, h1, _⟩ := hf 0 (by omega)
      simp [Addr.add] at h1
      exact add_form h1
    refine ⟨(List.range len).map f, by simp, by omega, .inr ⟨a'.block, a'.off, by rw [← ha], ?_, ?_⟩⟩
    · obtain ⟨cs', h1, _⟩ := hel 0 (by omega)
      rw [cellsWrite] at h1
      have h2 := World.cells?_block h1 (by omega)
      simpa [Addr.add] using h2
    · intro i hi
      have hi' : i < len := by simpa using hi
      have hg : ((List.range len).map f).getD i wz = f i := by simp [List.getD, hi']
      rw [hg]
      obtain ⟨ad, cp, h1, h2, h3, h4, h5, h6, h7, h8, h9⟩ := hf i hi'
      rw [ha] at h1 h2 h3 h4 h5 h6 h7
      rw [add_plain] at h1 h2 h3 h4 h5 h6 h7
      exact ⟨ad, cp, ⟨h1, h2, h3, h4, h5, h6, h7⟩, h8, h9⟩

theorem open_ws {b0 : Nat} {r : Reach} {v : Value} {d : DataW H} {p : List MemPlace} (hv : Value.okWide Try.prog w r b0 22 v) (h : DataW.Trod enc Try.prog w base (fun _ => true) held 22 v d p) :
    ∃ (a : Option Addr) (len cap : Nat) (ws : List Wr), v = .slice a len cap ∧ (ws.length = len ∧ len ≤ maxLen ∧ IsWs w a ws) := by
  obtain ⟨a, len, cap, rfl⟩ := okWide_slice Try.underlying22 hv
  obtain ⟨fuel, hf⟩ := h
  obtain ⟨ws, hx⟩ := ws_cells (by simpa [Value.cells] using hf)
  exact ⟨a, len, cap, ws, rfl, hx⟩

end
end Go.Proofs.Ytidpcjcnhklmpaj
