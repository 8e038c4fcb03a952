import Derived.Test.YtomndnopbpbblaaPack1
import Derived.Deep.Slices
import Derived.Deep.Strs
import Derived.Test.YtomndnopbpbblaaPack2
import Derived.Test.YtomndnopbpbblaaPack7
import Derived.Test.YtomndnopbpbblaaPack6
import Derived.Test.YtomndnopbpbblaaPack8
import Derived.Test.YtomndnopbpbblaaPack9
/- What comes in, opened: tags, dependencies, slices of them, writes. -/
namespace Go.Proofs.Ytomndnopbpbblaa
open Go.ChangeShapes Go.WideShapes Go.ChangeAt Go.RowKit Go.Joins Go.Deep
set_option maxRecDepth 100000

theorem cellsInt : Try.prog.cellsOf 3 = 1 := by kernel_rfl

theorem cellsTag : Try.prog.cellsOf 24 = 3 := by kernel_rfl

theorem cellsDep : Try.prog.cellsOf 85 = 4 := by kernel_rfl

section
variable {H : Type} {enc : TypeId × Value → H} {w : World} {base : Nat} {spare : Nat → Bool} {held : Bool}

theorem tag_cells {fuel : Nat} {cs : List Value} {x : DataW H × List MemPlace} (h : DataW.trod enc Try.prog w base spare held fuel 24 cs = some x) : ∃ c s q : Int, cs = [.int .i64 c, .int .i64 s, .int .i64 q] := by
  obtain ⟨y0, y1, y2, n, _, hl, h0, h1, h2⟩ := trod_struct3 Try.underlying24 h
  rw [cellsTag] at hl
  match cs, hl with
  | [v0, v1, v2], _ =>
    obtain ⟨a0, e0, _, _⟩ := DataW.trod_int Try.underlying3 h0
    obtain ⟨a1, e1, _, _⟩ := DataW.trod_int Try.underlying3 h1
    obtain ⟨a2, e2, _, _⟩ := DataW.trod_int Try.underlying3 h2
    simp [cellsInt] at e0 e1 e2
    subst e0 e1 e2
    exact ⟨a0, a1, a2, rfl⟩

theorem dep_cells {fuel : Nat} {cs : List Value} {x : DataW H × List MemPlace} (h : DataW.trod enc Try.prog w base spare held fuel 85 cs = some x) : ∃ d : Dp, cs = [.int .i64 d.k, .int .i64 d.c, .int .i64 d.s, .int .i64 d.q] := by
  obtain ⟨y0, y1, n, _, hl, h0, h1⟩ := trod_struct2 Try.underlying85 h
  rw [cellsDep] at hl
  match cs, hl with
  | [v0, v1, v2, v3], _ =>
    obtain ⟨a0, e0, _, _⟩ := DataW.trod_int Try.underlying3 h0
    obtain ⟨c, s, q, e1⟩ := tag_cells h1
    simp [cellsInt] at e0
    simp [cellsTag] at e1
    obtain ⟨e1, e2, e3⟩ := e1
    subst e0 e1 e2 e3
    exact ⟨⟨a0, c, s, q⟩, rfl⟩

theorem add_form {a : Addr} {v : Value} (h : w.cell? a = some v) : a = ⟨a.block, a.off, none⟩ := by
  cases a with
  | mk b o s =>
    cases s with
    | none => rfl
    | some s =>
      simp only [World.cell?] at h
      split at h <;> simp at h

theorem add_plain (b o i : Nat) : (Addr.mk b o none).add i = ⟨b, o + i, none⟩ := by
  unfold Addr.add
  split
  · rename_i h
    rw [h]
    rfl
  · rfl

theorem deps_cells {fuel : Nat} {a : Option Addr} {len cap : Nat} {x : DataW H × List MemPlace} (h : DataW.trod enc Try.prog w base spare held fuel 25 [.slice a len cap] = some x) :
    ∃ xs : List Dp, xs.length = len ∧ len ≤ maxLen ∧ IsDeps w a xs := by
  rcases open_slice Try.underlying25 h with ⟨hcs, _⟩ | ⟨a', len', cap', m, n, D, Pl, hcs, _, hl, hm, hmm, _, hel⟩
  · simp at hcs
    obtain ⟨rfl, rfl, rfl⟩ := hcs
    exact ⟨[], rfl, Nat.zero_le _, .inl rfl⟩
  · simp at hcs
    obtain ⟨rfl, rfl, rfl⟩ := hcs
    have hml : len ≤ m := by rw [hmm]; split <;> omega
    have hd : ∀ i, i < len → ∃ d : Dp, w.cell? (a'.add (i * 4)) = some (.int .i64 d.k) ∧ w.cell? (a'.add (i * 4 + 1)) = some (.int .i64 d.c) ∧ w.cell? (a'.add (i * 4 + 2)) = some (.int .i64 d.s) ∧ w.cell? (a'.add (i * 4 + 3)) = some (.int .i64 d.q) := by
      intro i hi
      obtain ⟨cs', h1, h2⟩ := hel i (by omega)
      rw [cellsDep] at h1
      obtain ⟨_, _, hc⟩ := World.cells?_some h1
      obtain ⟨d, hdd⟩ := dep_cells h2
      rw [hdd] at hc
      have c0 := hc 0 (by omega)
      have c1 := hc 1 (by omega)
      have c2 := hc 2 (by omega)
      have c3 := hc 3 (by omega)
      rw [add_add] at c0 c1 c2 c3
      exact ⟨d, by simpa using c0, by simpa using c1, by simpa using c2, by simpa using c3⟩
    by_cases h0 : len = 0
    · subst h0
      exact ⟨[], rfl, Nat.zero_le _, .inl rfl⟩
    have : Inhabited Dp := ⟨dz⟩
    obtain ⟨f, hf⟩ := choose_lt hd
    have ha : a' = ⟨a'.block, a'.off, none⟩ := by
      have h1 := (hf 0 (by omega)).1
      simp [Addr.add] at h1
      exact add_form h1
    refine ⟨(List.range len).map f, by simp, by omega, .inr ⟨a'.block, a'.off, by rw [← ha], ?_, ?_⟩⟩
    · obtain ⟨cs', h1, _⟩ := hel 0 (by omega)
      rw [cellsDep] at h1
      have h2 := World.cells?_block h1 (by omega)
      simpa [Addr.add] using h2
    · intro i hi
      have hi' : i < len := by simpa using hi
      have hg : ((List.range len).map f).getD i dz = f i := by simp [List.getD, hi']
      rw [hg]
      obtain ⟨h1, h2, h3, h4⟩ := hf i hi'
      rw [ha] at h1 h2 h3 h4
      rw [add_plain] at h1 h2 h3 h4
      exact ⟨h1, h2, h3, h4⟩

theorem open_deps {b0 : Nat} {r : Reach} {v : Value} {d : DataW H} {p : List MemPlace} (hv : Value.okWide Try.prog w r b0 25 v) (h : DataW.Trod enc Try.prog w base (fun _ => true) held 25 v d p) :
    ∃ (a : Option Addr) (len cap : Nat) (xs : List Dp), v = .slice a len cap ∧ (xs.length = len ∧ len ≤ maxLen ∧ IsDeps w a xs) := by
  obtain ⟨a, len, cap, rfl⟩ := okWide_slice Try.underlying25 hv
  obtain ⟨fuel, hf⟩ := h
  obtain ⟨xs, hx⟩ := deps_cells (by simpa [Value.cells] using hf)
  exact ⟨a, len, cap, xs, rfl, hx⟩

theorem cellsBool : Try.prog.cellsOf 4 = 1 := by kernel_rfl

theorem cellsDepS : Try.prog.cellsOf 25 = 1 := by kernel_rfl

theorem cellsWrite : Try.prog.cellsOf 27 = 7 := by kernel_rfl

theorem slice_cells {fuel : Nat} {v : Value} {x : DataW H × List MemPlace} (h : DataW.trod enc Try.prog w base spare held fuel 25 [v] = some x) : ∃ a len cap, v = .slice a len cap := by
  rcases open_slice Try.underlying25 h with ⟨hcs, _⟩ | ⟨a', len', cap', m, n, D, Pl, hcs, _⟩
  · simp at hcs
    exact ⟨_, _, _, hcs⟩
  · simp at hcs
    exact ⟨_, _, _, hcs⟩

theorem open_write {b0 : Nat} {r : Reach} {v : Value} {d : DataW H} {p : List MemPlace} (hv : Value.okWide Try.prog w r b0 27 v) (h : DataW.Trod enc Try.prog w base (fun _ => true) held 27 v d p) :
    ∃ (k c s q va : Int) (de : Bool) (a : Option Addr) (len cap : Nat) (xs : List Dp), v = .agg #[.int .i64 k, .int .i64 c, .int .i64 s, .int .i64 q, .int .i64 va, .bool de, .slice a len cap] ∧ (xs.length = len ∧ len ≤ maxLen ∧ IsDeps w a xs) := by
  obtain ⟨cs, rfl, hsz⟩ := okWide_struct Try.underlying27 hv
  rw [cellsWrite] at hsz
  obtain ⟨fuel, hf⟩ := h
  obtain ⟨xs', n, _, _, _, hlen, hfd⟩ := DataW.trod_struct Try.underlying27 hf
  cases cs with
  | mk l =>
    have hl : l.length = 7 := by simpa using hsz
    match l, hl, xs', hlen with
    | [v0, v1, v2, v3, v4, v5, v6], _, [y0, y1, y2, y3, y4], _ =>
      have g0 := hfd 0 _ rfl
      have g1 := hfd 1 _ rfl
      have g2 := hfd 2 _ rfl
      have g3 := hfd 3 _ rfl
      have g4 := hfd 4 _ rfl
      simp [Value.cells, cellsInt, cellsTag, cellsBool, cellsDepS] at g0 g1 g2 g3 g4
      obtain ⟨k, e0, _, _⟩ := DataW.trod_int Try.underlying3 g0
      obtain ⟨c, s, q, e1⟩ := tag_cells g1
      obtain ⟨va, e2, _, _⟩ := DataW.trod_int Try.underlying3 g2
      obtain ⟨de, e3, _⟩ := DataW.trod_bool Try.underlying4 g3
      obtain ⟨a, len, cap, e4⟩ := slice_cells g4
      simp at e0 e1 e2 e3
      obtain ⟨e1, e1', e1''⟩ := e1
      subst e0 e1 e1' e1'' e2 e3 e4
      obtain ⟨xs, hx⟩ := deps_cells g4
      exact ⟨k, c, s, q, va, de, a, len, cap, xs, rfl, hx⟩

end
end Go.Proofs.Ytomndnopbpbblaa

/- What comes in, opened: slices of writes. -/
namespace Go.Proofs.Ytomndnopbpbblaa
open Go.ChangeShapes Go.WideShapes Go.ChangeAt Go.RowKit Go.Joins Go.Deep
set_option maxRecDepth 100000

section
variable {H : Type} {enc : TypeId × Value → H} {w : World} {base : Nat} {spare : Nat → Bool} {held : Bool}

theorem write_cells {fuel : Nat} {cs : List Value} {x : DataW H × List MemPlace} (h : DataW.trod enc Try.prog w base spare held fuel 27 cs = some x) :
    ∃ (y : Wr) (a : Option Addr) (cap : Nat), cs = [.int .i64 y.k, .int .i64 y.c, .int .i64 y.s, .int .i64 y.q, .int .i64 y.v, .bool y.de, .slice a y.xs.length cap] ∧ y.xs.length ≤ maxLen ∧ IsDeps w a y.xs := by
  obtain ⟨xs', n, hl0, _, _, hlen, hfd⟩ := DataW.trod_struct Try.underlying27 h
  have hl : cs.length = 7 := by rw [cellsWrite] at *; assumption
  match cs, hl, xs', hlen with
  | [v0, v1, v2, v3, v4, v5, v6], _, [y0, y1, y2, y3, y4], _ =>
    have g0 := hfd 0 _ rfl
    have g1 := hfd 1 _ rfl
    have g2 := hfd 2 _ rfl
    have g3 := hfd 3 _ rfl
    have g4 := hfd 4 _ rfl
    simp [cellsInt, cellsTag, cellsBool, cellsDepS] at g0 g1 g2 g3 g4
    obtain ⟨k, e0, _, _⟩ := DataW.trod_int Try.underlying3 g0
    obtain ⟨c, s, q, e1⟩ := tag_cells g1
    obtain ⟨va, e2, _, _⟩ := DataW.trod_int Try.underlying3 g2
    obtain ⟨de, e3, _⟩ := DataW.trod_bool Try.underlying4 g3
    obtain ⟨a, len, cap, e4⟩ := slice_cells g4
    simp at e0 e1 e2 e3
    obtain ⟨e1, e1', e1''⟩ := e1
    subst e0 e1 e1' e1'' e2 e3 e4
    obtain ⟨xs, hx1, hx2, hx3⟩ := deps_cells g4
    subst hx1
    exact ⟨⟨k, c, s, q, va, de, xs⟩, a, cap, rfl, hx2, hx3⟩

theorem ws_cells {fuel : Nat} {a : Option Addr} {len cap : Nat} {x : DataW H × List MemPlace} (h : DataW.trod enc Try.prog w base spare held fuel 49 [.slice a len cap] = some x) :
    ∃ ws : List Wr, ws.length = len ∧ len ≤ maxLen ∧ IsWs w a ws := by
  rcases open_slice Try.underlying49 h with ⟨hcs, _⟩ | ⟨a', len', cap', m, n, D, Pl, hcs, _, hl, hm, hmm, _, hel⟩
  · simp at hcs
    obtain ⟨rfl, rfl, rfl⟩ := hcs
    exact ⟨[], rfl, Nat.zero_le _, .inl rfl⟩
  · simp at hcs
    obtain ⟨rfl, rfl, rfl⟩ := hcs
    have hml : len ≤ m := by rw [hmm]; split <;> omega
    have hd : ∀ i, i < len → ∃ y : Wr, ∃ (ad : Option Addr) (cp : Nat), w.cell? (a'.add (i * 7)) = some (.int .i64 y.k) ∧ w.cell? (a'.add (i * 7 + 1)) = some (.int .i64 y.c) ∧ w.cell? (a'.add (i * 7 + 2)) = some (.int .i64 y.s) ∧ w.cell? (a'.add (i * 7 + 3)) = some (.int .i64 y.q) ∧ w.cell? (a'.add (i * 7 + 4)) = some (.int .i64 y.v) ∧ w.cell? (a'.add (i * 7 + 5)) = some (.bool y.de) ∧ w.cell? (a'.add (i * 7 + 6)) = some (.slice ad y.xs.length cp) ∧ y.xs.length ≤ maxLen ∧ IsDeps w ad y.xs := by
      intro i hi
      obtain ⟨cs', h1, h2⟩ := hel i (by omega)
      rw [cellsWrite] at h1
      obtain ⟨_, _, hc⟩ := World.cells?_some h1
      obtain ⟨y, ad, cp, hdd, hy1, hy2⟩ := write_cells h2
      rw [hdd] at hc
      have c0 := hc 0 (by omega)
      have c1 := hc 1 (by omega)
      have c2 := hc 2 (by omega)
      have c3 := hc 3 (by omega)
      have c4 := hc 4 (by omega)
      have c5 := hc 5 (by omega)
      have c6 := hc 6 (by omega)
      rw [add_add] at c0 c1 c2 c3 c4 c5 c6
      exact ⟨y, ad, cp, by simpa using c0, by simpa using c1, by simpa using c2, by simpa using c3, by simpa using c4, by simpa using c5, by simpa using c6, hy1, hy2⟩
    by_cases h0 : len = 0
    · subst h0
      exact ⟨[], rfl, Nat.zero_le _, .inl rfl⟩
    have : Inhabited Wr := ⟨wz⟩
    obtain ⟨f, hf⟩ := choose_lt hd
    have ha : a' = ⟨a'.block, a'.off, none⟩ := by
      obtain ⟨_, _, h1, _⟩ := hf 0 (by omega)
      simp [Addr.add] at h1
      exact add_form h1
    refine ⟨(List.range len).map f, by simp, by omega, .inr ⟨a'.block, a'.off, by rw [← ha], ?_, ?_⟩⟩
    · obtain ⟨cs', h1, _⟩ := hel 0 (by omega)
      rw [cellsWrite] at h1
      have h2 := World.cells?_block h1 (by omega)
      simpa [Addr.add] using h2
    · intro i hi
      have hi' : i < len := by simpa using hi
      have hg : ((List.range len).map f).getD i wz = f i := by simp [List.getD, hi']
      rw [hg]
      obtain ⟨ad, cp, h1, h2, h3, h4, h5, h6, h7, h8, h9⟩ := hf i hi'
      rw [ha] at h1 h2 h3 h4 h5 h6 h7
      rw [add_plain] at h1 h2 h3 h4 h5 h6 h7
      exact ⟨ad, cp, ⟨h1, h2, h3, h4, h5, h6, h7⟩, h8, h9⟩

theorem open_ws {b0 : Nat} {r : Reach} {v : Value} {d : DataW H} {p : List MemPlace} (hv : Value.okWide Try.prog w r b0 49 v) (h : DataW.Trod enc Try.prog w base (fun _ => true) held 49 v d p) :
    ∃ (a : Option Addr) (len cap : Nat) (ws : List Wr), v = .slice a len cap ∧ (ws.length = len ∧ len ≤ maxLen ∧ IsWs w a ws) := by
  obtain ⟨a, len, cap, rfl⟩ := okWide_slice Try.underlying49 hv
  obtain ⟨fuel, hf⟩ := h
  obtain ⟨ws, hx⟩ := ws_cells (by simpa [Value.cells] using hf)
  exact ⟨a, len, cap, ws, rfl, hx⟩

end
end Go.Proofs.Ytomndnopbpbblaa

/- What comes in, opened, with the bounds of its numbers: dependencies, writes, events, slices of them. -/
namespace Go.Proofs.Ytomndnopbpbblaa
open Go.ChangeShapes Go.WideShapes Go.ChangeAt Go.RowKit Go.Joins Go.Deep
set_option maxRecDepth 100000

def EvR (e : Ev) : Prop := R64 e.s ∧ R64 e.m ∧ WsR e.ws

def EsR (es : List Ev) : Prop := ∀ j, j < es.length → EvR (es.getD j evz)

section
variable {H : Type} {enc : TypeId × Value → H} {w : World} {base : Nat} {spare : Nat → Bool} {held : Bool}

theorem tag_cellsR {fuel : Nat} {cs : List Value} {x : DataW H × List MemPlace} (h : DataW.trod enc Try.prog w base spare held fuel 24 cs = some x) : ∃ c s q : Int, cs = [.int .i64 c, .int .i64 s, .int .i64 q] ∧ R64 c ∧ R64 s ∧ R64 q := by
  obtain ⟨y0, y1, y2, n, _, hl, h0, h1, h2⟩ := trod_struct3 Try.underlying24 h
  rw [cellsTag] at hl
  match cs, hl with
  | [v0, v1, v2], _ =>
    obtain ⟨a0, e0, _, k0⟩ := DataW.trod_int Try.underlying3 h0
    obtain ⟨a1, e1, _, k1⟩ := DataW.trod_int Try.underlying3 h1
    obtain ⟨a2, e2, _, k2⟩ := DataW.trod_int Try.underlying3 h2
    simp [cellsInt] at e0 e1 e2
    subst e0 e1 e2
    exact ⟨a0, a1, a2, rfl, wf_r64 k0, wf_r64 k1, wf_r64 k2⟩

theorem dep_cellsR {fuel : Nat} {cs : List Value} {x : DataW H × List MemPlace} (h : DataW.trod enc Try.prog w base spare held fuel 85 cs = some x) : ∃ d : Dp, cs = [.int .i64 d.k, .int .i64 d.c, .int .i64 d.s, .int .i64 d.q] ∧ DpR d := by
  obtain ⟨y0, y1, n, _, hl, h0, h1⟩ := trod_struct2 Try.underlying85 h
  rw [cellsDep] at hl
  match cs, hl with
  | [v0, v1, v2, v3], _ =>
    obtain ⟨a0, e0, _, k0⟩ := DataW.trod_int Try.underlying3 h0
    obtain ⟨c, s, q, e1, k1, k2, k3⟩ := tag_cellsR h1
    simp [cellsInt] at e0
    simp [cellsTag] at e1
    obtain ⟨e1, e2, e3⟩ := e1
    subst e0 e1 e2 e3
    exact ⟨⟨a0, c, s, q⟩, rfl, wf_r64 k0, k1, k2, k3⟩

theorem deps_cellsR {fuel : Nat} {a : Option Addr} {len cap : Nat} {x : DataW H × List MemPlace} (h : DataW.trod enc Try.prog w base spare held fuel 25 [.slice a len cap] = some x) :
    ∃ xs : List Dp, xs.length = len ∧ len ≤ maxLen ∧ IsDeps w a xs ∧ ∀ j, j < xs.length → DpR (xs.getD j dz) := by
  rcases open_slice Try.underlying25 h with ⟨hcs, _⟩ | ⟨a', len', cap', m, n, D, Pl, hcs, _, hl, hm, hmm, _, hel⟩
  · simp at hcs
    obtain ⟨rfl, rfl, rfl⟩ := hcs
    exact ⟨[], rfl, Nat.zero_le _, .inl rfl, fun j hj => by simp at hj⟩
  · simp at hcs
    obtain ⟨rfl, rfl, rfl⟩ := hcs
    have hml : len ≤ m := by rw [hmm]; split <;> omega
    have hd : ∀ i, i < len → ∃ d : Dp, (w.cell? (a'.add (i * 4)) = some (.int .i64 d.k) ∧ w.cell? (a'.add (i * 4 + 1)) = some (.int .i64 d.c) ∧ w.cell? (a'.add (i * 4 + 2)) = some (.int .i64 d.s) ∧ w.cell? (a'.add (i * 4 + 3)) = some (.int .i64 d.q)) ∧ DpR d := by
      intro i hi
      obtain ⟨cs', h1, h2⟩ := hel i (by omega)
      rw [cellsDep] at h1
      obtain ⟨_, _, hc⟩ := World.cells?_some h1
      obtain ⟨d, hdd, hr⟩ := dep_cellsR h2
      rw [hdd] at hc
      have c0 := hc 0 (by omega)
      have c1 := hc 1 (by omega)
      have c2 := hc 2 (by omega)
      have c3 := hc 3 (by omega)
      rw [add_add] at c0 c1 c2 c3
      exact ⟨d, ⟨by simpa using c0, by simpa using c1, by simpa using c2, by simpa using c3⟩, hr⟩
    by_cases h0 : len = 0
    · subst h0
      exact ⟨[], rfl, Nat.zero_le _, .inl rfl, fun j hj => by simp at hj⟩
    have : Inhabited Dp := ⟨dz⟩
    obtain ⟨f, hf⟩ := choose_lt hd
    have ha : a' = ⟨a'.block, a'.off, none⟩ := by
      have h1 := (hf 0 (by omega)).1.1
      simp [Addr.add] at h1
      exact add_form h1
    have hg : ∀ i, i < len → ((List.range len).map f).getD i dz = f i := fun i hi => by simp [List.getD, hi]
    refine ⟨(List.range len).map f, by simp, by omega, .inr ⟨a'.block, a'.off, by rw [← ha], ?_, ?_⟩, fun j hj => ?_⟩
    · obtain ⟨cs', h1, _⟩ := hel 0 (by omega)
      rw [cellsDep] at h1
      have h2 := World.cells?_block h1 (by omega)
      simpa [Addr.add] using h2
    · intro i hi
      have hi' : i < len := by simpa using hi
      rw [hg i hi']
      obtain ⟨h1, h2, h3, h4⟩ := (hf i hi').1
      rw [ha] at h1 h2 h3 h4
      rw [add_plain] at h1 h2 h3 h4
      exact ⟨h1, h2, h3, h4⟩
    · have hj' : j < len := by simpa using hj
      rw [hg j hj']
      exact (hf j hj').2

theorem write_cellsR {fuel : Nat} {cs : List Value} {x : DataW H × List MemPlace} (h : DataW.trod enc Try.prog w base spare held fuel 27 cs = some x) :
    ∃ (y : Wr) (a : Option Addr) (cap : Nat), cs = [.int .i64 y.k, .int .i64 y.c, .int .i64 y.s, .int .i64 y.q, .int .i64 y.v, .bool y.de, .slice a y.xs.length cap] ∧ y.xs.length ≤ maxLen ∧ IsDeps w a y.xs ∧ WrR y := by
  obtain ⟨xs', n, hl0, _, _, hlen, hfd⟩ := DataW.trod_struct Try.underlying27 h
  have hl : cs.length = 7 := by rw [cellsWrite] at *; assumption
  match cs, hl, xs', hlen with
  | [v0, v1, v2, v3, v4, v5, v6], _, [y0, y1, y2, y3, y4], _ =>
    have g0 := hfd 0 _ rfl
    have g1 := hfd 1 _ rfl
    have g2 := hfd 2 _ rfl
    have g3 := hfd 3 _ rfl
    have g4 := hfd 4 _ rfl
    simp [cellsInt, cellsTag, cellsBool, cellsDepS] at g0 g1 g2 g3 g4
    obtain ⟨k, e0, _, k0⟩ := DataW.trod_int Try.underlying3 g0
    obtain ⟨c, s, q, e1, k1, k2, k3⟩ := tag_cellsR g1
    obtain ⟨va, e2, _, k4⟩ := DataW.trod_int Try.underlying3 g2
    obtain ⟨de, e3, _⟩ := DataW.trod_bool Try.underlying4 g3
    obtain ⟨a, len, cap, e4⟩ := slice_cells g4
    simp at e0 e1 e2 e3
    obtain ⟨e1, e1', e1''⟩ := e1
    subst e0 e1 e1' e1'' e2 e3 e4
    obtain ⟨xs, hx1, hx2, hx3, hx4⟩ := deps_cellsR g4
    subst hx1
    exact ⟨⟨k, c, s, q, va, de, xs⟩, a, cap, rfl, hx2, hx3, wf_r64 k0, k1, k2, k3, wf_r64 k4, hx4⟩

theorem ws_cellsR {fuel : Nat} {a : Option Addr} {len cap : Nat} {x : DataW H × List MemPlace} (h : DataW.trod enc Try.prog w base spare held fuel 49 [.slice a len cap] = some x) :
    ∃ ws : List Wr, ws.length = len ∧ len ≤ maxLen ∧ IsWs w a ws ∧ WsR ws := by
  rcases open_slice Try.underlying49 h with ⟨hcs, _⟩ | ⟨a', len', cap', m, n, D, Pl, hcs, _, hl, hm, hmm, _, hel⟩
  · simp at hcs
    obtain ⟨rfl, rfl, rfl⟩ := hcs
    exact ⟨[], rfl, Nat.zero_le _, .inl rfl, fun j hj => by simp at hj⟩
  · simp at hcs
    obtain ⟨rfl, rfl, rfl⟩ := hcs
    have hml : len ≤ m := by rw [hmm]; split <;> omega
    have hd : ∀ i, i < len → ∃ y : Wr, (∃ (ad : Option Addr) (cp : Nat), w.cell? (a'.add (i * 7)) = some (.int .i64 y.k) ∧ w.cell? (a'.add (i * 7 + 1)) = some (.int .i64 y.c) ∧ w.cell? (a'.add (i * 7 + 2)) = some (.int .i64 y.s) ∧ w.cell? (a'.add (i * 7 + 3)) = some (.int .i64 y.q) ∧ w.cell? (a'.add (i * 7 + 4)) = some (.int .i64 y.v) ∧ w.cell? (a'.add (i * 7 + 5)) = some (.bool y.de) ∧ w.cell? (a'.add (i * 7 + 6)) = some (.slice ad y.xs.length cp) ∧ y.xs.length ≤ maxLen ∧ IsDeps w ad y.xs) ∧ WrR y := by
      intro i hi
      obtain ⟨cs', h1, h2⟩ := hel i (by omega)
      rw [cellsWrite] at h1
      obtain ⟨_, _, hc⟩ := World.cells?_some h1
      obtain ⟨y, ad, cp, hdd, hy1, hy2, hr⟩ := write_cellsR h2
      rw [hdd] at hc
      have c0 := hc 0 (by omega)
      have c1 := hc 1 (by omega)
      have c2 := hc 2 (by omega)
      have c3 := hc 3 (by omega)
      have c4 := hc 4 (by omega)
      have c5 := hc 5 (by omega)
      have c6 := hc 6 (by omega)
      rw [add_add] at c0 c1 c2 c3 c4 c5 c6
      exact ⟨y, ⟨ad, cp, by simpa using c0, by simpa using c1, by simpa using c2, by simpa using c3, by simpa using c4, by simpa using c5, by simpa using c6, hy1, hy2⟩, hr⟩
    by_cases h0 : len = 0
    · subst h0
      exact ⟨[], rfl, Nat.zero_le _, .inl rfl, fun j hj => by simp at hj⟩
    have : Inhabited Wr := ⟨wz⟩
    obtain ⟨f, hf⟩ := choose_lt hd
    have ha : a' = ⟨a'.block, a'.off, none⟩ := by
      obtain ⟨⟨_, _, h1, _⟩, _⟩ := hf 0 (by omega)
      simp [Addr.add] at h1
      exact add_form h1
    have hg : ∀ i, i < len → ((List.range len).map f).getD i wz = f i := fun i hi => by simp [List.getD, hi]
    refine ⟨(List.range len).map f, by simp, by omega, .inr ⟨a'.block, a'.off, by rw [← ha], ?_, ?_⟩, fun j hj => ?_⟩
    · obtain ⟨cs', h1, _⟩ := hel 0 (by omega)
      rw [cellsWrite] at h1
      have h2 := World.cells?_block h1 (by omega)
      simpa [Addr.add] using h2
    · intro i hi
      have hi' : i < len := by simpa using hi
      rw [hg i hi']
      obtain ⟨⟨ad, cp, h1, h2, h3, h4, h5, h6, h7, h8, h9⟩, _⟩ := hf i hi'
      rw [ha] at h1 h2 h3 h4 h5 h6 h7
      rw [add_plain] at h1 h2 h3 h4 h5 h6 h7
      exact ⟨ad, cp, ⟨h1, h2, h3, h4, h5, h6, h7⟩, h8, h9⟩
    · have hj' : j < len := by simpa using hj
      rw [hg j hj']
      exact (hf j hj').2

theorem cellsEvent : Try.prog.cellsOf 51 = 4 := by kernel_rfl

theorem cellsWriteSR : Try.prog.cellsOf 49 = 1 := by kernel_rfl

theorem sliceW_cellsR {fuel : Nat} {v : Value} {x : DataW H × List MemPlace} (h : DataW.trod enc Try.prog w base spare held fuel 49 [v] = some x) : ∃ (a : Option Addr) (len cap : Nat), v = .slice a len cap := by
  rcases open_slice Try.underlying49 h with ⟨hcs, _⟩ | ⟨a', len', cap', m, n, D, Pl, hcs, _⟩
  · simp at hcs
    exact ⟨_, _, _, hcs⟩
  · simp at hcs
    exact ⟨_, _, _, hcs⟩

theorem event_cells {fuel : Nat} {cs : List Value} {x : DataW H × List MemPlace} (h : DataW.trod enc Try.prog w base spare held fuel 51 cs = some x) :
    ∃ (y : Ev) (a : Option Addr) (cap : Nat), cs = [.int .i64 y.s, .bool y.sh, .int .i64 y.m, .slice a y.ws.length cap] ∧ y.ws.length ≤ maxLen ∧ IsWs w a y.ws ∧ EvR y := by
  obtain ⟨xs', n, hl0, _, _, hlen, hfd⟩ := DataW.trod_struct Try.underlying51 h
  have hl : cs.length = 4 := by rw [cellsEvent] at *; assumption
  match cs, hl, xs', hlen with
  | [v0, v1, v2, v3], _, [y0, y1, y2, y3], _ =>
    have g0 := hfd 0 _ rfl
    have g1 := hfd 1 _ rfl
    have g2 := hfd 2 _ rfl
    have g3 := hfd 3 _ rfl
    simp [cellsInt, cellsBool, cellsWriteSR] at g0 g1 g2 g3
    obtain ⟨s, e0, _, k0⟩ := DataW.trod_int Try.underlying3 g0
    obtain ⟨sh, e1, _⟩ := DataW.trod_bool Try.underlying4 g1
    obtain ⟨m, e2, _, k2⟩ := DataW.trod_int Try.underlying3 g2
    obtain ⟨a, len, cap, e3⟩ := sliceW_cellsR g3
    simp at e0 e1 e2
    subst e0 e1 e2 e3
    obtain ⟨ws, hx1, hx2, hx3, hx4⟩ := ws_cellsR g3
    subst hx1
    exact ⟨⟨s, sh, m, ws⟩, a, cap, rfl, hx2, hx3, wf_r64 k0, wf_r64 k2, hx4⟩

theorem es_cells {fuel : Nat} {a : Option Addr} {len cap : Nat} {x : DataW H × List MemPlace} (h : DataW.trod enc Try.prog w base spare held fuel 22 [.slice a len cap] = some x) :
    ∃ es : List Ev, es.length = len ∧ len ≤ maxLen ∧ (∀ i, i < es.length → (es.getD i evz).ws.length ≤ maxLen) ∧ IsEs w a es ∧ EsR es := by
  rcases open_slice Try.underlying22 h with ⟨hcs, _⟩ | ⟨a', len', cap', m, n, D, Pl, hcs, _, hl, hm, hmm, _, hel⟩
  · simp at hcs
    obtain ⟨rfl, rfl, rfl⟩ := hcs
    exact ⟨[], rfl, Nat.zero_le _, fun i hi => by simp at hi, .inl rfl, fun i hi => by simp at hi⟩
  · simp at hcs
    obtain ⟨rfl, rfl, rfl⟩ := hcs
    have hml : len ≤ m := by rw [hmm]; split <;> omega
    have hd : ∀ i, i < len → ∃ y : Ev, (∃ (ad : Option Addr) (cp : Nat), w.cell? (a'.add (i * 4)) = some (.int .i64 y.s) ∧ w.cell? (a'.add (i * 4 + 1)) = some (.bool y.sh) ∧ w.cell? (a'.add (i * 4 + 2)) = some (.int .i64 y.m) ∧ w.cell? (a'.add (i * 4 + 3)) = some (.slice ad y.ws.length cp) ∧ IsWs w ad y.ws) ∧ y.ws.length ≤ maxLen ∧ EvR y := by
      intro i hi
      obtain ⟨cs', h1, h2⟩ := hel i (by omega)
      rw [cellsEvent] at h1
      obtain ⟨_, _, hc⟩ := World.cells?_some h1
      obtain ⟨y, ad, cp, hdd, hy1, hy2, hr⟩ := event_cells h2
      rw [hdd] at hc
      have c0 := hc 0 (by omega)
      have c1 := hc 1 (by omega)
      have c2 := hc 2 (by omega)
      have c3 := hc 3 (by omega)
      rw [add_add] at c0 c1 c2 c3
      exact ⟨y, ⟨ad, cp, by simpa using c0, by simpa using c1, by simpa using c2, by simpa using c3, hy2⟩, hy1, hr⟩
    by_cases h0 : len = 0
    · subst h0
      exact ⟨[], rfl, Nat.zero_le _, fun i hi => by simp at hi, .inl rfl, fun i hi => by simp at hi⟩
    have : Inhabited Ev := ⟨evz⟩
    obtain ⟨f, hf⟩ := choose_lt hd
    have ha : a' = ⟨a'.block, a'.off, none⟩ := by
      obtain ⟨⟨_, _, h1, _⟩, _⟩ := hf 0 (by omega)
      simp [Addr.add] at h1
      exact add_form h1
    have hg : ∀ i, i < len → ((List.range len).map f).getD i evz = f i := fun i hi => by simp [List.getD, hi]
    refine ⟨(List.range len).map f, by simp, by omega, fun i hi => ?_, .inr ⟨a'.block, a'.off, by rw [← ha], ?_, ?_⟩, fun i hi => ?_⟩
    · have hi' : i < len := by simpa using hi
      rw [hg i hi']
      exact (hf i hi').2.1
    · obtain ⟨cs', h1, _⟩ := hel 0 (by omega)
      rw [cellsEvent] at h1
      have h2 := World.cells?_block h1 (by omega)
      simpa [Addr.add] using h2
    · intro i hi
      have hi' : i < len := by simpa using hi
      rw [hg i hi']
      obtain ⟨⟨ad, cp, h1, h2, h3, h4, h5⟩, _⟩ := hf i hi'
      rw [ha] at h1 h2 h3 h4
      rw [add_plain] at h1 h2 h3 h4
      exact ⟨ad, cp, ⟨h1, h2, h3, h4⟩, h5⟩
    · have hi' : i < len := by simpa using hi
      rw [hg i hi']
      exact (hf i hi').2.2

theorem open_es {b0 : Nat} {r : Reach} {v : Value} {d : DataW H} {p : List MemPlace} (hv : Value.okWide Try.prog w r b0 22 v) (h : DataW.Trod enc Try.prog w base (fun _ => true) held 22 v d p) :
    ∃ (a : Option Addr) (len cap : Nat) (es : List Ev), v = .slice a len cap ∧ (es.length = len ∧ len ≤ maxLen ∧ (∀ i, i < es.length → (es.getD i evz).ws.length ≤ maxLen) ∧ IsEs w a es ∧ EsR es) := by
  obtain ⟨a, len, cap, rfl⟩ := okWide_slice Try.underlying22 hv
  obtain ⟨fuel, hf⟩ := h
  obtain ⟨es, hx⟩ := es_cells (by simpa [Value.cells] using hf)
  exact ⟨a, len, cap, es, rfl, hx⟩

end
end Go.Proofs.Ytomndnopbpbblaa

/- What was written: the contract of impl.Written. -/
namespace Go.Proofs.Ytomndnopbpbblaa
open Go.ChangeShapes Go.WideShapes Go.ChangeAt Go.RowKit Go.Joins Go.Maps
attribute [local go_sem ↓] Go.wp_at_zero Go.wp_at_succ

/-- A row that grows beside a set of the same writes, in whatever way. -/
def Tell (w wr : World) (b : Nat) (out : List Wr) (v : Value) : Prop := ∃ es V E, TellI w wr b out v es V E

theorem Tell.more {w wr w' : World} {b : Nat} {out : List Wr} {v : Value} (h : Tell w wr b out v) (hb : Below wr.heap.size wr w') : Tell w w' b out v := by
  obtain ⟨es, V, E, h⟩ := h
  exact ⟨es, V, E, h.more hb⟩

theorem Tell.below {w wr : World} {b : Nat} {out : List Wr} {v : Value} (h : Tell w wr b out v) : Below w.heap.size w wr := by
  obtain ⟨es, V, E, h⟩ := h
  exact h.below

theorem tell_made (w : World) : Tell w (w.alloc (.map #[] 0)) w.heap.size [] (.slice none 0 0) :=
  ⟨[], _, _, ⟨rfl, rowG_nil _ _, setIs_made w w w.heap.size, fun g h => by simp [Value.ownBlock] at h, fun e he => by simp at he, (Below.refl _ _).alloc (Nat.le_refl _) _, Nat.le_refl _⟩⟩

set_option maxRecDepth 100000 in
set_option maxHeartbeats 8000000 in
theorem implWritten_any (a : Option Addr) (n cap : Nat) (es : List Ev) (w : World) (hn : es.length = n) (hm : n ≤ 1048576) (hx : FewE es) (hh : heftB (evW es) ≤ 1048576) (hr : EsR es) (hi : IsEs w a es) :
    Calls Try.prog 45 #[.slice a n cap] w fun e w' => ∃ v gs, e = .returned v ∧ gs.map (·.x) = writtenL es ∧ RowG w' w.heap.size v gs ∧ Below w.heap.size w w' := by
  have HI := Lib.hid hi
  have HN := Lib.hid hn
  have HX := Lib.hid hx
  have HHE := Lib.hid hh
  have HR := Lib.hid hr
  clear hi hn hx hh hr
  obtain ⟨i0, hi0, hx0⟩ := Option.map_eq_some_iff.1 infoWr
  simp only [Prod.mk.injEq] at hx0
  have HI0 := Lib.hid hi0
  have HX0 := Lib.hid hx0
  clear hi0 hx0
  have HT0 := Lib.hid (tell_made w)
  have hmm := @run_makeMap Try.prog
  go_enter Try.func45, Try.ntmps45
  go_wp2
  clear hmm
  go_loopw [3, 12] (fun t i wr => ∃ (k : Nat) (v : Value), k ≤ n ∧ i = .int .i64 k ∧ v = t ∧ Hid (Tell w wr w.heap.size ((es.take k).foldl addE []) v)) (fun _ i _ => n - (intOf i).toNat)
  case atStart => exact ⟨0, _, Nat.zero_le _, rfl, rfl, HT0⟩
  case round =>
    clear HT0
    obtain ⟨k, v, hk, rfl, rfl, HT⟩ := hrel
    by_cases hk' : k < n
    · have hkw : k < es.length := by rw [HN.out]; exact hk'
      have i1 : (0 : Int) ≤ (k : Int) := by omega
      have i2 : (k : Int) < (n : Int) := by omega
      obtain ⟨b, o, ad, cq, rfl, hz, e0, hde⟩ := HI.out.base HT.out.below hkw
      have HW := Lib.hid hde
      have HNX := Lib.hid (foldl_next addE es [] evz hkw)
      have HWG : Hid (∀ j, wgt (((es.getD k evz).ws.take j).foldl addW ((es.take k).foldl addE [])) ≤ 1048576) := fun j => Nat.le_trans (writing_wgt es hkw) HHE.out
      have HRR := Lib.hid (HR.out k hkw).2.2
      obtain ⟨hql, hqf⟩ := HX.out k hkw
      have HQF := Lib.hid hqf
      clear hde hqf
      unfold EvAt at e0
      generalize es.getD k evz = x at *
      obtain ⟨xs, xh, xm, xw⟩ := x
      simp only at e0 hql HW HWG HRR HQF
      obtain ⟨c0', c1, c2, c3⟩ := e0
      generalize (es.take k).foldl addE [] = out0 at *
      obtain ⟨q, hq⟩ : ∃ q, xw.length = q := ⟨_, rfl⟩
      rw [hq] at c3 hql
      have HQ := Lib.hid hq
      clear hq
      have HBA : Hid (Below wr.heap.size wr (wr.alloc (.cells #[.int .i64 xs, .bool xh, .int .i64 xm, .slice ad q cq] 59))) := (Below.refl _ _).alloc (Nat.le_refl _) _
      have HT1 := Lib.hid (HT.out.more HBA.out)
      cases xh with
      | true =>
        have HN2 : Hid ((es.take (k + 1)).foldl addE [] = out0) := HNX.out.trans (if_pos rfl)
        clear HNX HT HWG
        rw [← HN2.out] at HT1
        go_wp2
        exact ⟨⟨k + 1, v, by omega, by go_num, rfl, HT1⟩, by simp [intOf]; omega⟩
      | false =>
        have HN2 : Hid ((es.take (k + 1)).foldl addE [] = xw.foldl addW out0) := HNX.out.trans (if_neg (by simp))
        clear HNX HT
        go_wp2
        generalize wr.alloc (.cells #[.int .i64 xs, .bool false, .int .i64 xm, .slice ad q cq] 59) = W1 at *
        go_loopw [3, 21] (fun t i wr => ∃ (j : Nat) (u : Value), j ≤ q ∧ i = .int .i64 j ∧ u = t ∧ Hid (Tell w wr w.heap.size ((xw.take j).foldl addW out0) u)) (fun _ i _ => q - (intOf i).toNat)
        case atStart => exact ⟨0, _, Nat.zero_le _, rfl, rfl, HT1⟩
        case round =>
          clear HT1
          obtain ⟨j, u, hj, rfl, rfl, HT⟩ := hrel
          by_cases hj' : j < q
          · have hjw : j < xw.length := by rw [HQ.out]; exact hj'
            have i3 : (0 : Int) ≤ (j : Int) := by omega
            have i4 : (j : Int) < (q : Int) := by omega
            obtain ⟨bw, ow, aw, cw, rfl, hzw, ⟨e0, e1, e2, e3, e4, e5, e6⟩, hdw⟩ := HW.out.base HT.out.below HQ.out hj'
            have HDW := Lib.hid hdw
            have hxl := HQF.out j hjw
            have HYR := Lib.hid (HRR.out j hjw)
            have HNY := Lib.hid (foldl_next addW xw out0 wz hjw)
            have hwg := HWG.out j
            clear hdw
            generalize xw.getD j wz = y at *
            generalize (xw.take j).foldl addW out0 = out at *
            obtain ⟨yk, yc, ys, yq, yv, yd, yy⟩ := y
            simp only at e0 e1 e2 e3 e4 e5 e6 hxl HDW
            have hol : out.length ≤ 1048576 := by unfold wgt at hwg; omega
            obtain ⟨gs, V, E, hT⟩ := HT.out
            have HTI := Lib.hid hT
            have hgl : gs.length ≤ 1048576 := by
              have h1 := congrArg List.length hT.xs
              rw [List.length_map] at h1
              omega
            have HSL := Lib.hid hT.set.lt
            clear hT HT
            have HBB : Hid (Below wr.heap.size wr (wr.alloc (.cells #[.int .i64 yk, .int .i64 yc, .int .i64 ys, .int .i64 yq, .int .i64 yv, .bool yd, .slice aw yy.length cw] 37))) := (Below.refl _ _).alloc (Nat.le_refl _) _
            have HT2 := Lib.hid (HTI.out.more HBB.out)
            have HBX : Hid ((wr.alloc (.cells #[.int .i64 yk, .int .i64 yc, .int .i64 ys, .int .i64 yq, .int .i64 yv, .bool yd, .slice aw yy.length cw] 37)).heap[wr.heap.size]? = some (.cells #[.int .i64 yk, .int .i64 yc, .int .i64 ys, .int .i64 yq, .int .i64 yv, .bool yd, .slice aw yy.length cw] 37 (0, 0))) := heap_alloc_new _ _
            have HSZ : Hid (wr.heap.size < (wr.alloc (.cells #[.int .i64 yk, .int .i64 yc, .int .i64 ys, .int .i64 yq, .int .i64 yv, .bool yd, .slice aw yy.length cw] 37)).heap.size) := by show _ < _; simp
            go_wp2_with fail
            generalize wr.alloc (.cells #[.int .i64 yk, .int .i64 yc, .int .i64 ys, .int .i64 yq, .int .i64 yv, .bool yd, .slice aw yy.length cw] 37) = W2 at *
            refine (setLacks_any w.heap.size out.length w.heap.size V E out ⟨yk, yc, ys, yq, yv, yd, yy⟩ aw cw w _ hol HYR.out hxl (HDW.out.below HT2.out.below) HT2.out.below HT2.out.set).mono ?_
            rintro e w3 ⟨rfl, hb3⟩
            have HT3 := Lib.hid (HT2.out.more hb3)
            have hz3 : wr.heap.size < w3.heap.size := Nat.lt_of_lt_of_le HSZ.out hb3.size
            have HX3 := Lib.hid ((hb3.block _ HSZ.out).trans HBX.out)
            have c0 := cell_of_row w3 wr.heap.size 0 _ _ _ HX3.out
            have c1 := cell_of_row w3 wr.heap.size 1 _ _ _ HX3.out
            have c2 := cell_of_row w3 wr.heap.size 2 _ _ _ HX3.out
            have c3 := cell_of_row w3 wr.heap.size 3 _ _ _ HX3.out
            have c4 := cell_of_row w3 wr.heap.size 4 _ _ _ HX3.out
            have c5 := cell_of_row w3 wr.heap.size 5 _ _ _ HX3.out
            have c6 := cell_of_row w3 wr.heap.size 6 _ _ _ HX3.out
            simp at c0 c1 c2 c3 c4 c5 c6
            clear hb3 HT2 HBX HSZ HBB HTI e0 e1 e2 e3 e4 e5 e6
            cases hhas : hasW out ⟨yk, yc, ys, yq, yv, yd, yy⟩ with
            | true =>
              have HT4 : Hid (Tell w w3 w.heap.size ((xw.take (j + 1)).foldl addW out0) u) := by
                rw [HNY.out, addW_has hhas]
                exact ⟨gs, V, E, HT3.out⟩
              clear hhas
              go_wp2
              exact ⟨⟨j + 1, u, by omega, by go_num, rfl, HT4⟩, by simp [intOf]; omega⟩
            | false =>
              have HNZ := Lib.hid (HNY.out.trans (addW_not hhas))
              clear hhas HNY
              go_wp2_with fail
              refine (setAdd_any w.heap.size out.length w.heap.size V E out ⟨yk, yc, ys, yq, yv, yd, yy⟩ aw cw w _ (by omega) (fun d => Nat.le_trans (HT3.out.set.len d) hol) HYR.out hxl HDW.out HT3.out.below HT3.out.below.size HT3.out.set).mono ?_
              rintro e w4 ⟨rfl, hadd⟩
              obtain ⟨V', E', hs4, hr4, hd4, hd5, hb4⟩ := HT3.out.added hadd
              have HS4 := Lib.hid hs4
              have HR4 := Lib.hid hr4
              have HD4 := Lib.hid hd4
              have HD5 := Lib.hid hd5
              have HB4 := Lib.hid hb4
              have q4 : w4.heap[wr.heap.size]? = some (.cells #[.int .i64 yk, .int .i64 yc, .int .i64 ys, .int .i64 yq, .int .i64 yv, .bool yd, .slice aw yy.length cw] 37 (0, 0)) := by
                obtain ⟨_, _, _, _, hbut⟩ := hadd
                exact (hbut.block wr.heap.size hz3 fun hy => by have := HSL.out _ hy; omega).trans HX3.out
              have c0 := cell_of_row w4 wr.heap.size 0 _ _ _ q4
              have c1 := cell_of_row w4 wr.heap.size 1 _ _ _ q4
              have c2 := cell_of_row w4 wr.heap.size 2 _ _ _ q4
              have c3 := cell_of_row w4 wr.heap.size 3 _ _ _ q4
              have c4 := cell_of_row w4 wr.heap.size 4 _ _ _ q4
              have c5 := cell_of_row w4 wr.heap.size 5 _ _ _ q4
              have c6 := cell_of_row w4 wr.heap.size 6 _ _ _ q4
              simp at c0 c1 c2 c3 c4 c5 c6
              have HXS := Lib.hid HT3.out.xs
              have HBL := Lib.hid HT3.out.blt
              clear hs4 hr4 hd4 hd5 hb4 q4 hadd HT3 HX3 HSL
              go_wp2_with fail
              refine (icopy_any ⟨yk, yc, ys, yq, yv, yd, yy⟩ aw cw _ hxl (HDW.out.below HB4.out)).mono ?_
              rintro e w5 ⟨a2, g2, cp2, rfl, hg, hb⟩
              have HB5 := Lib.hid hb
              have HG5 := Lib.hid hg
              have hsz : w.heap.size ≤ w5.heap.size := Nat.le_trans HB4.out.size hb.size
              clear hb hg c0 c1 c2 c3 c4 c5 c6
              have HBC : Hid (Below w5.heap.size w5 (w5.alloc (.cells #[.int .i64 yk, .int .i64 yc, .int .i64 ys, .int .i64 yq, .int .i64 yv, .bool yd, .slice a2 yy.length cp2] 37))) := (Below.refl _ _).alloc (Nat.le_refl _) _
              have HBD : Hid (Below w4.heap.size w4 (w5.alloc (.cells #[.int .i64 yk, .int .i64 yc, .int .i64 ys, .int .i64 yq, .int .i64 yv, .bool yd, .slice a2 yy.length cp2] 37))) := below_step HB5.out HB5.out.size HBC.out
              have HRC := Lib.hid (HR4.out.below HBD.out)
              have HGC := Lib.hid (HG5.out.below HBC.out)
              go_wp2_with (at_builtin; refine wpList_append_lies _ (by rfl) _ _ _ (by rfl) w.heap.size 37 i0 (wrV 0 0 0 0 0 false none 0 0) 7 72 Try.underlying30 HI0.out HX0.out.1 HX0.out.2.1 HX0.out.2.2 (by rfl) (by omega) u gs.length (gs.flatMap wrValsG) (by rfl) HRC.out.own ⟨w5.heap.size, 0, none⟩ 1 1 (wrValsG ⟨⟨yk, yc, ys, yq, yv, yd, yy⟩, a2, g2, cp2⟩) (by rfl) (by rfl) (oneG_cells w5 _ ⟨⟨yk, yc, ys, yq, yv, yd, yy⟩, a2, g2, cp2⟩) (by simpa using valsG_one [⟨⟨yk, yc, ys, yq, yv, yd, yy⟩, a2, g2, cp2⟩]) (by omega) (by unfold maxLen; omega) (by omega) (by simp; omega) _ rfl ?_; intro g3 cp3 w6 hown hgrow hg3 _; refine Hid.out ?_)
              refine Lib.hid ?_
              have HT6 : Hid (Tell w w6 w.heap.size ((xw.take (j + 1)).foldl addW out0) (.slice (some ⟨g3, 0, none⟩) (gs.length + 1) cp3)) := by
                rw [HNZ.out]
                exact ⟨_, _, _, TellI.told (x := ⟨yk, yc, ys, yq, yv, yd, yy⟩) HXS.out HS4.out HR4.out HD4.out HD5.out HB4.out HBL.out HBD.out HGC.out hown hgrow hg3⟩
              clear hown hgrow hg3 HRC HBC HBD HGC
              go_wp2
              exact ⟨⟨j + 1, _, by omega, by go_num, rfl, HT6⟩, by simp [intOf]; omega⟩
          · obtain rfl : j = q := by omega
            have HT4 : Hid (Tell w wr w.heap.size ((es.take (k + 1)).foldl addE []) u) := by
              have h := HT.out
              rw [List.take_of_length_le (by rw [HQ.out]; exact Nat.le_refl _), ← HN2.out] at h
              exact h
            go_wp2
            exact ⟨⟨k + 1, u, by omega, by go_num, rfl, HT4⟩, by simp [intOf]; omega⟩
    · have hkk : k = n := by omega
      subst hkk
      have HF : Hid (Tell w wr w.heap.size (writtenL es) v) := by
        have h := HT.out
        rw [List.take_of_length_le (by rw [HN.out]; exact Nat.le_refl _)] at h
        exact h
      obtain ⟨gs, V, E, hT⟩ := HF.out
      have HTI := Lib.hid hT
      clear hT
      go_wp2
      go_ret
      exact ⟨_, gs, rfl, HTI.out.xs, HTI.out.row, HTI.out.below⟩

end Go.Proofs.Ytomndnopbpbblaa

/- Causes: what impl.causeTeller lays down. -/
namespace Go.Proofs.Ytomndnopbpbblaa
open Go.ChangeShapes Go.WideShapes Go.ChangeAt Go.RowKit Go.Joins Go.Maps
attribute [local go_sem ↓] Go.wp_at_zero Go.wp_at_succ

/-- The row of a dependency. -/
def rowE (gs : List EnG) (d : Dp) : List EnG := gs.filter fun e => matchD d e.x

theorem rowE_next (gs : List EnG) {k : Nat} (h : k < gs.length) : rowE (gs.take (k + 1)) = updD (rowE (gs.take k)) (dpOf (gs.getD k ezG).x) (rowE (gs.take k) (dpOf (gs.getD k ezG).x) ++ [gs.getD k ezG]) := by
  have e : gs.take (k + 1) = gs.take k ++ [gs.getD k ezG] := by
    rw [List.take_add_one, List.getElem?_eq_getElem h]
    simp [List.getD, h]
  generalize gs.getD k ezG = z at *
  funext d
  rcases dp_ne (d := d) (d' := dpOf z.x) with hd | hne
  · rw [hd, updD_at]
    unfold rowE
    rw [e, List.filter_append]
    have hm : matchD (dpOf z.x) z.x = true := (matchD_iff _ _).2 rfl
    simp [hm]
  · rw [updD_off _ _ _ hne]
    unfold rowE
    rw [e, List.filter_append]
    have hm : matchD d z.x = false := by
      cases hb : matchD d z.x with
      | false => rfl
      | true => exact absurd ((matchD_iff _ _).1 hb).symm hne
    simp [hm]

/-- Each of the first k writes in the row of its dependency, beside the row of all. -/
structure TeI (w wr : World) (p b k : Nat) (v : Value) (gs : List EnG) (V : Dp → Option Value) : Prop where
  rows : RowsIs wr b k w.heap.size V (rowE (gs.take k))
  row : RowG wr w.heap.size v gs
  dis1 : ∀ g, v.ownBlock = some g → ¬ SetS b V g
  dis2 : ∀ e ∈ gs, 0 < e.x.xs.length → ¬ SetS b V e.g
  box : wr.cell? ⟨p, 0, none⟩ = some (.map (some b))
  off : ¬ SetS b V p
  below : Below w.heap.size w wr
  ble : w.heap.size ≤ b

def Te (w wr : World) (p b k : Nat) (v : Value) (gs : List EnG) : Prop := ∃ V, TeI w wr p b k v gs V

theorem TeI.more {w wr w' : World} {p b k : Nat} {v : Value} {gs : List EnG} {V : Dp → Option Value} (h : TeI w wr p b k v gs V) (hb : Below wr.heap.size wr w') : TeI w w' p b k v gs V :=
  ⟨h.rows.below hb, h.row.below hb, h.dis1, h.dis2, (hb.cell (p := ⟨p, 0, none⟩) (World.block_lt_of_cell? wr _ h.box)).trans h.box, h.off, below_step h.below h.below.size hb, h.ble⟩

/-- One write more in its row. -/
theorem TeI.put {w wr w4 w5 : World} {p b k : Nat} {v v' : Value} {gs : List EnG} {V : Dp → Option Value} (h : TeI w wr p b k v gs V) (hk : k < gs.length)
    (hrow : RowSh w4 w.heap.size v' (rowE (gs.take k) (dpOf (gs.getD k ezG).x) ++ [gs.getD k ezG])) (hg : wr.grownBy w4 (rowV V (dpOf (gs.getD k ezG).x)).ownBlock) (hnew : NewOr wr (rowV V (dpOf (gs.getD k ezG).x)) v')
    (hmap : ∀ g : Dp → Option Value, g (dpOf (gs.getD k ezG).x) = some v' → (∀ j, j ≠ dpOf (gs.getD k ezG).x → g j = V j) → MapIs keyD w5 b (k + 1) g) (ht : w4.grownBy w5 (some b)) : Te w w5 p b (k + 1) v gs := by
  obtain ⟨h1, h2, h3⟩ := h.rows.put (by simp) hrow hg hnew hmap ht
  rw [← rowE_next gs hk] at h1
  have hpl := World.block_lt_of_cell? wr _ h.box
  refine ⟨_, h1, h.row.but h3 h.dis1 h.dis2, fun g hg hs => ?_, fun e he hp hs => ?_, ?_, fun hs => ?_, Below.butOn h.below h3 h.below.size (h.rows.base h.ble), h.ble⟩
  · rcases h2 g hs with h4 | h4
    · exact h.dis1 g hg h4
    · have := (World.ownsRow.lt h.row.own g hg).2
      omega
  · rcases h2 e.g hs with h4 | h4
    · exact h.dis2 e he hp h4
    · have := ((h.row.deps e he).1 hp).2.2.1
      omega
  · exact (World.cell?_of_block (a := ⟨p, 0, none⟩) (h3.block p hpl h.off)).trans h.box
  · rcases h2 p hs with h4 | h4
    · exact h.off h4
    · simp only at hpl
      omega

theorem te_made {w w1 w2 : World} {v : Value} {gs : List EnG} (h1 : w1 = (w.alloc (.map #[] 0)).alloc (.cells #[.map (some w.heap.size)] 86)) (hr : RowG w2 w1.heap.size v gs) (hb : Below w1.heap.size w1 w2) : Te w w2 (w.heap.size + 1) w.heap.size 0 v gs := by
  have hs : w1.heap.size = w.heap.size + 2 := by rw [h1]; simp
  have hb1 : Below w.heap.size w w1 := by
    rw [h1]
    exact ((Below.refl _ _).alloc (Nat.le_refl _) _).alloc (by simp) _
  have hm1 : RowsIs w1 w.heap.size 0 w.heap.size (fun _ => none) (rowE (gs.take 0)) := by
    rw [h1]
    have h := (rowsIs_made w w.heap.size).below (w' := (w.alloc (.map #[] 0)).alloc (.cells #[.map (some w.heap.size)] 86)) ((Below.refl _ _).alloc (Nat.le_refl _) _)
    exact h
  have hc : w1.cell? ⟨w.heap.size + 1, 0, none⟩ = some (.map (some w.heap.size)) := by
    rw [h1]
    have h := heap_alloc2_new w (.map #[] 0) (.cells #[.map (some w.heap.size)] 86)
    rw [cell_of_row _ _ 0 _ _ _ h]
    rfl
  have hS : ∀ x, SetS w.heap.size (fun _ => none) x → x = w.heap.size := by
    rintro x (h | ⟨_, _, h, _⟩)
    · exact h
    · cases h
  refine ⟨fun _ => none, hm1.below hb, hr.mono (by omega), fun g hg hs' => ?_, fun e he hp hs' => ?_, (hb.cell (p := ⟨w.heap.size + 1, 0, none⟩) (by simp only; omega)).trans hc, fun hs' => ?_, below_step hb1 hb1.size hb, Nat.le_refl _⟩
  · have e1 := hS g hs'
    have e2 := (World.ownsRow.lt hr.own g hg).1
    omega
  · have e1 := hS _ hs'
    have e2 := ((hr.deps e he).1 hp).2.1
    omega
  · have e1 := hS _ hs'
    omega

end Go.Proofs.Ytomndnopbpbblaa

/- Causes: the contract of impl.causeTeller. -/
namespace Go.Proofs.Ytomndnopbpbblaa
open Go.ChangeShapes Go.WideShapes Go.ChangeAt Go.RowKit Go.Joins Go.Maps
attribute [local go_sem ↓] Go.wp_at_zero Go.wp_at_succ

set_option maxRecDepth 100000 in
theorem got_lookG1 {KV : Value → World → Prop} {κ : Type} {kt : TypeId} {K : KeyG κ kt} {o : Oper} {ρ : Operand → Value} {w : World} (m x : Operand) (t e : TypeId) (hop : o.op = Op.lookup t m x false) (ht : Try.prog.underlying t = some (.map kt e)) {z : Value} (hz : (zeroValue e).run Try.prog w = .ok z w)
    {b n : Nat} {f : κ → Option Value} (h : MapIs K w b n f) (k : κ) (hk : K.ok k) (hm : ρ m = .map (some b)) (hx : ρ x = K.v k) (hK : KV ((f k).getD z) w) : got Try.prog KV ((execOp ρ o).run Try.prog w) := by
  unfold execOp
  simp [hop, hm, hx, h.look1 ht hz hk]
  exact hK

theorem rowG_at {w : World} {base : Nat} {v : Value} {es : List EnG} (h : RowG w base v es) {k : Nat} (hk : k < es.length) : ∃ g o cap, v = .slice (some ⟨g, o, none⟩) es.length cap ∧ g < w.heap.size ∧ WrAt w g (o + k * 7) (es.getD k ezG).x (es.getD k ezG).a (es.getD k ezG).cp := by
  rcases h.own.2 with ⟨h1, h2⟩ | ⟨g, cap, cur, h1, h2, h3, _⟩
  · omega
  · subst h1
    refine ⟨g, 0, cap, rfl, (h.own.lt g rfl).2, ?_⟩
    have c : ∀ c, c < 7 → w.cell? ⟨g, 0 + k * 7 + c, none⟩ = (wrValsG (es.getD k ezG))[c]? := fun c hc => by rw [Nat.zero_add, h.own.cellAt _ (by omega), valsG_at es k c hk hc]
    exact ⟨c 0 (by omega), c 1 (by omega), c 2 (by omega), c 3 (by omega), c 4 (by omega), c 5 (by omega), c 6 (by omega)⟩

theorem rowG_nilOr {w : World} {base : Nat} {v : Value} {es : List EnG} (h : RowG w base v es) : ∃ a cap, v = .slice a es.length cap := by
  obtain ⟨a, cap, h1, _⟩ := h.form
  exact ⟨a, cap, h1⟩

theorem news_cells {w : World} {g : Nat} {e : EnG} (h : w.heap[g]? = some (.cells #[.int .i64 e.x.k, .int .i64 e.x.c, .int .i64 e.x.s, .int .i64 e.x.q, .int .i64 e.x.v, .bool e.x.de, .slice e.a e.x.xs.length e.cp] 37 (0, 0))) : ∀ j u, (wrValsG e)[j]? = some u → w.cell? ((⟨g, 0, none⟩ : Addr).add j) = some u := fun j u hu => by
  rw [add_block, cell_of_row _ _ j _ _ _ h]
  simpa [wrValsG] using hu

theorem rowE_len (gs : List EnG) (d : Dp) : (rowE gs d).length ≤ gs.length := List.length_filter_le _ _

set_option maxRecDepth 100000 in
set_option maxHeartbeats 8000000 in
theorem causeTeller_any (a : Option Addr) (n cap : Nat) (es : List Ev) (w : World) (hn : es.length = n) (hm : n ≤ 1048576) (hx : FewE es) (hh : heftB (evW es) ≤ 1048576) (hr : EsR es) (hwr : WsR (writtenL es)) (hi : IsEs w a es) :
    Calls Try.prog 28 #[.slice a n cap] w fun e w' => ∃ v gs, e = .returned (.func (.func 47) #[] #[.pointer (some ⟨w.heap.size + 1, 0, none⟩)]) ∧ gs.map (·.x) = writtenL es ∧ Te w w' (w.heap.size + 1) w.heap.size gs.length v gs := by
  have HI := Lib.hid hi
  have HN := Lib.hid hn
  have HX := Lib.hid hx
  have HHE := Lib.hid hh
  have HR := Lib.hid hr
  have HWR := Lib.hid hwr
  have HLW : Hid ((writtenL es).length ≤ 1048576) := by
    have h := written_wgt es
    unfold wgt at h
    show _ ≤ _
    omega
  clear hi hn hx hh hr hwr
  obtain ⟨i0, hi0, hx0⟩ := Option.map_eq_some_iff.1 infoWr
  simp only [Prod.mk.injEq] at hx0
  have HI0 := Lib.hid hi0
  have HX0 := Lib.hid hx0
  clear hi0 hx0
  have HA : Hid (Below w.heap.size w ((w.alloc (.map #[] 0)).alloc (.cells #[.map (some w.heap.size)] 86))) := ((Below.refl _ _).alloc (Nat.le_refl _) _).alloc (by simp) _
  have HWW : Hid (Calls Try.prog 45 #[.slice a n cap] ((w.alloc (.map #[] 0)).alloc (.cells #[.map (some w.heap.size)] 86)) fun e w' => ∃ v gs, e = .returned v ∧ gs.map (·.x) = writtenL es ∧ Te w w' (w.heap.size + 1) w.heap.size 0 v gs) := by
    refine (implWritten_any a n cap es _ HN.out hm HX.out HHE.out HR.out (HI.out.below HA.out)).mono ?_
    rintro e w' ⟨v, gs, h1, h2, h3, h4⟩
    exact ⟨v, gs, h1, h2, te_made rfl h3 h4⟩
  clear HI HN HX HHE HR HA
  have hmm := @run_makeMap Try.prog
  go_enter Try.func28, Try.ntmps28
  go_wp2_with fail
  clear hmm
  refine HWW.out.mono ?_
  rintro e w2 ⟨v, gs, rfl, hgs, hte⟩
  have HGS := Lib.hid hgs
  have HT0 := Lib.hid hte
  obtain ⟨q, hq⟩ : ∃ q, gs.length = q := ⟨_, rfl⟩
  have HQ := Lib.hid hq
  obtain ⟨av, cv, hv⟩ : ∃ av cv, v = .slice av q cv := by
    obtain ⟨V, h⟩ := hte
    obtain ⟨a', c', h'⟩ := rowG_nilOr h.row
    exact ⟨a', c', by rw [h', hq]⟩
  subst hv
  have hql : q ≤ 1048576 := by
    have h := HLW.out
    rw [← hgs, List.length_map, hq] at h
    exact h
  have HXR : Hid (∀ k, k < q → WrR (gs.getD k ezG).x) := fun k hk => by
    have h := HWR.out k (by rw [← HGS.out, List.length_map, HQ.out]; exact hk)
    rw [← HGS.out] at h
    have hkl : k < gs.length := by rw [HQ.out]; exact hk
    simpa [List.getD, hkl] using h
  clear hgs hte hq HWW HWR HLW
  go_wp2
  go_loopw [10] (fun i wr => ∃ k : Nat, k ≤ q ∧ i = .int .i64 k ∧ Hid (Te w wr (w.heap.size + 1) w.heap.size k (.slice av q cv) gs)) (fun i _ => q - (intOf i).toNat)
  case atStart => exact ⟨0, Nat.zero_le _, rfl, HT0⟩
  case round =>
    clear HT0
    obtain ⟨k, hk, rfl, HT⟩ := hrel
    by_cases hk' : k < q
    · have hkg : k < gs.length := by rw [HQ.out]; exact hk'
      have i1 : (0 : Int) ≤ (k : Int) := by omega
      have i2 : (k : Int) < (q : Int) := by omega
      obtain ⟨V, hT⟩ := HT.out
      obtain ⟨gb, o, cv', hva, hz, hat⟩ := rowG_at hT.row hkg
      injection hva with hva hqq hcv
      subst hva
      have HTI := Lib.hid hT
      have HOK := Lib.hid (HXR.out k hk')
      have HPUT : Hid (∀ wr' w4 w5 v', Below wr.heap.size wr wr' → RowSh w4 w.heap.size v' (rowE (gs.take k) (dpOf (gs.getD k ezG).x) ++ [gs.getD k ezG]) → wr'.grownBy w4 (rowV V (dpOf (gs.getD k ezG).x)).ownBlock → NewOr wr' (rowV V (dpOf (gs.getD k ezG).x)) v' → (∀ g : Dp → Option Value, g (dpOf (gs.getD k ezG).x) = some v' → (∀ j, j ≠ dpOf (gs.getD k ezG).x → g j = V j) → MapIs keyD w5 w.heap.size (k + 1) g) → w4.grownBy w5 (some w.heap.size) → Te w w5 (w.heap.size + 1) w.heap.size (k + 1) (.slice (some ⟨gb, o, none⟩) q cv) gs) := fun wr' w4 w5 v' hb h1 h2 h3 h4 h5 => (HTI.out.more hb).put hkg h1 h2 h3 h4 h5
      have hel : (rowE (gs.take k) (dpOf (gs.getD k ezG).x)).length ≤ 1048576 := by
        have h1 := rowE_len (gs.take k) (dpOf (gs.getD k ezG).x)
        rw [List.length_take] at h1
        omega
      clear hT HT hcv hqq
      generalize gs.getD k ezG = y at *
      obtain ⟨⟨xk, xc, xs', xq, xv, xd, xx⟩, ad, gy, cp⟩ := y
      obtain ⟨e0, e1, e2, e3, e4, e5, e6⟩ := hat
      simp only at e0 e1 e2 e3 e4 e5 e6 HOK hel HPUT
      have hok : keyD.ok (dpOf ⟨xk, xc, xs', xq, xv, xd, xx⟩) := ⟨HOK.out.1, HOK.out.2.1, HOK.out.2.2.1, HOK.out.2.2.2.1⟩
      obtain ⟨rv, hrv⟩ : ∃ rv, rowV V (dpOf ⟨xk, xc, xs', xq, xv, xd, xx⟩) = rv := ⟨_, rfl⟩
      have HRV := Lib.hid hrv
      have HRW : Hid (∀ W, Below wr.heap.size wr W → RowSh W w.heap.size rv (rowE (gs.take k) (dpOf ⟨xk, xc, xs', xq, xv, xd, xx⟩))) := fun W hW => by
        have h := (HTI.out.more hW).rows.theRow (dpOf ⟨xk, xc, xs', xq, xv, xd, xx⟩)
        rwa [HRV.out] at h
      rw [hrv] at HPUT
      have HGV : Hid ((V (dpOf ⟨xk, xc, xs', xq, xv, xd, xx⟩)).getD (.slice none 0 0) = rv) := hrv
      obtain ⟨ob, hob⟩ : ∃ ob, rv.ownBlock = ob := ⟨_, rfl⟩
      rw [hob] at HPUT
      have HOBE := Lib.hid hob
      have HOB2 : Hid (∀ g, ob = some g → g < wr.heap.size ∧ SetS w.heap.size V g) := fun g hg => by
        have h1 := hg
        rw [← HOBE.out, ← HRV.out] at h1
        obtain ⟨u, u1, u2⟩ := rowV_own h1
        exact ⟨HTI.out.rows.lt g (.inr ⟨_, u, u1, u2⟩), .inr ⟨_, u, u1, u2⟩⟩
      have HPC : Hid (wr.cell? ⟨w.heap.size + 1, 0, none⟩ = some (.map (some w.heap.size)) ∧ some (w.heap.size + 1) ≠ ob) := ⟨HTI.out.box, fun e => HTI.out.off (HOB2.out _ e.symm).2⟩
      have HMB : Hid (MapIs keyD wr w.heap.size k V ∧ some w.heap.size ≠ ob) := ⟨HTI.out.rows.map, fun e => by
        have h1 := e.symm
        rw [← HOBE.out, ← HRV.out] at h1
        obtain ⟨u, u1, u2⟩ := rowV_own h1
        exact HTI.out.rows.off _ u u1 u2⟩
      have hws : w.heap.size ≤ wr.heap.size := HTI.out.below.size
      have hpl : w.heap.size + 1 < wr.heap.size := World.block_lt_of_cell? wr _ HPC.out.1
      have HBA : Hid (Below wr.heap.size wr (wr.alloc (.cells #[.int .i64 xk, .int .i64 xc, .int .i64 xs', .int .i64 xq, .int .i64 xv, .bool xd, .slice ad xx.length cp] 37))) := (Below.refl _ _).alloc (Nat.le_refl _) _
      have HBX : Hid ((wr.alloc (.cells #[.int .i64 xk, .int .i64 xc, .int .i64 xs', .int .i64 xq, .int .i64 xv, .bool xd, .slice ad xx.length cp] 37)).heap[wr.heap.size]? = some (.cells #[.int .i64 xk, .int .i64 xc, .int .i64 xs', .int .i64 xq, .int .i64 xv, .bool xd, .slice ad xx.length cp] 37 (0, 0))) := heap_alloc_new _ _
      have HSZ : Hid (wr.heap.size < (wr.alloc (.cells #[.int .i64 xk, .int .i64 xc, .int .i64 xs', .int .i64 xq, .int .i64 xv, .bool xd, .slice ad xx.length cp] 37)).heap.size) := by show _ < _; simp
      clear hrv hob HTI
      go_wp2_with fail
      generalize wr.alloc (.cells #[.int .i64 xk, .int .i64 xc, .int .i64 xs', .int .i64 xq, .int .i64 xv, .bool xd, .slice ad xx.length cp] 37) = w3 at *
      have HCL : Hid (∀ w', w3.grownBy w' ob → w'.cell? ⟨wr.heap.size, 0, none⟩ = some (.int .i64 xk) ∧ w'.cell? ⟨wr.heap.size, 1, none⟩ = some (.int .i64 xc) ∧ w'.cell? ⟨wr.heap.size, 2, none⟩ = some (.int .i64 xs') ∧ w'.cell? ⟨wr.heap.size, 3, none⟩ = some (.int .i64 xq) ∧ w'.cell? ⟨wr.heap.size, 4, none⟩ = some (.int .i64 xv) ∧ w'.cell? ⟨wr.heap.size, 5, none⟩ = some (.bool xd) ∧ w'.cell? ⟨wr.heap.size, 6, none⟩ = some (.slice ad xx.length cp) ∧ w'.cell? ⟨w.heap.size + 1, 0, none⟩ = some (.map (some w.heap.size))) := fun w' hG => by
        have q := (hG.block wr.heap.size HSZ.out fun e => by have := (HOB2.out _ e.symm).1; omega).trans HBX.out
        have hs3 := HSZ.out
        have r := (hG.block (w.heap.size + 1) (by omega) HPC.out.2).trans (HBA.out.block (w.heap.size + 1) hpl)
        refine ⟨?_, ?_, ?_, ?_, ?_, ?_, ?_, (World.cell?_of_block (a := ⟨w.heap.size + 1, 0, none⟩) r).trans HPC.out.1⟩ <;> (rw [cell_of_row _ _ _ _ _ (0, 0) q]; rfl)
      have HML : Hid (∀ w', w3.grownBy w' ob → MapIs keyD w' w.heap.size k V) := fun w' hG => HMB.out.1.of_block ((hG.block w.heap.size (by have := HSZ.out; omega) HMB.out.2).trans (HBA.out.block w.heap.size (by omega)))
      have HR3 := Lib.hid (HRW.out w3 HBA.out)
      have hws3 : w.heap.size ≤ w3.heap.size := by have := HSZ.out; omega
      have HSB : Hid (∀ g, ob = some g → g < w3.heap.size) := fun g hg => by have := (HOB2.out g hg).1; have := HSZ.out; omega
      clear HRW HMB HPC HOB2 HBX HSZ
      refine wp_region_slots_u 10 [[(3, false)], [(5, false)], [(15, true)], [(3, false)], [(5, false)], [(18, true)], [(17, true), (19, true)], [(5, false)], [(21, true)], [(20, true), (22, true)]] (fun w' => w3.grownBy w' ob) (fun w' => w3.grownBy w' ob) (fun _ w' => w3.grownBy w' ob) (fun d w' => d = some 23 → RowSh w' w.heap.size rv (rowE (gs.take k) (dpOf ⟨xk, xc, xs', xq, xv, xd, xx⟩))) (fun _ => none) (AppS 23 ob) (by kernel_rfl) (by kernel_rfl) (by rfl) ⟨rfl, rfl, rfl, Nat.le_refl _, fun _ _ _ => rfl⟩ (by kernel_rfl) (fun _ _ => HR3.out) (fun _ h => by cases h) (fun d d' hd w w' h1 h2 h3 => (h1 h3).keep fun g hg => (appS_below (h3 ▸ hd) h2).block g (World.ownsRow.lt (h1 h3) g hg).2) (fun _ _ _ _ _ _ h => by cases h) (fun d _ w w' h1 h2 => grown_trans h1 (appS_any h2)) (fun _ _ _ h => h) (fun _ _ _ h => h) ?_
      have HRF : Hid (∀ (d : Option Tmp) (w : World), d ≠ some 23 → AppS 23 ob d w w) := fun d w hd => appS_refl hd w
      iterate 2 (apply slotU_eq; · (intro ρ w' ⟨p1, p2, p3⟩ hG hEE hn; obtain ⟨c0, c1, c2, c3, c4, c5, c6, c7⟩ := HCL.out w' hG; simp at hn; go_simp; exact ⟨HRF.out _ _ (by simp), rfl⟩))
      apply slotU_eq
      · intro ρ w' ⟨p1, p2, p3⟩ hG hEE hn
        simp at hn
        go_simp
        exact got_call (depOn_any ⟨xk, xc, xs', xq, xv, xd, xx⟩ ad cp w') fun e w'' ⟨he, hb⟩ => ⟨_, he, appS_of_below (by simp) hb, rfl⟩
      iterate 2 (apply slotU_eq; · (intro ρ w' ⟨p1, p2, p3⟩ hG hEE hn; obtain ⟨c0, c1, c2, c3, c4, c5, c6, c7⟩ := HCL.out w' hG; simp at hn; go_simp; exact ⟨HRF.out _ _ (by simp), rfl⟩))
      apply slotU_eq
      · intro ρ w' ⟨p1, p2, p3⟩ hG hEE hn
        simp at hn
        go_simp
        exact got_call (depOn_any ⟨xk, xc, xs', xq, xv, xd, xx⟩ ad cp w') fun e w'' ⟨he, hb⟩ => ⟨_, he, appS_of_below (by simp) hb, rfl⟩
      apply slotU_eq (e := rv)
      · intro ρ w' ⟨p1, p2, p3⟩ hG hEE hn
        simp at hn
        exact got_lookG1 (K := keyD) (.tmp 17) (.tmp 19) 86 30 rfl Try.underlying86 (setZero _) (HML.out w' hG) (dpOf ⟨xk, xc, xs', xq, xv, xd, xx⟩) hok hn.1 hn.2 ⟨HRF.out _ _ (by simp), HGV.out⟩
      iterate 1 (apply slotU_eq; · (intro ρ w' ⟨p1, p2, p3⟩ hG hEE hn; obtain ⟨c0, c1, c2, c3, c4, c5, c6, c7⟩ := HCL.out w' hG; simp at hn; go_simp; exact ⟨HRF.out _ _ (by simp), rfl⟩))
      refine slotU_fact (WrNewB ob ⟨⟨xk, xc, xs', xq, xv, xd, xx⟩, ad, gy, cp⟩) (lasts_wrNewB _ _ _ _ _) ?_ ?_
      · intro ρ w' ⟨p1, p2, p3⟩ hG hEE hn
        simp at hn
        go_simp
        exact ⟨appS_alloc (by simp) _ _, _, rfl, fun e => by have h1 := HSB.out _ e.symm; have h2 := hG.size; omega, heap_alloc_new _ _⟩
      refine slotU_fact (WrRowB w3 w.heap.size rv (rowE (gs.take k) (dpOf ⟨xk, xc, xs', xq, xv, xd, xx⟩) ++ [⟨⟨xk, xc, xs', xq, xv, xd, xx⟩, ad, gy, cp⟩])) (lasts_wrRowB _ _ _ _ _ _ _) ?_ ?_
      · intro ρ w' ⟨p1, p2, p3⟩ hG hEE hn
        simp at hn
        obtain ⟨fr, g', fn, hg3, hg4⟩ := hn
        have hown := hEE rfl
        refine got_append (.tmp 20) (.tmp 22) _ rfl w.heap.size 37 i0 (wrV 0 0 0 0 0 false none 0 0) 7 72 Try.underlying30 HI0.out HX0.out.1 HX0.out.2.1 HX0.out.2.2 (by rfl) (by omega) rv (rowE (gs.take k) (dpOf ⟨xk, xc, xs', xq, xv, xd, xx⟩)).length ((rowE (gs.take k) (dpOf ⟨xk, xc, xs', xq, xv, xd, xx⟩)).flatMap wrValsG) fr hown ⟨g', 0, none⟩ 1 1 (wrValsG ⟨⟨xk, xc, xs', xq, xv, xd, xx⟩, ad, gy, cp⟩) fn (by rfl) (news_cells (e := ⟨⟨xk, xc, xs', xq, xv, xd, xx⟩, ad, gy, cp⟩) hg4) (by simpa using valsG_one [⟨⟨xk, xc, xs', xq, xv, xd, xx⟩, ad, gy, cp⟩]) (by omega) (by unfold maxLen; omega) (by omega) (Nat.le_trans hws3 hG.size) _ rfl ?_
        intro g3 cp3 w5 h1 h2 h3 h4
        rw [HOBE.out] at h2
        refine ⟨appS_grown h2, ?_, ?_⟩
        · show World.ownsRow _ _ _ _ _ _ _
          rw [List.length_append, List.flatMap_append]
          simpa using h1
        · intro g hg
          have e : g3 = g := by simpa [Value.ownBlock] using hg
          subst e
          rcases h3 with h | h
          · exact .inl h
          · exact .inr (by rw [h]; exact hG.size)
      refine slotU_end ?_
      rintro tv w4 hG hF
      simp at hF
      obtain ⟨⟨hrow, hnew⟩, -, f21, f20, f19, f18, f17, f16, f15, f14⟩ := hF
      obtain ⟨v', hv'⟩ : ∃ v', tv 23 = v' := ⟨_, rfl⟩
      rw [hv'] at hrow hnew
      have HM4 := Lib.hid (HML.out w4 hG)
      have HFIN : Hid (∀ w5, (∀ g : Dp → Option Value, g (dpOf ⟨xk, xc, xs', xq, xv, xd, xx⟩) = some v' → (∀ j, j ≠ dpOf ⟨xk, xc, xs', xq, xv, xd, xx⟩ → g j = V j) → MapIs keyD w5 w.heap.size (k + 1) g) → w4.grownBy w5 (some w.heap.size) → Te w w5 (w.heap.size + 1) w.heap.size (k + 1) (.slice (some ⟨gb, o, none⟩) q cv) gs) := fun w5 h1 h2 => HPUT.out w3 w4 w5 v' HBA.out hrow hG hnew h1 h2
      clear hrow hnew hG HR3 HCL HRF HPUT HML HBA HSB
      simp only [List.take_succ_cons, List.take_zero, List.drop_succ_cons, List.drop_zero, putAll, hv', f21, f20, f19, f18, f17, f16, f15, f14]
      clear hv' f21 f20 f19 f18 f17 f16 f15 f14
      simp only [Act.put, List.setIfInBounds_toArray, List.set_cons_succ, List.set_cons_zero]
      refine wpList_putG (K := keyD) (by rfl) _ _ _ 86 30 (by rfl) Try.underlying86 HM4.out (by unfold maxLen; omega) (dpOf ⟨xk, xc, xs', xq, xv, xd, xx⟩) hok v' (by rfl) (by rfl) (by rfl) ?_
      intro w5 hr5 ht5
      have HR5 := Lib.hid (HFIN.out w5 hr5 ht5.grown)
      clear hr5 ht5 HFIN HM4
      go_wp2
      exact ⟨⟨k + 1, by omega, by go_num, HR5⟩, by simp [intOf]; omega⟩
    · have hkk : k = q := by omega
      subst hkk
      go_wp2
      go_ret
      exact ⟨_, gs, rfl, HGS.out, by rw [HQ.out]; exact HT.out⟩

end Go.Proofs.Ytomndnopbpbblaa
