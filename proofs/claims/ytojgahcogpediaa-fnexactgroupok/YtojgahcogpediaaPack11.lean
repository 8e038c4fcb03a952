import Derived.Test.YtojgahcogpediaaPack10
import Derived.Test.YtojgahcogpediaaPack9
/- What comes in, opened: slices of maps. -/
namespace Go.Proofs.Ytojgahcogpediaa
open Go.ChangeShapes Go.WideShapes Go.ChangeAt Go.RowKit Go.Joins Go.Deep
set_option maxRecDepth 100000

section
variable {H : Type} {enc : TypeId × Value → H} {w : World} {base : Nat} {spare : Nat → Bool} {held : Bool}

theorem cellsRep : Try.prog.cellsOf 104 = 1 := by kernel_rfl

theorem rep_cells {fuel : Nat} {cs : List Value} {x : DataW H × List MemPlace} (h : DataW.trod enc Try.prog w base spare held fuel 104 cs = some x) :
    ∃ (ws : List Wr) (a : Option Addr) (cap : Nat), cs = [.slice a ws.length cap] ∧ ws.length ≤ maxLen ∧ IsWs w a ws := by
  obtain ⟨xs', n, hl0, _, _, hlen, hfd⟩ := DataW.trod_struct Try.underlying104 h
  have hl : cs.length = 1 := by rw [cellsRep] at *; assumption
  match cs, hl, xs', hlen with
  | [v0], _, [y0], _ =>
    have g0 := hfd 0 _ rfl
    simp [cellsWriteS] at g0
    obtain ⟨a, len, cap, e0⟩ := sliceW_cells g0
    simp at e0
    subst e0
    obtain ⟨ws, hx1, hx2, hx3⟩ := ws_cells g0
    subst hx1
    exact ⟨ws, a, cap, rfl, hx2, hx3⟩

theorem rs_cells {fuel : Nat} {a : Option Addr} {len cap : Nat} {x : DataW H × List MemPlace} (h : DataW.trod enc Try.prog w base spare held fuel 22 [.slice a len cap] = some x) :
    ∃ bs : List (List Wr), bs.length = len ∧ len ≤ maxLen ∧ (∀ i, i < bs.length → (bs.getD i []).length ≤ maxLen) ∧ IsBs w a bs := by
  rcases open_slice Try.underlying22 h with ⟨hcs, _⟩ | ⟨a', len', cap', m, n, D, Pl, hcs, _, hl, hm, hmm, _, hel⟩
  · simp at hcs
    obtain ⟨rfl, rfl, rfl⟩ := hcs
    exact ⟨[], rfl, Nat.zero_le _, fun i hi => by simp at hi, .inl rfl⟩
  · simp at hcs
    obtain ⟨rfl, rfl, rfl⟩ := hcs
    have hml : len ≤ m := by rw [hmm]; split <;> omega
    have hd : ∀ i, i < len → ∃ y : List Wr, ∃ (ad : Option Addr) (cp : Nat), w.cell? (a'.add i) = some (.slice ad y.length cp) ∧ y.length ≤ maxLen ∧ IsWs w ad y := by
      intro i hi
      obtain ⟨cs', h1, h2⟩ := hel i (by omega)
      rw [cellsRep] at h1
      obtain ⟨_, _, hc⟩ := World.cells?_some h1
      obtain ⟨y, ad, cp, hdd, hy1, hy2⟩ := rep_cells h2
      rw [hdd] at hc
      have c0 := hc 0 (by omega)
      rw [add_add] at c0
      exact ⟨y, ad, cp, by simpa using c0, hy1, hy2⟩
    by_cases h0 : len = 0
    · subst h0
      exact ⟨[], rfl, Nat.zero_le _, fun i hi => by simp at hi, .inl rfl⟩
    have : Inhabited (List Wr) := ⟨[]⟩
    obtain ⟨f, hf⟩ := choose_lt hd
    have ha : a' = ⟨a'.block, a'.off, none⟩ := by
      obtain ⟨_, _, h1, _⟩ := hf 0 (by omega)
      simp [Addr.add] at h1
      exact add_form h1
    have hg : ∀ i, i < len → ((List.range len).map f).getD i [] = f i := fun i hi => by simp [List.getD, hi]
    refine ⟨(List.range len).map f, by simp, by omega, fun i hi => ?_, .inr ⟨a'.block, a'.off, by rw [← ha], ?_, ?_⟩⟩
    · have hi' : i < len := by simpa using hi
      rw [hg i hi']
      obtain ⟨ad, cp, _, h2, _⟩ := hf i hi'
      exact h2
    · obtain ⟨cs', h1, _⟩ := hel 0 (by omega)
      rw [cellsRep] at h1
      have h2 := World.cells?_block h1 (by omega)
      simpa [Addr.add] using h2
    · intro i hi
      have hi' : i < len := by simpa using hi
      rw [hg i hi']
      obtain ⟨ad, cp, h1, h2, h3⟩ := hf i hi'
      rw [ha] at h1
      rw [add_plain] at h1
      exact ⟨ad, cp, h1, h3⟩

theorem open_rs {b0 : Nat} {r : Reach} {v : Value} {d : DataW H} {p : List MemPlace} (hv : Value.okWide Try.prog w r b0 22 v) (h : DataW.Trod enc Try.prog w base (fun _ => true) held 22 v d p) :
    ∃ (a : Option Addr) (len cap : Nat) (bs : List (List Wr)), v = .slice a len cap ∧ (bs.length = len ∧ len ≤ maxLen ∧ (∀ i, i < bs.length → (bs.getD i []).length ≤ maxLen) ∧ IsBs w a bs) := by
  obtain ⟨a, len, cap, rfl⟩ := okWide_slice Try.underlying22 hv
  obtain ⟨fuel, hf⟩ := h
  obtain ⟨bs, hx⟩ := rs_cells (by simpa [Value.cells] using hf)
  exact ⟨a, len, cap, bs, rfl, hx⟩

end

end Go.Proofs.Ytojgahcogpediaa

/- What comes in, opened: slices of hints, groups. -/
namespace Go.Proofs.Ytojgahcogpediaa
open Go.ChangeShapes Go.WideShapes Go.ChangeAt Go.RowKit Go.Joins Go.Deep
set_option maxRecDepth 100000

theorem cellsHint : Try.prog.cellsOf 107 = 8 := by kernel_rfl

theorem cellsHintS : Try.prog.cellsOf 23 = 1 := by kernel_rfl

theorem cellsRepS : Try.prog.cellsOf 22 = 1 := by kernel_rfl

theorem cellsGroup : Try.prog.cellsOf 25 = 2 := by kernel_rfl

section
variable {H : Type} {enc : TypeId × Value → H} {w : World} {base : Nat} {spare : Nat → Bool} {held : Bool}

theorem wr_cells {fuel : Nat} {cs : List Value} {x : DataW H × List MemPlace} (h : DataW.trod enc Try.prog w base spare held fuel 75 cs = some x) :
    ∃ (y : Wr) (a : Option Addr) (cap : Nat), cs = [.int .i64 y.k, .int .i64 y.c, .int .i64 y.s, .int .i64 y.q, .int .i64 y.v, .bool y.de, .slice a y.xs.length cap] ∧ y.xs.length ≤ maxLen ∧ IsDeps w a y.xs := by
  obtain ⟨xs', n, hl0, _, _, hlen, hfd⟩ := DataW.trod_struct Try.underlying75 h
  have hl : cs.length = 7 := by rw [cellsWrite] at *; assumption
  match cs, hl, xs', hlen with
  | [v0, v1, v2, v3, v4, v5, v6], _, [y0, y1, y2, y3, y4], _ =>
    have g0 := hfd 0 _ rfl
    have g1 := hfd 1 _ rfl
    have g2 := hfd 2 _ rfl
    have g3 := hfd 3 _ rfl
    have g4 := hfd 4 _ rfl
    simp [cellsInt, cellsTag, cellsBool, cellsDepS] at g0 g1 g2 g3 g4
    obtain ⟨k, e0, _, _⟩ := DataW.trod_int Try.underlying3 g0
    obtain ⟨c, s, q, e1⟩ := tag_cells g1
    obtain ⟨va, e2, _, _⟩ := DataW.trod_int Try.underlying3 g2
    obtain ⟨de, e3, _⟩ := DataW.trod_bool Try.underlying4 g3
    obtain ⟨a, len, cap, e4⟩ := slice_cells g4
    simp at e0 e1 e2 e3
    obtain ⟨e1, e1', e1''⟩ := e1
    subst e0 e1 e1' e1'' e2 e3 e4
    obtain ⟨xs, hx1, hx2, hx3⟩ := deps_cells g4
    subst hx1
    exact ⟨⟨k, c, s, q, va, de, xs⟩, a, cap, rfl, hx2, hx3⟩

theorem hint_cells {fuel : Nat} {cs : List Value} {x : DataW H × List MemPlace} (h : DataW.trod enc Try.prog w base spare held fuel 107 cs = some x) :
    ∃ (y : Hn) (a : Option Addr) (cap : Nat), cs = [.int .i64 y.f, .int .i64 y.x.k, .int .i64 y.x.c, .int .i64 y.x.s, .int .i64 y.x.q, .int .i64 y.x.v, .bool y.x.de, .slice a y.x.xs.length cap] ∧ y.x.xs.length ≤ maxLen ∧ IsDeps w a y.x.xs := by
  obtain ⟨xs', n, hl0, _, _, hlen, hfd⟩ := DataW.trod_struct Try.underlying107 h
  have hl : cs.length = 8 := by rw [cellsHint] at *; assumption
  match cs, hl, xs', hlen with
  | [v0, v1, v2, v3, v4, v5, v6, v7], _, [y0, y1], _ =>
    have g0 := hfd 0 _ rfl
    have g1 := hfd 1 _ rfl
    simp [cellsInt, cellsWrite] at g0 g1
    obtain ⟨f, e0, _, _⟩ := DataW.trod_int Try.underlying3 g0
    obtain ⟨y, a, cap, e1, h1, h2⟩ := wr_cells g1
    simp at e0 e1
    obtain ⟨e1, e2, e3, e4, e5, e6, e7⟩ := e1
    subst e0 e1 e2 e3 e4 e5 e6 e7
    exact ⟨⟨f, y⟩, a, cap, rfl, h1, h2⟩

theorem hs_cells {fuel : Nat} {a : Option Addr} {len cap : Nat} {x : DataW H × List MemPlace} (h : DataW.trod enc Try.prog w base spare held fuel 23 [.slice a len cap] = some x) :
    ∃ hs : List Hn, hs.length = len ∧ len ≤ maxLen ∧ IsHs w a hs := by
  rcases open_slice Try.underlying23 h with ⟨hcs, _⟩ | ⟨a', len', cap', m, n, D, Pl, hcs, _, hl, hm, hmm, _, hel⟩
  · simp at hcs
    obtain ⟨rfl, rfl, rfl⟩ := hcs
    exact ⟨[], rfl, Nat.zero_le _, .inl rfl⟩
  · simp at hcs
    obtain ⟨rfl, rfl, rfl⟩ := hcs
    have hml : len ≤ m := by rw [hmm]; split <;> omega
    have hd : ∀ i, i < len → ∃ y : Hn, ∃ (ad : Option Addr) (cp : Nat), (w.cell? (a'.add (i * 8)) = some (.int .i64 y.f) ∧ w.cell? (a'.add (i * 8 + 1)) = some (.int .i64 y.x.k) ∧ w.cell? (a'.add (i * 8 + 2)) = some (.int .i64 y.x.c) ∧ w.cell? (a'.add (i * 8 + 3)) = some (.int .i64 y.x.s) ∧ w.cell? (a'.add (i * 8 + 4)) = some (.int .i64 y.x.q) ∧ w.cell? (a'.add (i * 8 + 5)) = some (.int .i64 y.x.v) ∧ w.cell? (a'.add (i * 8 + 6)) = some (.bool y.x.de) ∧ w.cell? (a'.add (i * 8 + 7)) = some (.slice ad y.x.xs.length cp)) ∧ y.x.xs.length ≤ maxLen ∧ IsDeps w ad y.x.xs := by
      intro i hi
      obtain ⟨cs', h1, h2⟩ := hel i (by omega)
      rw [cellsHint] at h1
      obtain ⟨_, _, hc⟩ := World.cells?_some h1
      obtain ⟨y, ad, cp, hdd, hy1, hy2⟩ := hint_cells h2
      rw [hdd] at hc
      have c0 := hc 0 (by omega)
      have c1 := hc 1 (by omega)
      have c2 := hc 2 (by omega)
      have c3 := hc 3 (by omega)
      have c4 := hc 4 (by omega)
      have c5 := hc 5 (by omega)
      have c6 := hc 6 (by omega)
      have c7 := hc 7 (by omega)
      rw [add_add] at c0 c1 c2 c3 c4 c5 c6 c7
      exact ⟨y, ad, cp, ⟨by simpa using c0, by simpa using c1, by simpa using c2, by simpa using c3, by simpa using c4, by simpa using c5, by simpa using c6, by simpa using c7⟩, hy1, hy2⟩
    by_cases h0 : len = 0
    · subst h0
      exact ⟨[], rfl, Nat.zero_le _, .inl rfl⟩
    have : Inhabited Hn := ⟨hnz⟩
    obtain ⟨f, hf⟩ := choose_lt hd
    have ha : a' = ⟨a'.block, a'.off, none⟩ := by
      obtain ⟨_, _, ⟨h1, _⟩, _⟩ := hf 0 (by omega)
      simp [Addr.add] at h1
      exact add_form h1
    have hg : ∀ i, i < len → ((List.range len).map f).getD i hnz = f i := fun i hi => by simp [List.getD, hi]
    refine ⟨(List.range len).map f, by simp, by omega, .inr ⟨a'.block, a'.off, by rw [← ha], ?_, ?_⟩⟩
    · obtain ⟨cs', h1, _⟩ := hel 0 (by omega)
      rw [cellsHint] at h1
      have h2 := World.cells?_block h1 (by omega)
      simpa [Addr.add] using h2
    · intro i hi
      have hi' : i < len := by simpa using hi
      rw [hg i hi']
      obtain ⟨ad, cp, ⟨c0, c1, c2, c3, c4, c5, c6, c7⟩, h2, h3⟩ := hf i hi'
      rw [ha] at c0 c1 c2 c3 c4 c5 c6 c7
      rw [add_plain] at c0 c1 c2 c3 c4 c5 c6 c7
      exact ⟨ad, cp, ⟨c0, by rw [Nat.add_assoc]; exact c1, by rw [Nat.add_assoc]; exact c2, by rw [Nat.add_assoc]; exact c3, by rw [Nat.add_assoc]; exact c4, by rw [Nat.add_assoc]; exact c5, by rw [Nat.add_assoc]; exact c6, by rw [Nat.add_assoc]; exact c7⟩, h2, h3⟩

theorem sliceH_cells {fuel : Nat} {cs : List Value} {x : DataW H × List MemPlace} (h : DataW.trod enc Try.prog w base spare held fuel 23 cs = some x) : ∃ (a : Option Addr) (len cap : Nat), cs = [.slice a len cap] := by
  rcases open_slice Try.underlying23 h with ⟨hcs, _⟩ | ⟨a', len', cap', m, n, D, Pl, hcs, _⟩
  · exact ⟨none, 0, 0, hcs⟩
  · exact ⟨_, _, _, hcs⟩

theorem sliceR_cells {fuel : Nat} {cs : List Value} {x : DataW H × List MemPlace} (h : DataW.trod enc Try.prog w base spare held fuel 22 cs = some x) : ∃ (a : Option Addr) (len cap : Nat), cs = [.slice a len cap] := by
  rcases open_slice Try.underlying22 h with ⟨hcs, _⟩ | ⟨a', len', cap', m, n, D, Pl, hcs, _⟩
  · exact ⟨none, 0, 0, hcs⟩
  · exact ⟨_, _, _, hcs⟩

/-- What is known of a group that came in. -/
def GroupIn (w : World) (am : Option Addr) (m : Nat) (ah : Option Addr) (n : Nat) (bs : List (List Wr)) (hs : List Hn) : Prop :=
  (bs.length = m ∧ m ≤ maxLen ∧ (∀ i, i < bs.length → (bs.getD i []).length ≤ maxLen) ∧ IsBs w am bs) ∧ (hs.length = n ∧ n ≤ maxLen ∧ IsHs w ah hs)

theorem open_group {b0 : Nat} {r : Reach} {v : Value} {d : DataW H} {p : List MemPlace} (hv : Value.okWide Try.prog w r b0 25 v) (h : DataW.Trod enc Try.prog w base (fun _ => true) held 25 v d p) :
    ∃ (am : Option Addr) (m cm : Nat) (ah : Option Addr) (n cn : Nat) (bs : List (List Wr)) (hs : List Hn), v = .agg #[.slice am m cm, .slice ah n cn] ∧ GroupIn w am m ah n bs hs := by
  obtain ⟨cs, rfl, hsz⟩ := okWide_struct Try.underlying25 hv
  rw [cellsGroup] at hsz
  obtain ⟨fuel, hf⟩ := h
  obtain ⟨xs', n, _, _, _, hlen, hfd⟩ := DataW.trod_struct Try.underlying25 hf
  cases cs with
  | mk l =>
    have hl : l.length = 2 := by simpa using hsz
    match l, hl, xs', hlen with
    | [v0, v1], _, [y0, y1], _ =>
      have g0 := hfd 0 _ rfl
      have g1 := hfd 1 _ rfl
      simp [Value.cells, cellsRepS, cellsHintS] at g0 g1
      obtain ⟨am, m, cm, e0⟩ := sliceR_cells g0
      obtain ⟨ah, n, cn, e1⟩ := sliceH_cells g1
      simp at e0 e1
      subst e0 e1
      obtain ⟨bs, hb⟩ := rs_cells g0
      obtain ⟨hs, hh⟩ := hs_cells g1
      exact ⟨am, m, cm, ah, n, cn, bs, hs, rfl, hb, hh⟩

end
end Go.Proofs.Ytojgahcogpediaa
