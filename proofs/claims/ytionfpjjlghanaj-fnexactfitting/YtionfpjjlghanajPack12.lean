import Derived.Test.YtionfpjjlghanajPack7
import Derived.Test.YtionfpjjlghanajPack11
import Derived.Test.YtionfpjjlghanajPack2
import Derived.Deep.Slices
import Derived.Deep.Strs
import Derived.Test.YtionfpjjlghanajPack3
/- What fits, what is held: plain facts. -/
namespace Go.Proofs.Ytionfpjjlghanaj
open Go.ChangeShapes Go.WideShapes Go.ChangeAt Go.RowKit Go.Joins

theorem those_mem (vs : List Wr) (st : Nat → Bool) (fit : Bool) : ∀ k, k ≤ vs.length → ∀ x ∈ thoseTo vs st fit k, x ∈ vs
  | 0, _, x, hx => by simp [thoseTo] at hx
  | k + 1, hk, x, hx => by
    unfold thoseTo at hx
    split at hx
    · rcases List.mem_append.1 hx with h | h
      · exact those_mem vs st fit k (by omega) x h
      · have : x = vs.getD k wz := by simpa using h
        rw [this]
        have e : vs.getD k wz = vs[k] := by simp [List.getD, show k < vs.length by omega]
        rw [e]
        exact List.getElem_mem (by omega)
    · exact those_mem vs st fit k (by omega) x hx

theorem bulk_app : ∀ (xs ys : List Wr), bulk (xs ++ ys) = bulk xs + bulk ys
  | [], ys => by simp [bulk]
  | x :: r, ys => by
    have ih := bulk_app r ys
    show x.xs.length + bulk (r ++ ys) = x.xs.length + bulk r + bulk ys
    omega

theorem those_bulk (vs : List Wr) (st : Nat → Bool) (fit : Bool) : ∀ k, k ≤ vs.length → bulk (thoseTo vs st fit k) ≤ bulk (vs.take k)
  | 0, _ => by simp [thoseTo, bulk]
  | k + 1, hk => by
    have ih := those_bulk vs st fit k (by omega)
    have e := bulk_take vs k (by omega)
    unfold thoseTo
    split
    · rw [bulk_app, e]
      have : bulk [vs.getD k wz] = (vs.getD k wz).xs.length := by simp [bulk]
      omega
    · omega

theorem fitL_mem {us vs : List Wr} {fit : Bool} {x : Wr} (h : x ∈ fitL us vs fit) : x ∈ vs := by
  unfold fitL at h
  cases hr : rightB us vs
  · rw [hr] at h
    simp at h
  · rw [hr] at h
    exact those_mem vs _ fit _ (Nat.le_refl _) x h

theorem fitL_len (us vs : List Wr) (fit : Bool) : (fitL us vs fit).length ≤ vs.length := by
  unfold fitL
  cases rightB us vs
  · exact Nat.zero_le _
  · exact those_len vs _ fit _

theorem fitL_bulk (us vs : List Wr) (fit : Bool) : bulk (fitL us vs fit) ≤ bulk vs := by
  unfold fitL
  cases rightB us vs
  · simp [bulk]
  · have := those_bulk vs (fixS us vs) fit vs.length (Nat.le_refl _)
    rw [List.take_of_length_le (Nat.le_refl _)] at this
    exact this

theorem fitL_few {us vs : List Wr} (hy : Few vs) (fit : Bool) : Few (fitL us vs fit) := fun i hi => by
  have hm : (fitL us vs fit).getD i wz ∈ fitL us vs fit := by
    have e : (fitL us vs fit).getD i wz = (fitL us vs fit)[i] := by simp [List.getD, hi]
    rw [e]
    exact List.getElem_mem hi
  obtain ⟨j, hj, e⟩ := List.mem_iff_getElem.1 (fitL_mem hm)
  have := hy j hj
  rw [← e]
  simpa [List.getD, hj] using this

set_option maxRecDepth 100000 in
theorem right_parts {us vs : List Wr} (h : rightB us vs = true) : Rise us ∧ (∀ x ∈ us, okW x = true) ∧ ∀ x ∈ vs, okW x = true := by
  unfold rightB at h
  rw [Bool.and_eq_true] at h
  exact ⟨((mapOk_iff us).1 h.1).2, ((mapOk_iff us).1 h.1).1, fun x hx => List.all_eq_true.1 h.2 x hx⟩

set_option maxRecDepth 100000 in
theorem fitL_right {us vs : List Wr} (h : rightB us vs = true) (fit : Bool) : fitL us vs fit = thoseTo vs (fixS us vs) fit vs.length := by
  unfold fitL
  rw [h]

set_option maxRecDepth 100000 in
theorem fitL_wrong {us vs : List Wr} (h : rightB us vs = false) (fit : Bool) : fitL us vs fit = [] := by
  unfold fitL
  rw [h]

end Go.Proofs.Ytionfpjjlghanaj

/- Contracts of impl.Fitting, impl.Held. -/
namespace Go.Proofs.Ytionfpjjlghanaj
open Go.ChangeShapes Go.WideShapes Go.ChangeAt Go.RowKit Go.Joins
attribute [local go_sem ↓] Go.wp_at_zero Go.wp_at_succ

set_option maxRecDepth 100000 in
set_option maxHeartbeats 2000000 in
theorem implFitting_any (a b : Option Addr) (n m cap cap' : Nat) (us vs : List Wr) (w : World) (hn : us.length = n) (hm : vs.length = m) (hs : n + m ≤ 1048576) (hx : Few us) (hy : Few vs) (hi : IsWs w a us) (hj : IsWs w b vs) :
    Calls Try.prog 30 #[.slice a n cap, .slice b m cap'] w fun e w' => ∃ v es, e = .returned v ∧ es.map (·.x) = fitL us vs true ∧ RowG w' w.heap.size v es ∧ Below w.heap.size w w' := by
  have HI := Lib.hid hi
  have HJ := Lib.hid hj
  have HN := Lib.hid hn
  have HM := Lib.hid hm
  have HX := Lib.hid hx
  have HY := Lib.hid hy
  have HC := Lib.hid (seen_any a b n m cap cap' us vs w hn hm (by omega) (by omega) hx hy hi hj)
  clear hi hj hn hm hx hy
  cases hr : rightB us vs
  · have HF := Lib.hid (fitL_wrong hr true)
    rw [hr] at HC
    clear hr
    go_enter Try.func30, Try.ntmps30
    go_wp2_with fail
    refine HC.out.mono ?_
    rintro e w1 ⟨rfl, hb⟩
    have HB1 := Lib.hid hb
    clear hb
    go_wp2
    go_ret
    exact ⟨_, [], rfl, HF.out.symm, rowG_nil _ _, HB1.out⟩
  · have HF := Lib.hid (fitL_right hr true)
    have HP := Lib.hid (right_parts hr)
    rw [hr] at HC
    clear hr
    obtain ⟨N, hN⟩ : ∃ N, N = (m + 63) / 64 := ⟨_, rfl⟩
    have n64 : m ≤ N * 64 := by omega
    have nN : N ≤ 1048576 := by omega
    have HNN := Lib.hid hN
    clear hN
    go_enter Try.func30, Try.ntmps30
    go_wp2_with fail
    refine HC.out.mono ?_
    rintro e w1 ⟨rfl, hb⟩
    have HB1 := Lib.hid hb
    clear hb HC
    go_wp2_with fail
    refine (fitPlaces_any a b n m N cap cap' us vs _ HN.out HM.out hs HX.out HY.out (HI.out.below HB1.out) (HJ.out.below HB1.out) HP.out.1 HP.out.2.1 HP.out.2.2 HNN.out).mono ?_
    rintro e w2 ⟨g, F, rfl, hw, hf, hb⟩
    have HB2 := Lib.hid (below_step HB1.out HB1.out.size hb)
    have HW := Lib.hid hw
    have HFX := Lib.hid hf
    clear hb hw hf HB1
    go_wp2_with fail
    refine (writesAt_any b m cap' g N N vs F _ HM.out (by omega) HY.out (HJ.out.below HB2.out) HW.out n64).mono ?_
    rintro e w3 ⟨v, es, rfl, he, hrow, hb⟩
    have HE : Hid (es.map (·.x) = fitL us vs true) := by
      rw [he, HF.out, HM.out]
      exact Lib.hid (those_congr fun j hj => HFX.out j hj)
    have HR := Lib.hid (hrow.mono HB2.out.size)
    have HB3 := Lib.hid (below_step HB2.out HB2.out.size hb)
    clear he hrow hb
    go_wp2
    go_ret
    exact ⟨v, es, rfl, HE.out, HR.out, HB3.out⟩

end Go.Proofs.Ytionfpjjlghanaj

/- What comes in, opened: tags, dependencies, slices of them, writes. -/
namespace Go.Proofs.Ytionfpjjlghanaj
open Go.ChangeShapes Go.WideShapes Go.ChangeAt Go.RowKit Go.Joins Go.Deep
set_option maxRecDepth 100000

theorem cellsInt : Try.prog.cellsOf 3 = 1 := by kernel_rfl

theorem cellsTag : Try.prog.cellsOf 47 = 3 := by kernel_rfl

theorem cellsDep : Try.prog.cellsOf 59 = 4 := by kernel_rfl

section
variable {H : Type} {enc : TypeId × Value → H} {w : World} {base : Nat} {spare : Nat → Bool} {held : Bool}

theorem tag_cells {fuel : Nat} {cs : List Value} {x : DataW H × List MemPlace} (h : DataW.trod enc Try.prog w base spare held fuel 47 cs = some x) : ∃ c s q : Int, cs = [.int .i64 c, .int .i64 s, .int .i64 q] := by
  obtain ⟨y0, y1, y2, n, _, hl, h0, h1, h2⟩ := trod_struct3 Try.underlying47 h
  rw [cellsTag] at hl
  match cs, hl with
  | [v0, v1, v2], _ =>
    obtain ⟨a0, e0, _, _⟩ := DataW.trod_int Try.underlying3 h0
    obtain ⟨a1, e1, _, _⟩ := DataW.trod_int Try.underlying3 h1
    obtain ⟨a2, e2, _, _⟩ := DataW.trod_int Try.underlying3 h2
    simp [cellsInt] at e0 e1 e2
    subst e0 e1 e2
    exact ⟨a0, a1, a2, rfl⟩

theorem dep_cells {fuel : Nat} {cs : List Value} {x : DataW H × List MemPlace} (h : DataW.trod enc Try.prog w base spare held fuel 59 cs = some x) : ∃ d : Dp, cs = [.int .i64 d.k, .int .i64 d.c, .int .i64 d.s, .int .i64 d.q] := by
  obtain ⟨y0, y1, n, _, hl, h0, h1⟩ := trod_struct2 Try.underlying59 h
  rw [cellsDep] at hl
  match cs, hl with
  | [v0, v1, v2, v3], _ =>
    obtain ⟨a0, e0, _, _⟩ := DataW.trod_int Try.underlying3 h0
    obtain ⟨c, s, q, e1⟩ := tag_cells h1
    simp [cellsInt] at e0
    simp [cellsTag] at e1
    obtain ⟨e1, e2, e3⟩ := e1
    subst e0 e1 e2 e3
    exact ⟨⟨a0, c, s, q⟩, rfl⟩

theorem add_form {a : Addr} {v : Value} (h : w.cell? a = some v) : a = ⟨a.block, a.off, none⟩ := by
  cases a with
  | mk b o s =>
    cases s with
    | none => rfl
    | some s =>
      simp only [World.cell?] at h
      split at h <;> simp at h

theorem add_plain (b o i : Nat) : (Addr.mk b o none).add i = ⟨b, o + i, none⟩ := by
  unfold Addr.add
  split
  · rename_i h
    rw [h]
    rfl
  · rfl

theorem deps_cells {fuel : Nat} {a : Option Addr} {len cap : Nat} {x : DataW H × List MemPlace} (h : DataW.trod enc Try.prog w base spare held fuel 33 [.slice a len cap] = some x) :
    ∃ xs : List Dp, xs.length = len ∧ len ≤ maxLen ∧ IsDeps w a xs := by
  rcases open_slice Try.underlying33 h with ⟨hcs, _⟩ | ⟨a', len', cap', m, n, D, Pl, hcs, _, hl, hm, hmm, _, hel⟩
  · simp at hcs
    obtain ⟨rfl, rfl, rfl⟩ := hcs
    exact ⟨[], rfl, Nat.zero_le _, .inl rfl⟩
  · simp at hcs
    obtain ⟨rfl, rfl, rfl⟩ := hcs
    have hml : len ≤ m := by rw [hmm]; split <;> omega
    have hd : ∀ i, i < len → ∃ d : Dp, w.cell? (a'.add (i * 4)) = some (.int .i64 d.k) ∧ w.cell? (a'.add (i * 4 + 1)) = some (.int .i64 d.c) ∧ w.cell? (a'.add (i * 4 + 2)) = some (.int .i64 d.s) ∧ w.cell? (a'.add (i * 4 + 3)) = some (.int .i64 d.q) := by
      intro i hi
      obtain ⟨cs', h1, h2⟩ := hel i (by omega)
      rw [cellsDep] at h1
      obtain ⟨_, _, hc⟩ := World.cells?_some h1
      obtain ⟨d, hdd⟩ := dep_cells h2
      rw [hdd] at hc
      have c0 := hc 0 (by omega)
      have c1 := hc 1 (by omega)
      have c2 := hc 2 (by omega)
      have c3 := hc 3 (by omega)
      rw [add_add] at c0 c1 c2 c3
      exact ⟨d, by simpa using c0, by simpa using c1, by simpa using c2, by simpa using c3⟩
    by_cases h0 : len = 0
    · subst h0
      exact ⟨[], rfl, Nat.zero_le _, .inl rfl⟩
    have : Inhabited Dp := ⟨dz⟩
    obtain ⟨f, hf⟩ := choose_lt hd
    have ha : a' = ⟨a'.block, a'.off, none⟩ := by
      have h1 := (hf 0 (by omega)).1
      simp [Addr.add] at h1
      exact add_form h1
    refine ⟨(List.range len).map f, by simp, by omega, .inr ⟨a'.block, a'.off, by rw [← ha], ?_, ?_⟩⟩
    · obtain ⟨cs', h1, _⟩ := hel 0 (by omega)
      rw [cellsDep] at h1
      have h2 := World.cells?_block h1 (by omega)
      simpa [Addr.add] using h2
    · intro i hi
      have hi' : i < len := by simpa using hi
      have hg : ((List.range len).map f).getD i dz = f i := by simp [List.getD, hi']
      rw [hg]
      obtain ⟨h1, h2, h3, h4⟩ := hf i hi'
      rw [ha] at h1 h2 h3 h4
      rw [add_plain] at h1 h2 h3 h4
      exact ⟨h1, h2, h3, h4⟩

theorem open_deps {b0 : Nat} {r : Reach} {v : Value} {d : DataW H} {p : List MemPlace} (hv : Value.okWide Try.prog w r b0 33 v) (h : DataW.Trod enc Try.prog w base (fun _ => true) held 33 v d p) :
    ∃ (a : Option Addr) (len cap : Nat) (xs : List Dp), v = .slice a len cap ∧ (xs.length = len ∧ len ≤ maxLen ∧ IsDeps w a xs) := by
  obtain ⟨a, len, cap, rfl⟩ := okWide_slice Try.underlying33 hv
  obtain ⟨fuel, hf⟩ := h
  obtain ⟨xs, hx⟩ := deps_cells (by simpa [Value.cells] using hf)
  exact ⟨a, len, cap, xs, rfl, hx⟩

theorem cellsBool : Try.prog.cellsOf 4 = 1 := by kernel_rfl

theorem cellsDepS : Try.prog.cellsOf 33 = 1 := by kernel_rfl

theorem cellsWrite : Try.prog.cellsOf 49 = 7 := by kernel_rfl

theorem slice_cells {fuel : Nat} {v : Value} {x : DataW H × List MemPlace} (h : DataW.trod enc Try.prog w base spare held fuel 33 [v] = some x) : ∃ a len cap, v = .slice a len cap := by
  rcases open_slice Try.underlying33 h with ⟨hcs, _⟩ | ⟨a', len', cap', m, n, D, Pl, hcs, _⟩
  · simp at hcs
    exact ⟨_, _, _, hcs⟩
  · simp at hcs
    exact ⟨_, _, _, hcs⟩

theorem open_write {b0 : Nat} {r : Reach} {v : Value} {d : DataW H} {p : List MemPlace} (hv : Value.okWide Try.prog w r b0 49 v) (h : DataW.Trod enc Try.prog w base (fun _ => true) held 49 v d p) :
    ∃ (k c s q va : Int) (de : Bool) (a : Option Addr) (len cap : Nat) (xs : List Dp), v = .agg #[.int .i64 k, .int .i64 c, .int .i64 s, .int .i64 q, .int .i64 va, .bool de, .slice a len cap] ∧ (xs.length = len ∧ len ≤ maxLen ∧ IsDeps w a xs) := by
  obtain ⟨cs, rfl, hsz⟩ := okWide_struct Try.underlying49 hv
  rw [cellsWrite] at hsz
  obtain ⟨fuel, hf⟩ := h
  obtain ⟨xs', n, _, _, _, hlen, hfd⟩ := DataW.trod_struct Try.underlying49 hf
  cases cs with
  | mk l =>
    have hl : l.length = 7 := by simpa using hsz
    match l, hl, xs', hlen with
    | [v0, v1, v2, v3, v4, v5, v6], _, [y0, y1, y2, y3, y4], _ =>
      have g0 := hfd 0 _ rfl
      have g1 := hfd 1 _ rfl
      have g2 := hfd 2 _ rfl
      have g3 := hfd 3 _ rfl
      have g4 := hfd 4 _ rfl
      simp [Value.cells, cellsInt, cellsTag, cellsBool, cellsDepS] at g0 g1 g2 g3 g4
      obtain ⟨k, e0, _, _⟩ := DataW.trod_int Try.underlying3 g0
      obtain ⟨c, s, q, e1⟩ := tag_cells g1
      obtain ⟨va, e2, _, _⟩ := DataW.trod_int Try.underlying3 g2
      obtain ⟨de, e3, _⟩ := DataW.trod_bool Try.underlying4 g3
      obtain ⟨a, len, cap, e4⟩ := slice_cells g4
      simp at e0 e1 e2 e3
      obtain ⟨e1, e1', e1''⟩ := e1
      subst e0 e1 e1' e1'' e2 e3 e4
      obtain ⟨xs, hx⟩ := deps_cells g4
      exact ⟨k, c, s, q, va, de, a, len, cap, xs, rfl, hx⟩

end
end Go.Proofs.Ytionfpjjlghanaj

/- What comes in, opened: slices of writes. -/
namespace Go.Proofs.Ytionfpjjlghanaj
open Go.ChangeShapes Go.WideShapes Go.ChangeAt Go.RowKit Go.Joins Go.Deep
set_option maxRecDepth 100000

section
variable {H : Type} {enc : TypeId × Value → H} {w : World} {base : Nat} {spare : Nat → Bool} {held : Bool}

theorem write_cells {fuel : Nat} {cs : List Value} {x : DataW H × List MemPlace} (h : DataW.trod enc Try.prog w base spare held fuel 49 cs = some x) :
    ∃ (y : Wr) (a : Option Addr) (cap : Nat), cs = [.int .i64 y.k, .int .i64 y.c, .int .i64 y.s, .int .i64 y.q, .int .i64 y.v, .bool y.de, .slice a y.xs.length cap] ∧ y.xs.length ≤ maxLen ∧ IsDeps w a y.xs := by
  obtain ⟨xs', n, hl0, _, _, hlen, hfd⟩ := DataW.trod_struct Try.underlying49 h
  have hl : cs.length = 7 := by rw [cellsWrite] at *; assumption
  match cs, hl, xs', hlen with
  | [v0, v1, v2, v3, v4, v5, v6], _, [y0, y1, y2, y3, y4], _ =>
    have g0 := hfd 0 _ rfl
    have g1 := hfd 1 _ rfl
    have g2 := hfd 2 _ rfl
    have g3 := hfd 3 _ rfl
    have g4 := hfd 4 _ rfl
    simp [cellsInt, cellsTag, cellsBool, cellsDepS] at g0 g1 g2 g3 g4
    obtain ⟨k, e0, _, _⟩ := DataW.trod_int Try.underlying3 g0
    obtain ⟨c, s, q, e1⟩ := tag_cells g1
    obtain ⟨va, e2, _, _⟩ := DataW.trod_int Try.underlying3 g2
    obtain ⟨de, e3, _⟩ := DataW.trod_bool Try.underlying4 g3
    obtain ⟨a, len, cap, e4⟩ := slice_cells g4
    simp at e0 e1 e2 e3
    obtain ⟨e1, e1', e1''⟩ := e1
    subst e0 e1 e1' e1'' e2 e3 e4
    obtain ⟨xs, hx1, hx2, hx3⟩ := deps_cells g4
    subst hx1
    exact ⟨⟨k, c, s, q, va, de, xs⟩, a, cap, rfl, hx2, hx3⟩

theorem ws_cells {fuel : Nat} {a : Option Addr} {len cap : Nat} {x : DataW H × List MemPlace} (h : DataW.trod enc Try.prog w base spare held fuel 22 [.slice a len cap] = some x) :
    ∃ ws : List Wr, ws.length = len ∧ len ≤ maxLen ∧ IsWs w a ws := by
  rcases open_slice Try.underlying22 h with ⟨hcs, _⟩ | ⟨a', len', cap', m, n, D, Pl, hcs, _, hl, hm, hmm, _, hel⟩
  · simp at hcs
    obtain ⟨rfl, rfl, rfl⟩ := hcs
    exact ⟨[], rfl, Nat.zero_le _, .inl rfl⟩
  · simp at hcs
    obtain ⟨rfl, rfl, rfl⟩ := hcs
    have hml : len ≤ m := by rw [hmm]; split <;> omega
    have hd : ∀ i, i < len → ∃ y : Wr, ∃ (ad : Option Addr) (cp : Nat), w.cell? (a'.add (i * 7)) = some (.int .i64 y.k) ∧ w.cell? (a'.add (i * 7 + 1)) = some (.int .i64 y.c) ∧ w.cell? (a'.add (i * 7 + 2)) = some (.int .i64 y.s) ∧ w.cell? (a'.add (i * 7 + 3)) = some (.int .i64 y.q) ∧ w.cell? (a'.add (i * 7 + 4)) = some (.int .i64 y.v) ∧ w.cell? (a'.add (i * 7 + 5)) = some (.bool y.de) ∧ w.cell? (a'.add (i * 7 + 6)) = some (.slice ad y.xs.length cp) ∧ y.xs.length ≤ maxLen ∧ IsDeps w ad y.xs := by
      intro i hi
      obtain ⟨cs', h1, h2⟩ := hel i (by omega)
      rw [cellsWrite] at h1
      obtain ⟨_, _, hc⟩ := World.cells?_some h1
      obtain ⟨y, ad, cp, hdd, hy1, hy2⟩ := write_cells h2
      rw [hdd] at hc
      have c0 := hc 0 (by omega)
      have c1 := hc 1 (by omega)
      have c2 := hc 2 (by omega)
      have c3 := hc 3 (by omega)
      have c4 := hc 4 (by omega)
      have c5 := hc 5 (by omega)
      have c6 := hc 6 (by omega)
      rw [add_add] at c0 c1 c2 c3 c4 c5 c6
      exact ⟨y, ad, cp, by simpa using c0, by simpa using c1, by simpa using c2, by simpa using c3, by simpa using c4, by simpa using c5, by simpa using c6, hy1, hy2⟩
    by_cases h0 : len = 0
    · subst h0
      exact ⟨[], rfl, Nat.zero_le _, .inl rfl⟩
    have : Inhabited Wr := ⟨wz⟩
    obtain ⟨f, hf⟩ := choose_lt hd
    have ha : a' = ⟨a'.block, a'.off, none⟩ := by
      obtain ⟨_, _, h1, _⟩ := hf 0 (by omega)
      simp [Addr.add] at h1
      exact add_form h1
    refine ⟨(List.range len).map f, by simp, by omega, .inr ⟨a'.block, a'.off, by rw [← ha], ?_, ?_⟩⟩
    · obtain ⟨cs', h1, _⟩ := hel 0 (by omega)
      rw [cellsWrite] at h1
      have h2 := World.cells?_block h1 (by omega)
      simpa [Addr.add] using h2
    · intro i hi
      have hi' : i < len := by simpa using hi
      have hg : ((List.range len).map f).getD i wz = f i := by simp [List.getD, hi']
      rw [hg]
      obtain ⟨ad, cp, h1, h2, h3, h4, h5, h6, h7, h8, h9⟩ := hf i hi'
      rw [ha] at h1 h2 h3 h4 h5 h6 h7
      rw [add_plain] at h1 h2 h3 h4 h5 h6 h7
      exact ⟨ad, cp, ⟨h1, h2, h3, h4, h5, h6, h7⟩, h8, h9⟩

theorem open_ws {b0 : Nat} {r : Reach} {v : Value} {d : DataW H} {p : List MemPlace} (hv : Value.okWide Try.prog w r b0 22 v) (h : DataW.Trod enc Try.prog w base (fun _ => true) held 22 v d p) :
    ∃ (a : Option Addr) (len cap : Nat) (ws : List Wr), v = .slice a len cap ∧ (ws.length = len ∧ len ≤ maxLen ∧ IsWs w a ws) := by
  obtain ⟨a, len, cap, rfl⟩ := okWide_slice Try.underlying22 hv
  obtain ⟨fuel, hf⟩ := h
  obtain ⟨ws, hx⟩ := ws_cells (by simpa [Value.cells] using hf)
  exact ⟨a, len, cap, ws, rfl, hx⟩

end
end Go.Proofs.Ytionfpjjlghanaj
