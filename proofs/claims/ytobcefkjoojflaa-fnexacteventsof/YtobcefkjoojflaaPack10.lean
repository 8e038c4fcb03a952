import Derived.Test.YtobcefkjoojflaaPack4
import Derived.Test.YtobcefkjoojflaaPack1
import Derived.Deep.Slices
import Derived.Deep.Strs
import Derived.Test.YtobcefkjoojflaaPack5
namespace Go.Proofs.Ytobcefkjoojflaa
open Go.ChangeShapes Go.WideShapes Go.ChangeAt Go.RowKit Go.Joins
set_option maxRecDepth 100000
attribute [local go_sem ↓] Go.wp_at_zero Go.wp_at_succ

set_option maxHeartbeats 4000000 in
theorem heldEventS_any (n cap : Nat) (a : Option Addr) (k : Int) (es : List EvB) (w : World) (hn : es.length = n) (hm : n ≤ 1048576) (ht : TameE es k) (ho : MarkedE w a es k) :
    Calls Try.prog 16 #[.slice a n cap, .int .i64 k] w fun e w' => e = .returned (.int .i64 (markKE es k)) ∧ w' = w := by
  have HO := Lib.hid ho
  have HT := Lib.hid ht
  have HN := Lib.hid hn
  clear ho ht hn
  go_enter Try.func16, Try.ntmps16
  go_wp2
  go_loopw [1, 5] (fun l i wr => ∃ (j : Nat), j ≤ n ∧ i = .int .i64 j ∧ l = .int .i64 (markKE (es.take j) k) ∧ wr = w) (fun _ i _ => n - (intOf i).toNat)
  case atStart => exact ⟨0, Nat.zero_le _, rfl, rfl, rfl⟩
  case round =>
    obtain ⟨j, hj, rfl, rfl, rfl⟩ := hrel
    by_cases hj' : j < n
    · have hjj : j < es.length := by rw [HN.out]; exact hj'
      have i1 : (0 : Int) ≤ (j : Int) := by omega
      have i2 : (j : Int) < (n : Int) := by omega
      obtain ⟨b, N, f, rfl, hrow, hN, hmr, hmk⟩ : ∃ b N f, a = some ⟨b, 0, none⟩ ∧ wr.rowIs b 50 N f ∧ es.length * 4 ≤ N ∧ MarkRow f es k es.length ∧ ∀ i, i < es.length → MarkedA wr (es.getD i ebz).b.a (es.getD i ebz).b.ws (es.getD i ebz).b.γ (markKE (es.take i) k + 1 + 1 + 1) := by
        rcases HO.out with h | h
        · rw [h] at hjj
          simp at hjj
        · exact h
      have c : ∀ r, r < 4 → wr.cell? ⟨b, j * 4 + r, none⟩ = some (markF (es.getD j ebz) (markKE (es.take j) k) r) := fun r hr => by
        rw [hrow.cell (i := j * 4 + r) (by omega), hmr j hjj r hr, if_pos hjj]
      have c0 := c 0 (by omega)
      have c1 := c 1 (by omega)
      have c2 := c 2 (by omega)
      have c3 := c 3 (by omega)
      rw [Nat.add_zero] at c0
      have HMK := Lib.hid (hmk j hjj)
      obtain ⟨b1, b2⟩ := HT.out.1 j hjj
      obtain ⟨t1, t2⟩ := HT.out.2 j (by omega)
      obtain ⟨t3, t4⟩ := HT.out.2 (j + 1) (by omega)
      have HK := Lib.hid (markKE_take es k hjj)
      clear hmr hmk c hrow
      obtain ⟨kk, hkk⟩ : ∃ kk, markKE (es.take j) k = kk := ⟨_, rfl⟩
      rw [hkk] at t1 t2 HK HMK c0 c1 c2 c3 ⊢
      obtain ⟨x, hx⟩ : ∃ x, es.getD j ebz = x := ⟨_, rfl⟩
      rw [hx] at c0 c1 c2 c3 b1 b2 HK HMK
      clear hkk hx
      obtain ⟨xs, xsh, xm, xw, xa, xc, xl, xh, xg⟩ := x
      simp [markF, batV] at c0 c1 c2 c3
      simp only at b1 b2 HK HMK
      obtain ⟨q, hq⟩ : ∃ q, xw.length = q := ⟨_, rfl⟩
      rw [hq] at c3 b1 HK
      have HQ := Lib.hid hq
      clear hq
      obtain ⟨k3, hk3⟩ : ∃ k3, markK xw (kk + 1 + 1 + 1) q = k3 := ⟨_, rfl⟩
      rw [hk3] at HK
      rw [HK.out] at t3 t4
      have HK3 := Lib.hid hk3
      clear hk3
      go_wp2_with fail
      refine (heldWriteS_all q xc xa (kk + 1 + 1 + 1) xw xg _ HQ.out b1 b2 (by omega) (by omega) HMK.out).mono ?_
      rintro e w2 ⟨rfl, hw⟩
      subst w2
      rw [HK3.out]
      go_wp2
      exact ⟨⟨j + 1, by omega, by go_num, by rw [HK.out], trivial⟩, by simp [intOf]; omega⟩
    · have hjj : j = n := by omega
      subst hjj
      have HF : Hid (es.take j = es) := List.take_of_length_le (by rw [HN.out]; exact Nat.le_refl _)
      rw [HF.out]
      go_wp2
      go_ret
      exact ⟨rfl, rfl⟩

end Go.Proofs.Ytobcefkjoojflaa

namespace Go.Proofs.Ytobcefkjoojflaa
open Go.ChangeShapes Go.WideShapes Go.ChangeAt Go.RowKit Go.Joins Go.Deep
set_option maxRecDepth 100000

theorem cellsInt : Try.prog.cellsOf 3 = 1 := by kernel_rfl

theorem cellsTag : Try.prog.cellsOf 74 = 3 := by kernel_rfl

theorem cellsDep : Try.prog.cellsOf 89 = 4 := by kernel_rfl

section
variable {H : Type} {enc : TypeId × Value → H} {w : World} {base : Nat} {spare : Nat → Bool} {held : Bool}

theorem add_form {a : Addr} {v : Value} (h : w.cell? a = some v) : a = ⟨a.block, a.off, none⟩ := by
  cases a with
  | mk b o s =>
    cases s with
    | none => rfl
    | some s =>
      simp only [World.cell?] at h
      split at h <;> simp at h

theorem add_plain (b o i : Nat) : (Addr.mk b o none).add i = ⟨b, o + i, none⟩ := by
  unfold Addr.add
  split
  · rename_i h
    rw [h]
    rfl
  · rfl

theorem cellsBool : Try.prog.cellsOf 4 = 1 := by kernel_rfl

theorem cellsDepS : Try.prog.cellsOf 75 = 1 := by kernel_rfl

theorem cellsWrite : Try.prog.cellsOf 77 = 7 := by kernel_rfl

theorem slice_cells {fuel : Nat} {v : Value} {x : DataW H × List MemPlace} (h : DataW.trod enc Try.prog w base spare held fuel 75 [v] = some x) : ∃ a len cap, v = .slice a len cap := by
  rcases open_slice Try.underlying75 h with ⟨hcs, _⟩ | ⟨a', len', cap', m, n, D, Pl, hcs, _⟩
  · simp at hcs
    exact ⟨_, _, _, hcs⟩
  · simp at hcs
    exact ⟨_, _, _, hcs⟩

end
end Go.Proofs.Ytobcefkjoojflaa

namespace Go.Proofs.Ytobcefkjoojflaa
open Go.ChangeShapes Go.WideShapes Go.ChangeAt Go.RowKit Go.Joins Go.Deep
set_option maxRecDepth 100000

section
variable {H : Type} {enc : TypeId × Value → H} {w : World} {base : Nat} {spare : Nat → Bool} {held : Bool}

end
end Go.Proofs.Ytobcefkjoojflaa

namespace Go.Proofs.Ytobcefkjoojflaa
open Go.ChangeShapes Go.WideShapes Go.ChangeAt Go.RowKit Go.Joins

def R64 (n : Int) : Prop := -9223372036854775808 ≤ n ∧ n ≤ 9223372036854775807

theorem wf_r64 {n : Int} (h : (Lit.int .i64 n).wf = true) : R64 n := by
  simp only [Lit.wf, Bool.and_eq_true, decide_eq_true_eq] at h
  exact h

def DpR (d : Dp) : Prop := R64 d.k ∧ R64 d.c ∧ R64 d.s ∧ R64 d.q

def WrR (x : Wr) : Prop := R64 x.k ∧ R64 x.c ∧ R64 x.s ∧ R64 x.q ∧ R64 x.v ∧ ∀ j, j < x.xs.length → DpR (x.xs.getD j dz)

def WsR (ws : List Wr) : Prop := ∀ j, j < ws.length → WrR (ws.getD j wz)

end Go.Proofs.Ytobcefkjoojflaa

namespace Go.Proofs.Ytobcefkjoojflaa
open Go.ChangeShapes Go.WideShapes Go.ChangeAt Go.RowKit Go.Joins Go.Deep
set_option maxRecDepth 100000

section
variable {H : Type} {enc : TypeId × Value → H} {w : World} {base : Nat} {spare : Nat → Bool} {held : Bool}

theorem tag_cellsR {fuel : Nat} {cs : List Value} {x : DataW H × List MemPlace} (h : DataW.trod enc Try.prog w base spare held fuel 74 cs = some x) : ∃ c s q : Int, cs = [.int .i64 c, .int .i64 s, .int .i64 q] ∧ R64 c ∧ R64 s ∧ R64 q := by
  obtain ⟨y0, y1, y2, n, _, hl, h0, h1, h2⟩ := trod_struct3 Try.underlying74 h
  rw [cellsTag] at hl
  match cs, hl with
  | [v0, v1, v2], _ =>
    obtain ⟨a0, e0, _, k0⟩ := DataW.trod_int Try.underlying3 h0
    obtain ⟨a1, e1, _, k1⟩ := DataW.trod_int Try.underlying3 h1
    obtain ⟨a2, e2, _, k2⟩ := DataW.trod_int Try.underlying3 h2
    simp [cellsInt] at e0 e1 e2
    subst e0 e1 e2
    exact ⟨a0, a1, a2, rfl, wf_r64 k0, wf_r64 k1, wf_r64 k2⟩

theorem dep_cellsR {fuel : Nat} {cs : List Value} {x : DataW H × List MemPlace} (h : DataW.trod enc Try.prog w base spare held fuel 89 cs = some x) : ∃ d : Dp, cs = [.int .i64 d.k, .int .i64 d.c, .int .i64 d.s, .int .i64 d.q] ∧ DpR d := by
  obtain ⟨y0, y1, n, _, hl, h0, h1⟩ := trod_struct2 Try.underlying89 h
  rw [cellsDep] at hl
  match cs, hl with
  | [v0, v1, v2, v3], _ =>
    obtain ⟨a0, e0, _, k0⟩ := DataW.trod_int Try.underlying3 h0
    obtain ⟨c, s, q, e1, k1, k2, k3⟩ := tag_cellsR h1
    simp [cellsInt] at e0
    simp [cellsTag] at e1
    obtain ⟨e1, e2, e3⟩ := e1
    subst e0 e1 e2 e3
    exact ⟨⟨a0, c, s, q⟩, rfl, wf_r64 k0, k1, k2, k3⟩

theorem deps_cellsR {fuel : Nat} {a : Option Addr} {len cap : Nat} {x : DataW H × List MemPlace} (h : DataW.trod enc Try.prog w base spare held fuel 75 [.slice a len cap] = some x) :
    ∃ xs : List Dp, xs.length = len ∧ len ≤ maxLen ∧ IsDeps w a xs ∧ ∀ j, j < xs.length → DpR (xs.getD j dz) := by
  rcases open_slice Try.underlying75 h with ⟨hcs, _⟩ | ⟨a', len', cap', m, n, D, Pl, hcs, _, hl, hm, hmm, _, hel⟩
  · simp at hcs
    obtain ⟨rfl, rfl, rfl⟩ := hcs
    exact ⟨[], rfl, Nat.zero_le _, .inl rfl, fun j hj => by simp at hj⟩
  · simp at hcs
    obtain ⟨rfl, rfl, rfl⟩ := hcs
    have hml : len ≤ m := by rw [hmm]; split <;> omega
    have hd : ∀ i, i < len → ∃ d : Dp, (w.cell? (a'.add (i * 4)) = some (.int .i64 d.k) ∧ w.cell? (a'.add (i * 4 + 1)) = some (.int .i64 d.c) ∧ w.cell? (a'.add (i * 4 + 2)) = some (.int .i64 d.s) ∧ w.cell? (a'.add (i * 4 + 3)) = some (.int .i64 d.q)) ∧ DpR d := by
      intro i hi
      obtain ⟨cs', h1, h2⟩ := hel i (by omega)
      rw [cellsDep] at h1
      obtain ⟨_, _, hc⟩ := World.cells?_some h1
      obtain ⟨d, hdd, hr⟩ := dep_cellsR h2
      rw [hdd] at hc
      have c0 := hc 0 (by omega)
      have c1 := hc 1 (by omega)
      have c2 := hc 2 (by omega)
      have c3 := hc 3 (by omega)
      rw [add_add] at c0 c1 c2 c3
      exact ⟨d, ⟨by simpa using c0, by simpa using c1, by simpa using c2, by simpa using c3⟩, hr⟩
    by_cases h0 : len = 0
    · subst h0
      exact ⟨[], rfl, Nat.zero_le _, .inl rfl, fun j hj => by simp at hj⟩
    have : Inhabited Dp := ⟨dz⟩
    obtain ⟨f, hf⟩ := choose_lt hd
    have ha : a' = ⟨a'.block, a'.off, none⟩ := by
      have h1 := (hf 0 (by omega)).1.1
      simp [Addr.add] at h1
      exact add_form h1
    have hg : ∀ i, i < len → ((List.range len).map f).getD i dz = f i := fun i hi => by simp [List.getD, hi]
    refine ⟨(List.range len).map f, by simp, by omega, .inr ⟨a'.block, a'.off, by rw [← ha], ?_, ?_⟩, fun j hj => ?_⟩
    · obtain ⟨cs', h1, _⟩ := hel 0 (by omega)
      rw [cellsDep] at h1
      have h2 := World.cells?_block h1 (by omega)
      simpa [Addr.add] using h2
    · intro i hi
      have hi' : i < len := by simpa using hi
      rw [hg i hi']
      obtain ⟨h1, h2, h3, h4⟩ := (hf i hi').1
      rw [ha] at h1 h2 h3 h4
      rw [add_plain] at h1 h2 h3 h4
      exact ⟨h1, h2, h3, h4⟩
    · have hj' : j < len := by simpa using hj
      rw [hg j hj']
      exact (hf j hj').2

theorem write_cellsR {fuel : Nat} {cs : List Value} {x : DataW H × List MemPlace} (h : DataW.trod enc Try.prog w base spare held fuel 77 cs = some x) :
    ∃ (y : Wr) (a : Option Addr) (cap : Nat), cs = [.int .i64 y.k, .int .i64 y.c, .int .i64 y.s, .int .i64 y.q, .int .i64 y.v, .bool y.de, .slice a y.xs.length cap] ∧ y.xs.length ≤ maxLen ∧ IsDeps w a y.xs ∧ WrR y := by
  obtain ⟨xs', n, hl0, _, _, hlen, hfd⟩ := DataW.trod_struct Try.underlying77 h
  have hl : cs.length = 7 := by rw [cellsWrite] at *; assumption
  match cs, hl, xs', hlen with
  | [v0, v1, v2, v3, v4, v5, v6], _, [y0, y1, y2, y3, y4], _ =>
    have g0 := hfd 0 _ rfl
    have g1 := hfd 1 _ rfl
    have g2 := hfd 2 _ rfl
    have g3 := hfd 3 _ rfl
    have g4 := hfd 4 _ rfl
    simp [cellsInt, cellsTag, cellsBool, cellsDepS] at g0 g1 g2 g3 g4
    obtain ⟨k, e0, _, k0⟩ := DataW.trod_int Try.underlying3 g0
    obtain ⟨c, s, q, e1, k1, k2, k3⟩ := tag_cellsR g1
    obtain ⟨va, e2, _, k4⟩ := DataW.trod_int Try.underlying3 g2
    obtain ⟨de, e3, _⟩ := DataW.trod_bool Try.underlying4 g3
    obtain ⟨a, len, cap, e4⟩ := slice_cells g4
    simp at e0 e1 e2 e3
    obtain ⟨e1, e1', e1''⟩ := e1
    subst e0 e1 e1' e1'' e2 e3 e4
    obtain ⟨xs, hx1, hx2, hx3, hx4⟩ := deps_cellsR g4
    subst hx1
    exact ⟨⟨k, c, s, q, va, de, xs⟩, a, cap, rfl, hx2, hx3, wf_r64 k0, k1, k2, k3, wf_r64 k4, hx4⟩

theorem ws_cellsR {fuel : Nat} {a : Option Addr} {len cap : Nat} {x : DataW H × List MemPlace} (h : DataW.trod enc Try.prog w base spare held fuel 40 [.slice a len cap] = some x) :
    ∃ ws : List Wr, ws.length = len ∧ len ≤ maxLen ∧ IsWs w a ws ∧ WsR ws := by
  rcases open_slice Try.underlying40 h with ⟨hcs, _⟩ | ⟨a', len', cap', m, n, D, Pl, hcs, _, hl, hm, hmm, _, hel⟩
  · simp at hcs
    obtain ⟨rfl, rfl, rfl⟩ := hcs
    exact ⟨[], rfl, Nat.zero_le _, .inl rfl, fun j hj => by simp at hj⟩
  · simp at hcs
    obtain ⟨rfl, rfl, rfl⟩ := hcs
    have hml : len ≤ m := by rw [hmm]; split <;> omega
    have hd : ∀ i, i < len → ∃ y : Wr, (∃ (ad : Option Addr) (cp : Nat), w.cell? (a'.add (i * 7)) = some (.int .i64 y.k) ∧ w.cell? (a'.add (i * 7 + 1)) = some (.int .i64 y.c) ∧ w.cell? (a'.add (i * 7 + 2)) = some (.int .i64 y.s) ∧ w.cell? (a'.add (i * 7 + 3)) = some (.int .i64 y.q) ∧ w.cell? (a'.add (i * 7 + 4)) = some (.int .i64 y.v) ∧ w.cell? (a'.add (i * 7 + 5)) = some (.bool y.de) ∧ w.cell? (a'.add (i * 7 + 6)) = some (.slice ad y.xs.length cp) ∧ y.xs.length ≤ maxLen ∧ IsDeps w ad y.xs) ∧ WrR y := by
      intro i hi
      obtain ⟨cs', h1, h2⟩ := hel i (by omega)
      rw [cellsWrite] at h1
      obtain ⟨_, _, hc⟩ := World.cells?_some h1
      obtain ⟨y, ad, cp, hdd, hy1, hy2, hr⟩ := write_cellsR h2
      rw [hdd] at hc
      have c0 := hc 0 (by omega)
      have c1 := hc 1 (by omega)
      have c2 := hc 2 (by omega)
      have c3 := hc 3 (by omega)
      have c4 := hc 4 (by omega)
      have c5 := hc 5 (by omega)
      have c6 := hc 6 (by omega)
      rw [add_add] at c0 c1 c2 c3 c4 c5 c6
      exact ⟨y, ⟨ad, cp, by simpa using c0, by simpa using c1, by simpa using c2, by simpa using c3, by simpa using c4, by simpa using c5, by simpa using c6, hy1, hy2⟩, hr⟩
    by_cases h0 : len = 0
    · subst h0
      exact ⟨[], rfl, Nat.zero_le _, .inl rfl, fun j hj => by simp at hj⟩
    have : Inhabited Wr := ⟨wz⟩
    obtain ⟨f, hf⟩ := choose_lt hd
    have ha : a' = ⟨a'.block, a'.off, none⟩ := by
      obtain ⟨⟨_, _, h1, _⟩, _⟩ := hf 0 (by omega)
      simp [Addr.add] at h1
      exact add_form h1
    have hg : ∀ i, i < len → ((List.range len).map f).getD i wz = f i := fun i hi => by simp [List.getD, hi]
    refine ⟨(List.range len).map f, by simp, by omega, .inr ⟨a'.block, a'.off, by rw [← ha], ?_, ?_⟩, fun j hj => ?_⟩
    · obtain ⟨cs', h1, _⟩ := hel 0 (by omega)
      rw [cellsWrite] at h1
      have h2 := World.cells?_block h1 (by omega)
      simpa [Addr.add] using h2
    · intro i hi
      have hi' : i < len := by simpa using hi
      rw [hg i hi']
      obtain ⟨⟨ad, cp, h1, h2, h3, h4, h5, h6, h7, h8, h9⟩, _⟩ := hf i hi'
      rw [ha] at h1 h2 h3 h4 h5 h6 h7
      rw [add_plain] at h1 h2 h3 h4 h5 h6 h7
      exact ⟨ad, cp, ⟨h1, h2, h3, h4, h5, h6, h7⟩, h8, h9⟩
    · have hj' : j < len := by simpa using hj
      rw [hg j hj']
      exact (hf j hj').2

theorem cellsWriteSR : Try.prog.cellsOf 40 = 1 := by kernel_rfl

theorem sliceW_cellsR {fuel : Nat} {v : Value} {x : DataW H × List MemPlace} (h : DataW.trod enc Try.prog w base spare held fuel 40 [v] = some x) : ∃ (a : Option Addr) (len cap : Nat), v = .slice a len cap := by
  rcases open_slice Try.underlying40 h with ⟨hcs, _⟩ | ⟨a', len', cap', m, n, D, Pl, hcs, _⟩
  · simp at hcs
    exact ⟨_, _, _, hcs⟩
  · simp at hcs
    exact ⟨_, _, _, hcs⟩

end
end Go.Proofs.Ytobcefkjoojflaa

namespace Go.Proofs.Ytobcefkjoojflaa
open Go.ChangeShapes Go.WideShapes Go.ChangeAt Go.RowKit Go.Joins Go.Deep
set_option maxRecDepth 100000

section
variable {H : Type} {enc : TypeId × Value → H} {w : World} {base : Nat} {spare : Nat → Bool} {held : Bool}

theorem cellsReply : Try.prog.cellsOf 42 = 2 := by kernel_rfl

theorem reply_cells {fuel : Nat} {cs : List Value} {x : DataW H × List MemPlace} (h : DataW.trod enc Try.prog w base spare held fuel 42 cs = some x) :
    ∃ (y : Rp) (a : Option Addr) (cap : Nat), cs = [.int .i64 y.c, .slice a y.ws.length cap] ∧ y.ws.length ≤ maxLen ∧ IsWs w a y.ws := by
  obtain ⟨xs', n, hl0, _, _, hlen, hfd⟩ := DataW.trod_struct Try.underlying42 h
  have hl : cs.length = 2 := by rw [cellsReply] at *; assumption
  match cs, hl, xs', hlen with
  | [v0, v3], _, [y0, y3], _ =>
    have g0 := hfd 0 _ rfl
    have g3 := hfd 1 _ rfl
    simp [cellsInt, cellsWriteSR] at g0 g3
    obtain ⟨s, e0, _, k0⟩ := DataW.trod_int Try.underlying3 g0
    obtain ⟨a, len, cap, e3⟩ := sliceW_cellsR g3
    simp at e0
    subst e0 e3
    obtain ⟨ws, hx1, hx2, hx3, hx4⟩ := ws_cellsR g3
    subst hx1
    exact ⟨⟨s, ws⟩, a, cap, rfl, hx2, hx3⟩

theorem rs_cells {fuel : Nat} {a : Option Addr} {len cap : Nat} {x : DataW H × List MemPlace} (h : DataW.trod enc Try.prog w base spare held fuel 23 [.slice a len cap] = some x) :
    ∃ es : List Rp, es.length = len ∧ len ≤ maxLen ∧ (∀ i, i < es.length → (es.getD i rpz).ws.length ≤ maxLen) ∧ IsRs w a es := by
  rcases open_slice Try.underlying23 h with ⟨hcs, _⟩ | ⟨a', len', cap', m, n, D, Pl, hcs, _, hl, hm, hmm, _, hel⟩
  · simp at hcs
    obtain ⟨rfl, rfl, rfl⟩ := hcs
    exact ⟨[], rfl, Nat.zero_le _, fun i hi => by simp at hi, .inl rfl⟩
  · simp at hcs
    obtain ⟨rfl, rfl, rfl⟩ := hcs
    have hml : len ≤ m := by rw [hmm]; split <;> omega
    have hd : ∀ i, i < len → ∃ y : Rp, (∃ (ad : Option Addr) (cp : Nat), w.cell? (a'.add (i * 2)) = some (.int .i64 y.c) ∧ w.cell? (a'.add (i * 2 + 1)) = some (.slice ad y.ws.length cp) ∧ IsWs w ad y.ws) ∧ y.ws.length ≤ maxLen := by
      intro i hi
      obtain ⟨cs', h1, h2⟩ := hel i (by omega)
      rw [cellsReply] at h1
      obtain ⟨_, _, hc⟩ := World.cells?_some h1
      obtain ⟨y, ad, cp, hdd, hy1, hy2⟩ := reply_cells h2
      rw [hdd] at hc
      have c0 := hc 0 (by omega)
      have c1 := hc 1 (by omega)
      rw [add_add] at c0 c1
      exact ⟨y, ⟨ad, cp, by simpa using c0, by simpa using c1, hy2⟩, hy1⟩
    by_cases h0 : len = 0
    · subst h0
      exact ⟨[], rfl, Nat.zero_le _, fun i hi => by simp at hi, .inl rfl⟩
    have : Inhabited Rp := ⟨rpz⟩
    obtain ⟨f, hf⟩ := choose_lt hd
    have ha : a' = ⟨a'.block, a'.off, none⟩ := by
      obtain ⟨⟨_, _, h1, _⟩, _⟩ := hf 0 (by omega)
      simp [Addr.add] at h1
      exact add_form h1
    have hg : ∀ i, i < len → ((List.range len).map f).getD i rpz = f i := fun i hi => by simp [List.getD, hi]
    refine ⟨(List.range len).map f, by simp, by omega, fun i hi => ?_, .inr ⟨a'.block, a'.off, by rw [← ha], ?_, ?_⟩⟩
    · have hi' : i < len := by simpa using hi
      rw [hg i hi']
      exact (hf i hi').2
    · obtain ⟨cs', h1, _⟩ := hel 0 (by omega)
      rw [cellsReply] at h1
      have h2 := World.cells?_block h1 (by omega)
      simpa [Addr.add] using h2
    · intro i hi
      have hi' : i < len := by simpa using hi
      rw [hg i hi']
      obtain ⟨⟨ad, cp, h1, h2, h5⟩, _⟩ := hf i hi'
      rw [ha] at h1 h2
      rw [add_plain] at h1 h2
      exact ⟨ad, cp, ⟨h1, h2⟩, h5⟩

theorem open_rs {b0 : Nat} {r : Reach} {v : Value} {d : DataW H} {p : List MemPlace} (hv : Value.okWide Try.prog w r b0 23 v) (h : DataW.Trod enc Try.prog w base (fun _ => true) held 23 v d p) :
    ∃ (a : Option Addr) (len cap : Nat) (es : List Rp), v = .slice a len cap ∧ (es.length = len ∧ len ≤ maxLen ∧ (∀ i, i < es.length → (es.getD i rpz).ws.length ≤ maxLen) ∧ IsRs w a es) := by
  obtain ⟨a, len, cap, rfl⟩ := okWide_slice Try.underlying23 hv
  obtain ⟨fuel, hf⟩ := h
  obtain ⟨es, hx⟩ := rs_cells (by simpa [Value.cells] using hf)
  exact ⟨a, len, cap, es, rfl, hx⟩

theorem cellsAct : Try.prog.cellsOf 53 = 6 := by kernel_rfl

theorem act_cells {fuel : Nat} {cs : List Value} {x : DataW H × List MemPlace} (h : DataW.trod enc Try.prog w base spare held fuel 53 cs = some x) :
    ∃ y : Ac, cs = [.int .i64 y.k, .int .i64 y.a, .int .i64 y.b, .int .i64 y.c, .int .i64 y.d, .int .i64 y.e] := by
  obtain ⟨xs', n, hl0, _, _, hlen, hfd⟩ := DataW.trod_struct Try.underlying53 h
  have hl : cs.length = 6 := by rw [cellsAct] at *; assumption
  match cs, hl, xs', hlen with
  | [v0, v1, v2, v3, v4, v5], _, [y0, y1, y2, y3, y4, y5], _ =>
    have g0 := hfd 0 _ rfl
    have g1 := hfd 1 _ rfl
    have g2 := hfd 2 _ rfl
    have g3 := hfd 3 _ rfl
    have g4 := hfd 4 _ rfl
    have g5 := hfd 5 _ rfl
    simp [cellsInt] at g0 g1 g2 g3 g4 g5
    obtain ⟨z0, e0, _⟩ := DataW.trod_int Try.underlying3 g0
    obtain ⟨z1, e1, _⟩ := DataW.trod_int Try.underlying3 g1
    obtain ⟨z2, e2, _⟩ := DataW.trod_int Try.underlying3 g2
    obtain ⟨z3, e3, _⟩ := DataW.trod_int Try.underlying3 g3
    obtain ⟨z4, e4, _⟩ := DataW.trod_int Try.underlying3 g4
    obtain ⟨z5, e5, _⟩ := DataW.trod_int Try.underlying3 g5
    simp at e0 e1 e2 e3 e4 e5
    subst e0 e1 e2 e3 e4 e5
    exact ⟨⟨z0, z1, z2, z3, z4, z5⟩, rfl⟩

theorem acts_cells {fuel : Nat} {a : Option Addr} {len cap : Nat} {x : DataW H × List MemPlace} (h : DataW.trod enc Try.prog w base spare held fuel 22 [.slice a len cap] = some x) :
    ∃ es : List Ac, es.length = len ∧ len ≤ maxLen ∧ IsAs w a es := by
  rcases open_slice Try.underlying22 h with ⟨hcs, _⟩ | ⟨a', len', cap', m, n, D, Pl, hcs, _, hl, hm, hmm, _, hel⟩
  · simp at hcs
    obtain ⟨rfl, rfl, rfl⟩ := hcs
    exact ⟨[], rfl, Nat.zero_le _, .inl rfl⟩
  · simp at hcs
    obtain ⟨rfl, rfl, rfl⟩ := hcs
    have hml : len ≤ m := by rw [hmm]; split <;> omega
    have hd : ∀ i, i < len → ∃ y : Ac, w.cell? (a'.add (i * 6)) = some (.int .i64 y.k) ∧ w.cell? (a'.add (i * 6 + 1)) = some (.int .i64 y.a) ∧ w.cell? (a'.add (i * 6 + 2)) = some (.int .i64 y.b) ∧ w.cell? (a'.add (i * 6 + 3)) = some (.int .i64 y.c) ∧ w.cell? (a'.add (i * 6 + 4)) = some (.int .i64 y.d) ∧ w.cell? (a'.add (i * 6 + 5)) = some (.int .i64 y.e) := by
      intro i hi
      obtain ⟨cs', h1, h2⟩ := hel i (by omega)
      rw [cellsAct] at h1
      obtain ⟨_, _, hc⟩ := World.cells?_some h1
      obtain ⟨y, hdd⟩ := act_cells h2
      rw [hdd] at hc
      have c0 := hc 0 (by omega)
      have c1 := hc 1 (by omega)
      have c2 := hc 2 (by omega)
      have c3 := hc 3 (by omega)
      have c4 := hc 4 (by omega)
      have c5 := hc 5 (by omega)
      rw [add_add] at c0 c1 c2 c3 c4 c5
      exact ⟨y, by simpa using c0, by simpa using c1, by simpa using c2, by simpa using c3, by simpa using c4, by simpa using c5⟩
    by_cases h0 : len = 0
    · subst h0
      exact ⟨[], rfl, Nat.zero_le _, .inl rfl⟩
    have : Inhabited Ac := ⟨acz⟩
    obtain ⟨f, hf⟩ := choose_lt hd
    have ha : a' = ⟨a'.block, a'.off, none⟩ := by
      have h1 := (hf 0 (by omega)).1
      simp [Addr.add] at h1
      exact add_form h1
    have hg : ∀ i, i < len → ((List.range len).map f).getD i acz = f i := fun i hi => by simp [List.getD, hi]
    refine ⟨(List.range len).map f, by simp, by omega, .inr ⟨a'.block, a'.off, by rw [← ha], ?_, fun i hi => ?_⟩⟩
    · obtain ⟨cs', h1, _⟩ := hel 0 (by omega)
      rw [cellsAct] at h1
      have h2 := World.cells?_block h1 (by omega)
      simpa [Addr.add] using h2
    · have hi' : i < len := by simpa using hi
      rw [hg i hi']
      obtain ⟨h1, h2, h3, h4, h5, h6⟩ := hf i hi'
      rw [ha] at h1 h2 h3 h4 h5 h6
      rw [add_plain] at h1 h2 h3 h4 h5 h6
      exact ⟨h1, h2, h3, h4, h5, h6⟩

theorem open_acts {b0 : Nat} {r : Reach} {v : Value} {d : DataW H} {p : List MemPlace} (hv : Value.okWide Try.prog w r b0 22 v) (h : DataW.Trod enc Try.prog w base (fun _ => true) held 22 v d p) :
    ∃ (a : Option Addr) (len cap : Nat) (es : List Ac), v = .slice a len cap ∧ (es.length = len ∧ len ≤ maxLen ∧ IsAs w a es) := by
  obtain ⟨a, len, cap, rfl⟩ := okWide_slice Try.underlying22 hv
  obtain ⟨fuel, hf⟩ := h
  obtain ⟨es, hx⟩ := acts_cells (by simpa [Value.cells] using hf)
  exact ⟨a, len, cap, es, rfl, hx⟩

end
end Go.Proofs.Ytobcefkjoojflaa
