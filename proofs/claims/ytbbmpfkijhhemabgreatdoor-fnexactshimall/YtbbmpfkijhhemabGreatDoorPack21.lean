import Derived.Test.YtbbmpfkijhhemabGreatDoorPack2
import Derived.Lib.RabinKarpLaws
import Derived.Test.YtbbmpfkijhhemabGreatDoorPack20
import Derived.Test.YtbbmpfkijhhemabGreatDoorPack3
import Derived.Test.YtbbmpfkijhhemabGreatDoorPack13
import Derived.Test.YtbbmpfkijhhemabGreatDoorPack19
import Derived.Test.YtbbmpfkijhhemabGreatDoorPack12
import Derived.Test.YtbbmpfkijhhemabGreatDoorPack8
/- Masks of keys: the contracts of impl's keyMask: has and wants, for every number. -/
namespace Go.Proofs.YtbbmpfkijhhemabGreatDoor
open Go.ChangeShapes Go.WideShapes Go.ChangeAt Go.RowKit Go.Joins
attribute [local go_sem ↓] Go.wp_at_zero Go.wp_at_succ

/-- Is a key's bit set in a mask? None is in one below 0, and none below 0 is. -/
def bitG (mask : Int) (k : Int) : Bool := decide (0 ≤ mask) && (decide (0 ≤ k) && decide (mask / 2 ^ k.toNat % 2 = 1))

theorem bitG_neg {mask k : Int} (h : ¬ 0 ≤ mask) : bitG mask k = false := by
  unfold bitG
  rw [decide_eq_false h, Bool.false_and]

theorem bitG_key {mask k : Int} (h : ¬ 0 ≤ k) : bitG mask k = false := by
  unfold bitG
  rw [decide_eq_false h, Bool.false_and, Bool.and_false]

theorem bitG_pos {mask : Int} {k : Nat} (h : 0 ≤ mask) : bitG mask (k : Int) = decide (mask / 2 ^ k % 2 = 1) := by
  unfold bitG
  rw [decide_eq_true h, decide_eq_true (Int.natCast_nonneg k)]
  rfl

theorem shift_min {mask : Int} {k : Nat} (h0 : 0 ≤ mask) (h1 : mask ≤ 9223372036854775807) : mask / 2 ^ min k 64 = mask / 2 ^ k := by
  by_cases hk : k ≤ 64
  · rw [Nat.min_eq_left hk]
  · rw [Nat.min_eq_right (by omega)]
    have e1 : ((2 ^ k : Nat) : Int) = (2 : Int) ^ k := by push_cast; rfl
    have e2 : 2 ^ 64 ≤ 2 ^ k := Nat.pow_le_pow_right (by omega) (by omega)
    have e3 : (2 : Nat) ^ 64 = 18446744073709551616 := by decide
    rw [← e1, Int.ediv_eq_zero_of_lt h0 (by omega), Int.ediv_eq_zero_of_lt h0 (by rw [e3] at e2; omega)]

set_option maxRecDepth 100000 in
set_option maxHeartbeats 2000000 in
theorem has_any (mask key : Int) (w : World) (h1 : mask ≤ 9223372036854775807) :
    Calls Tryz.prog 37 #[.int .i64 mask, .int .i64 key] w fun e w' => e = .returned (.bool (bitG mask key)) ∧ w' = w := by
  by_cases h0 : 0 ≤ mask
  rotate_left
  · rw [bitG_neg h0]
    have hd : decide (0 ≤ mask) = false := decide_eq_false h0
    go_enter Tryz.func37, Tryz.ntmps37
    go_wp2
    go_ret
    exact ⟨rfl, rfl⟩
  by_cases hk : 0 ≤ key
  rotate_left
  · rw [bitG_key hk]
    have hd : decide (0 ≤ key) = false := decide_eq_false hk
    go_enter Tryz.func37, Tryz.ntmps37
    go_wp2
    go_ret
    exact ⟨rfl, rfl⟩
  obtain ⟨k, rfl⟩ : ∃ k : Nat, key = (k : Int) := ⟨key.toNat, by omega⟩
  have hp : (0 : Int) < 2 ^ k := Int.pow_pos (by omega)
  have hd0 : 0 ≤ mask / 2 ^ k := Int.ediv_nonneg h0 (by omega)
  have hd1 : mask / 2 ^ k ≤ mask := Int.ediv_le_self _ h0
  have hand : bits BinOp.and IntKind.i64 (mask / 2 ^ k) 1 = mask / 2 ^ k % 2 := by
    have := and_one (mask / 2 ^ k).toNat (by omega)
    rw [Int.toNat_of_nonneg hd0] at this
    rw [this]
    omega
  rw [bitG_pos h0]
  have hmn := shift_min (k := k) h0 h1
  generalize mask / 2 ^ k = z at *
  go_enter Tryz.func37, Tryz.ntmps37
  go_wp2
  go_ret
  exact ⟨rfl, rfl⟩

set_option maxRecDepth 100000 in
set_option maxHeartbeats 2000000 in
theorem wants_gen (mask : Int) (x : Wr) (a : Option Addr) (cp : Nat) (w : World) (h1 : mask ≤ 9223372036854775807) :
    Calls Tryz.prog 20 #[.int .i64 mask, wrOf x a cp] w fun e w' => e = .returned (.bool (bitG mask x.k)) ∧ Below w.heap.size w w' := by
  obtain ⟨xk, xc, xs', xq, xv, xd, xx⟩ := x
  simp only
  have HB : Hid (Below w.heap.size w (w.alloc (.cells #[.int .i64 xk, .int .i64 xc, .int .i64 xs', .int .i64 xq, .int .i64 xv, .bool xd, .slice a xx.length cp] 43))) := (Below.refl _ _).alloc (Nat.le_refl _) _
  unfold wrOf
  go_enter Tryz.func20, Tryz.ntmps20
  go_wp2_with fail
  refine (has_any mask xk _ h1).mono ?_
  rintro e w1 ⟨rfl, rfl⟩
  go_wp2
  go_ret
  exact ⟨rfl, HB.out⟩

end Go.Proofs.YtbbmpfkijhhemabGreatDoor

/- The program's causes: contracts of wants, add, told and of impl.Because. -/
namespace Go.Proofs.YtbbmpfkijhhemabGreatDoor
open Go.ChangeShapes Go.WideShapes Go.ChangeAt Go.RowKit Go.Joins
attribute [local go_sem ↓] Go.wp_at_zero Go.wp_at_succ

theorem bitG_bitB {mask k : Int} (h0 : 0 ≤ mask) (hk : 0 ≤ k) : bitG mask k = bitB mask k := by
  unfold bitG bitB
  rw [decide_eq_true h0, decide_eq_true hk]
  rfl

theorem wants_any (mask : Int) (x : Wr) (a : Option Addr) (cp : Nat) (w : World) (h0 : 0 ≤ mask) (h1 : mask ≤ 9223372036854775807) (hk : 0 ≤ x.k ∧ x.k ≤ 5) :
    Calls Tryz.prog 20 #[.int .i64 mask, wrOf x a cp] w fun e w' => e = .returned (.bool (bitB mask x.k)) ∧ Below w.heap.size w w' := by
  rw [← bitG_bitB h0 hk.1]
  exact wants_gen mask x a cp w h1

/-- One number of a tag. -/
def tgN (t : Tg) : Nat → Int
  | 0 => t.c
  | 1 => t.s
  | _ => t.q

def fillT (ts : List Tg) (j : Nat) : Value := .int .i64 (tgN (ts.getD (j / 3) tgz) (j % 3))

theorem fillT_0 (ts : List Tg) (k : Nat) : fillT ts (k * 3) = .int .i64 (ts.getD k tgz).c := by
  unfold fillT
  have h1 : k * 3 / 3 = k := by omega
  have h2 : k * 3 % 3 = 0 := by omega
  rw [h1, h2]
  rfl

theorem fillT_1 (ts : List Tg) (k : Nat) : fillT ts (k * 3 + 1) = .int .i64 (ts.getD k tgz).s := by
  unfold fillT
  have h1 : (k * 3 + 1) / 3 = k := by omega
  have h2 : (k * 3 + 1) % 3 = 1 := by omega
  rw [h1, h2]
  rfl

theorem fillT_2 (ts : List Tg) (k : Nat) : fillT ts (k * 3 + 2) = .int .i64 (ts.getD k tgz).q := by
  unfold fillT
  have h1 : (k * 3 + 2) / 3 = k := by omega
  have h2 : (k * 3 + 2) % 3 = 2 := by omega
  rw [h1, h2]
  rfl

/-- A tag stored as a whole. -/
def putT (w : World) (b o : Nat) (c s q : Int) : World := ((w.setCell ⟨b, o, none⟩ (.int .i64 c)).setCell ⟨b, o + 1, none⟩ (.int .i64 s)).setCell ⟨b, o + 2, none⟩ (.int .i64 q)

theorem hole_putT {B : Nat} {w w' : World} (h : Hole B w w') (o : Nat) (c s q : Int) : Hole B w (putT w' B o c s q) := ((h.set o _).set (o + 1) _).set (o + 2) _

theorem row_putT {w : World} {b t : Nat} {ts : List Tg} (h : w.rowIs b t 18 (fillT ts)) (hl : ts.length = 6) {k : Nat} (hk : k < 6) (c s q : Int) : (putT w b (k * 3) c s q).rowIs b t 18 (fillT (ts.set k ⟨c, s, q⟩)) := by
  refine (((h.set (k * 3) _).set (k * 3 + 1) _).set (k * 3 + 2) _).congr fun j hj => ?_
  by_cases e : j / 3 = k
  · have hg : (ts.set k ⟨c, s, q⟩).getD (j / 3) tgz = ⟨c, s, q⟩ := by
      rw [e]
      simp [List.getD, hl, hk]
    unfold fillT
    rw [hg]
    have h3 : j % 3 = 0 ∨ j % 3 = 1 ∨ j % 3 = 2 := by omega
    rcases h3 with h3 | h3 | h3
    · rw [if_neg (by omega), if_neg (by omega), if_pos (by omega), h3]
      rfl
    · rw [if_neg (by omega), if_pos (by omega), h3]
      rfl
    · rw [if_pos (by omega), h3]
      rfl
  · rw [if_neg (by omega), if_neg (by omega), if_neg (by omega)]
    unfold fillT
    have hg : (ts.set k ⟨c, s, q⟩).getD (j / 3) tgz = ts.getD (j / 3) tgz := by
      simp [List.getD, Ne.symm e]
    rw [hg]

theorem hole_grown {b : Nat} {w w' : World} (h : Hole b w w') : w.grownBy w' (some b) := ⟨h.os, h.tape, h.output, h.size, fun k hk hn => h.block k hk (fun e => hn (by rw [e]))⟩

theorem row_below {w w' : World} {b t n : Nat} {f : Nat → Value} (h : w.rowIs b t n f) (hb : Below w.heap.size w w') : w'.rowIs b t n f := h.of_block (hb.block b h.lt)

theorem putC_take (xs : List Dp) (ts : List Tg) (k : Nat) (h : k < xs.length) : (xs.take (k + 1)).foldl putC ts = putC ((xs.take k).foldl putC ts) (xs.getD k dz) := by
  have e : xs.take (k + 1) = xs.take k ++ [xs.getD k dz] := by
    rw [List.take_add_one, List.getElem?_eq_getElem h]
    simp [List.getD, h]
  rw [e, List.foldl_append]
  rfl

theorem putF_len : ∀ (xs : List Dp) (ts : List Tg), (xs.foldl putC ts).length = ts.length
  | [], _ => rfl
  | d :: r, ts => by
    have := putF_len r (putC ts d)
    rw [putC_len] at this
    exact this

/-- The cells of six tags. -/
def IsTgs (cs : Array Value) (ts : List Tg) : Prop := cs.size = 18 ∧ ts.length = 6 ∧ ∀ j, j < 18 → cs[j]? = some (fillT ts j)

theorem tgs_of_row {w : World} {b t : Nat} {ts : List Tg} (h : w.rowIs b t 18 (fillT ts)) (hl : ts.length = 6) : ∃ cs, w.heap[b]? = some (.cells cs t (0, 0)) ∧ IsTgs cs ts := by
  obtain ⟨c, h1, h2, h3⟩ := h
  exact ⟨c, h1, h2, hl, h3⟩

theorem tellAt_app : ∀ (us vs : List Tg) (i : Nat), tellAt i (us ++ vs) = tellAt i us ++ tellAt (i + us.length) vs
  | [], vs, i => by simp [tellAt]
  | t :: r, vs, i => by
    have := tellAt_app r vs (i + 1)
    simp only [List.cons_append, tellAt, List.length_cons, List.append_assoc]
    rw [this, show i + 1 + r.length = i + (r.length + 1) by omega]

theorem tell_take (ts : List Tg) (k : Nat) (h : k < ts.length) : tellC (ts.take (k + 1)) = tellC (ts.take k) ++ (if isZ (ts.getD k tgz) = true then [] else [⟨(k : Int), (ts.getD k tgz).c, (ts.getD k tgz).s, (ts.getD k tgz).q⟩]) := by
  have e : ts.take (k + 1) = ts.take k ++ [ts.getD k tgz] := by
    rw [List.take_add_one, List.getElem?_eq_getElem h]
    simp [List.getD, h]
  unfold tellC
  rw [e, tellAt_app]
  have hl : 0 + (ts.take k).length = k := by simp; omega
  rw [hl]
  simp only [tellAt, List.append_nil]

theorem tell_len (ts : List Tg) : (tellC ts).length ≤ ts.length := by
  have : ∀ (ts : List Tg) (i : Nat), (tellAt i ts).length ≤ ts.length := by
    intro ts
    induction ts with
    | nil => intro i; simp [tellAt]
    | cons t r ih =>
      intro i
      have := ih (i + 1)
      unfold tellAt
      split <;> simp <;> omega
  exact this ts 0

set_option maxRecDepth 100000 in
theorem tag_eql (d : Nat) (yc ys yq : Int) (w : World) (h : isZ ⟨yc, ys, yq⟩ = false) : (Op.equalIn (d + 2) 40 (.agg #[.int .i64 yc, .int .i64 ys, .int .i64 yq]) (.agg #[.int .i64 0, .int .i64 0, .int .i64 0])).run Tryz.prog w = .ok false w := by
  simp [isZ] at h
  go_simp
  by_cases h1 : yc = 0
  · by_cases h2 : ys = 0
    · simp [h1, h2, h h1 h2]
    · simp [h1, h2]
  · simp [h1]

theorem cauL_take (ws : List Wr) (mask : Int) (k : Nat) (h : k < ws.length) : cauL (ws.take (k + 1)) mask = cauRun mask (cauL (ws.take k) mask) (ws.getD k wz) := by
  unfold cauL
  have e : ws.take (k + 1) = ws.take k ++ [ws.getD k wz] := by
    rw [List.take_add_one, List.getElem?_eq_getElem h]
    simp [List.getD, h]
  rw [e, List.foldl_append]
  rfl

theorem cauRun_len (mask : Int) (ts : List Tg) (x : Wr) : (cauRun mask ts x).length = ts.length := by
  unfold cauRun
  split
  · rw [putF_len, putC_len]
  · rfl

theorem cauF_len (mask : Int) : ∀ (ws : List Wr) (ts : List Tg), (ws.foldl (cauRun mask) ts).length = ts.length
  | [], _ => rfl
  | x :: r, ts => by
    have := cauF_len mask r (cauRun mask ts x)
    rw [cauRun_len] at this
    exact this

theorem holds_one (w : World) (d : Dp) (ty : Nat) : HoldsDeps (w.alloc (.cells #[.int .i64 d.k, .int .i64 d.c, .int .i64 d.s, .int .i64 d.q] ty)) w.heap.size 0 [d] := fun i hi => by
  have e : i = 0 := by simp at hi; omega
  subst e
  have h := DBox.start w d ty
  exact ⟨h.c0, h.c1, h.c2, h.c3⟩

end Go.Proofs.YtbbmpfkijhhemabGreatDoor

/- Two cuts, joined, are a cut: with no program in sight. -/
namespace Go.Proofs.YtbbmpfkijhhemabGreatDoor
open Go.ChangeShapes Go.WideShapes Go.ChangeAt Go.RowKit Go.Joins

theorem has_join_left : ∀ (vs : List Wr) {us : List Wr}, Rise us → ∀ {key c s q : Int}, hasB us key c s q = true → hasB (joinW us vs) key c s q = true
  | [], _, _, _, _, _, _, h => h
  | x :: r, _, hr, key, c, s, q, h => has_join_left r (rise_putW hr x) ((has_put hr x key c s q).2 (.inl h))

theorem has_join_mem : ∀ (vs : List Wr) {us : List Wr}, Rise us → ∀ {y : Wr}, y ∈ vs → ∀ {c s q : Int}, 0 ≤ tcmp y.c y.s y.q c s q → hasB (joinW us vs) y.k c s q = true
  | [], _, _, _, hy, _, _, _, _ => by simp at hy
  | x :: r, _, hr, y, hy, c, s, q, h => by
    rcases List.mem_cons.1 hy with rfl | hy
    · exact has_join_left r (rise_putW hr y) ((has_put hr y y.k c s q).2 (.inr ⟨rfl, h⟩))
    · exact has_join_mem r (rise_putW hr x) hy h

theorem has_mem {us : List Wr} {key c s q : Int} (h : hasB us key c s q = true) : ∃ u ∈ us, u.k = key ∧ 0 ≤ tcmp u.c u.s u.q c s q := by
  unfold hasB at h
  cases hf : findW us key with
  | none => rw [hf] at h; cases h
  | some u =>
    rw [hf] at h
    exact ⟨u, findW_mem hf, findW_key hf, by simpa using h⟩

theorem has_join_right {us vs : List Wr} (hr : Rise us) {key c s q : Int} (h : hasB vs key c s q = true) : hasB (joinW us vs) key c s q = true := by
  obtain ⟨u, hu, hk, ht⟩ := has_mem h
  rw [← hk]
  exact has_join_mem vs hr hu ht

theorem cut_parts {ws : List Wr} (h : cutB ws = true) : mapOkB ws = true ∧ ∀ x ∈ ws, covB ws x.xs = true := by
  unfold cutB at h
  rw [Bool.and_eq_true] at h
  exact ⟨h.1, fun x hx => List.all_eq_true.1 h.2 x hx⟩

theorem cut_of {ws : List Wr} (h : mapOkB ws = true) (h' : ∀ x ∈ ws, covB ws x.xs = true) : cutB ws = true := by
  unfold cutB
  rw [h, Bool.true_and, List.all_eq_true]
  exact h'

theorem cut_join {us vs : List Wr} (hu : cutB us = true) (hv : cutB vs = true) : cutB (joinB us vs) = true := by
  obtain ⟨hu1, hu2⟩ := cut_parts hu
  obtain ⟨hv1, hv2⟩ := cut_parts hv
  refine cut_of (joinB_mapOk us vs) fun x hx => ?_
  have hr := ((mapOk_iff us).1 hu1).2
  have e : joinB us vs = joinW us vs := by
    unfold joinB
    rw [if_pos ⟨hu1, hv1⟩]
  rw [e] at hx ⊢
  rw [cov_iff]
  intro d hd
  obtain ⟨-, h2, -⟩ := join_spec vs us hr
  rcases h2 x hx with h | h
  · exact has_join_left vs hr ((cov_iff _ _).1 (hu2 x h) d hd)
  · exact has_join_right hr ((cov_iff _ _).1 (hv2 x h) d hd)

end Go.Proofs.YtbbmpfkijhhemabGreatDoor

/- What is asked of a site: the contracts of spec.ShimAll, impl.chosen, impl.ShimAll. -/
namespace Go.Proofs.YtbbmpfkijhhemabGreatDoor
open Go.ChangeShapes Go.WideShapes Go.ChangeAt Go.RowKit Go.Joins
attribute [local go_sem ↓] Go.wp_at_zero Go.wp_at_succ

theorem filter_take {P : Wr → Bool} {ws : List Wr} {k : Nat} (h : k < ws.length) : (ws.take (k + 1)).filter P = (ws.take k).filter P ++ (if P (ws.getD k wz) = true then [ws.getD k wz] else []) := by
  have e : ws.take (k + 1) = ws.take k ++ [ws.getD k wz] := by
    rw [List.take_add_one, List.getElem?_eq_getElem h]
    simp [List.getD, h]
  rw [e, List.filter_append]
  generalize ws.getD k wz = x
  cases hp : P x <;> simp [List.filter, hp]

theorem ok_map {x : Sm} (h : smOkB x = true) : mapOkB x.ws = true := by
  unfold smOkB at h
  simp only [Bool.and_eq_true] at h
  exact (cut_parts h.1.1.1.1.1.1.1.2).1

/-- What is asked of a site. -/
noncomputable def allX (x : Sm) (mask : Int) : List Wr := if smOkB x = true ∧ 0 ≤ mask then x.ws.filter (fun y => bitB mask y.k) else []

set_option maxRecDepth 100000 in
set_option maxHeartbeats 8000000 in
theorem specAll_x (x : Sm) (a : Option Addr) (cap : Nat) (mask : Int) (w : World) (hn : x.ws.length ≤ 1048576) (hx : Few x.ws) (ht : x.t.size ≤ 1048576) (h : IsWs w a x.ws) (hM : mask ≤ 9223372036854775807) :
    Calls Tryz.prog 5 #[smV x a cap, .int .i64 mask] w fun e w' => ∃ a' cp, e = .returned (.slice a' (allX x mask).length cp) ∧ IsWs w' a' (allX x mask) ∧ Below w.heap.size w w' := by
  obtain ⟨si, cl, sq, la, ws, t⟩ := x
  simp only at hn hx ht h
  have H := Lib.hid h
  have HX := Lib.hid hx
  clear h hx
  have HSP : Hid (∀ W a cap, IsWs W a ws → Calls Tryz.prog 14 #[shV si cl sq la a ws.length cap t] W fun e w' => e = .returned (.bool (smOkB ⟨si, cl, sq, la, ws, t⟩)) ∧ Below W.heap.size W w') := fun W a cap hw => specOk_x ⟨si, cl, sq, la, ws, t⟩ a cap W hn HX.out ht hw
  have HOKM : Hid (smOkB ⟨si, cl, sq, la, ws, t⟩ = true → mapOkB ws = true) := fun h => ok_map h
  obtain ⟨R, hR⟩ : ∃ R, R = allX ⟨si, cl, sq, la, ws, t⟩ mask := ⟨_, rfl⟩
  rw [← hR]
  unfold allX at hR
  simp only at hR
  obtain ⟨rr, hrr⟩ : ∃ rr, rr = smOkB ⟨si, cl, sq, la, ws, t⟩ := ⟨_, rfl⟩
  rw [← hrr] at HSP HOKM hR
  have HR := Lib.hid hR
  clear hR hrr
  unfold smV
  simp only
  obtain ⟨n, hnn⟩ : ∃ n, ws.length = n := ⟨_, rfl⟩
  rw [hnn] at hn HSP
  rw [hnn]
  have HN := Lib.hid hnn
  clear hnn
  obtain ⟨i0, hi0, hx0⟩ := Option.map_eq_some_iff.1 infoWr
  simp only [Prod.mk.injEq] at hx0
  have HI0 := Lib.hid hi0
  have HX0 := Lib.hid hx0
  clear hi0 hx0
  have HB0 : Hid (Below w.heap.size w (w.alloc (.cells #[.int .i64 si, .int .i64 cl, .int .i64 sq, .int .i64 la, .slice a n cap, .string t] 29))) := (Below.refl _ _).alloc (Nat.le_refl _) _
  have HS0 := Lib.hid (SBox.start w si cl sq la a n cap t 29)
  have hz0 : (w.alloc (.cells #[.int .i64 si, .int .i64 cl, .int .i64 sq, .int .i64 la, .slice a n cap, .string t] 29)).heap.size = w.heap.size + 1 := by simp
  obtain ⟨W0, hW0⟩ : ∃ W0, w.alloc (.cells #[.int .i64 si, .int .i64 cl, .int .i64 sq, .int .i64 la, .slice a n cap, .string t] 29) = W0 := ⟨_, rfl⟩
  rw [hW0] at HB0 HS0 hz0
  have HR0 : Hid (RowEs (W0.alloc (.cells #[] 43)) W0.heap.size (w.heap.size + 1) 0 []) := by have := rowEs_start W0 W0.heap.size (Nat.le_refl _); rw [hz0] at this ⊢; exact this
  have HT0 : Hid (Below W0.heap.size W0 (W0.alloc (.cells #[] 43))) := (Below.refl _ _).alloc (Nat.le_refl _) _
  have HI := Lib.hid (H.out.below HB0.out)
  unfold shV
  obtain ⟨-, x0, x1, x2, x3, x4, x5, -⟩ := HS0.out.below HT0.out
  go_enter Tryz.func5, Tryz.ntmps5
  go_wp2_with fail
  generalize (W0.alloc (.cells #[] 43)) = V0 at *
  clear hW0 x0 x1 x2 x3 x4 x5
  refine (HSP.out _ a cap (HI.out.below HT0.out)).mono ?_
  rintro e w1 ⟨rfl, hb⟩
  have HT1 := Lib.hid (below_step HT0.out HT0.out.size hb)
  have HR1 := Lib.hid (HR0.out.below hb)
  have HBT : Hid (∀ w', Below W0.heap.size W0 w' → Below w.heap.size w w') := fun w' h => HB0.out.trans (h.mono (by omega))
  clear hb HT0 HR0
  by_cases hok : rr = true
  rotate_left
  · have hrf : rr = false := by simpa using hok
    have HE : Hid (R = []) := by rw [HR.out, if_neg (by simp [hrf])]; exact Lib.hid rfl
    subst hrf
    clear hok
    go_wp2
    go_ret
    exact ⟨some ⟨w.heap.size + 1, 0, none⟩, 0, by rw [HE.out]; rfl, by rw [HE.out]; exact .inl rfl, HBT.out _ HT1.out⟩
  by_cases hm0 : mask < 0
  · have HE : Hid (R = []) := by rw [HR.out, if_neg (by omega)]; exact Lib.hid rfl
    subst hok
    go_wp2
    go_ret
    exact ⟨some ⟨w.heap.size + 1, 0, none⟩, 0, by rw [HE.out]; rfl, by rw [HE.out]; exact .inl rfl, HBT.out _ HT1.out⟩
  have hm0' : 0 ≤ mask := by omega
  have HE : Hid (R = ws.filter (fun y => bitB mask y.k)) := by rw [HR.out, if_pos ⟨hok, hm0'⟩]; exact Lib.hid rfl
  have HOW : Hid (∀ x ∈ ws, okW x = true) := ((mapOk_iff ws).1 (HOKM.out hok)).1
  have hn6 : n ≤ 6 := by rw [← HN.out]; exact mapOk_len (HOKM.out hok)
  subst hok
  clear HR HOKM HSP
  go_wp2
  go_loopw [5, 6] (fun t' i wr => ∃ (k L g cp : Nat) (es : List En), k ≤ n ∧ L ≤ k ∧ i = .int .i64 k ∧ t' = .slice (some ⟨g, 0, none⟩) L cp ∧ Hid (es.length = L) ∧ Hid (es.map (·.x) = (ws.take k).filter (fun y => bitB mask y.k)) ∧ Hid (RowEs wr W0.heap.size g cp es) ∧ Hid (Below W0.heap.size W0 wr)) (fun _ i _ => n - (intOf i).toNat)
  case atStart => exact ⟨0, 0, _, 0, [], Nat.zero_le _, Nat.le_refl _, rfl, rfl, rfl, rfl, HR1, HT1⟩
  case round =>
    clear HR1 HT1
    obtain ⟨k, L, g, cp, es, hk, hLk, rfl, rfl, HL, HM, HR, HT⟩ := hrel
    obtain ⟨-, x0, x1, x2, x3, x4, x5, -⟩ := HS0.out.below HT.out
    by_cases hk' : k < n
    · have hkw : k < ws.length := by rw [HN.out]; exact hk'
      have i1 : (0 : Int) ≤ (k : Int) := by omega
      have i2 : (k : Int) < (n : Int) := by omega
      obtain ⟨b, o, ad, cq, rfl, hz, ⟨e0, e1, e2, e3, e4, e5, e6⟩, hde⟩ := HI.out.at HT.out HN.out hk'
      have HFT := Lib.hid (filter_take (P := fun y => bitB mask y.k) hkw)
      have hok1 := HOW.out (ws.getD k wz) (by simp [List.getD, hkw])
      have hkey := okW_key hok1
      have hxl := okW_len hok1
      have HD := Lib.hid hde
      clear hok1 hde
      generalize ws.getD k wz = x at *
      obtain ⟨xk, xc, xs', xq, xv, xd, xx⟩ := x
      simp only at e0 e1 e2 e3 e4 e5 e6 HFT hkey hxl HD
      obtain ⟨kk, rfl⟩ : ∃ kk : Nat, xk = (kk : Int) := ⟨xk.toNat, by omega⟩
      go_wp2_with fail
      refine (bit7_any mask kk _ hm0' hM (by omega)).mono ?_
      rintro e w2 ⟨rfl, hw⟩
      subst w2
      cases hbit : bitB mask (kk : Int)
      · rw [hbit, if_neg (by simp), List.append_nil] at HFT
        have HM2 : Hid (es.map (·.x) = (ws.take (k + 1)).filter (fun y => bitB mask y.k)) := by rw [HFT.out]; exact HM
        clear hbit
        go_wp2
        exact ⟨⟨k + 1, L, g, cp, es, by omega, by omega, by go_num, rfl, HL, HM2, HR, HT⟩, by simp [intOf]; omega⟩
      rw [hbit, if_pos rfl] at HFT
      clear hbit
      go_wp2_with fail
      refine (copy_any ⟨(kk : Int), xc, xs', xq, xv, xd, xx⟩ _ _ _ (by simp only; omega) HD.out).mono ?_
      rintro e w2 ⟨g2, cp2, rfl, hg1, hg2, hg3, hb⟩
      have HT2 := Lib.hid (below_step HT.out HT.out.size hb)
      have HR2 := Lib.hid (HR.out.below hb)
      have HG : Hid (HoldsDeps w2 g2 0 xx) := hg3
      have hg5 : g2 ≠ g := by have := HR.out.lt; omega
      have hg6 : W0.heap.size ≤ g2 := Nat.le_trans HT.out.size hg1
      clear hb hg3 hg1 HD x0 x1 x2 x3 x4 x5 e0 e1 e2 e3 e4 e5 e6
      have HW : Hid (RowEs (w2.alloc (.cells #[.int .i64 (kk : Int), .int .i64 xc, .int .i64 xs', .int .i64 xq, .int .i64 xv, .bool xd, .slice (some ⟨g2, 0, none⟩) xx.length cp2] 43)) W0.heap.size g cp es) := HR2.out.below ((Below.refl _ _).alloc (Nat.le_refl _) _)
      have HOW2 : Hid ((w2.alloc (.cells #[.int .i64 (kk : Int), .int .i64 xc, .int .i64 xs', .int .i64 xq, .int .i64 xv, .bool xd, .slice (some ⟨g2, 0, none⟩) xx.length cp2] 43)).ownsRow W0.heap.size 43 7 (.slice (some ⟨g, 0, none⟩) L cp) L (es.flatMap wrVals)) := by
        have := HW.out.own
        rw [HL.out] at this
        exact this
      have hsz : W0.heap.size ≤ w2.heap.size := HT2.out.size
      go_wp2_with (at_builtin; refine wpList_append_lies _ (by rfl) _ _ _ (by rfl) W0.heap.size 43 i0 (wrV 0 0 0 0 0 false none 0 0) 7 72 Tryz.underlying26 HI0.out HX0.out.1 HX0.out.2.1 HX0.out.2.2 (by rfl) (by omega) (.slice (some ⟨g, 0, none⟩) L cp) L (es.flatMap wrVals) (by rfl) HOW2.out ⟨w2.heap.size, 0, none⟩ 1 1 (wrVals ⟨⟨(kk : Int), xc, xs', xq, xv, xd, xx⟩, g2, cp2⟩) (by rfl) (by rfl) (one_cells w2 _ ⟨⟨(kk : Int), xc, xs', xq, xv, xd, xx⟩, g2, cp2⟩) (by simpa using vals_one [⟨⟨(kk : Int), xc, xs', xq, xv, xd, xx⟩, g2, cp2⟩]) (by omega) (by unfold maxLen; omega) (by omega) (by simp; omega) _ rfl ?_; intro g3 cp3 w5 hown hgrow hg3 _; refine Hid.out ?_)
      refine Lib.hid ?_
      have HT5 : Hid (Below W0.heap.size W0 w5) := (HT2.out.alloc hsz _).grown hgrow (by simp; omega) fun j hj => by simp only [Value.ownBlock, Option.some.injEq] at hj; have := HR2.out.le; omega
      have HR5 : Hid (RowEs w5 W0.heap.size g3 cp3 (es ++ [⟨⟨(kk : Int), xc, xs', xq, xv, xd, xx⟩, g2, cp2⟩])) := by
        refine HW.out.more ⟨hg6, by simp; omega, hg5, HG.out.below ((Below.refl w2.heap.size w2).alloc (Nat.le_refl _) _) hg2⟩ (by rw [HL.out]; exact hown) hgrow hg3
      have HM5 : Hid ((es ++ [(⟨⟨(kk : Int), xc, xs', xq, xv, xd, xx⟩, g2, cp2⟩ : En)]).map (·.x) = (ws.take (k + 1)).filter (fun y => bitB mask y.k)) := by
        rw [HFT.out, List.map_append, HM.out]
        exact Lib.hid rfl
      have HL5 : Hid ((es ++ [(⟨⟨(kk : Int), xc, xs', xq, xv, xd, xx⟩, g2, cp2⟩ : En)]).length = L + 1) := by
        rw [List.length_append, HL.out]
        exact Lib.hid rfl
      clear hown hgrow HW HOW2
      go_wp2
      exact ⟨⟨k + 1, L + 1, g3, cp3, _, by omega, by omega, by go_num, rfl, HL5, HM5, HR5, HT5⟩, by simp [intOf]; omega⟩
    · have hkk : k = n := by omega
      subst hkk
      have HMF : Hid (es.map (·.x) = R) := by
        rw [HE.out]
        have h := HM.out
        rw [List.take_of_length_le (by rw [HN.out]; exact Nat.le_refl _)] at h
        exact h
      have HFR : Hid (Few R) := fun i hi => by
        have hm : R.getD i wz ∈ R := by simp [List.getD, hi]
        have h1 : R.getD i wz ∈ ws := by
          have h2 := HE.out
          rw [h2] at hm ⊢
          exact (List.mem_filter.1 hm).1
        have := okW_len (HOW.out _ h1)
        omega
      have HLF : Hid (R.length = L) := by rw [← HMF.out, List.length_map]; exact HL
      go_wp2
      go_ret
      exact ⟨some ⟨g, 0, none⟩, cp, by rw [HLF.out]; rfl, HR.out.isWs HMF.out HFR.out, HBT.out _ HT.out⟩

end Go.Proofs.YtbbmpfkijhhemabGreatDoor

/- What is asked of a site, the program's side: the contracts of impl.chosen and impl.ShimAll. -/
namespace Go.Proofs.YtbbmpfkijhhemabGreatDoor
open Go.ChangeShapes Go.WideShapes Go.ChangeAt Go.RowKit Go.Joins
attribute [local go_sem ↓] Go.wp_at_zero Go.wp_at_succ

set_option maxRecDepth 100000 in
theorem call_enter {f : FuncId} {fn : Func} (hf : Tryz.prog.funcs[f]? = some fn) (h1 : (fn.name == "runtime.NumGoroutine") = false) (h2 : fn.body.isNone = false) (args : Array Value) (w : World) : (callFunc f args).run Tryz.prog w = .ok (.enter f args) w := by
  have h1' : ¬ fn.name = "runtime.NumGoroutine" := by simpa using h1
  have h2' : ¬ fn.body = none := by
    intro e
    rw [e] at h2
    simp at h2
  simp [go_sem, callFunc, hf]
  rw [if_neg h1', if_neg h2']

set_option maxRecDepth 100000 in
set_option maxHeartbeats 8000000 in
/-- A list of writes, chosen by a function value that is bound to one value. -/
theorem chosen_any (fid : FuncId) (v0 : Value) (P : Wr → Bool) (a : Option Addr) (n cap : Nat) (ws : List Wr) (w : World) (hn : ws.length = n) (hm : n ≤ 1000000) (hx : Few ws) (hh : IsWs w a ws)
    (hcf : ∀ (args : Array Value) (w : World), (callFunc fid args).run Tryz.prog w = .ok (.enter fid args) w) (hc : ∀ W, Below w.heap.size w W → ∀ x ∈ ws, ∀ ad cp, IsDeps W ad x.xs → Calls Tryz.prog fid #[v0, wrOf x ad cp] W fun e w' => e = .returned (.bool (P x)) ∧ Below W.heap.size W w') :
    Calls Tryz.prog 19 #[.slice a n cap, .func (.func fid) #[v0] #[]] w fun e w' => ∃ v es, e = .returned v ∧ es.map (·.x) = ws.filter P ∧ RowG w' w.heap.size v es ∧ Below w.heap.size w w' := by
  have HH := Lib.hid hh
  have HN := Lib.hid hn
  have HX := Lib.hid hx
  have HC := Lib.hid hc
  clear hh hn hx hc
  obtain ⟨i0, hi0, hx0⟩ := Option.map_eq_some_iff.1 infoWr
  simp only [Prod.mk.injEq] at hx0
  have HI0 := Lib.hid hi0
  have HX0 := Lib.hid hx0
  clear hi0 hx0
  go_enter Tryz.func19, Tryz.ntmps19
  go_wp2
  go_loopw [5, 10] (fun t i wr => ∃ (k : Nat) (v : Value) (es : List EnG), k ≤ n ∧ es.length ≤ k ∧ i = .int .i64 k ∧ v = t ∧ Hid (es.map (·.x) = (ws.take k).filter P) ∧ Hid (RowG wr w.heap.size v es) ∧ Hid (Below w.heap.size w wr)) (fun _ i _ => n - (intOf i).toNat)
  case atStart => exact ⟨0, _, [], Nat.zero_le _, Nat.le_refl _, rfl, rfl, rfl, rowG_nil _ _, Below.refl _ _⟩
  case round =>
    obtain ⟨k, v, es, hk, hek, rfl, rfl, HE, HR, HB⟩ := hrel
    by_cases hk' : k < n
    · have hkw : k < ws.length := by rw [HN.out]; exact hk'
      have i1 : (0 : Int) ≤ (k : Int) := by omega
      have i2 : (k : Int) < (n : Int) := by omega
      obtain ⟨b, o, ad, cq, rfl, hz, ⟨e0, e1, e2, e3, e4, e5, e6⟩, hde⟩ := HH.out.at HB.out HN.out hk'
      have HFT := Lib.hid (filter_take (P := P) hkw)
      have hxl := HX.out k hkw
      have HCX : Hid (∀ W, Below w.heap.size w W → ∀ ad cp, IsDeps W ad (ws.getD k wz).xs → Calls Tryz.prog fid #[v0, wrOf (ws.getD k wz) ad cp] W fun e w' => e = .returned (.bool (P (ws.getD k wz))) ∧ Below W.heap.size W w') := fun W hW => HC.out W hW _ (by simp [List.getD, hkw])
      have HD := Lib.hid hde
      clear hde
      generalize ws.getD k wz = x at *
      obtain ⟨pv, hpv⟩ : ∃ pv, pv = P x := ⟨_, rfl⟩
      rw [← hpv] at HFT HCX
      clear hpv
      obtain ⟨yk, yc, ys, yq, yv, yd, yy⟩ := x
      simp only at e0 e1 e2 e3 e4 e5 e6 hxl HD HCX
      have HBA : Hid (Below wr.heap.size wr (wr.alloc (.cells #[.int .i64 yk, .int .i64 yc, .int .i64 ys, .int .i64 yq, .int .i64 yv, .bool yd, .slice ad yy.length cq] 43))) := (Below.refl _ _).alloc (Nat.le_refl _) _
      have HXX : Hid (WrAt (wr.alloc (.cells #[.int .i64 yk, .int .i64 yc, .int .i64 ys, .int .i64 yq, .int .i64 yv, .bool yd, .slice ad yy.length cq] 43)) wr.heap.size 0 ⟨yk, yc, ys, yq, yv, yd, yy⟩ ad cq) := by
        have h := heap_alloc_new wr (.cells #[.int .i64 yk, .int .i64 yc, .int .i64 ys, .int .i64 yq, .int .i64 yv, .bool yd, .slice ad yy.length cq] 43)
        refine ⟨?_, ?_, ?_, ?_, ?_, ?_, ?_⟩ <;> (rw [cell_of_row _ _ _ _ _ (0, 0) h]; rfl)
      have hxs : wr.heap.size < (wr.alloc (.cells #[.int .i64 yk, .int .i64 yc, .int .i64 ys, .int .i64 yq, .int .i64 yv, .bool yd, .slice ad yy.length cq] 43)).heap.size := by simp
      have HB1 := Lib.hid (below_step HB.out HB.out.size HBA.out)
      have HD1 := Lib.hid (HD.out.below HBA.out)
      go_wp2_with fail
      refine (HCX.out _ HB1.out ad cq HD1.out).mono ?_
      rintro e w1 ⟨rfl, hb⟩
      have HB2 := Lib.hid (below_step HB1.out HB1.out.size hb)
      have HX1 : Hid (WrAt w1 wr.heap.size 0 ⟨yk, yc, ys, yq, yv, yd, yy⟩ ad cq) := HXX.out.of_block (hb.block _ hxs)
      have HD2 := Lib.hid (HD1.out.below hb)
      have HA2 : Hid (Below wr.heap.size wr w1) := below_step HBA.out HBA.out.size hb
      have HR1 := Lib.hid (HR.out.below HA2.out)
      have hzz : wr.heap.size < w1.heap.size := Nat.lt_of_lt_of_le hxs hb.size
      clear hb HXX HD1 HB1 HBA hxs e0 e1 e2 e3 e4 e5 e6
      cases pv
      · rw [if_neg (by simp), List.append_nil] at HFT
        have HE2 : Hid (es.map (·.x) = (ws.take (k + 1)).filter P) := by rw [HFT.out]; exact HE
        go_wp2
        exact ⟨⟨k + 1, v, es, by omega, by omega, by go_num, rfl, HE2, HR1, HB2⟩, by simp [intOf]; omega⟩
      rw [if_pos rfl] at HFT
      obtain ⟨c0, c1, c2, c3, c4, c5, c6⟩ := HX1.out
      simp only [Nat.zero_add] at c0 c1 c2 c3 c4 c5 c6
      go_wp2_with fail
      refine (icopy_any ⟨yk, yc, ys, yq, yv, yd, yy⟩ ad cq _ hxl HD2.out).mono ?_
      rintro e w2 ⟨a2, g2, cp2, rfl, hg, hb⟩
      have HB3 : Hid (Below w.heap.size w w2) := below_step HB2.out HB2.out.size hb
      have HG : Hid (FreshDeps wr.heap.size w2 a2 g2 yy) := hg.mono (Nat.le_of_lt hzz)
      have HR2 : Hid (RowG w2 w.heap.size v es) := HR1.out.below hb
      have hwr : w.heap.size ≤ wr.heap.size := HB.out.size
      have HAP : Hid (∀ d ∈ es, 0 < d.x.xs.length → 0 < yy.length → d.g ≠ g2) := fun d hd hp hq => by
        have h1 := ((HR.out.deps d hd).1 hp).2.2.1
        have h2 := (HG.out hq).2.1
        omega
      have HV : Hid (0 < yy.length → v.ownBlock ≠ some g2) := fun hq e => by
        have h1 := (HR.out.own.lt g2 e).2
        have h2 := (HG.out hq).2.1
        omega
      clear hb hg c0 c1 c2 c3 c4 c5 c6
      have HBC : Hid (Below w2.heap.size w2 (w2.alloc (.cells #[.int .i64 yk, .int .i64 yc, .int .i64 ys, .int .i64 yq, .int .i64 yv, .bool yd, .slice a2 yy.length cp2] 43))) := (Below.refl _ _).alloc (Nat.le_refl _) _
      have HRC := Lib.hid (HR2.out.below HBC.out)
      have hsz : w.heap.size ≤ w2.heap.size := HB3.out.size
      go_wp2_with (at_builtin; refine wpList_append_lies _ (by rfl) _ _ _ (by rfl) w.heap.size 43 i0 (wrV 0 0 0 0 0 false none 0 0) 7 72 Tryz.underlying26 HI0.out HX0.out.1 HX0.out.2.1 HX0.out.2.2 (by rfl) (by omega) v es.length (es.flatMap wrValsG) (by rfl) HRC.out.own ⟨w2.heap.size, 0, none⟩ 1 1 (wrValsG ⟨⟨yk, yc, ys, yq, yv, yd, yy⟩, a2, g2, cp2⟩) (by rfl) (by rfl) (oneG_cells w2 _ ⟨⟨yk, yc, ys, yq, yv, yd, yy⟩, a2, g2, cp2⟩) (by simpa using valsG_one [⟨⟨yk, yc, ys, yq, yv, yd, yy⟩, a2, g2, cp2⟩]) (by omega) (by unfold maxLen; omega) (by omega) (by simp; omega) _ rfl ?_; intro g3 cp3 w5 hown hgrow hg3 _; refine Hid.out ?_)
      refine Lib.hid ?_
      have HB5 : Hid (Below w.heap.size w w5) := (HB3.out.alloc hsz _).grown hgrow (by simp; omega) fun j hj => (HR2.out.own.lt j hj).1
      have HR5 : Hid (RowG w5 w.heap.size (.slice (some ⟨g3, 0, none⟩) (es.length + 1) cp3) (es ++ [⟨⟨yk, yc, ys, yq, yv, yd, yy⟩, a2, g2, cp2⟩])) :=
        HRC.out.more ((HG.out.below HBC.out).mono hwr) HV.out HAP.out hown hgrow hg3
      have HE5 : Hid ((es ++ [(⟨⟨yk, yc, ys, yq, yv, yd, yy⟩, a2, g2, cp2⟩ : EnG)]).map (·.x) = (ws.take (k + 1)).filter P) := by
        rw [HFT.out, List.map_append, HE.out]
        exact Lib.hid rfl
      have hl5 : (es ++ [(⟨⟨yk, yc, ys, yq, yv, yd, yy⟩, a2, g2, cp2⟩ : EnG)]).length ≤ k + 1 := by simp; omega
      clear hown hgrow HRC HBC
      go_wp2
      exact ⟨⟨k + 1, _, _, by omega, hl5, by go_num, rfl, HE5, HR5, HB5⟩, by simp [intOf]; omega⟩
    · have hkk : k = n := by omega
      subst hkk
      have HF : Hid (es.map (·.x) = ws.filter P) := by
        have h := HE.out
        rw [List.take_of_length_le (by rw [HN.out]; exact Nat.le_refl _)] at h
        exact h
      go_wp2
      go_ret
      exact ⟨_, es, rfl, HF.out, HR.out, HB.out⟩

set_option maxRecDepth 100000 in
set_option maxHeartbeats 8000000 in
theorem implAll_x (x : Sm) (a : Option Addr) (cap : Nat) (mask : Int) (w : World) (hn : x.ws.length ≤ 1048576) (hx : Few x.ws) (ht : x.t.size ≤ 1048576) (h : IsWs w a x.ws) (hM : mask ≤ 9223372036854775807) (hL : LV w) :
    Calls Tryz.prog 7 #[smV x a cap, .int .i64 mask] w fun e w' => ∃ a' cp γ, e = .returned (.slice a' (allX x mask).length cp) ∧ OwnA w' w.heap.size w'.heap.size a' (allX x mask) γ ∧ Below w.heap.size w w' := by
  obtain ⟨si, cl, sq, la, ws, t⟩ := x
  simp only at hn hx ht h
  have H := Lib.hid h
  have HX := Lib.hid hx
  have HL := Lib.hid hL
  clear h hx hL
  have HIM : Hid (∀ W a cap, LV W → IsWs W a ws → Calls Tryz.prog 18 #[shV si cl sq la a ws.length cap t] W fun e w' => e = .returned (.bool (smOkB ⟨si, cl, sq, la, ws, t⟩)) ∧ Below W.heap.size W w') := fun W a cap hv hw => implOk_x ⟨si, cl, sq, la, ws, t⟩ a cap W hn HX.out ht hw hv
  have HOKM : Hid (smOkB ⟨si, cl, sq, la, ws, t⟩ = true → mapOkB ws = true) := fun h => ok_map h
  obtain ⟨R, hR⟩ : ∃ R, R = allX ⟨si, cl, sq, la, ws, t⟩ mask := ⟨_, rfl⟩
  rw [← hR]
  unfold allX at hR
  simp only at hR
  obtain ⟨rr, hrr⟩ : ∃ rr, rr = smOkB ⟨si, cl, sq, la, ws, t⟩ := ⟨_, rfl⟩
  rw [← hrr] at HIM HOKM hR
  have HR := Lib.hid hR
  clear hR hrr
  unfold smV
  simp only
  obtain ⟨n, hnn⟩ : ∃ n, ws.length = n := ⟨_, rfl⟩
  rw [hnn] at hn HIM
  rw [hnn]
  have HN := Lib.hid hnn
  clear hnn
  have HB0 : Hid (Below w.heap.size w (w.alloc (.cells #[.int .i64 si, .int .i64 cl, .int .i64 sq, .int .i64 la, .slice a n cap, .string t] 29))) := (Below.refl _ _).alloc (Nat.le_refl _) _
  have HS0 := Lib.hid (SBox.start w si cl sq la a n cap t 29)
  have hmf : ∀ (fn : Fn) (first cap : Array Value) (w : World), (Instr.makeFunc fn first cap).run Tryz.prog w = .ok (.func fn first cap) w := fun _ _ _ _ => rfl
  unfold shV
  go_enter Tryz.func7, Tryz.ntmps7
  by_cases hm0 : mask < 0
  · have HE : Hid (R = []) := by rw [HR.out, if_neg (by omega)]; exact Lib.hid rfl
    go_wp2
    go_ret
    exact ⟨none, 0, fun _ => 0, by rw [HE.out]; rfl, by rw [HE.out]; exact .inl rfl, HB0.out⟩
  have hm0' : 0 ≤ mask := by omega
  go_wp2_with fail
  generalize w.alloc (.cells #[.int .i64 si, .int .i64 cl, .int .i64 sq, .int .i64 la, .slice a n cap, .string t] 29) = W0 at *
  have HLV := Lib.hid (HL.out.below HB0.out)
  refine (HIM.out _ a cap HLV.out (H.out.below HB0.out)).mono ?_
  rintro e w1 ⟨rfl, hb⟩
  have HB1 := Lib.hid (below_step HB0.out HB0.out.size hb)
  have HS1 := Lib.hid (HS0.out.below hb)
  clear hb HB0 HS0 HLV
  by_cases hok : rr = true
  rotate_left
  · have hrf : rr = false := by simpa using hok
    have HE : Hid (R = []) := by rw [HR.out, if_neg (by simp [hrf])]; exact Lib.hid rfl
    subst hrf
    clear hok
    go_wp2
    go_ret
    exact ⟨none, 0, fun _ => 0, by rw [HE.out]; rfl, by rw [HE.out]; exact .inl rfl, HB1.out⟩
  have HE : Hid (R = ws.filter (fun y => bitB mask y.k)) := by rw [HR.out, if_pos ⟨hok, hm0'⟩]; exact Lib.hid rfl
  have HOW : Hid (∀ x ∈ ws, okW x = true) := ((mapOk_iff ws).1 (HOKM.out hok)).1
  have hn6 : n ≤ 6 := by rw [← HN.out]; exact mapOk_len (HOKM.out hok)
  subst hok
  clear HR HOKM HIM
  obtain ⟨-, x0, x1, x2, x3, x4, x5, -⟩ := HS1.out
  go_wp2_with fail
  have hcf : ∀ (args : Array Value) (w : World), (callFunc 20 args).run Tryz.prog w = .ok (.enter 20 args) w := call_enter Tryz.func20 (by kernel_rfl) (by kernel_rfl)
  refine (chosen_any 20 (.int .i64 mask) (fun y => bitB mask y.k) a n cap ws _ HN.out (by omega) HX.out (H.out.below HB1.out) hcf (fun W _ x hx ad cp _ => wants_any mask x ad cp W hm0' hM (okW_key (HOW.out x hx)))).mono ?_
  rintro e w2 ⟨v, es, rfl, hes, hrow, hb⟩
  have HB2 := Lib.hid (below_step HB1.out HB1.out.size hb)
  obtain ⟨ga, gc, L, rfl, hl, hg⟩ := hrow.ownA (hes.trans HE.out.symm)
  have HG := Lib.hid (hg.wider HB1.out.size (Nat.le_refl _))
  have HLL := Lib.hid hl
  clear hb hrow hes hg hl
  go_wp2
  go_ret
  exact ⟨ga, gc, gammaG es, by rw [HLL.out]; rfl, HG.out, HB2.out⟩

end Go.Proofs.YtbbmpfkijhhemabGreatDoor
