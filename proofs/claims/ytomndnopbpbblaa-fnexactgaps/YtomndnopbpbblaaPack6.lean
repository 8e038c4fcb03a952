import Derived.Test.YtomndnopbpbblaaPack5
import Derived.Test.YtomndnopbpbblaaPack4
import Derived.Test.YtomndnopbpbblaaPack3
import Derived.Test.YtomndnopbpbblaaPack1
import Derived.Test.YtomndnopbpbblaaPack2
import Derived.Deep.AppendLies
import Derived.Laws.CopyRow
import Derived.Laws.NewBlocks
import Derived.OwnWalk
import Derived.Lib.Overlaps
import Derived.Lib.AppendZerosOnto
import Derived.Laws.Externs
import Derived.Lib.AppendZeros
import Derived.Deep.DeepAppendWide
/- An append inside a region that draws its order; what its operations may turn. -/
namespace Go.Proofs.Ytomndnopbpbblaa
open Go.ChangeShapes Go.WideShapes Go.ChangeAt Go.RowKit Go.Joins

theorem add_block (g j : Nat) : ((⟨g, 0, none⟩ : Addr).add j) = ⟨g, j, none⟩ := by
  unfold Addr.add
  split
  · rename_i h
    rw [h]
  · simp

theorem got_append {P : Program} {K : Value → World → Prop} {o : Oper} {ρ : Operand → Value} {w : World} (s x : Operand) (t : TypeId)
    (ho : o.op = .call { callee := .builtin .append, args := #[s, x], argTypes := #[t, t] })
    (base : Nat) (e : TypeId) (i : TypeInfo) (z : Value) (size bytes : Nat) (ht : P.underlying t = some (.slice e)) (hi : P.info? e = some i) (hz : i.zero = some z)
    (hsize : i.size = size) (hby : i.bytes = bytes) (hzs : z.cells.size = size) (hsz : 0 < size)
    (v : Value) (n : Nat) (xs : List Value) (hs : ρ s = v) (hown : w.ownsRow base e size v n xs)
    (ad : Addr) (m c : Nat) (news : List Value) (hx : ρ x = .slice (some ad) m c) (hl : news.length = m * size) (hnews : ∀ j u, news[j]? = some u → w.cell? (ad.add j) = some u) (h1 : ∀ u ∈ news, u.oneCell' = true)
    (hm : 0 < m) (h63 : n + m ≤ maxLen) (hbytes : (n + m) * bytes ≤ 140737488355328) (hbase : base ≤ w.heap.size) (H : Nat) (hH : w.heap.size = H)
    (h : ∀ g cap w', w'.ownsRow base e size (.slice (some ⟨g, 0, none⟩) (n + m) cap) (n + m) (xs ++ news) → w.grownBy w' v.ownBlock → (v.ownBlock = some g ∨ g = H) → g < w'.heap.size → K (.slice (some ⟨g, 0, none⟩) (n + m) cap) w') : got P K ((execOp ρ o).run P w) := by
  obtain ⟨g, cap, w', hr, h2, h3, h4, h5⟩ := run_append_lies (P := P) w t o.type base e i z size bytes ht hi hz hsize hby hzs hsz v n xs hown ad m c news hl hnews h1 hm h63 hbytes hbase H hH
  unfold execOp
  simp only [ho, resolve, invoke, builtin, Sem.run_bind, Sem.run_pure, Result.andThen_ok, List.map_toArray, List.map_cons, List.map_nil, hs, hx, hr]
  exact h g cap w' h2 h3 h4 h5

/-- What an operation may turn: the append, which fills slot s, the block of its row; all others nothing that was there. -/
def AppS (s : Tmp) (ob : Option Nat) : ReachU := fun d w w' => if d = some s then w.grownBy w' ob else Below w.heap.size w w'

theorem appS_below {s : Tmp} {ob : Option Nat} {d : Option Tmp} {w w' : World} (hd : d ≠ some s) (h : AppS s ob d w w') : Below w.heap.size w w' := by
  unfold AppS at h
  rw [if_neg hd] at h
  exact h

theorem appS_refl {s : Tmp} {ob : Option Nat} {d : Option Tmp} (hd : d ≠ some s) (w : World) : AppS s ob d w w := by
  unfold AppS
  rw [if_neg hd]
  exact Below.refl _ _

theorem appS_alloc {s : Tmp} {ob : Option Nat} {d : Option Tmp} (hd : d ≠ some s) (w : World) (o : Obj) : AppS s ob d w (w.alloc o) := by
  unfold AppS
  rw [if_neg hd]
  exact (Below.refl _ _).alloc (Nat.le_refl _) _

theorem appS_grown {s : Tmp} {ob : Option Nat} {w w' : World} (h : w.grownBy w' ob) : AppS s ob (some s) w w' := by
  unfold AppS
  rw [if_pos rfl]
  exact h

theorem grown_of_below {w w' : World} (h : Below w.heap.size w w') (ob : Option Nat) : w.grownBy w' ob := ⟨h.os, h.tape, h.output, h.size, fun k hk _ => h.block k hk⟩

theorem appS_any {s : Tmp} {ob : Option Nat} {d : Option Tmp} {w w' : World} (h : AppS s ob d w w') : w.grownBy w' ob := by
  by_cases hd : d = some s
  · unfold AppS at h
    rw [if_pos hd] at h
    exact h
  · exact grown_of_below (appS_below hd h) ob

theorem grown_trans {w w' w2 : World} {ob : Option Nat} (h : w.grownBy w' ob) (h' : w'.grownBy w2 ob) : w.grownBy w2 ob :=
  ⟨h'.os.trans h.os, h'.tape.trans h.tape, h'.output.trans h.output, Nat.le_trans h.size h'.size, fun k hk hn => (h'.block k (Nat.lt_of_lt_of_le hk h.size) hn).trans (h.block k hk hn)⟩

theorem grown_set (w : World) (b o : Nat) (v : Value) : w.grownBy (w.setCell ⟨b, o, none⟩ v) (some b) := by
  refine ⟨rfl, rfl, rfl, by simp, fun k hk hne => ?_⟩
  have : b ≠ k := fun e => hne (by rw [e])
  simp [World.setCell, Array.getElem?_modify, this]

end Go.Proofs.Ytomndnopbpbblaa

/- Contracts of the registers' put and putAll. -/
namespace Go.Proofs.Ytomndnopbpbblaa
open Go.ChangeShapes Go.WideShapes Go.ChangeAt Go.RowKit Go.Joins
attribute [local go_sem ↓] Go.wp_at_zero Go.wp_at_succ

set_option maxRecDepth 100000 in
theorem regPut_none {M : Int → Option Wr} {x : Wr} (h : M x.k = none) : regPut M x = fun j => if j = x.k then some x else M j := by
  funext j
  unfold regPut
  rw [h]
  rfl

set_option maxRecDepth 100000 in
theorem regPut_later {M : Int → Option Wr} {x y : Wr} (h : M x.k = some y) (hc : 0 < cmpW x y) : regPut M x = fun j => if j = x.k then some x else M j := by
  funext j
  unfold regPut
  rw [h]
  have : cmpW y x < 0 := by
    have := wcmp_neg x.k x.c x.s x.q x.v x.de x.xs y.k y.c y.s y.q y.v y.de y.xs
    unfold cmpW at *
    omega
  simp [laterO, this]

set_option maxRecDepth 100000 in
theorem regPut_same {M : Int → Option Wr} {x y : Wr} (h : M x.k = some y) (hc : ¬ 0 < cmpW x y) : regPut M x = M := by
  funext j
  unfold regPut
  have : ¬ cmpW y x < 0 := by
    have := wcmp_neg x.k x.c x.s x.q x.v x.de x.xs y.k y.c y.s y.q y.v y.de y.xs
    unfold cmpW at *
    omega
  by_cases e : j = x.k
  · rw [if_pos e, h, e, h]
    simp [laterO, this]
  · rw [if_neg e]

set_option maxRecDepth 100000 in
theorem foldl_take {α : Type} (f : α → Wr → α) (ws : List Wr) (s : α) (k : Nat) (h : k < ws.length) : (ws.take (k + 1)).foldl f s = f ((ws.take k).foldl f s) (ws.getD k wz) := by
  have e : ws.take (k + 1) = ws.take k ++ [ws.getD k wz] := by
    rw [List.take_add_one, List.getElem?_eq_getElem h]
    simp [List.getD, h]
  rw [e, List.foldl_append]
  rfl

end Go.Proofs.Ytomndnopbpbblaa

/- The contract of the registers' told. -/
namespace Go.Proofs.Ytomndnopbpbblaa
open Go.ChangeShapes Go.WideShapes Go.ChangeAt Go.RowKit Go.Joins
attribute [local go_sem ↓] Go.wp_at_zero Go.wp_at_succ

def toldTo (M : Int → Option Wr) (k : Nat) : List Wr := (List.range k).filterMap fun (j : Nat) => M (j : Int)

set_option maxRecDepth 100000 in
theorem toldTo_none {M : Int → Option Wr} {k : Nat} (h : M (k : Int) = none) : toldTo M (k + 1) = toldTo M k := by
  unfold toldTo
  rw [List.range_succ, List.filterMap_append]
  simp [h]

set_option maxRecDepth 100000 in
theorem toldTo_some {M : Int → Option Wr} {k : Nat} {x : Wr} (h : M (k : Int) = some x) : toldTo M (k + 1) = toldTo M k ++ [x] := by
  unfold toldTo
  rw [List.range_succ, List.filterMap_append]
  simp [h]

set_option maxRecDepth 100000 in
theorem toldTo_six (M : Int → Option Wr) : toldTo M 6 = toldM M := by
  rfl

set_option maxRecDepth 100000 in
theorem toldTo_len (M : Int → Option Wr) (k : Nat) : (toldTo M k).length ≤ k := by
  unfold toldTo
  have := List.length_filterMap_le (fun j : Nat => M (j : Int)) (List.range k)
  simpa using this

end Go.Proofs.Ytomndnopbpbblaa

/- Contracts of the specification's l02Join, MapJoin, MapPut. -/
namespace Go.Proofs.Ytomndnopbpbblaa
open Go.ChangeShapes Go.WideShapes Go.ChangeAt Go.RowKit Go.Joins
attribute [local go_sem ↓] Go.wp_at_zero Go.wp_at_succ

theorem join_few : ∀ (vs us : List Wr), Few us → Few vs → Few (joinW us vs)
  | [], us, h, _ => h
  | x :: r, us, h, h' => by
    rw [few_iff] at h'
    exact join_few r (putW us x) (put_few h (h' x (by simp))) (few_iff.2 fun z hz => h' z (by simp [hz]))

theorem few_take {ws : List Wr} (h : Few ws) (k : Nat) : Few (ws.take k) := by
  rw [few_iff] at *
  exact fun x hx => h x (List.mem_of_mem_take hx)

end Go.Proofs.Ytomndnopbpbblaa

/- Contracts of impl.MapJoin and impl.MapPut. -/
namespace Go.Proofs.Ytomndnopbpbblaa
open Go.ChangeShapes Go.WideShapes Go.ChangeAt Go.RowKit Go.Joins
attribute [local go_sem ↓] Go.wp_at_zero Go.wp_at_succ

def joinB (us vs : List Wr) : List Wr := if mapOkB us = true ∧ mapOkB vs = true then joinW us vs else []

set_option maxRecDepth 100000 in
theorem joinB_not {us vs : List Wr} (h : mapOkB us = false ∨ mapOkB vs = false) : joinB us vs = [] := by
  unfold joinB
  refine if_neg fun h' => ?_
  rcases h with h | h
  · rw [h'.1] at h; cases h
  · rw [h'.2] at h; cases h

set_option maxRecDepth 100000 in
theorem mapOk_keys {ws : List Wr} (h : mapOkB ws = true) : ∀ x ∈ ws, 0 ≤ x.k ∧ x.k ≤ 5 := fun x hx => okW_key (((mapOk_iff ws).1 h).1 x hx)

set_option maxRecDepth 100000 in
theorem mapOk_keys' {ws : List Wr} (h : mapOkB ws = true) : ∀ i, i < ws.length → 0 ≤ (ws.getD i wz).k ∧ (ws.getD i wz).k ≤ 5 := fun i hi => mapOk_keys h _ (by simp [List.getD, hi])

set_option maxRecDepth 100000 in
theorem joinB_told {us vs : List Wr} (ha : mapOkB us = true) (hb : mapOkB vs = true) : toldM (vs.foldl regPut (us.foldl regPut (fun _ => none))) = joinB us vs := by
  unfold joinB
  rw [if_pos ⟨ha, hb⟩]
  exact told_join ((mapOk_iff us).1 ha).2 (mapOk_keys ha) (mapOk_keys hb)

set_option maxRecDepth 100000 in
theorem mapOk_one (x : Wr) : mapOkB [x] = okW x := by
  simp [mapOkB, wrGood, List.range, List.range.loop]

set_option maxRecDepth 100000 in
theorem joinB_one (ws : List Wr) (x : Wr) : joinB ws [x] = if mapOkB ws = true ∧ okW x = true then putW ws x else [] := by
  unfold joinB
  rw [mapOk_one]
  rfl

end Go.Proofs.Ytomndnopbpbblaa

/- Contracts of the specification's MapJoin and MapPut. -/
namespace Go.Proofs.Ytomndnopbpbblaa
open Go.ChangeShapes Go.WideShapes Go.ChangeAt Go.RowKit Go.Joins
attribute [local go_sem ↓] Go.wp_at_zero Go.wp_at_succ

/-- What the specification answers: a list of writes of its own. -/
def AnsS (w w' : World) (e : Ending) (ws : List Wr) : Prop := ∃ g cp es L, e = .returned (.slice (some ⟨g, 0, none⟩) L cp) ∧ es.length = L ∧ es.map (·.x) = ws ∧ RowEs w' w.heap.size g cp es ∧ Below w.heap.size w w'

end Go.Proofs.Ytomndnopbpbblaa

/- How much a join is. -/
namespace Go.Proofs.Ytomndnopbpbblaa
open Go.ChangeShapes Go.WideShapes Go.ChangeAt Go.RowKit Go.Joins

theorem joinB_ok (us vs : List Wr) : ∀ x ∈ joinB us vs, okW x = true := by
  intro x hx
  unfold joinB at hx
  split at hx
  · rename_i h
    obtain ⟨_, h2, _⟩ := join_spec vs us ((mapOk_iff us).1 h.1).2
    rcases h2 x hx with h3 | h3
    · exact ((mapOk_iff us).1 h.1).1 x h3
    · exact ((mapOk_iff vs).1 h.2).1 x h3
  · simp at hx

theorem joinB_rise (us vs : List Wr) : Rise (joinB us vs) := by
  unfold joinB
  split
  · rename_i h
    exact (join_spec vs us ((mapOk_iff us).1 h.1).2).1
  · exact List.Pairwise.nil

theorem joinB_mapOk (us vs : List Wr) : mapOkB (joinB us vs) = true := (mapOk_iff _).2 ⟨joinB_ok us vs, joinB_rise us vs⟩

theorem mapOk_len {ws : List Wr} (h : mapOkB ws = true) : ws.length ≤ 6 := by
  have e := told_find ((mapOk_iff ws).1 h).2 (mapOk_keys h)
  rw [← e, ← toldTo_six]
  exact toldTo_len _ 6

theorem mapOk_bulk {ws : List Wr} (h : mapOkB ws = true) : bulk ws ≤ 36 := by
  have h1 := bulk_le (m := 6) fun x hx => okW_len (((mapOk_iff ws).1 h).1 x hx)
  have h2 := mapOk_len h
  omega

theorem joinB_bulk (us vs : List Wr) : bulk (joinB us vs) ≤ 36 := mapOk_bulk (joinB_mapOk us vs)

theorem joinB_len (us vs : List Wr) : (joinB us vs).length ≤ 6 := mapOk_len (joinB_mapOk us vs)

theorem joinB_few (us vs : List Wr) : Few (joinB us vs) := few_of_bulk (by have := joinB_bulk us vs; omega)

/-- The specification's answer, as a list. -/
theorem RowEs.isWs {w : World} {base g cap : Nat} {es : List En} (h : RowEs w base g cap es) {ws : List Wr} (hw : es.map (·.x) = ws) (hx : Few ws) : IsWs w (some ⟨g, 0, none⟩) ws := (h.holds hw).isWs hx

end Go.Proofs.Ytomndnopbpbblaa

/- Contracts of Within of both sides. -/
namespace Go.Proofs.Ytomndnopbpbblaa
open Go.ChangeShapes Go.WideShapes Go.ChangeAt Go.RowKit Go.Joins
attribute [local go_sem ↓] Go.wp_at_zero Go.wp_at_succ

/-- Two lists of writes are the same. -/
def sameB (us vs : List Wr) : Bool := decide (us.length = vs.length) && (List.range us.length).all fun i => decide (cmpW (us.getD i wz) (vs.getD i wz) = 0)

theorem same_len {us vs : List Wr} (h : us.length ≠ vs.length) : sameB us vs = false := by
  unfold sameB
  rw [decide_eq_false h, Bool.false_and]

theorem same_false {us vs : List Wr} {i : Nat} (hi : i < us.length) (h : cmpW (us.getD i wz) (vs.getD i wz) ≠ 0) : sameB us vs = false := by
  unfold sameB
  rw [Bool.and_eq_false_iff]
  refine .inr ?_
  rw [List.all_eq_false]
  exact ⟨i, List.mem_range.2 hi, by simpa using h⟩

theorem same_true {us vs : List Wr} (hl : us.length = vs.length) (h : ∀ i, i < us.length → cmpW (us.getD i wz) (vs.getD i wz) = 0) : sameB us vs = true := by
  unfold sameB
  rw [decide_eq_true hl, Bool.true_and, List.all_eq_true]
  intro i hi
  exact decide_eq_true (h i (List.mem_range.1 hi))

def withinB (us vs : List Wr) : Bool := mapOkB us && (mapOkB vs && sameB (joinB us vs) vs)

end Go.Proofs.Ytomndnopbpbblaa

/- Maps joined: whichever comes first, the same comes; within is an order. No program in sight. -/
namespace Go.Proofs.Ytomndnopbpbblaa

theorem dcmp_zero {d e : Dp} (h : dcmp d e = 0) : d = e := by
  obtain ⟨k, c, s, q⟩ := d
  obtain ⟨k', c', s', q'⟩ := e
  unfold dcmp at h
  simp only at h
  by_cases hk : k = k'
  · rw [if_neg (by simp [hk])] at h
    obtain ⟨rfl, rfl, rfl⟩ := tcmp_zero.1 h
    rw [hk]
  · rw [if_pos hk] at h
    exact absurd (sgn_zero.1 h) hk

theorem depsCmp_zero : ∀ {xs ys : List Dp}, depsCmp xs ys = 0 → xs = ys
  | [], [], _ => rfl
  | [], _ :: _, h => by simp [depsCmp] at h
  | _ :: _, [], h => by simp [depsCmp] at h
  | d :: r, e :: t, h => by
    unfold depsCmp at h
    by_cases hd : dcmp d e = 0
    · rw [if_neg (by simp [hd])] at h
      rw [dcmp_zero hd, depsCmp_zero h]
    · rw [if_pos hd] at h
      exact absurd h hd

theorem cmpW_zero {x y : Wr} (h : cmpW x y = 0) : x = y := by
  obtain ⟨k, c, s, q, v, de, xs⟩ := x
  obtain ⟨k', c', s', q', v', de', ys⟩ := y
  unfold cmpW wcmp at h
  simp only at h
  by_cases h1 : tcmp c s q c' s' q' = 0
  · rw [if_neg (by simp [h1])] at h
    obtain ⟨rfl, rfl, rfl⟩ := tcmp_zero.1 h1
    by_cases h2 : k = k'
    · subst h2
      rw [if_neg (by simp)] at h
      by_cases h3 : v = v'
      · subst h3
        rw [if_neg (by simp)] at h
        by_cases h4 : de = de'
        · subst h4
          rw [if_neg (by simp)] at h
          rw [depsCmp_zero h]
        · rw [if_pos h4] at h
          exact absurd (sgn_zero.1 h) (by cases de <;> cases de' <;> simp [bit] at h4 ⊢)
      · rw [if_pos h3] at h
        exact absurd (sgn_zero.1 h) h3
    · rw [if_pos h2] at h
      exact absurd (sgn_zero.1 h) h2
  · rw [if_pos h1] at h
    exact absurd h h1

theorem cmpW_self (x : Wr) : cmpW x x = 0 := by
  have h := wcmp_neg x.k x.c x.s x.q x.v x.de x.xs x.k x.c x.s x.q x.v x.de x.xs
  unfold cmpW
  omega

theorem same_iff (us vs : List Wr) : sameB us vs = true ↔ us = vs := by
  constructor
  · intro h
    unfold sameB at h
    rw [Bool.and_eq_true, decide_eq_true_eq, List.all_eq_true] at h
    refine List.ext_getElem h.1 fun i h1 h2 => ?_
    have h3 := h.2 i (List.mem_range.2 h1)
    have e1 : us.getD i wz = us[i] := by simp [List.getD, h1]
    have e2 : vs.getD i wz = vs[i] := by simp [List.getD, h2]
    rw [decide_eq_true_eq, e1, e2] at h3
    exact cmpW_zero h3
  · rintro rfl
    exact same_true rfl fun i _ => cmpW_self _

/-- The later of two registers. -/
def later2 (a b : Option Wr) : Option Wr := match b with
  | none => a
  | some y => some (laterO a y)

theorem fold_find : ∀ (b : List Wr) (M : Int → Option Wr), Rise b → ∀ key, b.foldl regPut M key = later2 (M key) (findW b key)
  | [], M, _, key => rfl
  | x :: r, M, h, key => by
    have hp := List.pairwise_cons.1 h
    show r.foldl regPut (regPut M x) key = _
    rw [fold_find r (regPut M x) hp.2 key, findW_cons]
    by_cases hk : x.k = key
    · subst hk
      rw [if_pos rfl, findW_past (fun z hz => hp.1 z hz)]
      show regPut M x x.k = _
      unfold regPut later2
      rw [if_pos rfl]
    · rw [if_neg hk]
      unfold regPut
      rw [if_neg (Ne.symm hk)]

theorem find_join {a b : List Wr} (ha : Rise a) (hb : Rise b) (key : Int) : findW (joinW a b) key = later2 (findW a key) (findW b key) := by
  rw [(join_spec b a ha).2.2 key, fold_find b _ hb]

theorem later_some (x y : Wr) : later2 (some x) (some y) = some (if cmpW x y < 0 then y else x) := rfl

theorem cmpW_turn (x y : Wr) : cmpW y x = -cmpW x y := wcmp_neg ..

theorem later_comm (a b : Option Wr) : later2 a b = later2 b a := by
  cases a with
  | none => cases b <;> rfl
  | some x =>
    cases b with
    | none => rfl
    | some y =>
      rw [later_some, later_some, cmpW_turn x y]
      by_cases h1 : cmpW x y < 0
      · rw [if_pos h1, if_neg (by omega)]
      · rw [if_neg h1]
        by_cases h2 : cmpW x y = 0
        · rw [if_neg (by omega), cmpW_zero h2]
        · rw [if_pos (by omega)]

theorem later_self (a : Option Wr) : later2 a a = a := by
  cases a with
  | none => rfl
  | some x => rw [later_some, if_neg (by rw [cmpW_self]; omega)]

theorem cmpW_three (x y z : Wr) : T3 (cmpW x y) (cmpW y z) (cmpW x z) := wcmp_three ..

theorem later_assoc (a b c : Option Wr) : later2 (later2 a b) c = later2 a (later2 b c) := by
  cases c with
  | none => rfl
  | some z =>
    cases b with
    | none => rfl
    | some y =>
      cases a with
      | none =>
        show later2 (some y) (some z) = later2 none (later2 (some y) (some z))
        rw [later_some]
        rfl
      | some x =>
        rw [later_some x y, later_some y z]
        have t1 := cmpW_three x y z
        have t2 := cmpW_three z y x
        rw [cmpW_turn y z, cmpW_turn x y, cmpW_turn x z] at t2
        by_cases h1 : cmpW x y < 0
        · rw [if_pos h1, later_some]
          by_cases h2 : cmpW y z < 0
          · rw [if_pos h2, later_some, if_pos (t1.n h1 h2)]
          · rw [if_neg h2, later_some, if_pos h1]
        · rw [if_neg h1, later_some]
          by_cases h2 : cmpW y z < 0
          · rw [if_pos h2, later_some]
          · rw [if_neg h2, later_some, if_neg h1]
            by_cases h3 : cmpW x z < 0
            · exfalso
              rcases t2.on (by omega) (by omega) with h4 | h4 <;> omega
            · rw [if_neg h3]

structure OkM (ws : List Wr) : Prop where
  rise : Rise ws
  keys : ∀ x ∈ ws, 0 ≤ x.k ∧ x.k ≤ 5

theorem OkM.join {a b : List Wr} (ha : OkM a) (hb : OkM b) : OkM (joinW a b) where
  rise := (join_spec b a ha.rise).1
  keys := fun x hx => ((join_spec b a ha.rise).2.1 x hx).elim (ha.keys x) (hb.keys x)

theorem OkM.ext {a b : List Wr} (ha : OkM a) (hb : OkM b) (h : ∀ key, findW a key = findW b key) : a = b := by
  rw [← told_find ha.rise ha.keys, ← told_find hb.rise hb.keys, funext h]

theorem join_comm {a b : List Wr} (ha : OkM a) (hb : OkM b) : joinW a b = joinW b a :=
  (ha.join hb).ext (hb.join ha) fun key => by rw [find_join ha.rise hb.rise, find_join hb.rise ha.rise, later_comm]

theorem join_self {a : List Wr} (ha : OkM a) : joinW a a = a :=
  (ha.join ha).ext ha fun key => by rw [find_join ha.rise ha.rise, later_self]

theorem join_assoc {a b c : List Wr} (ha : OkM a) (hb : OkM b) (hc : OkM c) : joinW (joinW a b) c = joinW a (joinW b c) :=
  ((ha.join hb).join hc).ext (ha.join (hb.join hc)) fun key => by
    rw [find_join (ha.join hb).rise hc.rise, find_join ha.rise hb.rise, find_join ha.rise (hb.join hc).rise, find_join hb.rise hc.rise, later_assoc]

theorem okM {ws : List Wr} (h : mapOkB ws = true) : OkM ws := ⟨((mapOk_iff ws).1 h).2, mapOk_keys h⟩

theorem joinB_yes {us vs : List Wr} (h : mapOkB us = true) (h' : mapOkB vs = true) : joinB us vs = joinW us vs := by
  unfold joinB
  exact if_pos ⟨h, h'⟩

theorem within_iff (us vs : List Wr) : withinB us vs = true ↔ mapOkB us = true ∧ mapOkB vs = true ∧ joinW us vs = vs := by
  unfold withinB
  rw [Bool.and_eq_true, Bool.and_eq_true, same_iff]
  constructor
  · rintro ⟨h1, h2, h3⟩
    rw [joinB_yes h1 h2] at h3
    exact ⟨h1, h2, h3⟩
  · rintro ⟨h1, h2, h3⟩
    refine ⟨h1, h2, ?_⟩
    rw [joinB_yes h1 h2]
    exact h3

theorem within_self (us : List Wr) : withinB us us = mapOkB us := by
  cases h : mapOkB us
  · unfold withinB
    rw [h, Bool.false_and]
  · exact (within_iff us us).2 ⟨h, h, join_self (okM h)⟩

theorem within_anti {us vs : List Wr} (h : withinB us vs = true) (h' : withinB vs us = true) : us = vs := by
  obtain ⟨h1, h2, h3⟩ := (within_iff us vs).1 h
  obtain ⟨_, _, h4⟩ := (within_iff vs us).1 h'
  rw [← h3, join_comm (okM h1) (okM h2), h4]

theorem within_join {us vs ws : List Wr} (h : withinB us vs = true) (hw : mapOkB ws = true) : withinB us (joinB vs ws) = true := by
  obtain ⟨h1, h2, h3⟩ := (within_iff us vs).1 h
  refine (within_iff us _).2 ⟨h1, joinB_mapOk _ _, ?_⟩
  rw [joinB_yes h2 hw, ← join_assoc (okM h1) (okM h2) (okM hw), h3]

/-- What FnWithin asks. -/
theorem within_law (us vs ws : List Wr) : (withinB us vs = true → withinB vs us = true → sameB us vs = true) ∧ (withinB us vs = true → mapOkB ws = true → withinB us (joinB vs ws) = true) :=
  ⟨fun h h' => (same_iff _ _).2 (within_anti h h'), fun h h' => within_join h h'⟩

end Go.Proofs.Ytomndnopbpbblaa

/- slices.BinarySearchFunc over writes in order. -/
namespace Go.Proofs.Ytomndnopbpbblaa
open Go.ChangeShapes Go.WideShapes Go.ChangeAt Go.RowKit Go.Joins
attribute [local go_sem ↓] Go.wp_at_zero Go.wp_at_succ

/-- Writes in order, each once. -/
def RiseW (ws : List Wr) : Prop := ∀ i j, i < j → j < ws.length → cmpW (ws.getD i wz) (ws.getD j wz) < 0

theorem rise_below {ws : List Wr} (h : RiseW ws) {i k : Nat} {x : Wr} (hik : i ≤ k) (hk : k < ws.length) (hc : cmpW (ws.getD k wz) x < 0) : cmpW (ws.getD i wz) x < 0 := by
  by_cases e : i = k
  · rw [e]; exact hc
  · exact (cmpW_three _ _ _).n (h i k (by omega) hk) hc

theorem rise_above {ws : List Wr} (h : RiseW ws) {i k : Nat} {x : Wr} (hik : k ≤ i) (hi : i < ws.length) (hc : 0 ≤ cmpW (ws.getD k wz) x) : 0 ≤ cmpW (ws.getD i wz) x := by
  by_cases hn : cmpW (ws.getD i wz) x < 0
  · have := rise_below h hik hi hn
    omega
  · omega

/-- What the search tells: the place, and whether the write is there. -/
def FoundAt (ws : List Wr) (x : Wr) (i : Nat) (fb : Bool) : Prop := i ≤ ws.length ∧ (∀ k, k < i → cmpW (ws.getD k wz) x < 0) ∧ (∀ k, i ≤ k → k < ws.length → 0 ≤ cmpW (ws.getD k wz) x) ∧ fb = (decide (i < ws.length) && (cmpW (ws.getD i wz) x == 0))

set_option maxRecDepth 100000 in
set_option maxHeartbeats 4000000 in
theorem bsearch_any (a : Option Addr) (n cap : Nat) (ws : List Wr) (x : Wr) (ad : Option Addr) (cp : Nat) (w : World) (hn : ws.length = n) (hm : n ≤ 1048576) (hx : Few ws) (hxl : x.xs.length ≤ 1048576) (hh : IsWs w a ws) (hd : IsDeps w ad x.xs) (hr : RiseW ws) :
    Calls Try.prog 60 #[.slice a n cap, wrOf x ad cp, .func (.func 61) #[] #[]] w fun e w' => ∃ i fb, e = .returned (.tuple #[.int .i64 ((i : Nat) : Int), .bool fb]) ∧ FoundAt ws x i fb ∧ Below w.heap.size w w' := by
  obtain ⟨xk, xc, xs', xq, xv, xd, xx⟩ := x
  simp only at hxl hd
  have HH := Lib.hid hh
  have HN := Lib.hid hn
  have HX := Lib.hid hx
  have HR := Lib.hid hr
  have HA : Hid (Below w.heap.size w (w.alloc (.cells #[.int .i64 xk, .int .i64 xc, .int .i64 xs', .int .i64 xq, .int .i64 xv, .bool xd, .slice ad xx.length cp] 37))) := (Below.refl _ _).alloc (Nat.le_refl _) _
  have HD := Lib.hid hd
  have HBX : Hid ((w.alloc (.cells #[.int .i64 xk, .int .i64 xc, .int .i64 xs', .int .i64 xq, .int .i64 xv, .bool xd, .slice ad xx.length cp] 37)).heap[w.heap.size]? = some (.cells #[.int .i64 xk, .int .i64 xc, .int .i64 xs', .int .i64 xq, .int .i64 xv, .bool xd, .slice ad xx.length cp] 37 (0, 0))) := heap_alloc_new _ _
  have hsz : (w.alloc (.cells #[.int .i64 xk, .int .i64 xc, .int .i64 xs', .int .i64 xq, .int .i64 xv, .bool xd, .slice ad xx.length cp] 37)).heap.size = w.heap.size + 1 := by simp
  clear hh hn hx hr hd
  unfold wrOf
  simp only
  go_enter Try.func60, Try.ntmps60
  go_wp2
  generalize w.alloc (.cells #[.int .i64 xk, .int .i64 xc, .int .i64 xs', .int .i64 xq, .int .i64 xv, .bool xd, .slice ad xx.length cp] 37) = W1 at *
  go_loopw [9, 10] (fun ti tj wr => ∃ i j : Nat, i ≤ j ∧ j ≤ n ∧ ti = .int .i64 i ∧ tj = .int .i64 j ∧ Hid (∀ k, k < i → cmpW (ws.getD k wz) ⟨xk, xc, xs', xq, xv, xd, xx⟩ < 0) ∧ Hid (∀ k, j ≤ k → k < ws.length → 0 ≤ cmpW (ws.getD k wz) ⟨xk, xc, xs', xq, xv, xd, xx⟩) ∧ Hid (Below W1.heap.size W1 wr)) (fun ti tj _ => (intOf tj).toNat - (intOf ti).toNat)
  case atStart => exact ⟨0, n, Nat.zero_le _, Nat.le_refl _, rfl, rfl, fun k hk => absurd hk (Nat.not_lt_zero k), fun k h1 h2 => absurd h2 (by rw [HN.out]; omega), Below.refl _ _⟩
  case round =>
    obtain ⟨i, j, hij, hjn, rfl, rfl, HL, HG, HB⟩ := hrel
    have HBW : Hid (Below w.heap.size w wr) := below_step HA.out HA.out.size HB.out
    have qb := (HB.out.block w.heap.size (by omega)).trans HBX.out
    have g0 := cell_of_row wr w.heap.size 0 _ _ _ qb
    have g1 := cell_of_row wr w.heap.size 1 _ _ _ qb
    have g2 := cell_of_row wr w.heap.size 2 _ _ _ qb
    have g3 := cell_of_row wr w.heap.size 3 _ _ _ qb
    have g4 := cell_of_row wr w.heap.size 4 _ _ _ qb
    have g5 := cell_of_row wr w.heap.size 5 _ _ _ qb
    have g6 := cell_of_row wr w.heap.size 6 _ _ _ qb
    simp at g0 g1 g2 g3 g4 g5 g6
    have hlt : w.heap.size < wr.heap.size := by have := HB.out.size; omega
    clear qb
    by_cases hlt2 : i < j
    · go_wp2_with fail
      obtain ⟨h, hh⟩ : ∃ h : Nat, (i + j) / 2 = h := ⟨_, rfl⟩
      have hhi : ((i : Int) + (j : Int)) / 2 = (h : Int) := by omega
      rw [hhi]
      have h1 : i ≤ h := by omega
      have h2 : h < j := by omega
      have i1 : (0 : Int) ≤ (h : Int) := by omega
      have i2 : (h : Int) < (n : Int) := by omega
      clear hhi hh
      obtain ⟨b, o, ad2, cp2, rfl, hz, ⟨e0, e1, e2, e3, e4, e5, e6⟩, hde⟩ := HH.out.at HBW.out HN.out (show h < n by omega)
      have hyl := HX.out h (by rw [HN.out]; omega)
      have HC : Hid (∀ p : Aft wr.heap.size wr, Calls Try.prog 61 #[wrOf (ws.getD h wz) ad2 cp2, wrV xk xc xs' xq xv xd ad xx.length cp] p.now fun e w' => e = .returned (.int .i64 (cmpW (ws.getD h wz) ⟨xk, xc, xs', xq, xv, xd, xx⟩)) ∧ Below p.now.heap.size p.now w') := fun p =>
        implWriteCmp_gen _ _ _ _ _ _ _ (ws.getD h wz).xs _ _ _ _ _ _ _ _ _ xx _ _ _ rfl rfl hyl hxl (hde.below p.below) (HD.out.below (below_step HBW.out HBW.out.size p.below))
      unfold wrOf at HC
      have HLO : Hid (cmpW (ws.getD h wz) ⟨xk, xc, xs', xq, xv, xd, xx⟩ < 0 → ∀ k, k < h + 1 → cmpW (ws.getD k wz) ⟨xk, xc, xs', xq, xv, xd, xx⟩ < 0) := fun hc k hk => rise_below HR.out (by omega) (by rw [HN.out]; omega) hc
      have HHI : Hid (0 ≤ cmpW (ws.getD h wz) ⟨xk, xc, xs', xq, xv, xd, xx⟩ → ∀ k, h ≤ k → k < ws.length → 0 ≤ cmpW (ws.getD k wz) ⟨xk, xc, xs', xq, xv, xd, xx⟩) := fun hc k hk hl => rise_above HR.out hk hl hc
      clear hde
      generalize ws.getD h wz = y at *
      obtain ⟨yk, yc, ys, yq, yv, yd, yy⟩ := y
      simp only at e0 e1 e2 e3 e4 e5 e6 HC hyl
      obtain ⟨z, hz0⟩ : ∃ z, cmpW ⟨yk, yc, ys, yq, yv, yd, yy⟩ ⟨xk, xc, xs', xq, xv, xd, xx⟩ = z := ⟨_, rfl⟩
      rw [hz0] at HLO HHI
      have HC' : Hid (∀ p : Aft wr.heap.size wr, Calls Try.prog 61 #[wrV yk yc ys yq yv yd ad2 yy.length cp2, wrV xk xc xs' xq xv xd ad xx.length cp] p.now fun e w' => e = .returned (.int .i64 z) ∧ Below p.now.heap.size p.now w') := by rw [← hz0]; exact HC
      clear HC hz0
      have gg0 := aft_cell hlt g0
      have gg1 := aft_cell hlt g1
      have gg2 := aft_cell hlt g2
      have gg3 := aft_cell hlt g3
      have gg4 := aft_cell hlt g4
      have gg5 := aft_cell hlt g5
      have gg6 := aft_cell hlt g6
      have ge0 := aft_cell hz e0
      have ge1 := aft_cell hz e1
      have ge2 := aft_cell hz e2
      have ge3 := aft_cell hz e3
      have ge4 := aft_cell hz e4
      have ge5 := aft_cell hz e5
      have ge6 := aft_cell hz e6
      have ne := aft_some wr
      refine wp_region_aft (by kernel_rfl) (by kernel_rfl) ?_
      repeat (first | go_big_quiet_step (first | (go_at_call 61; exact aft_of (HC'.out _))))
      refine wpQuiet_nil ?_
      intro wq hq
      have HBQ : Hid (Below W1.heap.size W1 wq) := below_step HB.out HB.out.size hq
      clear hq gg0 gg1 gg2 gg3 gg4 gg5 gg6 ge0 ge1 ge2 ge3 ge4 ge5 ge6 ne
      by_cases hzn : z < 0
      · have HL2 := Lib.hid (HLO.out hzn)
        go_wp2
        exact ⟨⟨h + 1, j, by omega, hjn, by go_num, rfl, HL2, HG, HBQ⟩, by simp [intOf]; omega⟩
      · have HG2 := Lib.hid (HHI.out (by omega))
        go_wp2
        exact ⟨⟨i, h, h1, by omega, rfl, by go_num, HL, HG2, HBQ⟩, by simp [intOf]; omega⟩
    · obtain rfl : i = j := by omega
      by_cases hin : i < n
      · have i1 : (0 : Int) ≤ (i : Int) := by omega
        have i2 : (i : Int) < (n : Int) := by omega
        have hd1 : decide (i < n) = true := decide_eq_true hin
        obtain ⟨b, o, ad2, cp2, rfl, hz, ⟨e0, e1, e2, e3, e4, e5, e6⟩, hde⟩ := HH.out.at HBW.out HN.out (show i < n by omega)
        have hyl := HX.out i (by rw [HN.out]; omega)
        have HC : Hid (∀ p : Aft wr.heap.size wr, Calls Try.prog 61 #[wrOf (ws.getD i wz) ad2 cp2, wrV xk xc xs' xq xv xd ad xx.length cp] p.now fun e w' => e = .returned (.int .i64 (cmpW (ws.getD i wz) ⟨xk, xc, xs', xq, xv, xd, xx⟩)) ∧ Below p.now.heap.size p.now w') := fun p =>
          implWriteCmp_gen _ _ _ _ _ _ _ (ws.getD i wz).xs _ _ _ _ _ _ _ _ _ xx _ _ _ rfl rfl hyl hxl (hde.below p.below) (HD.out.below (below_step HBW.out HBW.out.size p.below))
        unfold wrOf at HC
        have HF : Hid (∀ z, cmpW (ws.getD i wz) ⟨xk, xc, xs', xq, xv, xd, xx⟩ = z → FoundAt ws ⟨xk, xc, xs', xq, xv, xd, xx⟩ i (z == 0)) := fun z h0 => ⟨by rw [HN.out]; omega, HL.out, HG.out, by rw [HN.out, hd1, h0, Bool.true_and]⟩
        clear hde
        generalize ws.getD i wz = y at *
        obtain ⟨yk, yc, ys, yq, yv, yd, yy⟩ := y
        simp only at e0 e1 e2 e3 e4 e5 e6 HC hyl
        obtain ⟨z, hz0⟩ : ∃ z, cmpW ⟨yk, yc, ys, yq, yv, yd, yy⟩ ⟨xk, xc, xs', xq, xv, xd, xx⟩ = z := ⟨_, rfl⟩
        have HF2 := Lib.hid (HF.out z hz0)
        have HC' : Hid (∀ p : Aft wr.heap.size wr, Calls Try.prog 61 #[wrV yk yc ys yq yv yd ad2 yy.length cp2, wrV xk xc xs' xq xv xd ad xx.length cp] p.now fun e w' => e = .returned (.int .i64 z) ∧ Below p.now.heap.size p.now w') := by rw [← hz0]; exact HC
        clear HC hz0 HF
        go_wp2_with fail
        have gg0 := aft_cell hlt g0
        have gg1 := aft_cell hlt g1
        have gg2 := aft_cell hlt g2
        have gg3 := aft_cell hlt g3
        have gg4 := aft_cell hlt g4
        have gg5 := aft_cell hlt g5
        have gg6 := aft_cell hlt g6
        have ge0 := aft_cell hz e0
        have ge1 := aft_cell hz e1
        have ge2 := aft_cell hz e2
        have ge3 := aft_cell hz e3
        have ge4 := aft_cell hz e4
        have ge5 := aft_cell hz e5
        have ge6 := aft_cell hz e6
        have ne := aft_some wr
        refine wp_region_aft (by kernel_rfl) (by kernel_rfl) ?_
        repeat (first | go_big_quiet_step (first | (go_at_call 61; exact aft_of (HC'.out _))))
        refine wpQuiet_nil ?_
        intro wq hq
        have HBQ : Hid (Below W1.heap.size W1 wq) := below_step HB.out HB.out.size hq
        clear hq gg0 gg1 gg2 gg3 gg4 gg5 gg6 ge0 ge1 ge2 ge3 ge4 ge5 ge6 ne
        have HBF : Hid (Below w.heap.size w wq) := below_step HA.out HA.out.size HBQ.out
        go_wp2
        exact bodyPost_ret (v := .tuple #[.int .i64 (i : Int), .bool (z == 0)]) (by simp [results, Try.results60, go_sem]) rfl ⟨i, z == 0, rfl, HF2.out, HBF.out⟩
      · have hd1 : decide (i < n) = false := decide_eq_false hin
        have HF : Hid (FoundAt ws ⟨xk, xc, xs', xq, xv, xd, xx⟩ i false) := ⟨by rw [HN.out]; omega, HL.out, HG.out, by rw [HN.out, hd1, Bool.false_and]⟩
        go_wp2_with fail
        have ne := aft_some wr
        refine wp_region_aft (by kernel_rfl) (by kernel_rfl) ?_
        repeat (first | go_big_quiet_step (fail))
        refine wpQuiet_nil ?_
        intro wq hq
        have HBF : Hid (Below w.heap.size w wq) := below_step HBW.out HBW.out.size hq
        clear hq ne
        go_wp2
        exact bodyPost_ret (v := .tuple #[.int .i64 (i : Int), .bool false]) (by simp [results, Try.results60, go_sem]) rfl ⟨i, false, rfl, HF.out, HBF.out⟩

end Go.Proofs.Ytomndnopbpbblaa

/- slices.Insert at rows of writes, one write put in: rows whose dependencies lie elsewhere. -/
namespace Go.Proofs.Ytomndnopbpbblaa
open Go.ChangeShapes Go.WideShapes Go.ChangeAt Go.RowKit Go.Joins

theorem addr_addW (b o j : Nat) : (⟨b, o, none⟩ : Addr).add j = ⟨b, o + j, none⟩ := by
  unfold Addr.add
  split
  · rename_i h
    rw [h]
    rfl
  · rfl

/-- The block of v' is that of v, or new. -/
def NewOr (w : World) (v v' : Value) : Prop := ∀ g, v'.ownBlock = some g → v.ownBlock = some g ∨ w.heap.size ≤ g

theorem newOr_app {w : World} {v : Value} {g : Nat} (h : v.ownBlock = some g ∨ g = w.heap.size) (n c : Nat) : NewOr w v (.slice (some ⟨g, 0, none⟩) n c) := fun g' hg => by
  have e : g = g' := by simpa [Value.ownBlock] using hg
  subst e
  rcases h with h | h
  · exact .inl h
  · exact .inr (by omega)

/-- A row of writes that grows; their dependencies are not its own. -/
def RowSh (w : World) (base : Nat) (v : Value) (ps : List EnG) : Prop := w.ownsRow base 37 7 v ps.length (ps.flatMap wrValsG)

theorem RowSh.form {w : World} {base : Nat} {v : Value} {ps : List EnG} (h : RowSh w base v ps) : ∃ a cap, v = .slice a ps.length cap := by
  rcases h.2 with ⟨h1, h2⟩ | ⟨g, cap, cur, h1, _⟩
  · exact ⟨none, 0, by rw [h1, h2]⟩
  · exact ⟨_, cap, h1⟩

set_option maxRecDepth 100000 in
/-- A copy, whatever the elements' size: the target is a row that is told as a whole. -/
theorem run_copy_wide {P : Program} (w : World) (dT sT ty elem : TypeId) (size : Nat) (g o dLen dCap : Nat) (a : Addr) (sLen sCap : Nat) (cur : Array Value) (t : TypeId) (cs : List Value)
    (hu : P.underlying dT = some (.slice elem)) (hs : (P.info? elem).map (·.size) = some size)
    (hg : w.heap[g]? = some (.cells cur t (0, 0))) (hn : cs.length = Nat.min sLen dLen * size)
    (hsrc : ∀ j v, cs[j]? = some v → w.cell? (a.add j) = some v) (hfit : o + cs.length ≤ cur.size) (h1 : ∀ v ∈ cs, v.oneCell' = true) :
    (Builtin.copy_ #[dT, sT] ty #[.slice (some ⟨g, o, none⟩) dLen dCap, .slice (some a) sLen sCap]).run P w =
      .ok (goInt (Nat.min sLen dLen)) (w.setRow g (cur.toList.take o ++ cs ++ cur.toList.drop (o + cs.length)).toArray) := by
  have hl := run_loadCells_list (P := P) w a cs hsrc
  have hst := run_storeCells_at P g o t cs 0 cur w hg (by simpa using hfit) h1
  cases hq : P.info? elem with
  | none => simp [hq] at hs
  | some i =>
    have hi : i.size = size := by simpa [hq] using hs
    simp only [Builtin.copy_, Builtin.lenOf, Builtin.firstCells, sizeOf, typeInfo]
    rw [hn] at hl
    simp [run_underlying hu, hq, hi, hl, hst]

set_option maxRecDepth 100000 in
/-- The operation copy, where its run is known. -/
theorem wpList_copy_wide {P : Program} (w : World) {ops : Array Oper} {rest : List Oper} {o : Oper} {a : Act} {Q : Exit → Act → World → Prop} (hgd : o.guard = none) (d s : Operand) (t t' : TypeId)
    (ho : o.op = .call { callee := .builtin .copy, args := #[d, s], argTypes := #[t, t'] }) (v u : Value) (hd : a.eval d = v) (hs : a.eval s = u) {v' : Value} {w' : World}
    (hr : (Builtin.copy_ #[t, t'] o.type #[v, u]).run P w = .ok v' w') (h : wpList P ops Q rest (a.put o.dst v') w') : wpList P ops Q (o :: rest) a w := by
  refine wpList_plain hgd fun K hK => ?_
  unfold Oper.wp
  simp [execOp, ho, resolve, invoke, builtin, hd, hs, hr, Result.andThen]
  exact hK _ _ h

set_option maxRecDepth 100000 in
theorem grown_setRow (w : World) (g : Nat) (cs : Array Value) : w.grownBy (w.setRow g cs) (some g) :=
  ⟨rfl, rfl, rfl, by simp [World.setRow], fun k _ hk => by
    have hne : g ≠ k := fun e => hk (by rw [e])
    simp [World.setRow, Array.getElem?_modify, hne]⟩

set_option maxRecDepth 100000 in
theorem grown_drew (w : World) (row : Option Nat) : w.grownBy w.drew row := ⟨rfl, rfl, rfl, Nat.le_refl _, fun _ _ _ => rfl⟩

set_option maxRecDepth 100000 in
theorem valsG_takeW : ∀ (ps : List EnG) (i : Nat), (ps.flatMap wrValsG).take (i * 7) = (ps.take i).flatMap wrValsG
  | _, 0 => by simp
  | [], _ + 1 => by simp
  | p :: ps, i + 1 => by
    rw [List.take_succ_cons, List.flatMap_cons, List.flatMap_cons, List.take_append, ← valsG_takeW ps i]
    have e1 : (wrValsG p).take ((i + 1) * 7) = wrValsG p := List.take_of_length_le (by simp [wrValsG]; omega)
    rw [e1]
    congr 2
    simp [wrValsG]
    omega

set_option maxRecDepth 100000 in
theorem valsG_dropW : ∀ (ps : List EnG) (i : Nat), (ps.flatMap wrValsG).drop (i * 7) = (ps.drop i).flatMap wrValsG
  | _, 0 => by simp
  | [], _ + 1 => by simp
  | p :: ps, i + 1 => by
    rw [List.drop_succ_cons, List.flatMap_cons, List.drop_append, ← valsG_dropW ps i]
    have e1 : (wrValsG p).drop ((i + 1) * 7) = [] := List.drop_eq_nil_of_le (by simp [wrValsG]; omega)
    rw [e1, List.nil_append]
    congr 1
    simp [wrValsG]
    omega


set_option maxRecDepth 100000 in
theorem oneWr_cells {w : World} {vb : Nat} {p : EnG} {t : TypeId} (hvb : w.heap[vb]? = some (.cells #[.int .i64 p.x.k, .int .i64 p.x.c, .int .i64 p.x.s, .int .i64 p.x.q, .int .i64 p.x.v, .bool p.x.de, .slice p.a p.x.xs.length p.cp] t (0, 0))) : ∀ j u, (wrValsG p)[j]? = some u → w.cell? ((⟨vb, 0, none⟩ : Addr).add j) = some u := by
  intro j u hu
  rw [addr_addW, Nat.zero_add, cell_of_row _ _ j _ t (0, 0) hvb, ← hu]
  simp [wrValsG]

def putAtW (ps : List EnG) (i : Nat) (p : EnG) : List EnG := ps.take i ++ p :: ps.drop i

set_option maxRecDepth 100000 in
theorem putAtW_end (ps : List EnG) (p : EnG) : putAtW ps ps.length p = ps ++ [p] := by simp [putAtW]

set_option maxRecDepth 100000 in
theorem putAtW_len {ps : List EnG} {i : Nat} (h : i ≤ ps.length) (p : EnG) : (putAtW ps i p).length = ps.length + 1 := by
  simp [putAtW]
  omega

set_option maxRecDepth 100000 in
theorem putAtW_vals (ps : List EnG) (i : Nat) (p : EnG) : (putAtW ps i p).flatMap wrValsG = (ps.flatMap wrValsG).take (i * 7) ++ wrValsG p ++ (ps.flatMap wrValsG).drop (i * 7) := by
  unfold putAtW
  rw [List.flatMap_append, List.flatMap_cons, ← List.append_assoc, valsG_takeW, valsG_dropW]

set_option maxRecDepth 100000 in
set_option maxHeartbeats 4000000 in
theorem insW_end (v : Value) (ps : List EnG) (vb : Nat) (p : EnG) (base : Nat) (w : World) (hn : ps.length ≤ 1048576) (hrow : RowSh w base v ps) (hvb : w.heap[vb]? = some (.cells #[.int .i64 p.x.k, .int .i64 p.x.c, .int .i64 p.x.s, .int .i64 p.x.q, .int .i64 p.x.v, .bool p.x.de, .slice p.a p.x.xs.length p.cp] 37 (0, 0))) (hb : base ≤ w.heap.size) :
    Calls Try.prog 62 #[v, .int .i64 (ps.length : Int), .slice (some ⟨vb, 0, none⟩) 1 1] w fun e w' => ∃ v', e = .returned v' ∧ RowSh w' base v' (putAtW ps ps.length p) ∧ w.grownBy w' v.ownBlock ∧ NewOr w v v' := by
  obtain ⟨i0, hi0, hx0⟩ := Option.map_eq_some_iff.1 infoWr
  simp only [Prod.mk.injEq] at hx0
  have HI0 := Lib.hid hi0
  have HX0 := Lib.hid hx0
  have HR := Lib.hid hrow
  have HC := Lib.hid (oneWr_cells hvb)
  have HE : Hid ((putAtW ps ps.length p) = ps ++ [p]) := putAtW_end ps p
  have hlv : (ps.flatMap wrValsG).length = ps.length * 7 := valsG_len ps
  obtain ⟨a, cap, rfl⟩ := RowSh.form hrow
  clear hi0 hx0 hrow hvb
  have hcap : ps.length ≤ cap := by
    rcases HR.out.2 with ⟨h1, _⟩ | ⟨g, cap', cur, h1, _, _, h2, _⟩
    · injection h1 with _ h1 h2
      omega
    · injection h1 with _ _ h1
      omega
  have hnil : a = none → ps.length = 0 := fun e => by
    subst e
    rcases HR.out.2 with ⟨_, h1⟩ | ⟨g, cap', cur, h1, _⟩
    · exact h1
    · injection h1 with h1
      cases h1
  have HP : Hid (∀ u ∈ wrValsG p, u.oneCell' = true) := fun u hu => valsG_one [p] u (by simpa using hu)
  obtain ⟨n, hnn⟩ : ∃ n, ps.length = n := ⟨_, rfl⟩
  have HL := Lib.hid hnn
  unfold RowSh at HR
  rw [hnn] at HR HE hn hcap hnil hlv ⊢
  clear hnn hlv
  cases a with
  | none =>
    obtain rfl := hnil rfl
    have hc0 : cap = 0 := by
      rcases HR.out.2 with ⟨h1, _⟩ | ⟨g, cap', cur, h1, _⟩
      · injection h1 with _ _ h1
      · injection h1 with h1
        cases h1
    subst hc0
    clear hnil hcap
    go_enter Try.func62, Try.ntmps62
    go_wp2_with (at_builtin; refine wpList_append_lies _ (by rfl) _ _ _ (by rfl) base 37 i0 (wrV 0 0 0 0 0 false none 0 0) 7 72 Try.underlying30 HI0.out HX0.out.1 HX0.out.2.1 HX0.out.2.2 (by rfl) (by omega) (.slice none 0 0) 0 (ps.flatMap wrValsG) (by rfl) HR.out ⟨vb, 0, none⟩ 1 1 (wrValsG p) (by rfl) (by rfl) HC.out HP.out (by omega) (by unfold maxLen; omega) (by omega) (by omega) _ rfl ?_; intro g3 cp3 w5 hown hgrow hg3 _; refine Hid.out ?_)
    refine Lib.hid ?_
    have HR5 : Hid (RowSh w5 base (.slice (some ⟨g3, 0, none⟩) (0 + 1) cp3) (ps ++ [p])) := by
      unfold RowSh
      rw [List.length_append, List.flatMap_append, HL.out]
      refine Lib.hid ?_
      simpa using hown
    have HG5 := Lib.hid hgrow
    have HN5 := Lib.hid (newOr_app hg3 (0 + 1) cp3)
    clear hown hgrow
    go_wp2
    go_ret
    exact ⟨_, rfl, by rw [HE.out]; exact HR5.out, HG5.out, HN5.out⟩
  | some a =>
    clear hnil
    by_cases hcn : cap = n
    · subst hcn
      clear hcap
      go_enter Try.func62, Try.ntmps62
      go_wp2_with (at_builtin; refine wpList_append_lies _ (by rfl) _ _ _ (by rfl) base 37 i0 (wrV 0 0 0 0 0 false none 0 0) 7 72 Try.underlying30 HI0.out HX0.out.1 HX0.out.2.1 HX0.out.2.2 (by rfl) (by omega) (.slice (some a) cap cap) cap (ps.flatMap wrValsG) (by rfl) HR.out ⟨vb, 0, none⟩ 1 1 (wrValsG p) (by rfl) (by rfl) HC.out HP.out (by omega) (by unfold maxLen; omega) (by omega) (by omega) _ rfl ?_; intro g3 cp3 w5 hown hgrow hg3 _; refine Hid.out ?_)
      refine Lib.hid ?_
      have HR5 : Hid (RowSh w5 base (.slice (some ⟨g3, 0, none⟩) (cap + 1) cp3) (ps ++ [p])) := by
        unfold RowSh
        rw [List.length_append, List.flatMap_append, HL.out]
        refine Lib.hid ?_
        simpa using hown
      have HG5 := Lib.hid hgrow
      have HN5 := Lib.hid (newOr_app hg3 (cap + 1) cp3)
      clear hown hgrow
      go_wp2
      go_ret
      exact ⟨_, rfl, by rw [HE.out]; exact HR5.out, HG5.out, HN5.out⟩
    · go_enter Try.func62, Try.ntmps62
      go_wp2_with (at_builtin; refine wpList_append_lies _ (by rfl) _ _ _ (by rfl) base 37 i0 (wrV 0 0 0 0 0 false none 0 0) 7 72 Try.underlying30 HI0.out HX0.out.1 HX0.out.2.1 HX0.out.2.2 (by rfl) (by omega) (.slice (some a) n cap) n (ps.flatMap wrValsG) (by rfl) HR.out ⟨vb, 0, none⟩ 1 1 (wrValsG p) (by rfl) (by rfl) HC.out HP.out (by omega) (by unfold maxLen; omega) (by omega) (by omega) _ rfl ?_; intro g3 cp3 w5 hown hgrow hg3 _; refine Hid.out ?_)
      refine Lib.hid ?_
      have HR5 : Hid (RowSh w5 base (.slice (some ⟨g3, 0, none⟩) (n + 1) cp3) (ps ++ [p])) := by
        unfold RowSh
        rw [List.length_append, List.flatMap_append, HL.out]
        refine Lib.hid ?_
        simpa using hown
      have HG5 := Lib.hid hgrow
      have HN5 := Lib.hid (newOr_app hg3 (n + 1) cp3)
      clear hown hgrow
      go_wp2
      go_ret
      exact ⟨_, rfl, by rw [HE.out]; exact HR5.out, HG5.out, HN5.out⟩

set_option maxRecDepth 100000 in
theorem shift_listW {cur xs pv : List Value} {I N : Nat} (hx : cur.take N = xs) (hI : I ≤ N) (hl : N + 7 ≤ cur.length) (hp : pv.length = 7) :
    ((cur.take (I + 7) ++ xs.drop I ++ cur.drop (I + 7 + (xs.drop I).length)).take I ++ pv ++ (cur.take (I + 7) ++ xs.drop I ++ cur.drop (I + 7 + (xs.drop I).length)).drop (I + pv.length)).take (N + 7) = xs.take I ++ pv ++ xs.drop I ∧
    ((cur.take (I + 7) ++ xs.drop I ++ cur.drop (I + 7 + (xs.drop I).length)).take I ++ pv ++ (cur.take (I + 7) ++ xs.drop I ++ cur.drop (I + 7 + (xs.drop I).length)).drop (I + pv.length)).length = cur.length := by
  have hxl : xs.length = N := by rw [← hx, List.length_take]; omega
  have e1 : (cur.take (I + 7) ++ xs.drop I ++ cur.drop (I + 7 + (xs.drop I).length)).take I = xs.take I := by
    rw [List.append_assoc, List.take_append_of_le_length (by rw [List.length_take]; omega), List.take_take, ← hx, List.take_take]
    congr 1
    omega
  have e2 : (cur.take (I + 7) ++ xs.drop I ++ cur.drop (I + 7 + (xs.drop I).length)).drop (I + pv.length) = xs.drop I ++ cur.drop (I + 7 + (xs.drop I).length) := by
    rw [hp, List.append_assoc, List.drop_append, List.drop_eq_nil_of_le (by rw [List.length_take]; omega), List.nil_append, List.length_take, show I + 7 - min (I + 7) cur.length = 0 by omega, List.drop_zero]
  rw [e1, e2]
  have hdl : (xs.drop I).length = N - I := by rw [List.length_drop, hxl]
  constructor
  · rw [← List.append_assoc, List.take_append_of_le_length (by simp [hp, hxl]; omega), List.take_of_length_le (by simp [hp, hxl]; omega)]
  · simp [hp, hxl]
    omega

set_option maxRecDepth 100000 in
set_option maxHeartbeats 4000000 in
theorem insW_shift (g n c i vb : Nat) (ps : List EnG) (p : EnG) (cur : Array Value) (base : Nat) (w : World) (hi : i < n) (hn : n ≤ 1048576) (hroom : n + 1 ≤ c) (hc63 : c ≤ 9223372036854775807) (hpl : ps.length = n) (hg : w.heap[g]? = some (.cells cur 37 (0, 0))) (hcz : cur.size = c * 7) (hx : cur.toList.take (n * 7) = ps.flatMap wrValsG) (hbg : base ≤ g)
    (hvb : w.heap[vb]? = some (.cells #[.int .i64 p.x.k, .int .i64 p.x.c, .int .i64 p.x.s, .int .i64 p.x.q, .int .i64 p.x.v, .bool p.x.de, .slice p.a p.x.xs.length p.cp] 37 (0, 0))) (hne : vb ≠ g) :
    Calls Try.prog 62 #[.slice (some ⟨g, 0, none⟩) n c, .int .i64 (i : Int), .slice (some ⟨vb, 0, none⟩) 1 1] w fun e w' => ∃ v', e = .returned v' ∧ RowSh w' base v' (putAtW ps i p) ∧ w.grownBy w' (some g) ∧ NewOr w (.slice (some ⟨g, 0, none⟩) n c) v' := by
  have hz2 : ¬ ((i : Int) = (n : Int)) := by omega
  have hsz : (Try.prog.info? 37).map (·.size) = some 7 := by
    obtain ⟨i0, hi0, hx0⟩ := Option.map_eq_some_iff.1 infoWr
    simp only [Prod.mk.injEq] at hx0
    rw [hi0]
    simp [hx0.2.1]
  have hov : ∀ lb cb, (callFunc 67 #[.slice (some ⟨vb, 0, none⟩) 1 1, .slice (some ⟨g, (i + 1) * 7, none⟩) lb cb]).run Try.prog w = .ok (.value (.bool false)) w := fun lb cb => by
    rw [run_callFunc_extern Try.func67 (by kernel_rfl) (by kernel_rfl) (by kernel_rfl) (e := Extern.SlicesOverlaps.overlaps #[30, 30] #[4]) (by kernel_rfl),
      Lib.run_overlaps_apart w 30 4 37 Try.underlying30 7 (fun _ => by kernel_rfl) ⟨vb, 0, none⟩ ⟨g, (i + 1) * 7, none⟩ 1 1 lb cb hne 37 37 7 (c * 7) (by simp [World.shape?, hvb]) (by simp [World.shape?, hg, hcz]) (by omega) (by simp [World.frozen?, hvb]) (by simp [World.frozen?, hvb])]
    rfl
  have hb2 : ¬ (c = i + 1) := by omega
  have hb3 : (i : Int) ≤ (n : Int) + 1 := by omega
  have hb4 : ¬ (c = i) := by omega
  have hin : i ≤ n := by omega
  have HG := Lib.hid hg
  have HV := Lib.hid hvb
  go_enter Try.func62, Try.ntmps62
  go_wp2_with (simp only [hov])
  have hwi : IntKind.i64.wrap ((i : Int) + 1) = (i : Int) + 1 := by rw [IntKind.wrap_i64]; omega
  refine wp_region_slots 8 [[(0, false)], [(1, false)], [(7, false)], [(70, true), (71, true)], [(69, true), (72, true)], [(0, false)], [(1, false)], [(74, true), (75, true)]] (fun w' => w' = w.drew) (fun w w' => w' = w) (by kernel_rfl) (by kernel_rfl) (by rfl) rfl (fun w w' h1 h2 => h2.trans h1) ?_
  iterate 8 (apply slot_eq; · (rintro ρ w' ⟨p1, p2, p3⟩ rfl hn; simp at hn; go_simp; exact ⟨rfl, rfl⟩))
  refine slot_end ?_
  rintro tv w4 rfl hF
  simp at hF
  obtain ⟨f76, f75, f74, f73, f72, f71, f70, f69⟩ := hF
  have hxl : (ps.flatMap wrValsG).length = n * 7 := by rw [valsG_len, hpl]
  have hdl : ((ps.flatMap wrValsG).drop (i * 7)).length = (n - i) * 7 := by rw [List.length_drop, hxl]; omega
  have hcp1 : ∀ ty, (Builtin.copy_ #[30, 30] ty #[.slice (some ⟨g, (i + 1) * 7, none⟩) (n - i) (c - (i + 1)), .slice (some ⟨g, i * 7, none⟩) (n + 1 - i) (c - i)]).run Try.prog w.drew = .ok (goInt (Nat.min (n + 1 - i) (n - i))) (w.drew.setRow g (cur.toList.take ((i + 1) * 7) ++ (ps.flatMap wrValsG).drop (i * 7) ++ cur.toList.drop ((i + 1) * 7 + ((ps.flatMap wrValsG).drop (i * 7)).length)).toArray) := fun ty =>
    run_copy_wide w.drew _ _ ty 37 7 g ((i + 1) * 7) (n - i) _ ⟨g, i * 7, none⟩ (n + 1 - i) _ cur 37 ((ps.flatMap wrValsG).drop (i * 7)) Try.underlying30 hsz HG.out
      (by rw [hdl, show Nat.min (n + 1 - i) (n - i) = n - i from Nat.min_eq_right (by omega)])
      (fun j v hj => by
        rw [addr_addW]
        refine (cell_of_row _ _ (i * 7 + j) _ 37 (0, 0) HG.out).trans ?_
        rw [List.getElem?_drop, ← hx, List.getElem?_take] at hj
        split at hj
        · rw [← hj]
          simp
        · cases hj)
      (by rw [hdl]; omega) (fun v hv => valsG_one ps v (List.mem_of_mem_drop hv))
  obtain ⟨A1, hA1⟩ : ∃ A1, (cur.toList.take ((i + 1) * 7) ++ (ps.flatMap wrValsG).drop (i * 7) ++ cur.toList.drop ((i + 1) * 7 + ((ps.flatMap wrValsG).drop (i * 7)).length)) = A1 := ⟨_, rfl⟩
  have hA1l : A1.length = c * 7 := by
    rw [← hA1]
    simp only [List.length_append, List.length_take, List.length_drop, hxl, Array.length_toList, hcz]
    omega
  rw [hA1] at hcp1
  obtain ⟨W1, hW1⟩ : ∃ W1, w.drew.setRow g A1.toArray = W1 := ⟨_, rfl⟩
  have hg1 : W1.heap[g]? = some (.cells A1.toArray 37 (0, 0)) := by rw [← hW1]; exact setRow_heap w.drew g cur _ _ _ HG.out
  have hgr1 : w.grownBy W1 (some g) := by rw [← hW1]; exact grown_trans (grown_drew w _) (grown_setRow _ _ _)
  have hv1 : W1.heap[vb]? = some (.cells #[.int .i64 p.x.k, .int .i64 p.x.c, .int .i64 p.x.s, .int .i64 p.x.q, .int .i64 p.x.v, .bool p.x.de, .slice p.a p.x.xs.length p.cp] 37 (0, 0)) := (hgr1.block vb (Array.getElem?_eq_some_iff.1 HV.out).1 (fun e => hne (by injection e))).trans HV.out
  rw [hW1] at hcp1
  have hcp2 : ∀ ty, (Builtin.copy_ #[30, 30] ty #[.slice (some ⟨g, i * 7, none⟩) (n + 1 - i) (c - i), .slice (some ⟨vb, 0, none⟩) 1 1]).run Try.prog W1 = .ok (goInt (Nat.min 1 (n + 1 - i))) (W1.setRow g (A1.take (i * 7) ++ wrValsG p ++ A1.drop (i * 7 + (wrValsG p).length)).toArray) := fun ty =>
    run_copy_wide W1 _ _ ty 37 7 g (i * 7) (n + 1 - i) _ ⟨vb, 0, none⟩ 1 1 A1.toArray 37 (wrValsG p) Try.underlying30 hsz hg1
      (by rw [show Nat.min 1 (n + 1 - i) = 1 from Nat.min_eq_left (by omega)]; rfl)
      (oneWr_cells hv1) (by simp [wrValsG, hA1l]; omega) (fun u hu => valsG_one [p] u (by simpa using hu))
  obtain ⟨A2, hA2⟩ : ∃ A2, (A1.take (i * 7) ++ wrValsG p ++ A1.drop (i * 7 + (wrValsG p).length)) = A2 := ⟨_, rfl⟩
  have hS := shift_listW (cur := cur.toList) (xs := ps.flatMap wrValsG) (pv := wrValsG p) (I := i * 7) (N := n * 7) hx (by omega) (by simp [hcz]; omega) rfl
  have hcl : cur.toList.length = c * 7 := by simpa using hcz
  rw [show i * 7 + 7 = (i + 1) * 7 by omega, hA1, hA2, hcl] at hS
  rw [hA2] at hcp2
  have HF : Hid (RowSh (W1.setRow g A2.toArray) base (.slice (some ⟨g, 0, none⟩) (n + 1) c) (putAtW ps i p)) := by
    refine ⟨?_, .inr ⟨g, c, A2.toArray, ?_, hbg, setRow_heap W1 g _ _ _ _ hg1, ?_, hc63, ?_, ?_⟩⟩
    · rw [valsG_len]
    · rw [putAtW_len (by omega), hpl]
    · rw [putAtW_len (by omega), hpl]
      exact hroom
    · simp [hS.2]
    · rw [putAtW_len (by omega), hpl, putAtW_vals, show (n + 1) * 7 = n * 7 + 7 by omega]
      exact hS.1
  have HNW : Hid (NewOr w (.slice (some ⟨g, 0, none⟩) n c) (.slice (some ⟨g, 0, none⟩) (n + 1) c)) := newOr_app (.inl rfl) _ _
  have HG2 : Hid (w.grownBy (W1.setRow g A2.toArray) (some g)) := grown_trans hgr1 (grown_setRow _ _ _)
  clear hS hA1 hA2 hA1l hg1 hgr1 hv1 hW1 hxl hdl hx hcz hg hvb
  simp only [List.take_succ_cons, List.take_zero, List.drop_succ_cons, List.drop_zero, putAll, f76, f75, f74, f73, f72, f71, f70, f69]
  clear f76 f75 f74 f73 f72 f71 f70 f69
  simp only [Act.put, List.setIfInBounds_toArray, List.set_cons_succ, List.set_cons_zero]
  refine wpList_copy_wide _ rfl _ _ _ _ rfl _ _ rfl rfl (hcp1 _) ?_
  simp only [Act.put, List.setIfInBounds_toArray, List.set_cons_succ, List.set_cons_zero]
  go_wp2_with (at_builtin; refine wpList_copy_wide _ rfl _ _ _ _ rfl _ _ rfl rfl (hcp2 _) ?_)
  go_ret
  exact ⟨_, rfl, HF.out, HG2.out, HNW.out⟩


set_option maxRecDepth 100000 in
theorem grow_listW {R ys ds pv : List Value} {I N : Nat} (hR : R.take I = ys) (hyl : ys.length = I) (hdl : ds.length = N - I) (hI : I ≤ N) (hl : N + 7 ≤ R.length) (hp : pv.length = 7) :
    ((R.take I ++ pv ++ R.drop (I + pv.length)).take (I + 7) ++ ds ++ (R.take I ++ pv ++ R.drop (I + pv.length)).drop (I + 7 + ds.length)).take (N + 7) = ys ++ pv ++ ds ∧
    ((R.take I ++ pv ++ R.drop (I + pv.length)).take (I + 7) ++ ds ++ (R.take I ++ pv ++ R.drop (I + pv.length)).drop (I + 7 + ds.length)).length = R.length ∧ (R.take I ++ pv ++ R.drop (I + pv.length)).length = R.length := by
  have e1 : (R.take I ++ pv ++ R.drop (I + pv.length)).take (I + 7) = ys ++ pv := by
    rw [hR, List.take_append_of_le_length (by rw [List.length_append, hyl, hp]; exact Nat.le_refl _), List.take_of_length_le (by rw [List.length_append, hyl, hp]; exact Nat.le_refl _)]
  have e2 : (R.take I ++ pv ++ R.drop (I + pv.length)).length = R.length := by
    simp only [List.length_append, List.length_take, List.length_drop, hp]
    omega
  refine ⟨?_, ?_, e2⟩
  · rw [e1, List.take_append_of_le_length (by simp only [List.length_append, hyl, hp, hdl]; omega), List.take_of_length_le (by simp only [List.length_append, hyl, hp, hdl]; omega)]
  · rw [e1, List.length_append, List.length_append, List.length_append, List.length_drop, e2, hyl, hp, hdl]
    omega

set_option maxRecDepth 100000 in
theorem zero_lenW (k : Nat) : (Builtin.zeroCells (wrV 0 0 0 0 0 false none 0 0).cells k).size = k * 7 := by simp [Builtin.zeroCells, Value.cells]

set_option maxRecDepth 100000 in
set_option maxHeartbeats 4000000 in
theorem insW_grow (g n c i vb : Nat) (ps : List EnG) (p : EnG) (cur : Array Value) (base : Nat) (w : World) (hi : i < n) (hn : n ≤ 1048576) (hnc : n ≤ c) (hroom : c < n + 1) (hpl : ps.length = n) (hg : w.heap[g]? = some (.cells cur 37 (0, 0))) (hx : cur.toList.take (n * 7) = ps.flatMap wrValsG) (hbw : base ≤ w.heap.size)
    (hvb : w.heap[vb]? = some (.cells #[.int .i64 p.x.k, .int .i64 p.x.c, .int .i64 p.x.s, .int .i64 p.x.q, .int .i64 p.x.v, .bool p.x.de, .slice p.a p.x.xs.length p.cp] 37 (0, 0))) :
    Calls Try.prog 62 #[.slice (some ⟨g, 0, none⟩) n c, .int .i64 (i : Int), .slice (some ⟨vb, 0, none⟩) 1 1] w fun e w' => ∃ v', e = .returned v' ∧ RowSh w' base v' (putAtW ps i p) ∧ w.grownBy w' (some g) ∧ NewOr w (.slice (some ⟨g, 0, none⟩) n c) v' := by
  obtain ⟨i0, hi0, hx0⟩ := Option.map_eq_some_iff.1 infoWr
  simp only [Prod.mk.injEq] at hx0
  obtain ⟨hz0, hzs, hzb⟩ := hx0
  have hsz : (Try.prog.info? 37).map (·.size) = some 7 := by rw [hi0]; simp [hzs]
  have hz2 : ¬ ((i : Int) = (n : Int)) := by omega
  have hz3 : (c : Int) < (n : Int) + 1 := by omega
  have hxl : (ps.flatMap wrValsG).length = n * 7 := by rw [valsG_len, hpl]
  have hgl : g < w.heap.size := (Array.getElem?_eq_some_iff.1 hg).1
  have hvl : vb < w.heap.size := (Array.getElem?_eq_some_iff.1 hvb).1
  have hcell : ∀ j v, (ps.flatMap wrValsG)[j]? = some v → w.cell? ⟨g, j, none⟩ = some v := fun j v hj => by
    refine (cell_of_row _ _ j _ 37 (0, 0) hg).trans ?_
    rw [← hx, List.getElem?_take] at hj
    split at hj
    · rw [← hj]
      simp
    · cases hj
  have hold : (Builtin.firstCells i0.size i (.slice (some ⟨g, 0, none⟩) i c)).run Try.prog w.drew = .ok ((ps.flatMap wrValsG).take (i * 7)).toArray w.drew := by
    rw [hzs]
    exact run_firstCells_some w.drew 7 i ⟨g, 0, none⟩ i c ((ps.flatMap wrValsG).take (i * 7)) (by rw [List.length_take, hxl]; omega) (fun j v hj => by
      rw [addr_addW, Nat.zero_add]
      rw [List.getElem?_take] at hj
      split at hj
      · exact hcell j v hj
      · cases hj)
  obtain ⟨G, hG⟩ : ∃ G, grownCap w (n + 1) c 37 = G := ⟨_, rfl⟩
  have hGn : n + 1 ≤ G := by rw [← hG]; exact grownCap_ge w _ _ _
  have hG63 : G ≤ 9223372036854775807 := by
    have := grownCap_le_maxLen w (n + 1) c 37 (by unfold maxLen; omega)
    rw [hG] at this
    exact this
  have hkk : (n : Int) + 1 - (i : Int) = ((n + 1 - i : Nat) : Int) := by omega
  have hik : i + (n + 1 - i) = n + 1 := by omega
  have hrz : ∀ ty, (Builtin.append_ #[30, 3] ty #[.slice (some ⟨g, 0, none⟩) i c, .int .i64 ((n : Int) + 1 - (i : Int))]).run Try.prog w =
      .ok (.slice (some ⟨w.heap.size, 0, none⟩) (n + 1) G) (w.drew.alloc (.cells (((ps.flatMap wrValsG).take (i * 7)).toArray ++ Builtin.zeroCells (wrV 0 0 0 0 0 false none 0 0).cells (n + 1 - i) ++ Builtin.zeroCells (wrV 0 0 0 0 0 false none 0 0).cells (G - (n + 1))) 37)) := fun ty => by
    have h := Lib.run_append_grow_zeros w 30 3 ty 37 i0 _ .i64 .i64 Try.underlying30 Try.underlying3 hi0 hz0 (some ⟨g, 0, none⟩) i c ((ps.flatMap wrValsG).take (i * 7)) hold (n + 1 - i) (by omega) (by omega) (by omega) (by omega) (by rw [hzb]; omega) (by rw [hzb, hik]; exact growslice_fits_wide hroom (by omega))
    rw [hik, hG] at h
    rw [hkk]
    exact h
  obtain ⟨R, hRe⟩ : ∃ R : Array Value, ((ps.flatMap wrValsG).take (i * 7)).toArray ++ Builtin.zeroCells (wrV 0 0 0 0 0 false none 0 0).cells (n + 1 - i) ++ Builtin.zeroCells (wrV 0 0 0 0 0 false none 0 0).cells (G - (n + 1)) = R := ⟨_, rfl⟩
  have hRl : R.toList.length = G * 7 := by
    rw [← hRe]
    simp only [Array.toList_append, List.length_append, Array.length_toList, zero_lenW, List.length_take, hxl]
    omega
  have hRt : R.toList.take (i * 7) = (ps.flatMap wrValsG).take (i * 7) := by
    rw [← hRe]
    simp only [Array.toList_append]
    rw [List.append_assoc, List.take_append_of_le_length (by simp [hxl]; omega), List.take_of_length_le (by simp; omega)]
  rw [hRe] at hrz
  obtain ⟨W1, hW1⟩ : ∃ W1, w.drew.alloc (.cells R 37) = W1 := ⟨_, rfl⟩
  have hg1 : W1.heap[w.heap.size]? = some (.cells R 37 (0, 0)) := by rw [← hW1]; exact heap_alloc_new w.drew _
  have hgr1 : w.grownBy W1 none := by rw [← hW1]; exact grown_trans (grown_drew w _) (World.grownBy_alloc _ _ _)
  rw [hW1] at hrz
  have hv1 : W1.heap[vb]? = some (.cells #[.int .i64 p.x.k, .int .i64 p.x.c, .int .i64 p.x.s, .int .i64 p.x.q, .int .i64 p.x.v, .bool p.x.de, .slice p.a p.x.xs.length p.cp] 37 (0, 0)) := (hgr1.block vb hvl (by simp)).trans hvb
  have hsrc1 : W1.heap[g]? = some (.cells cur 37 (0, 0)) := (hgr1.block g hgl (by simp)).trans hg
  have hcp1 : ∀ ty, (Builtin.copy_ #[30, 30] ty #[.slice (some ⟨w.heap.size, i * 7, none⟩) (n + 1 - i) (G - i), .slice (some ⟨vb, 0, none⟩) 1 1]).run Try.prog W1 = .ok (goInt (Nat.min 1 (n + 1 - i))) (W1.setRow w.heap.size (R.toList.take (i * 7) ++ wrValsG p ++ R.toList.drop (i * 7 + (wrValsG p).length)).toArray) := fun ty =>
    run_copy_wide W1 _ _ ty 37 7 w.heap.size (i * 7) (n + 1 - i) _ ⟨vb, 0, none⟩ 1 1 R 37 (wrValsG p) Try.underlying30 hsz hg1
      (by rw [show Nat.min 1 (n + 1 - i) = 1 from Nat.min_eq_left (by omega)]; rfl)
      (oneWr_cells hv1) (by have : R.size = G * 7 := by simpa using hRl
                            simp [wrValsG, this]; omega) (fun u hu => valsG_one [p] u (by simpa using hu))
  have hdl : ((ps.flatMap wrValsG).drop (i * 7)).length = n * 7 - i * 7 := by rw [List.length_drop, hxl]
  have hS := grow_listW (R := R.toList) (ys := (ps.flatMap wrValsG).take (i * 7)) (ds := (ps.flatMap wrValsG).drop (i * 7)) (pv := wrValsG p) (I := i * 7) (N := n * 7) hRt (by rw [List.length_take, hxl]; omega) hdl (by omega) (by rw [hRl]; omega) rfl
  obtain ⟨A1, hA1⟩ : ∃ A1, (R.toList.take (i * 7) ++ wrValsG p ++ R.toList.drop (i * 7 + (wrValsG p).length)) = A1 := ⟨_, rfl⟩
  rw [hA1] at hcp1 hS
  rw [hRl] at hS
  obtain ⟨W2, hW2⟩ : ∃ W2, (W1.setRow w.heap.size A1.toArray).drew = W2 := ⟨_, rfl⟩
  have hg2 : W2.heap[w.heap.size]? = some (.cells A1.toArray 37 (0, 0)) := by rw [← hW2]; exact setRow_heap W1 w.heap.size R _ _ _ hg1
  have hgr2 : W1.grownBy W2 (some w.heap.size) := by rw [← hW2]; exact grown_trans (grown_setRow _ _ _) (grown_drew _ _)
  have hsrc2 : W2.heap[g]? = some (.cells cur 37 (0, 0)) := (hgr2.block g (Nat.lt_of_lt_of_le hgl hgr1.size) (fun e => by injection e with e; omega)).trans hsrc1
  have hcp2 : ∀ ty, (Builtin.copy_ #[30, 30] ty #[.slice (some ⟨w.heap.size, (i + 1) * 7, none⟩) (n - i) (G - (i + 1)), .slice (some ⟨g, i * 7, none⟩) (n - i) (c - i)]).run Try.prog W2 = .ok (goInt (Nat.min (n - i) (n - i))) (W2.setRow w.heap.size (A1.take ((i + 1) * 7) ++ (ps.flatMap wrValsG).drop (i * 7) ++ A1.drop ((i + 1) * 7 + ((ps.flatMap wrValsG).drop (i * 7)).length)).toArray) := fun ty =>
    run_copy_wide W2 _ _ ty 37 7 w.heap.size ((i + 1) * 7) (n - i) _ ⟨g, i * 7, none⟩ (n - i) _ A1.toArray 37 ((ps.flatMap wrValsG).drop (i * 7)) Try.underlying30 hsz hg2
      (by rw [hdl, show Nat.min (n - i) (n - i) = n - i from Nat.min_self _]; omega)
      (fun j v hj => by
        rw [addr_addW]
        refine (cell_of_row _ _ (i * 7 + j) _ 37 (0, 0) hsrc2).trans ?_
        rw [List.getElem?_drop, ← hx, List.getElem?_take] at hj
        split at hj
        · rw [← hj]
          simp
        · cases hj)
      (by rw [hdl]; have := hS.2.2; simp only [List.size_toArray]; omega) (fun v hv => valsG_one ps v (List.mem_of_mem_drop hv))
  rw [show i * 7 + 7 = (i + 1) * 7 by omega] at hS
  obtain ⟨A2, hA2⟩ : ∃ A2, (A1.take ((i + 1) * 7) ++ (ps.flatMap wrValsG).drop (i * 7) ++ A1.drop ((i + 1) * 7 + ((ps.flatMap wrValsG).drop (i * 7)).length)) = A2 := ⟨_, rfl⟩
  rw [hA2] at hcp2 hS
  have HF : Hid (RowSh (W2.setRow w.heap.size A2.toArray) base (.slice (some ⟨w.heap.size, 0, none⟩) (n + 1) G) (putAtW ps i p)) := by
    refine ⟨?_, .inr ⟨w.heap.size, G, A2.toArray, ?_, hbw, setRow_heap W2 w.heap.size _ _ _ _ hg2, ?_, hG63, ?_, ?_⟩⟩
    · rw [valsG_len]
    · rw [putAtW_len (by omega), hpl]
    · rw [putAtW_len (by omega), hpl]
      exact hGn
    · simp [hS.2.1]
    · rw [putAtW_len (by omega), hpl, putAtW_vals, show (n + 1) * 7 = n * 7 + 7 by omega]
      exact hS.1
  have HNW : Hid (NewOr w (.slice (some ⟨g, 0, none⟩) n c) (.slice (some ⟨w.heap.size, 0, none⟩) (n + 1) G)) := newOr_app (.inr rfl) _ _
  have HG2 : Hid (w.grownBy (W2.setRow w.heap.size A2.toArray) (some g)) := by
    have h3 := grown_setRow W2 w.heap.size A2.toArray
    have h2s := hgr2.size
    have h1s := hgr1.size
    exact Lib.hid ⟨h3.os.trans (hgr2.os.trans hgr1.os), h3.tape.trans (hgr2.tape.trans hgr1.tape), h3.output.trans (hgr2.output.trans hgr1.output), Nat.le_trans h1s (Nat.le_trans h2s h3.size), fun k hk _ =>
      (h3.block k (by omega) (fun e => by injection e with e; omega)).trans ((hgr2.block k (by omega) (fun e => by injection e with e; omega)).trans (hgr1.block k hk (by simp)))⟩
  have hb4 : ¬ (c = i) := by omega
  have hG4 : ¬ (G = i) := by omega
  have hG5 : ¬ (G = i + 1) := by omega
  have hin : i ≤ n := by omega
  have hb3 : (i : Int) ≤ (n : Int) + 1 := by omega
  have hwi : IntKind.i64.wrap ((i : Int) + 1) = (i : Int) + 1 := by rw [IntKind.wrap_i64]; omega
  clear hS hA1 hA2 hg1 hgr1 hv1 hxl hdl hx hg hvb hcell hold hkk hik hRe hRl hRt hsrc1 hsrc2 hg2 hgr2 hG hi0 hz0 hzs hzb hsz
  go_enter Try.func62, Try.ntmps62
  go_wp2_with (first
    | (at_builtin; refine Lib.wpList_append_run _ rfl _ _ _ _ rfl _ _ rfl rfl _ _ (hrz _) ?_)
    | (at_builtin; refine wpList_copy_wide _ rfl _ _ _ _ rfl _ _ rfl rfl (hcp1 _) ?_))
  refine wp_region_slots 8 [[(9, false)], [(1, false)], [(7, false)], [(47, true), (48, true)], [(46, true), (49, true)], [(0, false)], [(1, false)], [(51, true), (52, true)]] (fun w' => w' = W2) (fun w w' => w' = w) (by kernel_rfl) (by kernel_rfl) (by rfl) hW2 (fun w w' h1 h2 => h2.trans h1) ?_
  iterate 8 (apply slot_eq; · (rintro ρ w' ⟨p1, p2, p3⟩ rfl hn; simp at hn; go_simp; exact ⟨rfl, rfl⟩))
  refine slot_end ?_
  rintro tv w4 rfl hF
  simp at hF
  obtain ⟨f53, f52, f51, f50, f49, f48, f47, f46⟩ := hF
  simp only [List.take_succ_cons, List.take_zero, List.drop_succ_cons, List.drop_zero, putAll, f53, f52, f51, f50, f49, f48, f47, f46]
  clear f53 f52 f51 f50 f49 f48 f47 f46
  simp only [Act.put, List.setIfInBounds_toArray, List.set_cons_succ, List.set_cons_zero]
  refine wpList_copy_wide _ rfl _ _ _ _ rfl _ _ rfl rfl (hcp2 _) ?_
  simp only [Act.put, List.setIfInBounds_toArray, List.set_cons_succ, List.set_cons_zero]
  go_wp2
  go_ret
  exact ⟨_, rfl, HF.out, HG2.out, HNW.out⟩

set_option maxRecDepth 100000 in
/-- All roads. -/
theorem insW_any (v : Value) (ps : List EnG) (i vb : Nat) (p : EnG) (base : Nat) (w : World) (hi : i ≤ ps.length) (hn : ps.length ≤ 1048576) (hrow : RowSh w base v ps) (hvb : w.heap[vb]? = some (.cells #[.int .i64 p.x.k, .int .i64 p.x.c, .int .i64 p.x.s, .int .i64 p.x.q, .int .i64 p.x.v, .bool p.x.de, .slice p.a p.x.xs.length p.cp] 37 (0, 0))) (hne : some vb ≠ v.ownBlock) (hb : base ≤ w.heap.size) :
    Calls Try.prog 62 #[v, .int .i64 (i : Int), .slice (some ⟨vb, 0, none⟩) 1 1] w fun e w' => ∃ v', e = .returned v' ∧ RowSh w' base v' (putAtW ps i p) ∧ w.grownBy w' v.ownBlock ∧ NewOr w v v' := by
  by_cases he : i = ps.length
  · subst he
    exact insW_end v ps vb p base w hn hrow hvb hb
  · rcases hrow.2 with ⟨_, h0⟩ | ⟨g, cap, cur, rfl, h2, h3, h4, h5, h6, h7⟩
    · omega
    · by_cases hroom : ps.length + 1 ≤ cap
      · exact insW_shift g ps.length cap i vb ps p cur base w (by omega) hn hroom h5 rfl h3 h6 h7 h2 hvb (fun e => hne (by rw [e]; rfl))
      · exact insW_grow g ps.length cap i vb ps p cur base w (by omega) hn h4 (by omega) rfl h3 h7 hb hvb

end Go.Proofs.Ytomndnopbpbblaa

/- The bounds of numbers, of dependencies and of writes. -/
namespace Go.Proofs.Ytomndnopbpbblaa
open Go.ChangeShapes Go.WideShapes Go.ChangeAt Go.RowKit Go.Joins

/-- A number that an int can be. -/
def R64 (n : Int) : Prop := -9223372036854775808 ≤ n ∧ n ≤ 9223372036854775807

theorem r64_wf {n : Int} (h : R64 n) : (Lit.int .i64 n).wf = true := by
  simp only [Lit.wf, Bool.and_eq_true, decide_eq_true_eq]
  exact h

theorem wf_r64 {n : Int} (h : (Lit.int .i64 n).wf = true) : R64 n := by
  simp only [Lit.wf, Bool.and_eq_true, decide_eq_true_eq] at h
  exact h

def DpR (d : Dp) : Prop := R64 d.k ∧ R64 d.c ∧ R64 d.s ∧ R64 d.q

def WrR (x : Wr) : Prop := R64 x.k ∧ R64 x.c ∧ R64 x.s ∧ R64 x.q ∧ R64 x.v ∧ ∀ j, j < x.xs.length → DpR (x.xs.getD j dz)

def WsR (ws : List Wr) : Prop := ∀ j, j < ws.length → WrR (ws.getD j wz)

end Go.Proofs.Ytomndnopbpbblaa
