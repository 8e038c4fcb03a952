import Derived.Test.YtomndnopbpbblaaPack8
import Derived.Test.YtomndnopbpbblaaPack1
import Derived.Test.YtomndnopbpbblaaPack2
import Derived.Test.YtomndnopbpbblaaPack9
import Derived.Test.YtomndnopbpbblaaPack11
import Derived.Test.YtomndnopbpbblaaPack7
import Derived.Test.YtomndnopbpbblaaPack6
/- What is asked for and what is late, the specification's side: the contracts of spec's l09Asked and l09Late. -/
namespace Go.Proofs.Ytomndnopbpbblaa
open Go.ChangeShapes Go.WideShapes Go.ChangeAt Go.RowKit Go.Joins
attribute [local go_sem ↓] Go.wp_at_zero Go.wp_at_succ

set_option maxRecDepth 100000 in
set_option maxHeartbeats 2000000 in
theorem asked_any (mask key : Int) (w : World) (h1 : mask ≤ 9223372036854775807) :
    Calls Try.prog 35 #[.int .i64 mask, .int .i64 key] w fun e w' => e = .returned (.bool (bitG mask key)) ∧ w' = w := by
  by_cases h0 : 0 ≤ mask
  rotate_left
  · rw [bitG_neg h0]
    have hd : decide (0 ≤ mask) = false := decide_eq_false h0
    go_enter Try.func35, Try.ntmps35
    go_wp2
    go_ret
    exact ⟨rfl, rfl⟩
  by_cases hk : 0 ≤ key ∧ key ≤ 62
  rotate_left
  · have hf : bitG mask key = false := by
      cases hb : bitG mask key with
      | false => rfl
      | true => exact absurd (bitG_small h1 hb) (by omega)
    rw [hf]
    have hbt : btw key 0 62 = false := by
      unfold btw
      simp only [decide_eq_false_iff_not]
      omega
    go_enter Try.func35, Try.ntmps35
    go_wp2_with (go_at_call 34; refine (between_any _ _ _ _).mono ?_; rintro e w' ⟨rfl, rfl⟩; rw [hbt])
    go_ret
    exact ⟨rfl, rfl⟩
  obtain ⟨k, rfl⟩ : ∃ k : Nat, key = (k : Int) := ⟨key.toNat, by omega⟩
  have hbt : btw (k : Int) 0 62 = true := by
    unfold btw
    simp only [decide_eq_true_eq]
    exact hk
  have hp : (0 : Int) < 2 ^ k := Int.pow_pos (by omega)
  have hd0 : 0 ≤ mask / 2 ^ k := Int.ediv_nonneg h0 (by omega)
  have hd1 : mask / 2 ^ k ≤ mask := Int.ediv_le_self _ h0
  rw [bitG_pos h0]
  have hmn := shift_min (k := k) h0 h1
  have hk0 : (0 : Int) ≤ (k : Int) := by omega
  go_enter Try.func35, Try.ntmps35
  go_wp2_with (go_at_call 34; refine (between_any _ _ _ _).mono ?_; rintro e w' ⟨rfl, rfl⟩; rw [hbt])
  go_ret
  exact ⟨rfl, rfl⟩

theorem asked_is (mask key : Int) (r : Bool) (h : bitG mask key = r) (w : World) (h1 : mask ≤ 9223372036854775807) :
    Calls Try.prog 35 #[.int .i64 mask, .int .i64 key] w fun e w' => e = .returned (.bool r) ∧ w' = w := by
  subst h
  exact asked_any mask key w h1

theorem late_hit {ws : List Wr} {key : Int} {t : Tg} {k : Nat} (hk : k < ws.length) (h1 : (ws.getD k wz).k = key) (h2 : 0 ≤ tcmpT (tgOf (ws.getD k wz)) t) : lateB ws key t = true := by
  unfold lateB
  rw [List.any_eq_true]
  refine ⟨ws.getD k wz, by simp [List.getD, hk], ?_⟩
  simp only [Bool.and_eq_true, decide_eq_true_eq]
  exact ⟨h1, h2⟩

/-- Write k is not the one. -/
def notLate (ws : List Wr) (key : Int) (t : Tg) (k : Nat) : Prop := ¬ ((ws.getD k wz).k = key ∧ 0 ≤ tcmpT (tgOf (ws.getD k wz)) t)

theorem late_none {ws : List Wr} {key : Int} {t : Tg} (h : ∀ k, k < ws.length → notLate ws key t k) : lateB ws key t = false := by
  unfold lateB
  rw [List.any_eq_false]
  intro x hx
  obtain ⟨k, hk, rfl⟩ := List.getElem_of_mem hx
  have := h k hk
  unfold notLate at this
  rw [show ws.getD k wz = ws[k] by simp [List.getD, hk]] at this
  simpa only [Bool.and_eq_true, decide_eq_true_eq] using this

theorem notLate_next {ws : List Wr} {key : Int} {t : Tg} {k : Nat} (h : ∀ j, j < k → notLate ws key t j) (hk : notLate ws key t k) : ∀ j, j < k + 1 → notLate ws key t j := fun j hj => by
  by_cases e : j = k
  · rw [e]; exact hk
  · exact h j (by omega)

set_option maxRecDepth 100000 in
set_option maxHeartbeats 4000000 in
theorem late_any (a : Option Addr) (n cap : Nat) (key c s q : Int) (ws : List Wr) (w : World) (hn : ws.length = n) (hm : n ≤ 1048576) (hh : IsWs w a ws) :
    Calls Try.prog 36 #[.slice a n cap, .int .i64 key, tagV c s q] w fun e w' => e = .returned (.bool (lateB ws key ⟨c, s, q⟩)) ∧ Below w.heap.size w w' := by
  have HH := Lib.hid hh
  have HN := Lib.hid hn
  clear hh hn
  have HA : Hid (Below w.heap.size w (w.alloc (.cells #[.int .i64 c, .int .i64 s, .int .i64 q] 34))) := (Below.refl _ _).alloc (Nat.le_refl _) _
  have HBX : Hid ((w.alloc (.cells #[.int .i64 c, .int .i64 s, .int .i64 q] 34)).heap[w.heap.size]? = some (.cells #[.int .i64 c, .int .i64 s, .int .i64 q] 34 (0, 0))) := heap_alloc_new _ _
  have hsz : (w.alloc (.cells #[.int .i64 c, .int .i64 s, .int .i64 q] 34)).heap.size = w.heap.size + 1 := by simp
  go_enter Try.func36, Try.ntmps36
  go_wp2
  generalize w.alloc (.cells #[.int .i64 c, .int .i64 s, .int .i64 q] 34) = W1 at *
  go_loopw [7] (fun i wr => ∃ k : Nat, k ≤ n ∧ i = .int .i64 k ∧ Hid (∀ j, j < k → notLate ws key ⟨c, s, q⟩ j) ∧ Hid (Below W1.heap.size W1 wr)) (fun i _ => n - (intOf i).toNat)
  case atStart => exact ⟨0, Nat.zero_le _, rfl, fun j hj => absurd hj (Nat.not_lt_zero j), Below.refl _ _⟩
  case round =>
    obtain ⟨k, hk, rfl, HP, HB⟩ := hrel
    have HBW : Hid (Below w.heap.size w wr) := below_step HA.out HA.out.size HB.out
    by_cases hk' : k < n
    · have hkw : k < ws.length := by rw [HN.out]; exact hk'
      have i1 : (0 : Int) ≤ (k : Int) := by omega
      have i2 : (k : Int) < (n : Int) := by omega
      obtain ⟨b, o, ad, cp, rfl, hz, ⟨e0, e1, e2, e3, e4, e5, e6⟩, -⟩ := HH.out.at HBW.out HN.out hk'
      have qb := (HB.out.block w.heap.size (by omega)).trans HBX.out
      have g0 := cell_of_row wr w.heap.size 0 _ _ _ qb
      have g1 := cell_of_row wr w.heap.size 1 _ _ _ qb
      have g2 := cell_of_row wr w.heap.size 2 _ _ _ qb
      simp at g0 g1 g2
      have hlt : w.heap.size < wr.heap.size := by have := HB.out.size; omega
      clear qb
      have HHIT : Hid ((ws.getD k wz).k = key → 0 ≤ tcmpT (tgOf (ws.getD k wz)) ⟨c, s, q⟩ → lateB ws key ⟨c, s, q⟩ = true) := fun h1 h2 => late_hit hkw h1 h2
      have HNX : Hid (notLate ws key ⟨c, s, q⟩ k → ∀ j, j < k + 1 → notLate ws key ⟨c, s, q⟩ j) := notLate_next HP.out
      unfold notLate tcmpT tgOf at HNX HHIT
      clear HP
      generalize ws.getD k wz = x at *
      obtain ⟨xk, xc, xs', xq, xv, xd, xx⟩ := x
      simp only at e0 e1 e2 e3 HHIT HNX
      clear e4 e5 e6
      by_cases hxk : xk = key
      · have hd : (xk == key) = true := by simpa using hxk
        by_cases hge : 0 ≤ tcmp xc xs' xq c s q
        · have HR := Lib.hid (HHIT.out hxk hge)
          clear HHIT HNX
          have hdz : decide (0 ≤ tcmp xc xs' xq c s q) = true := decide_eq_true hge
          go_wp2_with fail
          have ge0 := aft_cell hz e0
          have ge1 := aft_cell hz e1
          have ge2 := aft_cell hz e2
          have ge3 := aft_cell hz e3
          have gg0 := aft_cell hlt g0
          have gg1 := aft_cell hlt g1
          have gg2 := aft_cell hlt g2
          have ne := aft_some wr
          refine wp_region_aft (by kernel_rfl) (by kernel_rfl) ?_
          repeat (first | go_big_quiet_step (first | (go_at_call 50; exact aft_of (specTagCmp_any _ _ _ _ _ _ _))))
          refine wpQuiet_nil ?_
          intro wq hq
          have HBQ : Hid (Below w.heap.size w wq) := below_step HBW.out HBW.out.size hq
          clear hq ge0 ge1 ge2 ge3 gg0 gg1 gg2 ne
          go_wp2
          go_ret
          exact ⟨by rw [HR.out]; rfl, HBQ.out⟩
        · have HP2 := Lib.hid (HNX.out fun h => hge h.2)
          clear HHIT HNX
          have hdz : decide (0 ≤ tcmp xc xs' xq c s q) = false := decide_eq_false hge
          go_wp2_with fail
          have ge0 := aft_cell hz e0
          have ge1 := aft_cell hz e1
          have ge2 := aft_cell hz e2
          have ge3 := aft_cell hz e3
          have gg0 := aft_cell hlt g0
          have gg1 := aft_cell hlt g1
          have gg2 := aft_cell hlt g2
          have ne := aft_some wr
          refine wp_region_aft (by kernel_rfl) (by kernel_rfl) ?_
          repeat (first | go_big_quiet_step (first | (go_at_call 50; exact aft_of (specTagCmp_any _ _ _ _ _ _ _))))
          refine wpQuiet_nil ?_
          intro wq hq
          have HBQ : Hid (Below W1.heap.size W1 wq) := below_step HB.out HB.out.size hq
          clear hq ge0 ge1 ge2 ge3 gg0 gg1 gg2 ne
          go_wp2
          exact ⟨⟨k + 1, by omega, by go_num, HP2, HBQ⟩, by simp [intOf]; omega⟩
      · have HP2 := Lib.hid (HNX.out fun h => hxk h.1)
        clear HHIT HNX
        have hd : (xk == key) = false := by simpa using hxk
        go_wp2_with fail
        have ge0 := aft_cell hz e0
        have ne := aft_some wr
        refine wp_region_aft (by kernel_rfl) (by kernel_rfl) ?_
        repeat (first | go_big_quiet_step (fail))
        refine wpQuiet_nil ?_
        intro wq hq
        have HBQ : Hid (Below W1.heap.size W1 wq) := below_step HB.out HB.out.size hq
        clear hq ge0 ne
        go_wp2
        exact ⟨⟨k + 1, by omega, by go_num, HP2, HBQ⟩, by simp [intOf]; omega⟩
    · have hkk : k = n := by omega
      subst hkk
      have HR : Hid (lateB ws key ⟨c, s, q⟩ = false) := late_none fun j hj => HP.out j (by rw [← HN.out]; exact hj)
      go_wp2
      go_ret
      exact ⟨by rw [HR.out]; rfl, HBW.out⟩

end Go.Proofs.Ytomndnopbpbblaa

/- Gaps, the specification's side: the contract of spec.Gaps. -/
namespace Go.Proofs.Ytomndnopbpbblaa
open Go.ChangeShapes Go.WideShapes Go.ChangeAt Go.RowKit Go.Joins
attribute [local go_sem ↓] Go.wp_at_zero Go.wp_at_succ

theorem gapW_nodup {p : Wr → Bool} {out : List Wr} {c : Wr} (h : out.Nodup) : (gapW p out c).Nodup := by
  unfold gapW
  split
  · rename_i hc
    rw [Bool.and_eq_true, notIn_iff] at hc
    refine List.nodup_append.2 ⟨h, by simp, fun y hy z hz e => ?_⟩
    obtain rfl : z = c := by simpa using hz
    subst e
    exact hc.2 hy
  · exact h

theorem gaps_nodup (p : Wr → Bool) : ∀ (cs out : List Wr), out.Nodup → (cs.foldl (gapW p) out).Nodup
  | [], _, h => h
  | _ :: r, _, h => gaps_nodup p r _ (gapW_nodup h)

theorem gaps_sub (p : Wr → Bool) (all : List Wr) : ∀ (cs out : List Wr), (∀ y ∈ out, y ∈ all) → (∀ y ∈ cs, y ∈ all) → ∀ y ∈ cs.foldl (gapW p) out, y ∈ all
  | [], _, h, _ => h
  | c :: r, out, h, hc => gaps_sub p all r _ (by
      unfold gapW
      split
      · intro y hy
        rcases List.mem_append.1 hy with hy | hy
        · exact h y hy
        · obtain rfl : y = c := by simpa using hy
          exact hc y (by simp)
      · exact h) fun y hy => hc y (by simp [hy])

theorem gap_wgt (p : Wr → Bool) {all T : List Wr} (hn : all.Nodup) (h : TellT all T) (ds : List Dp) (i : Nat) : wgt (((causesL all ds).take i).foldl (gapW p) (T.filter p)) ≤ wgt all :=
  bulk_sub _ _ (gaps_nodup p _ _ (h.once.filter _)) (gaps_sub p all _ _ (fun y hy => h.sub y (List.mem_filter.1 hy).1) fun y hy => causes_sub hn _ y (List.mem_of_mem_take hy))

theorem RowEs.grownX {w w' : World} {base g g0 cap : Nat} {es : List En} (h : RowEs w base g cap es) (hg : w.grownBy w' (some g0)) (h1 : g ≠ g0) (h2 : ∀ e ∈ es, e.g ≠ g0) : RowEs w' base g cap es where
  le := h.le
  lt := Nat.lt_of_lt_of_le h.lt hg.size
  own := h.own.kept (row := some g0) hg (.inr (by simpa [Value.ownBlock] using h1))
  deps := fun e he => by
    obtain ⟨q1, q2, q3, q4⟩ := h.deps e he
    refine ⟨q1, Nat.lt_of_lt_of_le q2 hg.size, q3, fun i hi => ?_⟩
    have e' : ∀ o, w'.cell? ⟨e.g, o, none⟩ = w.cell? ⟨e.g, o, none⟩ := fun o => World.cell?_of_block (a := ⟨e.g, o, none⟩) (hg.block e.g q2 (by simpa using h2 e he))
    obtain ⟨a0, a1, a2, a3⟩ := q4 i hi
    exact ⟨(e' _).trans a0, (e' _).trans a1, (e' _).trans a2, (e' _).trans a3⟩

/-- The gaps so far, and the event's block. -/
structure GapQ (w wr : World) (bx : Nat) (o : Obj) (out : List Wr) (g cp : Nat) (gs : List En) : Prop where
  xs : gs.map (·.x) = out
  row : RowEs wr w.heap.size g cp gs
  below : Below w.heap.size w wr
  box : wr.heap[bx]? = some o
  off : g ≠ bx

theorem GapQ.more {w wr w' : World} {bx : Nat} {o : Obj} {out : List Wr} {g cp : Nat} {gs : List En} (h : GapQ w wr bx o out g cp gs) (hb : Below wr.heap.size wr w') : GapQ w w' bx o out g cp gs :=
  ⟨h.xs, h.row.below hb, below_step h.below h.below.size hb, (hb.block bx (Array.getElem?_eq_some_iff.1 h.box).1).trans h.box, h.off⟩

/-- Besides, the causes. -/
structure GapC (w wr : World) (bx : Nat) (o : Obj) (out : List Wr) (g cp : Nat) (gs : List En) (base gc cc : Nat) (cs : List En) : Prop where
  q : GapQ w wr bx o out g cp gs
  row : RowEs wr base gc cc cs
  n1 : gc ≠ g
  n2 : ∀ e ∈ cs, e.g ≠ g

theorem GapC.more {w wr w' : World} {bx : Nat} {o : Obj} {out : List Wr} {g cp : Nat} {gs : List En} {base gc cc : Nat} {cs : List En} (h : GapC w wr bx o out g cp gs base gc cc cs) (hb : Below wr.heap.size wr w') : GapC w w' bx o out g cp gs base gc cc cs :=
  ⟨h.q.more hb, h.row.below hb, h.n1, h.n2⟩

/-- One gap more. -/
theorem GapC.told {w wr w5 : World} {bx : Nat} {o : Obj} {out : List Wr} {g cp g5 cp5 : Nat} {gs : List En} {base gc cc : Nat} {cs : List En} (h : GapC w wr bx o out g cp gs base gc cc cs) {e : En} (he : e ∈ cs) (hb : w.heap.size ≤ base)
    (hown : w5.ownsRow w.heap.size 37 7 (.slice (some ⟨g5, 0, none⟩) (gs.length + 1) cp5) (gs.length + 1) (gs.flatMap wrVals ++ wrVals e)) (hgrow : wr.grownBy w5 (some g)) (hg : some g = some g5 ∨ g5 = wr.heap.size) : GapC w w5 bx o (out ++ [e.x]) g5 cp5 (gs ++ [e]) base gc cc cs := by
  have hbl := (Array.getElem?_eq_some_iff.1 h.q.box).1
  have hd := h.row.deps e he
  have hgc := h.row.lt
  have hoff : ∀ x, x < wr.heap.size → x ≠ g → x ≠ g5 := fun x hx hn => by
    rcases hg with hg | hg
    · injection hg with hg
      omega
    · omega
  exact ⟨⟨by rw [List.map_append, h.q.xs]; rfl, h.q.row.more ⟨Nat.le_trans hb hd.1, hd.2.1, h.n2 e he, hd.2.2.2⟩ hown hgrow hg, h.q.below.grown hgrow h.q.below.size fun j hj => by injection hj with hj; have := h.q.row.le; omega, (hgrow.block bx hbl fun e => h.q.off (by injection e with e; exact e.symm)).trans h.q.box, (hoff bx hbl fun e => h.q.off e.symm).symm⟩, h.row.grownX hgrow h.n1 h.n2, hoff gc hgc h.n1, fun d hd' => hoff d.g (h.row.deps d hd').2.1 (h.n2 d hd')⟩

theorem gapW_yes {p : Wr → Bool} {out : List Wr} {c : Wr} (h : p c = true) (hn : hasW out c = false) : gapW p out c = out ++ [c] := if_pos (by unfold notIn; rw [h, hn]; rfl)

theorem gapW_no {p : Wr → Bool} {out : List Wr} {c : Wr} (h : p c = false) : gapW p out c = out := if_neg (by rw [h]; simp)

theorem gapW_has {p : Wr → Bool} {out : List Wr} {c : Wr} (h : hasW out c = true) : gapW p out c = out := if_neg (by unfold notIn; rw [h]; simp)

theorem gaps_out {es : List Ev} {z : Int} (h : ¬ (0 ≤ z ∧ z < (es.length : Int))) : gapsL es z = [] := if_neg fun e => h e.1

theorem gaps_sh {es : List Ev} {i : Nat} (h : (es.getD i evz).sh = false) : gapsL es (i : Int) = [] := if_neg fun e => by
  have := e.2.1
  simp only [Int.toNat_natCast] at this
  rw [h] at this
  cases this

theorem gaps_mask {es : List Ev} {i : Nat} (h : (es.getD i evz).m < 0) : gapsL es (i : Int) = [] := if_neg fun e => by
  have := e.2.2
  simp only [Int.toNat_natCast] at this
  omega

def gapP (m : Int) (ws : List Wr) (c : Wr) : Bool := bitG m c.k && !lateB ws c.k (tgOf c)

theorem gaps_in {es : List Ev} {i : Nat} (hi : i < es.length) (h : (es.getD i evz).sh = true) (h2 : 0 ≤ (es.getD i evz).m) : gapsL es (i : Int) = (toldT (writtenL es) (es.getD i evz).ws).filter (gapP (es.getD i evz).m (es.getD i evz).ws) := by
  unfold gapsL
  simp only [Int.toNat_natCast]
  rw [if_pos ⟨⟨by omega, by omega⟩, h, h2⟩]
  rfl

set_option maxRecDepth 100000 in
set_option maxHeartbeats 8000000 in
theorem specGaps_any (a : Option Addr) (n cap : Nat) (es : List Ev) (z : Int) (w : World) (hn : es.length = n) (hm : n ≤ 1048576) (hx : FewE es) (hh : heftB (evW es) ≤ 1048576) (hM : ∀ i, i < es.length → (es.getD i evz).m ≤ 9223372036854775807) (hi : IsEs w a es) :
    Calls Try.prog 18 #[.slice a n cap, .int .i64 z] w fun e w' => ∃ v, e = .returned v ∧ RowOf w w' (gapsL es z) v := by
  have HI := Lib.hid hi
  have HN := Lib.hid hn
  have HX := Lib.hid hx
  have HHE := Lib.hid hh
  have HMM := Lib.hid hM
  have HND := Lib.hid (written_nodup es)
  have HWG : Hid (wgt (writtenL es) ≤ 1048576) := Nat.le_trans (written_wgt es) hh
  clear hi hn hx hh hM
  obtain ⟨i0, hi0, hx0⟩ := Option.map_eq_some_iff.1 infoWr
  simp only [Prod.mk.injEq] at hx0
  have HI0 := Lib.hid hi0
  have HX0 := Lib.hid hx0
  clear hi0 hx0
  have HB0 : Hid (Below w.heap.size w (w.alloc (.cells #[] 37))) := (Below.refl _ _).alloc (Nat.le_refl _) _
  have HR0 : Hid (RowEs (w.alloc (.cells #[] 37)) w.heap.size w.heap.size 0 []) := rowEs_start w w.heap.size (Nat.le_refl _)
  have HSZ0 : Hid ((w.alloc (.cells #[] 37)).heap.size = w.heap.size + 1) := by show _ = _; simp
  have HRE : Hid (gapsL es z = [] → RowOf w (w.alloc (.cells #[] 37)) (gapsL es z) (.slice (some ⟨w.heap.size, 0, none⟩) 0 0)) := fun h => by rw [h]; exact rowOf_start w
  go_enter Try.func18, Try.ntmps18
  go_wp2_with fail
  generalize w.alloc (.cells #[] 37) = W0 at *
  refine (between_any _ _ _ _).mono ?_
  rintro e w' ⟨rfl, hw'⟩
  subst w'
  by_cases hz : 0 ≤ z ∧ z < (n : Int)
  case neg =>
    have hbt : btw z 0 ((n : Int) - 1) = false := by
      unfold btw
      simp only [decide_eq_false_iff_not]
      omega
    rw [hbt]
    have HF := Lib.hid (HRE.out (gaps_out (by rw [HN.out]; exact hz)))
    go_wp2
    go_ret
    exact ⟨_, rfl, HF.out⟩
  obtain ⟨i, rfl⟩ : ∃ i : Nat, z = (i : Int) := ⟨z.toNat, by omega⟩
  have hin : i < n := by omega
  have hbt : btw (i : Int) 0 ((n : Int) - 1) = true := by
    unfold btw
    simp only [decide_eq_true_eq]
    omega
  rw [hbt]
  have hiw : i < es.length := by rw [HN.out]; exact hin
  have i1 : (0 : Int) ≤ (i : Int) := by omega
  have i2 : (i : Int) < (n : Int) := by omega
  obtain ⟨b, o, ad, cp, rfl, hzb, e0, hw⟩ := HI.out.at (Below.refl _ w) hiw
  have HW := Lib.hid hw
  have hzb0 : b < W0.heap.size := Nat.lt_of_lt_of_le hzb HB0.out.size
  have HSH : Hid ((es.getD i evz).sh = false → gapsL es (i : Int) = []) := fun h => gaps_sh h
  have HMK : Hid ((es.getD i evz).m < 0 → gapsL es (i : Int) = []) := fun h => gaps_mask h
  have HGI : Hid ((es.getD i evz).sh = true → 0 ≤ (es.getD i evz).m → gapsL es (i : Int) = (toldT (writtenL es) (es.getD i evz).ws).filter (gapP (es.getD i evz).m (es.getD i evz).ws)) := fun h h2 => gaps_in hiw h h2
  have hmi := HMM.out i hiw
  obtain ⟨hli, hfi⟩ := HX.out i hiw
  have HFI := Lib.hid hfi
  replace e0 := e0.of_block (HB0.out.block b hzb)
  clear hfi hw HMM hzb hiw hz
  generalize es.getD i evz = y at *
  obtain ⟨ys, ysh, ym, yw⟩ := y
  unfold EvAt at e0
  simp only at e0 hli HSH HMK HGI hmi HFI HW
  obtain ⟨e0, e1, e2, e3⟩ := e0
  obtain ⟨q, hq⟩ : ∃ q, yw.length = q := ⟨_, rfl⟩
  have HQ := Lib.hid hq
  rw [hq] at e3 hli
  clear hq
  cases ysh
  · have HF := Lib.hid (HRE.out (HSH.out rfl))
    go_wp2
    go_ret
    exact ⟨_, rfl, HF.out⟩
  by_cases hm0 : ym < 0
  · have HF := Lib.hid (HRE.out (HMK.out hm0))
    go_wp2
    go_ret
    exact ⟨_, rfl, HF.out⟩
  have HGE := Lib.hid (HGI.out rfl (by omega))
  clear HRE HSH HMK HGI
  have HBX : Hid ((W0.alloc (.cells #[.int .i64 ys, .bool true, .int .i64 ym, .slice ad q cp] 59)).heap[W0.heap.size]? = some (.cells #[.int .i64 ys, .bool true, .int .i64 ym, .slice ad q cp] 59 (0, 0))) := heap_alloc_new W0 _
  have HT0 : Hid (GapQ w (W0.alloc (.cells #[.int .i64 ys, .bool true, .int .i64 ym, .slice ad q cp] 59)) W0.heap.size (.cells #[.int .i64 ys, .bool true, .int .i64 ym, .slice ad q cp] 59 (0, 0)) ((toldT (writtenL es) (yw.take 0)).filter (gapP ym yw)) w.heap.size 0 []) := by
    refine ⟨rfl, HR0.out.below ((Below.refl _ _).alloc (Nat.le_refl _) _), HB0.out.alloc HB0.out.size _, HBX.out, ?_⟩
    have := HSZ0.out
    omega
  obtain ⟨BX, hBX⟩ : ∃ BX, W0.heap.size = BX := ⟨_, rfl⟩
  rw [hBX] at HT0
  go_wp2
  try rw [hBX]
  generalize W0.alloc (.cells #[.int .i64 ys, .bool true, .int .i64 ym, .slice ad q cp] 59) = W1 at *
  clear e0 e1 e2 e3 hBX HBX HSZ0 HR0 HB0 hzb0
  obtain ⟨all, hall⟩ : ∃ all, writtenL es = all := ⟨_, rfl⟩
  have HALL := Lib.hid hall
  rw [hall] at HT0 HND HWG HGE
  clear hall
  go_loopw [5, 7] (fun t5 t7 wr => ∃ (k : Nat) (out : List Wr) (g cg : Nat) (gs : List En), k ≤ q ∧ t5 = .slice (some ⟨g, 0, none⟩) out.length cg ∧ t7 = .int .i64 k ∧ Hid (out = (toldT all (yw.take k)).filter (gapP ym yw)) ∧ Hid (GapQ w wr BX (.cells #[.int .i64 ys, .bool true, .int .i64 ym, .slice ad q cp] 59 (0, 0)) out g cg gs)) (fun _ i _ => q - (intOf i).toNat)
  case atStart => exact ⟨0, _, _, _, _, Nat.zero_le _, rfl, rfl, rfl, HT0⟩
  case round =>
    clear HT0
    obtain ⟨k, out, g, cg, gs, hk, rfl, rfl, HO, HT⟩ := hrel
    have b2 := cell_of_row wr BX 2 _ _ _ HT.out.box
    have b3 := cell_of_row wr BX 3 _ _ _ HT.out.box
    simp at b2 b3
    by_cases hk' : k < q
    · have hkw : k < yw.length := by rw [HQ.out]; exact hk'
      have j1 : (0 : Int) ≤ (k : Int) := by omega
      have j2 : (k : Int) < (q : Int) := by omega
      obtain ⟨bz, oz, az, cz, hza, hbz, ⟨f0, f1, f2, f3, f4, f5, f6⟩, hdz⟩ := HW.out.at HT.out.below HQ.out hk'
      subst hza
      have hxl := HFI.out k hkw
      have HNX : Hid (((causesL all (yw.getD k wz).xs).take ((causesL all (yw.getD k wz).xs).length)).foldl (gapW (gapP ym yw)) out = (toldT all (yw.take (k + 1))).filter (gapP ym yw)) := by
        rw [List.take_of_length_le (Nat.le_refl _), HO.out, gap_tell (gapP ym yw) HND.out, toldT_next all yw hkw]
        exact Lib.hid rfl
      have HMW : Hid (∀ j, wgt (((causesL all (yw.getD k wz).xs).take j).foldl (gapW (gapP ym yw)) out) ≤ 1048576) := fun j => by
        rw [HO.out]
        exact Nat.le_trans (gap_wgt (gapP ym yw) HND.out (toldT_is HND.out _) _ j) HWG.out
      have HCA := Lib.hid (fun W (hW : Below w.heap.size w W) (hd : IsDeps W az (yw.getD k wz).xs) => specCauses_any (some ⟨b, o, none⟩) n cap es (yw.getD k wz) az cz W HN.out hm HX.out HHE.out (HI.out.below hW) hxl hd (by rw [HALL.out]; exact HND.out))
      rw [HALL.out] at HCA
      have HDZ := Lib.hid hdz
      clear hdz
      generalize yw.getD k wz = x at *
      obtain ⟨xk, xc, xs', xq, xv, xd, xx⟩ := x
      unfold wrOf at HCA
      simp only at f0 f1 f2 f3 f4 f5 f6 hxl HCA HDZ HNX HMW
      have HCC := Lib.hid (HCA.out wr HT.out.below HDZ.out)
      clear HCA HDZ
      have HCX : Hid (∀ y ∈ causesL all xx, y.xs.length ≤ 1048576) := fun y hy => by
        obtain ⟨j, hj, rfl⟩ := mem_getDe wz (causes_sub HND.out _ y hy)
        exact few_wgt HWG.out j hj
      have hcl : (causesL all xx).length ≤ 1048576 := by
        have h1 := bulk_sub _ _ (causes_nodup HND.out xx) (causes_sub HND.out xx)
        have h2 := HWG.out
        unfold wgt at h1 h2
        omega
      obtain ⟨cs0, hcs0⟩ : ∃ cs0, causesL all xx = cs0 := ⟨_, rfl⟩
      rw [hcs0] at HCC HNX HMW HCX hcl
      clear hcs0
      go_wp2_with fail
      refine HCC.out.mono ?_
      rintro e w2 ⟨v2, rfl, gc, cc, cs, rfl, hcx, hcr, hcb⟩
      have HG0 : Hid (GapC w w2 BX (.cells #[.int .i64 ys, .bool true, .int .i64 ym, .slice (some ⟨bz, oz, none⟩) q cp] 59 (0, 0)) ((cs0.take 0).foldl (gapW (gapP ym yw)) out) g cg gs wr.heap.size gc cc cs) := by
        have h1 := HT.out.row.lt
        have h2 := hcr.le
        exact ⟨HT.out.more hcb, hcr, by omega, fun e he => by have := (hcr.deps e he).1; omega⟩
      have HBW : Hid (w.heap.size ≤ wr.heap.size) := HT.out.below.size
      have HCS : Hid (cs.map (·.x) = cs0) := hcx
      clear hcx hcr hcb HT HCC b2 b3 f0 f1 f2 f3 f4 f5 f6 hbz
      obtain ⟨C, hC⟩ : ∃ C, cs0.length = C := ⟨_, rfl⟩
      have HCN := Lib.hid hC
      rw [hC]
      rw [hC] at HNX hcl
      clear hC
      obtain ⟨BS, hBS⟩ : ∃ BS, wr.heap.size = BS := ⟨_, rfl⟩
      rw [hBS] at HG0 HBW
      clear hBS
      go_wp2
      go_loopw [5, 9] (fun t5 t9 wr => ∃ (j : Nat) (ou : List Wr) (g cg : Nat) (gs : List En), j ≤ C ∧ t5 = .slice (some ⟨g, 0, none⟩) ou.length cg ∧ t9 = .int .i64 j ∧ Hid (ou = (cs0.take j).foldl (gapW (gapP ym yw)) out) ∧ Hid (GapC w wr BX (.cells #[.int .i64 ys, .bool true, .int .i64 ym, .slice (some ⟨bz, oz, none⟩) q cp] 59 (0, 0)) ou g cg gs BS gc cc cs)) (fun _ i _ => C - (intOf i).toNat)
      case atStart => exact ⟨0, _, _, _, _, Nat.zero_le _, rfl, rfl, rfl, HG0⟩
      case round =>
        clear HG0
        obtain ⟨j, ou, g, cg, gs, hj, rfl, rfl, HU, HG⟩ := hrel
        by_cases hj' : j < C
        · have hjw : j < cs0.length := by rw [HCN.out]; exact hj'
          have hjc : j < cs.length := by
            have := congrArg List.length HCS.out
            rw [List.length_map] at this
            omega
          have i3 : (0 : Int) ≤ (j : Int) := by omega
          have i4 : (j : Int) < (C : Int) := by omega
          obtain ⟨e0, e1, e2, e3, e4, e5, e6⟩ := rowEs_at HG.out.row hjc
          have hxe : cs0.getD j wz = (cs.getD j ez).x := by rw [← HCS.out]; simp [List.getD, hjc]
          have HNI := Lib.hid (foldl_next (gapW (gapP ym yw)) cs0 out wz hjw)
          rw [hxe, ← HU.out] at HNI
          have hxl2 := HCX.out (cs0.getD j wz) (by simp [List.getD, hjw])
          rw [hxe] at hxl2
          have HMEM : Hid (cs.getD j ez ∈ cs) := by
            have : cs.getD j ez ∈ cs := by simp [List.getD, hjc]
            exact this
          have hwg := HMW.out j
          rw [← HU.out] at hwg
          have hol : ou.length ≤ 1048576 := by unfold wgt at hwg; omega
          have HOF : Hid (Few ou) := few_wgt hwg
          have HGW : Hid (IsWs wr (some ⟨g, 0, none⟩) ou) := HG.out.q.row.isWs HG.out.q.xs HOF.out
          have HYW : Hid (IsWs wr (some ⟨bz, oz, none⟩) yw) := HW.out.below HG.out.q.below
          have hgl : gs.length = ou.length := by
            have h := congrArg List.length HG.out.q.xs
            rwa [List.length_map] at h
          have b2 := cell_of_row wr BX 2 _ _ _ HG.out.q.box
          have b3 := cell_of_row wr BX 3 _ _ _ HG.out.q.box
          simp at b2 b3
          have hbb : BX < wr.heap.size := (Array.getElem?_eq_some_iff.1 HG.out.q.box).1
          have hgz : gc < wr.heap.size := HG.out.row.lt
          have HDZ : Hid (IsDeps wr (some ⟨(cs.getD j ez).g, 0, none⟩) (cs.getD j ez).x.xs) := by
            obtain ⟨-, q2, -, q4⟩ := HG.out.row.deps _ HMEM.out
            exact .inr ⟨_, 0, rfl, q2, q4⟩
          clear hxe hwg hjw hjc
          generalize cs.getD j ez = c at *
          obtain ⟨⟨zk, zc, zs, zq, zv, zd, zz⟩, zg, zp⟩ := c
          simp only at e0 e1 e2 e3 e4 e5 e6 hxl2 HDZ HNI
          obtain ⟨L, hL⟩ : ∃ L, ou.length = L := ⟨_, rfl⟩
          have HLN := Lib.hid hL
          rw [hL] at hol hgl ⊢
          clear hL
          have HLA : Hid (∀ p : Aft wr.heap.size wr, Calls Try.prog 36 #[.slice (some ⟨bz, oz, none⟩) q cp, .int .i64 zk, tagV zc zs zq] p.now fun e w' => e = .returned (.bool (lateB yw zk ⟨zc, zs, zq⟩)) ∧ Below p.now.heap.size p.now w') := fun p =>
            late_any (some ⟨bz, oz, none⟩) q cp zk zc zs zq yw p.now HQ.out hli (HYW.out.below p.below)
          have HHP : Hid (∀ p : Aft wr.heap.size wr, Calls Try.prog 23 #[.slice (some ⟨g, 0, none⟩) L cg, wrV zk zc zs zq zv zd (some ⟨zg, 0, none⟩) zz.length zp] p.now fun e w' => e = .returned (.bool (hasW ou ⟨zk, zc, zs, zq, zv, zd, zz⟩)) ∧ Below p.now.heap.size p.now w') := fun p =>
            specHas_any _ L _ ou ⟨zk, zc, zs, zq, zv, zd, zz⟩ (some ⟨zg, 0, none⟩) zp _ HLN.out hol HOF.out hxl2 (HGW.out.below p.below) (HDZ.out.below p.below)
          have HNO : Hid (gapP ym yw ⟨zk, zc, zs, zq, zv, zd, zz⟩ = false → (cs0.take (j + 1)).foldl (gapW (gapP ym yw)) out = ou) := fun h => HNI.out.trans (gapW_no h)
          have HNH : Hid (hasW ou ⟨zk, zc, zs, zq, zv, zd, zz⟩ = true → (cs0.take (j + 1)).foldl (gapW (gapP ym yw)) out = ou) := fun h => HNI.out.trans (gapW_has h)
          have HNY : Hid (gapP ym yw ⟨zk, zc, zs, zq, zv, zd, zz⟩ = true → hasW ou ⟨zk, zc, zs, zq, zv, zd, zz⟩ = false → (cs0.take (j + 1)).foldl (gapW (gapP ym yw)) out = ou ++ [⟨zk, zc, zs, zq, zv, zd, zz⟩]) := fun h h2 => HNI.out.trans (gapW_yes h h2)
          have hgp : gapP ym yw ⟨zk, zc, zs, zq, zv, zd, zz⟩ = (bitG ym zk && !lateB yw zk ⟨zc, zs, zq⟩) := rfl
          rw [hgp] at HNO HNY
          have HAS : Hid (∀ w, Calls Try.prog 35 #[.int .i64 ym, .int .i64 zk] w fun e w' => e = .returned (.bool (bitG ym zk)) ∧ w' = w) := fun w => asked_any ym zk w hmi
          clear hgp HNI
          generalize bitG ym zk = ab at *
          generalize lateB yw zk ⟨zc, zs, zq⟩ = lb at *
          generalize hasW ou ⟨zk, zc, zs, zq, zv, zd, zz⟩ = hb at *
          go_wp2_with fail
          have g0 := aft_cell hgz e0
          have g1 := aft_cell hgz e1
          have g2 := aft_cell hgz e2
          have g3 := aft_cell hgz e3
          have g4 := aft_cell hgz e4
          have g5 := aft_cell hgz e5
          have g6 := aft_cell hgz e6
          have k2 := aft_cell hbb b2
          have k3 := aft_cell hbb b3
          have ne := aft_some wr
          have hstay : ∀ wq, Below wr.heap.size wr wq → GapC w wq BX (.cells #[.int .i64 ys, .bool true, .int .i64 ym, .slice (some ⟨bz, oz, none⟩) q cp] 59 (0, 0)) ou g cg gs BS gc cc cs := fun wq hq => HG.out.more hq
          have HST := Lib.hid hstay
          clear hstay
          cases ab
          · have HNM := Lib.hid (HNO.out rfl)
            refine wp_region_aft (by kernel_rfl) (by kernel_rfl) ?_
            repeat (first | go_big_quiet_step (first | (go_at_call 35; exact aft_same (HAS.out _))))
            refine wpQuiet_nil ?_
            intro wq hq
            have HT3 := Lib.hid (HST.out wq hq)
            clear hq g0 g1 g2 g3 g4 g5 g6 k2 k3 ne HHP HLA HAS HG HST e0 e1 e2 e3 e4 e5 e6 b2 b3
            go_wp2
            exact ⟨⟨j + 1, ou, _, _, _, by omega, by rw [HLN.out], by go_num, HNM.out.symm, HT3⟩, by simp [intOf]; omega⟩
          cases lb
          rotate_left
          · have HNM := Lib.hid (HNO.out rfl)
            refine wp_region_aft (by kernel_rfl) (by kernel_rfl) ?_
            repeat (first | go_big_quiet_step (first | (go_at_call 35; exact aft_same (HAS.out _)) | (go_at_call 36; exact aft_of (HLA.out _))))
            refine wpQuiet_nil ?_
            intro wq hq
            have HT3 := Lib.hid (HST.out wq hq)
            clear hq g0 g1 g2 g3 g4 g5 g6 k2 k3 ne HHP HLA HAS HG HST e0 e1 e2 e3 e4 e5 e6 b2 b3
            go_wp2
            exact ⟨⟨j + 1, ou, _, _, _, by omega, by rw [HLN.out], by go_num, HNM.out.symm, HT3⟩, by simp [intOf]; omega⟩
          cases hb
          rotate_left
          · have HNM := Lib.hid (HNH.out rfl)
            refine wp_region_aft (by kernel_rfl) (by kernel_rfl) ?_
            repeat (first | go_big_quiet_step (first | (go_at_call 35; exact aft_same (HAS.out _)) | (go_at_call 36; exact aft_of (HLA.out _)) | (go_at_call 23; exact aft_of (HHP.out _))))
            refine wpQuiet_nil ?_
            intro wq hq
            have HT3 := Lib.hid (HST.out wq hq)
            clear hq g0 g1 g2 g3 g4 g5 g6 k2 k3 ne HHP HLA HAS HG HST e0 e1 e2 e3 e4 e5 e6 b2 b3
            go_wp2
            exact ⟨⟨j + 1, ou, _, _, _, by omega, by rw [HLN.out], by go_num, HNM.out.symm, HT3⟩, by simp [intOf]; omega⟩
          have HNM := Lib.hid (HNY.out rfl rfl)
          refine wp_region_aft (by kernel_rfl) (by kernel_rfl) ?_
          repeat (first | go_big_quiet_step (first | (go_at_call 35; exact aft_same (HAS.out _)) | (go_at_call 36; exact aft_of (HLA.out _)) | (go_at_call 23; exact aft_of (HHP.out _))))
          refine wpQuiet_nil ?_
          intro w3 hb3
          replace e0 := (hb3.cell (p := ⟨gc, j * 7, none⟩) hgz).trans e0
          replace e1 := (hb3.cell (p := ⟨gc, j * 7 + 1, none⟩) hgz).trans e1
          replace e2 := (hb3.cell (p := ⟨gc, j * 7 + 2, none⟩) hgz).trans e2
          replace e3 := (hb3.cell (p := ⟨gc, j * 7 + 3, none⟩) hgz).trans e3
          replace e4 := (hb3.cell (p := ⟨gc, j * 7 + 4, none⟩) hgz).trans e4
          replace e5 := (hb3.cell (p := ⟨gc, j * 7 + 5, none⟩) hgz).trans e5
          replace e6 := (hb3.cell (p := ⟨gc, j * 7 + 6, none⟩) hgz).trans e6
          have HG3 := Lib.hid (HST.out w3 hb3)
          clear hb3 g0 g1 g2 g3 g4 g5 g6 k2 k3 ne HHP HLA HAS HG HST HGW HYW HDZ b2 b3
          have HBA : Hid (Below w3.heap.size w3 (w3.alloc (.cells #[.int .i64 zk, .int .i64 zc, .int .i64 zs, .int .i64 zq, .int .i64 zv, .bool zd, .slice (some ⟨zg, 0, none⟩) zz.length zp] 37))) := (Below.refl _ _).alloc (Nat.le_refl _) _
          have HSA := Lib.hid (HG3.out.more HBA.out)
          have HOW : Hid ((w3.alloc (.cells #[.int .i64 zk, .int .i64 zc, .int .i64 zs, .int .i64 zq, .int .i64 zv, .bool zd, .slice (some ⟨zg, 0, none⟩) zz.length zp] 37)).ownsRow w.heap.size 37 7 (.slice (some ⟨g, 0, none⟩) L cg) L (gs.flatMap wrVals)) := by
            have := HSA.out.q.row.own
            rw [hgl] at this
            exact this
          have hsz : w.heap.size ≤ w3.heap.size := HG3.out.q.below.size
          go_wp2_with (at_builtin; refine wpList_append_lies _ (by rfl) _ _ _ (by rfl) w.heap.size 37 i0 (wrV 0 0 0 0 0 false none 0 0) 7 72 Try.underlying30 HI0.out HX0.out.1 HX0.out.2.1 HX0.out.2.2 (by rfl) (by omega) (.slice (some ⟨g, 0, none⟩) L cg) L (gs.flatMap wrVals) (by rfl) HOW.out ⟨w3.heap.size, 0, none⟩ 1 1 (wrVals ⟨⟨zk, zc, zs, zq, zv, zd, zz⟩, zg, zp⟩) (by rfl) (by rfl) (one_cells w3 _ ⟨⟨zk, zc, zs, zq, zv, zd, zz⟩, zg, zp⟩) (by simpa using vals_one [⟨⟨zk, zc, zs, zq, zv, zd, zz⟩, zg, zp⟩]) (by omega) (by unfold maxLen; omega) (by omega) (by simp; omega) _ rfl ?_; intro g3 cp3 w5 hown hgrow hg3 _; refine Hid.out ?_)
          refine Lib.hid ?_
          have HT5 : Hid (GapC w w5 BX (.cells #[.int .i64 ys, .bool true, .int .i64 ym, .slice (some ⟨bz, oz, none⟩) q cp] 59 (0, 0)) (ou ++ [⟨zk, zc, zs, zq, zv, zd, zz⟩]) g3 cp3 (gs ++ [⟨⟨zk, zc, zs, zq, zv, zd, zz⟩, zg, zp⟩]) BS gc cc cs) :=
            HSA.out.told (e := ⟨⟨zk, zc, zs, zq, zv, zd, zz⟩, zg, zp⟩) HMEM.out HBW.out (by rw [hgl]; exact hown) hgrow hg3
          clear hown hgrow hg3 HOW HSA HBA HG3 e0 e1 e2 e3 e4 e5 e6
          go_wp2
          exact ⟨⟨j + 1, ou ++ [⟨zk, zc, zs, zq, zv, zd, zz⟩], _, _, _, by omega, by rw [List.length_append, HLN.out]; rfl, by go_num, Lib.hid HNM.out.symm, HT5⟩, by simp [intOf]; omega⟩
        · have hjj : j = C := by omega
          subst hjj
          have HO2 : Hid (ou = (toldT all (yw.take (k + 1))).filter (gapP ym yw)) := by rw [HU.out, HNX.out]; exact Lib.hid rfl
          have HG2 := Lib.hid HG.out.q
          go_wp2
          exact ⟨⟨k + 1, _, _, _, _, by omega, rfl, by go_num, HO2, HG2⟩, by simp [intOf]; omega⟩
    · have hkk : k = q := by omega
      subst hkk
      have HE : Hid (gapsL es (i : Int) = out) := by
        rw [HGE.out, HO.out, List.take_of_length_le (by rw [HQ.out]; exact Nat.le_refl _)]
        exact Lib.hid rfl
      go_wp2
      go_ret
      exact ⟨.slice (some ⟨g, 0, none⟩) out.length cg, rfl, g, cg, gs, by rw [HE.out], by rw [HE.out]; exact HT.out.xs, HT.out.row, HT.out.below⟩

end Go.Proofs.Ytomndnopbpbblaa

/- The keys of two maps: a key as a site has it, and what a dependency says. -/
namespace Go.Proofs.Ytomndnopbpbblaa
open Go.ChangeShapes Go.WideShapes Go.ChangeAt Go.RowKit Go.Joins Go.Maps

structure SK where
  s : Int
  k : Int

abbrev skV (x : SK) : Value := .agg #[.int .i64 x.s, .int .i64 x.k]

def skL (x : SK) : Lit := .string (keyBytes [.int .i64 x.s, .int .i64 x.k])

set_option maxRecDepth 100000 in
theorem sk_row : (79 : TypeId) < Try.prog.types.size := of_decide_eq_true (by kernel_rfl)

set_option maxRecDepth 100000 in
theorem sk_cells : Try.prog.cellsOf 79 = 2 := by kernel_rfl

set_option maxRecDepth 100000 in
theorem int_cells1 : Try.prog.cellsOf 3 = 1 := by kernel_rfl

set_option maxRecDepth 100000 in
theorem sk_wide : (match Try.prog.underlying 79 with | some (.array _ _) | some (.struct _) => true | _ => false) = true := by rw [Try.underlying79]

set_option maxRecDepth 100000 in
theorem sk_law : Keyed Try.prog 79 := Keyed.of_law (deep_law_laid laidOut (m := 2) (by omega) sk_row (by kernel_rfl) sk_wide)

set_option maxRecDepth 100000 in
theorem sk_type : Try.prog.keyType 79 = true := by kernel_rfl

set_option maxRecDepth 100000 in
theorem sk_key (x : SK) (h : R64 x.s ∧ R64 x.k) : keyOf Try.prog 79 (skV x) = some (skL x) := by
  have hf : (skV x).formed Try.prog 79 = true := by simp [Value.formed, Try.underlying79, sk_cells]
  obtain ⟨m, hm⟩ : ∃ m, Try.prog.types.size = m + 1 := ⟨Try.prog.types.size - 1, (Nat.sub_add_cancel (Nat.lt_of_le_of_lt (Nat.zero_le _) sk_row)).symm⟩
  unfold keyOf
  rw [Try.underlying79]
  simp only [sk_type, hf, Bool.and_self, if_true]
  rw [hm]
  simp [Program.keyLits, Try.underlying79, Try.underlying3, sk_cells, int_cells1, Value.cells, r64_wf h.1, r64_wf h.2, skL, List.range]

def keyS : KeyG SK 79 where
  v := fun x => skV x
  l := skL
  ok := fun x => R64 x.s ∧ R64 x.k
  law := sk_law
  key := sk_key
  inj := fun x y h => by
    cases x
    cases y
    simp at h
    simp [h]

end Go.Proofs.Ytomndnopbpbblaa

/- The last tags: the contracts of impl's latest: lacks, add, isPast. -/
namespace Go.Proofs.Ytomndnopbpbblaa
open Go.ChangeShapes Go.WideShapes Go.ChangeAt Go.RowKit Go.Joins Go.Maps
attribute [local go_sem ↓] Go.wp_at_zero Go.wp_at_succ

def tgV (t : Tg) : Value := tagV t.c t.s t.q

/-- Block b is a map that has f's tags. -/
def LatIs (w : World) (b n : Nat) (f : Int → Int → Option Tg) : Prop := MapIs keyS w b n (fun x => (f x.s x.k).map tgV)

theorem LatIs.below {w w' : World} {b n : Nat} {f : Int → Int → Option Tg} (h : LatIs w b n f) (hb : Below w.heap.size w w') : LatIs w' b n f := MapIs.below h hb

theorem latZero (w : World) : (zeroValue 34).run Try.prog w = .ok (tagV 0 0 0) w := by kernel_rfl

set_option maxRecDepth 100000 in
set_option maxHeartbeats 2000000 in
theorem lacks_any (b n : Nat) (f : Int → Int → Option Tg) (s k c ts q : Int) (w : World) (hs : R64 s) (hk : R64 k) (h : LatIs w b n f) :
    Calls Try.prog 40 #[.map (some b), .agg #[.int .i64 s, .int .i64 k], tagV c ts q] w fun e w' => e = .returned (.bool (lacksT f s k ⟨c, ts, q⟩)) ∧ Below w.heap.size w w' := by
  have HH := Lib.hid h
  have HK : Hid (keyS.ok ⟨s, k⟩) := ⟨hs, hk⟩
  clear h hs hk
  have HBA : Hid (Below w.heap.size w ((w.alloc (.cells #[.int .i64 s, .int .i64 k] 79)).alloc (.cells #[.int .i64 c, .int .i64 ts, .int .i64 q] 34))) := ((Below.refl _ _).alloc (Nat.le_refl _) _).alloc (by simp) _
  have HMA := Lib.hid (HH.out.below HBA.out)
  cases hf : f s k with
  | none =>
    have HF : Hid ((f s k).map tgV = none) := by rw [hf]; rfl
    have HR : Hid (lacksT f s k ⟨c, ts, q⟩ = true) := lacksT_none hf _
    clear hf
    go_enter Try.func40, Try.ntmps40
    go_wp2_with (at_lookup; refine wpList_lookG (K := keyS) (by rfl) _ _ 73 34 (by rfl) Try.underlying73 (latZero _) HMA.out ⟨s, k⟩ HK.out (by rfl) (by rfl) ?_; simp only [HF.out, lookAns])
    go_ret
    exact ⟨by rw [HR.out]; rfl, HBA.out.alloc (by simp; omega) _⟩
  | some l =>
    obtain ⟨lc, ls, lq⟩ := l
    have HF : Hid ((f s k).map tgV = some (tagV lc ls lq)) := by rw [hf]; rfl
    have HR : Hid (lacksT f s k ⟨c, ts, q⟩ = decide (tcmp lc ls lq c ts q < 0)) := lacksT_some hf _
    clear hf
    have HBB : Hid (Below w.heap.size w (((w.alloc (.cells #[.int .i64 s, .int .i64 k] 79)).alloc (.cells #[.int .i64 c, .int .i64 ts, .int .i64 q] 34)).alloc (.cells #[.int .i64 lc, .int .i64 ls, .int .i64 lq] 34))) := HBA.out.alloc (by simp; omega) _
    go_enter Try.func40, Try.ntmps40
    go_wp2_with (at_lookup; refine wpList_lookG (K := keyS) (by rfl) _ _ 73 34 (by rfl) Try.underlying73 (latZero _) HMA.out ⟨s, k⟩ HK.out (by rfl) (by rfl) ?_; simp only [HF.out, lookAns])
    refine (implTagCmp_any _ _ _ _ _ _ _).mono ?_
    rintro e w1 ⟨rfl, hb⟩
    have HB1 : Hid (Below w.heap.size w w1) := below_step HBB.out HBB.out.size hb
    clear hb HBB HBA HMA
    generalize tcmp lc ls lq c ts q = z at *
    go_wp2
    go_ret
    exact ⟨by rw [HR.out]; rfl, HB1.out⟩

theorem LatIs.grown {w w' : World} {b n r : Nat} {f : Int → Int → Option Tg} (h : LatIs w b n f) (hg : w.grownBy w' (some r)) (hne : b ≠ r) : LatIs w' b n f := MapIs.of_block h (hg.block b h.lt fun e => hne (by injection e))

theorem addT_lacks {f : Int → Int → Option Tg} {s : Int} {x : Wr} (h : lacksT f s x.k (tgOf x) = true) : addT f s x = putT f s x.k (tgOf x) := if_pos h

theorem addT_has {f : Int → Int → Option Tg} {s : Int} {x : Wr} (h : lacksT f s x.k (tgOf x) = false) : addT f s x = f := if_neg (by rw [h]; simp)

theorem putT_at (f : Int → Int → Option Tg) (s k : Int) (t : Tg) : (putT f s k t s k).map tgV = some (tgV t) := by
  unfold putT
  rw [if_pos ⟨rfl, rfl⟩]
  rfl

theorem putT_off (f : Int → Int → Option Tg) (s k : Int) (t : Tg) {x : SK} (h : x ≠ ⟨s, k⟩) : (putT f s k t x.s x.k).map tgV = (f x.s x.k).map tgV := by
  unfold putT
  rw [if_neg fun e => h (by cases x; simp at e; simp [e])]

set_option maxRecDepth 100000 in
set_option maxHeartbeats 4000000 in
theorem latAdd_any (b n : Nat) (f : Int → Int → Option Tg) (s : Int) (sh : Bool) (m : Int) (a : Option Addr) (q cap : Nat) (ws : List Wr) (w0 w : World) (hs : R64 s) (hn : ws.length = q) (hq : q ≤ 1048576) (hnn : n ≤ 4611686018427387904) (hr : WsR ws) (hi : IsWs w0 a ws) (hb : Below w0.heap.size w0 w) (hB : w0.heap.size ≤ b) (h : LatIs w b n f) :
    Calls Try.prog 38 #[.map (some b), evV s sh m a q cap] w fun e w' => e = .returned (.tuple #[]) ∧ LatIs w' b (n + q) (addAll f s ws) ∧ w.grownBy w' (some b) := by
  have HI := Lib.hid hi
  have HN := Lib.hid hn
  have HR := Lib.hid hr
  have hlt : b < w.heap.size := h.lt
  have hw0 : w0.heap.size ≤ w.heap.size := hb.size
  have HA : Hid (Below w.heap.size w (w.alloc (.cells #[.int .i64 s, .bool sh, .int .i64 m, .slice a q cap] 59))) := (Below.refl _ _).alloc (Nat.le_refl _) _
  have HH := Lib.hid (h.below HA.out)
  have HB0 : Hid (Below w0.heap.size w0 w) := hb
  have HBX : Hid ((w.alloc (.cells #[.int .i64 s, .bool sh, .int .i64 m, .slice a q cap] 59)).heap[w.heap.size]? = some (.cells #[.int .i64 s, .bool sh, .int .i64 m, .slice a q cap] 59 (0, 0))) := heap_alloc_new _ _
  have HSZ : Hid (w.heap.size < (w.alloc (.cells #[.int .i64 s, .bool sh, .int .i64 m, .slice a q cap] 59)).heap.size) := by show _ < _; simp
  have HS := Lib.hid hs
  clear hi hn hr h hb hs
  go_enter Try.func38, Try.ntmps38
  go_wp2
  generalize w.alloc (.cells #[.int .i64 s, .bool sh, .int .i64 m, .slice a q cap] 59) = W0 at *
  go_loopw [10] (fun i wr => ∃ k : Nat, k ≤ q ∧ i = .int .i64 k ∧ Hid (LatIs wr b (n + k) (addAll f s (ws.take k))) ∧ Hid (W0.grownBy wr (some b))) (fun i _ => q - (intOf i).toNat)
  case atStart => exact ⟨0, Nat.zero_le _, rfl, HH, grown_of_below (Below.refl _ _) _⟩
  case round =>
    obtain ⟨k, hk, rfl, HL, HG⟩ := hrel
    by_cases hk' : k < q
    · have HB : Hid (Below w0.heap.size w0 wr) := HB0.out.grown (grown_trans (grown_of_below HA.out (some b)) HG.out) hw0 fun j hj => by injection hj with hj; omega
      obtain ⟨bl, o, ad, cp, rfl, hz, ⟨e0, e1, e2, e3, e4, e5, e6⟩, -⟩ := HI.out.base HB.out HN.out hk'
      have i1 : (0 : Int) ≤ (k : Int) := by omega
      have i2 : (k : Int) < (q : Int) := by omega
      have hkw : k < ws.length := by rw [HN.out]; exact hk'
      have HKO : Hid (R64 (ws.getD k wz).k) := (HR.out k hkw).1
      have HT := Lib.hid (addAll_take f s ws hkw)
      have qb := (HG.out.block w.heap.size HSZ.out fun e => by injection e with e; omega).trans HBX.out
      have d0 := cell_of_row wr w.heap.size 0 _ _ _ qb
      simp at d0
      have hlt2 : w.heap.size < wr.heap.size := Nat.lt_of_lt_of_le HSZ.out HG.out.size
      clear qb HB
      generalize ws.getD k wz = x at *
      generalize addAll f s (ws.take k) = F at *
      obtain ⟨xk, xc, xs', xq, xv, xd, xx⟩ := x
      simp only at e0 e1 e2 e3 e4 e5 e6 HKO
      have HB1 : Hid (Below wr.heap.size wr ((wr.alloc (.cells #[.int .i64 xk, .int .i64 xc, .int .i64 xs', .int .i64 xq, .int .i64 xv, .bool xd, .slice ad xx.length cp] 37)).alloc (.cells #[.int .i64 s, .int .i64 xk] 79))) := ((Below.refl _ _).alloc (Nat.le_refl _) _).alloc (by simp) _
      have HL1 := Lib.hid (HL.out.below HB1.out)
      have HQ5 : Hid (((wr.alloc (.cells #[.int .i64 xk, .int .i64 xc, .int .i64 xs', .int .i64 xq, .int .i64 xv, .bool xd, .slice ad xx.length cp] 37)).alloc (.cells #[.int .i64 s, .int .i64 xk] 79)).heap[wr.heap.size]? = some (.cells #[.int .i64 xk, .int .i64 xc, .int .i64 xs', .int .i64 xq, .int .i64 xv, .bool xd, .slice ad xx.length cp] 37 (0, 0))) := heap_alloc2_old wr _ _
      have HQ6 : Hid (((wr.alloc (.cells #[.int .i64 xk, .int .i64 xc, .int .i64 xs', .int .i64 xq, .int .i64 xv, .bool xd, .slice ad xx.length cp] 37)).alloc (.cells #[.int .i64 s, .int .i64 xk] 79)).heap[wr.heap.size + 1]? = some (.cells #[.int .i64 s, .int .i64 xk] 79 (0, 0))) := heap_alloc2_new wr _ _
      have hs2 : ((wr.alloc (.cells #[.int .i64 xk, .int .i64 xc, .int .i64 xs', .int .i64 xq, .int .i64 xv, .bool xd, .slice ad xx.length cp] 37)).alloc (.cells #[.int .i64 s, .int .i64 xk] 79)).heap.size = wr.heap.size + 2 := by simp
      go_wp2_with fail
      generalize (wr.alloc (.cells #[.int .i64 xk, .int .i64 xc, .int .i64 xs', .int .i64 xq, .int .i64 xv, .bool xd, .slice ad xx.length cp] 37)).alloc (.cells #[.int .i64 s, .int .i64 xk] 79) = W2 at *
      refine (lacks_any b (n + k) F s xk xc xs' xq _ HS.out HKO.out HL1.out).mono ?_
      rintro e w2 ⟨rfl, hb⟩
      have q5 := (hb.block wr.heap.size (by omega)).trans HQ5.out
      have q6 := (hb.block (wr.heap.size + 1) (by omega)).trans HQ6.out
      have c1 := cell_of_row w2 wr.heap.size 1 _ _ _ q5
      have c2 := cell_of_row w2 wr.heap.size 2 _ _ _ q5
      have c3 := cell_of_row w2 wr.heap.size 3 _ _ _ q5
      have g0 := cell_of_row w2 (wr.heap.size + 1) 0 _ _ _ q6
      have g1 := cell_of_row w2 (wr.heap.size + 1) 1 _ _ _ q6
      simp at c1 c2 c3 g0 g1
      have HL2 := Lib.hid (HL1.out.below hb)
      have HG2 : Hid (W0.grownBy w2 (some b)) := grown_trans HG.out (grown_of_below (below_step HB1.out HB1.out.size hb) (some b))
      clear hb q5 q6 HQ5 HQ6 HB1 HL1 HL HG hs2 e0 e1 e2 e3 e4 e5 e6 d0
      cases hla : lacksT F s xk ⟨xc, xs', xq⟩ with
      | false =>
        have HT2 : Hid (addAll f s (ws.take (k + 1)) = F) := HT.out.trans (addT_has hla)
        go_wp2
        exact ⟨⟨k + 1, by omega, by go_num, by rw [HT2.out]; exact Lib.hid (MapIs.mono HL2.out (by omega)), HG2⟩, by simp [intOf]; omega⟩
      | true =>
        have HT2 : Hid (addAll f s (ws.take (k + 1)) = putT F s xk ⟨xc, xs', xq⟩) := HT.out.trans (addT_lacks hla)
        clear hla
        go_wp2_with (at_mapUpdate; refine wpList_putG (K := keyS) (by rfl) _ _ _ 73 34 (by rfl) Try.underlying73 HL2.out (by unfold maxLen; omega) ⟨s, xk⟩ ⟨HS.out, HKO.out⟩ (tagV xc xs' xq) (by rfl) (by rfl) (by rfl) ?_; intro w3 hr3 ht3; refine Hid.out ?_)
        refine Lib.hid ?_
        have HL3 : Hid (LatIs w3 b (n + (k + 1)) (addAll f s (ws.take (k + 1)))) := by
          rw [HT2.out]
          exact hr3 _ (putT_at F s xk ⟨xc, xs', xq⟩) fun j hj => putT_off F s xk ⟨xc, xs', xq⟩ hj
        have HG3 : Hid (W0.grownBy w3 (some b)) := grown_trans HG2.out ht3.grown
        clear hr3 ht3
        go_wp2
        exact ⟨⟨k + 1, by omega, by go_num, HL3, HG3⟩, by simp [intOf]; omega⟩
    · have hkk : k = q := by omega
      subst hkk
      have HE : Hid (ws.take k = ws) := List.take_of_length_le (by rw [HN.out]; exact Nat.le_refl _)
      rw [HE.out] at HL
      go_wp2
      exact bodyPost_end (v := .tuple #[]) (by simp [results, Try.results38]) rfl ⟨rfl, HL.out, grown_trans (grown_of_below HA.out _) HG.out⟩

end Go.Proofs.Ytomndnopbpbblaa
