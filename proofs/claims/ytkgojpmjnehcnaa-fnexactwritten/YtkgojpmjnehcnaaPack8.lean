import Derived.Test.YtkgojpmjnehcnaaPack2
import Derived.Test.YtkgojpmjnehcnaaPack1
import Derived.Test.YtkgojpmjnehcnaaPack6
import Derived.Test.YtkgojpmjnehcnaaPack7
import Derived.Test.YtkgojpmjnehcnaaPack5
import Derived.Test.YtkgojpmjnehcnaaPack3
/- What is asked for and what is late, the specification's side: the contracts of spec's l09Asked and l09Late. -/
namespace Go.Proofs.Ytkgojpmjnehcnaa
open Go.ChangeShapes Go.WideShapes Go.ChangeAt Go.RowKit Go.Joins
attribute [local go_sem ↓] Go.wp_at_zero Go.wp_at_succ

set_option maxRecDepth 100000 in
set_option maxHeartbeats 2000000 in
theorem asked_any (mask key : Int) (w : World) (h1 : mask ≤ 9223372036854775807) :
    Calls Try.prog 49 #[.int .i64 mask, .int .i64 key] w fun e w' => e = .returned (.bool (bitG mask key)) ∧ w' = w := by
  by_cases h0 : 0 ≤ mask
  rotate_left
  · rw [bitG_neg h0]
    have hd : decide (0 ≤ mask) = false := decide_eq_false h0
    go_enter Try.func49, Try.ntmps49
    go_wp2
    go_ret
    exact ⟨rfl, rfl⟩
  by_cases hk : 0 ≤ key ∧ key ≤ 62
  rotate_left
  · have hf : bitG mask key = false := by
      cases hb : bitG mask key with
      | false => rfl
      | true => exact absurd (bitG_small h1 hb) (by omega)
    rw [hf]
    have hbt : btw key 0 62 = false := by
      unfold btw
      simp only [decide_eq_false_iff_not]
      omega
    go_enter Try.func49, Try.ntmps49
    go_wp2_with (go_at_call 48; refine (between_any _ _ _ _).mono ?_; rintro e w' ⟨rfl, rfl⟩; rw [hbt])
    go_ret
    exact ⟨rfl, rfl⟩
  obtain ⟨k, rfl⟩ : ∃ k : Nat, key = (k : Int) := ⟨key.toNat, by omega⟩
  have hbt : btw (k : Int) 0 62 = true := by
    unfold btw
    simp only [decide_eq_true_eq]
    exact hk
  have hp : (0 : Int) < 2 ^ k := Int.pow_pos (by omega)
  have hd0 : 0 ≤ mask / 2 ^ k := Int.ediv_nonneg h0 (by omega)
  have hd1 : mask / 2 ^ k ≤ mask := Int.ediv_le_self _ h0
  rw [bitG_pos h0]
  have hmn := shift_min (k := k) h0 h1
  have hk0 : (0 : Int) ≤ (k : Int) := by omega
  go_enter Try.func49, Try.ntmps49
  go_wp2_with (go_at_call 48; refine (between_any _ _ _ _).mono ?_; rintro e w' ⟨rfl, rfl⟩; rw [hbt])
  go_ret
  exact ⟨rfl, rfl⟩

theorem asked_is (mask key : Int) (r : Bool) (h : bitG mask key = r) (w : World) (h1 : mask ≤ 9223372036854775807) :
    Calls Try.prog 49 #[.int .i64 mask, .int .i64 key] w fun e w' => e = .returned (.bool r) ∧ w' = w := by
  subst h
  exact asked_any mask key w h1

theorem late_hit {ws : List Wr} {key : Int} {t : Tg} {k : Nat} (hk : k < ws.length) (h1 : (ws.getD k wz).k = key) (h2 : 0 ≤ tcmpT (tgOf (ws.getD k wz)) t) : lateB ws key t = true := by
  unfold lateB
  rw [List.any_eq_true]
  refine ⟨ws.getD k wz, by simp [List.getD, hk], ?_⟩
  simp only [Bool.and_eq_true, decide_eq_true_eq]
  exact ⟨h1, h2⟩

/-- Write k is not the one. -/
def notLate (ws : List Wr) (key : Int) (t : Tg) (k : Nat) : Prop := ¬ ((ws.getD k wz).k = key ∧ 0 ≤ tcmpT (tgOf (ws.getD k wz)) t)

theorem late_none {ws : List Wr} {key : Int} {t : Tg} (h : ∀ k, k < ws.length → notLate ws key t k) : lateB ws key t = false := by
  unfold lateB
  rw [List.any_eq_false]
  intro x hx
  obtain ⟨k, hk, rfl⟩ := List.getElem_of_mem hx
  have := h k hk
  unfold notLate at this
  rw [show ws.getD k wz = ws[k] by simp [List.getD, hk]] at this
  simpa only [Bool.and_eq_true, decide_eq_true_eq] using this

theorem notLate_next {ws : List Wr} {key : Int} {t : Tg} {k : Nat} (h : ∀ j, j < k → notLate ws key t j) (hk : notLate ws key t k) : ∀ j, j < k + 1 → notLate ws key t j := fun j hj => by
  by_cases e : j = k
  · rw [e]; exact hk
  · exact h j (by omega)

set_option maxRecDepth 100000 in
set_option maxHeartbeats 4000000 in
theorem late_any (a : Option Addr) (n cap : Nat) (key c s q : Int) (ws : List Wr) (w : World) (hn : ws.length = n) (hm : n ≤ 1048576) (hh : IsWs w a ws) :
    Calls Try.prog 50 #[.slice a n cap, .int .i64 key, tagV c s q] w fun e w' => e = .returned (.bool (lateB ws key ⟨c, s, q⟩)) ∧ Below w.heap.size w w' := by
  have HH := Lib.hid hh
  have HN := Lib.hid hn
  clear hh hn
  have HA : Hid (Below w.heap.size w (w.alloc (.cells #[.int .i64 c, .int .i64 s, .int .i64 q] 40))) := (Below.refl _ _).alloc (Nat.le_refl _) _
  have HBX : Hid ((w.alloc (.cells #[.int .i64 c, .int .i64 s, .int .i64 q] 40)).heap[w.heap.size]? = some (.cells #[.int .i64 c, .int .i64 s, .int .i64 q] 40 (0, 0))) := heap_alloc_new _ _
  have hsz : (w.alloc (.cells #[.int .i64 c, .int .i64 s, .int .i64 q] 40)).heap.size = w.heap.size + 1 := by simp
  go_enter Try.func50, Try.ntmps50
  go_wp2
  generalize w.alloc (.cells #[.int .i64 c, .int .i64 s, .int .i64 q] 40) = W1 at *
  go_loopw [7] (fun i wr => ∃ k : Nat, k ≤ n ∧ i = .int .i64 k ∧ Hid (∀ j, j < k → notLate ws key ⟨c, s, q⟩ j) ∧ Hid (Below W1.heap.size W1 wr)) (fun i _ => n - (intOf i).toNat)
  case atStart => exact ⟨0, Nat.zero_le _, rfl, fun j hj => absurd hj (Nat.not_lt_zero j), Below.refl _ _⟩
  case round =>
    obtain ⟨k, hk, rfl, HP, HB⟩ := hrel
    have HBW : Hid (Below w.heap.size w wr) := below_step HA.out HA.out.size HB.out
    by_cases hk' : k < n
    · have hkw : k < ws.length := by rw [HN.out]; exact hk'
      have i1 : (0 : Int) ≤ (k : Int) := by omega
      have i2 : (k : Int) < (n : Int) := by omega
      obtain ⟨b, o, ad, cp, rfl, hz, ⟨e0, e1, e2, e3, e4, e5, e6⟩, -⟩ := HH.out.at HBW.out HN.out hk'
      have qb := (HB.out.block w.heap.size (by omega)).trans HBX.out
      have g0 := cell_of_row wr w.heap.size 0 _ _ _ qb
      have g1 := cell_of_row wr w.heap.size 1 _ _ _ qb
      have g2 := cell_of_row wr w.heap.size 2 _ _ _ qb
      simp at g0 g1 g2
      have hlt : w.heap.size < wr.heap.size := by have := HB.out.size; omega
      clear qb
      have HHIT : Hid ((ws.getD k wz).k = key → 0 ≤ tcmpT (tgOf (ws.getD k wz)) ⟨c, s, q⟩ → lateB ws key ⟨c, s, q⟩ = true) := fun h1 h2 => late_hit hkw h1 h2
      have HNX : Hid (notLate ws key ⟨c, s, q⟩ k → ∀ j, j < k + 1 → notLate ws key ⟨c, s, q⟩ j) := notLate_next HP.out
      unfold notLate tcmpT tgOf at HNX HHIT
      clear HP
      generalize ws.getD k wz = x at *
      obtain ⟨xk, xc, xs', xq, xv, xd, xx⟩ := x
      simp only at e0 e1 e2 e3 HHIT HNX
      clear e4 e5 e6
      by_cases hxk : xk = key
      · have hd : (xk == key) = true := by simpa using hxk
        by_cases hge : 0 ≤ tcmp xc xs' xq c s q
        · have HR := Lib.hid (HHIT.out hxk hge)
          clear HHIT HNX
          have hdz : decide (0 ≤ tcmp xc xs' xq c s q) = true := decide_eq_true hge
          go_wp2_with fail
          have ge0 := aft_cell hz e0
          have ge1 := aft_cell hz e1
          have ge2 := aft_cell hz e2
          have ge3 := aft_cell hz e3
          have gg0 := aft_cell hlt g0
          have gg1 := aft_cell hlt g1
          have gg2 := aft_cell hlt g2
          have ne := aft_some wr
          refine wp_region_aft (by kernel_rfl) (by kernel_rfl) ?_
          repeat (first | go_big_quiet_step (first | (go_at_call 71; exact aft_of (specTagCmp_any _ _ _ _ _ _ _))))
          refine wpQuiet_nil ?_
          intro wq hq
          have HBQ : Hid (Below w.heap.size w wq) := below_step HBW.out HBW.out.size hq
          clear hq ge0 ge1 ge2 ge3 gg0 gg1 gg2 ne
          go_wp2
          go_ret
          exact ⟨by rw [HR.out]; rfl, HBQ.out⟩
        · have HP2 := Lib.hid (HNX.out fun h => hge h.2)
          clear HHIT HNX
          have hdz : decide (0 ≤ tcmp xc xs' xq c s q) = false := decide_eq_false hge
          go_wp2_with fail
          have ge0 := aft_cell hz e0
          have ge1 := aft_cell hz e1
          have ge2 := aft_cell hz e2
          have ge3 := aft_cell hz e3
          have gg0 := aft_cell hlt g0
          have gg1 := aft_cell hlt g1
          have gg2 := aft_cell hlt g2
          have ne := aft_some wr
          refine wp_region_aft (by kernel_rfl) (by kernel_rfl) ?_
          repeat (first | go_big_quiet_step (first | (go_at_call 71; exact aft_of (specTagCmp_any _ _ _ _ _ _ _))))
          refine wpQuiet_nil ?_
          intro wq hq
          have HBQ : Hid (Below W1.heap.size W1 wq) := below_step HB.out HB.out.size hq
          clear hq ge0 ge1 ge2 ge3 gg0 gg1 gg2 ne
          go_wp2
          exact ⟨⟨k + 1, by omega, by go_num, HP2, HBQ⟩, by simp [intOf]; omega⟩
      · have HP2 := Lib.hid (HNX.out fun h => hxk h.1)
        clear HHIT HNX
        have hd : (xk == key) = false := by simpa using hxk
        go_wp2_with fail
        have ge0 := aft_cell hz e0
        have ne := aft_some wr
        refine wp_region_aft (by kernel_rfl) (by kernel_rfl) ?_
        repeat (first | go_big_quiet_step (fail))
        refine wpQuiet_nil ?_
        intro wq hq
        have HBQ : Hid (Below W1.heap.size W1 wq) := below_step HB.out HB.out.size hq
        clear hq ge0 ne
        go_wp2
        exact ⟨⟨k + 1, by omega, by go_num, HP2, HBQ⟩, by simp [intOf]; omega⟩
    · have hkk : k = n := by omega
      subst hkk
      have HR : Hid (lateB ws key ⟨c, s, q⟩ = false) := late_none fun j hj => HP.out j (by rw [← HN.out]; exact hj)
      go_wp2
      go_ret
      exact ⟨by rw [HR.out]; rfl, HBW.out⟩

end Go.Proofs.Ytkgojpmjnehcnaa

/- Steps back, the specification's side: the contract of spec.Backs. -/
namespace Go.Proofs.Ytkgojpmjnehcnaa
open Go.ChangeShapes Go.WideShapes Go.ChangeAt Go.RowKit Go.Joins
attribute [local go_sem ↓] Go.wp_at_zero Go.wp_at_succ

/-- Is a write asked for, and none there as late? -/
def hitW (m : Int) (ws : List Wr) (x : Wr) : Bool := bitG m x.k && !lateB ws x.k (tgOf x)

/-- Did event y have something that e lacks? -/
def hitE (e y : Ev) : Bool := (y.s == e.s) && y.ws.any (hitW e.m e.ws)

/-- Is the event at place i a step back? -/
def backS (es : List Ev) (i : Nat) : Bool := (es.getD i evz).sh && (es.take i).any (hitE (es.getD i evz))

theorem any_next {α : Type} (f : α → Bool) (l : List α) (d : α) {k : Nat} (h : k < l.length) : (l.take (k + 1)).any f = ((l.take k).any f || f (l.getD k d)) := by
  have e : l.take (k + 1) = l.take k ++ [l.getD k d] := by
    rw [List.take_add_one, List.getElem?_eq_getElem h]
    simp [List.getD, h]
  rw [e, List.any_append]
  simp

set_option maxRecDepth 100000 in
set_option maxHeartbeats 8000000 in
theorem specBacks_any (a : Option Addr) (n cap : Nat) (es : List Ev) (w : World) (hn : es.length = n) (hm : n ≤ 1048576) (hx : FewE es) (hM : ∀ i, i < es.length → (es.getD i evz).m ≤ 9223372036854775807) (hi : IsEs w a es) :
    Calls Try.prog 25 #[.slice a n cap] w fun e w' => ∃ v, e = .returned v ∧ RowI w' w.heap.size v (placesTo (backS es) n) ∧ Below w.heap.size w w' := by
  have HI := Lib.hid hi
  have HN := Lib.hid hn
  have HX := Lib.hid hx
  have HMM := Lib.hid hM
  clear hi hn hx hM
  obtain ⟨i0, hi0, hx0⟩ := Option.map_eq_some_iff.1 infoInt
  simp only [Prod.mk.injEq] at hx0
  have HI0 := Lib.hid hi0
  have HX0 := Lib.hid hx0
  clear hi0 hx0
  have HR0 : Hid (RowI (w.alloc (.cells #[] 3)) w.heap.size (.slice (some ⟨w.heap.size, 0, none⟩) 0 0) []) := World.ownsRow_made w #[] 0 (Nat.le_refl _) (by simp [maxLen]) (by simp)
  have HB0 : Hid (Below w.heap.size w (w.alloc (.cells #[] 3))) := (Below.refl _ _).alloc (Nat.le_refl _) _
  go_enter Try.func25, Try.ntmps25
  go_wp2
  go_loopw [3, 4] (fun t i wr => ∃ (k : Nat) (v : Value), k ≤ n ∧ i = .int .i64 k ∧ v = t ∧ Hid (RowI wr w.heap.size v (placesTo (backS es) k)) ∧ Hid (Below w.heap.size w wr)) (fun _ i _ => n - (intOf i).toNat)
  case atStart => exact ⟨0, _, Nat.zero_le _, rfl, rfl, HR0, HB0⟩
  case round =>
    clear HR0 HB0
    obtain ⟨i, v, hi, rfl, rfl, HR, HB⟩ := hrel
    by_cases hi' : i < n
    · have hiw : i < es.length := by rw [HN.out]; exact hi'
      have i1 : (0 : Int) ≤ (i : Int) := by omega
      have i2 : (i : Int) < (n : Int) := by omega
      obtain ⟨b, o, ad, cp, rfl, hz, e0, hw⟩ := HI.out.at HB.out hiw
      have HW := Lib.hid hw
      have hln := placesTo_len (backS es) i
      have HPN : Hid (backS es i = false → placesTo (backS es) (i + 1) = placesTo (backS es) i) := fun h => placesTo_no h
      have HPY : Hid (backS es i = true → placesTo (backS es) (i + 1) = placesTo (backS es) i ++ [(i : Int)]) := fun h => placesTo_yes h
      have HBS : Hid (backS es i = ((es.getD i evz).sh && (es.take i).any (hitE (es.getD i evz)))) := rfl
      have hmi := HMM.out i hiw
      obtain ⟨hli, -⟩ := HX.out i hiw
      clear hw
      obtain ⟨W1, rfl⟩ : ∃ W1, W1 = wr := ⟨wr, rfl⟩
      generalize backS es i = bk at *
      generalize es.getD i evz = e at *
      obtain ⟨es', esh, em, ew⟩ := e
      unfold EvAt at e0
      simp only at e0 HW HBS hmi hli
      obtain ⟨c0, c1, c2, c3⟩ := e0
      have HE0 : Hid (∀ W, Below W1.heap.size W1 W → W.cell? ⟨b, o + i * 4, none⟩ = some (.int .i64 es') ∧ W.cell? ⟨b, o + i * 4 + 1, none⟩ = some (.bool esh) ∧ W.cell? ⟨b, o + i * 4 + 2, none⟩ = some (.int .i64 em) ∧ W.cell? ⟨b, o + i * 4 + 3, none⟩ = some (.slice ad ew.length cp)) := fun W hW => ⟨(hW.cell (p := ⟨b, o + i * 4, none⟩) hz).trans c0, (hW.cell (p := ⟨b, o + i * 4 + 1, none⟩) hz).trans c1, (hW.cell (p := ⟨b, o + i * 4 + 2, none⟩) hz).trans c2, (hW.cell (p := ⟨b, o + i * 4 + 3, none⟩) hz).trans c3⟩
      clear c0 c1 c2 c3
      go_wp2
      go_loopw [5, 6] (fun t j wr => ∃ (k : Nat) (bb : Bool), k ≤ i ∧ j = .int .i64 k ∧ t = .bool bb ∧ Hid (bb = (es.take k).any (hitE ⟨es', esh, em, ew⟩)) ∧ (k = 0 ∨ esh = true) ∧ Hid (Below W1.heap.size W1 wr)) (fun _ j _ => i - (intOf j).toNat)
      case atStart => exact ⟨0, false, Nat.zero_le _, rfl, rfl, by rw [List.take_zero]; rfl, .inl rfl, Below.refl _ _⟩
      case round =>
        obtain ⟨k, bb, hk, rfl, rfl, HBB, hk0, HB1⟩ := hrel
        obtain ⟨c0, c1, c2, c3⟩ := HE0.out wr HB1.out
        have hzw : b < wr.heap.size := Nat.lt_of_lt_of_le hz HB1.out.size
        by_cases hk' : k < i
        · cases esh with
          | false =>
            obtain rfl : k = 0 := by rcases hk0 with h | h; exact h; cases h
            have HE : Hid (bk = false) := HBS.out
            have hbb : bb = false := by have h := HBB.out; rwa [List.take_zero] at h
            subst hbb
            have HR2 : Hid (RowI wr w.heap.size v (placesTo (backS es) (i + 1))) := by rw [HPN.out HE.out]; exact Lib.hid (HR.out.below HB1.out)
            have HB2 : Hid (Below w.heap.size w wr) := below_step HB.out HB.out.size HB1.out
            go_wp2
            exact ⟨⟨i + 1, _, by omega, by go_num, rfl, HR2, HB2⟩, by simp [intOf]; omega⟩
          | true =>
            have hkw : k < es.length := by omega
            have i3 : (0 : Int) ≤ (k : Int) := by omega
            have i4 : (k : Int) < (n : Int) := by omega
            obtain ⟨b', o', ad2, cp2, hab, -, f0, hw2⟩ := HI.out.at (below_step HB.out HB.out.size HB1.out) hkw
            obtain ⟨rfl, rfl⟩ : b = b' ∧ o = o' := by simpa using hab
            have HW2 := Lib.hid hw2
            have HNX : Hid ((es.take (k + 1)).any (hitE ⟨es', true, em, ew⟩) = ((es.take k).any (hitE ⟨es', true, em, ew⟩) || hitE ⟨es', true, em, ew⟩ (es.getD k evz))) := any_next _ es evz hkw
            obtain ⟨hlk, -⟩ := HX.out k hkw
            rw [← HBB.out] at HNX
            clear hw2 hab HBB
            obtain ⟨W2, rfl⟩ : ∃ W2, W2 = wr := ⟨wr, rfl⟩
            generalize es.getD k evz = y at *
            obtain ⟨ys, ysh, ym, yw⟩ := y
            unfold EvAt at f0
            simp only at f0 HW2 hlk
            obtain ⟨d0, d1, d2, d3⟩ := f0
            clear d1 d2
            have HF0 : Hid (∀ W, Below W2.heap.size W2 W → W.cell? ⟨b, o + k * 4, none⟩ = some (.int .i64 ys) ∧ W.cell? ⟨b, o + k * 4 + 3, none⟩ = some (.slice ad2 yw.length cp2)) := fun W hW => ⟨(hW.cell (p := ⟨b, o + k * 4, none⟩) hzw).trans d0, (hW.cell (p := ⟨b, o + k * 4 + 3, none⟩) hzw).trans d3⟩
            clear d0 d3
            go_wp2
            go_loopw [5, 7] (fun t j wr => ∃ (l : Nat) (b2 : Bool), l ≤ yw.length ∧ j = .int .i64 l ∧ t = .bool b2 ∧ Hid (b2 = (bb || ((ys == es') && (yw.take l).any (hitW em ew)))) ∧ Hid (Below W2.heap.size W2 wr)) (fun _ j _ => yw.length - (intOf j).toNat)
            case atStart => exact ⟨0, bb, Nat.zero_le _, rfl, rfl, by rw [List.take_zero]; simp [Hid], Below.refl _ _⟩
            case round =>
              obtain ⟨l, b2, hl, rfl, rfl, HB2, HBW⟩ := hrel
              have HBX : Hid (Below W1.heap.size W1 wr) := below_step HB1.out HB1.out.size HBW.out
              obtain ⟨d0, d3⟩ := HF0.out wr HBW.out
              obtain ⟨c0, c1, c2, c3⟩ := HE0.out wr HBX.out
              have hzr : b < wr.heap.size := Nat.lt_of_lt_of_le hz HBX.out.size
              by_cases hl' : l < yw.length
              · have hd1 : decide (l < yw.length) = true := decide_eq_true hl'
                by_cases hss : ys = es'
                · have hd2 : (ys == es') = true := by simpa using hss
                  have i5 : (0 : Int) ≤ (l : Int) := by omega
                  have i6 : (l : Int) < (yw.length : Int) := by omega
                  have HAN := Lib.hid (any_next (hitW em ew) yw wz hl')
                  go_wp2_with fail
                  have gd0 := aft_cell hzr d0
                  have gd3 := aft_cell hzr d3
                  have gc0 := aft_cell hzr c0
                  have ne := aft_some wr
                  refine wp_region_aft (by kernel_rfl) (by kernel_rfl) ?_
                  repeat (first | go_big_quiet_step (fail))
                  refine wpQuiet_nil ?_
                  intro wq hq
                  have HBQ : Hid (Below W1.heap.size W1 wq) := below_step HBX.out HBX.out.size hq
                  have HBV : Hid (Below W2.heap.size W2 wq) := below_step HBW.out HBW.out.size hq
                  clear hq gd0 gd3 gc0 ne d0 d3 c0 c1 c2 c3 HBX HBW
                  obtain ⟨d0, d3⟩ := HF0.out wq HBV.out
                  obtain ⟨bw, ow, ad3, cp3, rfl, hz3, ⟨g0, g1, g2, g3, g4, g5, g6⟩, -⟩ := HW2.out.at HBV.out rfl hl'
                  rw [hd2, Bool.true_and] at HB2
                  have HB2' : Hid ((bb || ((ys == es') && (yw.take (l + 1)).any (hitW em ew))) = (b2 || hitW em ew (yw.getD l wz))) := by
                    show _ = _
                    rw [hd2, Bool.true_and, HAN.out, HB2.out, Bool.or_assoc]
                  clear HAN HB2
                  generalize yw.getD l wz = x at *
                  obtain ⟨xk, xc, xs', xq, xv, xd, xx⟩ := x
                  simp only at g0 g1 g2 g3 g4 g5 g6
                  have hH : hitW em ew ⟨xk, xc, xs', xq, xv, xd, xx⟩ = (bitG em xk && !lateB ew xk ⟨xc, xs', xq⟩) := rfl
                  rw [hH] at HB2'
                  clear hH
                  have HBA : Hid (Below wq.heap.size wq (wq.alloc (.cells #[.int .i64 xk, .int .i64 xc, .int .i64 xs', .int .i64 xq, .int .i64 xv, .bool xd, .slice ad3 xx.length cp3] 43))) := (Below.refl _ _).alloc (Nat.le_refl _) _
                  have HBB : Hid ((wq.alloc (.cells #[.int .i64 xk, .int .i64 xc, .int .i64 xs', .int .i64 xq, .int .i64 xv, .bool xd, .slice ad3 xx.length cp3] 43)).heap[wq.heap.size]? = some (.cells #[.int .i64 xk, .int .i64 xc, .int .i64 xs', .int .i64 xq, .int .i64 xv, .bool xd, .slice ad3 xx.length cp3] 43 (0, 0))) := heap_alloc_new _ _
                  have hs3 : (wq.alloc (.cells #[.int .i64 xk, .int .i64 xc, .int .i64 xs', .int .i64 xq, .int .i64 xv, .bool xd, .slice ad3 xx.length cp3] 43)).heap.size = wq.heap.size + 1 := by simp
                  go_wp2_with fail
                  generalize wq.alloc (.cells #[.int .i64 xk, .int .i64 xc, .int .i64 xs', .int .i64 xq, .int .i64 xv, .bool xd, .slice ad3 xx.length cp3] 43) = W3 at *
                  have HB3 : Hid (Below W1.heap.size W1 W3) := below_step HBQ.out HBQ.out.size HBA.out
                  have HB4 : Hid (Below W2.heap.size W2 W3) := below_step HBV.out HBV.out.size HBA.out
                  obtain ⟨c0, c1, c2, c3⟩ := HE0.out W3 HB3.out
                  have hz4 : b < W3.heap.size := Nat.lt_of_lt_of_le hz HB3.out.size
                  have hz5 : wq.heap.size < W3.heap.size := by omega
                  have x0 := cell_of_row W3 wq.heap.size 0 _ _ _ HBB.out
                  have x1 := cell_of_row W3 wq.heap.size 1 _ _ _ HBB.out
                  have x2 := cell_of_row W3 wq.heap.size 2 _ _ _ HBB.out
                  have x3 := cell_of_row W3 wq.heap.size 3 _ _ _ HBB.out
                  simp at x0 x1 x2 x3
                  have gc2 := aft_cell hz4 c2
                  have gc3 := aft_cell hz4 c3
                  have gx0 := aft_cell hz5 x0
                  have gx1 := aft_cell hz5 x1
                  have gx2 := aft_cell hz5 x2
                  have gx3 := aft_cell hz5 x3
                  have ne := aft_some W3
                  clear hs3
                  obtain ⟨lb, hlb⟩ : ∃ lb, lateB ew xk ⟨xc, xs', xq⟩ = lb := ⟨_, rfl⟩
                  have HCL : Hid (∀ p : Aft W3.heap.size W3, Calls Try.prog 50 #[.slice ad ew.length cp, .int .i64 xk, tagV xc xs' xq] p.now fun e w' => e = .returned (.bool lb) ∧ Below p.now.heap.size p.now w') := fun p => by
                    rw [← hlb]
                    exact late_any ad _ cp xk xc xs' xq ew _ rfl hli (HW.out.below (below_step HB3.out HB3.out.size p.below))
                  rw [hlb] at HB2'
                  obtain ⟨ab, hab⟩ : ∃ ab, bitG em xk = ab := ⟨_, rfl⟩
                  rw [hab] at HB2'
                  have HAB := Lib.hid hab
                  clear hab hlb
                  cases b2 with
                  | true =>
                    have HF : Hid (true = (bb || ((ys == es') && (yw.take (l + 1)).any (hitW em ew)))) := by rw [HB2'.out]; simp [Hid]
                    refine wp_region_aft (by kernel_rfl) (by kernel_rfl) ?_
                    repeat (first | go_big_quiet_step (fail))
                    refine wpQuiet_nil ?_
                    intro wv hv
                    have HBZ : Hid (Below W2.heap.size W2 wv) := below_step HB4.out HB4.out.size hv
                    clear hv gc2 gc3 gx0 gx1 gx2 gx3 ne
                    go_wp2
                    exact ⟨⟨l + 1, true, by omega, by go_num, rfl, HF, HBZ⟩, by simp [intOf]; omega⟩
                  | false =>
                    cases ab with
                    | false =>
                      have HF : Hid (false = (bb || ((ys == es') && (yw.take (l + 1)).any (hitW em ew)))) := by rw [HB2'.out]; simp [Hid]
                      refine wp_region_aft (by kernel_rfl) (by kernel_rfl) ?_
                      repeat (first | go_big_quiet_step (first | (go_at_call 49; exact aft_same (asked_is _ _ false HAB.out _ hmi))))
                      refine wpQuiet_nil ?_
                      intro wv hv
                      have HBZ : Hid (Below W2.heap.size W2 wv) := below_step HB4.out HB4.out.size hv
                      clear hv gc2 gc3 gx0 gx1 gx2 gx3 ne
                      go_wp2
                      exact ⟨⟨l + 1, false, by omega, by go_num, rfl, HF, HBZ⟩, by simp [intOf]; omega⟩
                    | true =>
                      have HF : Hid ((!lb) = (bb || ((ys == es') && (yw.take (l + 1)).any (hitW em ew)))) := by rw [HB2'.out]; simp [Hid]
                      refine wp_region_aft (by kernel_rfl) (by kernel_rfl) ?_
                      repeat (first | go_big_quiet_step (first | (go_at_call 49; exact aft_same (asked_is _ _ true HAB.out _ hmi)) | (go_at_call 50; exact aft_of (HCL.out _))))
                      refine wpQuiet_nil ?_
                      intro wv hv
                      have HBZ : Hid (Below W2.heap.size W2 wv) := below_step HB4.out HB4.out.size hv
                      clear hv gc2 gc3 gx0 gx1 gx2 gx3 ne
                      go_wp2
                      exact ⟨⟨l + 1, !lb, by omega, by go_num, rfl, HF, HBZ⟩, by simp [intOf]; omega⟩
                · have hd2 : (ys == es') = false := by simpa using hss
                  have HB3 : Hid (b2 = (es.take (k + 1)).any (hitE ⟨es', true, em, ew⟩)) := by
                    have h := HB2.out
                    show _ = _
                    rw [HNX.out, h]
                    unfold hitE
                    simp only [hd2, Bool.false_and]
                  go_wp2_with fail
                  have gd0 := aft_cell hzr d0
                  have gd3 := aft_cell hzr d3
                  have gc0 := aft_cell hzr c0
                  have ne := aft_some wr
                  refine wp_region_aft (by kernel_rfl) (by kernel_rfl) ?_
                  repeat (first | go_big_quiet_step (fail))
                  refine wpQuiet_nil ?_
                  intro wq hq
                  have HBQ : Hid (Below W1.heap.size W1 wq) := below_step HBX.out HBX.out.size hq
                  clear hq gd0 gd3 gc0 ne
                  go_wp2
                  exact ⟨⟨k + 1, b2, by omega, by go_num, rfl, HB3, .inr trivial, HBQ⟩, by simp [intOf]; omega⟩
              · have hl2 : yw.length ≤ l := by omega
                have hd1 : decide (l < yw.length) = false := decide_eq_false hl'
                obtain rfl : l = yw.length := by omega
                have HB3 : Hid (b2 = (es.take (k + 1)).any (hitE ⟨es', true, em, ew⟩)) := by
                  have h := HB2.out
                  rw [List.take_length] at h
                  rw [HNX.out]
                  exact h
                go_wp2_with fail
                have gd3 := aft_cell hzr d3
                have ne := aft_some wr
                refine wp_region_aft (by kernel_rfl) (by kernel_rfl) ?_
                repeat (first | go_big_quiet_step (fail))
                refine wpQuiet_nil ?_
                intro wq hq
                have HBQ : Hid (Below W1.heap.size W1 wq) := below_step HBX.out HBX.out.size hq
                clear hq gd3 ne
                go_wp2
                exact ⟨⟨k + 1, b2, by omega, by go_num, rfl, HB3, .inr trivial, HBQ⟩, by simp [intOf]; omega⟩
        · obtain rfl : k = i := by omega
          have HE : Hid (bk = bb) := by
            show _ = _
            rw [HBS.out, ← HBB.out]
            rcases hk0 with rfl | h
            · have h := HBB.out
              rw [List.take_zero] at h
              rw [h]
              simp
            · rw [h, Bool.true_and]
          have HR1 : Hid (RowI wr w.heap.size v (placesTo (backS es) k)) := HR.out.below HB1.out
          have HB2 : Hid (Below w.heap.size w wr) := below_step HB.out HB.out.size HB1.out
          have hsz : w.heap.size ≤ wr.heap.size := HB2.out.size
          cases bb with
          | false =>
            have HR2 : Hid (RowI wr w.heap.size v (placesTo (backS es) (k + 1))) := by rw [HPN.out HE.out]; exact HR1
            go_wp2
            exact ⟨⟨k + 1, _, by omega, by go_num, rfl, HR2, HB2⟩, by simp [intOf]; omega⟩
          | true =>
            have HPE := Lib.hid (HPY.out HE.out)
            generalize placesTo (backS es) k = zs at *
            have HBA : Hid (Below wr.heap.size wr (wr.alloc (.cells #[.int .i64 (k : Int)] 3))) := (Below.refl _ _).alloc (Nat.le_refl _) _
            have HRC := Lib.hid (HR1.out.below HBA.out)
            have HCC := Lib.hid (oneI_cells wr 3 (k : Int))
            have HBD := Lib.hid (below_step HB2.out HB2.out.size HBA.out)
            go_wp2_with (at_builtin; refine wpList_append_lies _ (by rfl) _ _ _ (by rfl) w.heap.size 3 i0 (.int .i64 0) 1 8 Try.underlying50 HI0.out HX0.out.1 HX0.out.2.1 HX0.out.2.2 (by rfl) (by omega) v zs.length (zs.map intV) (by rfl) HRC.out ⟨wr.heap.size, 0, none⟩ 1 1 [intV (k : Int)] (by rfl) (by rfl) (by simpa using HCC.out) (intV_one [(k : Int)]) (by omega) (by unfold maxLen; omega) (by omega) (by simp; omega) _ rfl ?_; intro g3 cp3 w5 hown hgrow hg3 _; refine Hid.out ?_)
            refine Lib.hid ?_
            have HB5 : Hid (Below w.heap.size w w5) := HBD.out.grown hgrow HBD.out.size fun j hj => (World.ownsRow.lt HRC.out j hj).1
            have HR5 : Hid (RowI w5 w.heap.size (.slice (some ⟨g3, 0, none⟩) (zs.length + 1) cp3) (placesTo (backS es) (k + 1))) := placed_more HPE.out hown
            clear hown hgrow hg3
            go_wp2
            exact ⟨⟨k + 1, _, by omega, by go_num, rfl, HR5, HB5⟩, by simp [intOf]; omega⟩
    · have hkk : i = n := by omega
      subst hkk
      go_wp2
      go_ret
      exact ⟨_, rfl, HR.out, HB.out⟩

end Go.Proofs.Ytkgojpmjnehcnaa

/- The two ways to tell steps back are one: plain facts. -/
namespace Go.Proofs.Ytkgojpmjnehcnaa
open Go.ChangeShapes Go.WideShapes Go.ChangeAt Go.RowKit Go.Joins

def pairsOf (l : List Ev) : List (Int × Wr) := l.flatMap fun e => e.ws.map fun x => (e.s, x)

theorem latest_fold : ∀ (l : List Ev) {f : Int → Int → Option Tg} {xs : List (Int × Wr)}, LatestOf f xs → LatestOf (l.foldl (fun f e => addAll f e.s e.ws) f) (xs ++ pairsOf l)
  | [], f, xs, h => by simpa [pairsOf] using h
  | e :: r, f, xs, h => by
    have h1 := latest_fold r (latest_all e.s e.ws h)
    simpa [pairsOf] using h1

theorem latest_had (es : List Ev) (k : Nat) : LatestOf (hadTo es k) (pairsOf (es.take k)) := by
  have h := latest_fold (es.take k) latest_nil
  rw [List.nil_append] at h
  exact h

theorem back_same (es : List Ev) (i : Nat) (hm : (es.getD i evz).m ≤ 9223372036854775807) : backS es i = backAt es i := by
  unfold backS backAt
  congr 1
  rw [Bool.eq_iff_iff, past_iff (latest_had es i) _ _ _ hm, List.any_eq_true]
  constructor
  · rintro ⟨y, hy, h⟩
    unfold hitE at h
    rw [Bool.and_eq_true, List.any_eq_true] at h
    obtain ⟨h1, x, hx, h2⟩ := h
    unfold hitW at h2
    rw [Bool.and_eq_true] at h2
    refine ⟨(y.s, x), ?_, by simpa using h1, h2.1, by simpa using h2.2⟩
    unfold pairsOf
    exact List.mem_flatMap.2 ⟨y, hy, List.mem_map.2 ⟨x, hx, rfl⟩⟩
  · rintro ⟨p, hp, p1, p2, p3⟩
    unfold pairsOf at hp
    obtain ⟨y, hy, hq⟩ := List.mem_flatMap.1 hp
    obtain ⟨x, hx, rfl⟩ := List.mem_map.1 hq
    refine ⟨y, hy, ?_⟩
    unfold hitE
    rw [Bool.and_eq_true, List.any_eq_true]
    refine ⟨by simpa using p1, x, hx, ?_⟩
    unfold hitW
    rw [Bool.and_eq_true]
    exact ⟨p2, by simpa using p3⟩

theorem backs_same (es : List Ev) (n : Nat) (hm : ∀ i, i < n → (es.getD i evz).m ≤ 9223372036854775807) : placesTo (backS es) n = placesTo (backAt es) n := by
  unfold placesTo
  congr 1
  exact List.filter_congr fun i hi => back_same es i (hm i (List.mem_range.1 hi))

end Go.Proofs.Ytkgojpmjnehcnaa

/- Lists of writes that a call answers, or that are handed to one: marks on them, and what marks leave alone. -/
namespace Go.Proofs.Ytkgojpmjnehcnaa
open Go.ChangeShapes Go.WideShapes Go.ChangeAt Go.RowKit Go.Joins
attribute [local go_sem ↓] Go.wp_at_zero Go.wp_at_succ

/-- What was written lies in these blocks. -/
abbrev Span (lo hi : Nat) (x : Nat) : Prop := lo ≤ x ∧ x < hi

/-- A list of writes of one's own, between two block numbers; it may be nil where it is empty. -/
def OwnA (w : World) (lo hi : Nat) (a : Option Addr) (ws : List Wr) (γ : Nat → Nat) : Prop :=
  ws = [] ∨ ∃ b, a = some ⟨b, 0, none⟩ ∧ OwnG w lo b ws γ ∧ b < hi ∧ ∀ i, i < ws.length → 0 < (ws.getD i wz).xs.length → γ i < hi

theorem OwnG.ownA {w : World} {lo b : Nat} {ws : List Wr} {γ : Nat → Nat} (h : OwnG w lo b ws γ) : OwnA w lo w.heap.size (some ⟨b, 0, none⟩) ws γ :=
  .inr ⟨b, rfl, h, h.lt, fun i hi hp => (h.deps i hi hp).2.1⟩

theorem RowG.ownA {w : World} {base : Nat} {v : Value} {es : List EnG} (h : RowG w base v es) {ws : List Wr} (hw : es.map (·.x) = ws) : ∃ a cap n, v = .slice a n cap ∧ ws.length = n ∧ OwnA w base w.heap.size a ws (gammaG es) := by
  obtain ⟨a, cap, h1, h2⟩ := h.form
  subst hw
  refine ⟨a, cap, es.length, h1, by simp, ?_⟩
  rcases h2 with h2 | ⟨b, rfl, h2⟩
  · exact .inl (by simp [h2])
  · exact h2.ownA

theorem OwnA.below {w w' : World} {lo hi : Nat} {a : Option Addr} {ws : List Wr} {γ : Nat → Nat} (h : OwnA w lo hi a ws γ) (hb : Below w.heap.size w w') : OwnA w' lo hi a ws γ := by
  rcases h with h | ⟨b, h1, h2, h3⟩
  · exact .inl h
  · exact .inr ⟨b, h1, h2.below hb, h3⟩

theorem OwnG.only {w w' : World} {S : Nat → Prop} {base b : Nat} {ws : List Wr} {γ : Nat → Nat} (h : OwnG w base b ws γ) (ho : Only S w w') (hS : ∀ x, S x → x < base) : OwnG w' base b ws γ where
  lt := by rw [ho.size]; exact h.lt
  le := h.le
  open_ := fun o => (ho.frozen _).trans (h.open_ o)
  at_ := fun i hi => by
    obtain ⟨a, cap, h1, h2⟩ := h.at_ i hi
    exact ⟨a, cap, h1.of_block (ho.block b fun e => by have := hS b e; have := h.le; omega), h2⟩
  deps := fun i hi hp => by
    obtain ⟨h1, h2, h3, h4, h5⟩ := h.deps i hi hp
    have hb : w'.heap[γ i]? = w.heap[γ i]? := ho.block _ fun e => by have := hS _ e; omega
    have e' : ∀ o, w'.cell? ⟨γ i, o, none⟩ = w.cell? ⟨γ i, o, none⟩ := fun o => World.cell?_of_block (a := ⟨γ i, o, none⟩) hb
    exact ⟨h1, by rw [ho.size]; exact h2, h3, fun j hj => ⟨(e' _).trans (h4 j hj).1, (e' _).trans (h4 j hj).2.1, (e' _).trans (h4 j hj).2.2.1, (e' _).trans (h4 j hj).2.2.2⟩, fun o => (ho.frozen _).trans (h5 o)⟩
  inj := h.inj

theorem OwnA.only {w w' : World} {S : Nat → Prop} {lo hi : Nat} {a : Option Addr} {ws : List Wr} {γ : Nat → Nat} (h : OwnA w lo hi a ws γ) (ho : Only S w w') (hS : ∀ x, S x → x < lo) : OwnA w' lo hi a ws γ := by
  rcases h with h | ⟨b, h1, h2, h3⟩
  · exact .inl h
  · exact .inr ⟨b, h1, h2.only ho hS, h3⟩

theorem OwnA.isWs {w : World} {lo hi : Nat} {a : Option Addr} {ws : List Wr} {γ : Nat → Nat} (h : OwnA w lo hi a ws γ) (hx : Few ws) : IsWs w a ws := by
  rcases h with h | ⟨b, h1, h2, _⟩
  · exact .inl h
  · rw [h1]
    exact h2.isWs hx

/-- A list that is marked. -/
def MarkedA (w : World) (a : Option Addr) (ws : List Wr) (γ : Nat → Nat) (k : Int) : Prop :=
  ws = [] ∨ ∃ b, a = some ⟨b, 0, none⟩ ∧ MarkedWs w b ws γ k ∧ b < w.heap.size ∧ ∀ i, i < ws.length → 0 < (ws.getD i wz).xs.length → γ i < w.heap.size

theorem MarkedA.below {w w' : World} {a : Option Addr} {ws : List Wr} {γ : Nat → Nat} {k : Int} (h : MarkedA w a ws γ k) (hb : Below w.heap.size w w') : MarkedA w' a ws γ k := by
  rcases h with h | ⟨b, h1, h2, h3, h4⟩
  · exact .inl h
  · exact .inr ⟨b, h1, h2.below hb h3 h4, Nat.lt_of_lt_of_le h3 hb.size, fun i hi hp => Nat.lt_of_lt_of_le (h4 i hi hp) hb.size⟩

set_option maxHeartbeats 1000000 in
theorem markWriteS_nil (a : Option Addr) (cap : Nat) (k : Int) (w : World) :
    Calls Try.prog 15 #[.slice a 0 cap, .int .i64 k] w fun e w' => e = .returned (.int .i64 k) ∧ w' = w := by
  go_enter Try.func15, Try.ntmps15
  go_wp2
  go_loopw [1, 5] (fun l i wr => i = .int .i64 0 ∧ l = .int .i64 k ∧ wr = w) (fun _ _ _ => 0)
  case atStart => exact ⟨rfl, rfl, rfl⟩
  case round =>
    obtain ⟨rfl, rfl, rfl⟩ := hrel
    go_wp2
    go_ret
    exact ⟨rfl, rfl⟩

set_option maxHeartbeats 1000000 in
theorem heldWriteS_nil (a : Option Addr) (cap : Nat) (k : Int) (w : World) :
    Calls Try.prog 16 #[.slice a 0 cap, .int .i64 k] w fun e w' => e = .returned (.int .i64 k) ∧ w' = w := by
  go_enter Try.func16, Try.ntmps16
  go_wp2
  go_loopw [1, 5] (fun l i wr => i = .int .i64 0 ∧ l = .int .i64 k ∧ wr = w) (fun _ _ _ => 0)
  case atStart => exact ⟨rfl, rfl, rfl⟩
  case round =>
    obtain ⟨rfl, rfl, rfl⟩ := hrel
    go_wp2
    go_ret
    exact ⟨rfl, rfl⟩

theorem markWriteS_all (lo hi n cap : Nat) (a : Option Addr) (k : Int) (ws : List Wr) (γ : Nat → Nat) (w : World) (hn : ws.length = n) (hm : n ≤ 1048576) (hbk : bulk ws ≤ 1048576) (h0 : 0 ≤ k) (h1 : k ≤ 1073741824) (h : OwnA w lo hi a ws γ) :
    Calls Try.prog 15 #[.slice a n cap, .int .i64 k] w fun e w' => e = .returned (.int .i64 (markK ws k n)) ∧ MarkedA w' a ws γ k ∧ Only (Span lo hi) w w' := by
  rcases h with h | ⟨b, rfl, h2, h3, h4⟩
  · subst h
    have hn0 : n = 0 := by rw [← hn]; rfl
    subst hn0
    refine (markWriteS_nil a cap k w).mono ?_
    rintro e w' ⟨rfl, rfl⟩
    exact ⟨by rw [markK_zero], .inl rfl, Only.refl _ _⟩
  · refine (markWriteS_any lo b n cap k ws γ w hn hm hbk h0 h1 h2).mono ?_
    rintro e w' ⟨rfl, h5, h6⟩
    have hS : ∀ x, TakenUp b ws γ x → Span lo hi x := fun x hx => by
      rcases hx with rfl | ⟨i, hi, hp, rfl⟩
      · exact ⟨h2.le, h3⟩
      · exact ⟨(h2.deps i hi hp).1, h4 i hi hp⟩
    refine ⟨rfl, .inr ⟨b, rfl, h5, by rw [h6.size]; exact h2.lt, fun i hi hp => by rw [h6.size]; exact (h2.deps i hi hp).2.1⟩, ?_⟩
    exact ⟨h6.os, h6.tape, h6.output, h6.size, fun x hx => h6.block x fun e => hx (hS x e), h6.frozen⟩

theorem heldWriteS_all (n cap : Nat) (a : Option Addr) (k : Int) (ws : List Wr) (γ : Nat → Nat) (w : World) (hn : ws.length = n) (hm : n ≤ 1048576) (hbk : bulk ws ≤ 1048576) (h0 : 0 ≤ k) (h1 : k ≤ 1073741824) (h : MarkedA w a ws γ k) :
    Calls Try.prog 16 #[.slice a n cap, .int .i64 k] w fun e w' => e = .returned (.int .i64 (markK ws k n)) ∧ w' = w := by
  rcases h with h | ⟨b, rfl, h2, _⟩
  · subst h
    have hn0 : n = 0 := by rw [← hn]; rfl
    subst hn0
    rw [markK_zero]
    exact heldWriteS_nil a cap k w
  · exact heldWriteS_any b n cap k ws γ w hn hm hbk h0 h1 h2

/-- The keys of dependencies that are right rise from 0 on: there are at most six. -/
theorem depsOk_len {xs : List Dp} (h : depsOkB xs = true) : xs.length ≤ 6 := by
  unfold depsOkB at h
  rw [List.all_eq_true] at h
  have hg : ∀ i, i < xs.length → (i : Int) ≤ (xs.getD i dz).k ∧ (xs.getD i dz).k ≤ 5 := by
    intro i
    induction i with
    | zero =>
      intro hi
      have := h 0 (List.mem_range.2 hi)
      unfold depGood btw at this
      simp only [Bool.and_eq_true, decide_eq_true_eq] at this
      exact ⟨by have := this.1.1; omega, this.1.2⟩
    | succ i ih =>
      intro hi
      have h1 := ih (by omega)
      have := h (i + 1) (List.mem_range.2 hi)
      unfold depGood btw at this
      simp only [Bool.and_eq_true, decide_eq_true_eq] at this
      rcases this.2.2 with h2 | h2
      · omega
      · rw [show i + 1 - 1 = i from rfl] at h2
        exact ⟨by omega, this.1.2⟩
  by_cases h7 : xs.length ≤ 6
  · exact h7
  · have := hg 6 (by omega)
    omega

theorem okW_len {x : Wr} (h : okW x = true) : x.xs.length ≤ 6 := by
  unfold okW writeOkB at h
  simp only [Bool.and_eq_true] at h
  exact depsOk_len h.2.2.2.1

theorem bulk_le {ws : List Wr} {m : Nat} (h : ∀ x ∈ ws, x.xs.length ≤ m) : bulk ws ≤ ws.length * m := by
  induction ws with
  | nil => simp [bulk]
  | cons x r ih =>
    have h1 := h x (by simp)
    have h2 := ih fun y hy => h y (by simp [hy])
    simp only [bulk, List.length_cons]
    rw [Nat.add_mul]
    omega

end Go.Proofs.Ytkgojpmjnehcnaa

/- Contracts of impl.MapJoin and impl.MapPut. -/
namespace Go.Proofs.Ytkgojpmjnehcnaa
open Go.ChangeShapes Go.WideShapes Go.ChangeAt Go.RowKit Go.Joins
attribute [local go_sem ↓] Go.wp_at_zero Go.wp_at_succ

def joinB (us vs : List Wr) : List Wr := if mapOkB us = true ∧ mapOkB vs = true then joinW us vs else []

set_option maxRecDepth 100000 in
theorem joinB_not {us vs : List Wr} (h : mapOkB us = false ∨ mapOkB vs = false) : joinB us vs = [] := by
  unfold joinB
  refine if_neg fun h' => ?_
  rcases h with h | h
  · rw [h'.1] at h; cases h
  · rw [h'.2] at h; cases h

set_option maxRecDepth 100000 in
theorem mapOk_keys {ws : List Wr} (h : mapOkB ws = true) : ∀ x ∈ ws, 0 ≤ x.k ∧ x.k ≤ 5 := fun x hx => okW_key (((mapOk_iff ws).1 h).1 x hx)

set_option maxRecDepth 100000 in
theorem mapOk_keys' {ws : List Wr} (h : mapOkB ws = true) : ∀ i, i < ws.length → 0 ≤ (ws.getD i wz).k ∧ (ws.getD i wz).k ≤ 5 := fun i hi => mapOk_keys h _ (by simp [List.getD, hi])

set_option maxRecDepth 100000 in
theorem joinB_told {us vs : List Wr} (ha : mapOkB us = true) (hb : mapOkB vs = true) : toldM (vs.foldl regPut (us.foldl regPut (fun _ => none))) = joinB us vs := by
  unfold joinB
  rw [if_pos ⟨ha, hb⟩]
  exact told_join ((mapOk_iff us).1 ha).2 (mapOk_keys ha) (mapOk_keys hb)

set_option maxRecDepth 100000 in
theorem mapOk_one (x : Wr) : mapOkB [x] = okW x := by
  simp [mapOkB, wrGood, List.range, List.range.loop]

set_option maxRecDepth 100000 in
theorem joinB_one (ws : List Wr) (x : Wr) : joinB ws [x] = if mapOkB ws = true ∧ okW x = true then putW ws x else [] := by
  unfold joinB
  rw [mapOk_one]
  rfl

end Go.Proofs.Ytkgojpmjnehcnaa

/- Contracts of the specification's MapJoin and MapPut. -/
namespace Go.Proofs.Ytkgojpmjnehcnaa
open Go.ChangeShapes Go.WideShapes Go.ChangeAt Go.RowKit Go.Joins
attribute [local go_sem ↓] Go.wp_at_zero Go.wp_at_succ

/-- What the specification answers: a list of writes of its own. -/
def AnsS (w w' : World) (e : Ending) (ws : List Wr) : Prop := ∃ g cp es L, e = .returned (.slice (some ⟨g, 0, none⟩) L cp) ∧ es.length = L ∧ es.map (·.x) = ws ∧ RowEs w' w.heap.size g cp es ∧ Below w.heap.size w w'

end Go.Proofs.Ytkgojpmjnehcnaa

/- How much a join is. -/
namespace Go.Proofs.Ytkgojpmjnehcnaa
open Go.ChangeShapes Go.WideShapes Go.ChangeAt Go.RowKit Go.Joins

theorem joinB_ok (us vs : List Wr) : ∀ x ∈ joinB us vs, okW x = true := by
  intro x hx
  unfold joinB at hx
  split at hx
  · rename_i h
    obtain ⟨_, h2, _⟩ := join_spec vs us ((mapOk_iff us).1 h.1).2
    rcases h2 x hx with h3 | h3
    · exact ((mapOk_iff us).1 h.1).1 x h3
    · exact ((mapOk_iff vs).1 h.2).1 x h3
  · simp at hx

theorem joinB_rise (us vs : List Wr) : Rise (joinB us vs) := by
  unfold joinB
  split
  · rename_i h
    exact (join_spec vs us ((mapOk_iff us).1 h.1).2).1
  · exact List.Pairwise.nil

theorem joinB_mapOk (us vs : List Wr) : mapOkB (joinB us vs) = true := (mapOk_iff _).2 ⟨joinB_ok us vs, joinB_rise us vs⟩

theorem mapOk_len {ws : List Wr} (h : mapOkB ws = true) : ws.length ≤ 6 := by
  have e := told_find ((mapOk_iff ws).1 h).2 (mapOk_keys h)
  rw [← e, ← toldTo_six]
  exact toldTo_len _ 6

theorem mapOk_bulk {ws : List Wr} (h : mapOkB ws = true) : bulk ws ≤ 36 := by
  have h1 := bulk_le (m := 6) fun x hx => okW_len (((mapOk_iff ws).1 h).1 x hx)
  have h2 := mapOk_len h
  omega

theorem joinB_bulk (us vs : List Wr) : bulk (joinB us vs) ≤ 36 := mapOk_bulk (joinB_mapOk us vs)

theorem joinB_len (us vs : List Wr) : (joinB us vs).length ≤ 6 := mapOk_len (joinB_mapOk us vs)

theorem joinB_few (us vs : List Wr) : Few (joinB us vs) := few_of_bulk (by have := joinB_bulk us vs; omega)

/-- The specification's answer, as a list. -/
theorem RowEs.isWs {w : World} {base g cap : Nat} {es : List En} (h : RowEs w base g cap es) {ws : List Wr} (hw : es.map (·.x) = ws) (hx : Few ws) : IsWs w (some ⟨g, 0, none⟩) ws := (h.holds hw).isWs hx

end Go.Proofs.Ytkgojpmjnehcnaa

/- Contracts of Within of both sides. -/
namespace Go.Proofs.Ytkgojpmjnehcnaa
open Go.ChangeShapes Go.WideShapes Go.ChangeAt Go.RowKit Go.Joins
attribute [local go_sem ↓] Go.wp_at_zero Go.wp_at_succ

/-- Two lists of writes are the same. -/
def sameB (us vs : List Wr) : Bool := decide (us.length = vs.length) && (List.range us.length).all fun i => decide (cmpW (us.getD i wz) (vs.getD i wz) = 0)

theorem same_len {us vs : List Wr} (h : us.length ≠ vs.length) : sameB us vs = false := by
  unfold sameB
  rw [decide_eq_false h, Bool.false_and]

theorem same_false {us vs : List Wr} {i : Nat} (hi : i < us.length) (h : cmpW (us.getD i wz) (vs.getD i wz) ≠ 0) : sameB us vs = false := by
  unfold sameB
  rw [Bool.and_eq_false_iff]
  refine .inr ?_
  rw [List.all_eq_false]
  exact ⟨i, List.mem_range.2 hi, by simpa using h⟩

theorem same_true {us vs : List Wr} (hl : us.length = vs.length) (h : ∀ i, i < us.length → cmpW (us.getD i wz) (vs.getD i wz) = 0) : sameB us vs = true := by
  unfold sameB
  rw [decide_eq_true hl, Bool.true_and, List.all_eq_true]
  intro i hi
  exact decide_eq_true (h i (List.mem_range.1 hi))

def withinB (us vs : List Wr) : Bool := mapOkB us && (mapOkB vs && sameB (joinB us vs) vs)

end Go.Proofs.Ytkgojpmjnehcnaa

/- Maps joined: whichever comes first, the same comes; within is an order. No program in sight. -/
namespace Go.Proofs.Ytkgojpmjnehcnaa

theorem dcmp_zero {d e : Dp} (h : dcmp d e = 0) : d = e := by
  obtain ⟨k, c, s, q⟩ := d
  obtain ⟨k', c', s', q'⟩ := e
  unfold dcmp at h
  simp only at h
  by_cases hk : k = k'
  · rw [if_neg (by simp [hk])] at h
    obtain ⟨rfl, rfl, rfl⟩ := tcmp_zero.1 h
    rw [hk]
  · rw [if_pos hk] at h
    exact absurd (sgn_zero.1 h) hk

theorem depsCmp_zero : ∀ {xs ys : List Dp}, depsCmp xs ys = 0 → xs = ys
  | [], [], _ => rfl
  | [], _ :: _, h => by simp [depsCmp] at h
  | _ :: _, [], h => by simp [depsCmp] at h
  | d :: r, e :: t, h => by
    unfold depsCmp at h
    by_cases hd : dcmp d e = 0
    · rw [if_neg (by simp [hd])] at h
      rw [dcmp_zero hd, depsCmp_zero h]
    · rw [if_pos hd] at h
      exact absurd h hd

theorem cmpW_zero {x y : Wr} (h : cmpW x y = 0) : x = y := by
  obtain ⟨k, c, s, q, v, de, xs⟩ := x
  obtain ⟨k', c', s', q', v', de', ys⟩ := y
  unfold cmpW wcmp at h
  simp only at h
  by_cases h1 : tcmp c s q c' s' q' = 0
  · rw [if_neg (by simp [h1])] at h
    obtain ⟨rfl, rfl, rfl⟩ := tcmp_zero.1 h1
    by_cases h2 : k = k'
    · subst h2
      rw [if_neg (by simp)] at h
      by_cases h3 : v = v'
      · subst h3
        rw [if_neg (by simp)] at h
        by_cases h4 : de = de'
        · subst h4
          rw [if_neg (by simp)] at h
          rw [depsCmp_zero h]
        · rw [if_pos h4] at h
          exact absurd (sgn_zero.1 h) (by cases de <;> cases de' <;> simp [bit] at h4 ⊢)
      · rw [if_pos h3] at h
        exact absurd (sgn_zero.1 h) h3
    · rw [if_pos h2] at h
      exact absurd (sgn_zero.1 h) h2
  · rw [if_pos h1] at h
    exact absurd h h1

theorem cmpW_self (x : Wr) : cmpW x x = 0 := by
  have h := wcmp_neg x.k x.c x.s x.q x.v x.de x.xs x.k x.c x.s x.q x.v x.de x.xs
  unfold cmpW
  omega

theorem same_iff (us vs : List Wr) : sameB us vs = true ↔ us = vs := by
  constructor
  · intro h
    unfold sameB at h
    rw [Bool.and_eq_true, decide_eq_true_eq, List.all_eq_true] at h
    refine List.ext_getElem h.1 fun i h1 h2 => ?_
    have h3 := h.2 i (List.mem_range.2 h1)
    have e1 : us.getD i wz = us[i] := by simp [List.getD, h1]
    have e2 : vs.getD i wz = vs[i] := by simp [List.getD, h2]
    rw [decide_eq_true_eq, e1, e2] at h3
    exact cmpW_zero h3
  · rintro rfl
    exact same_true rfl fun i _ => cmpW_self _

/-- The later of two registers. -/
def later2 (a b : Option Wr) : Option Wr := match b with
  | none => a
  | some y => some (laterO a y)

theorem fold_find : ∀ (b : List Wr) (M : Int → Option Wr), Rise b → ∀ key, b.foldl regPut M key = later2 (M key) (findW b key)
  | [], M, _, key => rfl
  | x :: r, M, h, key => by
    have hp := List.pairwise_cons.1 h
    show r.foldl regPut (regPut M x) key = _
    rw [fold_find r (regPut M x) hp.2 key, findW_cons]
    by_cases hk : x.k = key
    · subst hk
      rw [if_pos rfl, findW_past (fun z hz => hp.1 z hz)]
      show regPut M x x.k = _
      unfold regPut later2
      rw [if_pos rfl]
    · rw [if_neg hk]
      unfold regPut
      rw [if_neg (Ne.symm hk)]

theorem find_join {a b : List Wr} (ha : Rise a) (hb : Rise b) (key : Int) : findW (joinW a b) key = later2 (findW a key) (findW b key) := by
  rw [(join_spec b a ha).2.2 key, fold_find b _ hb]

theorem later_some (x y : Wr) : later2 (some x) (some y) = some (if cmpW x y < 0 then y else x) := rfl

theorem cmpW_turn (x y : Wr) : cmpW y x = -cmpW x y := wcmp_neg ..

theorem later_comm (a b : Option Wr) : later2 a b = later2 b a := by
  cases a with
  | none => cases b <;> rfl
  | some x =>
    cases b with
    | none => rfl
    | some y =>
      rw [later_some, later_some, cmpW_turn x y]
      by_cases h1 : cmpW x y < 0
      · rw [if_pos h1, if_neg (by omega)]
      · rw [if_neg h1]
        by_cases h2 : cmpW x y = 0
        · rw [if_neg (by omega), cmpW_zero h2]
        · rw [if_pos (by omega)]

theorem later_self (a : Option Wr) : later2 a a = a := by
  cases a with
  | none => rfl
  | some x => rw [later_some, if_neg (by rw [cmpW_self]; omega)]

theorem cmpW_three (x y z : Wr) : T3 (cmpW x y) (cmpW y z) (cmpW x z) := wcmp_three ..

theorem later_assoc (a b c : Option Wr) : later2 (later2 a b) c = later2 a (later2 b c) := by
  cases c with
  | none => rfl
  | some z =>
    cases b with
    | none => rfl
    | some y =>
      cases a with
      | none =>
        show later2 (some y) (some z) = later2 none (later2 (some y) (some z))
        rw [later_some]
        rfl
      | some x =>
        rw [later_some x y, later_some y z]
        have t1 := cmpW_three x y z
        have t2 := cmpW_three z y x
        rw [cmpW_turn y z, cmpW_turn x y, cmpW_turn x z] at t2
        by_cases h1 : cmpW x y < 0
        · rw [if_pos h1, later_some]
          by_cases h2 : cmpW y z < 0
          · rw [if_pos h2, later_some, if_pos (t1.n h1 h2)]
          · rw [if_neg h2, later_some, if_pos h1]
        · rw [if_neg h1, later_some]
          by_cases h2 : cmpW y z < 0
          · rw [if_pos h2, later_some]
          · rw [if_neg h2, later_some, if_neg h1]
            by_cases h3 : cmpW x z < 0
            · exfalso
              rcases t2.on (by omega) (by omega) with h4 | h4 <;> omega
            · rw [if_neg h3]

structure OkM (ws : List Wr) : Prop where
  rise : Rise ws
  keys : ∀ x ∈ ws, 0 ≤ x.k ∧ x.k ≤ 5

theorem OkM.join {a b : List Wr} (ha : OkM a) (hb : OkM b) : OkM (joinW a b) where
  rise := (join_spec b a ha.rise).1
  keys := fun x hx => ((join_spec b a ha.rise).2.1 x hx).elim (ha.keys x) (hb.keys x)

theorem OkM.ext {a b : List Wr} (ha : OkM a) (hb : OkM b) (h : ∀ key, findW a key = findW b key) : a = b := by
  rw [← told_find ha.rise ha.keys, ← told_find hb.rise hb.keys, funext h]

theorem join_comm {a b : List Wr} (ha : OkM a) (hb : OkM b) : joinW a b = joinW b a :=
  (ha.join hb).ext (hb.join ha) fun key => by rw [find_join ha.rise hb.rise, find_join hb.rise ha.rise, later_comm]

theorem join_self {a : List Wr} (ha : OkM a) : joinW a a = a :=
  (ha.join ha).ext ha fun key => by rw [find_join ha.rise ha.rise, later_self]

theorem join_assoc {a b c : List Wr} (ha : OkM a) (hb : OkM b) (hc : OkM c) : joinW (joinW a b) c = joinW a (joinW b c) :=
  ((ha.join hb).join hc).ext (ha.join (hb.join hc)) fun key => by
    rw [find_join (ha.join hb).rise hc.rise, find_join ha.rise hb.rise, find_join ha.rise (hb.join hc).rise, find_join hb.rise hc.rise, later_assoc]

theorem okM {ws : List Wr} (h : mapOkB ws = true) : OkM ws := ⟨((mapOk_iff ws).1 h).2, mapOk_keys h⟩

theorem joinB_yes {us vs : List Wr} (h : mapOkB us = true) (h' : mapOkB vs = true) : joinB us vs = joinW us vs := by
  unfold joinB
  exact if_pos ⟨h, h'⟩

theorem within_iff (us vs : List Wr) : withinB us vs = true ↔ mapOkB us = true ∧ mapOkB vs = true ∧ joinW us vs = vs := by
  unfold withinB
  rw [Bool.and_eq_true, Bool.and_eq_true, same_iff]
  constructor
  · rintro ⟨h1, h2, h3⟩
    rw [joinB_yes h1 h2] at h3
    exact ⟨h1, h2, h3⟩
  · rintro ⟨h1, h2, h3⟩
    refine ⟨h1, h2, ?_⟩
    rw [joinB_yes h1 h2]
    exact h3

theorem within_self (us : List Wr) : withinB us us = mapOkB us := by
  cases h : mapOkB us
  · unfold withinB
    rw [h, Bool.false_and]
  · exact (within_iff us us).2 ⟨h, h, join_self (okM h)⟩

theorem within_anti {us vs : List Wr} (h : withinB us vs = true) (h' : withinB vs us = true) : us = vs := by
  obtain ⟨h1, h2, h3⟩ := (within_iff us vs).1 h
  obtain ⟨_, _, h4⟩ := (within_iff vs us).1 h'
  rw [← h3, join_comm (okM h1) (okM h2), h4]

theorem within_join {us vs ws : List Wr} (h : withinB us vs = true) (hw : mapOkB ws = true) : withinB us (joinB vs ws) = true := by
  obtain ⟨h1, h2, h3⟩ := (within_iff us vs).1 h
  refine (within_iff us _).2 ⟨h1, joinB_mapOk _ _, ?_⟩
  rw [joinB_yes h2 hw, ← join_assoc (okM h1) (okM h2) (okM hw), h3]

/-- What FnWithin asks. -/
theorem within_law (us vs ws : List Wr) : (withinB us vs = true → withinB vs us = true → sameB us vs = true) ∧ (withinB us vs = true → mapOkB ws = true → withinB us (joinB vs ws) = true) :=
  ⟨fun h h' => (same_iff _ _).2 (within_anti h h'), fun h h' => within_join h h'⟩

end Go.Proofs.Ytkgojpmjnehcnaa

/- slices.BinarySearchFunc over writes in order. -/
namespace Go.Proofs.Ytkgojpmjnehcnaa
open Go.ChangeShapes Go.WideShapes Go.ChangeAt Go.RowKit Go.Joins
attribute [local go_sem ↓] Go.wp_at_zero Go.wp_at_succ

/-- Writes in order, each once. -/
def RiseW (ws : List Wr) : Prop := ∀ i j, i < j → j < ws.length → cmpW (ws.getD i wz) (ws.getD j wz) < 0

theorem rise_below {ws : List Wr} (h : RiseW ws) {i k : Nat} {x : Wr} (hik : i ≤ k) (hk : k < ws.length) (hc : cmpW (ws.getD k wz) x < 0) : cmpW (ws.getD i wz) x < 0 := by
  by_cases e : i = k
  · rw [e]; exact hc
  · exact (cmpW_three _ _ _).n (h i k (by omega) hk) hc

theorem rise_above {ws : List Wr} (h : RiseW ws) {i k : Nat} {x : Wr} (hik : k ≤ i) (hi : i < ws.length) (hc : 0 ≤ cmpW (ws.getD k wz) x) : 0 ≤ cmpW (ws.getD i wz) x := by
  by_cases hn : cmpW (ws.getD i wz) x < 0
  · have := rise_below h hik hi hn
    omega
  · omega

/-- What the search tells: the place, and whether the write is there. -/
def FoundAt (ws : List Wr) (x : Wr) (i : Nat) (fb : Bool) : Prop := i ≤ ws.length ∧ (∀ k, k < i → cmpW (ws.getD k wz) x < 0) ∧ (∀ k, i ≤ k → k < ws.length → 0 ≤ cmpW (ws.getD k wz) x) ∧ fb = (decide (i < ws.length) && (cmpW (ws.getD i wz) x == 0))

set_option maxRecDepth 100000 in
set_option maxHeartbeats 4000000 in
theorem bsearch_any (a : Option Addr) (n cap : Nat) (ws : List Wr) (x : Wr) (ad : Option Addr) (cp : Nat) (w : World) (hn : ws.length = n) (hm : n ≤ 1048576) (hx : Few ws) (hxl : x.xs.length ≤ 1048576) (hh : IsWs w a ws) (hd : IsDeps w ad x.xs) (hr : RiseW ws) :
    Calls Try.prog 63 #[.slice a n cap, wrOf x ad cp, .func (.func 65) #[] #[]] w fun e w' => ∃ i fb, e = .returned (.tuple #[.int .i64 ((i : Nat) : Int), .bool fb]) ∧ FoundAt ws x i fb ∧ Below w.heap.size w w' := by
  obtain ⟨xk, xc, xs', xq, xv, xd, xx⟩ := x
  simp only at hxl hd
  have HH := Lib.hid hh
  have HN := Lib.hid hn
  have HX := Lib.hid hx
  have HR := Lib.hid hr
  have HA : Hid (Below w.heap.size w (w.alloc (.cells #[.int .i64 xk, .int .i64 xc, .int .i64 xs', .int .i64 xq, .int .i64 xv, .bool xd, .slice ad xx.length cp] 43))) := (Below.refl _ _).alloc (Nat.le_refl _) _
  have HD := Lib.hid hd
  have HBX : Hid ((w.alloc (.cells #[.int .i64 xk, .int .i64 xc, .int .i64 xs', .int .i64 xq, .int .i64 xv, .bool xd, .slice ad xx.length cp] 43)).heap[w.heap.size]? = some (.cells #[.int .i64 xk, .int .i64 xc, .int .i64 xs', .int .i64 xq, .int .i64 xv, .bool xd, .slice ad xx.length cp] 43 (0, 0))) := heap_alloc_new _ _
  have hsz : (w.alloc (.cells #[.int .i64 xk, .int .i64 xc, .int .i64 xs', .int .i64 xq, .int .i64 xv, .bool xd, .slice ad xx.length cp] 43)).heap.size = w.heap.size + 1 := by simp
  clear hh hn hx hr hd
  unfold wrOf
  simp only
  go_enter Try.func63, Try.ntmps63
  go_wp2
  generalize w.alloc (.cells #[.int .i64 xk, .int .i64 xc, .int .i64 xs', .int .i64 xq, .int .i64 xv, .bool xd, .slice ad xx.length cp] 43) = W1 at *
  go_loopw [9, 10] (fun ti tj wr => ∃ i j : Nat, i ≤ j ∧ j ≤ n ∧ ti = .int .i64 i ∧ tj = .int .i64 j ∧ Hid (∀ k, k < i → cmpW (ws.getD k wz) ⟨xk, xc, xs', xq, xv, xd, xx⟩ < 0) ∧ Hid (∀ k, j ≤ k → k < ws.length → 0 ≤ cmpW (ws.getD k wz) ⟨xk, xc, xs', xq, xv, xd, xx⟩) ∧ Hid (Below W1.heap.size W1 wr)) (fun ti tj _ => (intOf tj).toNat - (intOf ti).toNat)
  case atStart => exact ⟨0, n, Nat.zero_le _, Nat.le_refl _, rfl, rfl, fun k hk => absurd hk (Nat.not_lt_zero k), fun k h1 h2 => absurd h2 (by rw [HN.out]; omega), Below.refl _ _⟩
  case round =>
    obtain ⟨i, j, hij, hjn, rfl, rfl, HL, HG, HB⟩ := hrel
    have HBW : Hid (Below w.heap.size w wr) := below_step HA.out HA.out.size HB.out
    have qb := (HB.out.block w.heap.size (by omega)).trans HBX.out
    have g0 := cell_of_row wr w.heap.size 0 _ _ _ qb
    have g1 := cell_of_row wr w.heap.size 1 _ _ _ qb
    have g2 := cell_of_row wr w.heap.size 2 _ _ _ qb
    have g3 := cell_of_row wr w.heap.size 3 _ _ _ qb
    have g4 := cell_of_row wr w.heap.size 4 _ _ _ qb
    have g5 := cell_of_row wr w.heap.size 5 _ _ _ qb
    have g6 := cell_of_row wr w.heap.size 6 _ _ _ qb
    simp at g0 g1 g2 g3 g4 g5 g6
    have hlt : w.heap.size < wr.heap.size := by have := HB.out.size; omega
    clear qb
    by_cases hlt2 : i < j
    · go_wp2_with fail
      obtain ⟨h, hh⟩ : ∃ h : Nat, (i + j) / 2 = h := ⟨_, rfl⟩
      have hhi : ((i : Int) + (j : Int)) / 2 = (h : Int) := by omega
      rw [hhi]
      have h1 : i ≤ h := by omega
      have h2 : h < j := by omega
      have i1 : (0 : Int) ≤ (h : Int) := by omega
      have i2 : (h : Int) < (n : Int) := by omega
      clear hhi hh
      obtain ⟨b, o, ad2, cp2, rfl, hz, ⟨e0, e1, e2, e3, e4, e5, e6⟩, hde⟩ := HH.out.at HBW.out HN.out (show h < n by omega)
      have hyl := HX.out h (by rw [HN.out]; omega)
      have HC : Hid (∀ p : Aft wr.heap.size wr, Calls Try.prog 65 #[wrOf (ws.getD h wz) ad2 cp2, wrV xk xc xs' xq xv xd ad xx.length cp] p.now fun e w' => e = .returned (.int .i64 (cmpW (ws.getD h wz) ⟨xk, xc, xs', xq, xv, xd, xx⟩)) ∧ Below p.now.heap.size p.now w') := fun p =>
        implWriteCmp_gen _ _ _ _ _ _ _ (ws.getD h wz).xs _ _ _ _ _ _ _ _ _ xx _ _ _ rfl rfl hyl hxl (hde.below p.below) (HD.out.below (below_step HBW.out HBW.out.size p.below))
      unfold wrOf at HC
      have HLO : Hid (cmpW (ws.getD h wz) ⟨xk, xc, xs', xq, xv, xd, xx⟩ < 0 → ∀ k, k < h + 1 → cmpW (ws.getD k wz) ⟨xk, xc, xs', xq, xv, xd, xx⟩ < 0) := fun hc k hk => rise_below HR.out (by omega) (by rw [HN.out]; omega) hc
      have HHI : Hid (0 ≤ cmpW (ws.getD h wz) ⟨xk, xc, xs', xq, xv, xd, xx⟩ → ∀ k, h ≤ k → k < ws.length → 0 ≤ cmpW (ws.getD k wz) ⟨xk, xc, xs', xq, xv, xd, xx⟩) := fun hc k hk hl => rise_above HR.out hk hl hc
      clear hde
      generalize ws.getD h wz = y at *
      obtain ⟨yk, yc, ys, yq, yv, yd, yy⟩ := y
      simp only at e0 e1 e2 e3 e4 e5 e6 HC hyl
      obtain ⟨z, hz0⟩ : ∃ z, cmpW ⟨yk, yc, ys, yq, yv, yd, yy⟩ ⟨xk, xc, xs', xq, xv, xd, xx⟩ = z := ⟨_, rfl⟩
      rw [hz0] at HLO HHI
      have HC' : Hid (∀ p : Aft wr.heap.size wr, Calls Try.prog 65 #[wrV yk yc ys yq yv yd ad2 yy.length cp2, wrV xk xc xs' xq xv xd ad xx.length cp] p.now fun e w' => e = .returned (.int .i64 z) ∧ Below p.now.heap.size p.now w') := by rw [← hz0]; exact HC
      clear HC hz0
      have gg0 := aft_cell hlt g0
      have gg1 := aft_cell hlt g1
      have gg2 := aft_cell hlt g2
      have gg3 := aft_cell hlt g3
      have gg4 := aft_cell hlt g4
      have gg5 := aft_cell hlt g5
      have gg6 := aft_cell hlt g6
      have ge0 := aft_cell hz e0
      have ge1 := aft_cell hz e1
      have ge2 := aft_cell hz e2
      have ge3 := aft_cell hz e3
      have ge4 := aft_cell hz e4
      have ge5 := aft_cell hz e5
      have ge6 := aft_cell hz e6
      have ne := aft_some wr
      refine wp_region_aft (by kernel_rfl) (by kernel_rfl) ?_
      repeat (first | go_big_quiet_step (first | (go_at_call 65; exact aft_of (HC'.out _))))
      refine wpQuiet_nil ?_
      intro wq hq
      have HBQ : Hid (Below W1.heap.size W1 wq) := below_step HB.out HB.out.size hq
      clear hq gg0 gg1 gg2 gg3 gg4 gg5 gg6 ge0 ge1 ge2 ge3 ge4 ge5 ge6 ne
      by_cases hzn : z < 0
      · have HL2 := Lib.hid (HLO.out hzn)
        go_wp2
        exact ⟨⟨h + 1, j, by omega, hjn, by go_num, rfl, HL2, HG, HBQ⟩, by simp [intOf]; omega⟩
      · have HG2 := Lib.hid (HHI.out (by omega))
        go_wp2
        exact ⟨⟨i, h, h1, by omega, rfl, by go_num, HL, HG2, HBQ⟩, by simp [intOf]; omega⟩
    · obtain rfl : i = j := by omega
      by_cases hin : i < n
      · have i1 : (0 : Int) ≤ (i : Int) := by omega
        have i2 : (i : Int) < (n : Int) := by omega
        have hd1 : decide (i < n) = true := decide_eq_true hin
        obtain ⟨b, o, ad2, cp2, rfl, hz, ⟨e0, e1, e2, e3, e4, e5, e6⟩, hde⟩ := HH.out.at HBW.out HN.out (show i < n by omega)
        have hyl := HX.out i (by rw [HN.out]; omega)
        have HC : Hid (∀ p : Aft wr.heap.size wr, Calls Try.prog 65 #[wrOf (ws.getD i wz) ad2 cp2, wrV xk xc xs' xq xv xd ad xx.length cp] p.now fun e w' => e = .returned (.int .i64 (cmpW (ws.getD i wz) ⟨xk, xc, xs', xq, xv, xd, xx⟩)) ∧ Below p.now.heap.size p.now w') := fun p =>
          implWriteCmp_gen _ _ _ _ _ _ _ (ws.getD i wz).xs _ _ _ _ _ _ _ _ _ xx _ _ _ rfl rfl hyl hxl (hde.below p.below) (HD.out.below (below_step HBW.out HBW.out.size p.below))
        unfold wrOf at HC
        have HF : Hid (∀ z, cmpW (ws.getD i wz) ⟨xk, xc, xs', xq, xv, xd, xx⟩ = z → FoundAt ws ⟨xk, xc, xs', xq, xv, xd, xx⟩ i (z == 0)) := fun z h0 => ⟨by rw [HN.out]; omega, HL.out, HG.out, by rw [HN.out, hd1, h0, Bool.true_and]⟩
        clear hde
        generalize ws.getD i wz = y at *
        obtain ⟨yk, yc, ys, yq, yv, yd, yy⟩ := y
        simp only at e0 e1 e2 e3 e4 e5 e6 HC hyl
        obtain ⟨z, hz0⟩ : ∃ z, cmpW ⟨yk, yc, ys, yq, yv, yd, yy⟩ ⟨xk, xc, xs', xq, xv, xd, xx⟩ = z := ⟨_, rfl⟩
        have HF2 := Lib.hid (HF.out z hz0)
        have HC' : Hid (∀ p : Aft wr.heap.size wr, Calls Try.prog 65 #[wrV yk yc ys yq yv yd ad2 yy.length cp2, wrV xk xc xs' xq xv xd ad xx.length cp] p.now fun e w' => e = .returned (.int .i64 z) ∧ Below p.now.heap.size p.now w') := by rw [← hz0]; exact HC
        clear HC hz0 HF
        go_wp2_with fail
        have gg0 := aft_cell hlt g0
        have gg1 := aft_cell hlt g1
        have gg2 := aft_cell hlt g2
        have gg3 := aft_cell hlt g3
        have gg4 := aft_cell hlt g4
        have gg5 := aft_cell hlt g5
        have gg6 := aft_cell hlt g6
        have ge0 := aft_cell hz e0
        have ge1 := aft_cell hz e1
        have ge2 := aft_cell hz e2
        have ge3 := aft_cell hz e3
        have ge4 := aft_cell hz e4
        have ge5 := aft_cell hz e5
        have ge6 := aft_cell hz e6
        have ne := aft_some wr
        refine wp_region_aft (by kernel_rfl) (by kernel_rfl) ?_
        repeat (first | go_big_quiet_step (first | (go_at_call 65; exact aft_of (HC'.out _))))
        refine wpQuiet_nil ?_
        intro wq hq
        have HBQ : Hid (Below W1.heap.size W1 wq) := below_step HB.out HB.out.size hq
        clear hq gg0 gg1 gg2 gg3 gg4 gg5 gg6 ge0 ge1 ge2 ge3 ge4 ge5 ge6 ne
        have HBF : Hid (Below w.heap.size w wq) := below_step HA.out HA.out.size HBQ.out
        go_wp2
        exact bodyPost_ret (v := .tuple #[.int .i64 (i : Int), .bool (z == 0)]) (by simp [results, Try.results63, go_sem]) rfl ⟨i, z == 0, rfl, HF2.out, HBF.out⟩
      · have hd1 : decide (i < n) = false := decide_eq_false hin
        have HF : Hid (FoundAt ws ⟨xk, xc, xs', xq, xv, xd, xx⟩ i false) := ⟨by rw [HN.out]; omega, HL.out, HG.out, by rw [HN.out, hd1, Bool.false_and]⟩
        go_wp2_with fail
        have ne := aft_some wr
        refine wp_region_aft (by kernel_rfl) (by kernel_rfl) ?_
        repeat (first | go_big_quiet_step (fail))
        refine wpQuiet_nil ?_
        intro wq hq
        have HBF : Hid (Below w.heap.size w wq) := below_step HBW.out HBW.out.size hq
        clear hq ne
        go_wp2
        exact bodyPost_ret (v := .tuple #[.int .i64 (i : Int), .bool false]) (by simp [results, Try.results63, go_sem]) rfl ⟨i, false, rfl, HF.out, HBF.out⟩

end Go.Proofs.Ytkgojpmjnehcnaa
