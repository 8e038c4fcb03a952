/- Contracts of impl.MapOk, placeOfKey, copyWrite, MapAt, MapHas. -/
import Derived.Test.YtfapebnilbdheajMapAt
import Derived.Test.YtfapebnilbdheajWriteOk2
import Derived.Test.YtfapebnilbdheajTagCmp2
namespace Go.Proofs.Ytfapebnilbdheaj
open Go.ChangeShapes Go.WideShapes Go.ChangeAt Go.RowKit Go.Joins
attribute [local go_sem ↓] Go.wp_at_zero Go.wp_at_succ

def lastW (ws : List Wr) (k : Nat) : Int := if k = 0 then -1 else (ws.getD (k - 1) wz).k

theorem okW_key {x : Wr} (h : okW x = true) : 0 ≤ x.k ∧ x.k ≤ 5 := by
  unfold okW writeOkB btw at h
  simp only [Bool.and_eq_true, decide_eq_true_eq] at h
  exact h.1

theorem wrGood_bad {ws : List Wr} {k : Nat} (h1 : okW (ws.getD k wz) = true) (h : (ws.getD k wz).k ≤ lastW ws k) : wrGood ws k = false := by
  unfold wrGood
  rw [h1, Bool.true_and]
  refine decide_eq_false ?_
  have := okW_key h1
  unfold lastW at h
  by_cases hk : k = 0
  · rw [if_pos hk] at h
    omega
  · rw [if_neg hk] at h
    omega

theorem wrGood_good {ws : List Wr} {k : Nat} (h1 : okW (ws.getD k wz) = true) (h : lastW ws k < (ws.getD k wz).k) : wrGood ws k = true := by
  unfold wrGood
  rw [h1, Bool.true_and]
  refine decide_eq_true ?_
  unfold lastW at h
  by_cases hk : k = 0
  · exact .inl hk
  · rw [if_neg hk] at h
    exact .inr h

theorem wrGood_not {ws : List Wr} {k : Nat} (h1 : okW (ws.getD k wz) = false) : wrGood ws k = false := by
  unfold wrGood
  rw [h1, Bool.false_and]

set_option maxHeartbeats 2000000 in
theorem implMapOk_any (a : Option Addr) (n cap : Nat) (ws : List Wr) (w : World) (hn : ws.length = n) (hm : n ≤ 1048576) (hx : Few ws) (hh : IsWs w a ws) :
    Calls Try.prog 16 #[.slice a n cap] w fun e w' => e = .returned (.bool (mapOkB ws)) ∧ Below w.heap.size w w' := by
  have HH : Hid (IsWs w a ws) := hh
  have HN : Hid (ws.length = n) := hn
  have HX : Hid (Few ws) := hx
  clear hh hn hx
  go_enter Try.func16, Try.ntmps16
  go_wp2
  go_loopw [3, 8] (fun l i wr => ∃ k : Nat, ∃ la : Int, k ≤ n ∧ i = .int .i64 k ∧ l = .int .i64 la ∧ Hid (lastW ws k = la) ∧ Hid (∀ j, j < k → wrGood ws j = true) ∧ Hid (Below w.heap.size w wr)) (fun _ i _ => n - (intOf i).toNat)
  case atStart => exact ⟨0, -1, Nat.zero_le _, rfl, rfl, rfl, fun j hj => by omega, Below.refl _ _⟩
  case round =>
    obtain ⟨k, la, hk, rfl, rfl, HL, HG, HB⟩ := hrel
    by_cases hk' : k < n
    · obtain ⟨b, o, ad, cp, rfl, hz, ⟨e0, e1, e2, e3, e4, e5, e6⟩, hd⟩ := HH.out.at HB.out HN.out hk'
      have i1 : (0 : Int) ≤ (k : Int) := by omega
      have i2 : (k : Int) < (n : Int) := by omega
      have HS : Hid (lastW ws (k + 1) = (ws.getD k wz).k) := by unfold lastW; simp [Hid]
      have HC : Hid (∀ W, Below wr.heap.size wr W → Calls Try.prog 23 #[wrOf (ws.getD k wz) ad cp] W fun e w' => e = .returned (.bool (okW (ws.getD k wz))) ∧ Below W.heap.size W w') := fun W hW =>
        implWriteOk_gen _ _ _ _ _ _ _ (ws.getD k wz).xs _ _ _ rfl (HX.out k (by rw [HN.out]; exact hk')) (hd.below hW)
      clear hd HH
      cases h1 : okW (ws.getD k wz)
      · have HF : Hid (mapOkB ws = false) := mapOk_false (by rw [HN.out]; exact hk') (wrGood_not h1)
        clear HS
        rw [h1] at HC
        clear h1
        generalize ws.getD k wz = x at *
        obtain ⟨xk, xc, xs', xq, xv, xd, xx⟩ := x
        simp only at e0 e1 e2 e3 e4 e5 e6 HC
        go_wp2_with fail
        refine (HC.out _ ((Below.refl _ _).alloc (Nat.le_refl _) _)).mono ?_
        rintro e w2 ⟨rfl, hb⟩
        have HB2 : Hid (Below w.heap.size w w2) := below_step HB.out HB.out.size (BoxIn.start hb).below
        clear hb
        go_wp2
        go_ret
        exact ⟨ret_bool HF.out.symm, HB2.out⟩
      · by_cases h3 : (ws.getD k wz).k ≤ la
        · have HF : Hid (mapOkB ws = false) := mapOk_false (by rw [HN.out]; exact hk') (wrGood_bad h1 (by rw [HL.out]; exact h3))
          clear HS
          rw [h1] at HC
          clear h1
          generalize ws.getD k wz = x at *
          obtain ⟨xk, xc, xs', xq, xv, xd, xx⟩ := x
          simp only at e0 e1 e2 e3 e4 e5 e6 HC h3
          go_wp2_with fail
          refine (HC.out _ ((Below.refl _ _).alloc (Nat.le_refl _) _)).mono ?_
          rintro e w2 ⟨rfl, hb⟩
          have HX2 := Lib.hid (BoxIn.start hb)
          have HB2 : Hid (Below w.heap.size w w2) := below_step HB.out HB.out.size HX2.out.below
          have b0 := HX2.out.c0
          clear hb
          go_wp2
          go_ret
          exact ⟨ret_bool HF.out.symm, HB2.out⟩
        · have HG' : Hid (∀ j, j < k + 1 → wrGood ws j = true) := good_next HG.out (wrGood_good h1 (by rw [HL.out]; omega))
          rw [h1] at HC
          clear h1
          generalize ws.getD k wz = x at *
          obtain ⟨xk, xc, xs', xq, xv, xd, xx⟩ := x
          simp only at e0 e1 e2 e3 e4 e5 e6 HC h3 HS
          go_wp2_with fail
          refine (HC.out _ ((Below.refl _ _).alloc (Nat.le_refl _) _)).mono ?_
          rintro e w2 ⟨rfl, hb⟩
          have HX2 := Lib.hid (BoxIn.start hb)
          have HB2 : Hid (Below w.heap.size w w2) := below_step HB.out HB.out.size HX2.out.below
          have b0 := HX2.out.c0
          clear hb
          go_wp2
          exact ⟨⟨k + 1, xk, by omega, by go_num, rfl, HS, HG', HB2⟩, by simp [intOf]; omega⟩
    · have hkk : k = n := by omega
      subst hkk
      have HF : Hid (mapOkB ws = true) := mapOk_true (fun i hi => HG.out i (by rw [← HN.out]; exact hi))
      go_wp2
      go_ret
      exact ⟨ret_bool HF.out.symm, HB.out⟩

theorem kept_new {W w1 : World} {b t : Nat} {vs : Array Value} (hg : W.grownBy w1 none) (h : W.heap[b]? = some (.cells vs t (0, 0))) : (∀ j v, vs[j]? = some v → w1.cell? ⟨b, j, none⟩ = some v) ∧ ∀ j, w1.frozen? ⟨b, j, none⟩ = false := by
  have hb : b < W.heap.size := (Array.getElem?_eq_some_iff.1 h).1
  have e := hg.block b hb (by simp)
  rw [h] at e
  exact ⟨fun j v hv => by rw [cell_of_row w1 b j vs t (0, 0) e]; exact hv, fun j => frozen_of_row w1 b j vs t e⟩

theorem heap_one (w : World) (o1 o2 : Obj) : ((w.alloc o1).alloc o2).heap[w.heap.size]? = some o1 ∧ ((w.alloc o1).alloc o2).heap[w.heap.size + 1]? = some o2 := by
  constructor
  · rw [Below.heap_alloc _ _ _ (by simp)]
    exact heap_alloc_new w o1
  · have := heap_alloc_new (w.alloc o1) o2
    simpa using this

/-- A place, or none. -/
def PlaceAt (ws : List Wr) (key r : Int) : Prop := (∃ i : Nat, FirstAt ws key i ∧ r = i) ∨ (NoneAt ws key ∧ r = -1)

/-- Dependencies of one's own, from block number B on, where there are some. -/
def FreshDeps (B : Nat) (w : World) (a : Option Addr) (g : Nat) (xs : List Dp) : Prop := 0 < xs.length → a = some ⟨g, 0, none⟩ ∧ B ≤ g ∧ g < w.heap.size ∧ HoldsDeps w g 0 xs ∧ ∀ o, w.frozen? ⟨g, o, none⟩ = false

theorem FreshDeps.below {B : Nat} {w w' : World} {a : Option Addr} {g : Nat} {xs : List Dp} (h : FreshDeps B w a g xs) (hb : Below w.heap.size w w') : FreshDeps B w' a g xs := fun hp => by
  obtain ⟨h1, h2, h3, h4, h5⟩ := h hp
  exact ⟨h1, h2, Nat.lt_of_lt_of_le h3 hb.size, h4.below hb h3, fun o => (hb.frozen (p := ⟨g, o, none⟩) h3).trans (h5 o)⟩

theorem FreshDeps.isDeps {B : Nat} {w : World} {a : Option Addr} {g : Nat} {xs : List Dp} (h : FreshDeps B w a g xs) : IsDeps w a xs := by
  by_cases hp : 0 < xs.length
  · obtain ⟨h1, _, h3, h4, _⟩ := h hp
    exact .inr ⟨g, 0, h1, h3, h4⟩
  · exact .inl (List.length_eq_zero_iff.1 (by omega))

theorem fresh_set {w : World} {g : Nat} {xs : List Dp} {p : Addr} (h : g < w.heap.size ∧ HoldsDeps w g 0 xs ∧ ∀ o, w.frozen? ⟨g, o, none⟩ = false) (hne : p.block ≠ g) (v : Value) : g < (w.setCell p v).heap.size ∧ HoldsDeps (w.setCell p v) g 0 xs ∧ ∀ o, (w.setCell p v).frozen? ⟨g, o, none⟩ = false :=
  ⟨by simpa using h.1, h.2.1.set hne v, fun o => by rw [World.frozen?_setCell]; exact h.2.2 o⟩

end Go.Proofs.Ytfapebnilbdheaj
