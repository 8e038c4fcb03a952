/- Contracts of impl.MapOk, placeOfKey, copyWrite, MapAt, MapHas. -/
import Derived.Test.YtlbcpppmpbbkdalDoorMapAt
import Derived.Test.YtlbcpppmpbbkdalDoorWriteOk2
import Derived.Test.YtlbcpppmpbbkdalDoorTagCmp2
namespace Go.Proofs.YtlbcpppmpbbkdalDoor
open Go.ChangeShapes Go.WideShapes Go.ChangeAt Go.RowKit Go.Joins
attribute [local go_sem ↓] Go.wp_at_zero Go.wp_at_succ

def lastW (ws : List Wr) (k : Nat) : Int := if k = 0 then -1 else (ws.getD (k - 1) wz).k

theorem okW_key {x : Wr} (h : okW x = true) : 0 ≤ x.k ∧ x.k ≤ 5 := by
  unfold okW writeOkB btw at h
  simp only [Bool.and_eq_true, decide_eq_true_eq] at h
  exact h.1

theorem wrGood_bad {ws : List Wr} {k : Nat} (h1 : okW (ws.getD k wz) = true) (h : (ws.getD k wz).k ≤ lastW ws k) : wrGood ws k = false := by
  unfold wrGood
  rw [h1, Bool.true_and]
  refine decide_eq_false ?_
  have := okW_key h1
  unfold lastW at h
  by_cases hk : k = 0
  · rw [if_pos hk] at h
    omega
  · rw [if_neg hk] at h
    omega

theorem wrGood_good {ws : List Wr} {k : Nat} (h1 : okW (ws.getD k wz) = true) (h : lastW ws k < (ws.getD k wz).k) : wrGood ws k = true := by
  unfold wrGood
  rw [h1, Bool.true_and]
  refine decide_eq_true ?_
  unfold lastW at h
  by_cases hk : k = 0
  · exact .inl hk
  · rw [if_neg hk] at h
    exact .inr h

theorem wrGood_not {ws : List Wr} {k : Nat} (h1 : okW (ws.getD k wz) = false) : wrGood ws k = false := by
  unfold wrGood
  rw [h1, Bool.false_and]

set_option maxHeartbeats 2000000 in
theorem implMapOk_any (a : Option Addr) (n cap : Nat) (ws : List Wr) (w : World) (hn : ws.length = n) (hm : n ≤ 1048576) (hx : Few ws) (hh : IsWs w a ws) :
    Calls Tryd.prog 23 #[.slice a n cap] w fun e w' => e = .returned (.bool (mapOkB ws)) ∧ Below w.heap.size w w' := by
  have HH : Hid (IsWs w a ws) := hh
  have HN : Hid (ws.length = n) := hn
  have HX : Hid (Few ws) := hx
  clear hh hn hx
  go_enter Tryd.func23, Tryd.ntmps23
  go_wp2
  go_loopw [3, 8] (fun l i wr => ∃ k : Nat, ∃ la : Int, k ≤ n ∧ i = .int .i64 k ∧ l = .int .i64 la ∧ Hid (lastW ws k = la) ∧ Hid (∀ j, j < k → wrGood ws j = true) ∧ Hid (Below w.heap.size w wr)) (fun _ i _ => n - (intOf i).toNat)
  case atStart => exact ⟨0, -1, Nat.zero_le _, rfl, rfl, rfl, fun j hj => by omega, Below.refl _ _⟩
  case round =>
    obtain ⟨k, la, hk, rfl, rfl, HL, HG, HB⟩ := hrel
    by_cases hk' : k < n
    · obtain ⟨b, o, ad, cp, rfl, hz, ⟨e0, e1, e2, e3, e4, e5, e6⟩, hd⟩ := HH.out.at HB.out HN.out hk'
      have i1 : (0 : Int) ≤ (k : Int) := by omega
      have i2 : (k : Int) < (n : Int) := by omega
      have HS : Hid (lastW ws (k + 1) = (ws.getD k wz).k) := by unfold lastW; simp [Hid]
      have HC : Hid (∀ W, Below wr.heap.size wr W → Calls Tryd.prog 40 #[wrOf (ws.getD k wz) ad cp] W fun e w' => e = .returned (.bool (okW (ws.getD k wz))) ∧ Below W.heap.size W w') := fun W hW =>
        implWriteOk_gen _ _ _ _ _ _ _ (ws.getD k wz).xs _ _ _ rfl (HX.out k (by rw [HN.out]; exact hk')) (hd.below hW)
      clear hd HH
      cases h1 : okW (ws.getD k wz)
      · have HF : Hid (mapOkB ws = false) := mapOk_false (by rw [HN.out]; exact hk') (wrGood_not h1)
        clear HS
        rw [h1] at HC
        clear h1
        generalize ws.getD k wz = x at *
        obtain ⟨xk, xc, xs', xq, xv, xd, xx⟩ := x
        simp only at e0 e1 e2 e3 e4 e5 e6 HC
        go_wp2_with fail
        refine (HC.out _ ((Below.refl _ _).alloc (Nat.le_refl _) _)).mono ?_
        rintro e w2 ⟨rfl, hb⟩
        have HB2 : Hid (Below w.heap.size w w2) := below_step HB.out HB.out.size (BoxIn.start hb).below
        clear hb
        go_wp2
        go_ret
        exact ⟨ret_bool HF.out.symm, HB2.out⟩
      · by_cases h3 : (ws.getD k wz).k ≤ la
        · have HF : Hid (mapOkB ws = false) := mapOk_false (by rw [HN.out]; exact hk') (wrGood_bad h1 (by rw [HL.out]; exact h3))
          clear HS
          rw [h1] at HC
          clear h1
          generalize ws.getD k wz = x at *
          obtain ⟨xk, xc, xs', xq, xv, xd, xx⟩ := x
          simp only at e0 e1 e2 e3 e4 e5 e6 HC h3
          go_wp2_with fail
          refine (HC.out _ ((Below.refl _ _).alloc (Nat.le_refl _) _)).mono ?_
          rintro e w2 ⟨rfl, hb⟩
          have HX2 := Lib.hid (BoxIn.start hb)
          have HB2 : Hid (Below w.heap.size w w2) := below_step HB.out HB.out.size HX2.out.below
          have b0 := HX2.out.c0
          clear hb
          go_wp2
          go_ret
          exact ⟨ret_bool HF.out.symm, HB2.out⟩
        · have HG' : Hid (∀ j, j < k + 1 → wrGood ws j = true) := good_next HG.out (wrGood_good h1 (by rw [HL.out]; omega))
          rw [h1] at HC
          clear h1
          generalize ws.getD k wz = x at *
          obtain ⟨xk, xc, xs', xq, xv, xd, xx⟩ := x
          simp only at e0 e1 e2 e3 e4 e5 e6 HC h3 HS
          go_wp2_with fail
          refine (HC.out _ ((Below.refl _ _).alloc (Nat.le_refl _) _)).mono ?_
          rintro e w2 ⟨rfl, hb⟩
          have HX2 := Lib.hid (BoxIn.start hb)
          have HB2 : Hid (Below w.heap.size w w2) := below_step HB.out HB.out.size HX2.out.below
          have b0 := HX2.out.c0
          clear hb
          go_wp2
          exact ⟨⟨k + 1, xk, by omega, by go_num, rfl, HS, HG', HB2⟩, by simp [intOf]; omega⟩
    · have hkk : k = n := by omega
      subst hkk
      have HF : Hid (mapOkB ws = true) := mapOk_true (fun i hi => HG.out i (by rw [← HN.out]; exact hi))
      go_wp2
      go_ret
      exact ⟨ret_bool HF.out.symm, HB.out⟩

theorem kept_new {W w1 : World} {b t : Nat} {vs : Array Value} (hg : W.grownBy w1 none) (h : W.heap[b]? = some (.cells vs t (0, 0))) : (∀ j v, vs[j]? = some v → w1.cell? ⟨b, j, none⟩ = some v) ∧ ∀ j, w1.frozen? ⟨b, j, none⟩ = false := by
  have hb : b < W.heap.size := (Array.getElem?_eq_some_iff.1 h).1
  have e := hg.block b hb (by simp)
  rw [h] at e
  exact ⟨fun j v hv => by rw [cell_of_row w1 b j vs t (0, 0) e]; exact hv, fun j => frozen_of_row w1 b j vs t e⟩

theorem heap_one (w : World) (o1 o2 : Obj) : ((w.alloc o1).alloc o2).heap[w.heap.size]? = some o1 ∧ ((w.alloc o1).alloc o2).heap[w.heap.size + 1]? = some o2 := by
  constructor
  · rw [Below.heap_alloc _ _ _ (by simp)]
    exact heap_alloc_new w o1
  · have := heap_alloc_new (w.alloc o1) o2
    simpa using this

/-- What stands at a number of the call's own. -/
theorem keyIs_any (x : Wr) (ad : Option Addr) (cp g : Nat) (key : Int) (w : World) (hz : g < w.heap.size) (hc : w.cell? ⟨g, 0, none⟩ = some (.int .i64 key)) :
    Calls Tryd.prog 83 #[wrOf x ad cp, .pointer (some ⟨g, 0, none⟩)] w fun e w' => e = .returned (.bool (x.k == key)) ∧ Below w.heap.size w w' := by
  obtain ⟨xk, xc, xs', xq, xv, xd, xx⟩ := x
  go_enter Tryd.func83, Tryd.ntmps83
  go_wp2
  go_ret
  exact ⟨rfl, (Below.refl _ _).alloc (Nat.le_refl _) _⟩

/-- A place, or none. -/
def PlaceAt (ws : List Wr) (key r : Int) : Prop := (∃ i : Nat, FirstAt ws key i ∧ r = i) ∨ (NoneAt ws key ∧ r = -1)

set_option maxHeartbeats 2000000 in
theorem indexFunc_any (a : Option Addr) (n cap g : Nat) (key : Int) (ws : List Wr) (w : World) (hn : ws.length = n) (hm : n ≤ 1048576) (hh : IsWs w a ws) (hz0 : g < w.heap.size) (hc : w.cell? ⟨g, 0, none⟩ = some (.int .i64 key)) :
    Calls Tryd.prog 82 #[.slice a n cap, .func (.func 83) #[] #[.pointer (some ⟨g, 0, none⟩)]] w fun e w' => ∃ r, e = .returned (.int .i64 r) ∧ PlaceAt ws key r ∧ Below w.heap.size w w' := by
  have HH : Hid (IsWs w a ws) := hh
  have HN : Hid (ws.length = n) := hn
  have HC : Hid (w.cell? ⟨g, 0, none⟩ = some (.int .i64 key)) := hc
  clear hh hn hc
  go_enter Tryd.func82, Tryd.ntmps82
  go_wp2
  go_loopw [8] (fun i wr => ∃ k : Nat, k ≤ n ∧ i = .int .i64 k ∧ Hid (∀ j, j < k → (ws.getD j wz).k ≠ key) ∧ Hid (Below w.heap.size w wr)) (fun i _ => n - (intOf i).toNat)
  case atStart => exact ⟨0, Nat.zero_le _, rfl, fun j hj => absurd hj (Nat.not_lt_zero j), Below.refl _ _⟩
  case round =>
    obtain ⟨k, hk, rfl, HK, HB⟩ := hrel
    by_cases hk' : k < n
    · obtain ⟨b, o, ad, cp, rfl, hz, ⟨e0, e1, e2, e3, e4, e5, e6⟩, -⟩ := HH.out.at HB.out HN.out hk'
      have i1 : (0 : Int) ≤ (k : Int) := by omega
      have i2 : (k : Int) < (n : Int) := by omega
      have hzg : g < wr.heap.size := Nat.lt_of_lt_of_le hz0 HB.out.size
      have hcg : Hid (wr.cell? ⟨g, 0, none⟩ = some (.int .i64 key)) := (HB.out.cell (p := ⟨g, 0, none⟩) hz0).trans HC.out
      have HE : Hid ((ws.getD k wz).k = key → FirstAt ws key k) := fun hy => ⟨by rw [HN.out]; exact hk', hy, HK.out⟩
      have HK' : Hid ((ws.getD k wz).k ≠ key → ∀ j, j < k + 1 → (ws.getD j wz).k ≠ key) := fun hy j hj => by
        by_cases h : j < k
        · exact HK.out j h
        · have : j = k := by omega
          rw [this]
          exact hy
      clear HH
      generalize ws.getD k wz = x at *
      obtain ⟨xk, xc, xs', xq, xv, xd, xx⟩ := x
      simp only at e0 e1 e2 e3 e4 e5 e6 HE HK'
      go_wp2_with fail
      refine (keyIs_any ⟨xk, xc, xs', xq, xv, xd, xx⟩ ad cp g key _ hzg hcg.out).mono ?_
      rintro e w2 ⟨rfl, hb⟩
      have HB2 : Hid (Below w.heap.size w w2) := below_step HB.out HB.out.size hb
      clear hb
      by_cases hy : xk = key
      · have hyb : (xk == key) = true := by simpa using hy
        have HF := Lib.hid (HE.out hy)
        clear hy HE HK'
        go_wp2
        go_ret
        exact ⟨_, rfl, .inl ⟨k, HF.out, rfl⟩, HB2.out⟩
      · have hyb : (xk == key) = false := by simpa using hy
        have HK2 := Lib.hid (HK'.out hy)
        clear hy HE HK'
        go_wp2
        exact ⟨⟨k + 1, by omega, by go_num, HK2, HB2⟩, by simp [intOf]; omega⟩
    · have hkk : k = n := by omega
      subst hkk
      go_wp2
      go_ret
      exact ⟨_, rfl, .inr ⟨fun j hj => HK.out j (by rw [← HN.out]; exact hj), rfl⟩, HB.out⟩

set_option maxHeartbeats 1000000 in
theorem placeOfKey_any (a : Option Addr) (n cap : Nat) (key : Int) (ws : List Wr) (w : World) (hn : ws.length = n) (hm : n ≤ 1048576) (hh : IsWs w a ws) :
    Calls Tryd.prog 72 #[.slice a n cap, .int .i64 key] w fun e w' => ∃ r, e = .returned (.int .i64 r) ∧ PlaceAt ws key r ∧ Below w.heap.size w w' := by
  have HH : Hid (IsWs (w.alloc (.cells #[.int .i64 key] 3)) a ws) := hh.below ((Below.refl _ _).alloc (Nat.le_refl _) _)
  have HN : Hid (ws.length = n) := hn
  clear hh hn
  go_enter Tryd.func72, Tryd.ntmps72
  go_wp2_with fail
  refine (indexFunc_any a n cap w.heap.size key ws _ HN.out hm HH.out (by simp) (by simp [go_sem])).mono ?_
  rintro e w1 ⟨r, rfl, hp, hb⟩
  have HP := Lib.hid hp
  have HB : Hid (Below w.heap.size w w1) := below_step ((Below.refl _ _).alloc (Nat.le_refl _) _) (by simp) hb
  clear hb hp
  go_wp2
  go_ret
  exact ⟨r, rfl, HP.out, HB.out⟩

/-- Dependencies of one's own, from block number B on, where there are some. -/
def FreshDeps (B : Nat) (w : World) (a : Option Addr) (g : Nat) (xs : List Dp) : Prop := 0 < xs.length → a = some ⟨g, 0, none⟩ ∧ B ≤ g ∧ g < w.heap.size ∧ HoldsDeps w g 0 xs ∧ ∀ o, w.frozen? ⟨g, o, none⟩ = false

theorem FreshDeps.below {B : Nat} {w w' : World} {a : Option Addr} {g : Nat} {xs : List Dp} (h : FreshDeps B w a g xs) (hb : Below w.heap.size w w') : FreshDeps B w' a g xs := fun hp => by
  obtain ⟨h1, h2, h3, h4, h5⟩ := h hp
  exact ⟨h1, h2, Nat.lt_of_lt_of_le h3 hb.size, h4.below hb h3, fun o => (hb.frozen (p := ⟨g, o, none⟩) h3).trans (h5 o)⟩

theorem FreshDeps.isDeps {B : Nat} {w : World} {a : Option Addr} {g : Nat} {xs : List Dp} (h : FreshDeps B w a g xs) : IsDeps w a xs := by
  by_cases hp : 0 < xs.length
  · obtain ⟨h1, _, h3, h4, _⟩ := h hp
    exact .inr ⟨g, 0, h1, h3, h4⟩
  · exact .inl (List.length_eq_zero_iff.1 (by omega))

theorem fresh_set {w : World} {g : Nat} {xs : List Dp} {p : Addr} (h : g < w.heap.size ∧ HoldsDeps w g 0 xs ∧ ∀ o, w.frozen? ⟨g, o, none⟩ = false) (hne : p.block ≠ g) (v : Value) : g < (w.setCell p v).heap.size ∧ HoldsDeps (w.setCell p v) g 0 xs ∧ ∀ o, (w.setCell p v).frozen? ⟨g, o, none⟩ = false :=
  ⟨by simpa using h.1, h.2.1.set hne v, fun o => by rw [World.frozen?_setCell]; exact h.2.2 o⟩

set_option maxHeartbeats 2000000 in
theorem icopy_some (x : Wr) (b o cap : Nat) (w : World) (hn : x.xs.length ≤ 1048576) (hp : 0 < x.xs.length) (hlt : b < w.heap.size) (hh : HoldsDeps w b o x.xs) :
    Calls Tryd.prog 71 #[wrOf x (some ⟨b, o, none⟩) cap] w fun e w' => ∃ a g cp, e = .returned (wrOf x a cp) ∧ FreshDeps w.heap.size w' a g x.xs ∧ Below w.heap.size w w' := by
  obtain ⟨xk, xc, xs', xq, xv, xd, xx⟩ := x
  simp only at hn hp hh ⊢
  have HH : Hid (HoldsDeps w b o xx) := hh
  clear hh
  obtain ⟨i0, hi0, hx0⟩ := Option.map_eq_some_iff.1 infoDep
  simp only [Prod.mk.injEq] at hx0
  have HI0 := Lib.hid hi0
  have HX0 := Lib.hid hx0
  clear hi0 hx0
  go_enter Tryd.func71, Tryd.ntmps71
  have HB0 : Hid (Below w.heap.size w ((w.alloc (.cells #[.int .i64 xk, .int .i64 xc, .int .i64 xs', .int .i64 xq, .int .i64 xv, .bool xd, .slice (some ⟨b, o, none⟩) xx.length cap] 48)).alloc (.cells #[.int .i64 0, .int .i64 0, .int .i64 0, .int .i64 0, .int .i64 0, .bool false, .slice none 0 0] 48))) :=
    ((Below.refl _ _).alloc (Nat.le_refl _) _).alloc (by simp) _
  go_wp2_with (at_builtin; refine wpList_append_lies _ (by rfl) _ _ _ (by rfl) (w.heap.size + 1 + 1) 72 i0 (depV 0 0 0 0) 4 32 Tryd.underlying46 HI0.out HX0.out.1 HX0.out.2.1 HX0.out.2.2 (by rfl) (by omega) (.slice none 0 0) 0 [] (by rfl) (World.ownsRow_nil _ _ _ _) ⟨b, o, none⟩ xx.length cap (depVals xx) (by rfl) (depVals_len xx) (depVals_cells (HH.out.below HB0.out hlt)) (depVals_one xx) hp (by unfold maxLen; omega) (by omega) (by simp) _ rfl ?_; intro g cp w5 hown hgrow _ hg5; refine Hid.out ?_)
  refine Lib.hid ?_
  rw [Nat.zero_add] at hown
  obtain ⟨hg4, -⟩ := (fun h => (hown.lt g h) : _ → _ ∧ _) rfl
  have HD5 : Hid (g < w5.heap.size ∧ HoldsDeps w5 g 0 xx ∧ ∀ o, w5.frozen? ⟨g, o, none⟩ = false) := ⟨hg5, depVals_holds rfl hown, fun o => hown.frozenAt o⟩
  have HB5 : Hid (Below w.heap.size w w5) := HB0.out.grown hgrow HB0.out.size fun k hk => by simp [Value.ownBlock] at hk
  have hk0 := Lib.hid (heap_one w (.cells #[.int .i64 xk, .int .i64 xc, .int .i64 xs', .int .i64 xq, .int .i64 xv, .bool xd, .slice (some ⟨b, o, none⟩) xx.length cap] 48) (.cells #[.int .i64 0, .int .i64 0, .int .i64 0, .int .i64 0, .int .i64 0, .bool false, .slice none 0 0] 48))
  obtain ⟨hb0, hf0⟩ := kept_new hgrow hk0.out.1
  obtain ⟨hb1, hf1⟩ := kept_new hgrow hk0.out.2
  have b0 := hb0 0 _ rfl
  have b1 := hb0 1 _ rfl
  have b2 := hb0 2 _ rfl
  have b3 := hb0 3 _ rfl
  have b4 := hb0 4 _ rfl
  have b5 := hb0 5 _ rfl
  have b6 := hb0 6 _ rfl
  have z0 := hb1 0 _ rfl
  have z1 := hb1 1 _ rfl
  have z2 := hb1 2 _ rfl
  have z3 := hb1 3 _ rfl
  have z4 := hb1 4 _ rfl
  have z5 := hb1 5 _ rfl
  have z6 := hb1 6 _ rfl
  clear hb0 hb1
  have hz5 : w.heap.size + 1 < w5.heap.size := by have := hgrow.size; simp at this; omega
  clear hown hgrow HB0 hk0
  go_wp2
  refine bodyPost_ret (v := wrV xk xc xs' xq xv xd (some ⟨g, 0, none⟩) xx.length cp) (by simp [results, Tryd.results71, go_sem, z0, z1, z2, z3, z4, z5, z6]) rfl ⟨_, g, cp, rfl, fun _ => ⟨rfl, by omega, ?_⟩, ?_⟩
  · exact fresh_set (fresh_set (fresh_set (fresh_set (fresh_set (fresh_set (fresh_set (fresh_set HD5.out (by simp; omega) _) (by simp; omega) _) (by simp; omega) _) (by simp; omega) _) (by simp; omega) _) (by simp; omega) _) (by simp; omega) _) (by simp; omega) _
  · exact (((((((HB5.out.setCell (by simp) _).setCell (by simp) _).setCell (by simp) _).setCell (by simp) _).setCell (by simp) _).setCell (by simp) _).setCell (by simp) _).setCell (by simp) _

set_option maxHeartbeats 2000000 in
theorem icopy_none (x : Wr) (a : Option Addr) (cap : Nat) (w : World) (hx : x.xs = []) :
    Calls Tryd.prog 71 #[wrOf x a cap] w fun e w' => ∃ a' g cp, e = .returned (wrOf x a' cp) ∧ FreshDeps w.heap.size w' a' g x.xs ∧ Below w.heap.size w w' := by
  obtain ⟨xk, xc, xs', xq, xv, xd, xx⟩ := x
  simp only at hx
  subst hx
  obtain ⟨i0, hi0, -⟩ := Option.map_eq_some_iff.1 infoDep
  have HI0 := Lib.hid hi0
  clear hi0
  go_enter Tryd.func71, Tryd.ntmps71
  go_wp2_with (at_builtin; refine wpList_append_zero (by rfl) _ _ _ (by rfl) 72 i0 Tryd.underlying46 HI0.out none 0 0 (by omega) (by rfl) a cap (by rfl) ?_)
  exact bodyPost_ret (v := wrV xk xc xs' xq xv xd none 0 0) (by simp [results, Tryd.results71, go_sem]) rfl ⟨none, 0, 0, rfl, fun h => absurd h (by simp), ((Below.refl _ _).alloc (Nat.le_refl _) _).alloc (by simp) _⟩

theorem icopy_any (x : Wr) (a : Option Addr) (cap : Nat) (w : World) (hn : x.xs.length ≤ 1048576) (h : IsDeps w a x.xs) :
    Calls Tryd.prog 71 #[wrOf x a cap] w fun e w' => ∃ a' g cp, e = .returned (wrOf x a' cp) ∧ FreshDeps w.heap.size w' a' g x.xs ∧ Below w.heap.size w w' := by
  rcases h with h | ⟨b, o, rfl, hlt, hh⟩
  · exact icopy_none x a cap w h
  · by_cases hp : 0 < x.xs.length
    · exact icopy_some x b o cap w hn hp hlt hh
    · exact icopy_none x _ cap w (List.length_eq_zero_iff.1 (by omega))

end Go.Proofs.YtlbcpppmpbbkdalDoor
