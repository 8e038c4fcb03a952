/- The contract of spec.TreeOf. -/
import Derived.Test.YtlbcpppmpbbkdalDoorLeaf
import Derived.Test.YtlbcpppmpbbkdalDoorTreeP
import Derived.Test.YtlbcpppmpbbkdalDoorInts
import Derived.Test.YtlbcpppmpbbkdalDoorSlots
import Derived.Deep.OwnRows
namespace Go.Proofs.YtlbcpppmpbbkdalDoor
open Go.ChangeShapes Go.WideShapes Go.ChangeAt Go.RowKit Go.Joins
attribute [local go_sem ↓] Go.wp_at_zero Go.wp_at_succ

/-- The leaves of a map. -/
def leavesW (ws : List Wr) (k : Nat) : Int := leafB ws k

def treeW (ws : List Wr) : List Int := treeL (leavesW ws)

def treeB (ws : List Wr) : List Int := if mapOkB ws = true then treeW ws else []

theorem treeB_len (ws : List Wr) : (treeB ws).length ≤ 15 := by
  unfold treeB
  split
  · exact Nat.le_of_eq (treeL_len _)
  · simp

theorem treeW_bd (ws : List Wr) (i : Nat) : 0 ≤ tr (leavesW ws) i ∧ tr (leavesW ws) i < 65521 := tr_bd _ (fun k => leafB_bd ws k) i

/-- The row while the leaves are filled in, and while the sums above are. -/
def fillA (F : Nat → Int) (k j : Nat) : Value := .int .i64 (if 7 ≤ j ∧ j < 7 + k then tr F j else 0)

def fillB (F : Nat → Int) (p j : Nat) : Value := .int .i64 (if p ≤ j then tr F j else 0)

theorem fillA_step (F : Nat → Int) (k j : Nat) : (if j = 7 + k then Value.int .i64 (F k) else fillA F k j) = fillA F (k + 1) j := by
  unfold fillA
  by_cases h : j = 7 + k
  · rw [if_pos h, if_pos (by omega), h, tr_leaf]
  · rw [if_neg h]
    by_cases h2 : 7 ≤ j ∧ j < 7 + k
    · rw [if_pos h2, if_pos (by omega)]
    · rw [if_neg h2, if_neg (by omega)]

theorem fillB_start (F : Nat → Int) (j : Nat) (hj : j < 15) : fillA F 8 j = fillB F 7 j := by
  unfold fillA fillB
  by_cases h : 7 ≤ j
  · rw [if_pos ⟨h, by omega⟩, if_pos h]
  · rw [if_neg (by omega), if_neg h]

theorem fillB_step (F : Nat → Int) (p j : Nat) : (if j = p then Value.int .i64 (tr F p) else fillB F (p + 1) j) = fillB F p j := by
  unfold fillB
  by_cases h : j = p
  · rw [if_pos h, if_pos (by omega), h]
  · rw [if_neg h]
    by_cases h2 : p + 1 ≤ j
    · rw [if_pos h2, if_pos (by omega)]
    · rw [if_neg h2, if_neg (by omega)]

theorem rowIs_below {w w' : World} {b t n : Nat} {f : Nat → Value} (h : w.rowIs b t n f) (hb : Below w.heap.size w w') : w'.rowIs b t n f := by
  obtain ⟨c, hc, h1, h2⟩ := h
  exact ⟨c, (hb.block b (Array.getElem?_eq_some_iff.1 hc).1).trans hc, h1, h2⟩

theorem rowZ_start (w : World) (t : Nat) (F : Nat → Int) : (w.alloc (.cells (madeCells #[.int .i64 0] 15) t)).rowIs w.heap.size t 15 (fillA F 0) := by
  refine ⟨_, Go.Deep.blk_alloc_new _ _, size_madeCells _ _, fun i hi => ?_⟩
  have e : fillA F 0 i = .int .i64 0 := by unfold fillA; rw [if_neg (by omega)]
  rw [e]
  have h1 : i % 1 = 0 := by omega
  simp [madeCells, hi, h1]

theorem rowT_own {w : World} {g lo hi : Nat} {F : Nat → Int} {t : Nat} (h : w.rowIs g t 15 (fillB F 0)) (h1 : lo ≤ g) (h2 : g < hi) : OwnI w lo hi (some ⟨g, 0, none⟩) (treeL F) := by
  refine .inr ⟨g, rfl, h1, h2, h.lt, fun i hi => ?_, h.frozen⟩
  have hi' : i < 15 := by rw [treeL_len] at hi; exact hi
  rw [h.cell hi', treeL_get F hi', fillB, if_pos (Nat.zero_le _)]

theorem node_text (x y : Int) : (⟨(Lib.itoa x).toArray⟩ : ByteArray) ++ ⟨#[32]⟩ ++ ⟨(Lib.itoa y).toArray⟩ = str (Lib.itoa x ++ 32 :: Lib.itoa y) := by
  have e1 : (⟨(Lib.itoa x).toArray⟩ : ByteArray) = str (Lib.itoa x) := rfl
  have e2 : (⟨#[32]⟩ : ByteArray) = str [32] := rfl
  have e3 : (⟨(Lib.itoa y).toArray⟩ : ByteArray) = str (Lib.itoa y) := rfl
  rw [e1, e2, e3, str_add, str_add]
  simp

set_option maxRecDepth 100000 in
set_option maxHeartbeats 4000000 in
theorem specTree_any (a : Option Addr) (n cap : Nat) (ws : List Wr) (w : World) (hn : ws.length = n) (hm : n ≤ 1048576) (hx : Few ws) (hh : IsWs w a ws) :
    Calls Tryd.prog 6 #[.slice a n cap] w fun e w' => ∃ ad cp, e = .returned (.slice ad (treeB ws).length cp) ∧ OwnI w' w.heap.size w'.heap.size ad (treeB ws) ∧ Below w.heap.size w w' := by
  have HC : Hid (∀ W, Below w.heap.size w W → Calls Tryd.prog 18 #[.slice a n cap] W fun e w' => e = .returned (.bool (mapOkB ws)) ∧ Below W.heap.size W w') := fun W hW => specMapOk_gen a n cap ws W hn hm hx (hh.below hW)
  have HLF : Hid (∀ W, Below w.heap.size w W → ∀ k : Nat, Calls Tryd.prog 19 #[.slice a n cap, .int .i64 (k : Int)] W fun e w' => e = .returned (.int .i64 (leavesW ws k)) ∧ Below W.heap.size W w') := fun W hW k => specLeaf_any a n cap k ws W hn hm hx (hh.below hW)
  clear hn hx hh
  cases hok : mapOkB ws
  · have HE : Hid (treeB ws = []) := by show _ = _; unfold treeB; rw [hok]; rfl
    rw [hok] at HC
    clear hok HLF
    go_enter Tryd.func6, Tryd.ntmps6
    go_wp2_with fail
    refine (HC.out _ (Below.refl _ _)).mono ?_
    rintro e w1 ⟨rfl, hb⟩
    have HB1 := Lib.hid hb
    clear hb
    go_wp2
    go_ret
    exact ⟨_, _, by rw [HE.out]; rfl, by rw [HE.out]; exact .inl rfl, HB1.out.alloc HB1.out.size _⟩
  have HE : Hid (treeB ws = treeL (leavesW ws)) := by show _ = _; unfold treeB; rw [hok]; rfl
  have HBD := Lib.hid (treeW_bd ws)
  rw [hok] at HC
  clear hok
  have hmk : ∀ w : World, (Instr.makeSlice 24 (.int .i64 15) (.int .i64 15)).run Tryd.prog w = .ok (.slice (some ⟨w.heap.size, 0, none⟩) 15 15) (w.alloc (.cells (madeCells #[.int .i64 0] 15) 3)) := run_make_ints 15 (by omega)
  generalize leavesW ws = F at *
  go_enter Tryd.func6, Tryd.ntmps6
  go_wp2_with fail
  refine (HC.out _ (Below.refl _ _)).mono ?_
  rintro e w1 ⟨rfl, hb⟩
  have HB1 := Lib.hid hb
  have hsz : w.heap.size ≤ w1.heap.size := hb.size
  clear hb HC
  go_wp2
  clear hmk
  go_loopw [4] (fun i wr => ∃ k : Nat, k ≤ 8 ∧ i = .int .i64 k ∧ Hid (wr.rowIs w1.heap.size 3 15 (fillA F k)) ∧ Hid (Below w.heap.size w wr)) (fun i _ => 8 - (intOf i).toNat)
  case atStart => exact ⟨0, Nat.zero_le _, rfl, rowZ_start _ _ _, HB1.out.alloc HB1.out.size _⟩
  case round =>
    clear HB1
    obtain ⟨k, hk, rfl, HR, HB⟩ := hrel
    by_cases hk' : k < 8
    · have i1 : (0 : Int) ≤ (k : Int) := by omega
      have i2 : (k : Int) < 8 := by omega
      have e7 : (7 + (k : Int)).toNat = 7 + k := by omega
      have HS : Hid (∀ w2 : World, w2.rowIs w1.heap.size 3 15 (fillA F k) → (w2.setCell ⟨w1.heap.size, 7 + k, none⟩ (.int .i64 (F k))).rowIs w1.heap.size 3 15 (fillA F (k + 1))) := fun w2 h2 => (h2.set _ _).congr (fun j _ => fillA_step F k j)
      go_wp2_with fail
      refine (HLF.out _ HB.out k).mono ?_
      rintro e w2 ⟨rfl, hb⟩
      have HR2 := Lib.hid (rowIs_below HR.out hb)
      have HB2 := Lib.hid (below_step HB.out HB.out.size hb)
      clear hb HR HB
      have c0 := HR2.out.cell (i := 7 + k) (by omega)
      have fz := HR2.out.frozen
      generalize F k = z at *
      go_wp2
      exact ⟨⟨k + 1, by omega, by go_num, HS.out _ HR2.out, HB2.out.setCell (p := ⟨w1.heap.size, 7 + k, none⟩) hsz _⟩, by simp [intOf]; omega⟩
    · have hkk : k = 8 := by omega
      subst hkk
      have HR7 : Hid (wr.rowIs w1.heap.size 3 15 (fillB F 7)) := HR.out.congr (fun j hj => fillB_start F j hj)
      clear HR HLF
      have e8 : ((8 : Nat) : Int) = 8 := rfl
      rw [e8]
      clear e8
      go_wp2
      go_loopw [5] (fun i wq => ∃ p : Nat, p ≤ 7 ∧ i = .int .i64 ((p : Int) - 1) ∧ Hid (wq.rowIs w1.heap.size 3 15 (fillB F p)) ∧ Hid (Below w.heap.size w wq)) (fun i _ => (intOf i + 1).toNat)
      case atStart => exact ⟨7, by omega, rfl, HR7, HB⟩
      case round =>
        clear HR7 HB
        obtain ⟨p, hp, rfl, HR, HB⟩ := hrel
        by_cases hp' : p = 0
        · subst hp'
          have HF : Hid (OwnI wr w.heap.size wr.heap.size (some ⟨w1.heap.size, 0, none⟩) (treeL F)) := rowT_own HR.out hsz HR.out.lt
          go_wp2
          go_ret
          exact ⟨_, _, by rw [HE.out, treeL_len]; rfl, by rw [HE.out]; exact HF.out, HB.out⟩
        · obtain ⟨q, rfl⟩ : ∃ q, p = q + 1 := ⟨p - 1, by omega⟩
          have eq : ((q + 1 : Nat) : Int) - 1 = (q : Int) := by omega
          rw [eq]
          have i1 : (0 : Int) ≤ (q : Int) := by omega
          have i2 : (q : Int) < 7 := by omega
          have i5 : (q : Int) < 15 := by omega
          have m0 : IntKind.i64.wrap (2 * (q : Int)) = 2 * (q : Int) := wrap_small _ (by omega) (by omega)
          have m1 : IntKind.i64.wrap (2 * (q : Int) + 1) = 2 * (q : Int) + 1 := wrap_small _ (by omega) (by omega)
          have m2 : IntKind.i64.wrap (2 * (q : Int) + 2) = 2 * (q : Int) + 2 := wrap_small _ (by omega) (by omega)
          have n1 : (2 * (q : Int) + 1).toNat = 2 * q + 1 := by omega
          have n2 : (2 * (q : Int) + 2).toNat = 2 * q + 2 := by omega
          have i3 : (0 : Int) ≤ 2 * (q : Int) + 1 ∧ 2 * (q : Int) + 1 < 15 := by omega
          have i4 : (0 : Int) ≤ 2 * (q : Int) + 2 ∧ 2 * (q : Int) + 2 < 15 := by omega
          have b1 := HBD.out (2 * q + 1)
          have b2 := HBD.out (2 * q + 2)
          have HN : Hid (nodeH (tr F (2 * q + 1)) (tr F (2 * q + 2)) = tr F q) := (tr_node F (by omega)).symm
          have HC : Hid (∀ w', Below wr.heap.size wr w' → w'.cell? ⟨w1.heap.size, 2 * q + 1, none⟩ = some (.int .i64 (tr F (2 * q + 1))) ∧ w'.cell? ⟨w1.heap.size, 2 * q + 2, none⟩ = some (.int .i64 (tr F (2 * q + 2)))) := fun w' hb => by
            have hr := rowIs_below HR.out hb
            have r1 := hr.cell (i := 2 * q + 1) (by omega)
            have r2 := hr.cell (i := 2 * q + 2) (by omega)
            rw [fillB, if_pos (by omega)] at r1 r2
            exact ⟨r1, r2⟩
          have HS : Hid (∀ w2 : World, w2.rowIs w1.heap.size 3 15 (fillB F (q + 1)) → (w2.setCell ⟨w1.heap.size, q, none⟩ (.int .i64 (tr F q))).rowIs w1.heap.size 3 15 (fillB F q)) := fun w2 h2 => (h2.set _ _).congr (fun j _ => fillB_step F q j)
          generalize tr F (2 * q + 1) = x at *
          generalize tr F (2 * q + 2) = y at *
          generalize tr F q = z at *
          have z1 : (⟨(Lib.itoa x).toArray⟩ : ByteArray).size ≤ 21 := by
            have := Lib.itoa_length_le x (by omega) (by omega)
            simpa [ByteArray.size] using this
          have z2 : (⟨(Lib.itoa y).toArray⟩ : ByteArray).size ≤ 21 := by
            have := Lib.itoa_length_le y (by omega) (by omega)
            simpa [ByteArray.size] using this
          have HTX := Lib.hid (node_text x y)
          have HNX : Hid (∀ w', Calls Tryd.prog 21 #[.int .i64 x] w' fun e w'' => e = .returned (.string ⟨(Lib.itoa x).toArray⟩) ∧ Below w'.heap.size w' w'') := fun w' => specNum x w' (by omega) (by omega)
          have HNY : Hid (∀ w', Calls Tryd.prog 21 #[.int .i64 y] w' fun e w'' => e = .returned (.string ⟨(Lib.itoa y).toArray⟩) ∧ Below w'.heap.size w' w'') := fun w' => specNum y w' (by omega) (by omega)
          have HHS : Hid (∀ (t : ByteArray) (w' : World), t = (⟨(Lib.itoa x).toArray⟩ : ByteArray) ++ ⟨#[32]⟩ ++ ⟨(Lib.itoa y).toArray⟩ → t.size ≤ 100 → Calls Tryd.prog 20 #[.string t] w' fun e w'' => e = .returned (.int .i64 z) ∧ w'' = w') := fun t w' ht hz => by
            have := specHash_any t w' (by omega)
            have e : hashL t.data.toList = z := by rw [ht, HTX.out, str_bytes, ← HN.out]; rfl
            rwa [e] at this
          generalize (⟨(Lib.itoa x).toArray⟩ : ByteArray) = tx at *
          generalize (⟨(Lib.itoa y).toArray⟩ : ByteArray) = ty at *
          have z3 : (tx ++ ⟨#[32]⟩).size ≤ 22 := by
            rw [ByteArray.size_append]
            have : (⟨#[32]⟩ : ByteArray).size = 1 := rfl
            omega
          have z4 : (tx ++ ⟨#[32]⟩ ++ ty).size ≤ 43 := by
            rw [ByteArray.size_append]
            omega
          go_wp2_with fail
          refine wp_region_slots 20 [[(3, false)], [(5, false)], [(3, false)], [(5, false)], [(29, true)], [(30, true)], [(28, true), (31, true)], [(32, true)], [(33, true)], [(34, true)], [(3, false)], [(5, false)], [(37, true)], [(38, true)], [(36, true), (39, true)], [(40, true)], [(41, true)], [(35, true), (42, true)], [(43, true)], [(26, true), (27, true)]] (fun w' => Below wr.heap.size wr w') (fun w w' => Below w.heap.size w w') (by kernel_rfl) (by kernel_rfl) (by rfl) ((Below.refl _ _).drew) (fun _ _ h hb => below_step h h.size hb) ?_
          iterate 8 (apply slot_eq; · (intro ρ w' ⟨p1, p2, p3⟩ hbl hn; obtain ⟨c1, c2⟩ := HC.out w' hbl; simp at hn; go_simp; exact ⟨Below.refl _ _, rfl⟩))
          apply slot_eq
          · intro ρ w' ⟨p1, p2, p3⟩ hbl hn
            simp at hn
            go_simp
            exact got_call (HNX.out w') fun e w'' ⟨he, hb⟩ => ⟨_, he, hb, rfl⟩
          apply slot_eq
          · intro ρ w' ⟨p1, p2, p3⟩ hbl hn
            simp at hn
            go_simp
            rw [if_neg (by omega)]
            exact ⟨Below.refl _ _, rfl⟩
          iterate 6 (apply slot_eq; · (intro ρ w' ⟨p1, p2, p3⟩ hbl hn; obtain ⟨c1, c2⟩ := HC.out w' hbl; simp at hn; go_simp; exact ⟨Below.refl _ _, rfl⟩))
          apply slot_eq
          · intro ρ w' ⟨p1, p2, p3⟩ hbl hn
            simp at hn
            go_simp
            exact got_call (HNY.out w') fun e w'' ⟨he, hb⟩ => ⟨_, he, hb, rfl⟩
          apply slot_eq
          · intro ρ w' ⟨p1, p2, p3⟩ hbl hn
            simp at hn
            obtain ⟨e1, e2⟩ := hn
            go_simp
            rw [if_neg (by omega)]
            exact ⟨Below.refl _ _, rfl⟩
          apply slot_eq
          · intro ρ w' ⟨p1, p2, p3⟩ hbl hn
            simp at hn
            go_simp
            exact got_call (HHS.out _ w' rfl (by omega)) fun e w'' ⟨he, hb⟩ => ⟨_, he, by rw [hb]; exact Below.refl _ _, rfl⟩
          apply slot_eq
          · intro ρ w' ⟨p1, p2, p3⟩ hbl hn
            simp at hn
            obtain ⟨e1, e2⟩ := hn
            go_simp
            exact ⟨Below.refl _ _, rfl⟩
          refine slot_end ?_
          intro vs w3 hS hF
          simp at hF
          obtain ⟨h45, h44, -⟩ := hF
          have HR3 := Lib.hid (rowIs_below HR.out hS)
          have HB3 := Lib.hid (below_step HB.out HB.out.size hS)
          clear hS
          have c0 := HR3.out.cell (i := q) (by omega)
          have fz := HR3.out.frozen
          simp only [List.take_succ_cons, List.take_zero, List.drop_succ_cons, List.drop_zero, putAll, h45, h44]
          clear h45 h44
          go_wp2
          exact ⟨⟨q, by omega, by go_num, HS.out _ HR3.out, HB3.out.setCell (p := ⟨w1.heap.size, q, none⟩) hsz _⟩, by simp [intOf]⟩

end Go.Proofs.YtlbcpppmpbbkdalDoor
