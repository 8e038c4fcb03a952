import Derived.Test.YtidpcjcnhklmpacDoorPack6
import Derived.Test.YtidpcjcnhklmpacDoorPack11
import Derived.Lib.Hide
/- Contracts of impl.treeOfMap and impl.TreeOf. -/
namespace Go.Proofs.YtidpcjcnhklmpacDoor
open Go.ChangeShapes Go.WideShapes Go.ChangeAt Go.RowKit Go.Joins
attribute [local go_sem ↓] Go.wp_at_zero Go.wp_at_succ

theorem zero15 (F : Nat → Int) (i : Nat) (hi : i < 15) : (#[.int .i64 0, .int .i64 0, .int .i64 0, .int .i64 0, .int .i64 0, .int .i64 0, .int .i64 0, .int .i64 0, .int .i64 0, .int .i64 0, .int .i64 0, .int .i64 0, .int .i64 0, .int .i64 0, .int .i64 0] : Array Value)[i]? = some (fillA F 0 i) := by
  have e : fillA F 0 i = .int .i64 0 := by unfold fillA; rw [if_neg (by omega)]
  have hr : (#[.int .i64 0, .int .i64 0, .int .i64 0, .int .i64 0, .int .i64 0, .int .i64 0, .int .i64 0, .int .i64 0, .int .i64 0, .int .i64 0, .int .i64 0, .int .i64 0, .int .i64 0, .int .i64 0, .int .i64 0] : Array Value) = Array.replicate 15 (.int .i64 0) := rfl
  rw [e, hr]
  simp [hi]

/-- A row of fifteen numbers, as an array's cells. -/
theorem arr_of_row {w : World} {b t : Nat} {F : Nat → Int} (h : w.rowIs b t 15 (fillB F 0)) : ∃ cs, w.heap[b]? = some (.cells cs t (0, 0)) ∧ IsArr cs (treeL F) := by
  obtain ⟨c, hc, h1, h2⟩ := h
  refine ⟨c, hc, ?_, treeL_len F⟩
  apply Array.ext_getElem?
  intro i
  by_cases hi : i < 15
  · rw [h2 i hi, fillB, if_pos (Nat.zero_le _), ← treeL_get F hi]
    have hi' : i < (treeL F).length := by rw [treeL_len]; exact hi
    simp [intV, List.getD, hi']
  · have e1 : c[i]? = none := by simp; omega
    have e2 : (treeL F).length ≤ i := by rw [treeL_len]; omega
    rw [e1]
    simp [e2]

theorem below_setRow {w W : World} {B g : Nat} (h : Below B w W) (hg : B ≤ g) (cs : Array Value) : Below B w (W.setRow g cs) :=
  ⟨h.os, h.tape, h.output, by simpa [World.setRow] using h.size, fun j hj => by
    have hne : ¬ g = j := by omega
    show (W.heap.modify g _)[j]? = _
    rw [Array.getElem?_modify, if_neg hne]
    exact h.block j hj⟩

theorem setRow_block {W : World} {g t : Nat} {old : Array Value} (h : W.heap[g]? = some (.cells old t (0, 0))) (cs : Array Value) : (W.setRow g cs).heap[g]? = some (.cells cs t (0, 0)) := by
  simp [World.setRow, Array.getElem?_modify, h]

set_option maxRecDepth 100000 in
set_option maxHeartbeats 4000000 in
theorem treeOfMap_any (a : Option Addr) (n cap : Nat) (ws : List Wr) (w : World) (hn : ws.length = n) (hm : n ≤ 1048576) (hx : Few ws) (hh : IsWs w a ws) (ht : Tab w) :
    Calls Tryd.prog 45 #[.slice a n cap] w fun e w' => ∃ cs, e = .returned (.agg cs) ∧ IsArr cs (treeW ws) ∧ Below w.heap.size w w' := by
  have hlt : 1 < w.heap.size := ht.lt
  have HT := Lib.hid ht
  have HLF : Hid (∀ W, Below w.heap.size w W → ∀ k : Nat, Calls Tryd.prog 21 #[.slice a n cap, .int .i64 (k : Int)] W fun e w' => e = .returned (.int .i64 (leavesW ws k)) ∧ Below W.heap.size W w') := fun W hW k => implLeaf_any a n cap k ws W hn hm hx (hh.below hW) (ht.below hW hlt)
  clear hn hx hh ht
  have HE : Hid (treeW ws = treeL (leavesW ws)) := rfl
  have HBD := Lib.hid (treeW_bd ws)
  generalize leavesW ws = F at *
  go_enter Tryd.func45, Tryd.ntmps45
  go_wp2
  have HZ0 : Hid (((w.alloc (.cells #[.int .i64 0, .int .i64 0, .int .i64 0, .int .i64 0, .int .i64 0, .int .i64 0, .int .i64 0, .int .i64 0, .int .i64 0, .int .i64 0, .int .i64 0, .int .i64 0, .int .i64 0, .int .i64 0, .int .i64 0] 74)).alloc (.cells #[.int .i64 0, .int .i64 0, .int .i64 0, .int .i64 0, .int .i64 0, .int .i64 0, .int .i64 0, .int .i64 0, .int .i64 0, .int .i64 0, .int .i64 0, .int .i64 0, .int .i64 0, .int .i64 0, .int .i64 0] 74)).rowIs w.heap.size 74 15 (fillA F 0)) := ⟨_, heap_alloc2_old w _ _, rfl, zero15 F⟩
  have HR0 : Hid (((w.alloc (.cells #[.int .i64 0, .int .i64 0, .int .i64 0, .int .i64 0, .int .i64 0, .int .i64 0, .int .i64 0, .int .i64 0, .int .i64 0, .int .i64 0, .int .i64 0, .int .i64 0, .int .i64 0, .int .i64 0, .int .i64 0] 74)).alloc (.cells #[.int .i64 0, .int .i64 0, .int .i64 0, .int .i64 0, .int .i64 0, .int .i64 0, .int .i64 0, .int .i64 0, .int .i64 0, .int .i64 0, .int .i64 0, .int .i64 0, .int .i64 0, .int .i64 0, .int .i64 0] 74)).rowIs (w.heap.size + 1) 74 15 (fillA F 0)) := ⟨_, heap_alloc2_new w _ _, rfl, zero15 F⟩
  have HB0 : Hid (Below w.heap.size w ((w.alloc (.cells #[.int .i64 0, .int .i64 0, .int .i64 0, .int .i64 0, .int .i64 0, .int .i64 0, .int .i64 0, .int .i64 0, .int .i64 0, .int .i64 0, .int .i64 0, .int .i64 0, .int .i64 0, .int .i64 0, .int .i64 0] 74)).alloc (.cells #[.int .i64 0, .int .i64 0, .int .i64 0, .int .i64 0, .int .i64 0, .int .i64 0, .int .i64 0, .int .i64 0, .int .i64 0, .int .i64 0, .int .i64 0, .int .i64 0, .int .i64 0, .int .i64 0, .int .i64 0] 74))) := ((Below.refl _ _).alloc (Nat.le_refl _) _).alloc (by simp) _
  generalize (w.alloc (.cells #[.int .i64 0, .int .i64 0, .int .i64 0, .int .i64 0, .int .i64 0, .int .i64 0, .int .i64 0, .int .i64 0, .int .i64 0, .int .i64 0, .int .i64 0, .int .i64 0, .int .i64 0, .int .i64 0, .int .i64 0] 74)).alloc (.cells #[.int .i64 0, .int .i64 0, .int .i64 0, .int .i64 0, .int .i64 0, .int .i64 0, .int .i64 0, .int .i64 0, .int .i64 0, .int .i64 0, .int .i64 0, .int .i64 0, .int .i64 0, .int .i64 0, .int .i64 0] 74) = W0 at *
  go_loopw [6] (fun i wr => ∃ k : Nat, k ≤ 8 ∧ i = .int .i64 k ∧ Hid (wr.rowIs w.heap.size 74 15 (fillA F 0)) ∧ Hid (wr.rowIs (w.heap.size + 1) 74 15 (fillA F k)) ∧ Hid (Below w.heap.size w wr)) (fun i _ => 8 - (intOf i).toNat)
  case atStart => exact ⟨0, Nat.zero_le _, rfl, HZ0, HR0, HB0⟩
  case round =>
    clear HZ0 HR0 HB0
    obtain ⟨k, hk, rfl, HZ, HR, HB⟩ := hrel
    by_cases hk' : k < 8
    · have i1 : (0 : Int) ≤ (k : Int) := by omega
      have i2 : (k : Int) < 8 := by omega
      have e7 : (7 + (k : Int)).toNat = 7 + k := by omega
      have HS : Hid (∀ w2 : World, w2.rowIs (w.heap.size + 1) 74 15 (fillA F k) → (w2.setCell ⟨w.heap.size + 1, 7 + k, none⟩ (.int .i64 (F k))).rowIs (w.heap.size + 1) 74 15 (fillA F (k + 1))) := fun w2 h2 => (h2.set _ _).congr (fun j _ => fillA_step F k j)
      go_wp2_with fail
      refine (HLF.out _ HB.out k).mono ?_
      rintro e w2 ⟨rfl, hb⟩
      have HZ2 := Lib.hid (rowIs_below HZ.out hb)
      have HR2 := Lib.hid (rowIs_below HR.out hb)
      have HB2 := Lib.hid (below_step HB.out HB.out.size hb)
      clear hb HZ HR HB
      have c0 := HR2.out.cell (i := 7 + k) (by omega)
      have fz := HR2.out.frozen
      generalize F k = z at *
      go_wp2
      exact ⟨⟨k + 1, by omega, by go_num, HZ2.out.setOther (a := ⟨w.heap.size + 1, 7 + k, none⟩) (by simp) _, HS.out _ HR2.out, HB2.out.setCell (p := ⟨w.heap.size + 1, 7 + k, none⟩) (Nat.le_succ _) _⟩, by simp [intOf]; omega⟩
    · have hkk : k = 8 := by omega
      subst hkk
      have HR7 : Hid (wr.rowIs (w.heap.size + 1) 74 15 (fillB F 7)) := HR.out.congr (fun j hj => fillB_start F j hj)
      clear HR HLF
      have e8 : ((8 : Nat) : Int) = 8 := rfl
      rw [e8]
      clear e8
      go_wp2
      go_loopw [5] (fun i wq => ∃ p : Nat, p ≤ 7 ∧ i = .int .i64 ((p : Int) - 1) ∧ Hid (wq.rowIs w.heap.size 74 15 (fillA F 0)) ∧ Hid (wq.rowIs (w.heap.size + 1) 74 15 (fillB F p)) ∧ Hid (Below w.heap.size w wq)) (fun i _ => (intOf i + 1).toNat)
      case atStart => exact ⟨7, by omega, rfl, HZ, HR7, HB⟩
      case round =>
        clear HR7 HB HZ
        obtain ⟨p, hp, rfl, HZ, HR, HB⟩ := hrel
        by_cases hp' : p = 0
        · subst hp'
          obtain ⟨cs, hg, hA⟩ := arr_of_row HR.out
          obtain ⟨old, ho, ho2, -⟩ := HZ.out
          have s0 : (Tryd.prog.info? 74).map (·.size) = some cs.size := by rw [infoTree, hA.size]
          have s1 : old.size = cs.size := by rw [ho2, hA.size]
          have s2 : cs.all (·.oneCell') = true := by rw [hA.1, Array.all_eq_true_iff_forall_mem]; intro v hv; exact intV_one _ v (by simpa using hv)
          have HA := Lib.hid hA
          clear hA ho2
          go_wp2_with (first | refine wpList_load_row rfl 74 _ rfl (w.heap.size + 1) rfl _ cs _ _ hg under_tree rfl s0 ?_ | refine wpList_store_row rfl 74 _ _ rfl w.heap.size cs rfl rfl _ old ho s0 s1 s2 ?_)
          exact bodyPost_ret (v := .agg cs) (results_cell_row Tryd.results45 _ _ w.heap.size _ cs _ _ rfl (setRow_block ho cs) under_tree rfl s0) rfl ⟨cs, rfl, by rw [HE.out]; exact HA.out, below_setRow HB.out (Nat.le_refl _) cs⟩
        · obtain ⟨q, rfl⟩ : ∃ q, p = q + 1 := ⟨p - 1, by omega⟩
          have eq : ((q + 1 : Nat) : Int) - 1 = (q : Int) := by omega
          rw [eq]
          have i1 : (0 : Int) ≤ (q : Int) := by omega
          have i2 : (q : Int) < 7 := by omega
          have i5 : (q : Int) < 15 := by omega
          have m0 : IntKind.i64.wrap (2 * (q : Int)) = 2 * (q : Int) := wrap_small _ (by omega) (by omega)
          have m1 : IntKind.i64.wrap (2 * (q : Int) + 1) = 2 * (q : Int) + 1 := wrap_small _ (by omega) (by omega)
          have m2 : IntKind.i64.wrap (2 * (q : Int) + 2) = 2 * (q : Int) + 2 := wrap_small _ (by omega) (by omega)
          have n1 : (2 * (q : Int) + 1).toNat = 2 * q + 1 := by omega
          have n2 : (2 * (q : Int) + 2).toNat = 2 * q + 2 := by omega
          have i3 : (0 : Int) ≤ 2 * (q : Int) + 1 ∧ 2 * (q : Int) + 1 < 15 := by omega
          have i4 : (0 : Int) ≤ 2 * (q : Int) + 2 ∧ 2 * (q : Int) + 2 < 15 := by omega
          have b1 := HBD.out (2 * q + 1)
          have b2 := HBD.out (2 * q + 2)
          have HN : Hid (nodeH (tr F (2 * q + 1)) (tr F (2 * q + 2)) = tr F q) := (tr_node F (by omega)).symm
          have HC : Hid (∀ w', Below wr.heap.size wr w' → w'.cell? ⟨w.heap.size + 1, 2 * q + 1, none⟩ = some (.int .i64 (tr F (2 * q + 1))) ∧ w'.cell? ⟨w.heap.size + 1, 2 * q + 2, none⟩ = some (.int .i64 (tr F (2 * q + 2)))) := fun w' hb => by
            have hr := rowIs_below HR.out hb
            have r1 := hr.cell (i := 2 * q + 1) (by omega)
            have r2 := hr.cell (i := 2 * q + 2) (by omega)
            rw [fillB, if_pos (by omega)] at r1 r2
            exact ⟨r1, r2⟩
          have HS : Hid (∀ w2 : World, w2.rowIs (w.heap.size + 1) 74 15 (fillB F (q + 1)) → (w2.setCell ⟨w.heap.size + 1, q, none⟩ (.int .i64 (tr F q))).rowIs (w.heap.size + 1) 74 15 (fillB F q)) := fun w2 h2 => (h2.set _ _).congr (fun j _ => fillB_step F q j)
          generalize tr F (2 * q + 1) = x at *
          generalize tr F (2 * q + 2) = y at *
          generalize tr F q = z at *
          have z1 : (⟨(Lib.itoa x).toArray⟩ : ByteArray).size ≤ 21 := by
            have := Lib.itoa_length_le x (by omega) (by omega)
            simpa [ByteArray.size] using this
          have z2 : (⟨(Lib.itoa y).toArray⟩ : ByteArray).size ≤ 21 := by
            have := Lib.itoa_length_le y (by omega) (by omega)
            simpa [ByteArray.size] using this
          have HTX := Lib.hid (node_text x y)
          have HTB : Hid (∀ w', Below wr.heap.size wr w' → Tab w') := fun w' hb => HT.out.below (below_step HB.out HB.out.size hb) hlt
          have HNX : Hid (∀ w', Tab w' → Calls Tryd.prog 63 #[.int .i64 x] w' fun e w'' => e = .returned (.string ⟨(Lib.itoa x).toArray⟩) ∧ Below w'.heap.size w' w'') := fun w' ht => implNum x w' (by omega) (by omega) ht
          have HNY : Hid (∀ w', Tab w' → Calls Tryd.prog 63 #[.int .i64 y] w' fun e w'' => e = .returned (.string ⟨(Lib.itoa y).toArray⟩) ∧ Below w'.heap.size w' w'') := fun w' ht => implNum y w' (by omega) (by omega) ht
          have HHS : Hid (∀ (t : ByteArray) (w' : World), t = (⟨(Lib.itoa x).toArray⟩ : ByteArray) ++ ⟨#[32]⟩ ++ ⟨(Lib.itoa y).toArray⟩ → t.size ≤ 100 → Calls Tryd.prog 40 #[.string t] w' fun e w'' => e = .returned (.int .i64 z) ∧ w'' = w') := fun t w' ht hz => by
            have := implHash_any t w' (by omega)
            have e : hashL t.data.toList = z := by rw [ht, HTX.out, str_bytes, ← HN.out]; rfl
            rwa [e] at this
          generalize (⟨(Lib.itoa x).toArray⟩ : ByteArray) = tx at *
          generalize (⟨(Lib.itoa y).toArray⟩ : ByteArray) = ty at *
          have z3 : (tx ++ ⟨#[32]⟩).size ≤ 22 := by
            rw [ByteArray.size_append]
            have : (⟨#[32]⟩ : ByteArray).size = 1 := rfl
            omega
          have z4 : (tx ++ ⟨#[32]⟩ ++ ty).size ≤ 43 := by
            rw [ByteArray.size_append]
            omega
          go_wp2_with fail
          refine wp_region_slots 17 [[(5, false)], [(5, false)], [(21, true)], [(22, true)], [(3, false), (23, true)], [(24, true)], [(25, true)], [(26, true)], [(5, false)], [(28, true)], [(29, true)], [(3, false), (30, true)], [(31, true)], [(32, true)], [(27, true), (33, true)], [(34, true)], [(3, false), (20, true)]] (fun w' => Below wr.heap.size wr w') (fun w w' => Below w.heap.size w w') (by kernel_rfl) (by kernel_rfl) (by rfl) ((Below.refl _ _).drew) (fun _ _ h hb => below_step h h.size hb) ?_
          iterate 6 (apply slot_eq; · (intro ρ w' ⟨p1, p2, p3⟩ hbl hn; obtain ⟨c1, c2⟩ := HC.out w' hbl; simp at hn; go_simp; exact ⟨Below.refl _ _, rfl⟩))
          apply slot_eq
          · intro ρ w' ⟨p1, p2, p3⟩ hbl hn
            simp at hn
            go_simp
            exact got_call (HNX.out w' (HTB.out w' hbl)) fun e w'' ⟨he, hb⟩ => ⟨_, he, hb, rfl⟩
          apply slot_eq
          · intro ρ w' ⟨p1, p2, p3⟩ hbl hn
            simp at hn
            go_simp
            rw [if_neg (by omega)]
            exact ⟨Below.refl _ _, rfl⟩
          iterate 5 (apply slot_eq; · (intro ρ w' ⟨p1, p2, p3⟩ hbl hn; obtain ⟨c1, c2⟩ := HC.out w' hbl; simp at hn; go_simp; exact ⟨Below.refl _ _, rfl⟩))
          apply slot_eq
          · intro ρ w' ⟨p1, p2, p3⟩ hbl hn
            simp at hn
            go_simp
            exact got_call (HNY.out w' (HTB.out w' hbl)) fun e w'' ⟨he, hb⟩ => ⟨_, he, hb, rfl⟩
          apply slot_eq
          · intro ρ w' ⟨p1, p2, p3⟩ hbl hn
            simp at hn
            obtain ⟨e1, e2⟩ := hn
            go_simp
            rw [if_neg (by omega)]
            exact ⟨Below.refl _ _, rfl⟩
          apply slot_eq
          · intro ρ w' ⟨p1, p2, p3⟩ hbl hn
            simp at hn
            go_simp
            exact got_call (HHS.out _ w' rfl (by omega)) fun e w'' ⟨he, hb⟩ => ⟨_, he, by rw [hb]; exact Below.refl _ _, rfl⟩
          apply slot_eq
          · intro ρ w' ⟨p1, p2, p3⟩ hbl hn
            simp at hn
            obtain ⟨e1, e2⟩ := hn
            go_simp
            exact ⟨Below.refl _ _, rfl⟩
          refine slot_end ?_
          intro vs w3 hS hF
          simp at hF
          obtain ⟨h36, h35, -⟩ := hF
          have HZ3 := Lib.hid (rowIs_below HZ.out hS)
          have HR3 := Lib.hid (rowIs_below HR.out hS)
          have HB3 := Lib.hid (below_step HB.out HB.out.size hS)
          clear hS
          have c0 := HR3.out.cell (i := q) (by omega)
          have fz := HR3.out.frozen
          simp only [List.take_succ_cons, List.take_zero, List.drop_succ_cons, List.drop_zero, putAll, h36, h35]
          clear h36 h35
          go_wp2
          exact ⟨⟨q, by omega, by go_num, HZ3.out.setOther (a := ⟨w.heap.size + 1, q, none⟩) (by simp) _, HS.out _ HR3.out, HB3.out.setCell (p := ⟨w.heap.size + 1, q, none⟩) (Nat.le_succ _) _⟩, by simp [intOf]⟩

set_option maxRecDepth 100000 in
set_option maxHeartbeats 4000000 in
theorem implTree_any (a : Option Addr) (n cap : Nat) (ws : List Wr) (w : World) (hn : ws.length = n) (hm : n ≤ 1048576) (hx : Few ws) (hh : IsWs w a ws) (ht : Tab w) :
    Calls Tryd.prog 19 #[.slice a n cap] w fun e w' => ∃ ad cp, e = .returned (.slice ad (treeB ws).length cp) ∧ OwnI w' w.heap.size w'.heap.size ad (treeB ws) ∧ Below w.heap.size w w' := by
  have hlt : 1 < w.heap.size := ht.lt
  have HC : Hid (Calls Tryd.prog 43 #[.slice a n cap] w fun e w' => e = .returned (.bool (mapOkB ws)) ∧ Below w.heap.size w w') := implMapOk_any a n cap ws w hn hm hx hh
  have HTM : Hid (∀ W, Below w.heap.size w W → Calls Tryd.prog 45 #[.slice a n cap] W fun e w' => ∃ cs, e = .returned (.agg cs) ∧ IsArr cs (treeW ws) ∧ Below W.heap.size W w') := fun W hW => treeOfMap_any a n cap ws W hn hm hx (hh.below hW) (ht.below hW hlt)
  clear hn hx hh ht
  cases hok : mapOkB ws
  · have HE : Hid (treeB ws = []) := by show _ = _; unfold treeB; rw [hok]; rfl
    rw [hok] at HC
    clear hok HTM
    go_enter Tryd.func19, Tryd.ntmps19
    go_wp2_with fail
    refine HC.out.mono ?_
    rintro e w1 ⟨rfl, hb⟩
    have HB1 := Lib.hid hb
    clear hb
    go_wp2
    go_ret
    exact ⟨_, _, by rw [HE.out]; rfl, by rw [HE.out]; exact .inl rfl, HB1.out⟩
  have HE : Hid (treeB ws = treeW ws) := by show _ = _; unfold treeB; rw [hok]; rfl
  rw [hok] at HC
  clear hok
  go_enter Tryd.func19, Tryd.ntmps19
  go_wp2_with fail
  refine HC.out.mono ?_
  rintro e w1 ⟨rfl, hb⟩
  have HB1 := Lib.hid hb
  clear hb HC
  go_wp2_with fail
  refine (HTM.out _ HB1.out).mono ?_
  rintro e w2 ⟨cs, rfl, hA, hb⟩
  have HB2 := Lib.hid (below_step HB1.out HB1.out.size hb)
  have HA := Lib.hid hA
  clear hb hA HTM HB1
  have s0 : (Tryd.prog.info? 74).map (·.size) = some cs.size := by rw [infoTree, HA.out.size]
  have s2 : cs.all (·.oneCell') = true := by rw [HA.out.1, Array.all_eq_true_iff_forall_mem]; intro v hv; exact intV_one _ v (by simpa using hv)
  have s1 : (#[.int .i64 0, .int .i64 0, .int .i64 0, .int .i64 0, .int .i64 0, .int .i64 0, .int .i64 0, .int .i64 0, .int .i64 0, .int .i64 0, .int .i64 0, .int .i64 0, .int .i64 0, .int .i64 0, .int .i64 0] : Array Value).size = cs.size := by rw [HA.out.size]; rfl
  have hg := heap_alloc_new w2 (.cells #[.int .i64 0, .int .i64 0, .int .i64 0, .int .i64 0, .int .i64 0, .int .i64 0, .int .i64 0, .int .i64 0, .int .i64 0, .int .i64 0, .int .i64 0, .int .i64 0, .int .i64 0, .int .i64 0, .int .i64 0] 74 (0, 0))
  have hsz : w.heap.size ≤ w2.heap.size := HB2.out.size
  have HR : Hid (OwnI ((w2.alloc (.cells #[.int .i64 0, .int .i64 0, .int .i64 0, .int .i64 0, .int .i64 0, .int .i64 0, .int .i64 0, .int .i64 0, .int .i64 0, .int .i64 0, .int .i64 0, .int .i64 0, .int .i64 0, .int .i64 0, .int .i64 0] 74)).setRow w2.heap.size cs) w.heap.size ((w2.alloc (.cells #[.int .i64 0, .int .i64 0, .int .i64 0, .int .i64 0, .int .i64 0, .int .i64 0, .int .i64 0, .int .i64 0, .int .i64 0, .int .i64 0, .int .i64 0, .int .i64 0, .int .i64 0, .int .i64 0, .int .i64 0] 74)).setRow w2.heap.size cs).heap.size (some ⟨w2.heap.size, 0, none⟩) (treeW ws)) := by
    have hb := setRow_block hg cs
    have hl : w2.heap.size < ((w2.alloc (.cells #[.int .i64 0, .int .i64 0, .int .i64 0, .int .i64 0, .int .i64 0, .int .i64 0, .int .i64 0, .int .i64 0, .int .i64 0, .int .i64 0, .int .i64 0, .int .i64 0, .int .i64 0, .int .i64 0, .int .i64 0] 74)).setRow w2.heap.size cs).heap.size := (Array.getElem?_eq_some_iff.1 hb).1
    refine .inr ⟨w2.heap.size, rfl, hsz, hl, hl, fun i hi => ?_, fun o => frozen_of_row _ _ o cs _ hb⟩
    rw [cell_of_row _ _ i cs _ _ hb]
    exact HA.out.get (by rw [← HA.out.2]; exact hi)
  have HB3 : Hid (Below w.heap.size w ((w2.alloc (.cells #[.int .i64 0, .int .i64 0, .int .i64 0, .int .i64 0, .int .i64 0, .int .i64 0, .int .i64 0, .int .i64 0, .int .i64 0, .int .i64 0, .int .i64 0, .int .i64 0, .int .i64 0, .int .i64 0, .int .i64 0] 74)).setRow w2.heap.size cs)) := below_setRow (HB2.out.alloc hsz _) hsz cs
  have HL : Hid ((treeW ws).length = 15) := HA.out.2
  go_wp2_with (refine wpList_store_row rfl 74 _ _ rfl w2.heap.size cs rfl rfl _ _ hg s0 s1 s2 ?_)
  go_ret
  exact ⟨_, _, by rw [HE.out, HL.out]; rfl, by rw [HE.out]; exact HR.out, HB3.out⟩

end Go.Proofs.YtidpcjcnhklmpacDoor

/- The contract of impl.Repair. -/
namespace Go.Proofs.YtidpcjcnhklmpacDoor
open Go.ChangeShapes Go.WideShapes Go.ChangeAt Go.RowKit Go.Joins
attribute [local go_sem ↓] Go.wp_at_zero Go.wp_at_succ

set_option maxRecDepth 100000 in
set_option maxHeartbeats 8000000 in
theorem implRepair_any (a b : Option Addr) (n m cap cap' : Nat) (us vs : List Wr) (w : World) (hn : us.length = n) (hm : vs.length = m) (hn1 : n ≤ 1048576) (hm1 : m ≤ 1048576) (hx : Few us) (hy : Few vs) (hi : IsWs w a us) (hj : IsWs w b vs) (ht : Tab w) :
    Calls Tryd.prog 15 #[.slice a n cap, .slice b m cap'] w fun e w' => ∃ v es, e = .returned (.tuple #[v, .int .i64 ((repKeys us vs).length : Int)]) ∧ es.map (·.x) = repB us vs ∧ RowG w' w.heap.size v es ∧ Below w.heap.size w w' := by
  have hlt : 1 < w.heap.size := ht.lt
  have HT := Lib.hid ht
  have HI : Hid (IsWs w a us) := hi
  have HJ : Hid (IsWs w b vs) := hj
  have HN : Hid (us.length = n) := hn
  have HM : Hid (vs.length = m) := hm
  have HX : Hid (Few us) := hx
  have HY : Hid (Few vs) := hy
  clear hi hj hn hm hx hy ht
  cases ha : mapOkB us
  · have HE : Hid (repB us vs = []) := repB_not (.inl ha)
    have HK : Hid (repKeys us vs = []) := repKeys_not (.inl ha)
    go_enter Tryd.func15, Tryd.ntmps15
    go_wp2_with fail
    refine (implMapOk_is false a n cap us ha _ HN.out hn1 HX.out HI.out).mono ?_
    rintro e w1 ⟨rfl, hb⟩
    have HB1 := Lib.hid hb
    clear hb
    go_wp2
    exact bodyPost_ret (v := .tuple #[.slice none 0 0, .int .i64 0]) (by simp [results, Tryd.results15, go_sem]) rfl ⟨_, [], by rw [HK.out]; rfl, HE.out.symm, rowG_nil _ _, HB1.out⟩
  cases hb : mapOkB vs
  · have HE : Hid (repB us vs = []) := repB_not (.inr hb)
    have HK : Hid (repKeys us vs = []) := repKeys_not (.inr hb)
    go_enter Tryd.func15, Tryd.ntmps15
    go_wp2_with fail
    refine (implMapOk_is true a n cap us ha _ HN.out hn1 HX.out HI.out).mono ?_
    rintro e w1 ⟨rfl, hb1⟩
    have HB1 := Lib.hid hb1
    clear hb1
    go_wp2_with fail
    refine (implMapOk_is false b m cap' vs hb _ HM.out hm1 HY.out (HJ.out.below HB1.out)).mono ?_
    rintro e w2 ⟨rfl, hb2⟩
    have HB2 : Hid (Below w.heap.size w w2) := below_step HB1.out HB1.out.size hb2
    clear hb2
    go_wp2
    exact bodyPost_ret (v := .tuple #[.slice none 0 0, .int .i64 0]) (by simp [results, Tryd.results15, go_sem]) rfl ⟨_, [], by rw [HK.out]; rfl, HE.out.symm, rowG_nil _ _, HB2.out⟩
  have HE : Hid (joinB us (pickK vs (repKeys us vs)) = repB us vs) := (repB_join ha hb).symm
  have HK : Hid (diffL (treeW us) (treeW vs) = repKeys us vs) := (repKeys_ok ha hb).symm
  have hkl := repKeys_len us vs
  have HPF : Hid (Few (pickK vs (repKeys us vs))) := pickK_few HY.out _
  have HPL : Hid ((pickK vs (repKeys us vs)).length ≤ 8) := by
    have h1 := pickK_len vs (repKeys us vs) 8
    rw [List.take_of_length_le hkl] at h1
    exact h1
  go_enter Tryd.func15, Tryd.ntmps15
  go_wp2_with fail
  refine (implMapOk_is true a n cap us ha _ HN.out hn1 HX.out HI.out).mono ?_
  rintro e w1 ⟨rfl, hb1⟩
  have HB1 := Lib.hid hb1
  clear hb1
  go_wp2_with fail
  refine (implMapOk_is true b m cap' vs hb _ HM.out hm1 HY.out (HJ.out.below HB1.out)).mono ?_
  rintro e w2 ⟨rfl, hb2⟩
  have HB2 : Hid (Below w.heap.size w w2) := below_step HB1.out HB1.out.size hb2
  clear hb2 HB1 ha hb
  go_wp2_with fail
  refine (treeOfMap_any a n cap us _ HN.out hn1 HX.out (HI.out.below HB2.out) (HT.out.below HB2.out hlt)).mono ?_
  rintro e w3 ⟨cs, rfl, hA, hb⟩
  have HB3 : Hid (Below w.heap.size w w3) := below_step HB2.out HB2.out.size hb
  have HA := Lib.hid hA
  clear hb hA HB2
  go_wp2_with fail
  refine (treeOfMap_any b m cap' vs _ HM.out hm1 HY.out (HJ.out.below HB3.out) (HT.out.below HB3.out hlt)).mono ?_
  rintro e w4 ⟨ds, rfl, hA, hb⟩
  have HB4 : Hid (Below w.heap.size w w4) := below_step HB3.out HB3.out.size hb
  have HD := Lib.hid hA
  clear hb hA HB3
  go_wp2_with fail
  refine (leavesApart_any cs ds _ _ _ HA.out HD.out).mono ?_
  rintro e w5 ⟨v5, rfl, hrow, hb⟩
  rw [HK.out] at hrow
  obtain ⟨ak, ck, rfl, hko⟩ := hrow.form
  have HB5 : Hid (Below w.heap.size w w5) := below_step HB4.out HB4.out.size hb
  have HKS : Hid (IsInts w5 ak (repKeys us vs)) := hko.isInts
  clear hb hrow hko HB4 HK HA HD
  obtain ⟨ks, hks⟩ : ∃ ks, repKeys us vs = ks := ⟨_, rfl⟩
  have HKK := Lib.hid hks
  rw [hks] at hkl HE HKS HPF HPL
  try rw [hks]
  clear hks
  go_wp2_with fail
  refine (writesOf_any b ak m _ cap' ck vs ks _ HM.out rfl hm1 hkl HY.out (HJ.out.below HB5.out) HKS.out).mono ?_
  rintro e w6 ⟨v6, es6, rfl, hes6, hrow, hb⟩
  have HB6 : Hid (Below w.heap.size w w6) := below_step HB5.out HB5.out.size hb
  obtain ⟨ga, gc, L6, rfl, hl6, hg6⟩ := hrow.ownA hes6
  have HW6 : Hid (IsWs w6 ga (pickK vs ks)) := hg6.isWs HPF.out
  have HL6 := Lib.hid hl6
  have hL8 : L6 ≤ 8 := by rw [← hl6]; exact HPL.out
  clear hb hrow hes6 hg6 hl6 HB5 HKS
  go_wp2_with fail
  refine (implMapJoin_any a ga n L6 cap gc us (pickK vs ks) _ HN.out HL6.out hn1 (by omega) HX.out HPF.out (HI.out.below HB6.out) HW6.out).mono ?_
  rintro e w7 ⟨v7, es7, rfl, hes7, hrow, hb⟩
  have HB7 : Hid (Below w.heap.size w w7) := below_step HB6.out HB6.out.size hb
  have HS7 := Lib.hid (hes7.trans HE.out)
  have HR7 := Lib.hid (hrow.mono HB6.out.size)
  clear hb hrow hes7
  go_wp2
  exact bodyPost_ret (v := .tuple #[v7, .int .i64 (ks.length : Int)]) (by simp [results, Tryd.results15, go_sem]) rfl ⟨_, es7, by rw [HKK.out], HS7.out, HR7.out, HB7.out⟩

end Go.Proofs.YtidpcjcnhklmpacDoor

/- The contract of spec.Differ. -/
namespace Go.Proofs.YtidpcjcnhklmpacDoor
open Go.ChangeShapes Go.WideShapes Go.ChangeAt Go.RowKit Go.Joins
attribute [local go_sem ↓] Go.wp_at_zero Go.wp_at_succ

/-- How far the looking up has come. -/
def UpTo (P : Nat → Bool) (j k : Nat) (d : Bool) : Prop := (d = true ∧ ap P j = ap P k) ∨ (d = false ∧ ap P k = false)

set_option maxRecDepth 100000 in
theorem UpTo.step {P : Nat → Bool} {j k : Nat} (h : UpTo P j k true) (h0 : 0 < j) : UpTo P ((j - 1) / 2) k (P j) := by
  rcases h with ⟨-, h⟩ | ⟨h, -⟩
  · rw [ap_step P h0] at h
    cases hp : P j
    · rw [hp, Bool.false_and] at h
      exact .inr ⟨rfl, h.symm⟩
    · rw [hp, Bool.true_and] at h
      exact .inl ⟨rfl, h⟩
  · cases h

set_option maxRecDepth 100000 in
theorem UpTo.top {P : Nat → Bool} {k : Nat} (h : UpTo P 0 k true) : ap P k = P 0 := by
  rcases h with ⟨-, h⟩ | ⟨h, -⟩
  · rw [← h, ap_zero]
  · cases h

set_option maxRecDepth 100000 in
theorem UpTo.no {P : Nat → Bool} {j k : Nat} (h : UpTo P j k false) : ap P k = false := by
  rcases h with ⟨h, -⟩ | ⟨-, h⟩
  · cases h
  · exact h

set_option maxRecDepth 100000 in
theorem told_more {xs ys : List Int} {k : Nat} {w5 : World} {base g cp : Nat} {zs : List Int} (he : leavesTo xs ys (k + 1) = zs ++ [(k : Int)]) (hown : w5.ownsRow base 3 1 (.slice (some ⟨g, 0, none⟩) (zs.length + 1) cp) (zs.length + 1) (zs.map intV ++ [intV (k : Int)])) : RowI w5 base (.slice (some ⟨g, 0, none⟩) (zs.length + 1) cp) (leavesTo xs ys (k + 1)) := by
  rw [he]
  unfold RowI
  rw [List.length_append, List.map_append]
  exact hown

set_option maxRecDepth 100000 in
set_option maxHeartbeats 2000000 in
theorem specDiffer_any (a a' : Option Addr) (n m cap cap' : Nat) (xs ys : List Int) (w : World) (hn : xs.length = n) (hm : ys.length = m) (hn1 : n ≤ 1048576) (hm1 : m ≤ 1048576) (h : IsInts w a xs) (h' : IsInts w a' ys) :
    Calls Tryd.prog 47 #[.slice a n cap, .slice a' m cap'] w fun e w' => ∃ v, e = .returned v ∧ RowI w' w.heap.size v (diffB xs ys) ∧ Below w.heap.size w w' := by
  have HR0 : Hid (RowI (w.alloc (.cells #[] 3)) w.heap.size (.slice (some ⟨w.heap.size, 0, none⟩) 0 0) []) := World.ownsRow_made w #[] 0 (Nat.le_refl _) (by simp [maxLen]) (by simp)
  have HB0 : Hid (Below w.heap.size w (w.alloc (.cells #[] 3))) := (Below.refl _ _).alloc (Nat.le_refl _) _
  by_cases hb : n = 15 ∧ m = 15
  rotate_left
  · have HE : Hid (diffB xs ys = []) := by
      show _ = _
      unfold diffB
      rw [if_neg (by rw [hn, hm]; exact hb)]
    clear h h' hn hm
    by_cases h1 : (n : Int) = 15
    · have h3 : n = 15 := by omega
      have h2 : ¬ (m : Int) = 15 := by omega
      subst h3
      go_enter Tryd.func47, Tryd.ntmps47
      go_wp2
      go_ret
      exact ⟨_, rfl, by rw [HE.out]; exact HR0.out, HB0.out⟩
    · go_enter Tryd.func47, Tryd.ntmps47
      go_wp2
      go_ret
      exact ⟨_, rfl, by rw [HE.out]; exact HR0.out, HB0.out⟩
  obtain ⟨rfl, rfl⟩ := hb
  have HE : Hid (diffB xs ys = leavesTo xs ys 8) := by
    show _ = _
    unfold diffB
    rw [if_pos ⟨hn, hm⟩]
    rfl
  have HH := Lib.hid h
  have HH' := Lib.hid h'
  have HN := Lib.hid hn
  have HM := Lib.hid hm
  clear h h' hn hm
  obtain ⟨i0, hi0, hx0⟩ := Option.map_eq_some_iff.1 infoInt
  simp only [Prod.mk.injEq] at hx0
  have HI0 := Lib.hid hi0
  have HX0 := Lib.hid hx0
  clear hi0 hx0
  go_enter Tryd.func47, Tryd.ntmps47
  go_wp2
  go_loopw [5, 6] (fun t i wr => ∃ (k : Nat) (v : Value), k ≤ 8 ∧ i = .int .i64 k ∧ v = t ∧ Hid (RowI wr w.heap.size v (leavesTo xs ys k)) ∧ Hid (Below w.heap.size w wr)) (fun _ i _ => 8 - (intOf i).toNat)
  case atStart => exact ⟨0, _, Nat.zero_le _, rfl, rfl, HR0, HB0⟩
  case round =>
    clear HR0 HB0
    obtain ⟨k, v, hk, rfl, rfl, HR, HB⟩ := hrel
    by_cases hk' : k < 8
    · have i1 : (0 : Int) ≤ (k : Int) := by omega
      have i2 : (k : Int) < 8 := by omega
      have hlen := leavesTo_len xs ys k
      go_wp2
      go_loopw [7, 8] (fun d i wq => ∃ (j : Nat) (bb : Bool), j < 15 ∧ i = .int .i64 j ∧ d = .bool bb ∧ Hid (UpTo (unlike xs ys) j (7 + k) bb) ∧ Hid (RowI wq w.heap.size v (leavesTo xs ys k)) ∧ Hid (Below w.heap.size w wq)) (fun _ i _ => (intOf i).toNat)
      case atStart => exact ⟨7 + k, true, by omega, by push_cast; rfl, rfl, .inl ⟨rfl, rfl⟩, HR, HB⟩
      case round =>
        clear HR HB
        obtain ⟨j, bb, hj, rfl, rfl, HU, HR, HB⟩ := hrel
        cases bb
        · have HE2 : Hid (leavesTo xs ys (k + 1) = leavesTo xs ys k) := leavesTo_no HU.out.no
          have HR2 : Hid (RowI wr w.heap.size v (leavesTo xs ys (k + 1))) := by rw [HE2.out]; exact HR
          go_wp2
          exact ⟨⟨k + 1, _, by omega, by go_num, rfl, HR2, HB⟩, by simp [intOf]; omega⟩
        · have i3 : (0 : Int) ≤ (j : Int) := by omega
          have i4 : (j : Int) < 15 := by omega
          obtain ⟨b, rfl, hz, e0⟩ := HH.out.at HB.out (show j < xs.length by rw [HN.out]; exact hj)
          obtain ⟨b', rfl, hz', f0⟩ := HH'.out.at HB.out (show j < ys.length by rw [HM.out]; exact hj)
          have HP : Hid (unlike xs ys j = decide (xs.getD j 0 ≠ ys.getD j 0)) := rfl
          generalize xs.getD j 0 = x at *
          generalize ys.getD j 0 = y at *
          go_wp2_with fail
          have ge0 := aft_cell hz e0
          have gf0 := aft_cell hz' f0
          have ne := aft_some wr
          refine wp_region_aft (by kernel_rfl) (by kernel_rfl) ?_
          repeat (first | go_big_quiet_step (fail))
          refine wpQuiet_nil ?_
          intro wq hq
          have HBQ : Hid (Below w.heap.size w wq) := below_step HB.out HB.out.size hq
          have HRQ := Lib.hid (HR.out.below hq)
          clear hq ge0 gf0 ne e0 f0 HB HR
          by_cases hj0 : j = 0
          · subst hj0
            have HT : Hid (ap (unlike xs ys) (7 + k) = unlike xs ys 0) := HU.out.top
            by_cases hxy : x = y
            · have HE2 : Hid (leavesTo xs ys (k + 1) = leavesTo xs ys k) := leavesTo_no (by rw [HT.out, HP.out]; simp [hxy])
              have HR2 : Hid (RowI wq w.heap.size v (leavesTo xs ys (k + 1))) := by rw [HE2.out]; exact HRQ
              subst hxy
              go_wp2
              exact ⟨⟨k + 1, _, by omega, by go_num, rfl, HR2, HBQ⟩, by simp [intOf]; omega⟩
            · have HE2 : Hid (leavesTo xs ys (k + 1) = leavesTo xs ys k ++ [(k : Int)]) := leavesTo_yes (by rw [HT.out, HP.out]; simpa using hxy)
              have hsz : w.heap.size ≤ wq.heap.size := HBQ.out.size
              generalize leavesTo xs ys k = zs at *
              have HBA : Hid (Below wq.heap.size wq (wq.alloc (.cells #[.int .i64 (k : Int)] 3))) := (Below.refl _ _).alloc (Nat.le_refl _) _
              have HRC := Lib.hid (HRQ.out.below HBA.out)
              have HCC := Lib.hid (oneI_cells wq 3 (k : Int))
              have HBD := Lib.hid (below_step HBQ.out HBQ.out.size HBA.out)
              go_wp2_with (at_builtin; refine wpList_append_lies _ (by rfl) _ _ _ (by rfl) w.heap.size 3 i0 (.int .i64 0) 1 8 Tryd.underlying24 HI0.out HX0.out.1 HX0.out.2.1 HX0.out.2.2 (by rfl) (by omega) v zs.length (zs.map intV) (by rfl) HRC.out ⟨wq.heap.size, 0, none⟩ 1 1 [intV (k : Int)] (by rfl) (by rfl) (by simpa using HCC.out) (intV_one [(k : Int)]) (by omega) (by unfold maxLen; omega) (by omega) (by simp; omega) _ rfl ?_; intro g3 cp3 w5 hown hgrow hg3 _; refine Hid.out ?_)
              refine Lib.hid ?_
              have HB5 : Hid (Below w.heap.size w w5) := HBD.out.grown hgrow HBD.out.size fun j hj => (World.ownsRow.lt HRC.out j hj).1
              have HR5 : Hid (RowI w5 w.heap.size (.slice (some ⟨g3, 0, none⟩) (zs.length + 1) cp3) (leavesTo xs ys (k + 1))) := told_more HE2.out hown
              clear hown hgrow
              go_wp2
              exact ⟨⟨k + 1, _, by omega, by go_num, rfl, HR5, HB5⟩, by simp [intOf]; omega⟩
          · have HS : Hid (UpTo (unlike xs ys) ((j - 1) / 2) (7 + k) (decide (x ≠ y))) := by
              have := HU.out.step (by omega)
              rw [HP.out] at this
              exact this
            have hne : ¬ (j : Int) = 0 := by omega
            have e1 : ((j : Int) - 1).tdiv 2 = (((j - 1) / 2 : Nat) : Int) := by
              rw [Int.tdiv_eq_ediv_of_nonneg (by omega)]
              omega
            by_cases hxy : x = y
            · have HS2 : Hid (UpTo (unlike xs ys) ((j - 1) / 2) (7 + k) false) := by
                have := HS.out
                rwa [decide_eq_false (by simpa using hxy)] at this
              subst hxy
              go_wp2
              exact ⟨⟨(j - 1) / 2, false, by omega, by simp, by simp, HS2, HRQ, HBQ⟩, by simp [intOf]; omega⟩
            · have HS2 : Hid (UpTo (unlike xs ys) ((j - 1) / 2) (7 + k) true) := by
                have := HS.out
                rwa [decide_eq_true (by simpa using hxy)] at this
              go_wp2
              exact ⟨⟨(j - 1) / 2, true, by omega, by simp, by simp [hxy], HS2, HRQ, HBQ⟩, by simp [intOf]; omega⟩
    · have hkk : k = 8 := by omega
      subst hkk
      have HF : Hid (RowI wr w.heap.size v (diffB xs ys)) := by rw [HE.out]; exact HR
      go_wp2
      go_ret
      exact ⟨_, rfl, HF.out, HB.out⟩

end Go.Proofs.YtidpcjcnhklmpacDoor

/- The contract of spec.Repair. -/
namespace Go.Proofs.YtidpcjcnhklmpacDoor
open Go.ChangeShapes Go.WideShapes Go.ChangeAt Go.RowKit Go.Joins
attribute [local go_sem ↓] Go.wp_at_zero Go.wp_at_succ

set_option maxRecDepth 100000 in
set_option maxHeartbeats 8000000 in
theorem specRepair_any (a b : Option Addr) (n m cap cap' : Nat) (us vs : List Wr) (w : World) (hn : us.length = n) (hm : vs.length = m) (hn1 : n ≤ 1048576) (hm1 : m ≤ 1048576) (hx : Few us) (hy : Few vs) (hi : IsWs w a us) (hj : IsWs w b vs) :
    Calls Tryd.prog 16 #[.slice a n cap, .slice b m cap'] w fun e w' => ∃ g cp es L, e = .returned (.tuple #[.slice (some ⟨g, 0, none⟩) L cp, .int .i64 ((repKeys us vs).length : Int)]) ∧ es.length = L ∧ es.map (·.x) = repB us vs ∧ RowEs w' w.heap.size g cp es ∧ Below w.heap.size w w' := by
  have HI : Hid (IsWs w a us) := hi
  have HJ : Hid (IsWs w b vs) := hj
  have HN : Hid (us.length = n) := hn
  have HM : Hid (vs.length = m) := hm
  have HX : Hid (Few us) := hx
  have HY : Hid (Few vs) := hy
  clear hi hj hn hm hx hy
  cases ha : mapOkB us
  · have HE : Hid (repB us vs = []) := repB_not (.inl ha)
    have HK : Hid (repKeys us vs = []) := repKeys_not (.inl ha)
    go_enter Tryd.func16, Tryd.ntmps16
    go_wp2_with fail
    refine (specMapOk_is false a n cap us ha _ HN.out hn1 HX.out HI.out).mono ?_
    rintro e w1 ⟨rfl, hb⟩
    have HB1 := Lib.hid hb
    clear hb
    go_wp2
    exact bodyPost_ret (v := .tuple #[.slice (some ⟨w1.heap.size, 0, none⟩) 0 0, .int .i64 0]) (by simp [results, Tryd.results16, go_sem]) rfl ⟨_, _, [], 0, by rw [HK.out]; rfl, rfl, HE.out.symm, rowEs_start _ _ HB1.out.size, HB1.out.alloc HB1.out.size _⟩
  cases hb : mapOkB vs
  · have HE : Hid (repB us vs = []) := repB_not (.inr hb)
    have HK : Hid (repKeys us vs = []) := repKeys_not (.inr hb)
    go_enter Tryd.func16, Tryd.ntmps16
    go_wp2_with fail
    refine (specMapOk_is true a n cap us ha _ HN.out hn1 HX.out HI.out).mono ?_
    rintro e w1 ⟨rfl, hb1⟩
    have HB1 := Lib.hid hb1
    clear hb1
    go_wp2_with fail
    refine (specMapOk_is false b m cap' vs hb _ HM.out hm1 HY.out (HJ.out.below HB1.out)).mono ?_
    rintro e w2 ⟨rfl, hb2⟩
    have HB2 : Hid (Below w.heap.size w w2) := below_step HB1.out HB1.out.size hb2
    clear hb2
    go_wp2
    exact bodyPost_ret (v := .tuple #[.slice (some ⟨w2.heap.size, 0, none⟩) 0 0, .int .i64 0]) (by simp [results, Tryd.results16, go_sem]) rfl ⟨_, _, [], 0, by rw [HK.out]; rfl, rfl, HE.out.symm, rowEs_start _ _ HB2.out.size, HB2.out.alloc HB2.out.size _⟩
  have HE : Hid (joinW us (pickK vs (repKeys us vs)) = repB us vs) := (repB_ok ha hb).symm
  have HK : Hid (diffB (treeB us) (treeB vs) = repKeys us vs) := rfl
  have hkl := repKeys_len us vs
  have hn6 : n ≤ 6 := by rw [← HN.out]; exact mapOk_len ha
  go_enter Tryd.func16, Tryd.ntmps16
  go_wp2_with fail
  refine (specMapOk_is true a n cap us ha _ HN.out hn1 HX.out HI.out).mono ?_
  rintro e w1 ⟨rfl, hb1⟩
  have HB1 := Lib.hid hb1
  clear hb1
  go_wp2_with fail
  refine (specMapOk_is true b m cap' vs hb _ HM.out hm1 HY.out (HJ.out.below HB1.out)).mono ?_
  rintro e w2 ⟨rfl, hb2⟩
  have HB2 : Hid (Below w.heap.size w w2) := below_step HB1.out HB1.out.size hb2
  clear hb2 HB1 ha hb
  go_wp2_with fail
  refine (specTree_any a n cap us _ HN.out hn1 HX.out (HI.out.below HB2.out)).mono ?_
  rintro e w3 ⟨a3, c3, rfl, h3, hb⟩
  have HB3 : Hid (Below w.heap.size w w3) := below_step HB2.out HB2.out.size hb
  have HA := Lib.hid h3.isInts
  clear hb h3 HB2
  go_wp2_with fail
  refine (specTree_any b m cap' vs _ HM.out hm1 HY.out (HJ.out.below HB3.out)).mono ?_
  rintro e w4 ⟨a4, c4, rfl, h4, hb⟩
  have HB4 : Hid (Below w.heap.size w w4) := below_step HB3.out HB3.out.size hb
  have HA4 := Lib.hid (HA.out.below hb)
  have HD := Lib.hid h4.isInts
  clear hb h4 HB3 HA
  have l1 := treeB_len us
  have l2 := treeB_len vs
  go_wp2_with fail
  refine (specDiffer_any _ _ _ _ _ _ (treeB us) (treeB vs) _ rfl rfl (by omega) (by omega) HA4.out HD.out).mono ?_
  rintro e w5 ⟨v5, rfl, hrow, hb⟩
  rw [HK.out] at hrow
  obtain ⟨ak, ck, rfl, hko⟩ := hrow.form
  have HB5 : Hid (Below w.heap.size w w5) := below_step HB4.out HB4.out.size hb
  have HKS : Hid (IsInts w5 ak (repKeys us vs)) := hko.isInts
  clear hb hrow hko HB4 HK HA4 HD
  obtain ⟨ks, hks⟩ : ∃ ks, repKeys us vs = ks := ⟨_, rfl⟩
  have HKK := Lib.hid hks
  rw [hks] at hkl HE HKS
  try rw [hks]
  clear hks
  obtain ⟨q, hq⟩ : ∃ q, ks.length = q := ⟨_, rfl⟩
  rw [hq]
  rw [hq] at hkl
  have HQ := Lib.hid hq
  clear hq
  go_wp2_with fail
  refine (copies_gen a n cap us _ HN.out (by omega) HX.out (HI.out.below HB5.out)).mono ?_
  rintro e w6 ⟨g0, cp0, es0, rfl, he0, hr0, hb⟩
  have HB6 : Hid (Below w.heap.size w w6) := below_step HB5.out HB5.out.size hb
  have HKS6 := Lib.hid (HKS.out.below hb)
  have HE0 : Hid (es0.map (·.x) = joinW us (pickK vs (ks.take 0))) := he0
  have HL0 : Hid (es0.length = n) := by
    have := congrArg List.length he0
    simp at this
    exact this.trans HN.out
  have HR0 := Lib.hid (hr0.mono HB5.out.size)
  clear he0 hr0 hb HB5 HKS
  go_wp2
  go_loopw [7, 8] (fun t i wr => ∃ (k L g cp : Nat) (es : List En), k ≤ q ∧ L ≤ n + k ∧ i = .int .i64 k ∧ t = .slice (some ⟨g, 0, none⟩) L cp ∧ Hid (es.length = L) ∧ Hid (es.map (·.x) = joinW us (pickK vs (ks.take k))) ∧ Hid (RowEs wr w.heap.size g cp es) ∧ Hid (Below w6.heap.size w6 wr) ∧ Hid (Below w.heap.size w wr)) (fun _ i _ => q - (intOf i).toNat)
  case atStart => exact ⟨0, n, g0, cp0, es0, Nat.zero_le _, Nat.le_refl _, rfl, rfl, HL0, HE0, HR0, Below.refl _ _, HB6⟩
  case round =>
    clear HE0 HL0 HR0
    obtain ⟨k, L, g, cp, es, hk, hL, rfl, rfl, HL, HES, HR, HB, HBW⟩ := hrel
    by_cases hk' : k < q
    · have i1 : (0 : Int) ≤ (k : Int) := by omega
      have i2 : (k : Int) < (q : Int) := by omega
      have hkk : k < ks.length := by rw [HQ.out]; exact hk'
      obtain ⟨b2, rfl, hz, e0⟩ := HKS6.out.at HB.out hkk
      have HPY : Hid (∀ x, findW vs (ks.getD k 0) = some x → pickK vs (ks.take (k + 1)) = pickK vs (ks.take k) ++ [x]) := fun x h => pickK_yes hkk h
      have HPN : Hid (findW vs (ks.getD k 0) = none → pickK vs (ks.take (k + 1)) = pickK vs (ks.take k)) := fun h => pickK_no hkk h
      have HW : Hid (HoldsWs wr g (joinW us (pickK vs (ks.take k))) (gamma es)) := HR.out.holds HES.out
      have HF : Hid (Few (joinW us (pickK vs (ks.take k)))) := join_few _ _ HX.out (pickK_few HY.out _)
      have HLL : Hid ((joinW us (pickK vs (ks.take k))).length = L) := by
        rw [← HES.out, List.length_map]
        exact HL
      generalize ks.getD k 0 = key at *
      go_wp2_with fail
      refine (specMapAt_gen b m cap' key vs _ HM.out hm1 HY.out (HJ.out.below HBW.out)).mono ?_
      rintro e w7 ⟨u, rfl, hu, hb⟩
      have HB7 := Lib.hid (below_step HB.out HB.out.size hb)
      have HBW7 := Lib.hid (below_step HBW.out HBW.out.size hb)
      have HR7 := Lib.hid (HR.out.below hb)
      clear hb HB HBW HR HW
      rcases hu with ⟨i, g2, cp2, h1, rfl, -, hg2, hg3⟩ | ⟨h1, rfl⟩
      · have HE' := Lib.hid (HPY.out _ (find_first h1))
        have hxl := HY.out i h1.1
        have HD : Hid (IsDeps w7 (some ⟨g2, 0, none⟩) (vs.getD i wz).xs) := .inr ⟨g2, 0, rfl, hg2, hg3⟩
        clear h1 hg3 HPY HPN
        generalize vs.getD i wz = x at *
        obtain ⟨xk, xc, xs', xq, xv, xd, xx⟩ := x
        simp only at hxl HD
        have HBA : Hid (Below w7.heap.size w7 (w7.alloc (.cells #[.int .i64 xk, .int .i64 xc, .int .i64 xs', .int .i64 xq, .int .i64 xv, .bool xd, .slice (some ⟨g2, 0, none⟩) xx.length cp2] 81))) := (Below.refl _ _).alloc (Nat.le_refl _) _
        have HR8 := Lib.hid (HR7.out.below HBA.out)
        have HD8 := Lib.hid (HD.out.below HBA.out)
        have HB8 := Lib.hid (below_step HB7.out HB7.out.size HBA.out)
        have HBW8 := Lib.hid (below_step HBW7.out HBW7.out.size HBA.out)
        have HW8 : Hid (HoldsWs (w7.alloc (.cells #[.int .i64 xk, .int .i64 xc, .int .i64 xs', .int .i64 xq, .int .i64 xv, .bool xd, .slice (some ⟨g2, 0, none⟩) xx.length cp2] 81)) g (joinW us (pickK vs (ks.take k))) (gamma es)) := HR8.out.holds HES.out
        have HJS : Hid (joinW us (pickK vs (ks.take (k + 1))) = putW (joinW us (pickK vs (ks.take k))) ⟨xk, xc, xs', xq, xv, xd, xx⟩) := by
          show _ = _
          rw [HE'.out, join_snoc]
        clear HBA HR7 HD HB7 HBW7 HR8
        go_wp2_with fail
        generalize w7.alloc (.cells #[.int .i64 xk, .int .i64 xc, .int .i64 xs', .int .i64 xq, .int .i64 xv, .bool xd, .slice (some ⟨g2, 0, none⟩) xx.length cp2] 81) = W8 at *
        generalize joinW us (pickK vs (ks.take k)) = ms at *
        refine (put_gen _ L cp ms ⟨xk, xc, xs', xq, xv, xd, xx⟩ (some ⟨g2, 0, none⟩) cp2 _ HLL.out (by omega) HF.out (HW8.out.isWs HF.out) hxl HD8.out).mono ?_
        rintro e w9 ⟨g9, cp9, es9, L9, rfl, hl9, he9, hr9, hb9⟩
        have hL9 : L9 ≤ L + 1 := by
          have h1 := put_len ms ⟨xk, xc, xs', xq, xv, xd, xx⟩
          rw [← he9, HLL.out, List.length_map, hl9] at h1
          exact h1
        have HL9 := Lib.hid hl9
        have HE9 : Hid (es9.map (·.x) = joinW us (pickK vs (ks.take (k + 1)))) := he9.trans HJS.out.symm
        have HR9 := Lib.hid (hr9.mono (Nat.le_trans HBW8.out.size (Nat.le_succ _)))
        have HB9 := Lib.hid (below_step HB8.out HB8.out.size hb9)
        have HBW9 := Lib.hid (below_step HBW8.out HBW8.out.size hb9)
        clear hl9 he9 hr9 hb9
        go_wp2
        exact ⟨⟨k + 1, L9, g9, cp9, es9, by omega, by omega, by go_num, rfl, HL9, HE9, HR9, HB9, HBW9⟩, by simp [intOf]; omega⟩
      · have HE' : Hid (es.map (·.x) = joinW us (pickK vs (ks.take (k + 1)))) := by
          show _ = _
          rw [HPN.out (find_none h1)]
          exact HES.out
        clear h1 HPY HPN
        have HBA : Hid (Below w7.heap.size w7 (w7.alloc (.cells #[.int .i64 0, .int .i64 0, .int .i64 0, .int .i64 0, .int .i64 0, .bool false, .slice none 0 0] 81))) := (Below.refl _ _).alloc (Nat.le_refl _) _
        have HR8 := Lib.hid (HR7.out.below HBA.out)
        have HB8 := Lib.hid (below_step HB7.out HB7.out.size HBA.out)
        have HBW8 := Lib.hid (below_step HBW7.out HBW7.out.size HBA.out)
        clear HBA
        go_wp2
        exact ⟨⟨k + 1, L, g, cp, es, by omega, by omega, by go_num, rfl, HL, HE', HR8, HB8, HBW8⟩, by simp [intOf]; omega⟩
    · have hkk : k = q := by omega
      subst hkk
      have HFE : Hid (es.map (·.x) = repB us vs) := by
        have h := HES.out
        rw [List.take_of_length_le (by rw [HQ.out]; exact Nat.le_refl _)] at h
        exact h.trans HE.out
      go_wp2
      exact bodyPost_ret (v := .tuple #[.slice (some ⟨g, 0, none⟩) L cp, .int .i64 (k : Int)]) (by simp [results, Tryd.results16, go_sem]) rfl ⟨g, cp, es, L, by rw [HKK.out, HQ.out], HL.out, HFE.out, HR.out, HBW.out⟩

end Go.Proofs.YtidpcjcnhklmpacDoor

/- Contracts of Within of both sides. -/
namespace Go.Proofs.YtidpcjcnhklmpacDoor
open Go.ChangeShapes Go.WideShapes Go.ChangeAt Go.RowKit Go.Joins
attribute [local go_sem ↓] Go.wp_at_zero Go.wp_at_succ

/-- Two lists of writes are the same. -/
def sameB (us vs : List Wr) : Bool := decide (us.length = vs.length) && (List.range us.length).all fun i => decide (cmpW (us.getD i wz) (vs.getD i wz) = 0)

theorem same_len {us vs : List Wr} (h : us.length ≠ vs.length) : sameB us vs = false := by
  unfold sameB
  rw [decide_eq_false h, Bool.false_and]

theorem same_false {us vs : List Wr} {i : Nat} (hi : i < us.length) (h : cmpW (us.getD i wz) (vs.getD i wz) ≠ 0) : sameB us vs = false := by
  unfold sameB
  rw [Bool.and_eq_false_iff]
  refine .inr ?_
  rw [List.all_eq_false]
  exact ⟨i, List.mem_range.2 hi, by simpa using h⟩

theorem same_true {us vs : List Wr} (hl : us.length = vs.length) (h : ∀ i, i < us.length → cmpW (us.getD i wz) (vs.getD i wz) = 0) : sameB us vs = true := by
  unfold sameB
  rw [decide_eq_true hl, Bool.true_and, List.all_eq_true]
  intro i hi
  exact decide_eq_true (h i (List.mem_range.1 hi))

set_option maxHeartbeats 1000000 in
theorem sameWrite_any (x y : Wr) (a a' : Option Addr) (cp cp' : Nat) (w : World) (hn : x.xs.length ≤ 1048576) (hm : y.xs.length ≤ 1048576) (hh : IsDeps w a x.xs) (hh' : IsDeps w a' y.xs) :
    Calls Tryd.prog 57 #[wrOf x a cp, wrOf y a' cp'] w fun e w' => e = .returned (.bool (cmpW x y == 0)) ∧ Below w.heap.size w w' := by
  obtain ⟨xk, xc, xs', xq, xv, xd, xx⟩ := x
  obtain ⟨yk, yc, ys, yq, yv, yd, yy⟩ := y
  have HB : Hid (Below w.heap.size w ((w.alloc (.cells #[.int .i64 xk, .int .i64 xc, .int .i64 xs', .int .i64 xq, .int .i64 xv, .bool xd, .slice a xx.length cp] 81)).alloc (.cells #[.int .i64 yk, .int .i64 yc, .int .i64 ys, .int .i64 yq, .int .i64 yv, .bool yd, .slice a' yy.length cp'] 81))) := ((Below.refl _ _).alloc (Nat.le_refl _) _).alloc (by simp) _
  have HI := Lib.hid (hh.below HB.out)
  have HJ := Lib.hid (hh'.below HB.out)
  clear hh hh'
  go_enter Tryd.func57, Tryd.ntmps57
  go_wp2_with fail
  refine (implWriteCmp_gen xk xc xs' xq xv xd a xx _ cp yk yc ys yq yv yd a' yy _ cp' _ rfl rfl hn hm HI.out HJ.out).mono ?_
  rintro e w1 ⟨rfl, hb⟩
  have HB1 := Lib.hid (below_step HB.out HB.out.size hb)
  clear hb
  go_wp2
  go_ret
  exact ⟨rfl, HB1.out⟩

set_option maxHeartbeats 4000000 in
theorem equalFunc_any (a b : Option Addr) (n m cap cap' : Nat) (us vs : List Wr) (w : World) (hn : us.length = n) (hm : vs.length = m) (hn1 : n ≤ 1048576) (hm1 : m ≤ 1048576) (hx : Few us) (hy : Few vs) (hi : IsWs w a us) (hj : IsWs w b vs) :
    Calls Tryd.prog 56 #[.slice a n cap, .slice b m cap', .func (.func 57) #[] #[]] w fun e w' => e = .returned (.bool (sameB us vs)) ∧ Below w.heap.size w w' := by
  have HI : Hid (IsWs w a us) := hi
  have HJ : Hid (IsWs w b vs) := hj
  have HN : Hid (us.length = n) := hn
  have HM : Hid (vs.length = m) := hm
  have HX : Hid (Few us) := hx
  have HY : Hid (Few vs) := hy
  clear hi hj hn hm hx hy
  by_cases hnm : n = m
  case neg =>
    have HF : Hid (sameB us vs = false) := same_len (by rw [HN.out, HM.out]; exact hnm)
    have hb : ((n : Int) != (m : Int)) = true := by rw [bne_iff_ne]; omega
    go_enter Tryd.func56, Tryd.ntmps56
    go_wp2
    go_ret
    exact ⟨ret_bool HF.out.symm, Below.refl _ _⟩
  subst hnm
  go_enter Tryd.func56, Tryd.ntmps56
  go_wp2
  go_loopw [17] (fun i wr => ∃ k : Nat, k ≤ n ∧ i = .int .i64 k ∧ Hid (∀ j, j < k → cmpW (us.getD j wz) (vs.getD j wz) = 0) ∧ Hid (Below w.heap.size w wr)) (fun i _ => n - (intOf i).toNat)
  case atStart => exact ⟨0, Nat.zero_le _, rfl, fun j hj => absurd hj (Nat.not_lt_zero j), Below.refl _ _⟩
  case round =>
    obtain ⟨k, hk, rfl, HK, HB⟩ := hrel
    by_cases hk' : k < n
    · obtain ⟨b1, o1, ad, cp, rfl, hz, ⟨e0, e1, e2, e3, e4, e5, e6⟩, hd⟩ := HI.out.at HB.out HN.out hk'
      obtain ⟨b2, o2, ad', cp', rfl, hz', ⟨f0, f1, f2, f3, f4, f5, f6⟩, hd'⟩ := HJ.out.at HB.out HM.out hk'
      have i1 : (0 : Int) ≤ (k : Int) := by omega
      have i2 : (k : Int) < (n : Int) := by omega
      have HS : Hid (∀ W, Below wr.heap.size wr W → Calls Tryd.prog 57 #[wrOf (us.getD k wz) ad cp, wrOf (vs.getD k wz) ad' cp'] W fun e w' => e = .returned (.bool (cmpW (us.getD k wz) (vs.getD k wz) == 0)) ∧ Below W.heap.size W w') := fun W hW =>
        sameWrite_any _ _ ad ad' cp cp' W (HX.out k (by rw [HN.out]; exact hk')) (HY.out k (by rw [HM.out]; exact hk')) (hd.below hW) (hd'.below hW)
      have HE : Hid (cmpW (us.getD k wz) (vs.getD k wz) ≠ 0 → sameB us vs = false) := fun h => same_false (by rw [HN.out]; exact hk') h
      have HK' : Hid (cmpW (us.getD k wz) (vs.getD k wz) = 0 → ∀ j, j < k + 1 → cmpW (us.getD j wz) (vs.getD j wz) = 0) := fun h j hj => by
        by_cases h' : j < k
        · exact HK.out j h'
        · have : j = k := by omega
          rw [this]
          exact h
      clear hd hd' HI HJ
      by_cases hc : cmpW (us.getD k wz) (vs.getD k wz) = 0
      · have HK2 := Lib.hid (HK'.out hc)
        have hcb : (cmpW (us.getD k wz) (vs.getD k wz) == 0) = true := by simpa using hc
        rw [hcb] at HS
        clear hc hcb HE HK'
        generalize us.getD k wz = x at *
        generalize vs.getD k wz = y at *
        obtain ⟨xk, xc, xs', xq, xv, xd, xx⟩ := x
        obtain ⟨yk, yc, ys, yq, yv, yd, yy⟩ := y
        simp only at e0 e1 e2 e3 e4 e5 e6 f0 f1 f2 f3 f4 f5 f6 HS
        go_wp2_with fail
        refine (HS.out _ (((Below.refl _ _).alloc (Nat.le_refl _) _).alloc (by simp) _)).mono ?_
        rintro e w2 ⟨rfl, hb⟩
        have HB2 : Hid (Below w.heap.size w w2) := below_step HB.out HB.out.size (below_step (((Below.refl _ _).alloc (Nat.le_refl _) _).alloc (by simp) _) (by simp; omega) hb)
        clear hb
        go_wp2
        exact ⟨⟨k + 1, by omega, by go_num, HK2, HB2⟩, by simp [intOf]; omega⟩
      · have HF := Lib.hid (HE.out hc)
        have hcb : (cmpW (us.getD k wz) (vs.getD k wz) == 0) = false := by simpa using hc
        rw [hcb] at HS
        clear hc hcb HE HK'
        generalize us.getD k wz = x at *
        generalize vs.getD k wz = y at *
        obtain ⟨xk, xc, xs', xq, xv, xd, xx⟩ := x
        obtain ⟨yk, yc, ys, yq, yv, yd, yy⟩ := y
        simp only at e0 e1 e2 e3 e4 e5 e6 f0 f1 f2 f3 f4 f5 f6 HS
        go_wp2_with fail
        refine (HS.out _ (((Below.refl _ _).alloc (Nat.le_refl _) _).alloc (by simp) _)).mono ?_
        rintro e w2 ⟨rfl, hb⟩
        have HB2 : Hid (Below w.heap.size w w2) := below_step HB.out HB.out.size (below_step (((Below.refl _ _).alloc (Nat.le_refl _) _).alloc (by simp) _) (by simp; omega) hb)
        clear hb
        go_wp2
        go_ret
        exact ⟨ret_bool HF.out.symm, HB2.out⟩
    · have hkk : k = n := by omega
      subst hkk
      have HF : Hid (sameB us vs = true) := same_true (by rw [HN.out, HM.out]) (fun i hi => HK.out i (by rw [← HN.out]; exact hi))
      go_wp2
      go_ret
      exact ⟨ret_bool HF.out.symm, HB.out⟩

def withinB (us vs : List Wr) : Bool := mapOkB us && (mapOkB vs && sameB (joinB us vs) vs)

set_option maxHeartbeats 4000000 in
theorem implWithin_any (a b : Option Addr) (n m cap cap' : Nat) (us vs : List Wr) (w : World) (hn : us.length = n) (hm : vs.length = m) (hn1 : n ≤ 1048576) (hm1 : m ≤ 1048576) (hx : Few us) (hy : Few vs) (hi : IsWs w a us) (hj : IsWs w b vs) :
    Calls Tryd.prog 22 #[.slice a n cap, .slice b m cap'] w fun e w' => e = .returned (.bool (withinB us vs)) ∧ Below w.heap.size w w' := by
  have HI : Hid (IsWs w a us) := hi
  have HJ : Hid (IsWs w b vs) := hj
  have HN : Hid (us.length = n) := hn
  have HM : Hid (vs.length = m) := hm
  have HX : Hid (Few us) := hx
  have HY : Hid (Few vs) := hy
  clear hi hj hn hm hx hy
  cases ha : mapOkB us
  · have HE : Hid (withinB us vs = false) := by unfold withinB; rw [ha, Bool.false_and]; exact Lib.hid rfl
    go_enter Tryd.func22, Tryd.ntmps22
    go_wp2_with fail
    refine (implMapOk_is false a n cap us ha _ HN.out hn1 HX.out HI.out).mono ?_
    rintro e w1 ⟨rfl, hb⟩
    have HB1 := Lib.hid hb
    clear hb
    go_wp2
    go_ret
    exact ⟨ret_bool HE.out.symm, HB1.out⟩
  cases hb : mapOkB vs
  · have HE : Hid (withinB us vs = false) := by unfold withinB; rw [hb, Bool.false_and, Bool.and_false]; exact Lib.hid rfl
    go_enter Tryd.func22, Tryd.ntmps22
    go_wp2_with fail
    refine (implMapOk_is true a n cap us ha _ HN.out hn1 HX.out HI.out).mono ?_
    rintro e w1 ⟨rfl, hb1⟩
    have HB1 := Lib.hid hb1
    clear hb1
    go_wp2_with fail
    refine (implMapOk_is false b m cap' vs hb _ HM.out hm1 HY.out (HJ.out.below HB1.out)).mono ?_
    rintro e w2 ⟨rfl, hb2⟩
    have HB2 : Hid (Below w.heap.size w w2) := below_step HB1.out HB1.out.size hb2
    clear hb2
    go_wp2
    go_ret
    exact ⟨ret_bool HE.out.symm, HB2.out⟩
  have HE : Hid (withinB us vs = sameB (joinB us vs) vs) := by unfold withinB; rw [ha, hb, Bool.true_and, Bool.true_and]; exact Lib.hid rfl
  have HJF := Lib.hid (joinB_few us vs)
  have HJL := Lib.hid (joinB_len us vs)
  go_enter Tryd.func22, Tryd.ntmps22
  go_wp2_with fail
  refine (implMapOk_is true a n cap us ha _ HN.out hn1 HX.out HI.out).mono ?_
  rintro e w1 ⟨rfl, hb1⟩
  have HB1 := Lib.hid hb1
  clear hb1
  go_wp2_with fail
  refine (implMapOk_is true b m cap' vs hb _ HM.out hm1 HY.out (HJ.out.below HB1.out)).mono ?_
  rintro e w2 ⟨rfl, hb2⟩
  have HB2 : Hid (Below w.heap.size w w2) := below_step HB1.out HB1.out.size hb2
  clear hb2 HB1
  go_wp2_with fail
  refine (implMapJoin_any a b n m cap cap' us vs _ HN.out HM.out hn1 hm1 HX.out HY.out (HI.out.below HB2.out) (HJ.out.below HB2.out)).mono ?_
  rintro e w3 ⟨v, es, rfl, hes, hrow, hb3⟩
  obtain ⟨ga, gc, L, rfl, hl, hg⟩ := hrow.ownA hes
  have HB3 : Hid (Below w.heap.size w w3) := below_step HB2.out HB2.out.size hb3
  have HG := Lib.hid (hg.isWs HJF.out)
  have HL := Lib.hid hl
  have hL6 : L ≤ 6 := by rw [← hl]; exact HJL.out
  clear hb3 hg hl hes hrow HB2
  go_wp2_with fail
  refine (equalFunc_any ga b L m gc cap' (joinB us vs) vs _ HL.out HM.out (by omega) hm1 HJF.out HY.out HG.out (HJ.out.below HB3.out)).mono ?_
  rintro e w4 ⟨rfl, hb4⟩
  have HB4 : Hid (Below w.heap.size w w4) := below_step HB3.out HB3.out.size hb4
  clear hb4
  rw [← HE.out]
  go_wp2
  go_ret
  exact ⟨rfl, HB4.out⟩

end Go.Proofs.YtidpcjcnhklmpacDoor

/- The contract of the laws' sameWrites. -/
namespace Go.Proofs.YtidpcjcnhklmpacDoor
open Go.ChangeShapes Go.WideShapes Go.ChangeAt Go.RowKit Go.Joins
attribute [local go_sem ↓] Go.wp_at_zero Go.wp_at_succ

set_option maxHeartbeats 4000000 in
theorem sameWrites_gen (a b : Option Addr) (n m cap cap' : Nat) (us vs : List Wr) (w : World) (hn : us.length = n) (hm : vs.length = m) (hn1 : n ≤ 1048576) (hm1 : m ≤ 1048576) (hx : Few us) (hy : Few vs) (hi : IsWs w a us) (hj : IsWs w b vs) :
    Calls Tryd.prog 17 #[.slice a n cap, .slice b m cap'] w fun e w' => e = .returned (.bool (sameB us vs)) ∧ Below w.heap.size w w' := by
  have HI : Hid (IsWs w a us) := hi
  have HJ : Hid (IsWs w b vs) := hj
  have HN : Hid (us.length = n) := hn
  have HM : Hid (vs.length = m) := hm
  have HX : Hid (Few us) := hx
  have HY : Hid (Few vs) := hy
  clear hi hj hn hm hx hy
  by_cases hnm : n = m
  case neg =>
    have HF : Hid (sameB us vs = false) := same_len (by rw [HN.out, HM.out]; exact hnm)
    have hb : ((n : Int) != (m : Int)) = true := by rw [bne_iff_ne]; omega
    go_enter Tryd.func17, Tryd.ntmps17
    go_wp2
    go_ret
    exact ⟨ret_bool HF.out.symm, Below.refl _ _⟩
  subst hnm
  go_enter Tryd.func17, Tryd.ntmps17
  go_wp2
  go_loopw [5] (fun i wr => ∃ k : Nat, k ≤ n ∧ i = .int .i64 k ∧ Hid (∀ j, j < k → cmpW (us.getD j wz) (vs.getD j wz) = 0) ∧ Hid (Below w.heap.size w wr)) (fun i _ => n - (intOf i).toNat)
  case atStart => exact ⟨0, Nat.zero_le _, rfl, fun j hj => absurd hj (Nat.not_lt_zero j), Below.refl _ _⟩
  case round =>
    obtain ⟨k, hk, rfl, HK, HB⟩ := hrel
    by_cases hk' : k < n
    · obtain ⟨b1, o1, ad, cp, rfl, hz, ⟨e0, e1, e2, e3, e4, e5, e6⟩, hd⟩ := HI.out.at HB.out HN.out hk'
      obtain ⟨b2, o2, ad', cp', rfl, hz', ⟨f0, f1, f2, f3, f4, f5, f6⟩, hd'⟩ := HJ.out.at HB.out HM.out hk'
      have i1 : (0 : Int) ≤ (k : Int) := by omega
      have i2 : (k : Int) < (n : Int) := by omega
      have HC : Hid (∀ p : Aft wr.heap.size wr, Calls Tryd.prog 52 #[wrOf (us.getD k wz) ad cp, wrOf (vs.getD k wz) ad' cp'] p.now fun e w' => e = .returned (.int .i64 (cmpW (us.getD k wz) (vs.getD k wz))) ∧ Below p.now.heap.size p.now w') := fun p =>
        specWriteCmp_gen _ _ _ _ _ _ _ (us.getD k wz).xs _ _ _ _ _ _ _ _ _ (vs.getD k wz).xs _ _ _ rfl rfl (HX.out k (by rw [HN.out]; exact hk')) (HY.out k (by rw [HM.out]; exact hk')) (hd.below p.below) (hd'.below p.below)
      have HE : Hid (cmpW (us.getD k wz) (vs.getD k wz) ≠ 0 → sameB us vs = false) := fun h => same_false (by rw [HN.out]; exact hk') h
      have HK' : Hid (cmpW (us.getD k wz) (vs.getD k wz) = 0 → ∀ j, j < k + 1 → cmpW (us.getD j wz) (vs.getD j wz) = 0) := fun h j hj => by
        by_cases h' : j < k
        · exact HK.out j h'
        · have : j = k := by omega
          rw [this]
          exact h
      clear hd hd' HI HJ
      by_cases hc : cmpW (us.getD k wz) (vs.getD k wz) = 0
      · have HK2 := Lib.hid (HK'.out hc)
        rw [hc] at HC
        clear hc HE HK'
        generalize us.getD k wz = x at *
        generalize vs.getD k wz = y at *
        obtain ⟨xk, xc, xs', xq, xv, xd, xx⟩ := x
        obtain ⟨yk, yc, ys, yq, yv, yd, yy⟩ := y
        simp only at e0 e1 e2 e3 e4 e5 e6 f0 f1 f2 f3 f4 f5 f6 HC
        go_wp2_with fail
        have ge0 := aft_cell hz e0
        have ge1 := aft_cell hz e1
        have ge2 := aft_cell hz e2
        have ge3 := aft_cell hz e3
        have ge4 := aft_cell hz e4
        have ge5 := aft_cell hz e5
        have ge6 := aft_cell hz e6
        have gf0 := aft_cell hz' f0
        have gf1 := aft_cell hz' f1
        have gf2 := aft_cell hz' f2
        have gf3 := aft_cell hz' f3
        have gf4 := aft_cell hz' f4
        have gf5 := aft_cell hz' f5
        have gf6 := aft_cell hz' f6
        have ne := aft_some wr
        refine wp_region_aft (by kernel_rfl) (by kernel_rfl) ?_
        repeat (first | go_big_quiet_step (first | (go_at_call 52; exact aft_of (HC.out _))))
        refine wpQuiet_nil ?_
        intro wq hq
        have HBQ : Hid (Below w.heap.size w wq) := below_step HB.out HB.out.size hq
        clear hq
        go_wp2
        exact ⟨⟨k + 1, by omega, by go_num, HK2, HBQ⟩, by simp [intOf]; omega⟩
      · have HF := Lib.hid (HE.out hc)
        have hcb : (cmpW (us.getD k wz) (vs.getD k wz) != 0) = true := by rw [bne_iff_ne]; exact hc
        clear hc HE HK'
        generalize cmpW (us.getD k wz) (vs.getD k wz) = z at *
        generalize us.getD k wz = x at *
        generalize vs.getD k wz = y at *
        obtain ⟨xk, xc, xs', xq, xv, xd, xx⟩ := x
        obtain ⟨yk, yc, ys, yq, yv, yd, yy⟩ := y
        simp only at e0 e1 e2 e3 e4 e5 e6 f0 f1 f2 f3 f4 f5 f6 HC
        go_wp2_with fail
        have ge0 := aft_cell hz e0
        have ge1 := aft_cell hz e1
        have ge2 := aft_cell hz e2
        have ge3 := aft_cell hz e3
        have ge4 := aft_cell hz e4
        have ge5 := aft_cell hz e5
        have ge6 := aft_cell hz e6
        have gf0 := aft_cell hz' f0
        have gf1 := aft_cell hz' f1
        have gf2 := aft_cell hz' f2
        have gf3 := aft_cell hz' f3
        have gf4 := aft_cell hz' f4
        have gf5 := aft_cell hz' f5
        have gf6 := aft_cell hz' f6
        have ne := aft_some wr
        refine wp_region_aft (by kernel_rfl) (by kernel_rfl) ?_
        repeat (first | go_big_quiet_step (first | (go_at_call 52; exact aft_of (HC.out _))))
        refine wpQuiet_nil ?_
        intro wq hq
        have HBQ : Hid (Below w.heap.size w wq) := below_step HB.out HB.out.size hq
        clear hq
        go_wp2
        go_ret
        exact ⟨ret_bool HF.out.symm, HBQ.out⟩
    · have hkk : k = n := by omega
      subst hkk
      have HF : Hid (sameB us vs = true) := same_true (by rw [HN.out, HM.out]) (fun i hi => HK.out i (by rw [← HN.out]; exact hi))
      go_wp2
      go_ret
      exact ⟨ret_bool HF.out.symm, HB.out⟩

end Go.Proofs.YtidpcjcnhklmpacDoor
