/- Contracts of impl.treeOfMap and impl.TreeOf. -/
import Derived.Test.YtlbcpppmpbbkdalDoorTreeS
import Derived.Test.YtlbcpppmpbbkdalDoorApart
namespace Go.Proofs.YtlbcpppmpbbkdalDoor
open Go.ChangeShapes Go.WideShapes Go.ChangeAt Go.RowKit Go.Joins
attribute [local go_sem ↓] Go.wp_at_zero Go.wp_at_succ

theorem zero15 (F : Nat → Int) (i : Nat) (hi : i < 15) : (#[.int .i64 0, .int .i64 0, .int .i64 0, .int .i64 0, .int .i64 0, .int .i64 0, .int .i64 0, .int .i64 0, .int .i64 0, .int .i64 0, .int .i64 0, .int .i64 0, .int .i64 0, .int .i64 0, .int .i64 0] : Array Value)[i]? = some (fillA F 0 i) := by
  have e : fillA F 0 i = .int .i64 0 := by unfold fillA; rw [if_neg (by omega)]
  have hr : (#[.int .i64 0, .int .i64 0, .int .i64 0, .int .i64 0, .int .i64 0, .int .i64 0, .int .i64 0, .int .i64 0, .int .i64 0, .int .i64 0, .int .i64 0, .int .i64 0, .int .i64 0, .int .i64 0, .int .i64 0] : Array Value) = Array.replicate 15 (.int .i64 0) := rfl
  rw [e, hr]
  simp [hi]

/-- A row of fifteen numbers, as an array's cells. -/
theorem arr_of_row {w : World} {b t : Nat} {F : Nat → Int} (h : w.rowIs b t 15 (fillB F 0)) : ∃ cs, w.heap[b]? = some (.cells cs t (0, 0)) ∧ IsArr cs (treeL F) := by
  obtain ⟨c, hc, h1, h2⟩ := h
  refine ⟨c, hc, ?_, treeL_len F⟩
  apply Array.ext_getElem?
  intro i
  by_cases hi : i < 15
  · rw [h2 i hi, fillB, if_pos (Nat.zero_le _), ← treeL_get F hi]
    have hi' : i < (treeL F).length := by rw [treeL_len]; exact hi
    simp [intV, List.getD, hi']
  · have e1 : c[i]? = none := by simp; omega
    have e2 : (treeL F).length ≤ i := by rw [treeL_len]; omega
    rw [e1]
    simp [e2]

theorem below_setRow {w W : World} {B g : Nat} (h : Below B w W) (hg : B ≤ g) (cs : Array Value) : Below B w (W.setRow g cs) :=
  ⟨h.os, h.tape, h.output, by simpa [World.setRow] using h.size, fun j hj => by
    have hne : ¬ g = j := by omega
    show (W.heap.modify g _)[j]? = _
    rw [Array.getElem?_modify, if_neg hne]
    exact h.block j hj⟩

theorem setRow_block {W : World} {g t : Nat} {old : Array Value} (h : W.heap[g]? = some (.cells old t (0, 0))) (cs : Array Value) : (W.setRow g cs).heap[g]? = some (.cells cs t (0, 0)) := by
  simp [World.setRow, Array.getElem?_modify, h]

set_option maxRecDepth 100000 in
set_option maxHeartbeats 4000000 in
theorem treeOfMap_any (a : Option Addr) (n cap : Nat) (ws : List Wr) (w : World) (hn : ws.length = n) (hm : n ≤ 1048576) (hx : Few ws) (hh : IsWs w a ws) (ht : Tab w) :
    Calls Tryd.prog 24 #[.slice a n cap] w fun e w' => ∃ cs, e = .returned (.agg cs) ∧ IsArr cs (treeW ws) ∧ Below w.heap.size w w' := by
  have hlt : 0 < w.heap.size := ht.lt
  have HT := Lib.hid ht
  have HLF : Hid (∀ W, Below w.heap.size w W → ∀ k : Nat, Calls Tryd.prog 41 #[.slice a n cap, .int .i64 (k : Int)] W fun e w' => e = .returned (.int .i64 (leavesW ws k)) ∧ Below W.heap.size W w') := fun W hW k => implLeaf_any a n cap k ws W hn hm hx (hh.below hW) (ht.below hW hlt)
  clear hn hx hh ht
  have HE : Hid (treeW ws = treeL (leavesW ws)) := rfl
  have HBD := Lib.hid (treeW_bd ws)
  generalize leavesW ws = F at *
  go_enter Tryd.func24, Tryd.ntmps24
  go_wp2
  have HZ0 : Hid (((w.alloc (.cells #[.int .i64 0, .int .i64 0, .int .i64 0, .int .i64 0, .int .i64 0, .int .i64 0, .int .i64 0, .int .i64 0, .int .i64 0, .int .i64 0, .int .i64 0, .int .i64 0, .int .i64 0, .int .i64 0, .int .i64 0] 51)).alloc (.cells #[.int .i64 0, .int .i64 0, .int .i64 0, .int .i64 0, .int .i64 0, .int .i64 0, .int .i64 0, .int .i64 0, .int .i64 0, .int .i64 0, .int .i64 0, .int .i64 0, .int .i64 0, .int .i64 0, .int .i64 0] 51)).rowIs w.heap.size 51 15 (fillA F 0)) := ⟨_, heap_alloc2_old w _ _, rfl, zero15 F⟩
  have HR0 : Hid (((w.alloc (.cells #[.int .i64 0, .int .i64 0, .int .i64 0, .int .i64 0, .int .i64 0, .int .i64 0, .int .i64 0, .int .i64 0, .int .i64 0, .int .i64 0, .int .i64 0, .int .i64 0, .int .i64 0, .int .i64 0, .int .i64 0] 51)).alloc (.cells #[.int .i64 0, .int .i64 0, .int .i64 0, .int .i64 0, .int .i64 0, .int .i64 0, .int .i64 0, .int .i64 0, .int .i64 0, .int .i64 0, .int .i64 0, .int .i64 0, .int .i64 0, .int .i64 0, .int .i64 0] 51)).rowIs (w.heap.size + 1) 51 15 (fillA F 0)) := ⟨_, heap_alloc2_new w _ _, rfl, zero15 F⟩
  have HB0 : Hid (Below w.heap.size w ((w.alloc (.cells #[.int .i64 0, .int .i64 0, .int .i64 0, .int .i64 0, .int .i64 0, .int .i64 0, .int .i64 0, .int .i64 0, .int .i64 0, .int .i64 0, .int .i64 0, .int .i64 0, .int .i64 0, .int .i64 0, .int .i64 0] 51)).alloc (.cells #[.int .i64 0, .int .i64 0, .int .i64 0, .int .i64 0, .int .i64 0, .int .i64 0, .int .i64 0, .int .i64 0, .int .i64 0, .int .i64 0, .int .i64 0, .int .i64 0, .int .i64 0, .int .i64 0, .int .i64 0] 51))) := ((Below.refl _ _).alloc (Nat.le_refl _) _).alloc (by simp) _
  generalize (w.alloc (.cells #[.int .i64 0, .int .i64 0, .int .i64 0, .int .i64 0, .int .i64 0, .int .i64 0, .int .i64 0, .int .i64 0, .int .i64 0, .int .i64 0, .int .i64 0, .int .i64 0, .int .i64 0, .int .i64 0, .int .i64 0] 51)).alloc (.cells #[.int .i64 0, .int .i64 0, .int .i64 0, .int .i64 0, .int .i64 0, .int .i64 0, .int .i64 0, .int .i64 0, .int .i64 0, .int .i64 0, .int .i64 0, .int .i64 0, .int .i64 0, .int .i64 0, .int .i64 0] 51) = W0 at *
  go_loopw [6] (fun i wr => ∃ k : Nat, k ≤ 8 ∧ i = .int .i64 k ∧ Hid (wr.rowIs w.heap.size 51 15 (fillA F 0)) ∧ Hid (wr.rowIs (w.heap.size + 1) 51 15 (fillA F k)) ∧ Hid (Below w.heap.size w wr)) (fun i _ => 8 - (intOf i).toNat)
  case atStart => exact ⟨0, Nat.zero_le _, rfl, HZ0, HR0, HB0⟩
  case round =>
    clear HZ0 HR0 HB0
    obtain ⟨k, hk, rfl, HZ, HR, HB⟩ := hrel
    by_cases hk' : k < 8
    · have i1 : (0 : Int) ≤ (k : Int) := by omega
      have i2 : (k : Int) < 8 := by omega
      have e7 : (7 + (k : Int)).toNat = 7 + k := by omega
      have HS : Hid (∀ w2 : World, w2.rowIs (w.heap.size + 1) 51 15 (fillA F k) → (w2.setCell ⟨w.heap.size + 1, 7 + k, none⟩ (.int .i64 (F k))).rowIs (w.heap.size + 1) 51 15 (fillA F (k + 1))) := fun w2 h2 => (h2.set _ _).congr (fun j _ => fillA_step F k j)
      go_wp2_with fail
      refine (HLF.out _ HB.out k).mono ?_
      rintro e w2 ⟨rfl, hb⟩
      have HZ2 := Lib.hid (rowIs_below HZ.out hb)
      have HR2 := Lib.hid (rowIs_below HR.out hb)
      have HB2 := Lib.hid (below_step HB.out HB.out.size hb)
      clear hb HZ HR HB
      have c0 := HR2.out.cell (i := 7 + k) (by omega)
      have fz := HR2.out.frozen
      generalize F k = z at *
      go_wp2
      exact ⟨⟨k + 1, by omega, by go_num, HZ2.out.setOther (a := ⟨w.heap.size + 1, 7 + k, none⟩) (by simp) _, HS.out _ HR2.out, HB2.out.setCell (p := ⟨w.heap.size + 1, 7 + k, none⟩) (Nat.le_succ _) _⟩, by simp [intOf]; omega⟩
    · have hkk : k = 8 := by omega
      subst hkk
      have HR7 : Hid (wr.rowIs (w.heap.size + 1) 51 15 (fillB F 7)) := HR.out.congr (fun j hj => fillB_start F j hj)
      clear HR HLF
      have e8 : ((8 : Nat) : Int) = 8 := rfl
      rw [e8]
      clear e8
      go_wp2
      go_loopw [5] (fun i wq => ∃ p : Nat, p ≤ 7 ∧ i = .int .i64 ((p : Int) - 1) ∧ Hid (wq.rowIs w.heap.size 51 15 (fillA F 0)) ∧ Hid (wq.rowIs (w.heap.size + 1) 51 15 (fillB F p)) ∧ Hid (Below w.heap.size w wq)) (fun i _ => (intOf i + 1).toNat)
      case atStart => exact ⟨7, by omega, rfl, HZ, HR7, HB⟩
      case round =>
        clear HR7 HB HZ
        obtain ⟨p, hp, rfl, HZ, HR, HB⟩ := hrel
        by_cases hp' : p = 0
        · subst hp'
          obtain ⟨cs, hg, hA⟩ := arr_of_row HR.out
          obtain ⟨old, ho, ho2, -⟩ := HZ.out
          have s0 : (Tryd.prog.info? 51).map (·.size) = some cs.size := by rw [infoTree, hA.size]
          have s1 : old.size = cs.size := by rw [ho2, hA.size]
          have s2 : cs.all (·.oneCell') = true := by rw [hA.1, Array.all_eq_true_iff_forall_mem]; intro v hv; exact intV_one _ v (by simpa using hv)
          have HA := Lib.hid hA
          clear hA ho2
          go_wp2_with (first | refine wpList_load_row rfl 51 _ rfl (w.heap.size + 1) rfl _ cs _ _ hg under_tree rfl s0 ?_ | refine wpList_store_row rfl 51 _ _ rfl w.heap.size cs rfl rfl _ old ho s0 s1 s2 ?_)
          exact bodyPost_ret (v := .agg cs) (results_cell_row Tryd.results24 _ _ w.heap.size _ cs _ _ rfl (setRow_block ho cs) under_tree rfl s0) rfl ⟨cs, rfl, by rw [HE.out]; exact HA.out, below_setRow HB.out (Nat.le_refl _) cs⟩
        · obtain ⟨q, rfl⟩ : ∃ q, p = q + 1 := ⟨p - 1, by omega⟩
          have eq : ((q + 1 : Nat) : Int) - 1 = (q : Int) := by omega
          rw [eq]
          have i1 : (0 : Int) ≤ (q : Int) := by omega
          have i2 : (q : Int) < 7 := by omega
          have i5 : (q : Int) < 15 := by omega
          have m0 : IntKind.i64.wrap (2 * (q : Int)) = 2 * (q : Int) := wrap_small _ (by omega) (by omega)
          have m1 : IntKind.i64.wrap (2 * (q : Int) + 1) = 2 * (q : Int) + 1 := wrap_small _ (by omega) (by omega)
          have m2 : IntKind.i64.wrap (2 * (q : Int) + 2) = 2 * (q : Int) + 2 := wrap_small _ (by omega) (by omega)
          have n1 : (2 * (q : Int) + 1).toNat = 2 * q + 1 := by omega
          have n2 : (2 * (q : Int) + 2).toNat = 2 * q + 2 := by omega
          have i3 : (0 : Int) ≤ 2 * (q : Int) + 1 ∧ 2 * (q : Int) + 1 < 15 := by omega
          have i4 : (0 : Int) ≤ 2 * (q : Int) + 2 ∧ 2 * (q : Int) + 2 < 15 := by omega
          have b1 := HBD.out (2 * q + 1)
          have b2 := HBD.out (2 * q + 2)
          have HN : Hid (nodeH (tr F (2 * q + 1)) (tr F (2 * q + 2)) = tr F q) := (tr_node F (by omega)).symm
          have HC : Hid (∀ w', Below wr.heap.size wr w' → w'.cell? ⟨w.heap.size + 1, 2 * q + 1, none⟩ = some (.int .i64 (tr F (2 * q + 1))) ∧ w'.cell? ⟨w.heap.size + 1, 2 * q + 2, none⟩ = some (.int .i64 (tr F (2 * q + 2)))) := fun w' hb => by
            have hr := rowIs_below HR.out hb
            have r1 := hr.cell (i := 2 * q + 1) (by omega)
            have r2 := hr.cell (i := 2 * q + 2) (by omega)
            rw [fillB, if_pos (by omega)] at r1 r2
            exact ⟨r1, r2⟩
          have HS : Hid (∀ w2 : World, w2.rowIs (w.heap.size + 1) 51 15 (fillB F (q + 1)) → (w2.setCell ⟨w.heap.size + 1, q, none⟩ (.int .i64 (tr F q))).rowIs (w.heap.size + 1) 51 15 (fillB F q)) := fun w2 h2 => (h2.set _ _).congr (fun j _ => fillB_step F q j)
          generalize tr F (2 * q + 1) = x at *
          generalize tr F (2 * q + 2) = y at *
          generalize tr F q = z at *
          have z1 : (⟨(Lib.itoa x).toArray⟩ : ByteArray).size ≤ 21 := by
            have := Lib.itoa_length_le x (by omega) (by omega)
            simpa [ByteArray.size] using this
          have z2 : (⟨(Lib.itoa y).toArray⟩ : ByteArray).size ≤ 21 := by
            have := Lib.itoa_length_le y (by omega) (by omega)
            simpa [ByteArray.size] using this
          have HTX := Lib.hid (node_text x y)
          have HTB : Hid (∀ w', Below wr.heap.size wr w' → Tab w') := fun w' hb => HT.out.below (below_step HB.out HB.out.size hb) hlt
          have HNX : Hid (∀ w', Tab w' → Calls Tryd.prog 43 #[.int .i64 x] w' fun e w'' => e = .returned (.string ⟨(Lib.itoa x).toArray⟩) ∧ Below w'.heap.size w' w'') := fun w' ht => implNum x w' (by omega) (by omega) ht
          have HNY : Hid (∀ w', Tab w' → Calls Tryd.prog 43 #[.int .i64 y] w' fun e w'' => e = .returned (.string ⟨(Lib.itoa y).toArray⟩) ∧ Below w'.heap.size w' w'') := fun w' ht => implNum y w' (by omega) (by omega) ht
          have HHS : Hid (∀ (t : ByteArray) (w' : World), t = (⟨(Lib.itoa x).toArray⟩ : ByteArray) ++ ⟨#[32]⟩ ++ ⟨(Lib.itoa y).toArray⟩ → t.size ≤ 100 → Calls Tryd.prog 42 #[.string t] w' fun e w'' => e = .returned (.int .i64 z) ∧ w'' = w') := fun t w' ht hz => by
            have := implHash_any t w' (by omega)
            have e : hashL t.data.toList = z := by rw [ht, HTX.out, str_bytes, ← HN.out]; rfl
            rwa [e] at this
          generalize (⟨(Lib.itoa x).toArray⟩ : ByteArray) = tx at *
          generalize (⟨(Lib.itoa y).toArray⟩ : ByteArray) = ty at *
          have z3 : (tx ++ ⟨#[32]⟩).size ≤ 22 := by
            rw [ByteArray.size_append]
            have : (⟨#[32]⟩ : ByteArray).size = 1 := rfl
            omega
          have z4 : (tx ++ ⟨#[32]⟩ ++ ty).size ≤ 43 := by
            rw [ByteArray.size_append]
            omega
          go_wp2_with fail
          refine wp_region_slots 17 [[(5, false)], [(5, false)], [(21, true)], [(22, true)], [(3, false), (23, true)], [(24, true)], [(25, true)], [(26, true)], [(5, false)], [(28, true)], [(29, true)], [(3, false), (30, true)], [(31, true)], [(32, true)], [(27, true), (33, true)], [(34, true)], [(3, false), (20, true)]] (fun w' => Below wr.heap.size wr w') (fun w w' => Below w.heap.size w w') (by kernel_rfl) (by kernel_rfl) (by rfl) ((Below.refl _ _).drew) (fun _ _ h hb => below_step h h.size hb) ?_
          iterate 6 (apply slot_eq; · (intro ρ w' ⟨p1, p2, p3⟩ hbl hn; obtain ⟨c1, c2⟩ := HC.out w' hbl; simp at hn; go_simp; exact ⟨Below.refl _ _, rfl⟩))
          apply slot_eq
          · intro ρ w' ⟨p1, p2, p3⟩ hbl hn
            simp at hn
            go_simp
            exact got_call (HNX.out w' (HTB.out w' hbl)) fun e w'' ⟨he, hb⟩ => ⟨_, he, hb, rfl⟩
          apply slot_eq
          · intro ρ w' ⟨p1, p2, p3⟩ hbl hn
            simp at hn
            go_simp
            rw [if_neg (by omega)]
            exact ⟨Below.refl _ _, rfl⟩
          iterate 5 (apply slot_eq; · (intro ρ w' ⟨p1, p2, p3⟩ hbl hn; obtain ⟨c1, c2⟩ := HC.out w' hbl; simp at hn; go_simp; exact ⟨Below.refl _ _, rfl⟩))
          apply slot_eq
          · intro ρ w' ⟨p1, p2, p3⟩ hbl hn
            simp at hn
            go_simp
            exact got_call (HNY.out w' (HTB.out w' hbl)) fun e w'' ⟨he, hb⟩ => ⟨_, he, hb, rfl⟩
          apply slot_eq
          · intro ρ w' ⟨p1, p2, p3⟩ hbl hn
            simp at hn
            obtain ⟨e1, e2⟩ := hn
            go_simp
            rw [if_neg (by omega)]
            exact ⟨Below.refl _ _, rfl⟩
          apply slot_eq
          · intro ρ w' ⟨p1, p2, p3⟩ hbl hn
            simp at hn
            go_simp
            exact got_call (HHS.out _ w' rfl (by omega)) fun e w'' ⟨he, hb⟩ => ⟨_, he, by rw [hb]; exact Below.refl _ _, rfl⟩
          apply slot_eq
          · intro ρ w' ⟨p1, p2, p3⟩ hbl hn
            simp at hn
            obtain ⟨e1, e2⟩ := hn
            go_simp
            exact ⟨Below.refl _ _, rfl⟩
          refine slot_end ?_
          intro vs w3 hS hF
          simp at hF
          obtain ⟨h36, h35, -⟩ := hF
          have HZ3 := Lib.hid (rowIs_below HZ.out hS)
          have HR3 := Lib.hid (rowIs_below HR.out hS)
          have HB3 := Lib.hid (below_step HB.out HB.out.size hS)
          clear hS
          have c0 := HR3.out.cell (i := q) (by omega)
          have fz := HR3.out.frozen
          simp only [List.take_succ_cons, List.take_zero, List.drop_succ_cons, List.drop_zero, putAll, h36, h35]
          clear h36 h35
          go_wp2
          exact ⟨⟨q, by omega, by go_num, HZ3.out.setOther (a := ⟨w.heap.size + 1, q, none⟩) (by simp) _, HS.out _ HR3.out, HB3.out.setCell (p := ⟨w.heap.size + 1, q, none⟩) (Nat.le_succ _) _⟩, by simp [intOf]⟩

set_option maxRecDepth 100000 in
set_option maxHeartbeats 4000000 in
theorem implTree_any (a : Option Addr) (n cap : Nat) (ws : List Wr) (w : World) (hn : ws.length = n) (hm : n ≤ 1048576) (hx : Few ws) (hh : IsWs w a ws) (ht : Tab w) :
    Calls Tryd.prog 8 #[.slice a n cap] w fun e w' => ∃ ad cp, e = .returned (.slice ad (treeB ws).length cp) ∧ OwnI w' w.heap.size w'.heap.size ad (treeB ws) ∧ Below w.heap.size w w' := by
  have hlt : 0 < w.heap.size := ht.lt
  have HC : Hid (Calls Tryd.prog 23 #[.slice a n cap] w fun e w' => e = .returned (.bool (mapOkB ws)) ∧ Below w.heap.size w w') := implMapOk_any a n cap ws w hn hm hx hh
  have HTM : Hid (∀ W, Below w.heap.size w W → Calls Tryd.prog 24 #[.slice a n cap] W fun e w' => ∃ cs, e = .returned (.agg cs) ∧ IsArr cs (treeW ws) ∧ Below W.heap.size W w') := fun W hW => treeOfMap_any a n cap ws W hn hm hx (hh.below hW) (ht.below hW hlt)
  clear hn hx hh ht
  cases hok : mapOkB ws
  · have HE : Hid (treeB ws = []) := by show _ = _; unfold treeB; rw [hok]; rfl
    rw [hok] at HC
    clear hok HTM
    go_enter Tryd.func8, Tryd.ntmps8
    go_wp2_with fail
    refine HC.out.mono ?_
    rintro e w1 ⟨rfl, hb⟩
    have HB1 := Lib.hid hb
    clear hb
    go_wp2
    go_ret
    exact ⟨_, _, by rw [HE.out]; rfl, by rw [HE.out]; exact .inl rfl, HB1.out⟩
  have HE : Hid (treeB ws = treeW ws) := by show _ = _; unfold treeB; rw [hok]; rfl
  rw [hok] at HC
  clear hok
  go_enter Tryd.func8, Tryd.ntmps8
  go_wp2_with fail
  refine HC.out.mono ?_
  rintro e w1 ⟨rfl, hb⟩
  have HB1 := Lib.hid hb
  clear hb HC
  go_wp2_with fail
  refine (HTM.out _ HB1.out).mono ?_
  rintro e w2 ⟨cs, rfl, hA, hb⟩
  have HB2 := Lib.hid (below_step HB1.out HB1.out.size hb)
  have HA := Lib.hid hA
  clear hb hA HTM HB1
  have s0 : (Tryd.prog.info? 51).map (·.size) = some cs.size := by rw [infoTree, HA.out.size]
  have s2 : cs.all (·.oneCell') = true := by rw [HA.out.1, Array.all_eq_true_iff_forall_mem]; intro v hv; exact intV_one _ v (by simpa using hv)
  have s1 : (#[.int .i64 0, .int .i64 0, .int .i64 0, .int .i64 0, .int .i64 0, .int .i64 0, .int .i64 0, .int .i64 0, .int .i64 0, .int .i64 0, .int .i64 0, .int .i64 0, .int .i64 0, .int .i64 0, .int .i64 0] : Array Value).size = cs.size := by rw [HA.out.size]; rfl
  have hg := heap_alloc_new w2 (.cells #[.int .i64 0, .int .i64 0, .int .i64 0, .int .i64 0, .int .i64 0, .int .i64 0, .int .i64 0, .int .i64 0, .int .i64 0, .int .i64 0, .int .i64 0, .int .i64 0, .int .i64 0, .int .i64 0, .int .i64 0] 51 (0, 0))
  have hsz : w.heap.size ≤ w2.heap.size := HB2.out.size
  have HR : Hid (OwnI ((w2.alloc (.cells #[.int .i64 0, .int .i64 0, .int .i64 0, .int .i64 0, .int .i64 0, .int .i64 0, .int .i64 0, .int .i64 0, .int .i64 0, .int .i64 0, .int .i64 0, .int .i64 0, .int .i64 0, .int .i64 0, .int .i64 0] 51)).setRow w2.heap.size cs) w.heap.size ((w2.alloc (.cells #[.int .i64 0, .int .i64 0, .int .i64 0, .int .i64 0, .int .i64 0, .int .i64 0, .int .i64 0, .int .i64 0, .int .i64 0, .int .i64 0, .int .i64 0, .int .i64 0, .int .i64 0, .int .i64 0, .int .i64 0] 51)).setRow w2.heap.size cs).heap.size (some ⟨w2.heap.size, 0, none⟩) (treeW ws)) := by
    have hb := setRow_block hg cs
    have hl : w2.heap.size < ((w2.alloc (.cells #[.int .i64 0, .int .i64 0, .int .i64 0, .int .i64 0, .int .i64 0, .int .i64 0, .int .i64 0, .int .i64 0, .int .i64 0, .int .i64 0, .int .i64 0, .int .i64 0, .int .i64 0, .int .i64 0, .int .i64 0] 51)).setRow w2.heap.size cs).heap.size := (Array.getElem?_eq_some_iff.1 hb).1
    refine .inr ⟨w2.heap.size, rfl, hsz, hl, hl, fun i hi => ?_, fun o => frozen_of_row _ _ o cs _ hb⟩
    rw [cell_of_row _ _ i cs _ _ hb]
    exact HA.out.get (by rw [← HA.out.2]; exact hi)
  have HB3 : Hid (Below w.heap.size w ((w2.alloc (.cells #[.int .i64 0, .int .i64 0, .int .i64 0, .int .i64 0, .int .i64 0, .int .i64 0, .int .i64 0, .int .i64 0, .int .i64 0, .int .i64 0, .int .i64 0, .int .i64 0, .int .i64 0, .int .i64 0, .int .i64 0] 51)).setRow w2.heap.size cs)) := below_setRow (HB2.out.alloc hsz _) hsz cs
  have HL : Hid ((treeW ws).length = 15) := HA.out.2
  go_wp2_with (refine wpList_store_row rfl 51 _ _ rfl w2.heap.size cs rfl rfl _ _ hg s0 s1 s2 ?_)
  go_ret
  exact ⟨_, _, by rw [HE.out, HL.out]; rfl, by rw [HE.out]; exact HR.out, HB3.out⟩

end Go.Proofs.YtlbcpppmpbbkdalDoor
