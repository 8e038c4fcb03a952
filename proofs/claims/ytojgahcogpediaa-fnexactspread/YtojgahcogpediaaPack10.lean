import Derived.Test.YtojgahcogpediaaPack9
import Derived.Deep.OwnRows
import Derived.Test.YtojgahcogpediaaPack8
import Derived.Test.YtojgahcogpediaaPack6
import Derived.Test.YtojgahcogpediaaPack1
/- Marks of maps: the contracts of markRepS, heldRepS. -/
namespace Go.Proofs.Ytojgahcogpediaa
open Go.ChangeShapes Go.WideShapes Go.ChangeAt Go.RowKit Go.Joins
attribute [local go_sem ↓] Go.wp_at_zero Go.wp_at_succ

set_option maxRecDepth 100000 in
set_option maxHeartbeats 4000000 in
theorem markRepS_any (lo hi n cap : Nat) (a : Option Addr) (k : Int) (es : List Bat) (w : World) (hn : es.length = n) (hm : n ≤ 1048576) (ht : TameB es k) (ho : OwnB w lo hi a es) :
    Calls Try.prog 55 #[.slice a n cap, .int .i64 k] w fun e w' => e = .returned (.int .i64 (markKB es k)) ∧ MarkedB w' a es k ∧ Only (Span lo hi) w w' := by
  by_cases hz : n = 0
  · subst hz
    have he : es = [] := List.length_eq_zero_iff.1 hn
    subst he
    clear ho hn ht
    go_enter Try.func55, Try.ntmps55
    go_wp2
    go_loopw [1, 5] (fun l i wr => i = .int .i64 0 ∧ l = .int .i64 k ∧ wr = w) (fun _ _ _ => 0)
    case atStart => exact ⟨rfl, rfl, rfl⟩
    case round =>
      obtain ⟨rfl, rfl, rfl⟩ := hrel
      go_wp2
      go_ret
      exact ⟨rfl, .inl rfl, Only.refl _ _⟩
  · obtain ⟨b, rfl, hlo, hhi, hlt, hat, hown, hpw⟩ : ∃ b, a = some ⟨b, 0, none⟩ ∧ lo ≤ b ∧ b < hi ∧ b < w.heap.size ∧ BatsAt w b es ∧ (∀ i, i < es.length → lo ≤ (es.getD i btz).lo ∧ (es.getD i btz).hi ≤ hi ∧ (b < (es.getD i btz).lo ∨ (es.getD i btz).hi ≤ b) ∧ OwnA w (es.getD i btz).lo (es.getD i btz).hi (es.getD i btz).a (es.getD i btz).ws (es.getD i btz).γ) ∧ ∀ i j, i < j → j < es.length → (es.getD i btz).hi ≤ (es.getD j btz).lo := by
      rcases ho with h | h
      · rw [h] at hn
        exact absurd hn.symm hz
      · exact h
    have HAT := Lib.hid hat
    have HOW := Lib.hid hown
    have HPW := Lib.hid hpw
    have HT := Lib.hid ht
    have HN := Lib.hid hn
    clear hat hown hpw ht hn ho
    go_enter Try.func55, Try.ntmps55
    go_wp2
    go_loopw [1, 5] (fun l i wr => ∃ (j : Nat), j ≤ n ∧ i = .int .i64 j ∧ l = .int .i64 (markKB (es.take j) k) ∧ Hid (BatsAt wr b es) ∧ Hid (∀ i, i < j → MarkedS wr (es.getD i btz) (markKB (es.take i) k)) ∧ Hid (∀ i, j ≤ i → i < n → OwnA wr (es.getD i btz).lo (es.getD i btz).hi (es.getD i btz).a (es.getD i btz).ws (es.getD i btz).γ) ∧ Hid (Only (Span lo hi) w wr)) (fun _ i _ => n - (intOf i).toNat)
    case atStart => exact ⟨0, Nat.zero_le _, rfl, rfl, HAT, fun i h => absurd h (Nat.not_lt_zero i), fun i _ h => (HOW.out i (by rw [HN.out]; exact h)).2.2.2, Only.refl _ _⟩
    case round =>
      obtain ⟨j, hj, rfl, rfl, HA, HM, HO, HL⟩ := hrel
      by_cases hj' : j < n
      · have hjj : j < es.length := by rw [HN.out]; exact hj'
        have i1 : (0 : Int) ≤ (j : Int) := by omega
        have i2 : (j : Int) < (n : Int) := by omega
        have c0 := HA.out j hjj
        unfold batV at c0
        obtain ⟨b1, b2⟩ := HT.out.1 j hjj
        obtain ⟨t1, t2⟩ := HT.out.2 j (by omega)
        have HK := Lib.hid (markKB_take es k hjj)
        have HE := Lib.hid (HO.out j (Nat.le_refl _) hj')
        have HI := Lib.hid (HOW.out j hjj)
        obtain ⟨kk, hkk⟩ : ∃ kk, markKB (es.take j) k = kk := ⟨_, rfl⟩
        rw [hkk] at t1 t2 HK ⊢
        have HKK := Lib.hid hkk
        obtain ⟨x, hx⟩ : ∃ x, es.getD j btz = x := ⟨_, rfl⟩
        rw [hx] at c0 b1 b2 HK HE HI
        have HX := Lib.hid hx
        clear hkk hx
        obtain ⟨xw, xa, xc, xl, xh, xg⟩ := x
        simp only at c0 b1 b2 HK HE HI
        obtain ⟨q, hq⟩ : ∃ q, xw.length = q := ⟨_, rfl⟩
        rw [hq] at c0 b1 HK
        have HQ := Lib.hid hq
        clear hq
        obtain ⟨k3, hk3⟩ : ∃ k3, markK xw kk q = k3 := ⟨_, rfl⟩
        rw [hk3] at HK
        have HK3 := Lib.hid hk3
        clear hk3
        go_wp2_with fail
        refine (markWriteS_all xl xh q xc xa kk xw xg _ HQ.out b1 b2 t1 t2 HE.out).mono ?_
        rintro e w2 ⟨rfl, hmk, ho⟩
        rw [HK3.out]
        have HA2 : Hid (BatsAt w2 b es) := HA.out.of_block (ho.block b fun hx => by have h1 := HI.out.2.2.1; have h2 := hx.1; have h3 := hx.2; omega)
        have HXL : Hid ((es.getD j btz).lo = xl ∧ (es.getD j btz).hi = xh) := by rw [HX.out]; exact ⟨rfl, rfl⟩
        have HM2 : Hid (∀ i, i < j + 1 → MarkedS w2 (es.getD i btz) (markKB (es.take i) k)) := fun i hi => by
          by_cases hij : i < j
          · exact (HM.out i hij).only ho fun x hx => .inr (by have h1 := HPW.out i j hij hjj; have h2 := hx.1; have h3 := HXL.out.1; omega)
          · obtain rfl : i = j := by omega
            rw [HX.out, HKK.out]
            exact OwnA.marked (e := ⟨xw, xa, xc, xl, xh, xg⟩) HE.out hmk
        have HO2 : Hid (∀ i, j + 1 ≤ i → i < n → OwnA w2 (es.getD i btz).lo (es.getD i btz).hi (es.getD i btz).a (es.getD i btz).ws (es.getD i btz).γ) := fun i h1 h2 => (HO.out i (by omega) h2).only ho fun x hx => by have h3 := HPW.out j i (by omega) (by rw [HN.out]; exact h2); have h4 := hx.2; have h5 := HXL.out.2; omega
        have HL2 : Hid (Only (Span lo hi) w w2) := HL.out.trans ho fun x hx => ⟨by have := HI.out.1; have := hx.1; omega, by have := HI.out.2.1; have := hx.2; omega⟩
        clear hmk ho HE HI HX HXL HM HO HA HL HK3 HQ HKK
        go_wp2
        exact ⟨⟨j + 1, by omega, by go_num, by rw [HK.out], HA2, HM2, HO2, HL2⟩, by simp [intOf]; omega⟩
      · have hjj : j = n := by omega
        subst hjj
        have HF : Hid (es.take j = es) := List.take_of_length_le (by rw [HN.out]; exact Nat.le_refl _)
        rw [HF.out]
        go_wp2
        go_ret
        exact ⟨rfl, .inr ⟨b, rfl, by rw [HL.out.size]; exact hlt, HA.out, fun i hi => (HM.out i (by rw [← HN.out]; exact hi)).1⟩, HL.out⟩

end Go.Proofs.Ytojgahcogpediaa

/- Maps of one's own: the contracts of toRep, toRepS. -/
namespace Go.Proofs.Ytojgahcogpediaa
open Go.ChangeShapes Go.WideShapes Go.ChangeAt Go.RowKit Go.Joins
attribute [local go_sem ↓] Go.wp_at_zero Go.wp_at_succ

set_option maxRecDepth 100000 in
set_option maxHeartbeats 2000000 in
theorem toRep_any (a : Option Addr) (n cap : Nat) (ws : List Wr) (w : World) (hn : ws.length = n) (hm : n ≤ 1048576) (hx : Few ws) (h : IsWs w a ws) :
    Calls Try.prog 75 #[.agg #[.slice a n cap]] w fun e w' => ∃ b γ, e = .returned (.agg #[.slice (some ⟨b, 0, none⟩) n n]) ∧ OwnA w' w.heap.size w'.heap.size (some ⟨b, 0, none⟩) ws γ ∧ Below w.heap.size w w' := by
  have H := Lib.hid h
  have HN := Lib.hid hn
  have HX : Hid (∀ i, i < n → (ws.getD i wz).xs.length ≤ 1048576) := fun i hi => hx i (by rw [hn]; exact hi)
  clear h hn hx
  have HB : Hid (Below w.heap.size w (((w.alloc (.cells #[.slice a n cap] 104)).alloc (.cells #[.slice none 0 0] 63)).alloc (.cells #[.slice none 0 0] 63))) := (((Below.refl _ _).alloc (Nat.le_refl _) _).alloc (by simp) _).alloc (by simp; omega) _
  have hsz : (((w.alloc (.cells #[.slice a n cap] 104)).alloc (.cells #[.slice none 0 0] 63)).alloc (.cells #[.slice none 0 0] 63)).heap.size = w.heap.size + 3 := by simp
  have HZ2 : Hid ((((w.alloc (.cells #[.slice a n cap] 104)).alloc (.cells #[.slice none 0 0] 63)).alloc (.cells #[.slice none 0 0] 63)).heap[w.heap.size + 1]? = some (.cells #[.slice none 0 0] 63 (0, 0))) := by
    have e : (w.alloc (.cells #[.slice a n cap] 104)).heap.size = w.heap.size + 1 := by simp
    have := heap_alloc2_old (w.alloc (.cells #[.slice a n cap] 104)) (.cells #[.slice none 0 0] 63) (.cells #[.slice none 0 0] 63)
    rwa [e] at this
  have HZ3 : Hid ((((w.alloc (.cells #[.slice a n cap] 104)).alloc (.cells #[.slice none 0 0] 63)).alloc (.cells #[.slice none 0 0] 63)).heap[w.heap.size + 2]? = some (.cells #[.slice none 0 0] 63 (0, 0))) := by
    have e : (w.alloc (.cells #[.slice a n cap] 104)).heap.size = w.heap.size + 1 := by simp
    have := heap_alloc2_new (w.alloc (.cells #[.slice a n cap] 104)) (.cells #[.slice none 0 0] 63) (.cells #[.slice none 0 0] 63)
    rwa [e] at this
  go_enter Try.func75, Try.ntmps75
  go_wp2_with fail
  generalize ((w.alloc (.cells #[.slice a n cap] 104)).alloc (.cells #[.slice none 0 0] 63)).alloc (.cells #[.slice none 0 0] 63) = W3 at *
  refine (toWriteS_any a n cap ws _ hm HN.out HX.out (H.out.below HB.out)).mono ?_
  rintro e w4 ⟨γ, rfl, hO, hb⟩
  have HO : Hid (OwnA w4 W3.heap.size w4.heap.size (some ⟨W3.heap.size, 0, none⟩) ws γ) := hO.gen.ownA
  have HB4 : Hid (Below w.heap.size w w4) := below_step HB.out HB.out.size hb
  have q2 := (hb.block (w.heap.size + 1) (by omega)).trans HZ2.out
  have q3 := (hb.block (w.heap.size + 2) (by omega)).trans HZ3.out
  have hs4 : W3.heap.size ≤ w4.heap.size := hb.size
  have c2 := cell_of_row w4 (w.heap.size + 1) 0 _ _ _ q2
  have c3 := cell_of_row w4 (w.heap.size + 2) 0 _ _ _ q3
  have f2 := frozen_of_row w4 (w.heap.size + 1) 0 _ _ q2
  have f3 := frozen_of_row w4 (w.heap.size + 2) 0 _ _ q3
  simp at c2 c3
  clear hb hO HB HZ2 HZ3
  go_wp2
  have hw3 : W3.heap.size = w.heap.size + 3 := hsz
  refine bodyPost_ret (v := .agg #[.slice (some ⟨w.heap.size + 3, 0, none⟩) n n]) (by simp [results, Try.results75, go_sem, c2]) rfl ⟨w.heap.size + 3, γ, rfl, ?_, (HB4.out.setCell (p := ⟨w.heap.size + 1 + 1, 0, none⟩) (by simp; omega) _).setCell (p := ⟨w.heap.size + 1, 0, none⟩) (by simp) _⟩
  have h1 := HO.out
  rw [hw3] at h1
  exact ((h1.setLow (b := w.heap.size + 1 + 1) (by omega) 0 _).setLow (b := w.heap.size + 1) (by omega) 0 _).wider (by omega) (by simp)

set_option maxRecDepth 100000 in
theorem infoRep : (Try.prog.info? 63).map (fun i => (i.zero, i.size, i.bytes)) = some (some (.agg #[.slice none 0 0]), 1, 24) := by kernel_rfl

set_option maxRecDepth 100000 in
theorem run_make_reps (n : Nat) (hn : n ≤ 1048576) (w : World) :
    (Instr.makeSlice 28 (.int .i64 (n : Int)) (.int .i64 (n : Int))).run Try.prog w = .ok (.slice (some ⟨w.heap.size, 0, none⟩) n n) (w.alloc (.cells (madeCells #[.slice none 0 0] n) 63)) := by
  obtain ⟨i, hi, hzz⟩ := Option.map_eq_some_iff.1 infoRep
  simp only [Prod.mk.injEq] at hzz
  obtain ⟨hz, hs, hb⟩ := hzz
  have hr := run_make (P := Try.prog) w 28 63 i _ Try.underlying28 hi hz .i64 .i64 n n (by omega) (Int.le_refl _) (by rw [hb]; omega) (by omega)
  simp only [Int.toNat_natCast, hs, Nat.mul_one] at hr
  exact hr

set_option maxRecDepth 100000 in
set_option maxHeartbeats 4000000 in
theorem toRepS_any (a : Option Addr) (n cap : Nat) (bs : List (List Wr)) (w : World) (hn : bs.length = n) (hm : n ≤ 1048576) (hx : FewB bs) (h : IsBs w a bs) :
    Calls Try.prog 35 #[.slice a n cap] w fun e w' => ∃ es, e = .returned (.slice (some ⟨w.heap.size, 0, none⟩) n n) ∧ batsOf es = bs ∧ OwnB w' w.heap.size w'.heap.size (some ⟨w.heap.size, 0, none⟩) es ∧ Below w.heap.size w w' := by
  have H := Lib.hid h
  have HN := Lib.hid hn
  have HX := Lib.hid hx
  clear h hn hx
  have hmk := run_make_reps n hm
  go_enter Try.func35, Try.ntmps35
  go_wp2
  clear hmk
  go_loopw [4] (fun i wr => ∃ (k : Nat) (es : List Bat), k ≤ n ∧ i = .int .i64 k ∧ es.length = k ∧ Hid (batsOf es = bs.take k) ∧ Hid (wr.rowIs w.heap.size 63 n (fillBat es)) ∧ Hid (LaidB wr w.heap.size es) ∧ Hid (Below w.heap.size w wr)) (fun i _ => n - (intOf i).toNat)
  case atStart => exact ⟨0, [], Nat.zero_le _, rfl, rfl, rfl, rowBat_start _ _ _, ⟨fun i hi => by simp at hi, fun i j _ hj => by simp at hj⟩, (Below.refl _ _).alloc (Nat.le_refl _) _⟩
  case round =>
    obtain ⟨k, es, hk, rfl, hel, HE, HR, HL, HB⟩ := hrel
    by_cases hk' : k < n
    · have hkk : k < bs.length := by rw [HN.out]; exact hk'
      have i1 : (0 : Int) ≤ (k : Int) := by omega
      have i2 : (k : Int) < (n : Int) := by omega
      obtain ⟨b, o, ad, cp, rfl, hz, e0, hw⟩ := H.out.at HB.out hkk
      obtain ⟨hl, hf⟩ := HX.out k hkk
      have HW := Lib.hid hw
      have HF := Lib.hid hf
      have HT : Hid (bs.take (k + 1) = bs.take k ++ [bs.getD k []]) := by
        show _ = _
        rw [List.take_add_one, List.getElem?_eq_getElem hkk]
        simp [List.getD, hkk]
      have hlt : w.heap.size < wr.heap.size := HR.out.lt
      clear hw hf
      generalize bs.getD k [] = ws at *
      obtain ⟨q, hq⟩ : ∃ q, ws.length = q := ⟨_, rfl⟩
      rw [hq] at e0 hl
      have HQ := Lib.hid hq
      clear hq
      go_wp2_with fail
      refine (toRep_any ad q cp ws _ HQ.out hl HF.out HW.out).mono ?_
      rintro e w2 ⟨b2, γ, rfl, hO, hb⟩
      have HR2 : Hid (w2.rowIs w.heap.size 63 n (fillBat es)) := HR.out.of_block (hb.block _ hlt)
      have HL2 : Hid (LaidB w2 w.heap.size (es ++ [⟨ws, some ⟨b2, 0, none⟩, q, wr.heap.size, w2.heap.size, γ⟩])) := HL.out.more hb hlt (Nat.le_refl _) (Nat.le_refl _) hO
      have HB2 := Lib.hid (below_step HB.out HB.out.size hb)
      have HE2 : Hid (batsOf (es ++ [⟨ws, some ⟨b2, 0, none⟩, q, wr.heap.size, w2.heap.size, γ⟩]) = bs.take (k + 1)) := by
        show _ = _
        unfold batsOf at *
        rw [HT.out, List.map_append, HE.out]
        rfl
      have c0 := HR2.out.cell (i := k) hk'
      have fz := HR2.out.frozen
      have HS : Hid ((w2.setCell ⟨w.heap.size, k, none⟩ (.slice (some ⟨b2, 0, none⟩) q q)).rowIs w.heap.size 63 n (fillBat (es ++ [⟨ws, some ⟨b2, 0, none⟩, q, wr.heap.size, w2.heap.size, γ⟩]))) := (HR2.out.set k _).congr fun j _ => by
        have := fillBat_step es ⟨ws, some ⟨b2, 0, none⟩, q, wr.heap.size, w2.heap.size, γ⟩ j
        rw [hel] at this
        rw [← this]
        unfold batV
        rw [HQ.out]
      clear hO hb HR HL HB
      go_wp2
      exact ⟨⟨k + 1, _, by omega, by go_num, by simp [hel], HE2, HS, HL2.out.setRow k _, HB2.out.setCell (p := ⟨w.heap.size, k, none⟩) (Nat.le_refl _) _⟩, by simp [intOf]; omega⟩
    · have hkk : k = n := by omega
      subst hkk
      have HE2 : Hid (batsOf es = bs) := by
        have h := HE.out
        rw [List.take_of_length_le (by rw [HN.out]; exact Nat.le_refl _)] at h
        exact h
      go_wp2
      go_ret
      refine ⟨es, rfl, HE2.out, .inr ⟨w.heap.size, rfl, Nat.le_refl _, HR.out.lt, HR.out.lt, fun i hi => ?_, fun i hi => ?_, HL.out.2⟩, HB.out⟩
      · rw [HR.out.cell (by omega), fillBat, if_pos hi]
      · obtain ⟨q1, q2, q3⟩ := HL.out.1 i hi
        exact ⟨Nat.le_of_lt q1, q2, .inl q1, q3⟩

end Go.Proofs.Ytojgahcogpediaa

/- How much maps are: the contracts of szRep, szRepS. -/
namespace Go.Proofs.Ytojgahcogpediaa
open Go.ChangeShapes Go.WideShapes Go.ChangeAt Go.RowKit Go.Joins
attribute [local go_sem ↓] Go.wp_at_zero Go.wp_at_succ

set_option maxRecDepth 100000 in
set_option maxHeartbeats 1000000 in
theorem szRep_any (a : Option Addr) (n cap : Nat) (left : Int) (ws : List Wr) (w : World) (h0 : 0 ≤ left) (h1 : left ≤ 1048576) (hm : n ≤ maxLen) (hn : ws.length = n) (h : IsWs w a ws) :
    Calls Try.prog 70 #[.agg #[.slice a n cap], .int .i64 left] w fun e w' => ∃ r : Int, e = .returned (.int .i64 r) ∧ (r = -1 ∨ (0 ≤ r ∧ r = left - n - bulk ws)) ∧ Below w.heap.size w w' := by
  have H := Lib.hid h
  have HN := Lib.hid hn
  clear h hn
  have HB : Hid (Below w.heap.size w (w.alloc (.cells #[.slice a n cap] 104))) := (Below.refl _ _).alloc (Nat.le_refl _) _
  go_enter Try.func70, Try.ntmps70
  go_wp2_with fail
  refine (szWriteS_any a n cap left ws _ h0 h1 hm HN.out (H.out.below HB.out)).mono ?_
  rintro e w1 ⟨r, rfl, hr, hb⟩
  have HB1 := Lib.hid (below_step HB.out HB.out.size hb)
  clear hb
  rcases hr with rfl | ⟨r0, hr⟩
  · go_wp2
    go_ret
    exact ⟨_, rfl, .inl rfl, HB1.out⟩
  · have HR := Lib.hid hr
    clear hr
    go_wp2
    go_ret
    exact ⟨_, rfl, .inr ⟨r0, HR.out⟩, HB1.out⟩

set_option maxRecDepth 100000 in
set_option maxHeartbeats 2000000 in
theorem szRepS_any (a : Option Addr) (n cap : Nat) (left : Int) (bs : List (List Wr)) (w : World) (h0 : 0 ≤ left) (h1 : left ≤ 1048576) (hm : n ≤ maxLen) (hn : bs.length = n) (hl : ∀ i, i < bs.length → (bs.getD i []).length ≤ maxLen) (h : IsBs w a bs) :
    Calls Try.prog 30 #[.slice a n cap, .int .i64 left] w fun e w' => ∃ r : Int, e = .returned (.int .i64 r) ∧ (r = -1 ∨ (0 ≤ r ∧ r = left - n - heftB bs)) ∧ Below w.heap.size w w' := by
  have H := Lib.hid h
  have HN := Lib.hid hn
  have HLM := Lib.hid hl
  clear h hn hl
  have hm' : n ≤ 9223372036854775807 := hm
  clear hm
  by_cases hbig : left < (n : Int)
  · go_enter Try.func30, Try.ntmps30
    go_wp2
    go_ret
    exact ⟨_, rfl, .inl rfl, Below.refl _ _⟩
  go_enter Try.func30, Try.ntmps30
  go_wp2
  go_loopw [1, 5] (fun t i wr => ∃ (k : Nat) (z : Int), k ≤ n ∧ i = .int .i64 k ∧ t = .int .i64 z ∧ 0 ≤ z ∧ z ≤ 1048576 ∧ Hid (z = left - n - heftB (bs.take k)) ∧ Hid (Below w.heap.size w wr)) (fun _ i _ => n - (intOf i).toNat)
  case atStart => exact ⟨0, left - n, Nat.zero_le _, rfl, rfl, by omega, by omega, by simp [heftB, Hid], Below.refl _ _⟩
  case round =>
    obtain ⟨k, z, hk, rfl, rfl, z0, z1, HZ, HB⟩ := hrel
    by_cases hk' : k < n
    · have hkk : k < bs.length := by rw [HN.out]; exact hk'
      have i1 : (0 : Int) ≤ (k : Int) := by omega
      have i2 : (k : Int) < (n : Int) := by omega
      obtain ⟨b, o, ad, cp, rfl, hz, e0, hw⟩ := H.out.at HB.out hkk
      have hlm := HLM.out k hkk
      have HW := Lib.hid hw
      have HT := Lib.hid (heft_take bs k hkk)
      clear hw
      generalize bs.getD k [] = ws at *
      obtain ⟨q, hq⟩ : ∃ q, ws.length = q := ⟨_, rfl⟩
      rw [hq] at e0 hlm
      have HQ := Lib.hid hq
      clear hq
      go_wp2_with fail
      refine (szRep_any ad q cp z ws _ z0 z1 hlm HQ.out HW.out).mono ?_
      rintro e w2 ⟨r, rfl, hr, hb⟩
      have HB2 := Lib.hid (below_step HB.out HB.out.size hb)
      clear hb
      rcases hr with rfl | ⟨r0, hr⟩
      · go_wp2
        go_ret
        exact ⟨_, rfl, .inl rfl, HB2.out⟩
      · have HR : Hid (r = left - n - heftB (bs.take (k + 1))) := by
          have h1 := HZ.out
          have h2 := HT.out
          have h3 := HQ.out
          show _ = _
          omega
        have r1 : r ≤ 1048576 := by omega
        clear hr
        go_wp2
        exact ⟨⟨k + 1, r, by omega, by go_num, rfl, r0, r1, HR, HB2⟩, by simp [intOf]; omega⟩
    · have hkk : k = n := by omega
      subst hkk
      have HF : Hid (z = left - k - heftB bs) := by
        have h := HZ.out
        rw [List.take_of_length_le (by rw [HN.out]; exact Nat.le_refl _)] at h
        exact h
      go_wp2
      go_ret
      exact ⟨z, rfl, .inr ⟨z0, HF.out⟩, HB.out⟩

end Go.Proofs.Ytojgahcogpediaa

/- Groups: the contracts of szGroup, toGroup, eqGroup. -/
namespace Go.Proofs.Ytojgahcogpediaa
open Go.ChangeShapes Go.WideShapes Go.ChangeAt Go.RowKit Go.Joins
attribute [local go_sem ↓] Go.wp_at_zero Go.wp_at_succ

abbrev gpV (am : Option Addr) (m cm : Nat) (ah : Option Addr) (n cn : Nat) : Value := .agg #[.slice am m cm, .slice ah n cn]

set_option maxRecDepth 100000 in
set_option maxHeartbeats 1000000 in
theorem szGroup_any (am : Option Addr) (m cm : Nat) (ah : Option Addr) (n cn : Nat) (bs : List (List Wr)) (hs : List Hn) (w : World) (hm : bs.length = m) (hmm : m ≤ maxLen) (hml : ∀ i, i < bs.length → (bs.getD i []).length ≤ maxLen) (hb : IsBs w am bs) (hn : hs.length = n) (hnn : n ≤ maxLen) (hh : IsHs w ah hs) :
    Calls Try.prog 7 #[gpV am m cm ah n cn, .int .i64 1048576] w fun e w' => ∃ r : Int, e = .returned (.int .i64 r) ∧ (r = -1 ∨ (0 ≤ r ∧ r = 1048576 - m - heftB bs - n - bulk (hnW hs))) ∧ Below w.heap.size w w' := by
  have HB := Lib.hid hb
  have HH := Lib.hid hh
  have HM := Lib.hid hm
  have HN := Lib.hid hn
  have HML := Lib.hid hml
  have HA : Hid (Below w.heap.size w (w.alloc (.cells #[.slice am m cm, .slice ah n cn] 25))) := (Below.refl _ _).alloc (Nat.le_refl _) _
  have HX : Hid ((w.alloc (.cells #[.slice am m cm, .slice ah n cn] 25)).heap[w.heap.size]? = some (.cells #[.slice am m cm, .slice ah n cn] 25 (0, 0))) := heap_alloc_new _ _
  clear hb hh hm hn hml
  go_enter Try.func7, Try.ntmps7
  go_wp2_with fail
  refine (szRepS_any am m cm 1048576 bs _ (by omega) (by omega) hmm HM.out HML.out (HB.out.below HA.out)).mono ?_
  rintro e w1 ⟨r, rfl, hr, hb⟩
  have HB1 := Lib.hid (below_step HA.out HA.out.size hb)
  have q := (hb.block w.heap.size (by simp)).trans HX.out
  have c0 := cell_of_row w1 w.heap.size 0 _ _ _ q
  have c1 := cell_of_row w1 w.heap.size 1 _ _ _ q
  simp at c0 c1
  clear hb q
  rcases hr with rfl | ⟨r0, hr⟩
  · go_wp2
    go_ret
    exact ⟨_, rfl, .inl rfl, HB1.out⟩
  have HR := Lib.hid hr
  have r1 : r ≤ 1048576 := by omega
  clear hr
  go_wp2_with fail
  refine (szHintS_any ah n cn r hs _ r0 r1 hnn HN.out (HH.out.below HB1.out)).mono ?_
  rintro e w2 ⟨z, rfl, hz, hb⟩
  have HB2 := Lib.hid (below_step HB1.out HB1.out.size hb)
  clear hb
  rcases hz with rfl | ⟨z0, hz⟩
  · go_wp2
    go_ret
    exact ⟨_, rfl, .inl rfl, HB2.out⟩
  have HZ : Hid (z = 1048576 - m - heftB bs - n - bulk (hnW hs)) := by
    have := HR.out
    show _ = _
    omega
  clear hz
  go_wp2
  go_ret
  exact ⟨_, rfl, .inr ⟨z0, HZ.out⟩, HB2.out⟩

set_option maxRecDepth 100000 in
set_option maxHeartbeats 2000000 in
theorem eqGroup_same (am : Option Addr) (m cm : Nat) (ah : Option Addr) (n cn : Nat) (am' : Option Addr) (cm' : Nat) (ah' : Option Addr) (cn' : Nat) (bs : List (List Wr)) (hs : List Hn) (w : World) (hm : bs.length = m) (hmm : m ≤ 1048576) (hfb : FewB bs) (hb : IsBs w am bs) (hb' : IsBs w am' bs) (hn : hs.length = n) (hnn : n ≤ 1048576) (hfh : FewH hs) (hh : IsHs w ah hs) (hh' : IsHs w ah' hs) :
    Calls Try.prog 11 #[gpV am m cm ah n cn, gpV am' m cm' ah' n cn'] w fun e w' => e = .returned (.bool true) ∧ Below w.heap.size w w' := by
  have HB := Lib.hid hb
  have HB' := Lib.hid hb'
  have HH := Lib.hid hh
  have HH' := Lib.hid hh'
  have HM := Lib.hid hm
  have HN := Lib.hid hn
  have HFB := Lib.hid hfb
  have HFH := Lib.hid hfh
  obtain ⟨O1, hO1⟩ : ∃ O, O = Obj.cells #[.slice am m cm, .slice ah n cn] 31 := ⟨_, rfl⟩
  obtain ⟨O2, hO2⟩ : ∃ O, O = Obj.cells #[.slice am' m cm', .slice ah' n cn'] 31 := ⟨_, rfl⟩
  have HA : Hid (Below w.heap.size w ((w.alloc O1).alloc O2)) := ((Below.refl _ _).alloc (Nat.le_refl _) _).alloc (by simp) _
  have HX1 : Hid (((w.alloc O1).alloc O2).heap[w.heap.size]? = some O1) := heap_alloc2_old w O1 O2
  have HX2 : Hid (((w.alloc O1).alloc O2).heap[w.heap.size + 1]? = some O2) := heap_alloc2_new w O1 O2
  have hsz : ((w.alloc O1).alloc O2).heap.size = w.heap.size + 2 := by simp
  subst hO1 hO2
  clear hb hb' hh hh' hm hn hfb hfh
  go_enter Try.func11, Try.ntmps11
  go_wp2_with fail
  generalize (w.alloc (.cells #[.slice am m cm, .slice ah n cn] 31)).alloc (.cells #[.slice am' m cm', .slice ah' n cn'] 31) = W at *
  refine (eqRepS_same am am' m cm cm' bs _ HM.out hmm HFB.out (HB.out.below HA.out) (HB'.out.below HA.out)).mono ?_
  rintro e w1 ⟨rfl, hb⟩
  have HB1 := Lib.hid (below_step HA.out HA.out.size hb)
  have q1 := (hb.block w.heap.size (by omega)).trans HX1.out
  have q2 := (hb.block (w.heap.size + 1) (by omega)).trans HX2.out
  have c0 := cell_of_row w1 w.heap.size 0 _ _ _ q1
  have c1 := cell_of_row w1 w.heap.size 1 _ _ _ q1
  have d0 := cell_of_row w1 (w.heap.size + 1) 0 _ _ _ q2
  have d1 := cell_of_row w1 (w.heap.size + 1) 1 _ _ _ q2
  simp at c0 c1 d0 d1
  clear hb q1 q2
  go_wp2_with fail
  refine (eqHintS_same ah ah' n cn cn' hs _ HN.out hnn HFH.out (HH.out.below HB1.out) (HH'.out.below HB1.out)).mono ?_
  rintro e w2 ⟨rfl, hb⟩
  have HB2 := Lib.hid (below_step HB1.out HB1.out.size hb)
  clear hb
  go_wp2
  go_ret
  exact ⟨rfl, HB2.out⟩

end Go.Proofs.Ytojgahcogpediaa

/- Is a group right: plain facts, and the contract of impl.GroupOk. -/
namespace Go.Proofs.Ytojgahcogpediaa
open Go.ChangeShapes Go.WideShapes Go.ChangeAt Go.RowKit Go.Joins
attribute [local go_sem ↓] Go.wp_at_zero Go.wp_at_succ

def hintOkB (m : Nat) (h : Hn) : Bool := btw h.f 0 ((m : Int) - 1) && okW h.x

def groupOkB (bs : List (List Wr)) (hs : List Hn) : Bool := btw (bs.length : Int) 1 7 && bs.all mapOkB && hs.all (hintOkB bs.length)

theorem group_len {bs : List (List Wr)} {hs : List Hn} (h : btw (bs.length : Int) 1 7 = false) : groupOkB bs hs = false := by simp [groupOkB, h]

theorem group_map {bs : List (List Wr)} {hs : List Hn} {k : Nat} (hk : k < bs.length) (h : mapOkB (bs.getD k []) = false) : groupOkB bs hs = false := by
  have : bs.all mapOkB = false := by
    rw [List.all_eq_false]
    exact ⟨bs.getD k [], by simp [List.getD, hk], by rw [h]; simp⟩
  simp [groupOkB, this]

theorem group_hint {bs : List (List Wr)} {hs : List Hn} {k : Nat} (hk : k < hs.length) (h : hintOkB bs.length (hs.getD k hnz) = false) : groupOkB bs hs = false := by
  have : hs.all (hintOkB bs.length) = false := by
    rw [List.all_eq_false]
    exact ⟨hs.getD k hnz, by simp [List.getD, hk], by rw [h]; simp⟩
  simp [groupOkB, this]

theorem all_getD {α : Type} {l : List α} {d : α} {p : α → Bool} (h : ∀ j, j < l.length → p (l.getD j d) = true) : l.all p = true := by
  rw [List.all_eq_true]
  intro x hx
  obtain ⟨j, hj, rfl⟩ := List.mem_iff_getElem.1 hx
  have := h j hj
  simpa [List.getD, hj] using this

theorem group_all {bs : List (List Wr)} {hs : List Hn} (h1 : btw (bs.length : Int) 1 7 = true) (h2 : ∀ j, j < bs.length → mapOkB (bs.getD j []) = true) (h3 : ∀ j, j < hs.length → hintOkB bs.length (hs.getD j hnz) = true) : groupOkB bs hs = true := by
  simp [groupOkB, h1, all_getD h2, all_getD h3]

theorem next_all {p : Nat → Prop} {k : Nat} (h : ∀ j, j < k → p j) (hk : p k) : ∀ j, j < k + 1 → p j := fun j hj => by
  by_cases e : j = k
  · rw [e]; exact hk
  · exact h j (by omega)

set_option maxRecDepth 100000 in
set_option maxHeartbeats 4000000 in
theorem implGroupOk_any (am : Option Addr) (m cm : Nat) (ah : Option Addr) (n cn : Nat) (bs : List (List Wr)) (hs : List Hn) (w : World) (hm : bs.length = m) (hmm : m ≤ 1048576) (hfb : FewB bs) (hb : IsBs w am bs) (hn : hs.length = n) (hnn : n ≤ 1048576) (hfh : FewH hs) (hh : IsHs w ah hs) :
    Calls Try.prog 10 #[gpV am m cm ah n cn] w fun e w' => e = .returned (.bool (groupOkB bs hs)) ∧ Below w.heap.size w w' := by
  have HBS := Lib.hid hb
  have HHS := Lib.hid hh
  have HM := Lib.hid hm
  have HN := Lib.hid hn
  have HFB := Lib.hid hfb
  have HFH := Lib.hid hfh
  have HA : Hid (Below w.heap.size w (w.alloc (.cells #[.slice am m cm, .slice ah n cn] 31))) := (Below.refl _ _).alloc (Nat.le_refl _) _
  have HX : Hid ((w.alloc (.cells #[.slice am m cm, .slice ah n cn] 31)).heap[w.heap.size]? = some (.cells #[.slice am m cm, .slice ah n cn] 31 (0, 0))) := heap_alloc_new _ _
  have HSZ : Hid ((w.alloc (.cells #[.slice am m cm, .slice ah n cn] 31)).heap.size = w.heap.size + 1) := by show _ = _; simp
  clear hb hh hm hn hfb hfh
  obtain ⟨t, ht⟩ : ∃ t, btw (m : Int) 1 7 = t := ⟨_, rfl⟩
  go_enter Try.func10, Try.ntmps10
  go_wp2_with fail
  refine (inRange_any _ _ _ _).mono ?_
  rintro e w' ⟨rfl, rfl⟩
  rw [ht]
  cases t
  · have HT : Hid (groupOkB bs hs = false) := group_len (by rw [HM.out]; exact ht)
    go_wp2
    go_ret
    exact ⟨by rw [HT.out]; rfl, HA.out⟩
  have HT := Lib.hid ht
  clear ht
  go_wp2
  generalize w.alloc (.cells #[.slice am m cm, .slice ah n cn] 31) = W at *
  go_loopw [15] (fun i wr => ∃ k : Nat, k ≤ m ∧ i = .int .i64 k ∧ Hid (∀ j, j < k → mapOkB (bs.getD j []) = true) ∧ Hid (Below W.heap.size W wr)) (fun i _ => m - (intOf i).toNat)
  case atStart => exact ⟨0, Nat.zero_le _, rfl, fun j hj => absurd hj (Nat.not_lt_zero j), Below.refl _ _⟩
  case round =>
    obtain ⟨k, hk, rfl, HK, HB⟩ := hrel
    have HBW : Hid (Below w.heap.size w wr) := below_step HA.out HA.out.size HB.out
    by_cases hk' : k < m
    · have hkk : k < bs.length := by rw [HM.out]; exact hk'
      have i1 : (0 : Int) ≤ (k : Int) := by omega
      have i2 : (k : Int) < (m : Int) := by omega
      obtain ⟨b, o, ad, cp, rfl, hz, e0, hw⟩ := HBS.out.at HBW.out hkk
      obtain ⟨hl, hf⟩ := HFB.out k hkk
      have HW := Lib.hid hw
      have HF := Lib.hid hf
      have HNO : Hid (mapOkB (bs.getD k []) = false → groupOkB bs hs = false) := fun h => group_map hkk h
      have HYES : Hid (mapOkB (bs.getD k []) = true → ∀ j, j < k + 1 → mapOkB (bs.getD j []) = true) := fun h => next_all HK.out h
      clear hw hf
      generalize bs.getD k [] = ws at *
      obtain ⟨q, hq⟩ : ∃ q, ws.length = q := ⟨_, rfl⟩
      rw [hq] at e0 hl
      have HQ := Lib.hid hq
      clear hq
      obtain ⟨t, ht⟩ : ∃ t, mapOkB ws = t := ⟨_, rfl⟩
      have HAL : Hid (Below wr.heap.size wr (wr.alloc (.cells #[.slice ad q cp] 63))) := (Below.refl _ _).alloc (Nat.le_refl _) _
      go_wp2_with fail
      refine (implMapOk_any ad q cp ws _ HQ.out hl HF.out (HW.out.below HAL.out)).mono ?_
      rintro e w2 ⟨rfl, hb⟩
      rw [ht]
      have hbb := Lib.hid (below_step HAL.out HAL.out.size hb)
      have HB2 : Hid (Below W.heap.size W w2) := below_step HB.out HB.out.size hbb.out
      have HBW2 : Hid (Below w.heap.size w w2) := below_step HBW.out HBW.out.size hbb.out
      clear hb hbb
      cases t
      · have HR := Lib.hid (HNO.out ht)
        go_wp2
        go_ret
        exact ⟨by rw [HR.out]; rfl, HBW2.out⟩
      · have HK2 := Lib.hid (HYES.out ht)
        go_wp2
        exact ⟨⟨k + 1, by omega, by go_num, HK2, HB2⟩, by simp [intOf]; omega⟩
    · have hkk : k = m := by omega
      subst hkk
      have qb := (HB.out.block w.heap.size (by rw [HSZ.out]; omega)).trans HX.out
      have c0 := cell_of_row wr w.heap.size 0 _ _ _ qb
      have c1 := cell_of_row wr w.heap.size 1 _ _ _ qb
      simp at c0 c1
      clear qb
      go_wp2
      clear c0 c1
      go_loopw [27] (fun i w3 => ∃ p : Nat, p ≤ n ∧ i = .int .i64 p ∧ Hid (∀ j, j < p → hintOkB k (hs.getD j hnz) = true) ∧ Hid (Below W.heap.size W w3)) (fun i _ => n - (intOf i).toNat)
      case atStart => exact ⟨0, Nat.zero_le _, rfl, fun j hj => absurd hj (Nat.not_lt_zero j), HB⟩
      case round =>
        obtain ⟨p, hp, rfl, HP, HB3⟩ := hrel
        have HBW3 : Hid (Below w.heap.size w wr) := below_step HA.out HA.out.size HB3.out
        by_cases hp' : p < n
        · have hpp : p < hs.length := by rw [HN.out]; exact hp'
          have i1 : (0 : Int) ≤ (p : Int) := by omega
          have i2 : (p : Int) < (n : Int) := by omega
          have qb := (HB3.out.block w.heap.size (by rw [HSZ.out]; omega)).trans HX.out
          have c0 := cell_of_row wr w.heap.size 0 _ _ _ qb
          have c1 := cell_of_row wr w.heap.size 1 _ _ _ qb
          simp at c0 c1
          have hlw : w.heap.size < wr.heap.size := by have := HB3.out.size; rw [HSZ.out] at this; omega
          obtain ⟨b2, o2, ad2, cp2, rfl, hz2, ⟨e0, e1, e2, e3, e4, e5, e6, e7⟩, -, hd⟩ := HHS.out.at HBW3.out hpp
          have hxl := HFH.out p hpp
          have HD := Lib.hid hd
          have HNO : Hid (hintOkB k (hs.getD p hnz) = false → groupOkB bs hs = false) := fun h => group_hint hpp (by rw [HM.out]; exact h)
          have HYES : Hid (hintOkB k (hs.getD p hnz) = true → ∀ j, j < p + 1 → hintOkB k (hs.getD j hnz) = true) := fun h => next_all HP.out h
          clear hd qb
          generalize hs.getD p hnz = y at *
          obtain ⟨yf, yk, yc, ys, yq, yv, yd, yy⟩ := y
          simp only at e0 e1 e2 e3 e4 e5 e6 e7 hxl HD
          obtain ⟨t, ht⟩ : ∃ t, btw yf 0 ((k : Int) - 1) = t := ⟨_, rfl⟩
          have HAL : Hid (Below wr.heap.size wr (wr.alloc (.cells #[.int .i64 yf, .int .i64 yk, .int .i64 yc, .int .i64 ys, .int .i64 yq, .int .i64 yv, .bool yd, .slice ad2 yy.length cp2] 65))) := (Below.refl _ _).alloc (Nat.le_refl _) _
          have HBAL := Lib.hid (below_step HBW3.out HBW3.out.size HAL.out)
          go_wp2_with fail
          refine (inRange_any _ _ _ _).mono ?_
          rintro e w' ⟨rfl, rfl⟩
          rw [ht]
          cases t
          · have HR := Lib.hid (HNO.out (by simp [hintOkB, ht]))
            go_wp2
            go_ret
            exact ⟨by rw [HR.out]; rfl, HBAL.out⟩
          obtain ⟨z, hz0⟩ : ∃ z, writeOkB yk yc ys yq yv yd yy = z := ⟨_, rfl⟩
          go_wp2_with fail
          refine (implWriteOk_gen yk yc ys yq yv yd ad2 yy _ cp2 _ rfl hxl (HD.out.below HAL.out)).mono ?_
          rintro e w4 ⟨rfl, hb⟩
          rw [hz0]
          have hbb := Lib.hid (below_step HAL.out HAL.out.size hb)
          have HB4 : Hid (Below W.heap.size W w4) := below_step HB3.out HB3.out.size hbb.out
          have HBW4 : Hid (Below w.heap.size w w4) := below_step HBW3.out HBW3.out.size hbb.out
          clear hb hbb
          cases z
          · have HR := Lib.hid (HNO.out (by simp [hintOkB, okW, hz0]))
            go_wp2
            go_ret
            exact ⟨by rw [HR.out]; rfl, HBW4.out⟩
          · have HP2 := Lib.hid (HYES.out (by simp [hintOkB, okW, ht, hz0]))
            go_wp2
            exact ⟨⟨p + 1, by omega, by go_num, HP2, HB4⟩, by simp [intOf]; omega⟩
        · have hpp : p = n := by omega
          subst hpp
          have HR : Hid (groupOkB bs hs = true) := group_all (by rw [HM.out]; exact HT.out) (fun j hj => HK.out j (by rw [← HM.out]; exact hj)) (fun j hj => by rw [HM.out]; exact HP.out j (by rw [← HN.out]; exact hj))
          go_wp2
          go_ret
          exact ⟨by rw [HR.out]; rfl, HBW3.out⟩

end Go.Proofs.Ytojgahcogpediaa

/- What is spread: plain facts. -/
namespace Go.Proofs.Ytojgahcogpediaa

/-- All writes of a group. -/
def allG (bs : List (List Wr)) (hs : List Hn) : List Wr := bs.flatten ++ hnW hs

def spreadL (bs : List (List Wr)) (hs : List Hn) : List Wr := if groupOkB bs hs = true then joinW [] (allG bs hs) else []

theorem flat_take (bs : List (List Wr)) {k : Nat} (hk : k < bs.length) : (bs.take (k + 1)).flatten = (bs.take k).flatten ++ bs.getD k [] := by
  rw [List.take_add_one, List.getElem?_eq_getElem hk, Option.toList_some, List.flatten_append]
  simp [List.getD, hk]

theorem hnW_take (hs : List Hn) {k : Nat} (hk : k < hs.length) : hnW (hs.take (k + 1)) = hnW (hs.take k) ++ [(hs.getD k hnz).x] := by
  unfold hnW
  rw [List.take_add_one, List.getElem?_eq_getElem hk, Option.toList_some, List.map_append]
  simp [List.getD, hk]

theorem joinW_app (a b c : List Wr) : joinW (joinW a b) c = joinW a (b ++ c) := by simp [joinW, List.foldl_append]

theorem join_put (a b : List Wr) (x : Wr) : putW (joinW a b) x = joinW a (b ++ [x]) := by simp [joinW, List.foldl_append]

theorem join_len (a : List Wr) : ∀ b, (joinW a b).length ≤ a.length + b.length := by
  intro b
  induction b generalizing a with
  | nil => simp [joinW]
  | cons x r ih =>
    have h1 := ih (putW a x)
    have h2 := put_len a x
    show (joinW (putW a x) r).length ≤ _
    simp only [List.length_cons]
    omega

theorem flat_len : ∀ bs : List (List Wr), bs.flatten.length ≤ heftB bs
  | [] => by simp
  | b :: r => by
    have := flat_len r
    simp only [List.flatten_cons, List.length_append, heftB]
    omega

theorem flat_few {bs : List (List Wr)} (h : FewB bs) : Few bs.flatten := few_iff.2 fun x hx => by
  obtain ⟨b, hb, hx⟩ := List.mem_flatten.1 hx
  obtain ⟨k, hk, rfl⟩ := List.mem_iff_getElem.1 hb
  have := (h k hk).2
  rw [few_iff] at this
  refine this x ?_
  simpa [List.getD, hk] using hx

theorem few_app {a b : List Wr} (ha : Few a) (hb : Few b) : Few (a ++ b) := few_iff.2 fun x hx => by
  rcases List.mem_append.1 hx with h | h
  · exact few_iff.1 ha x h
  · exact few_iff.1 hb x h

theorem hnW_few {hs : List Hn} (h : FewH hs) : Few (hnW hs) := fun i hi => by
  have hi' : i < hs.length := by rwa [hnW_len] at hi
  rw [hnW_get hs hi']
  exact h i hi'

theorem fewB_take {bs : List (List Wr)} (h : FewB bs) (k : Nat) : FewB (bs.take k) := fun i hi => by
  have hi' : i < bs.length := by simp at hi; omega
  have hk : i < k := by simp at hi; omega
  have e : (bs.take k).getD i [] = bs.getD i [] := by simp [List.getD, hk]
  rw [e]
  exact h i hi'

theorem fewH_take {hs : List Hn} (h : FewH hs) (k : Nat) : FewH (hs.take k) := fun i hi => by
  have hi' : i < hs.length := by simp at hi; omega
  have hk : i < k := by simp at hi; omega
  have e : (hs.take k).getD i hnz = hs.getD i hnz := by simp [List.getD, hk]
  rw [e]
  exact h i hi'

theorem heft_take_le : ∀ (bs : List (List Wr)) (k : Nat), heftB (bs.take k) ≤ heftB bs
  | [], k => by simp [heftB]
  | b :: r, 0 => by simp [heftB]
  | b :: r, k + 1 => by
    have := heft_take_le r k
    simp only [List.take_succ_cons, heftB]
    omega

/-- The keys of a right group's writes. -/
theorem group_keys {bs : List (List Wr)} {hs : List Hn} (h : groupOkB bs hs = true) : ∀ x ∈ allG bs hs, 0 ≤ x.k ∧ x.k ≤ 5 := by
  unfold groupOkB at h
  simp only [Bool.and_eq_true, List.all_eq_true] at h
  obtain ⟨⟨-, h1⟩, h2⟩ := h
  intro x hx
  rcases List.mem_append.1 hx with hx | hx
  · obtain ⟨b, hb, hx⟩ := List.mem_flatten.1 hx
    exact mapOk_keys (h1 b hb) x hx
  · obtain ⟨y, hy, rfl⟩ := List.mem_map.1 hx
    have := h2 y hy
    unfold hintOkB at this
    simp only [Bool.and_eq_true] at this
    exact okW_key this.2

theorem group_mapOk {bs : List (List Wr)} {hs : List Hn} (h : groupOkB bs hs = true) {k : Nat} (hk : k < bs.length) : mapOkB (bs.getD k []) = true := by
  unfold groupOkB at h
  simp only [Bool.and_eq_true, List.all_eq_true] at h
  exact h.1.2 _ (by simp [List.getD, hk])

theorem group_hintOk {bs : List (List Wr)} {hs : List Hn} (h : groupOkB bs hs = true) {k : Nat} (hk : k < hs.length) : okW (hs.getD k hnz).x = true := by
  unfold groupOkB at h
  simp only [Bool.and_eq_true, List.all_eq_true] at h
  have := h.2 (hs.getD k hnz) (by simp [List.getD, hk])
  unfold hintOkB at this
  simp only [Bool.and_eq_true] at this
  exact this.2

/-- What the registers tell is what was joined. -/
theorem told_all {bs : List (List Wr)} {hs : List Hn} (h : groupOkB bs hs = true) : toldM ((allG bs hs).foldl regPut (fun _ => none)) = spreadL bs hs := by
  unfold spreadL
  rw [if_pos h]
  have := told_join (a := []) (b := allG bs hs) (by simp [Rise]) (fun x hx => by cases hx) (group_keys h)
  simpa using this

end Go.Proofs.Ytojgahcogpediaa

/- What is spread, the program's side: the contract of impl.Spread. -/
namespace Go.Proofs.Ytojgahcogpediaa
open Go.ChangeShapes Go.WideShapes Go.ChangeAt Go.RowKit Go.Joins
attribute [local go_sem ↓] Go.wp_at_zero Go.wp_at_succ

/-- As at, the writes in the world of the slice. -/
theorem IsBs.base {w w' : World} {a : Option Addr} {bs : List (List Wr)} (h : IsBs w a bs) (hb : Below w.heap.size w w') {k : Nat} (hk : k < bs.length) : ∃ b o a' cap, a = some ⟨b, o, none⟩ ∧ b < w'.heap.size ∧ w'.cell? ⟨b, o + k, none⟩ = some (.slice a' (bs.getD k []).length cap) ∧ IsWs w a' (bs.getD k []) := by
  rcases h with h | ⟨b, o, ha, hlt, hh⟩
  · subst h
    simp at hk
  · obtain ⟨a', cap, hc, hw⟩ := hh k hk
    exact ⟨b, o, a', cap, ha, Nat.lt_of_lt_of_le hlt hb.size, (hb.cell (p := ⟨b, o + k, none⟩) hlt).trans hc, hw⟩

theorem IsHs.base {w w' : World} {a : Option Addr} {hs : List Hn} (h : IsHs w a hs) (hb : Below w.heap.size w w') {k : Nat} (hk : k < hs.length) :
    ∃ b o a' cap, a = some ⟨b, o, none⟩ ∧ b < w'.heap.size ∧ HnAt w' b (o + k * 8) (hs.getD k hnz) a' cap ∧ IsDeps w a' (hs.getD k hnz).x.xs := by
  rcases h with h | ⟨b, o, ha, hlt, hh⟩
  · subst h
    simp at hk
  · obtain ⟨a', cap, h1, h2, h3⟩ := hh k hk
    exact ⟨b, o, a', cap, ha, Nat.lt_of_lt_of_le hlt hb.size, h1.of_block (hb.block b hlt), h3⟩

set_option maxRecDepth 100000 in
set_option maxHeartbeats 8000000 in
theorem implSpread_any (am : Option Addr) (m cm : Nat) (ah : Option Addr) (n cn : Nat) (bs : List (List Wr)) (hs : List Hn) (w : World) (hm : bs.length = m) (hmm : m ≤ 1048576) (hhe : heftB bs ≤ 1048576) (hfb : FewB bs) (hb : IsBs w am bs) (hn : hs.length = n) (hnn : n ≤ 1048576) (hfh : FewH hs) (hh : IsHs w ah hs) :
    Calls Try.prog 22 #[gpV am m cm ah n cn] w fun e w' => ∃ v es, e = .returned v ∧ es.map (·.x) = spreadL bs hs ∧ RowG w' w.heap.size v es ∧ Below w.heap.size w w' := by
  have HBS := Lib.hid hb
  have HHS := Lib.hid hh
  have HM := Lib.hid hm
  have HN := Lib.hid hn
  have HFB := Lib.hid hfb
  have HFH := Lib.hid hfh
  have HHE := Lib.hid hhe
  have HA : Hid (Below w.heap.size w (w.alloc (.cells #[.slice am m cm, .slice ah n cn] 31))) := (Below.refl _ _).alloc (Nat.le_refl _) _
  have HX : Hid ((w.alloc (.cells #[.slice am m cm, .slice ah n cn] 31)).heap[w.heap.size]? = some (.cells #[.slice am m cm, .slice ah n cn] 31 (0, 0))) := heap_alloc_new _ _
  have HSZ : Hid ((w.alloc (.cells #[.slice am m cm, .slice ah n cn] 31)).heap.size = w.heap.size + 1) := by show _ = _; simp
  clear hb hh hm hn hfb hfh hhe
  obtain ⟨t, ht⟩ : ∃ t, groupOkB bs hs = t := ⟨_, rfl⟩
  have hmk := @run_makeMap Try.prog
  go_enter Try.func22, Try.ntmps22
  go_wp2_with fail
  refine (implGroupOk_any am m cm ah n cn bs hs _ HM.out hmm HFB.out (HBS.out.below HA.out) HN.out hnn HFH.out (HHS.out.below HA.out)).mono ?_
  rintro e w1 ⟨rfl, hb⟩
  rw [ht]
  have HB1 := Lib.hid (below_step HA.out HA.out.size hb)
  have HQ1 : Hid (w1.heap[w.heap.size]? = some (.cells #[.slice am m cm, .slice ah n cn] 31 (0, 0))) := (hb.block w.heap.size (by rw [HSZ.out]; omega)).trans HX.out
  have hlt : w.heap.size < w1.heap.size := by have := hb.size; rw [HSZ.out] at this; omega
  clear hb HA HX HSZ
  cases t
  · have HE : Hid (spreadL bs hs = []) := by
      unfold spreadL
      rw [if_neg (by rw [ht]; simp)]
      exact rfl
    clear hmk
    go_wp2
    go_ret
    exact ⟨_, [], rfl, HE.out.symm, rowG_nil _ _, HB1.out⟩
  have HT := Lib.hid ht
  clear ht
  have c0 := cell_of_row w1 w.heap.size 0 _ _ _ HQ1.out
  have c1 := cell_of_row w1 w.heap.size 1 _ _ _ HQ1.out
  simp at c0 c1
  have HBS1 := Lib.hid (HBS.out.below HB1.out)
  have HHS1 := Lib.hid (HHS.out.below HB1.out)
  have HB2 : Hid (Below w1.heap.size w1 (w1.alloc (.map #[] 0))) := (Below.refl _ _).alloc (Nat.le_refl _) _
  have HR2 : Hid (RegsW w1 (w1.alloc (.map #[] 0)) w1.heap.size 0 (fun _ => none)) := ⟨_, regs_made w1, fun k => ⟨fun _ => rfl, fun x h => by cases h⟩⟩
  have d0 := held_cell HB2.out c0 hlt
  have d1 := held_cell HB2.out c1 hlt
  have HD0 := Lib.hid c0
  have HD1 := Lib.hid c1
  go_wp2
  clear c0 c1 d0 d1 hmk HBS HHS
  generalize w1.alloc (.map #[] 0) = W at *
  go_loopw [15] (fun i wr => ∃ k : Nat, k ≤ m ∧ i = .int .i64 k ∧ Hid (RegsW w1 wr w1.heap.size (bs.take k).flatten.length ((bs.take k).flatten.foldl regPut (fun _ => none))) ∧ Hid (Below w1.heap.size w1 wr)) (fun i _ => m - (intOf i).toNat)
  case atStart => exact ⟨0, Nat.zero_le _, rfl, HR2, HB2⟩
  case round =>
    obtain ⟨k, hk, rfl, HR, HB⟩ := hrel
    by_cases hk' : k < m
    · have hkk : k < bs.length := by rw [HM.out]; exact hk'
      have i1 : (0 : Int) ≤ (k : Int) := by omega
      have i2 : (k : Int) < (m : Int) := by omega
      obtain ⟨b, o, ad, cp, rfl, hz, e0, hw⟩ := HBS1.out.base HB.out hkk
      obtain ⟨hl, hf⟩ := HFB.out k hkk
      have HW := Lib.hid hw
      have HF := Lib.hid hf
      have HKY := Lib.hid (mapOk_keys' (group_mapOk HT.out hkk))
      have hfl : (bs.take k).flatten.length ≤ 1048576 := Nat.le_trans (flat_len _) (Nat.le_trans (heft_take_le bs k) HHE.out)
      have HFT := Lib.hid (flat_take bs hkk)
      clear hw hf
      generalize bs.getD k [] = ws at *
      obtain ⟨q, hq⟩ : ∃ q, ws.length = q := ⟨_, rfl⟩
      rw [hq] at e0 hl
      have HQL := Lib.hid hq
      clear hq
      have HAL : Hid (Below wr.heap.size wr (wr.alloc (.cells #[.slice ad q cp] 63))) := (Below.refl _ _).alloc (Nat.le_refl _) _
      have HBA := Lib.hid (below_step HB.out HB.out.size HAL.out)
      go_wp2_with fail
      refine (putAll_any w1 w1.heap.size _ _ ad q cp ws _ HQL.out hl hfl HF.out HKY.out HW.out HBA.out (Nat.le_refl _) (HR.out.below HAL.out)).mono ?_
      rintro e w2 ⟨rfl, hr2, hb2⟩
      have HR3 : Hid (RegsW w1 w2 w1.heap.size (bs.take (k + 1)).flatten.length ((bs.take (k + 1)).flatten.foldl regPut (fun _ => none))) := by
        rw [HFT.out, List.length_append, HQL.out, List.foldl_append]
        exact hr2
      have HB3 := Lib.hid hb2
      clear hr2 hb2
      go_wp2
      exact ⟨⟨k + 1, by omega, by go_num, HR3, HB3⟩, by simp [intOf]; omega⟩
    · have hkk : k = m := by omega
      subst hkk
      have HRF : Hid (RegsW w1 wr w1.heap.size bs.flatten.length (bs.flatten.foldl regPut (fun _ => none))) := by
        have := HR.out
        rwa [List.take_of_length_le (by rw [HM.out]; exact Nat.le_refl _)] at this
      have hfl : bs.flatten.length ≤ 1048576 := Nat.le_trans (flat_len _) HHE.out
      have d0 := held_cell HB.out HD0.out hlt
      have d1 := held_cell HB.out HD1.out hlt
      clear HR
      go_wp2
      clear d0 d1
      go_loopw [27] (fun i wr => ∃ p : Nat, p ≤ n ∧ i = .int .i64 p ∧ Hid (RegsW w1 wr w1.heap.size (bs.flatten.length + p) ((bs.flatten ++ hnW (hs.take p)).foldl regPut (fun _ => none))) ∧ Hid (Below w1.heap.size w1 wr)) (fun i _ => n - (intOf i).toNat)
      case atStart => exact ⟨0, Nat.zero_le _, rfl, Lib.hid (by have := HRF.out; simpa [hnW] using this), HB⟩
      case round =>
        obtain ⟨p, hp, rfl, HR, HB3⟩ := hrel
        by_cases hp' : p < n
        · have hpp : p < hs.length := by rw [HN.out]; exact hp'
          have i1 : (0 : Int) ≤ (p : Int) := by omega
          have i2 : (p : Int) < (n : Int) := by omega
          obtain ⟨b2, o2, ad2, cp2, rfl, hz2, ⟨e0, e1, e2, e3, e4, e5, e6, e7⟩, hd⟩ := HHS1.out.base HB3.out hpp
          have hxl := HFH.out p hpp
          have HD := Lib.hid hd
          have hkk := okW_key (group_hintOk HT.out hpp)
          have HHT := Lib.hid (hnW_take hs hpp)
          clear hd
          generalize hs.getD p hnz = y at *
          obtain ⟨yf, yk, yc, ys, yq, yv, yd, yy⟩ := y
          simp only at e0 e1 e2 e3 e4 e5 e6 e7 hxl HD hkk HHT
          have HAL : Hid (Below wr.heap.size wr (wr.alloc (.cells #[.int .i64 yf, .int .i64 yk, .int .i64 yc, .int .i64 ys, .int .i64 yq, .int .i64 yv, .bool yd, .slice ad2 yy.length cp2] 65))) := (Below.refl _ _).alloc (Nat.le_refl _) _
          have HBA := Lib.hid (below_step HB3.out HB3.out.size HAL.out)
          go_wp2_with fail
          refine (putOne_any w1 w1.heap.size _ _ ⟨yk, yc, ys, yq, yv, yd, yy⟩ ad2 cp2 _ (by omega) hxl hkk HD.out HBA.out (Nat.le_refl _) (HR.out.below HAL.out)).mono ?_
          rintro e w4 ⟨rfl, hr2, hb2⟩
          have HR4 : Hid (RegsW w1 w4 w1.heap.size (bs.flatten.length + (p + 1)) ((bs.flatten ++ hnW (hs.take (p + 1))).foldl regPut (fun _ => none))) := by
            rw [HHT.out, ← List.append_assoc, List.foldl_append]
            exact hr2
          have HB4 := Lib.hid hb2
          clear hr2 hb2
          go_wp2
          exact ⟨⟨p + 1, by omega, by go_num, HR4, HB4⟩, by simp [intOf]; omega⟩
        · have hpp : p = n := by omega
          subst hpp
          have HRE : Hid (RegsW w1 wr w1.heap.size (bs.flatten.length + p) ((allG bs hs).foldl regPut (fun _ => none))) := by
            have := HR.out
            rwa [List.take_of_length_le (by rw [HN.out]; exact Nat.le_refl _)] at this
          clear HR
          go_wp2_with fail
          refine (told_any w1 w1.heap.size _ _ _ HB3.out HRE.out).mono ?_
          rintro e w6 ⟨v, es, rfl, hes, hrow, hb6⟩
          have HES : Hid (es.map (·.x) = spreadL bs hs) := hes.trans (told_all HT.out)
          have HBF := Lib.hid (below_step HB1.out HB1.out.size HB3.out)
          have HRW := Lib.hid (hrow.mono HBF.out.size)
          have HB6 : Hid (Below w.heap.size w w6) := below_step HBF.out HBF.out.size hb6
          clear hes hrow hb6
          go_wp2
          go_ret
          exact ⟨v, es, rfl, HES.out, HRW.out, HB6.out⟩

end Go.Proofs.Ytojgahcogpediaa

/- Is a group right, the specification's side: the contract of spec.GroupOk. -/
namespace Go.Proofs.Ytojgahcogpediaa
open Go.ChangeShapes Go.WideShapes Go.ChangeAt Go.RowKit Go.Joins
attribute [local go_sem ↓] Go.wp_at_zero Go.wp_at_succ

set_option maxRecDepth 100000 in
set_option maxHeartbeats 4000000 in
theorem specGroupOk_any (am : Option Addr) (m cm : Nat) (ah : Option Addr) (n cn : Nat) (bs : List (List Wr)) (hs : List Hn) (w : World) (hm : bs.length = m) (hmm : m ≤ 1048576) (hfb : FewB bs) (hb : IsBs w am bs) (hn : hs.length = n) (hnn : n ≤ 1048576) (hfh : FewH hs) (hh : IsHs w ah hs) :
    Calls Try.prog 8 #[gpV am m cm ah n cn] w fun e w' => e = .returned (.bool (groupOkB bs hs)) ∧ Below w.heap.size w w' := by
  have HBS := Lib.hid hb
  have HHS := Lib.hid hh
  have HM := Lib.hid hm
  have HN := Lib.hid hn
  have HFB := Lib.hid hfb
  have HFH := Lib.hid hfh
  have HA : Hid (Below w.heap.size w (w.alloc (.cells #[.slice am m cm, .slice ah n cn] 31))) := (Below.refl _ _).alloc (Nat.le_refl _) _
  have HX : Hid ((w.alloc (.cells #[.slice am m cm, .slice ah n cn] 31)).heap[w.heap.size]? = some (.cells #[.slice am m cm, .slice ah n cn] 31 (0, 0))) := heap_alloc_new _ _
  have HSZ : Hid ((w.alloc (.cells #[.slice am m cm, .slice ah n cn] 31)).heap.size = w.heap.size + 1) := by show _ = _; simp
  clear hb hh hm hn hfb hfh
  obtain ⟨t, ht⟩ : ∃ t, btw (m : Int) 1 7 = t := ⟨_, rfl⟩
  go_enter Try.func8, Try.ntmps8
  go_wp2_with fail
  refine (between_any _ _ _ _).mono ?_
  rintro e w' ⟨rfl, rfl⟩
  rw [ht]
  cases t
  · have HT : Hid (groupOkB bs hs = false) := group_len (by rw [HM.out]; exact ht)
    go_wp2
    go_ret
    exact ⟨by rw [HT.out]; rfl, HA.out⟩
  have HT := Lib.hid ht
  clear ht
  go_wp2
  generalize w.alloc (.cells #[.slice am m cm, .slice ah n cn] 31) = W at *
  go_loopw [3] (fun i wr => ∃ k : Nat, k ≤ m ∧ i = .int .i64 k ∧ Hid (∀ j, j < k → mapOkB (bs.getD j []) = true) ∧ Hid (Below W.heap.size W wr)) (fun i _ => m - (intOf i).toNat)
  case atStart => exact ⟨0, Nat.zero_le _, rfl, fun j hj => absurd hj (Nat.not_lt_zero j), Below.refl _ _⟩
  case round =>
    obtain ⟨k, hk, rfl, HK, HB⟩ := hrel
    have HBW : Hid (Below w.heap.size w wr) := below_step HA.out HA.out.size HB.out
    by_cases hk' : k < m
    · have hkk : k < bs.length := by rw [HM.out]; exact hk'
      have i1 : (0 : Int) ≤ (k : Int) := by omega
      have i2 : (k : Int) < (m : Int) := by omega
      obtain ⟨b, o, ad, cp, rfl, hz, e0, hw⟩ := HBS.out.at HBW.out hkk
      obtain ⟨hl, hf⟩ := HFB.out k hkk
      have HW := Lib.hid hw
      have HF := Lib.hid hf
      have HNO : Hid (mapOkB (bs.getD k []) = false → groupOkB bs hs = false) := fun h => group_map hkk h
      have HYES : Hid (mapOkB (bs.getD k []) = true → ∀ j, j < k + 1 → mapOkB (bs.getD j []) = true) := fun h => next_all HK.out h
      clear hw hf
      generalize bs.getD k [] = ws at *
      obtain ⟨q, hq⟩ : ∃ q, ws.length = q := ⟨_, rfl⟩
      rw [hq] at e0 hl
      have HQ := Lib.hid hq
      clear hq
      obtain ⟨t, ht⟩ : ∃ t, mapOkB ws = t := ⟨_, rfl⟩
      have qb := (HB.out.block w.heap.size (by rw [HSZ.out]; omega)).trans HX.out
      have c0 := cell_of_row wr w.heap.size 0 _ _ _ qb
      have c1 := cell_of_row wr w.heap.size 1 _ _ _ qb
      simp at c0 c1
      clear qb
      go_wp2_with fail
      refine (specMapOk_gen ad q cp ws _ HQ.out hl HF.out HW.out).mono ?_
      rintro e w2 ⟨rfl, hb⟩
      rw [ht]
      have HB2 : Hid (Below W.heap.size W w2) := below_step HB.out HB.out.size hb
      have HBW2 : Hid (Below w.heap.size w w2) := below_step HBW.out HBW.out.size hb
      clear hb c0 c1
      cases t
      · have HR := Lib.hid (HNO.out ht)
        go_wp2
        go_ret
        exact ⟨by rw [HR.out]; rfl, HBW2.out⟩
      · have HK2 := Lib.hid (HYES.out ht)
        go_wp2
        exact ⟨⟨k + 1, by omega, by go_num, HK2, HB2⟩, by simp [intOf]; omega⟩
    · have hkk : k = m := by omega
      subst hkk
      have qb := (HB.out.block w.heap.size (by rw [HSZ.out]; omega)).trans HX.out
      have c0 := cell_of_row wr w.heap.size 0 _ _ _ qb
      have c1 := cell_of_row wr w.heap.size 1 _ _ _ qb
      simp at c0 c1
      clear qb
      go_wp2
      clear c0 c1
      go_loopw [4] (fun i w3 => ∃ p : Nat, p ≤ n ∧ i = .int .i64 p ∧ Hid (∀ j, j < p → hintOkB k (hs.getD j hnz) = true) ∧ Hid (Below W.heap.size W w3)) (fun i _ => n - (intOf i).toNat)
      case atStart => exact ⟨0, Nat.zero_le _, rfl, fun j hj => absurd hj (Nat.not_lt_zero j), HB⟩
      case round =>
        obtain ⟨p, hp, rfl, HP, HB3⟩ := hrel
        have HBW3 : Hid (Below w.heap.size w wr) := below_step HA.out HA.out.size HB3.out
        have qb := (HB3.out.block w.heap.size (by rw [HSZ.out]; omega)).trans HX.out
        have c0 := cell_of_row wr w.heap.size 0 _ _ _ qb
        have c1 := cell_of_row wr w.heap.size 1 _ _ _ qb
        simp at c0 c1
        have hlw : w.heap.size < wr.heap.size := by have := HB3.out.size; rw [HSZ.out] at this; omega
        clear qb
        by_cases hp' : p < n
        · have hpp : p < hs.length := by rw [HN.out]; exact hp'
          have i1 : (0 : Int) ≤ (p : Int) := by omega
          have i2 : (p : Int) < (n : Int) := by omega
          obtain ⟨b2, o2, ad2, cp2, rfl, hz2, ⟨e0, e1, e2, e3, e4, e5, e6, e7⟩, -, hd⟩ := HHS.out.at HBW3.out hpp
          have hxl := HFH.out p hpp
          have HD := Lib.hid hd
          have HNO : Hid (hintOkB k (hs.getD p hnz) = false → groupOkB bs hs = false) := fun h => group_hint hpp (by rw [HM.out]; exact h)
          have HYES : Hid (hintOkB k (hs.getD p hnz) = true → ∀ j, j < p + 1 → hintOkB k (hs.getD j hnz) = true) := fun h => next_all HP.out h
          clear hd
          generalize hs.getD p hnz = y at *
          obtain ⟨yf, yk, yc, ys, yq, yv, yd, yy⟩ := y
          simp only at e0 e1 e2 e3 e4 e5 e6 e7 hxl HD
          obtain ⟨t, ht⟩ : ∃ t, btw yf 0 ((k : Int) - 1) = t := ⟨_, rfl⟩
          obtain ⟨z, hz0⟩ : ∃ z, writeOkB yk yc ys yq yv yd yy = z := ⟨_, rfl⟩
          have HC : Hid (∀ P : Aft wr.heap.size wr, Calls Try.prog 34 #[wrV yk yc ys yq yv yd ad2 yy.length cp2] P.now fun e w' => e = .returned (.bool z) ∧ Below P.now.heap.size P.now w') := fun P => by
            have := specWriteOk_gen yk yc ys yq yv yd ad2 yy _ cp2 P.now rfl hxl (HD.out.below P.below)
            rw [← hz0]
            exact this
          have HC2 : Hid (∀ P : Aft wr.heap.size wr, Calls Try.prog 32 #[.int .i64 yf, .int .i64 0, .int .i64 ((k : Int) - 1)] P.now fun e w' => e = .returned (.bool t) ∧ Below P.now.heap.size P.now w') := fun P => by
            refine (between_any yf 0 ((k : Int) - 1) P.now).mono ?_
            rintro e w' ⟨rfl, rfl⟩
            rw [ht]
            exact ⟨rfl, Below.refl _ _⟩
          go_wp2_with fail
          have gc0 := aft_cell hlw c0
          have gc1 := aft_cell hlw c1
          have ge0 := aft_cell hz2 e0
          have ge1 := aft_cell hz2 e1
          have ge2 := aft_cell hz2 e2
          have ge3 := aft_cell hz2 e3
          have ge4 := aft_cell hz2 e4
          have ge5 := aft_cell hz2 e5
          have ge6 := aft_cell hz2 e6
          have ge7 := aft_cell hz2 e7
          have ne := aft_some wr
          cases t
          · refine wp_region_aft (by kernel_rfl) (by kernel_rfl) ?_
            repeat (first | go_big_quiet_step (first | (go_at_call 32; exact aft_of (HC2.out _)) | (go_at_call 34; exact aft_of (HC.out _))))
            refine wpQuiet_nil ?_
            intro wq hq
            have HBQ : Hid (Below W.heap.size W wq) := below_step HB3.out HB3.out.size hq
            have HBF : Hid (Below w.heap.size w wq) := below_step HBW3.out HBW3.out.size hq
            clear hq gc0 gc1 ge0 ge1 ge2 ge3 ge4 ge5 ge6 ge7 ne HC HC2
            have HR := Lib.hid (HNO.out (by simp [hintOkB, ht]))
            go_wp2
            go_ret
            exact ⟨by rw [HR.out]; rfl, HBF.out⟩
          · refine wp_region_aft (by kernel_rfl) (by kernel_rfl) ?_
            repeat (first | go_big_quiet_step (first | (go_at_call 32; exact aft_of (HC2.out _)) | (go_at_call 34; exact aft_of (HC.out _))))
            refine wpQuiet_nil ?_
            intro wq hq
            have HBQ : Hid (Below W.heap.size W wq) := below_step HB3.out HB3.out.size hq
            have HBF : Hid (Below w.heap.size w wq) := below_step HBW3.out HBW3.out.size hq
            clear hq gc0 gc1 ge0 ge1 ge2 ge3 ge4 ge5 ge6 ge7 ne HC HC2
            cases z
            · have HR := Lib.hid (HNO.out (by simp [hintOkB, okW, hz0]))
              go_wp2
              go_ret
              exact ⟨by rw [HR.out]; rfl, HBF.out⟩
            · have HP2 := Lib.hid (HYES.out (by simp [hintOkB, okW, ht, hz0]))
              go_wp2
              exact ⟨⟨p + 1, by omega, by go_num, HP2, HBQ⟩, by simp [intOf]; omega⟩
        · have hpp : p = n := by omega
          subst hpp
          have HR : Hid (groupOkB bs hs = true) := group_all (by rw [HM.out]; exact HT.out) (fun j hj => HK.out j (by rw [← HM.out]; exact hj)) (fun j hj => by rw [HM.out]; exact HP.out j (by rw [← HN.out]; exact hj))
          go_wp2
          go_ret
          exact ⟨by rw [HR.out]; rfl, HBW3.out⟩

end Go.Proofs.Ytojgahcogpediaa

/- What is spread, the specification's side: the contract of spec.Spread. -/
namespace Go.Proofs.Ytojgahcogpediaa
open Go.ChangeShapes Go.WideShapes Go.ChangeAt Go.RowKit Go.Joins
attribute [local go_sem ↓] Go.wp_at_zero Go.wp_at_succ

theorem few_nil : Few [] := fun i hi => by simp at hi

set_option maxRecDepth 100000 in
set_option maxHeartbeats 8000000 in
theorem specSpread_any (am : Option Addr) (m cm : Nat) (ah : Option Addr) (n cn : Nat) (bs : List (List Wr)) (hs : List Hn) (w : World) (hm : bs.length = m) (hmm : m ≤ 1048576) (hhe : heftB bs + n ≤ 1048576) (hfb : FewB bs) (hb : IsBs w am bs) (hn : hs.length = n) (hnn : n ≤ 1048576) (hfh : FewH hs) (hh : IsHs w ah hs) :
    Calls Try.prog 21 #[gpV am m cm ah n cn] w fun e w' => ∃ g cp es L, e = .returned (.slice (some ⟨g, 0, none⟩) L cp) ∧ es.length = L ∧ es.map (·.x) = spreadL bs hs ∧ RowEs w' w.heap.size g cp es ∧ Below w.heap.size w w' := by
  have HBS := Lib.hid hb
  have HHS := Lib.hid hh
  have HM := Lib.hid hm
  have HN := Lib.hid hn
  have HFB := Lib.hid hfb
  have HFH := Lib.hid hfh
  have HHE := Lib.hid hhe
  have HA0 : Hid (Below w.heap.size w (w.alloc (.cells #[.slice am m cm, .slice ah n cn] 31))) := (Below.refl _ _).alloc (Nat.le_refl _) _
  have HA : Hid (Below w.heap.size w ((w.alloc (.cells #[.slice am m cm, .slice ah n cn] 31)).alloc (.cells #[] 41))) := HA0.out.alloc HA0.out.size _
  have HX : Hid (((w.alloc (.cells #[.slice am m cm, .slice ah n cn] 31)).alloc (.cells #[] 41)).heap[w.heap.size]? = some (.cells #[.slice am m cm, .slice ah n cn] 31 (0, 0))) := heap_alloc2_old w _ _
  have HSZ : Hid (((w.alloc (.cells #[.slice am m cm, .slice ah n cn] 31)).alloc (.cells #[] 41)).heap.size = w.heap.size + 2) := by show _ = _; simp
  have HRW : Hid (RowEs ((w.alloc (.cells #[.slice am m cm, .slice ah n cn] 31)).alloc (.cells #[] 41)) w.heap.size (w.heap.size + 1) 0 []) := by
    have := rowEs_start (w.alloc (.cells #[.slice am m cm, .slice ah n cn] 31)) w.heap.size HA0.out.size
    rwa [show (w.alloc (.cells #[.slice am m cm, .slice ah n cn] 31)).heap.size = w.heap.size + 1 by simp] at this
  clear hb hh hm hn hfb hfh hhe HA0
  obtain ⟨t, ht⟩ : ∃ t, groupOkB bs hs = t := ⟨_, rfl⟩
  go_enter Try.func21, Try.ntmps21
  go_wp2_with fail
  generalize (w.alloc (.cells #[.slice am m cm, .slice ah n cn] 31)).alloc (.cells #[] 41) = W0 at *
  refine (specGroupOk_any am m cm ah n cn bs hs _ HM.out hmm HFB.out (HBS.out.below HA.out) HN.out hnn HFH.out (HHS.out.below HA.out)).mono ?_
  rintro e w1 ⟨rfl, hb⟩
  rw [ht]
  have HB1 := Lib.hid (below_step HA.out HA.out.size hb)
  have HQ1 : Hid (w1.heap[w.heap.size]? = some (.cells #[.slice am m cm, .slice ah n cn] 31 (0, 0))) := (hb.block w.heap.size (by rw [HSZ.out]; omega)).trans HX.out
  have hlt : w.heap.size < w1.heap.size := by have := hb.size; rw [HSZ.out] at this; omega
  have HR1 := Lib.hid (HRW.out.below hb)
  clear hb HA HX HSZ HRW
  cases t
  · have HE : Hid (spreadL bs hs = []) := by
      unfold spreadL
      rw [if_neg (by rw [ht]; simp)]
      exact rfl
    go_wp2
    go_ret
    exact ⟨w.heap.size + 1, 0, [], 0, rfl, rfl, HE.out.symm, HR1.out, HB1.out⟩
  have HT := Lib.hid ht
  clear ht
  have c0 := cell_of_row w1 w.heap.size 0 _ _ _ HQ1.out
  have c1 := cell_of_row w1 w.heap.size 1 _ _ _ HQ1.out
  simp at c0 c1
  have HD0 := Lib.hid c0
  have HD1 := Lib.hid c1
  clear c0 c1
  go_wp2
  go_loopw [3, 4] (fun t i wr => ∃ (k g cp L : Nat) (es : List En), k ≤ m ∧ i = .int .i64 k ∧ t = .slice (some ⟨g, 0, none⟩) L cp ∧ Hid (es.length = L) ∧ Hid (es.map (·.x) = joinW [] (bs.take k).flatten) ∧ Hid (RowEs wr w.heap.size g cp es) ∧ Hid (Below w1.heap.size w1 wr)) (fun _ i _ => m - (intOf i).toNat)
  case atStart => exact ⟨0, w.heap.size + 1, 0, 0, [], Nat.zero_le _, rfl, rfl, rfl, rfl, HR1, Below.refl _ _⟩
  case round =>
    obtain ⟨k, g, cp, L, es, hk, rfl, rfl, HL, HE, HR, HB⟩ := hrel
    have d0 := held_cell HB.out HD0.out hlt
    have d1 := held_cell HB.out HD1.out hlt
    have HBW := Lib.hid (below_step HB1.out HB1.out.size HB.out)
    by_cases hk' : k < m
    · have hkk : k < bs.length := by rw [HM.out]; exact hk'
      have i1 : (0 : Int) ≤ (k : Int) := by omega
      have i2 : (k : Int) < (m : Int) := by omega
      obtain ⟨b, o, ad, cp2, rfl, hz, e0, hw⟩ := HBS.out.at HBW.out hkk
      obtain ⟨hl, hf⟩ := HFB.out k hkk
      have HW := Lib.hid hw
      have HF := Lib.hid hf
      have hUF : Few (joinW [] (bs.take k).flatten) := join_few _ [] few_nil (flat_few (fewB_take HFB.out k))
      have hUL : (joinW [] (bs.take k).flatten).length = L := by rw [← HE.out, List.length_map]; exact HL.out
      have hsum : L + (bs.getD k []).length ≤ 1048576 := by
        have h1 := join_len [] (bs.take k).flatten
        have h2 := flat_len (bs.take k)
        have h3 := heft_take bs k hkk
        have h4 := heft_take_le bs (k + 1)
        have h5 := HHE.out
        rw [hUL] at h1
        simp only [List.length_nil] at h1
        omega
      have HUF := Lib.hid hUF
      have HUL := Lib.hid hUL
      have HFT : Hid (joinW (joinW [] (bs.take k).flatten) (bs.getD k []) = joinW [] (bs.take (k + 1)).flatten) := by
        rw [flat_take bs hkk, joinW_app]
        exact rfl
      have HIW := Lib.hid (HR.out.isWs HE.out hUF)
      clear hw hf hUF hUL
      generalize bs.getD k [] = ws at *
      obtain ⟨q, hq⟩ : ∃ q, ws.length = q := ⟨_, rfl⟩
      rw [hq] at e0 hl hsum
      have HQL := Lib.hid hq
      clear hq
      go_wp2_with fail
      refine (l02Join_gen _ ad L q cp cp2 (joinW [] (bs.take k).flatten) ws _ HUL.out HQL.out hsum HUF.out HF.out HIW.out HW.out).mono ?_
      rintro e w2 ⟨g2, c2, es2, L2, rfl, hL2, hes2, hr2, hb2⟩
      have HL2 := Lib.hid hL2
      have HE2 := Lib.hid (hes2.trans HFT.out)
      have HR2 := Lib.hid (hr2.mono (base' := w.heap.size) HBW.out.size)
      have HB2 := Lib.hid (below_step HB.out HB.out.size hb2)
      clear hL2 hes2 hr2 hb2 d0 d1
      go_wp2
      exact ⟨⟨k + 1, g2, c2, L2, es2, by omega, by go_num, rfl, HL2, HE2, HR2, HB2⟩, by simp [intOf]; omega⟩
    · have hkk : k = m := by omega
      subst hkk
      have HEF : Hid (es.map (·.x) = joinW [] bs.flatten) := by
        have := HE.out
        rwa [List.take_of_length_le (by rw [HM.out]; exact Nat.le_refl _)] at this
      clear HE
      go_wp2
      clear d0 d1
      go_loopw [3, 5] (fun t i wr => ∃ (p g cp L : Nat) (es : List En), p ≤ n ∧ i = .int .i64 p ∧ t = .slice (some ⟨g, 0, none⟩) L cp ∧ Hid (es.length = L) ∧ Hid (es.map (·.x) = joinW [] (bs.flatten ++ hnW (hs.take p))) ∧ Hid (RowEs wr w.heap.size g cp es) ∧ Hid (Below w1.heap.size w1 wr)) (fun _ i _ => n - (intOf i).toNat)
      case atStart => exact ⟨0, g, cp, L, es, Nat.zero_le _, rfl, rfl, HL, Lib.hid (by have := HEF.out; simpa [hnW] using this), HR, HB⟩
      case round =>
        clear HL HEF HR HB HBW
        obtain ⟨p, g, cp, L, es, hp, rfl, rfl, HL, HE, HR, HB⟩ := hrel
        have d0 := held_cell HB.out HD0.out hlt
        have d1 := held_cell HB.out HD1.out hlt
        have HBW := Lib.hid (below_step HB1.out HB1.out.size HB.out)
        by_cases hp' : p < n
        · have hpp : p < hs.length := by rw [HN.out]; exact hp'
          have i1 : (0 : Int) ≤ (p : Int) := by omega
          have i2 : (p : Int) < (n : Int) := by omega
          obtain ⟨b2, o2, ad2, cp2, rfl, hz2, ⟨e0, e1, e2, e3, e4, e5, e6, e7⟩, -, hd⟩ := HHS.out.at HBW.out hpp
          have hxl := HFH.out p hpp
          have HD := Lib.hid hd
          have hUF : Few (joinW [] (bs.flatten ++ hnW (hs.take p))) := join_few _ [] few_nil (few_app (flat_few HFB.out) (hnW_few (fewH_take HFH.out p)))
          have hUL : (joinW [] (bs.flatten ++ hnW (hs.take p))).length = L := by rw [← HE.out, List.length_map]; exact HL.out
          have hL6 : L ≤ 1048576 := by
            have h1 := join_len [] (bs.flatten ++ hnW (hs.take p))
            have h2 := flat_len bs
            have h5 := HHE.out
            rw [hUL, List.length_append, hnW_len, List.length_take] at h1
            simp only [List.length_nil] at h1
            omega
          have HUF := Lib.hid hUF
          have HUL := Lib.hid hUL
          have HFT : Hid (putW (joinW [] (bs.flatten ++ hnW (hs.take p))) (hs.getD p hnz).x = joinW [] (bs.flatten ++ hnW (hs.take (p + 1)))) := by
            rw [hnW_take hs hpp, ← List.append_assoc, ← join_put]
            exact rfl
          have HIW := Lib.hid (HR.out.isWs HE.out hUF)
          clear hd hUF hUL
          generalize hs.getD p hnz = y at *
          obtain ⟨yf, yk, yc, ys, yq, yv, yd, yy⟩ := y
          simp only at e0 e1 e2 e3 e4 e5 e6 e7 hxl HD HFT
          go_wp2_with fail
          refine (put_gen _ L cp (joinW [] (bs.flatten ++ hnW (hs.take p))) ⟨yk, yc, ys, yq, yv, yd, yy⟩ ad2 cp2 _ HUL.out hL6 HUF.out HIW.out hxl HD.out).mono ?_
          rintro e w2 ⟨g2, c2, es2, L2, rfl, hL2, hes2, hr2, hb2⟩
          have HL2 := Lib.hid hL2
          have HE2 := Lib.hid (hes2.trans HFT.out)
          have HR2 := Lib.hid (hr2.mono (base' := w.heap.size) (Nat.le_succ_of_le HBW.out.size))
          have HB2 := Lib.hid (below_step HB.out HB.out.size hb2)
          clear hL2 hes2 hr2 hb2 d0 d1
          go_wp2
          exact ⟨⟨p + 1, g2, c2, L2, es2, by omega, by go_num, rfl, HL2, HE2, HR2, HB2⟩, by simp [intOf]; omega⟩
        · have hpp : p = n := by omega
          subst hpp
          have HEF : Hid (es.map (·.x) = spreadL bs hs) := by
            have := HE.out
            rw [List.take_of_length_le (by rw [HN.out]; exact Nat.le_refl _)] at this
            unfold spreadL
            rw [if_pos HT.out]
            exact this
          go_wp2
          go_ret
          exact ⟨g, cp, es, L, rfl, HL.out, HEF.out, HR.out, HBW.out⟩

end Go.Proofs.Ytojgahcogpediaa
