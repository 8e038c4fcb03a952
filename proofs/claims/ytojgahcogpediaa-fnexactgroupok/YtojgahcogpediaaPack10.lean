import Derived.Test.YtojgahcogpediaaPack9
import Derived.Deep.OwnRows
import Derived.Test.YtojgahcogpediaaPack8
import Derived.Test.YtojgahcogpediaaPack6
import Derived.Test.YtojgahcogpediaaPack1
import Derived.Deep.Slices
import Derived.Deep.Strs
import Derived.Test.YtojgahcogpediaaPack2
/- Marks of maps: the contracts of markRepS, heldRepS. -/
namespace Go.Proofs.Ytojgahcogpediaa
open Go.ChangeShapes Go.WideShapes Go.ChangeAt Go.RowKit Go.Joins
attribute [local go_sem ↓] Go.wp_at_zero Go.wp_at_succ

set_option maxRecDepth 100000 in
set_option maxHeartbeats 4000000 in
theorem markRepS_any (lo hi n cap : Nat) (a : Option Addr) (k : Int) (es : List Bat) (w : World) (hn : es.length = n) (hm : n ≤ 1048576) (ht : TameB es k) (ho : OwnB w lo hi a es) :
    Calls Try.prog 55 #[.slice a n cap, .int .i64 k] w fun e w' => e = .returned (.int .i64 (markKB es k)) ∧ MarkedB w' a es k ∧ Only (Span lo hi) w w' := by
  by_cases hz : n = 0
  · subst hz
    have he : es = [] := List.length_eq_zero_iff.1 hn
    subst he
    clear ho hn ht
    go_enter Try.func55, Try.ntmps55
    go_wp2
    go_loopw [1, 5] (fun l i wr => i = .int .i64 0 ∧ l = .int .i64 k ∧ wr = w) (fun _ _ _ => 0)
    case atStart => exact ⟨rfl, rfl, rfl⟩
    case round =>
      obtain ⟨rfl, rfl, rfl⟩ := hrel
      go_wp2
      go_ret
      exact ⟨rfl, .inl rfl, Only.refl _ _⟩
  · obtain ⟨b, rfl, hlo, hhi, hlt, hat, hown, hpw⟩ : ∃ b, a = some ⟨b, 0, none⟩ ∧ lo ≤ b ∧ b < hi ∧ b < w.heap.size ∧ BatsAt w b es ∧ (∀ i, i < es.length → lo ≤ (es.getD i btz).lo ∧ (es.getD i btz).hi ≤ hi ∧ (b < (es.getD i btz).lo ∨ (es.getD i btz).hi ≤ b) ∧ OwnA w (es.getD i btz).lo (es.getD i btz).hi (es.getD i btz).a (es.getD i btz).ws (es.getD i btz).γ) ∧ ∀ i j, i < j → j < es.length → (es.getD i btz).hi ≤ (es.getD j btz).lo := by
      rcases ho with h | h
      · rw [h] at hn
        exact absurd hn.symm hz
      · exact h
    have HAT := Lib.hid hat
    have HOW := Lib.hid hown
    have HPW := Lib.hid hpw
    have HT := Lib.hid ht
    have HN := Lib.hid hn
    clear hat hown hpw ht hn ho
    go_enter Try.func55, Try.ntmps55
    go_wp2
    go_loopw [1, 5] (fun l i wr => ∃ (j : Nat), j ≤ n ∧ i = .int .i64 j ∧ l = .int .i64 (markKB (es.take j) k) ∧ Hid (BatsAt wr b es) ∧ Hid (∀ i, i < j → MarkedS wr (es.getD i btz) (markKB (es.take i) k)) ∧ Hid (∀ i, j ≤ i → i < n → OwnA wr (es.getD i btz).lo (es.getD i btz).hi (es.getD i btz).a (es.getD i btz).ws (es.getD i btz).γ) ∧ Hid (Only (Span lo hi) w wr)) (fun _ i _ => n - (intOf i).toNat)
    case atStart => exact ⟨0, Nat.zero_le _, rfl, rfl, HAT, fun i h => absurd h (Nat.not_lt_zero i), fun i _ h => (HOW.out i (by rw [HN.out]; exact h)).2.2.2, Only.refl _ _⟩
    case round =>
      obtain ⟨j, hj, rfl, rfl, HA, HM, HO, HL⟩ := hrel
      by_cases hj' : j < n
      · have hjj : j < es.length := by rw [HN.out]; exact hj'
        have i1 : (0 : Int) ≤ (j : Int) := by omega
        have i2 : (j : Int) < (n : Int) := by omega
        have c0 := HA.out j hjj
        unfold batV at c0
        obtain ⟨b1, b2⟩ := HT.out.1 j hjj
        obtain ⟨t1, t2⟩ := HT.out.2 j (by omega)
        have HK := Lib.hid (markKB_take es k hjj)
        have HE := Lib.hid (HO.out j (Nat.le_refl _) hj')
        have HI := Lib.hid (HOW.out j hjj)
        obtain ⟨kk, hkk⟩ : ∃ kk, markKB (es.take j) k = kk := ⟨_, rfl⟩
        rw [hkk] at t1 t2 HK ⊢
        have HKK := Lib.hid hkk
        obtain ⟨x, hx⟩ : ∃ x, es.getD j btz = x := ⟨_, rfl⟩
        rw [hx] at c0 b1 b2 HK HE HI
        have HX := Lib.hid hx
        clear hkk hx
        obtain ⟨xw, xa, xc, xl, xh, xg⟩ := x
        simp only at c0 b1 b2 HK HE HI
        obtain ⟨q, hq⟩ : ∃ q, xw.length = q := ⟨_, rfl⟩
        rw [hq] at c0 b1 HK
        have HQ := Lib.hid hq
        clear hq
        obtain ⟨k3, hk3⟩ : ∃ k3, markK xw kk q = k3 := ⟨_, rfl⟩
        rw [hk3] at HK
        have HK3 := Lib.hid hk3
        clear hk3
        go_wp2_with fail
        refine (markWriteS_all xl xh q xc xa kk xw xg _ HQ.out b1 b2 t1 t2 HE.out).mono ?_
        rintro e w2 ⟨rfl, hmk, ho⟩
        rw [HK3.out]
        have HA2 : Hid (BatsAt w2 b es) := HA.out.of_block (ho.block b fun hx => by have h1 := HI.out.2.2.1; have h2 := hx.1; have h3 := hx.2; omega)
        have HXL : Hid ((es.getD j btz).lo = xl ∧ (es.getD j btz).hi = xh) := by rw [HX.out]; exact ⟨rfl, rfl⟩
        have HM2 : Hid (∀ i, i < j + 1 → MarkedS w2 (es.getD i btz) (markKB (es.take i) k)) := fun i hi => by
          by_cases hij : i < j
          · exact (HM.out i hij).only ho fun x hx => .inr (by have h1 := HPW.out i j hij hjj; have h2 := hx.1; have h3 := HXL.out.1; omega)
          · obtain rfl : i = j := by omega
            rw [HX.out, HKK.out]
            exact OwnA.marked (e := ⟨xw, xa, xc, xl, xh, xg⟩) HE.out hmk
        have HO2 : Hid (∀ i, j + 1 ≤ i → i < n → OwnA w2 (es.getD i btz).lo (es.getD i btz).hi (es.getD i btz).a (es.getD i btz).ws (es.getD i btz).γ) := fun i h1 h2 => (HO.out i (by omega) h2).only ho fun x hx => by have h3 := HPW.out j i (by omega) (by rw [HN.out]; exact h2); have h4 := hx.2; have h5 := HXL.out.2; omega
        have HL2 : Hid (Only (Span lo hi) w w2) := HL.out.trans ho fun x hx => ⟨by have := HI.out.1; have := hx.1; omega, by have := HI.out.2.1; have := hx.2; omega⟩
        clear hmk ho HE HI HX HXL HM HO HA HL HK3 HQ HKK
        go_wp2
        exact ⟨⟨j + 1, by omega, by go_num, by rw [HK.out], HA2, HM2, HO2, HL2⟩, by simp [intOf]; omega⟩
      · have hjj : j = n := by omega
        subst hjj
        have HF : Hid (es.take j = es) := List.take_of_length_le (by rw [HN.out]; exact Nat.le_refl _)
        rw [HF.out]
        go_wp2
        go_ret
        exact ⟨rfl, .inr ⟨b, rfl, by rw [HL.out.size]; exact hlt, HA.out, fun i hi => (HM.out i (by rw [← HN.out]; exact hi)).1⟩, HL.out⟩

end Go.Proofs.Ytojgahcogpediaa

/- Maps of one's own: the contracts of toRep, toRepS. -/
namespace Go.Proofs.Ytojgahcogpediaa
open Go.ChangeShapes Go.WideShapes Go.ChangeAt Go.RowKit Go.Joins
attribute [local go_sem ↓] Go.wp_at_zero Go.wp_at_succ

set_option maxRecDepth 100000 in
set_option maxHeartbeats 2000000 in
theorem toRep_any (a : Option Addr) (n cap : Nat) (ws : List Wr) (w : World) (hn : ws.length = n) (hm : n ≤ 1048576) (hx : Few ws) (h : IsWs w a ws) :
    Calls Try.prog 75 #[.agg #[.slice a n cap]] w fun e w' => ∃ b γ, e = .returned (.agg #[.slice (some ⟨b, 0, none⟩) n n]) ∧ OwnA w' w.heap.size w'.heap.size (some ⟨b, 0, none⟩) ws γ ∧ Below w.heap.size w w' := by
  have H := Lib.hid h
  have HN := Lib.hid hn
  have HX : Hid (∀ i, i < n → (ws.getD i wz).xs.length ≤ 1048576) := fun i hi => hx i (by rw [hn]; exact hi)
  clear h hn hx
  have HB : Hid (Below w.heap.size w (((w.alloc (.cells #[.slice a n cap] 104)).alloc (.cells #[.slice none 0 0] 63)).alloc (.cells #[.slice none 0 0] 63))) := (((Below.refl _ _).alloc (Nat.le_refl _) _).alloc (by simp) _).alloc (by simp; omega) _
  have hsz : (((w.alloc (.cells #[.slice a n cap] 104)).alloc (.cells #[.slice none 0 0] 63)).alloc (.cells #[.slice none 0 0] 63)).heap.size = w.heap.size + 3 := by simp
  have HZ2 : Hid ((((w.alloc (.cells #[.slice a n cap] 104)).alloc (.cells #[.slice none 0 0] 63)).alloc (.cells #[.slice none 0 0] 63)).heap[w.heap.size + 1]? = some (.cells #[.slice none 0 0] 63 (0, 0))) := by
    have e : (w.alloc (.cells #[.slice a n cap] 104)).heap.size = w.heap.size + 1 := by simp
    have := heap_alloc2_old (w.alloc (.cells #[.slice a n cap] 104)) (.cells #[.slice none 0 0] 63) (.cells #[.slice none 0 0] 63)
    rwa [e] at this
  have HZ3 : Hid ((((w.alloc (.cells #[.slice a n cap] 104)).alloc (.cells #[.slice none 0 0] 63)).alloc (.cells #[.slice none 0 0] 63)).heap[w.heap.size + 2]? = some (.cells #[.slice none 0 0] 63 (0, 0))) := by
    have e : (w.alloc (.cells #[.slice a n cap] 104)).heap.size = w.heap.size + 1 := by simp
    have := heap_alloc2_new (w.alloc (.cells #[.slice a n cap] 104)) (.cells #[.slice none 0 0] 63) (.cells #[.slice none 0 0] 63)
    rwa [e] at this
  go_enter Try.func75, Try.ntmps75
  go_wp2_with fail
  generalize ((w.alloc (.cells #[.slice a n cap] 104)).alloc (.cells #[.slice none 0 0] 63)).alloc (.cells #[.slice none 0 0] 63) = W3 at *
  refine (toWriteS_any a n cap ws _ hm HN.out HX.out (H.out.below HB.out)).mono ?_
  rintro e w4 ⟨γ, rfl, hO, hb⟩
  have HO : Hid (OwnA w4 W3.heap.size w4.heap.size (some ⟨W3.heap.size, 0, none⟩) ws γ) := hO.gen.ownA
  have HB4 : Hid (Below w.heap.size w w4) := below_step HB.out HB.out.size hb
  have q2 := (hb.block (w.heap.size + 1) (by omega)).trans HZ2.out
  have q3 := (hb.block (w.heap.size + 2) (by omega)).trans HZ3.out
  have hs4 : W3.heap.size ≤ w4.heap.size := hb.size
  have c2 := cell_of_row w4 (w.heap.size + 1) 0 _ _ _ q2
  have c3 := cell_of_row w4 (w.heap.size + 2) 0 _ _ _ q3
  have f2 := frozen_of_row w4 (w.heap.size + 1) 0 _ _ q2
  have f3 := frozen_of_row w4 (w.heap.size + 2) 0 _ _ q3
  simp at c2 c3
  clear hb hO HB HZ2 HZ3
  go_wp2
  have hw3 : W3.heap.size = w.heap.size + 3 := hsz
  refine bodyPost_ret (v := .agg #[.slice (some ⟨w.heap.size + 3, 0, none⟩) n n]) (by simp [results, Try.results75, go_sem, c2]) rfl ⟨w.heap.size + 3, γ, rfl, ?_, (HB4.out.setCell (p := ⟨w.heap.size + 1 + 1, 0, none⟩) (by simp; omega) _).setCell (p := ⟨w.heap.size + 1, 0, none⟩) (by simp) _⟩
  have h1 := HO.out
  rw [hw3] at h1
  exact ((h1.setLow (b := w.heap.size + 1 + 1) (by omega) 0 _).setLow (b := w.heap.size + 1) (by omega) 0 _).wider (by omega) (by simp)

set_option maxRecDepth 100000 in
theorem infoRep : (Try.prog.info? 63).map (fun i => (i.zero, i.size, i.bytes)) = some (some (.agg #[.slice none 0 0]), 1, 24) := by kernel_rfl

set_option maxRecDepth 100000 in
theorem run_make_reps (n : Nat) (hn : n ≤ 1048576) (w : World) :
    (Instr.makeSlice 28 (.int .i64 (n : Int)) (.int .i64 (n : Int))).run Try.prog w = .ok (.slice (some ⟨w.heap.size, 0, none⟩) n n) (w.alloc (.cells (madeCells #[.slice none 0 0] n) 63)) := by
  obtain ⟨i, hi, hzz⟩ := Option.map_eq_some_iff.1 infoRep
  simp only [Prod.mk.injEq] at hzz
  obtain ⟨hz, hs, hb⟩ := hzz
  have hr := run_make (P := Try.prog) w 28 63 i _ Try.underlying28 hi hz .i64 .i64 n n (by omega) (Int.le_refl _) (by rw [hb]; omega) (by omega)
  simp only [Int.toNat_natCast, hs, Nat.mul_one] at hr
  exact hr

set_option maxRecDepth 100000 in
set_option maxHeartbeats 4000000 in
theorem toRepS_any (a : Option Addr) (n cap : Nat) (bs : List (List Wr)) (w : World) (hn : bs.length = n) (hm : n ≤ 1048576) (hx : FewB bs) (h : IsBs w a bs) :
    Calls Try.prog 35 #[.slice a n cap] w fun e w' => ∃ es, e = .returned (.slice (some ⟨w.heap.size, 0, none⟩) n n) ∧ batsOf es = bs ∧ OwnB w' w.heap.size w'.heap.size (some ⟨w.heap.size, 0, none⟩) es ∧ Below w.heap.size w w' := by
  have H := Lib.hid h
  have HN := Lib.hid hn
  have HX := Lib.hid hx
  clear h hn hx
  have hmk := run_make_reps n hm
  go_enter Try.func35, Try.ntmps35
  go_wp2
  clear hmk
  go_loopw [4] (fun i wr => ∃ (k : Nat) (es : List Bat), k ≤ n ∧ i = .int .i64 k ∧ es.length = k ∧ Hid (batsOf es = bs.take k) ∧ Hid (wr.rowIs w.heap.size 63 n (fillBat es)) ∧ Hid (LaidB wr w.heap.size es) ∧ Hid (Below w.heap.size w wr)) (fun i _ => n - (intOf i).toNat)
  case atStart => exact ⟨0, [], Nat.zero_le _, rfl, rfl, rfl, rowBat_start _ _ _, ⟨fun i hi => by simp at hi, fun i j _ hj => by simp at hj⟩, (Below.refl _ _).alloc (Nat.le_refl _) _⟩
  case round =>
    obtain ⟨k, es, hk, rfl, hel, HE, HR, HL, HB⟩ := hrel
    by_cases hk' : k < n
    · have hkk : k < bs.length := by rw [HN.out]; exact hk'
      have i1 : (0 : Int) ≤ (k : Int) := by omega
      have i2 : (k : Int) < (n : Int) := by omega
      obtain ⟨b, o, ad, cp, rfl, hz, e0, hw⟩ := H.out.at HB.out hkk
      obtain ⟨hl, hf⟩ := HX.out k hkk
      have HW := Lib.hid hw
      have HF := Lib.hid hf
      have HT : Hid (bs.take (k + 1) = bs.take k ++ [bs.getD k []]) := by
        show _ = _
        rw [List.take_add_one, List.getElem?_eq_getElem hkk]
        simp [List.getD, hkk]
      have hlt : w.heap.size < wr.heap.size := HR.out.lt
      clear hw hf
      generalize bs.getD k [] = ws at *
      obtain ⟨q, hq⟩ : ∃ q, ws.length = q := ⟨_, rfl⟩
      rw [hq] at e0 hl
      have HQ := Lib.hid hq
      clear hq
      go_wp2_with fail
      refine (toRep_any ad q cp ws _ HQ.out hl HF.out HW.out).mono ?_
      rintro e w2 ⟨b2, γ, rfl, hO, hb⟩
      have HR2 : Hid (w2.rowIs w.heap.size 63 n (fillBat es)) := HR.out.of_block (hb.block _ hlt)
      have HL2 : Hid (LaidB w2 w.heap.size (es ++ [⟨ws, some ⟨b2, 0, none⟩, q, wr.heap.size, w2.heap.size, γ⟩])) := HL.out.more hb hlt (Nat.le_refl _) (Nat.le_refl _) hO
      have HB2 := Lib.hid (below_step HB.out HB.out.size hb)
      have HE2 : Hid (batsOf (es ++ [⟨ws, some ⟨b2, 0, none⟩, q, wr.heap.size, w2.heap.size, γ⟩]) = bs.take (k + 1)) := by
        show _ = _
        unfold batsOf at *
        rw [HT.out, List.map_append, HE.out]
        rfl
      have c0 := HR2.out.cell (i := k) hk'
      have fz := HR2.out.frozen
      have HS : Hid ((w2.setCell ⟨w.heap.size, k, none⟩ (.slice (some ⟨b2, 0, none⟩) q q)).rowIs w.heap.size 63 n (fillBat (es ++ [⟨ws, some ⟨b2, 0, none⟩, q, wr.heap.size, w2.heap.size, γ⟩]))) := (HR2.out.set k _).congr fun j _ => by
        have := fillBat_step es ⟨ws, some ⟨b2, 0, none⟩, q, wr.heap.size, w2.heap.size, γ⟩ j
        rw [hel] at this
        rw [← this]
        unfold batV
        rw [HQ.out]
      clear hO hb HR HL HB
      go_wp2
      exact ⟨⟨k + 1, _, by omega, by go_num, by simp [hel], HE2, HS, HL2.out.setRow k _, HB2.out.setCell (p := ⟨w.heap.size, k, none⟩) (Nat.le_refl _) _⟩, by simp [intOf]; omega⟩
    · have hkk : k = n := by omega
      subst hkk
      have HE2 : Hid (batsOf es = bs) := by
        have h := HE.out
        rw [List.take_of_length_le (by rw [HN.out]; exact Nat.le_refl _)] at h
        exact h
      go_wp2
      go_ret
      refine ⟨es, rfl, HE2.out, .inr ⟨w.heap.size, rfl, Nat.le_refl _, HR.out.lt, HR.out.lt, fun i hi => ?_, fun i hi => ?_, HL.out.2⟩, HB.out⟩
      · rw [HR.out.cell (by omega), fillBat, if_pos hi]
      · obtain ⟨q1, q2, q3⟩ := HL.out.1 i hi
        exact ⟨Nat.le_of_lt q1, q2, .inl q1, q3⟩

end Go.Proofs.Ytojgahcogpediaa

/- How much maps are: the contracts of szRep, szRepS. -/
namespace Go.Proofs.Ytojgahcogpediaa
open Go.ChangeShapes Go.WideShapes Go.ChangeAt Go.RowKit Go.Joins
attribute [local go_sem ↓] Go.wp_at_zero Go.wp_at_succ

set_option maxRecDepth 100000 in
set_option maxHeartbeats 1000000 in
theorem szRep_any (a : Option Addr) (n cap : Nat) (left : Int) (ws : List Wr) (w : World) (h0 : 0 ≤ left) (h1 : left ≤ 1048576) (hm : n ≤ maxLen) (hn : ws.length = n) (h : IsWs w a ws) :
    Calls Try.prog 70 #[.agg #[.slice a n cap], .int .i64 left] w fun e w' => ∃ r : Int, e = .returned (.int .i64 r) ∧ (r = -1 ∨ (0 ≤ r ∧ r = left - n - bulk ws)) ∧ Below w.heap.size w w' := by
  have H := Lib.hid h
  have HN := Lib.hid hn
  clear h hn
  have HB : Hid (Below w.heap.size w (w.alloc (.cells #[.slice a n cap] 104))) := (Below.refl _ _).alloc (Nat.le_refl _) _
  go_enter Try.func70, Try.ntmps70
  go_wp2_with fail
  refine (szWriteS_any a n cap left ws _ h0 h1 hm HN.out (H.out.below HB.out)).mono ?_
  rintro e w1 ⟨r, rfl, hr, hb⟩
  have HB1 := Lib.hid (below_step HB.out HB.out.size hb)
  clear hb
  rcases hr with rfl | ⟨r0, hr⟩
  · go_wp2
    go_ret
    exact ⟨_, rfl, .inl rfl, HB1.out⟩
  · have HR := Lib.hid hr
    clear hr
    go_wp2
    go_ret
    exact ⟨_, rfl, .inr ⟨r0, HR.out⟩, HB1.out⟩

set_option maxRecDepth 100000 in
set_option maxHeartbeats 2000000 in
theorem szRepS_any (a : Option Addr) (n cap : Nat) (left : Int) (bs : List (List Wr)) (w : World) (h0 : 0 ≤ left) (h1 : left ≤ 1048576) (hm : n ≤ maxLen) (hn : bs.length = n) (hl : ∀ i, i < bs.length → (bs.getD i []).length ≤ maxLen) (h : IsBs w a bs) :
    Calls Try.prog 30 #[.slice a n cap, .int .i64 left] w fun e w' => ∃ r : Int, e = .returned (.int .i64 r) ∧ (r = -1 ∨ (0 ≤ r ∧ r = left - n - heftB bs)) ∧ Below w.heap.size w w' := by
  have H := Lib.hid h
  have HN := Lib.hid hn
  have HLM := Lib.hid hl
  clear h hn hl
  have hm' : n ≤ 9223372036854775807 := hm
  clear hm
  by_cases hbig : left < (n : Int)
  · go_enter Try.func30, Try.ntmps30
    go_wp2
    go_ret
    exact ⟨_, rfl, .inl rfl, Below.refl _ _⟩
  go_enter Try.func30, Try.ntmps30
  go_wp2
  go_loopw [1, 5] (fun t i wr => ∃ (k : Nat) (z : Int), k ≤ n ∧ i = .int .i64 k ∧ t = .int .i64 z ∧ 0 ≤ z ∧ z ≤ 1048576 ∧ Hid (z = left - n - heftB (bs.take k)) ∧ Hid (Below w.heap.size w wr)) (fun _ i _ => n - (intOf i).toNat)
  case atStart => exact ⟨0, left - n, Nat.zero_le _, rfl, rfl, by omega, by omega, by simp [heftB, Hid], Below.refl _ _⟩
  case round =>
    obtain ⟨k, z, hk, rfl, rfl, z0, z1, HZ, HB⟩ := hrel
    by_cases hk' : k < n
    · have hkk : k < bs.length := by rw [HN.out]; exact hk'
      have i1 : (0 : Int) ≤ (k : Int) := by omega
      have i2 : (k : Int) < (n : Int) := by omega
      obtain ⟨b, o, ad, cp, rfl, hz, e0, hw⟩ := H.out.at HB.out hkk
      have hlm := HLM.out k hkk
      have HW := Lib.hid hw
      have HT := Lib.hid (heft_take bs k hkk)
      clear hw
      generalize bs.getD k [] = ws at *
      obtain ⟨q, hq⟩ : ∃ q, ws.length = q := ⟨_, rfl⟩
      rw [hq] at e0 hlm
      have HQ := Lib.hid hq
      clear hq
      go_wp2_with fail
      refine (szRep_any ad q cp z ws _ z0 z1 hlm HQ.out HW.out).mono ?_
      rintro e w2 ⟨r, rfl, hr, hb⟩
      have HB2 := Lib.hid (below_step HB.out HB.out.size hb)
      clear hb
      rcases hr with rfl | ⟨r0, hr⟩
      · go_wp2
        go_ret
        exact ⟨_, rfl, .inl rfl, HB2.out⟩
      · have HR : Hid (r = left - n - heftB (bs.take (k + 1))) := by
          have h1 := HZ.out
          have h2 := HT.out
          have h3 := HQ.out
          show _ = _
          omega
        have r1 : r ≤ 1048576 := by omega
        clear hr
        go_wp2
        exact ⟨⟨k + 1, r, by omega, by go_num, rfl, r0, r1, HR, HB2⟩, by simp [intOf]; omega⟩
    · have hkk : k = n := by omega
      subst hkk
      have HF : Hid (z = left - k - heftB bs) := by
        have h := HZ.out
        rw [List.take_of_length_le (by rw [HN.out]; exact Nat.le_refl _)] at h
        exact h
      go_wp2
      go_ret
      exact ⟨z, rfl, .inr ⟨z0, HF.out⟩, HB.out⟩

end Go.Proofs.Ytojgahcogpediaa

/- Groups: the contracts of szGroup, toGroup, eqGroup. -/
namespace Go.Proofs.Ytojgahcogpediaa
open Go.ChangeShapes Go.WideShapes Go.ChangeAt Go.RowKit Go.Joins
attribute [local go_sem ↓] Go.wp_at_zero Go.wp_at_succ

abbrev gpV (am : Option Addr) (m cm : Nat) (ah : Option Addr) (n cn : Nat) : Value := .agg #[.slice am m cm, .slice ah n cn]

set_option maxRecDepth 100000 in
set_option maxHeartbeats 1000000 in
theorem szGroup_any (am : Option Addr) (m cm : Nat) (ah : Option Addr) (n cn : Nat) (bs : List (List Wr)) (hs : List Hn) (w : World) (hm : bs.length = m) (hmm : m ≤ maxLen) (hml : ∀ i, i < bs.length → (bs.getD i []).length ≤ maxLen) (hb : IsBs w am bs) (hn : hs.length = n) (hnn : n ≤ maxLen) (hh : IsHs w ah hs) :
    Calls Try.prog 7 #[gpV am m cm ah n cn, .int .i64 1048576] w fun e w' => ∃ r : Int, e = .returned (.int .i64 r) ∧ (r = -1 ∨ (0 ≤ r ∧ r = 1048576 - m - heftB bs - n - bulk (hnW hs))) ∧ Below w.heap.size w w' := by
  have HB := Lib.hid hb
  have HH := Lib.hid hh
  have HM := Lib.hid hm
  have HN := Lib.hid hn
  have HML := Lib.hid hml
  have HA : Hid (Below w.heap.size w (w.alloc (.cells #[.slice am m cm, .slice ah n cn] 25))) := (Below.refl _ _).alloc (Nat.le_refl _) _
  have HX : Hid ((w.alloc (.cells #[.slice am m cm, .slice ah n cn] 25)).heap[w.heap.size]? = some (.cells #[.slice am m cm, .slice ah n cn] 25 (0, 0))) := heap_alloc_new _ _
  clear hb hh hm hn hml
  go_enter Try.func7, Try.ntmps7
  go_wp2_with fail
  refine (szRepS_any am m cm 1048576 bs _ (by omega) (by omega) hmm HM.out HML.out (HB.out.below HA.out)).mono ?_
  rintro e w1 ⟨r, rfl, hr, hb⟩
  have HB1 := Lib.hid (below_step HA.out HA.out.size hb)
  have q := (hb.block w.heap.size (by simp)).trans HX.out
  have c0 := cell_of_row w1 w.heap.size 0 _ _ _ q
  have c1 := cell_of_row w1 w.heap.size 1 _ _ _ q
  simp at c0 c1
  clear hb q
  rcases hr with rfl | ⟨r0, hr⟩
  · go_wp2
    go_ret
    exact ⟨_, rfl, .inl rfl, HB1.out⟩
  have HR := Lib.hid hr
  have r1 : r ≤ 1048576 := by omega
  clear hr
  go_wp2_with fail
  refine (szHintS_any ah n cn r hs _ r0 r1 hnn HN.out (HH.out.below HB1.out)).mono ?_
  rintro e w2 ⟨z, rfl, hz, hb⟩
  have HB2 := Lib.hid (below_step HB1.out HB1.out.size hb)
  clear hb
  rcases hz with rfl | ⟨z0, hz⟩
  · go_wp2
    go_ret
    exact ⟨_, rfl, .inl rfl, HB2.out⟩
  have HZ : Hid (z = 1048576 - m - heftB bs - n - bulk (hnW hs)) := by
    have := HR.out
    show _ = _
    omega
  clear hz
  go_wp2
  go_ret
  exact ⟨_, rfl, .inr ⟨z0, HZ.out⟩, HB2.out⟩

set_option maxRecDepth 100000 in
set_option maxHeartbeats 2000000 in
theorem eqGroup_same (am : Option Addr) (m cm : Nat) (ah : Option Addr) (n cn : Nat) (am' : Option Addr) (cm' : Nat) (ah' : Option Addr) (cn' : Nat) (bs : List (List Wr)) (hs : List Hn) (w : World) (hm : bs.length = m) (hmm : m ≤ 1048576) (hfb : FewB bs) (hb : IsBs w am bs) (hb' : IsBs w am' bs) (hn : hs.length = n) (hnn : n ≤ 1048576) (hfh : FewH hs) (hh : IsHs w ah hs) (hh' : IsHs w ah' hs) :
    Calls Try.prog 11 #[gpV am m cm ah n cn, gpV am' m cm' ah' n cn'] w fun e w' => e = .returned (.bool true) ∧ Below w.heap.size w w' := by
  have HB := Lib.hid hb
  have HB' := Lib.hid hb'
  have HH := Lib.hid hh
  have HH' := Lib.hid hh'
  have HM := Lib.hid hm
  have HN := Lib.hid hn
  have HFB := Lib.hid hfb
  have HFH := Lib.hid hfh
  obtain ⟨O1, hO1⟩ : ∃ O, O = Obj.cells #[.slice am m cm, .slice ah n cn] 31 := ⟨_, rfl⟩
  obtain ⟨O2, hO2⟩ : ∃ O, O = Obj.cells #[.slice am' m cm', .slice ah' n cn'] 31 := ⟨_, rfl⟩
  have HA : Hid (Below w.heap.size w ((w.alloc O1).alloc O2)) := ((Below.refl _ _).alloc (Nat.le_refl _) _).alloc (by simp) _
  have HX1 : Hid (((w.alloc O1).alloc O2).heap[w.heap.size]? = some O1) := heap_alloc2_old w O1 O2
  have HX2 : Hid (((w.alloc O1).alloc O2).heap[w.heap.size + 1]? = some O2) := heap_alloc2_new w O1 O2
  have hsz : ((w.alloc O1).alloc O2).heap.size = w.heap.size + 2 := by simp
  subst hO1 hO2
  clear hb hb' hh hh' hm hn hfb hfh
  go_enter Try.func11, Try.ntmps11
  go_wp2_with fail
  generalize (w.alloc (.cells #[.slice am m cm, .slice ah n cn] 31)).alloc (.cells #[.slice am' m cm', .slice ah' n cn'] 31) = W at *
  refine (eqRepS_same am am' m cm cm' bs _ HM.out hmm HFB.out (HB.out.below HA.out) (HB'.out.below HA.out)).mono ?_
  rintro e w1 ⟨rfl, hb⟩
  have HB1 := Lib.hid (below_step HA.out HA.out.size hb)
  have q1 := (hb.block w.heap.size (by omega)).trans HX1.out
  have q2 := (hb.block (w.heap.size + 1) (by omega)).trans HX2.out
  have c0 := cell_of_row w1 w.heap.size 0 _ _ _ q1
  have c1 := cell_of_row w1 w.heap.size 1 _ _ _ q1
  have d0 := cell_of_row w1 (w.heap.size + 1) 0 _ _ _ q2
  have d1 := cell_of_row w1 (w.heap.size + 1) 1 _ _ _ q2
  simp at c0 c1 d0 d1
  clear hb q1 q2
  go_wp2_with fail
  refine (eqHintS_same ah ah' n cn cn' hs _ HN.out hnn HFH.out (HH.out.below HB1.out) (HH'.out.below HB1.out)).mono ?_
  rintro e w2 ⟨rfl, hb⟩
  have HB2 := Lib.hid (below_step HB1.out HB1.out.size hb)
  clear hb
  go_wp2
  go_ret
  exact ⟨rfl, HB2.out⟩

end Go.Proofs.Ytojgahcogpediaa

/- Is a group right: plain facts, and the contract of impl.GroupOk. -/
namespace Go.Proofs.Ytojgahcogpediaa
open Go.ChangeShapes Go.WideShapes Go.ChangeAt Go.RowKit Go.Joins
attribute [local go_sem ↓] Go.wp_at_zero Go.wp_at_succ

def hintOkB (m : Nat) (h : Hn) : Bool := btw h.f 0 ((m : Int) - 1) && okW h.x

def groupOkB (bs : List (List Wr)) (hs : List Hn) : Bool := btw (bs.length : Int) 1 7 && bs.all mapOkB && hs.all (hintOkB bs.length)

theorem group_len {bs : List (List Wr)} {hs : List Hn} (h : btw (bs.length : Int) 1 7 = false) : groupOkB bs hs = false := by simp [groupOkB, h]

theorem group_map {bs : List (List Wr)} {hs : List Hn} {k : Nat} (hk : k < bs.length) (h : mapOkB (bs.getD k []) = false) : groupOkB bs hs = false := by
  have : bs.all mapOkB = false := by
    rw [List.all_eq_false]
    exact ⟨bs.getD k [], by simp [List.getD, hk], by rw [h]; simp⟩
  simp [groupOkB, this]

theorem group_hint {bs : List (List Wr)} {hs : List Hn} {k : Nat} (hk : k < hs.length) (h : hintOkB bs.length (hs.getD k hnz) = false) : groupOkB bs hs = false := by
  have : hs.all (hintOkB bs.length) = false := by
    rw [List.all_eq_false]
    exact ⟨hs.getD k hnz, by simp [List.getD, hk], by rw [h]; simp⟩
  simp [groupOkB, this]

theorem all_getD {α : Type} {l : List α} {d : α} {p : α → Bool} (h : ∀ j, j < l.length → p (l.getD j d) = true) : l.all p = true := by
  rw [List.all_eq_true]
  intro x hx
  obtain ⟨j, hj, rfl⟩ := List.mem_iff_getElem.1 hx
  have := h j hj
  simpa [List.getD, hj] using this

theorem group_all {bs : List (List Wr)} {hs : List Hn} (h1 : btw (bs.length : Int) 1 7 = true) (h2 : ∀ j, j < bs.length → mapOkB (bs.getD j []) = true) (h3 : ∀ j, j < hs.length → hintOkB bs.length (hs.getD j hnz) = true) : groupOkB bs hs = true := by
  simp [groupOkB, h1, all_getD h2, all_getD h3]

theorem next_all {p : Nat → Prop} {k : Nat} (h : ∀ j, j < k → p j) (hk : p k) : ∀ j, j < k + 1 → p j := fun j hj => by
  by_cases e : j = k
  · rw [e]; exact hk
  · exact h j (by omega)

set_option maxRecDepth 100000 in
set_option maxHeartbeats 4000000 in
theorem implGroupOk_any (am : Option Addr) (m cm : Nat) (ah : Option Addr) (n cn : Nat) (bs : List (List Wr)) (hs : List Hn) (w : World) (hm : bs.length = m) (hmm : m ≤ 1048576) (hfb : FewB bs) (hb : IsBs w am bs) (hn : hs.length = n) (hnn : n ≤ 1048576) (hfh : FewH hs) (hh : IsHs w ah hs) :
    Calls Try.prog 10 #[gpV am m cm ah n cn] w fun e w' => e = .returned (.bool (groupOkB bs hs)) ∧ Below w.heap.size w w' := by
  have HBS := Lib.hid hb
  have HHS := Lib.hid hh
  have HM := Lib.hid hm
  have HN := Lib.hid hn
  have HFB := Lib.hid hfb
  have HFH := Lib.hid hfh
  have HA : Hid (Below w.heap.size w (w.alloc (.cells #[.slice am m cm, .slice ah n cn] 31))) := (Below.refl _ _).alloc (Nat.le_refl _) _
  have HX : Hid ((w.alloc (.cells #[.slice am m cm, .slice ah n cn] 31)).heap[w.heap.size]? = some (.cells #[.slice am m cm, .slice ah n cn] 31 (0, 0))) := heap_alloc_new _ _
  have HSZ : Hid ((w.alloc (.cells #[.slice am m cm, .slice ah n cn] 31)).heap.size = w.heap.size + 1) := by show _ = _; simp
  clear hb hh hm hn hfb hfh
  obtain ⟨t, ht⟩ : ∃ t, btw (m : Int) 1 7 = t := ⟨_, rfl⟩
  go_enter Try.func10, Try.ntmps10
  go_wp2_with fail
  refine (inRange_any _ _ _ _).mono ?_
  rintro e w' ⟨rfl, rfl⟩
  rw [ht]
  cases t
  · have HT : Hid (groupOkB bs hs = false) := group_len (by rw [HM.out]; exact ht)
    go_wp2
    go_ret
    exact ⟨by rw [HT.out]; rfl, HA.out⟩
  have HT := Lib.hid ht
  clear ht
  go_wp2
  generalize w.alloc (.cells #[.slice am m cm, .slice ah n cn] 31) = W at *
  go_loopw [15] (fun i wr => ∃ k : Nat, k ≤ m ∧ i = .int .i64 k ∧ Hid (∀ j, j < k → mapOkB (bs.getD j []) = true) ∧ Hid (Below W.heap.size W wr)) (fun i _ => m - (intOf i).toNat)
  case atStart => exact ⟨0, Nat.zero_le _, rfl, fun j hj => absurd hj (Nat.not_lt_zero j), Below.refl _ _⟩
  case round =>
    obtain ⟨k, hk, rfl, HK, HB⟩ := hrel
    have HBW : Hid (Below w.heap.size w wr) := below_step HA.out HA.out.size HB.out
    by_cases hk' : k < m
    · have hkk : k < bs.length := by rw [HM.out]; exact hk'
      have i1 : (0 : Int) ≤ (k : Int) := by omega
      have i2 : (k : Int) < (m : Int) := by omega
      obtain ⟨b, o, ad, cp, rfl, hz, e0, hw⟩ := HBS.out.at HBW.out hkk
      obtain ⟨hl, hf⟩ := HFB.out k hkk
      have HW := Lib.hid hw
      have HF := Lib.hid hf
      have HNO : Hid (mapOkB (bs.getD k []) = false → groupOkB bs hs = false) := fun h => group_map hkk h
      have HYES : Hid (mapOkB (bs.getD k []) = true → ∀ j, j < k + 1 → mapOkB (bs.getD j []) = true) := fun h => next_all HK.out h
      clear hw hf
      generalize bs.getD k [] = ws at *
      obtain ⟨q, hq⟩ : ∃ q, ws.length = q := ⟨_, rfl⟩
      rw [hq] at e0 hl
      have HQ := Lib.hid hq
      clear hq
      obtain ⟨t, ht⟩ : ∃ t, mapOkB ws = t := ⟨_, rfl⟩
      have HAL : Hid (Below wr.heap.size wr (wr.alloc (.cells #[.slice ad q cp] 63))) := (Below.refl _ _).alloc (Nat.le_refl _) _
      go_wp2_with fail
      refine (implMapOk_any ad q cp ws _ HQ.out hl HF.out (HW.out.below HAL.out)).mono ?_
      rintro e w2 ⟨rfl, hb⟩
      rw [ht]
      have hbb := Lib.hid (below_step HAL.out HAL.out.size hb)
      have HB2 : Hid (Below W.heap.size W w2) := below_step HB.out HB.out.size hbb.out
      have HBW2 : Hid (Below w.heap.size w w2) := below_step HBW.out HBW.out.size hbb.out
      clear hb hbb
      cases t
      · have HR := Lib.hid (HNO.out ht)
        go_wp2
        go_ret
        exact ⟨by rw [HR.out]; rfl, HBW2.out⟩
      · have HK2 := Lib.hid (HYES.out ht)
        go_wp2
        exact ⟨⟨k + 1, by omega, by go_num, HK2, HB2⟩, by simp [intOf]; omega⟩
    · have hkk : k = m := by omega
      subst hkk
      have qb := (HB.out.block w.heap.size (by rw [HSZ.out]; omega)).trans HX.out
      have c0 := cell_of_row wr w.heap.size 0 _ _ _ qb
      have c1 := cell_of_row wr w.heap.size 1 _ _ _ qb
      simp at c0 c1
      clear qb
      go_wp2
      clear c0 c1
      go_loopw [27] (fun i w3 => ∃ p : Nat, p ≤ n ∧ i = .int .i64 p ∧ Hid (∀ j, j < p → hintOkB k (hs.getD j hnz) = true) ∧ Hid (Below W.heap.size W w3)) (fun i _ => n - (intOf i).toNat)
      case atStart => exact ⟨0, Nat.zero_le _, rfl, fun j hj => absurd hj (Nat.not_lt_zero j), HB⟩
      case round =>
        obtain ⟨p, hp, rfl, HP, HB3⟩ := hrel
        have HBW3 : Hid (Below w.heap.size w wr) := below_step HA.out HA.out.size HB3.out
        by_cases hp' : p < n
        · have hpp : p < hs.length := by rw [HN.out]; exact hp'
          have i1 : (0 : Int) ≤ (p : Int) := by omega
          have i2 : (p : Int) < (n : Int) := by omega
          have qb := (HB3.out.block w.heap.size (by rw [HSZ.out]; omega)).trans HX.out
          have c0 := cell_of_row wr w.heap.size 0 _ _ _ qb
          have c1 := cell_of_row wr w.heap.size 1 _ _ _ qb
          simp at c0 c1
          have hlw : w.heap.size < wr.heap.size := by have := HB3.out.size; rw [HSZ.out] at this; omega
          obtain ⟨b2, o2, ad2, cp2, rfl, hz2, ⟨e0, e1, e2, e3, e4, e5, e6, e7⟩, -, hd⟩ := HHS.out.at HBW3.out hpp
          have hxl := HFH.out p hpp
          have HD := Lib.hid hd
          have HNO : Hid (hintOkB k (hs.getD p hnz) = false → groupOkB bs hs = false) := fun h => group_hint hpp (by rw [HM.out]; exact h)
          have HYES : Hid (hintOkB k (hs.getD p hnz) = true → ∀ j, j < p + 1 → hintOkB k (hs.getD j hnz) = true) := fun h => next_all HP.out h
          clear hd qb
          generalize hs.getD p hnz = y at *
          obtain ⟨yf, yk, yc, ys, yq, yv, yd, yy⟩ := y
          simp only at e0 e1 e2 e3 e4 e5 e6 e7 hxl HD
          obtain ⟨t, ht⟩ : ∃ t, btw yf 0 ((k : Int) - 1) = t := ⟨_, rfl⟩
          have HAL : Hid (Below wr.heap.size wr (wr.alloc (.cells #[.int .i64 yf, .int .i64 yk, .int .i64 yc, .int .i64 ys, .int .i64 yq, .int .i64 yv, .bool yd, .slice ad2 yy.length cp2] 65))) := (Below.refl _ _).alloc (Nat.le_refl _) _
          have HBAL := Lib.hid (below_step HBW3.out HBW3.out.size HAL.out)
          go_wp2_with fail
          refine (inRange_any _ _ _ _).mono ?_
          rintro e w' ⟨rfl, rfl⟩
          rw [ht]
          cases t
          · have HR := Lib.hid (HNO.out (by simp [hintOkB, ht]))
            go_wp2
            go_ret
            exact ⟨by rw [HR.out]; rfl, HBAL.out⟩
          obtain ⟨z, hz0⟩ : ∃ z, writeOkB yk yc ys yq yv yd yy = z := ⟨_, rfl⟩
          go_wp2_with fail
          refine (implWriteOk_gen yk yc ys yq yv yd ad2 yy _ cp2 _ rfl hxl (HD.out.below HAL.out)).mono ?_
          rintro e w4 ⟨rfl, hb⟩
          rw [hz0]
          have hbb := Lib.hid (below_step HAL.out HAL.out.size hb)
          have HB4 : Hid (Below W.heap.size W w4) := below_step HB3.out HB3.out.size hbb.out
          have HBW4 : Hid (Below w.heap.size w w4) := below_step HBW3.out HBW3.out.size hbb.out
          clear hb hbb
          cases z
          · have HR := Lib.hid (HNO.out (by simp [hintOkB, okW, hz0]))
            go_wp2
            go_ret
            exact ⟨by rw [HR.out]; rfl, HBW4.out⟩
          · have HP2 := Lib.hid (HYES.out (by simp [hintOkB, okW, ht, hz0]))
            go_wp2
            exact ⟨⟨p + 1, by omega, by go_num, HP2, HB4⟩, by simp [intOf]; omega⟩
        · have hpp : p = n := by omega
          subst hpp
          have HR : Hid (groupOkB bs hs = true) := group_all (by rw [HM.out]; exact HT.out) (fun j hj => HK.out j (by rw [← HM.out]; exact hj)) (fun j hj => by rw [HM.out]; exact HP.out j (by rw [← HN.out]; exact hj))
          go_wp2
          go_ret
          exact ⟨by rw [HR.out]; rfl, HBW3.out⟩

end Go.Proofs.Ytojgahcogpediaa

/- Is a group right, the specification's side: the contract of spec.GroupOk. -/
namespace Go.Proofs.Ytojgahcogpediaa
open Go.ChangeShapes Go.WideShapes Go.ChangeAt Go.RowKit Go.Joins
attribute [local go_sem ↓] Go.wp_at_zero Go.wp_at_succ

set_option maxRecDepth 100000 in
set_option maxHeartbeats 4000000 in
theorem specGroupOk_any (am : Option Addr) (m cm : Nat) (ah : Option Addr) (n cn : Nat) (bs : List (List Wr)) (hs : List Hn) (w : World) (hm : bs.length = m) (hmm : m ≤ 1048576) (hfb : FewB bs) (hb : IsBs w am bs) (hn : hs.length = n) (hnn : n ≤ 1048576) (hfh : FewH hs) (hh : IsHs w ah hs) :
    Calls Try.prog 8 #[gpV am m cm ah n cn] w fun e w' => e = .returned (.bool (groupOkB bs hs)) ∧ Below w.heap.size w w' := by
  have HBS := Lib.hid hb
  have HHS := Lib.hid hh
  have HM := Lib.hid hm
  have HN := Lib.hid hn
  have HFB := Lib.hid hfb
  have HFH := Lib.hid hfh
  have HA : Hid (Below w.heap.size w (w.alloc (.cells #[.slice am m cm, .slice ah n cn] 31))) := (Below.refl _ _).alloc (Nat.le_refl _) _
  have HX : Hid ((w.alloc (.cells #[.slice am m cm, .slice ah n cn] 31)).heap[w.heap.size]? = some (.cells #[.slice am m cm, .slice ah n cn] 31 (0, 0))) := heap_alloc_new _ _
  have HSZ : Hid ((w.alloc (.cells #[.slice am m cm, .slice ah n cn] 31)).heap.size = w.heap.size + 1) := by show _ = _; simp
  clear hb hh hm hn hfb hfh
  obtain ⟨t, ht⟩ : ∃ t, btw (m : Int) 1 7 = t := ⟨_, rfl⟩
  go_enter Try.func8, Try.ntmps8
  go_wp2_with fail
  refine (between_any _ _ _ _).mono ?_
  rintro e w' ⟨rfl, rfl⟩
  rw [ht]
  cases t
  · have HT : Hid (groupOkB bs hs = false) := group_len (by rw [HM.out]; exact ht)
    go_wp2
    go_ret
    exact ⟨by rw [HT.out]; rfl, HA.out⟩
  have HT := Lib.hid ht
  clear ht
  go_wp2
  generalize w.alloc (.cells #[.slice am m cm, .slice ah n cn] 31) = W at *
  go_loopw [3] (fun i wr => ∃ k : Nat, k ≤ m ∧ i = .int .i64 k ∧ Hid (∀ j, j < k → mapOkB (bs.getD j []) = true) ∧ Hid (Below W.heap.size W wr)) (fun i _ => m - (intOf i).toNat)
  case atStart => exact ⟨0, Nat.zero_le _, rfl, fun j hj => absurd hj (Nat.not_lt_zero j), Below.refl _ _⟩
  case round =>
    obtain ⟨k, hk, rfl, HK, HB⟩ := hrel
    have HBW : Hid (Below w.heap.size w wr) := below_step HA.out HA.out.size HB.out
    by_cases hk' : k < m
    · have hkk : k < bs.length := by rw [HM.out]; exact hk'
      have i1 : (0 : Int) ≤ (k : Int) := by omega
      have i2 : (k : Int) < (m : Int) := by omega
      obtain ⟨b, o, ad, cp, rfl, hz, e0, hw⟩ := HBS.out.at HBW.out hkk
      obtain ⟨hl, hf⟩ := HFB.out k hkk
      have HW := Lib.hid hw
      have HF := Lib.hid hf
      have HNO : Hid (mapOkB (bs.getD k []) = false → groupOkB bs hs = false) := fun h => group_map hkk h
      have HYES : Hid (mapOkB (bs.getD k []) = true → ∀ j, j < k + 1 → mapOkB (bs.getD j []) = true) := fun h => next_all HK.out h
      clear hw hf
      generalize bs.getD k [] = ws at *
      obtain ⟨q, hq⟩ : ∃ q, ws.length = q := ⟨_, rfl⟩
      rw [hq] at e0 hl
      have HQ := Lib.hid hq
      clear hq
      obtain ⟨t, ht⟩ : ∃ t, mapOkB ws = t := ⟨_, rfl⟩
      have qb := (HB.out.block w.heap.size (by rw [HSZ.out]; omega)).trans HX.out
      have c0 := cell_of_row wr w.heap.size 0 _ _ _ qb
      have c1 := cell_of_row wr w.heap.size 1 _ _ _ qb
      simp at c0 c1
      clear qb
      go_wp2_with fail
      refine (specMapOk_gen ad q cp ws _ HQ.out hl HF.out HW.out).mono ?_
      rintro e w2 ⟨rfl, hb⟩
      rw [ht]
      have HB2 : Hid (Below W.heap.size W w2) := below_step HB.out HB.out.size hb
      have HBW2 : Hid (Below w.heap.size w w2) := below_step HBW.out HBW.out.size hb
      clear hb c0 c1
      cases t
      · have HR := Lib.hid (HNO.out ht)
        go_wp2
        go_ret
        exact ⟨by rw [HR.out]; rfl, HBW2.out⟩
      · have HK2 := Lib.hid (HYES.out ht)
        go_wp2
        exact ⟨⟨k + 1, by omega, by go_num, HK2, HB2⟩, by simp [intOf]; omega⟩
    · have hkk : k = m := by omega
      subst hkk
      have qb := (HB.out.block w.heap.size (by rw [HSZ.out]; omega)).trans HX.out
      have c0 := cell_of_row wr w.heap.size 0 _ _ _ qb
      have c1 := cell_of_row wr w.heap.size 1 _ _ _ qb
      simp at c0 c1
      clear qb
      go_wp2
      clear c0 c1
      go_loopw [4] (fun i w3 => ∃ p : Nat, p ≤ n ∧ i = .int .i64 p ∧ Hid (∀ j, j < p → hintOkB k (hs.getD j hnz) = true) ∧ Hid (Below W.heap.size W w3)) (fun i _ => n - (intOf i).toNat)
      case atStart => exact ⟨0, Nat.zero_le _, rfl, fun j hj => absurd hj (Nat.not_lt_zero j), HB⟩
      case round =>
        obtain ⟨p, hp, rfl, HP, HB3⟩ := hrel
        have HBW3 : Hid (Below w.heap.size w wr) := below_step HA.out HA.out.size HB3.out
        have qb := (HB3.out.block w.heap.size (by rw [HSZ.out]; omega)).trans HX.out
        have c0 := cell_of_row wr w.heap.size 0 _ _ _ qb
        have c1 := cell_of_row wr w.heap.size 1 _ _ _ qb
        simp at c0 c1
        have hlw : w.heap.size < wr.heap.size := by have := HB3.out.size; rw [HSZ.out] at this; omega
        clear qb
        by_cases hp' : p < n
        · have hpp : p < hs.length := by rw [HN.out]; exact hp'
          have i1 : (0 : Int) ≤ (p : Int) := by omega
          have i2 : (p : Int) < (n : Int) := by omega
          obtain ⟨b2, o2, ad2, cp2, rfl, hz2, ⟨e0, e1, e2, e3, e4, e5, e6, e7⟩, -, hd⟩ := HHS.out.at HBW3.out hpp
          have hxl := HFH.out p hpp
          have HD := Lib.hid hd
          have HNO : Hid (hintOkB k (hs.getD p hnz) = false → groupOkB bs hs = false) := fun h => group_hint hpp (by rw [HM.out]; exact h)
          have HYES : Hid (hintOkB k (hs.getD p hnz) = true → ∀ j, j < p + 1 → hintOkB k (hs.getD j hnz) = true) := fun h => next_all HP.out h
          clear hd
          generalize hs.getD p hnz = y at *
          obtain ⟨yf, yk, yc, ys, yq, yv, yd, yy⟩ := y
          simp only at e0 e1 e2 e3 e4 e5 e6 e7 hxl HD
          obtain ⟨t, ht⟩ : ∃ t, btw yf 0 ((k : Int) - 1) = t := ⟨_, rfl⟩
          obtain ⟨z, hz0⟩ : ∃ z, writeOkB yk yc ys yq yv yd yy = z := ⟨_, rfl⟩
          have HC : Hid (∀ P : Aft wr.heap.size wr, Calls Try.prog 34 #[wrV yk yc ys yq yv yd ad2 yy.length cp2] P.now fun e w' => e = .returned (.bool z) ∧ Below P.now.heap.size P.now w') := fun P => by
            have := specWriteOk_gen yk yc ys yq yv yd ad2 yy _ cp2 P.now rfl hxl (HD.out.below P.below)
            rw [← hz0]
            exact this
          have HC2 : Hid (∀ P : Aft wr.heap.size wr, Calls Try.prog 32 #[.int .i64 yf, .int .i64 0, .int .i64 ((k : Int) - 1)] P.now fun e w' => e = .returned (.bool t) ∧ Below P.now.heap.size P.now w') := fun P => by
            refine (between_any yf 0 ((k : Int) - 1) P.now).mono ?_
            rintro e w' ⟨rfl, rfl⟩
            rw [ht]
            exact ⟨rfl, Below.refl _ _⟩
          go_wp2_with fail
          have gc0 := aft_cell hlw c0
          have gc1 := aft_cell hlw c1
          have ge0 := aft_cell hz2 e0
          have ge1 := aft_cell hz2 e1
          have ge2 := aft_cell hz2 e2
          have ge3 := aft_cell hz2 e3
          have ge4 := aft_cell hz2 e4
          have ge5 := aft_cell hz2 e5
          have ge6 := aft_cell hz2 e6
          have ge7 := aft_cell hz2 e7
          have ne := aft_some wr
          cases t
          · refine wp_region_aft (by kernel_rfl) (by kernel_rfl) ?_
            repeat (first | go_big_quiet_step (first | (go_at_call 32; exact aft_of (HC2.out _)) | (go_at_call 34; exact aft_of (HC.out _))))
            refine wpQuiet_nil ?_
            intro wq hq
            have HBQ : Hid (Below W.heap.size W wq) := below_step HB3.out HB3.out.size hq
            have HBF : Hid (Below w.heap.size w wq) := below_step HBW3.out HBW3.out.size hq
            clear hq gc0 gc1 ge0 ge1 ge2 ge3 ge4 ge5 ge6 ge7 ne HC HC2
            have HR := Lib.hid (HNO.out (by simp [hintOkB, ht]))
            go_wp2
            go_ret
            exact ⟨by rw [HR.out]; rfl, HBF.out⟩
          · refine wp_region_aft (by kernel_rfl) (by kernel_rfl) ?_
            repeat (first | go_big_quiet_step (first | (go_at_call 32; exact aft_of (HC2.out _)) | (go_at_call 34; exact aft_of (HC.out _))))
            refine wpQuiet_nil ?_
            intro wq hq
            have HBQ : Hid (Below W.heap.size W wq) := below_step HB3.out HB3.out.size hq
            have HBF : Hid (Below w.heap.size w wq) := below_step HBW3.out HBW3.out.size hq
            clear hq gc0 gc1 ge0 ge1 ge2 ge3 ge4 ge5 ge6 ge7 ne HC HC2
            cases z
            · have HR := Lib.hid (HNO.out (by simp [hintOkB, okW, hz0]))
              go_wp2
              go_ret
              exact ⟨by rw [HR.out]; rfl, HBF.out⟩
            · have HP2 := Lib.hid (HYES.out (by simp [hintOkB, okW, ht, hz0]))
              go_wp2
              exact ⟨⟨p + 1, by omega, by go_num, HP2, HBQ⟩, by simp [intOf]; omega⟩
        · have hpp : p = n := by omega
          subst hpp
          have HR : Hid (groupOkB bs hs = true) := group_all (by rw [HM.out]; exact HT.out) (fun j hj => HK.out j (by rw [← HM.out]; exact hj)) (fun j hj => by rw [HM.out]; exact HP.out j (by rw [← HN.out]; exact hj))
          go_wp2
          go_ret
          exact ⟨by rw [HR.out]; rfl, HBW3.out⟩

end Go.Proofs.Ytojgahcogpediaa

/- Groups of one's own: the contract of toGroup. -/
namespace Go.Proofs.Ytojgahcogpediaa
open Go.ChangeShapes Go.WideShapes Go.ChangeAt Go.RowKit Go.Joins
attribute [local go_sem ↓] Go.wp_at_zero Go.wp_at_succ

theorem LaidH.only {w w' : World} {S : Nat → Prop} {lo hi b : Nat} {es : List HnB} (h : LaidH w lo hi b es) (ho : Only S w w') (hS : ∀ x, S x → x < lo ∨ hi ≤ x) : LaidH w' lo hi b es := by
  refine ⟨fun i hi => ?_, h.2⟩
  obtain ⟨q1, q2, q3, q4, q5, q6⟩ := h.1 i hi
  have hn : ¬ S (es.getD i hbz).g := fun e => by have := hS _ e; omega
  refine ⟨q1, q2, q3, by rw [ho.size]; exact q4, ?_, fun o => (ho.frozen ⟨_, o, none⟩).trans (q6 o)⟩
  intro j hj
  obtain ⟨a0, a1, a2, a3⟩ := q5 j hj
  have e : ∀ o, w'.cell? ⟨(es.getD i hbz).g, o, none⟩ = w.cell? ⟨(es.getD i hbz).g, o, none⟩ := fun o => World.cell?_of_block (a := ⟨_, o, none⟩) (ho.block _ hn)
  exact ⟨(e _).trans a0, (e _).trans a1, (e _).trans a2, (e _).trans a3⟩

theorem OwnH.only {w w' : World} {S : Nat → Prop} {lo hi : Nat} {a : Option Addr} {es : List HnB} (h : OwnH w lo hi a es) (ho : Only S w w') (hS : ∀ x, S x → x < lo ∨ hi ≤ x) : OwnH w' lo hi a es := by
  rcases h with h | ⟨b, N, f, h1, h2, h3, h4, h5, h6, h7⟩
  · exact .inl h
  · exact .inr ⟨b, N, f, h1, h2, h3, h4.of_block (ho.block b fun e => by have := hS b e; omega), h5, h6, h7.only ho hS⟩

theorem OwnH.setLow {w : World} {lo hi : Nat} {a : Option Addr} {es : List HnB} (h : OwnH w lo hi a es) {b : Nat} (hb : b < lo) (o : Nat) (v : Value) : OwnH (w.setCell ⟨b, o, none⟩ v) lo hi a es :=
  h.only (S := fun x => x = b) (Only.set (S := fun x => x = b) (Only.refl _ w) rfl o v) fun x hx => by rw [hx]; exact .inl hb

theorem OwnB.setLow {w : World} {lo hi : Nat} {a : Option Addr} {es : List Bat} (h : OwnB w lo hi a es) {b : Nat} (hb : b < lo) (o : Nat) (v : Value) : OwnB (w.setCell ⟨b, o, none⟩ v) lo hi a es :=
  h.only (S := fun x => x = b) (Only.set (S := fun x => x = b) (Only.refl _ w) rfl o v) fun x hx => by rw [hx]; exact hb

/-- A group of one's own: its maps from block lo to mid, its hints from mid to hi. -/
def OwnGp (w : World) (lo hi : Nat) (am ah : Option Addr) (es : List Bat) (ks : List HnB) : Prop := ∃ mid, lo ≤ mid ∧ mid ≤ hi ∧ OwnB w lo mid am es ∧ OwnH w mid hi ah ks

theorem OwnGp.below {w w' : World} {lo hi : Nat} {am ah : Option Addr} {es : List Bat} {ks : List HnB} (h : OwnGp w lo hi am ah es ks) (hb : Below w.heap.size w w') : OwnGp w' lo hi am ah es ks := by
  obtain ⟨mid, h1, h2, h3, h4⟩ := h
  exact ⟨mid, h1, h2, h3.below hb, h4.below hb⟩

theorem OwnGp.isBs {w : World} {lo hi : Nat} {am ah : Option Addr} {es : List Bat} {ks : List HnB} (h : OwnGp w lo hi am ah es ks) {bs : List (List Wr)} (he : batsOf es = bs) (hx : FewB bs) : IsBs w am bs := by
  obtain ⟨mid, h1, h2, h3, h4⟩ := h
  rw [← he] at hx ⊢
  exact h3.isBs hx

theorem OwnGp.isHs {w : World} {lo hi : Nat} {am ah : Option Addr} {es : List Bat} {ks : List HnB} (h : OwnGp w lo hi am ah es ks) {hs : List Hn} (he : hnsOf ks = hs) (hx : FewH hs) : IsHs w ah hs := by
  obtain ⟨mid, h1, h2, h3, h4⟩ := h
  rw [← he] at hx ⊢
  exact h4.isHs hx

set_option maxRecDepth 100000 in
set_option maxHeartbeats 4000000 in
theorem toGroup_any (am : Option Addr) (m cm : Nat) (ah : Option Addr) (n cn : Nat) (bs : List (List Wr)) (hs : List Hn) (w : World) (hm : bs.length = m) (hmm : m ≤ 1048576) (hfb : FewB bs) (hb : IsBs w am bs) (hn : hs.length = n) (hnn : n ≤ 1048576) (hfh : FewH hs) (hh : IsHs w ah hs) :
    Calls Try.prog 9 #[gpV am m cm ah n cn] w fun e w' => ∃ bm bh es ks, e = .returned (gpV (some ⟨bm, 0, none⟩) m m (some ⟨bh, 0, none⟩) n n) ∧ batsOf es = bs ∧ hnsOf ks = hs ∧ OwnGp w' w.heap.size w'.heap.size (some ⟨bm, 0, none⟩) (some ⟨bh, 0, none⟩) es ks ∧ Below w.heap.size w w' := by
  have HBS := Lib.hid hb
  have HHS := Lib.hid hh
  have HM := Lib.hid hm
  have HN := Lib.hid hn
  have HFB := Lib.hid hfb
  have HFH := Lib.hid hfh
  clear hb hh hm hn hfb hfh
  obtain ⟨O1, hO1⟩ : ∃ O, O = Obj.cells #[.slice am m cm, .slice ah n cn] 25 := ⟨_, rfl⟩
  obtain ⟨O2, hO2⟩ : ∃ O, O = Obj.cells #[.slice none 0 0, .slice none 0 0] 31 := ⟨_, rfl⟩
  have HB : Hid (Below w.heap.size w (((w.alloc O1).alloc O2).alloc O2)) := (((Below.refl _ _).alloc (Nat.le_refl _) _).alloc (by simp) _).alloc (by simp; omega) _
  have hsz : (((w.alloc O1).alloc O2).alloc O2).heap.size = w.heap.size + 3 := by simp
  have e : (w.alloc O1).heap.size = w.heap.size + 1 := by simp
  have HZ1 : Hid ((((w.alloc O1).alloc O2).alloc O2).heap[w.heap.size]? = some O1) := by
    have h1 := heap_alloc2_old w O1 O2
    have h2 : Below ((w.alloc O1).alloc O2).heap.size ((w.alloc O1).alloc O2) (((w.alloc O1).alloc O2).alloc O2) := (Below.refl _ _).alloc (Nat.le_refl _) _
    exact (h2.block w.heap.size (by simp; omega)).trans h1
  have HZ2 : Hid ((((w.alloc O1).alloc O2).alloc O2).heap[w.heap.size + 1]? = some O2) := by
    have := heap_alloc2_old (w.alloc O1) O2 O2
    rwa [e] at this
  have HZ3 : Hid ((((w.alloc O1).alloc O2).alloc O2).heap[w.heap.size + 2]? = some O2) := by
    have := heap_alloc2_new (w.alloc O1) O2 O2
    rwa [e] at this
  clear e
  subst hO1 hO2
  go_enter Try.func9, Try.ntmps9
  go_wp2_with fail
  generalize ((w.alloc (.cells #[.slice am m cm, .slice ah n cn] 25)).alloc (.cells #[.slice none 0 0, .slice none 0 0] 31)).alloc (.cells #[.slice none 0 0, .slice none 0 0] 31) = W3 at *
  refine (toRepS_any am m cm bs _ HM.out hmm HFB.out (HBS.out.below HB.out)).mono ?_
  rintro e w4 ⟨es, rfl, hes, hO, hb⟩
  rw [hsz] at hO
  have HES := Lib.hid hes
  have HO := Lib.hid hO
  have HB4 : Hid (Below w.heap.size w w4) := below_step HB.out HB.out.size hb
  have q1 := (hb.block w.heap.size (by omega)).trans HZ1.out
  have q2 := (hb.block (w.heap.size + 1) (by omega)).trans HZ2.out
  have q3 := (hb.block (w.heap.size + 2) (by omega)).trans HZ3.out
  have hs4 : W3.heap.size ≤ w4.heap.size := hb.size
  have b1 := cell_of_row w4 w.heap.size 1 _ _ _ q1
  have c0 := cell_of_row w4 (w.heap.size + 2) 0 _ _ _ q3
  have c1 := cell_of_row w4 (w.heap.size + 2) 1 _ _ _ q3
  have f3 : ∀ o, w4.frozen? ⟨w.heap.size + 2, o, none⟩ = false := fun o => frozen_of_row w4 (w.heap.size + 2) o _ _ q3
  simp at b1 c0 c1
  have HQ2 := Lib.hid q2
  clear hb hO hes HB HZ1 HZ2 HZ3 q1 q2 q3
  have HS5 : Hid (Below w.heap.size w (w4.setCell ⟨w.heap.size + 1 + 1, 0, none⟩ (.slice (some ⟨w.heap.size + 3, 0, none⟩) m m))) := HB4.out.setCell (p := ⟨w.heap.size + 1 + 1, 0, none⟩) (by simp; omega) _
  have HO5 : Hid (OwnB (w4.setCell ⟨w.heap.size + 1 + 1, 0, none⟩ (.slice (some ⟨w.heap.size + 3, 0, none⟩) m m)) (w.heap.size + 3) w4.heap.size (some ⟨w.heap.size + 3, 0, none⟩) es) := HO.out.setLow (by omega) 0 _
  have hz5 : (w4.setCell ⟨w.heap.size + 1 + 1, 0, none⟩ (.slice (some ⟨w.heap.size + 3, 0, none⟩) m m)).heap.size = w4.heap.size := by simp
  have HC3 : Hid ((w4.setCell ⟨w.heap.size + 1 + 1, 0, none⟩ (.slice (some ⟨w.heap.size + 3, 0, none⟩) m m)).cell? ⟨w.heap.size + 1 + 1, 0, none⟩ = some (.slice (some ⟨w.heap.size + 3, 0, none⟩) m m)) := World.cell?_setCell_same _ _ _ c0
  have HC4 : Hid ((w4.setCell ⟨w.heap.size + 1 + 1, 0, none⟩ (.slice (some ⟨w.heap.size + 3, 0, none⟩) m m)).cell? ⟨w.heap.size + 1 + 1, 1, none⟩ = some (.slice none 0 0)) := (World.cell?_setCell_other _ _ _ _ (by simp)).trans c1
  have HQ5 : Hid ((w4.setCell ⟨w.heap.size + 1 + 1, 0, none⟩ (.slice (some ⟨w.heap.size + 3, 0, none⟩) m m)).heap[w.heap.size + 1]? = some (.cells #[.slice none 0 0, .slice none 0 0] 31 (0, 0))) := (Below.heap_setCell _ _ _ _ (show w.heap.size + 1 ≠ w.heap.size + 1 + 1 by omega)).trans HQ2.out
  have HF5 : Hid (∀ o, (w4.setCell ⟨w.heap.size + 1 + 1, 0, none⟩ (.slice (some ⟨w.heap.size + 3, 0, none⟩) m m)).frozen? ⟨w.heap.size + 1 + 1, o, none⟩ = false) := fun o => by rw [World.frozen?_setCell]; exact f3 o
  go_wp2_with fail
  generalize w4.setCell ⟨w.heap.size + 1 + 1, 0, none⟩ (.slice (some ⟨w.heap.size + 3, 0, none⟩) m m) = W5 at *
  refine (toHintS_any ah n cn hs _ HN.out hnn HFH.out (HHS.out.below HS5.out)).mono ?_
  rintro e w6 ⟨ks, rfl, hks, hO, hb⟩
  rw [hz5] at hO
  have HKS := Lib.hid hks
  have HK := Lib.hid hO
  have HB6 : Hid (Below w.heap.size w w6) := below_step HS5.out HS5.out.size hb
  have HO6 := Lib.hid (HO5.out.below hb)
  have hs6 : W5.heap.size ≤ w6.heap.size := hb.size
  have d3 := held_cell hb HC3.out (by omega)
  have d4 := held_cell hb HC4.out (by omega)
  have q2 := (hb.block (w.heap.size + 1) (by omega)).trans HQ5.out
  have d0 := cell_of_row w6 (w.heap.size + 1) 0 _ _ _ q2
  have d1 := cell_of_row w6 (w.heap.size + 1) 1 _ _ _ q2
  have f2 : ∀ o, w6.frozen? ⟨w.heap.size + 1, o, none⟩ = false := fun o => frozen_of_row w6 (w.heap.size + 1) o _ _ q2
  have f6 : ∀ o, w6.frozen? ⟨w.heap.size + 1 + 1, o, none⟩ = false := fun o => (hb.frozen (p := ⟨w.heap.size + 1 + 1, o, none⟩) (by show w.heap.size + 1 + 1 < _; omega)).trans (HF5.out o)
  simp at d0 d1
  clear hb hO hks HB4 HS5 HO5 HC3 HC4 HQ5 HQ2 HF5 HO f3 c0 c1 b1
  go_wp2
  have hw3 : W3.heap.size = w.heap.size + 3 := hsz
  refine bodyPost_ret (v := gpV (some ⟨w.heap.size + 3, 0, none⟩) m m (some ⟨w4.heap.size, 0, none⟩) n n) (by simp [results, Try.results9, go_sem, d0, d1]) rfl ⟨w.heap.size + 3, w4.heap.size, es, ks, rfl, HES.out, HKS.out, ⟨w4.heap.size, by omega, by simp; omega, ?_, ?_⟩, ?_⟩
  · have h1 := ((HO6.out.setLow (b := w.heap.size + 1 + 1) (by omega) 1 (.slice (some ⟨w4.heap.size, 0, none⟩) n n)).setLow (b := w.heap.size + 1) (by omega) 0 (.slice (some ⟨w.heap.size + 3, 0, none⟩) m m)).setLow (b := w.heap.size + 1) (by omega) 1 (.slice (some ⟨w4.heap.size, 0, none⟩) n n)
    rcases h1 with h1 | ⟨b, h1, h2, h3, h4, h5, h6, h7⟩
    · exact .inl h1
    · exact .inr ⟨b, h1, by omega, h3, h4, h5, fun i hi => ⟨by have := (h6 i hi).1; omega, (h6 i hi).2⟩, h7⟩
  · have h1 := ((HK.out.setLow (b := w.heap.size + 1 + 1) (by omega) 1 (.slice (some ⟨w4.heap.size, 0, none⟩) n n)).setLow (b := w.heap.size + 1) (by omega) 0 (.slice (some ⟨w.heap.size + 3, 0, none⟩) m m)).setLow (b := w.heap.size + 1) (by omega) 1 (.slice (some ⟨w4.heap.size, 0, none⟩) n n)
    simpa using h1
  · exact ((HB6.out.setCell (p := ⟨w.heap.size + 1 + 1, 1, none⟩) (by simp; omega) _).setCell (p := ⟨w.heap.size + 1, 0, none⟩) (by simp) _).setCell (p := ⟨w.heap.size + 1, 1, none⟩) (by simp) _

end Go.Proofs.Ytojgahcogpediaa

/- What comes in, opened: tags, dependencies, slices of them, writes. -/
namespace Go.Proofs.Ytojgahcogpediaa
open Go.ChangeShapes Go.WideShapes Go.ChangeAt Go.RowKit Go.Joins Go.Deep
set_option maxRecDepth 100000

theorem cellsInt : Try.prog.cellsOf 3 = 1 := by kernel_rfl

theorem cellsTag : Try.prog.cellsOf 72 = 3 := by kernel_rfl

theorem cellsDep : Try.prog.cellsOf 131 = 4 := by kernel_rfl

section
variable {H : Type} {enc : TypeId × Value → H} {w : World} {base : Nat} {spare : Nat → Bool} {held : Bool}

theorem tag_cells {fuel : Nat} {cs : List Value} {x : DataW H × List MemPlace} (h : DataW.trod enc Try.prog w base spare held fuel 72 cs = some x) : ∃ c s q : Int, cs = [.int .i64 c, .int .i64 s, .int .i64 q] := by
  obtain ⟨y0, y1, y2, n, _, hl, h0, h1, h2⟩ := trod_struct3 Try.underlying72 h
  rw [cellsTag] at hl
  match cs, hl with
  | [v0, v1, v2], _ =>
    obtain ⟨a0, e0, _, _⟩ := DataW.trod_int Try.underlying3 h0
    obtain ⟨a1, e1, _, _⟩ := DataW.trod_int Try.underlying3 h1
    obtain ⟨a2, e2, _, _⟩ := DataW.trod_int Try.underlying3 h2
    simp [cellsInt] at e0 e1 e2
    subst e0 e1 e2
    exact ⟨a0, a1, a2, rfl⟩

theorem dep_cells {fuel : Nat} {cs : List Value} {x : DataW H × List MemPlace} (h : DataW.trod enc Try.prog w base spare held fuel 131 cs = some x) : ∃ d : Dp, cs = [.int .i64 d.k, .int .i64 d.c, .int .i64 d.s, .int .i64 d.q] := by
  obtain ⟨y0, y1, n, _, hl, h0, h1⟩ := trod_struct2 Try.underlying131 h
  rw [cellsDep] at hl
  match cs, hl with
  | [v0, v1, v2, v3], _ =>
    obtain ⟨a0, e0, _, _⟩ := DataW.trod_int Try.underlying3 h0
    obtain ⟨c, s, q, e1⟩ := tag_cells h1
    simp [cellsInt] at e0
    simp [cellsTag] at e1
    obtain ⟨e1, e2, e3⟩ := e1
    subst e0 e1 e2 e3
    exact ⟨⟨a0, c, s, q⟩, rfl⟩

theorem add_form {a : Addr} {v : Value} (h : w.cell? a = some v) : a = ⟨a.block, a.off, none⟩ := by
  cases a with
  | mk b o s =>
    cases s with
    | none => rfl
    | some s =>
      simp only [World.cell?] at h
      split at h <;> simp at h

theorem add_plain (b o i : Nat) : (Addr.mk b o none).add i = ⟨b, o + i, none⟩ := by
  unfold Addr.add
  split
  · rename_i h
    rw [h]
    rfl
  · rfl

theorem deps_cells {fuel : Nat} {a : Option Addr} {len cap : Nat} {x : DataW H × List MemPlace} (h : DataW.trod enc Try.prog w base spare held fuel 73 [.slice a len cap] = some x) :
    ∃ xs : List Dp, xs.length = len ∧ len ≤ maxLen ∧ IsDeps w a xs := by
  rcases open_slice Try.underlying73 h with ⟨hcs, _⟩ | ⟨a', len', cap', m, n, D, Pl, hcs, _, hl, hm, hmm, _, hel⟩
  · simp at hcs
    obtain ⟨rfl, rfl, rfl⟩ := hcs
    exact ⟨[], rfl, Nat.zero_le _, .inl rfl⟩
  · simp at hcs
    obtain ⟨rfl, rfl, rfl⟩ := hcs
    have hml : len ≤ m := by rw [hmm]; split <;> omega
    have hd : ∀ i, i < len → ∃ d : Dp, w.cell? (a'.add (i * 4)) = some (.int .i64 d.k) ∧ w.cell? (a'.add (i * 4 + 1)) = some (.int .i64 d.c) ∧ w.cell? (a'.add (i * 4 + 2)) = some (.int .i64 d.s) ∧ w.cell? (a'.add (i * 4 + 3)) = some (.int .i64 d.q) := by
      intro i hi
      obtain ⟨cs', h1, h2⟩ := hel i (by omega)
      rw [cellsDep] at h1
      obtain ⟨_, _, hc⟩ := World.cells?_some h1
      obtain ⟨d, hdd⟩ := dep_cells h2
      rw [hdd] at hc
      have c0 := hc 0 (by omega)
      have c1 := hc 1 (by omega)
      have c2 := hc 2 (by omega)
      have c3 := hc 3 (by omega)
      rw [add_add] at c0 c1 c2 c3
      exact ⟨d, by simpa using c0, by simpa using c1, by simpa using c2, by simpa using c3⟩
    by_cases h0 : len = 0
    · subst h0
      exact ⟨[], rfl, Nat.zero_le _, .inl rfl⟩
    have : Inhabited Dp := ⟨dz⟩
    obtain ⟨f, hf⟩ := choose_lt hd
    have ha : a' = ⟨a'.block, a'.off, none⟩ := by
      have h1 := (hf 0 (by omega)).1
      simp [Addr.add] at h1
      exact add_form h1
    refine ⟨(List.range len).map f, by simp, by omega, .inr ⟨a'.block, a'.off, by rw [← ha], ?_, ?_⟩⟩
    · obtain ⟨cs', h1, _⟩ := hel 0 (by omega)
      rw [cellsDep] at h1
      have h2 := World.cells?_block h1 (by omega)
      simpa [Addr.add] using h2
    · intro i hi
      have hi' : i < len := by simpa using hi
      have hg : ((List.range len).map f).getD i dz = f i := by simp [List.getD, hi']
      rw [hg]
      obtain ⟨h1, h2, h3, h4⟩ := hf i hi'
      rw [ha] at h1 h2 h3 h4
      rw [add_plain] at h1 h2 h3 h4
      exact ⟨h1, h2, h3, h4⟩

theorem open_deps {b0 : Nat} {r : Reach} {v : Value} {d : DataW H} {p : List MemPlace} (hv : Value.okWide Try.prog w r b0 73 v) (h : DataW.Trod enc Try.prog w base (fun _ => true) held 73 v d p) :
    ∃ (a : Option Addr) (len cap : Nat) (xs : List Dp), v = .slice a len cap ∧ (xs.length = len ∧ len ≤ maxLen ∧ IsDeps w a xs) := by
  obtain ⟨a, len, cap, rfl⟩ := okWide_slice Try.underlying73 hv
  obtain ⟨fuel, hf⟩ := h
  obtain ⟨xs, hx⟩ := deps_cells (by simpa [Value.cells] using hf)
  exact ⟨a, len, cap, xs, rfl, hx⟩

theorem cellsBool : Try.prog.cellsOf 4 = 1 := by kernel_rfl

theorem cellsDepS : Try.prog.cellsOf 73 = 1 := by kernel_rfl

theorem cellsWrite : Try.prog.cellsOf 75 = 7 := by kernel_rfl

theorem slice_cells {fuel : Nat} {v : Value} {x : DataW H × List MemPlace} (h : DataW.trod enc Try.prog w base spare held fuel 73 [v] = some x) : ∃ a len cap, v = .slice a len cap := by
  rcases open_slice Try.underlying73 h with ⟨hcs, _⟩ | ⟨a', len', cap', m, n, D, Pl, hcs, _⟩
  · simp at hcs
    exact ⟨_, _, _, hcs⟩
  · simp at hcs
    exact ⟨_, _, _, hcs⟩

theorem open_write {b0 : Nat} {r : Reach} {v : Value} {d : DataW H} {p : List MemPlace} (hv : Value.okWide Try.prog w r b0 75 v) (h : DataW.Trod enc Try.prog w base (fun _ => true) held 75 v d p) :
    ∃ (k c s q va : Int) (de : Bool) (a : Option Addr) (len cap : Nat) (xs : List Dp), v = .agg #[.int .i64 k, .int .i64 c, .int .i64 s, .int .i64 q, .int .i64 va, .bool de, .slice a len cap] ∧ (xs.length = len ∧ len ≤ maxLen ∧ IsDeps w a xs) := by
  obtain ⟨cs, rfl, hsz⟩ := okWide_struct Try.underlying75 hv
  rw [cellsWrite] at hsz
  obtain ⟨fuel, hf⟩ := h
  obtain ⟨xs', n, _, _, _, hlen, hfd⟩ := DataW.trod_struct Try.underlying75 hf
  cases cs with
  | mk l =>
    have hl : l.length = 7 := by simpa using hsz
    match l, hl, xs', hlen with
    | [v0, v1, v2, v3, v4, v5, v6], _, [y0, y1, y2, y3, y4], _ =>
      have g0 := hfd 0 _ rfl
      have g1 := hfd 1 _ rfl
      have g2 := hfd 2 _ rfl
      have g3 := hfd 3 _ rfl
      have g4 := hfd 4 _ rfl
      simp [Value.cells, cellsInt, cellsTag, cellsBool, cellsDepS] at g0 g1 g2 g3 g4
      obtain ⟨k, e0, _, _⟩ := DataW.trod_int Try.underlying3 g0
      obtain ⟨c, s, q, e1⟩ := tag_cells g1
      obtain ⟨va, e2, _, _⟩ := DataW.trod_int Try.underlying3 g2
      obtain ⟨de, e3, _⟩ := DataW.trod_bool Try.underlying4 g3
      obtain ⟨a, len, cap, e4⟩ := slice_cells g4
      simp at e0 e1 e2 e3
      obtain ⟨e1, e1', e1''⟩ := e1
      subst e0 e1 e1' e1'' e2 e3 e4
      obtain ⟨xs, hx⟩ := deps_cells g4
      exact ⟨k, c, s, q, va, de, a, len, cap, xs, rfl, hx⟩

end
end Go.Proofs.Ytojgahcogpediaa

/- What comes in, opened: slices of writes. -/
namespace Go.Proofs.Ytojgahcogpediaa
open Go.ChangeShapes Go.WideShapes Go.ChangeAt Go.RowKit Go.Joins Go.Deep
set_option maxRecDepth 100000

section
variable {H : Type} {enc : TypeId × Value → H} {w : World} {base : Nat} {spare : Nat → Bool} {held : Bool}

theorem write_cells {fuel : Nat} {cs : List Value} {x : DataW H × List MemPlace} (h : DataW.trod enc Try.prog w base spare held fuel 75 cs = some x) :
    ∃ (y : Wr) (a : Option Addr) (cap : Nat), cs = [.int .i64 y.k, .int .i64 y.c, .int .i64 y.s, .int .i64 y.q, .int .i64 y.v, .bool y.de, .slice a y.xs.length cap] ∧ y.xs.length ≤ maxLen ∧ IsDeps w a y.xs := by
  obtain ⟨xs', n, hl0, _, _, hlen, hfd⟩ := DataW.trod_struct Try.underlying75 h
  have hl : cs.length = 7 := by rw [cellsWrite] at *; assumption
  match cs, hl, xs', hlen with
  | [v0, v1, v2, v3, v4, v5, v6], _, [y0, y1, y2, y3, y4], _ =>
    have g0 := hfd 0 _ rfl
    have g1 := hfd 1 _ rfl
    have g2 := hfd 2 _ rfl
    have g3 := hfd 3 _ rfl
    have g4 := hfd 4 _ rfl
    simp [cellsInt, cellsTag, cellsBool, cellsDepS] at g0 g1 g2 g3 g4
    obtain ⟨k, e0, _, _⟩ := DataW.trod_int Try.underlying3 g0
    obtain ⟨c, s, q, e1⟩ := tag_cells g1
    obtain ⟨va, e2, _, _⟩ := DataW.trod_int Try.underlying3 g2
    obtain ⟨de, e3, _⟩ := DataW.trod_bool Try.underlying4 g3
    obtain ⟨a, len, cap, e4⟩ := slice_cells g4
    simp at e0 e1 e2 e3
    obtain ⟨e1, e1', e1''⟩ := e1
    subst e0 e1 e1' e1'' e2 e3 e4
    obtain ⟨xs, hx1, hx2, hx3⟩ := deps_cells g4
    subst hx1
    exact ⟨⟨k, c, s, q, va, de, xs⟩, a, cap, rfl, hx2, hx3⟩

theorem ws_cells {fuel : Nat} {a : Option Addr} {len cap : Nat} {x : DataW H × List MemPlace} (h : DataW.trod enc Try.prog w base spare held fuel 35 [.slice a len cap] = some x) :
    ∃ ws : List Wr, ws.length = len ∧ len ≤ maxLen ∧ IsWs w a ws := by
  rcases open_slice Try.underlying35 h with ⟨hcs, _⟩ | ⟨a', len', cap', m, n, D, Pl, hcs, _, hl, hm, hmm, _, hel⟩
  · simp at hcs
    obtain ⟨rfl, rfl, rfl⟩ := hcs
    exact ⟨[], rfl, Nat.zero_le _, .inl rfl⟩
  · simp at hcs
    obtain ⟨rfl, rfl, rfl⟩ := hcs
    have hml : len ≤ m := by rw [hmm]; split <;> omega
    have hd : ∀ i, i < len → ∃ y : Wr, ∃ (ad : Option Addr) (cp : Nat), w.cell? (a'.add (i * 7)) = some (.int .i64 y.k) ∧ w.cell? (a'.add (i * 7 + 1)) = some (.int .i64 y.c) ∧ w.cell? (a'.add (i * 7 + 2)) = some (.int .i64 y.s) ∧ w.cell? (a'.add (i * 7 + 3)) = some (.int .i64 y.q) ∧ w.cell? (a'.add (i * 7 + 4)) = some (.int .i64 y.v) ∧ w.cell? (a'.add (i * 7 + 5)) = some (.bool y.de) ∧ w.cell? (a'.add (i * 7 + 6)) = some (.slice ad y.xs.length cp) ∧ y.xs.length ≤ maxLen ∧ IsDeps w ad y.xs := by
      intro i hi
      obtain ⟨cs', h1, h2⟩ := hel i (by omega)
      rw [cellsWrite] at h1
      obtain ⟨_, _, hc⟩ := World.cells?_some h1
      obtain ⟨y, ad, cp, hdd, hy1, hy2⟩ := write_cells h2
      rw [hdd] at hc
      have c0 := hc 0 (by omega)
      have c1 := hc 1 (by omega)
      have c2 := hc 2 (by omega)
      have c3 := hc 3 (by omega)
      have c4 := hc 4 (by omega)
      have c5 := hc 5 (by omega)
      have c6 := hc 6 (by omega)
      rw [add_add] at c0 c1 c2 c3 c4 c5 c6
      exact ⟨y, ad, cp, by simpa using c0, by simpa using c1, by simpa using c2, by simpa using c3, by simpa using c4, by simpa using c5, by simpa using c6, hy1, hy2⟩
    by_cases h0 : len = 0
    · subst h0
      exact ⟨[], rfl, Nat.zero_le _, .inl rfl⟩
    have : Inhabited Wr := ⟨wz⟩
    obtain ⟨f, hf⟩ := choose_lt hd
    have ha : a' = ⟨a'.block, a'.off, none⟩ := by
      obtain ⟨_, _, h1, _⟩ := hf 0 (by omega)
      simp [Addr.add] at h1
      exact add_form h1
    refine ⟨(List.range len).map f, by simp, by omega, .inr ⟨a'.block, a'.off, by rw [← ha], ?_, ?_⟩⟩
    · obtain ⟨cs', h1, _⟩ := hel 0 (by omega)
      rw [cellsWrite] at h1
      have h2 := World.cells?_block h1 (by omega)
      simpa [Addr.add] using h2
    · intro i hi
      have hi' : i < len := by simpa using hi
      have hg : ((List.range len).map f).getD i wz = f i := by simp [List.getD, hi']
      rw [hg]
      obtain ⟨ad, cp, h1, h2, h3, h4, h5, h6, h7, h8, h9⟩ := hf i hi'
      rw [ha] at h1 h2 h3 h4 h5 h6 h7
      rw [add_plain] at h1 h2 h3 h4 h5 h6 h7
      exact ⟨ad, cp, ⟨h1, h2, h3, h4, h5, h6, h7⟩, h8, h9⟩

theorem open_ws {b0 : Nat} {r : Reach} {v : Value} {d : DataW H} {p : List MemPlace} (hv : Value.okWide Try.prog w r b0 35 v) (h : DataW.Trod enc Try.prog w base (fun _ => true) held 35 v d p) :
    ∃ (a : Option Addr) (len cap : Nat) (ws : List Wr), v = .slice a len cap ∧ (ws.length = len ∧ len ≤ maxLen ∧ IsWs w a ws) := by
  obtain ⟨a, len, cap, rfl⟩ := okWide_slice Try.underlying35 hv
  obtain ⟨fuel, hf⟩ := h
  obtain ⟨ws, hx⟩ := ws_cells (by simpa [Value.cells] using hf)
  exact ⟨a, len, cap, ws, rfl, hx⟩

end
end Go.Proofs.Ytojgahcogpediaa

/- What comes in, opened: slices of batches. -/
namespace Go.Proofs.Ytojgahcogpediaa
open Go.ChangeShapes Go.WideShapes Go.ChangeAt Go.RowKit Go.Joins Go.Deep
set_option maxRecDepth 100000

theorem cellsWriteS : Try.prog.cellsOf 35 = 1 := by kernel_rfl

section
variable {H : Type} {enc : TypeId × Value → H} {w : World} {base : Nat} {spare : Nat → Bool} {held : Bool}

theorem sliceW_cells {fuel : Nat} {cs : List Value} {x : DataW H × List MemPlace} (h : DataW.trod enc Try.prog w base spare held fuel 35 cs = some x) : ∃ (a : Option Addr) (len cap : Nat), cs = [.slice a len cap] := by
  rcases open_slice Try.underlying35 h with ⟨hcs, _⟩ | ⟨a', len', cap', m, n, D, Pl, hcs, _⟩
  · exact ⟨none, 0, 0, hcs⟩
  · exact ⟨_, _, _, hcs⟩

end
end Go.Proofs.Ytojgahcogpediaa
