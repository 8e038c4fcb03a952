import Derived.Test.YtobcefkjoojflaaPack4
import Derived.Test.YtobcefkjoojflaaPack5
import Derived.Test.YtobcefkjoojflaaPack6
import Derived.Deep.DeepCutAuto
import Derived.Lib.Hide
namespace Go.Proofs.Ytobcefkjoojflaa
open Go.ChangeShapes Go.WideShapes Go.ChangeAt Go.RowKit Go.Joins
set_option maxRecDepth 100000
attribute [local go_sem ↓] Go.wp_at_zero Go.wp_at_succ

def okShow (c : Int) : Bool := c == 0 || c == 3

def okPut (c : Int) : Bool := c == 0 || c == 4

def putK (k : Int) : Bool := k == 1 || (k == 2 || k == 10)

def eventB (a : Ac) (c : Int) (n : Nat) : Bool := if putK a.k then decide (0 < n) && okPut c else if a.k == 3 then btw a.b 0 5 && okShow c else if a.k == 4 then decide (0 ≤ a.d) && okShow c else false

def eventE (a : Ac) (ws : List Wr) : Ev := if putK a.k then ⟨a.a, false, 0, ws⟩ else if a.k == 3 then ⟨a.a, true, 2 ^ a.b.toNat, ws⟩ else ⟨a.a, true, a.d, ws⟩

set_option maxHeartbeats 8000000 in
theorem shownEvent_any (s m c : Int) (a : Option Addr) (n cap : Nat) (ws : List Wr) (w : World) (hn : ws.length = n) (hm : n ≤ 1048576) (hx : Few ws) (h : IsWs w a ws) :
    Calls Try.prog 34 #[.int .i64 s, .int .i64 m, rpV c a n cap] w fun e w' => ∃ a2 cp γ, e = .returned (.tuple #[evV s true m a2 n cp, .bool (okShow c)]) ∧ OwnA w' w.heap.size w'.heap.size a2 ws γ ∧ Below w.heap.size w w' := by
  have H := Lib.hid h
  have HN := Lib.hid hn
  have HX := Lib.hid hx
  clear h hn hx
  have HB : Hid (Below w.heap.size w ((w.alloc (.cells #[.int .i64 c, .slice a n cap] 47)).alloc (.cells #[.int .i64 0, .bool false, .int .i64 0, .slice none 0 0] 50))) := ((Below.refl _ _).alloc (Nat.le_refl _) _).alloc (by simp) _
  go_enter Try.func34, Try.ntmps34
  go_wp2_with fail
  refine (copyWrites_any a n cap ws _ HN.out hm HX.out (H.out.below HB.out)).mono ?_
  rintro e w2 ⟨v, es, rfl, he, hr, hb⟩
  obtain ⟨a2, cp2, n2, rfl, hl2, ho⟩ := hr.ownA he
  obtain rfl : n2 = n := by rw [← hl2, HN.out]
  have HO := Lib.hid ho
  have HB2 : Hid (Below w.heap.size w w2) := below_step HB.out HB.out.size hb
  have r0 : ((w.alloc (.cells #[.int .i64 c, .slice a n2 cap] 47)).alloc (.cells #[.int .i64 0, .bool false, .int .i64 0, .slice none 0 0] 50)).heap[w.heap.size]? = some (.cells #[.int .i64 c, .slice a n2 cap] 47 (0, 0)) := by
    rw [Below.heap_alloc _ _ _ (by simp)]
    exact heap_alloc_new w _
  have e0 : ((w.alloc (.cells #[.int .i64 c, .slice a n2 cap] 47)).alloc (.cells #[.int .i64 0, .bool false, .int .i64 0, .slice none 0 0] 50)).heap[w.heap.size + 1]? = some (.cells #[.int .i64 0, .bool false, .int .i64 0, .slice none 0 0] 50 (0, 0)) := by
    simpa using heap_alloc_new (w.alloc (.cells #[.int .i64 c, .slice a n2 cap] 47)) (.cells #[.int .i64 0, .bool false, .int .i64 0, .slice none 0 0] 50)
  replace r0 := (hb.block _ (by simp <;> omega)).trans r0
  replace e0 := (hb.block _ (by simp <;> omega)).trans e0
  have hsz : w.heap.size + 2 ≤ w2.heap.size := by have := hb.size; simp at this; omega
  have HOW : Hid (OwnA w2 (w.heap.size + 1 + 1) w2.heap.size a2 ws (gammaG es)) := by
    have h := ho
    simp at h
    exact h
  clear hr hb ho HO hl2 he HB H HN HX
  go_upto_region 2 with fail
  have HA : Hid (Below w2.heap.size w2 (w2.alloc (.cells #[.int .i64 s, .bool true, .int .i64 m, .slice a2 n2 cp2] 50))) := (Below.refl _ _).alloc (Nat.le_refl _) _
  have HB3 := Lib.hid (below_step HB2.out HB2.out.size HA.out)
  replace r0 := (HA.out.block _ (by omega)).trans r0
  replace e0 := (HA.out.block _ (by omega)).trans e0
  have HOX := Lib.hid (HOW.out.below HA.out)
  have x0 := heap_alloc_new w2 (.cells #[.int .i64 s, .bool true, .int .i64 m, .slice a2 n2 cp2] 50)
  have hs3 : (w2.alloc (.cells #[.int .i64 s, .bool true, .int .i64 m, .slice a2 n2 cp2] 50)).heap.size = w2.heap.size + 1 := by simp
  generalize w2.alloc (.cells #[.int .i64 s, .bool true, .int .i64 m, .slice a2 n2 cp2] 50) = w3 at *
  have k0 := cell_of_row w3 _ 0 _ _ _ r0
  have k1 := cell_of_row w3 _ 1 _ _ _ r0
  have d0 := cell_of_row w3 _ 0 _ _ _ e0
  have d1 := cell_of_row w3 _ 1 _ _ _ e0
  have d2 := cell_of_row w3 _ 2 _ _ _ e0
  have d3 := cell_of_row w3 _ 3 _ _ _ e0
  have b0 := cell_of_row w3 _ 0 _ _ _ x0
  have b1 := cell_of_row w3 _ 1 _ _ _ x0
  have b2 := cell_of_row w3 _ 2 _ _ _ x0
  have b3 := cell_of_row w3 _ 3 _ _ _ x0
  have fz : ∀ o, w3.frozen? ⟨w.heap.size + 1, o, none⟩ = false := fun o => frozen_of_row w3 _ o _ _ e0
  simp at k0 k1 d0 d1 d2 d3 b0 b1 b2 b3
  clear r0 e0 x0 HA HOW HB2
  have HP : Hid (OwnA (put4 w3 (w.heap.size + 1) 0 s true m (.slice a2 n2 cp2)).drew w.heap.size (put4 w3 (w.heap.size + 1) 0 s true m (.slice a2 n2 cp2)).drew.heap.size a2 ws (gammaG es)) := by
    refine ((HOX.out.put4 (b := w.heap.size + 1) (Nat.lt_succ_self _) 0 s true m (.slice a2 n2 cp2)).below ((Below.refl _ _).drew)).wider (by omega) ?_
    show w2.heap.size ≤ (put4 w3 (w.heap.size + 1) 0 s true m (.slice a2 n2 cp2)).heap.size
    rw [put4_size]
    omega
  have HQ : Hid (Below w.heap.size w (put4 w3 (w.heap.size + 1) 0 s true m (.slice a2 n2 cp2)).drew) := (Below.put4' HB3.out (Nat.le_succ _) 0 s true m _).drew
  clear HOX HB3
  by_cases hc : c = 0
  · subst hc
    go_region
    go_wp2
    exact bodyPost_ret (v := .tuple #[evV s true m a2 n2 cp2, .bool (okShow 0)]) (by simp [results, Try.results34, go_sem, d0, d1, d2, d3, okShow]) rfl ⟨a2, cp2, _, rfl, HP.out, HQ.out⟩
  · have hcb : (c == 0) = false := by simpa using hc
    go_region
    go_wp2
    exact bodyPost_ret (v := .tuple #[evV s true m a2 n2 cp2, .bool (okShow c)]) (by simp [results, Try.results34, go_sem, d0, d1, d2, d3, okShow, hcb]) rfl ⟨a2, cp2, _, rfl, HP.out, HQ.out⟩

theorem lastsU_belowE {U : Tmp → Option Tmp} {d : Option Tmp} {T : Fact} (h : lasts (fun w w' => Below w.heap.size w w') T) : lastsU U (fun _ w w' => Below w.heap.size w w') d T := fun _ _ _ v w w' hv hr => h v w w' hv hr

def CopF (lo n : Nat) (ws : List Wr) : Fact := fun v w => ∃ a2 cp γ hi, v = .slice a2 n cp ∧ hi ≤ w.heap.size ∧ OwnA w lo hi a2 ws γ

theorem lasts_copF (lo n : Nat) (ws : List Wr) : lasts (fun w w' => Below w.heap.size w w') (CopF lo n ws) := by
  rintro v w w' ⟨a2, cp, γ, hi, h1, h2, h3⟩ hb
  exact ⟨a2, cp, γ, hi, h1, Nat.le_trans h2 hb.size, h3.below hb⟩

def EvnF (lo n : Nat) (s : Int) (sh : Bool) (m : Int) (ws : List Wr) : Fact := fun v w => ∃ a2 cp γ hi, v = evV s sh m a2 n cp ∧ hi ≤ w.heap.size ∧ OwnA w lo hi a2 ws γ

theorem lasts_evnF (lo n : Nat) (s : Int) (sh : Bool) (m : Int) (ws : List Wr) : lasts (fun w w' => Below w.heap.size w w') (EvnF lo n s sh m ws) := by
  rintro v w w' ⟨a2, cp, γ, hi, h1, h2, h3⟩ hb
  exact ⟨a2, cp, γ, hi, h1, Nat.le_trans h2 hb.size, h3.below hb⟩

def TupF (lo n : Nat) (s m c : Int) (ws : List Wr) : Fact := fun v w => ∃ a2 cp γ hi, v = .tuple #[evV s true m a2 n cp, .bool (okShow c)] ∧ hi ≤ w.heap.size ∧ OwnA w lo hi a2 ws γ

theorem lasts_tupF (lo n : Nat) (s m c : Int) (ws : List Wr) : lasts (fun w w' => Below w.heap.size w w') (TupF lo n s m c ws) := by
  rintro v w w' ⟨a2, cp, γ, hi, h1, h2, h3⟩ hb
  exact ⟨a2, cp, γ, hi, h1, Nat.le_trans h2 hb.size, h3.below hb⟩

def EvtAns (w : World) (x : Ac) (c : Int) (n : Nat) (ws : List Wr) (e : Ending) (w' : World) : Prop :=
  ∃ s sh m a2 n2 cp, e = .returned (.tuple #[evV s sh m a2 n2 cp, .bool (eventB x c n)]) ∧ (eventB x c n = true → s = (eventE x ws).s ∧ sh = (eventE x ws).sh ∧ m = (eventE x ws).m ∧ n2 = n ∧ ∃ γ, OwnA w' w.heap.size w'.heap.size a2 ws γ) ∧ Below w.heap.size w w'

set_option maxHeartbeats 16000000 in
theorem eventOf_any (x : Ac) (c : Int) (a : Option Addr) (n cap : Nat) (ws : List Wr) (w : World) (hn : ws.length = n) (hm : n ≤ 1048576) (hx : Few ws) (h : IsWs w a ws) :
    Calls Try.prog 22 #[acV x, rpV c a n cap] w fun e w' => EvtAns w x c n ws e w' := by
  have H := Lib.hid h
  have HN := Lib.hid hn
  have HX := Lib.hid hx
  clear h hn hx
  obtain ⟨xk, xa, xb, xc, xd, xe⟩ := x
  have HB : Hid (Below w.heap.size w (((w.alloc (.cells #[.int .i64 xk, .int .i64 xa, .int .i64 xb, .int .i64 xc, .int .i64 xd, .int .i64 xe] 44)).alloc (.cells #[.int .i64 c, .slice a n cap] 47)).alloc (.cells #[.int .i64 0, .bool false, .int .i64 0, .slice none 0 0] 50))) := (((Below.refl _ _).alloc (Nat.le_refl _) _).alloc (by simp) _).alloc (by simp; omega) _
  go_enter Try.func22, Try.ntmps22
  go_upto_region 1 with fail
  obtain ⟨V, hV⟩ : ∃ V, V = ((w.alloc (.cells #[.int .i64 xk, .int .i64 xa, .int .i64 xb, .int .i64 xc, .int .i64 xd, .int .i64 xe] 44)).alloc (.cells #[.int .i64 c, .slice a n cap] 47)).alloc (.cells #[.int .i64 0, .bool false, .int .i64 0, .slice none 0 0] 50) := ⟨_, rfl⟩
  have hvs : V.heap.size = w.heap.size + 3 := by rw [hV]; simp
  have x0 : V.heap[w.heap.size]? = some (.cells #[.int .i64 xk, .int .i64 xa, .int .i64 xb, .int .i64 xc, .int .i64 xd, .int .i64 xe] 44 (0, 0)) := by
    rw [hV, Below.heap_alloc _ _ _ (by simp; omega), Below.heap_alloc _ _ _ (by simp)]
    exact heap_alloc_new w _
  have r0 : V.heap[w.heap.size + 1]? = some (.cells #[.int .i64 c, .slice a n cap] 47 (0, 0)) := by
    rw [hV, Below.heap_alloc _ _ _ (by simp)]
    simpa using heap_alloc_new (w.alloc (.cells #[.int .i64 xk, .int .i64 xa, .int .i64 xb, .int .i64 xc, .int .i64 xd, .int .i64 xe] 44)) (.cells #[.int .i64 c, .slice a n cap] 47)
  have e0 : V.heap[w.heap.size + 1 + 1]? = some (.cells #[.int .i64 0, .bool false, .int .i64 0, .slice none 0 0] 50 (0, 0)) := by
    rw [hV]
    simpa using heap_alloc_new ((w.alloc (.cells #[.int .i64 xk, .int .i64 xa, .int .i64 xb, .int .i64 xc, .int .i64 xd, .int .i64 xe] 44)).alloc (.cells #[.int .i64 c, .slice a n cap] 47)) (.cells #[.int .i64 0, .bool false, .int .i64 0, .slice none 0 0] 50)
  rw [← hV] at HB ⊢
  have HI := Lib.hid (H.out.below HB.out)
  clear hV H
  have HCX : Hid (∀ W, Below V.heap.size V W → (W.cell? ⟨w.heap.size, 0, none⟩ = some (.int .i64 xk) ∧ W.cell? ⟨w.heap.size, 1, none⟩ = some (.int .i64 xa) ∧ W.cell? ⟨w.heap.size, 2, none⟩ = some (.int .i64 xb) ∧ W.cell? ⟨w.heap.size, 4, none⟩ = some (.int .i64 xd)) ∧ (W.cell? ⟨w.heap.size + 1, 0, none⟩ = some (.int .i64 c) ∧ W.cell? ⟨w.heap.size + 1, 1, none⟩ = some (.slice a n cap)) ∧ W.heap[w.heap.size + 1 + 1]? = some (.cells #[.int .i64 0, .bool false, .int .i64 0, .slice none 0 0] 50 (0, 0))) := fun W hW => by
    have x1 := (hW.block _ (by omega)).trans x0
    have r1 := (hW.block _ (by omega)).trans r0
    have e1 := (hW.block _ (by omega)).trans e0
    refine ⟨⟨?_, ?_, ?_, ?_⟩, ⟨?_, ?_⟩, e1⟩ <;> (first | (rw [cell_of_row _ _ _ _ _ (0, 0) x1]; rfl) | (rw [cell_of_row _ _ _ _ _ (0, 0) r1]; rfl))
  obtain ⟨⟨c0, c1, c2, c4⟩, ⟨k0, k1⟩, -⟩ := HCX.out V (Below.refl _ _)
  clear x0 r0 e0
  have HVS := Lib.hid hvs
  clear hvs
  by_cases h1 : xk = 1
  · subst h1
    by_cases hn0 : 0 < n
    · have n0 : (0 : Int) < (n : Int) := by omega
      by_cases hc0 : c = 0
      · subst hc0
        have hev : eventB ⟨1, xa, xb, xc, xd, xe⟩ 0 n = true := by simp [eventB, putK, okPut, hn0]
        go_upto_region 6 with fail
        refine wp_region_slots_v 7 6 (0, 0) [[(2, false)], [(27, true)], [(3, false)], [(29, true)], [(30, true)], [(28, true), (31, true)], [(6, false)]] (fun w' => Below V.heap.size V w') (fun w' => Below V.heap.size V w') (fun _ w' => Below V.heap.size V w') (fun _ _ => True) (fun _ => none) (fun _ w w' => Below w.heap.size w w') (by kernel_rfl) (by kernel_rfl) (by rfl) (Below.refl _ _).drew (by kernel_rfl) (fun _ => trivial) (fun _ => trivial) (by kernel_rfl) (fun _ _ _ _ _ _ _ _ => trivial) (fun _ _ _ _ _ _ h => by cases h) (fun d f w w' h1 h2 => below_step h1 h1.size h2) (fun _ _ _ h => h) (fun _ _ _ h => h) ?_
        apply slotU_eq
        · intro ρ w' ⟨p1, p2, p3⟩ hS _ hn
          simp at hn
          go_simp
          exact ⟨Below.refl _ _, rfl⟩
        apply slotU_eq
        · intro ρ w' ⟨p1, p2, p3⟩ hS _ hn
          obtain ⟨⟨c0, c1, c2, c4⟩, ⟨k0, k1⟩, -⟩ := HCX.out w' hS
          simp at hn
          go_simp
          exact ⟨Below.refl _ _, rfl⟩
        apply slotU_eq
        · intro ρ w' ⟨p1, p2, p3⟩ hS _ hn
          simp at hn
          go_simp
          exact ⟨Below.refl _ _, rfl⟩
        apply slotU_eq
        · intro ρ w' ⟨p1, p2, p3⟩ hS _ hn
          obtain ⟨⟨c0, c1, c2, c4⟩, ⟨k0, k1⟩, -⟩ := HCX.out w' hS
          simp at hn
          go_simp
          exact ⟨Below.refl _ _, rfl⟩
        refine slotU_fact (CopF V.heap.size n ws) (lastsU_belowE (lasts_copF _ _ _)) ?_ ?_
        · intro ρ w' ⟨p1, p2, p3⟩ hS _ hn
          simp at hn
          go_simp
          exact got_call (copyWrites_any a n cap ws w' HN.out hm HX.out (HI.out.below hS)) fun e w'' ⟨v, es, he, hex, hr, hb⟩ => by
            obtain ⟨a2, cp2, n2, rfl, hl2, ho⟩ := hr.ownA hex
            obtain rfl : n2 = n := by rw [← hl2, HN.out]
            exact ⟨_, he, hb, a2, cp2, _, w''.heap.size, rfl, Nat.le_refl _, ho.wider hS.size (Nat.le_refl _)⟩
        refine slotU_fact (EvnF V.heap.size n xa false 0 ws) (lastsU_belowE (lasts_evnF _ _ _ _ _ _)) ?_ ?_
        · intro ρ w' ⟨p1, p2, p3⟩ hS _ hn
          simp at hn
          obtain ⟨x28, a2, cp2, γ, hi, x31, h1, h2⟩ := hn
          go_simp
          exact ⟨Below.refl _ _, a2, cp2, γ, hi, rfl, h1, h2⟩
        apply slotU_eq
        · intro ρ w' ⟨p1, p2, p3⟩ hS _ hn
          simp at hn
          go_simp
          exact ⟨Below.refl _ _, rfl⟩
        refine slotU_end ?_
        intro vs w6 hS
        constructor
        · intro hF
          simp at hF
          obtain ⟨x33, ⟨a2, cp2, γ, hi, x32, hhi, hoa⟩, ⟨a3, cp3, γ3, hi3, x31, -, -⟩, x30, x29, x28, x27⟩ := hF
          simp only [List.take_succ_cons, List.take_zero, List.drop_succ_cons, List.drop_zero, putAll, x33, x32, x31, x30, x29, x28, x27]
          clear x33 x32 x31 x30 x29 x28 x27
          simp only [Act.put, List.setIfInBounds_toArray, List.set_cons_succ, List.set_cons_zero]
          have hvs := HVS.out
          have HS := Lib.hid (below_step HB.out HB.out.size hS)
          obtain ⟨-, -, e6⟩ := HCX.out w6 hS
          have d0 := cell_of_row w6 _ 0 _ _ _ e6
          have d1 := cell_of_row w6 _ 1 _ _ _ e6
          have d2 := cell_of_row w6 _ 2 _ _ _ e6
          have d3 := cell_of_row w6 _ 3 _ _ _ e6
          have fz : ∀ o, w6.frozen? ⟨w.heap.size + 1 + 1, o, none⟩ = false := fun o => frozen_of_row w6 _ o _ _ e6
          simp at d0 d1 d2 d3
          have HP : Hid (OwnA (put4 w6 (w.heap.size + 1 + 1) 0 xa false 0 (.slice a2 n cp2)) w.heap.size (put4 w6 (w.heap.size + 1 + 1) 0 xa false 0 (.slice a2 n cp2)).heap.size a2 ws γ) := by
            refine (hoa.put4 (b := w.heap.size + 1 + 1) (by omega) 0 xa false 0 (.slice a2 n cp2)).wider (by omega) ?_
            rw [put4_size]
            exact hhi
          have HQ : Hid (Below w.heap.size w (put4 w6 (w.heap.size + 1 + 1) 0 xa false 0 (.slice a2 n cp2))) := Below.put4' HS.out (by omega) 0 xa false 0 _
          clear hoa hS e6 HS HCX HI HN HX HB hvs HVS hhi
          go_wp2
          exact bodyPost_ret (v := .tuple #[evV xa false 0 a2 n cp2, .bool true]) (by simp [results, Try.results22, go_sem, d0, d1, d2, d3]) rfl ⟨xa, false, 0, a2, n, cp2, by rw [hev], fun _ => ⟨by simp [eventE, putK], by simp [eventE, putK], by simp [eventE, putK], rfl, γ, HP.out⟩, HQ.out⟩
        · intro hF
          simp at hF
          obtain ⟨⟨a2, cp2, γ, hi, x32, hhi, hoa⟩, ⟨a3, cp3, γ3, hi3, x31, -, -⟩, x30, x29, x28, x27⟩ := hF
          simp only [List.take_succ_cons, List.take_zero, List.eraseIdx_cons_succ, List.eraseIdx_cons_zero, List.drop_succ_cons, List.drop_zero, putAll, x32, x31, x30, x29, x28, x27]
          clear x32 x31 x30 x29 x28 x27
          simp only [Act.put, List.setIfInBounds_toArray, List.set_cons_succ, List.set_cons_zero, List.getElem?_cons_succ, List.getElem?_cons_zero, Option.toList_some, List.cons_append, List.nil_append]
          have hvs := HVS.out
          have HS := Lib.hid (below_step HB.out HB.out.size hS)
          obtain ⟨-, -, e6⟩ := HCX.out w6 hS
          have d0 := cell_of_row w6 _ 0 _ _ _ e6
          have d1 := cell_of_row w6 _ 1 _ _ _ e6
          have d2 := cell_of_row w6 _ 2 _ _ _ e6
          have d3 := cell_of_row w6 _ 3 _ _ _ e6
          have fz : ∀ o, w6.frozen? ⟨w.heap.size + 1 + 1, o, none⟩ = false := fun o => frozen_of_row w6 _ o _ _ e6
          simp at d0 d1 d2 d3
          have HP : Hid (OwnA (put4 w6 (w.heap.size + 1 + 1) 0 xa false 0 (.slice a2 n cp2)) w.heap.size (put4 w6 (w.heap.size + 1 + 1) 0 xa false 0 (.slice a2 n cp2)).heap.size a2 ws γ) := by
            refine (hoa.put4 (b := w.heap.size + 1 + 1) (by omega) 0 xa false 0 (.slice a2 n cp2)).wider (by omega) ?_
            rw [put4_size]
            exact hhi
          have HQ : Hid (Below w.heap.size w (put4 w6 (w.heap.size + 1 + 1) 0 xa false 0 (.slice a2 n cp2))) := Below.put4' HS.out (by omega) 0 xa false 0 _
          clear hoa hS e6 HS HCX HI HN HX HB hvs HVS hhi
          go_wp2
          exact bodyPost_ret (v := .tuple #[evV xa false 0 a2 n cp2, .bool true]) (by simp [results, Try.results22, go_sem, d0, d1, d2, d3]) rfl ⟨xa, false, 0, a2, n, cp2, by rw [hev], fun _ => ⟨by simp [eventE, putK], by simp [eventE, putK], by simp [eventE, putK], rfl, γ, HP.out⟩, HQ.out⟩
      · have hcb : (c == 0) = false := by simpa using hc0
        by_cases hc4 : c = 4
        · subst hc4
          have hev : eventB ⟨1, xa, xb, xc, xd, xe⟩ 4 n = true := by simp [eventB, putK, okPut, hn0]
          go_upto_region 6 with fail
          refine wp_region_slots_v 7 6 (0, 0) [[(2, false)], [(27, true)], [(3, false)], [(29, true)], [(30, true)], [(28, true), (31, true)], [(6, false)]] (fun w' => Below V.heap.size V w') (fun w' => Below V.heap.size V w') (fun _ w' => Below V.heap.size V w') (fun _ _ => True) (fun _ => none) (fun _ w w' => Below w.heap.size w w') (by kernel_rfl) (by kernel_rfl) (by rfl) (Below.refl _ _).drew (by kernel_rfl) (fun _ => trivial) (fun _ => trivial) (by kernel_rfl) (fun _ _ _ _ _ _ _ _ => trivial) (fun _ _ _ _ _ _ h => by cases h) (fun d f w w' h1 h2 => below_step h1 h1.size h2) (fun _ _ _ h => h) (fun _ _ _ h => h) ?_
          apply slotU_eq
          · intro ρ w' ⟨p1, p2, p3⟩ hS _ hn
            simp at hn
            go_simp
            exact ⟨Below.refl _ _, rfl⟩
          apply slotU_eq
          · intro ρ w' ⟨p1, p2, p3⟩ hS _ hn
            obtain ⟨⟨c0, c1, c2, c4⟩, ⟨k0, k1⟩, -⟩ := HCX.out w' hS
            simp at hn
            go_simp
            exact ⟨Below.refl _ _, rfl⟩
          apply slotU_eq
          · intro ρ w' ⟨p1, p2, p3⟩ hS _ hn
            simp at hn
            go_simp
            exact ⟨Below.refl _ _, rfl⟩
          apply slotU_eq
          · intro ρ w' ⟨p1, p2, p3⟩ hS _ hn
            obtain ⟨⟨c0, c1, c2, c4⟩, ⟨k0, k1⟩, -⟩ := HCX.out w' hS
            simp at hn
            go_simp
            exact ⟨Below.refl _ _, rfl⟩
          refine slotU_fact (CopF V.heap.size n ws) (lastsU_belowE (lasts_copF _ _ _)) ?_ ?_
          · intro ρ w' ⟨p1, p2, p3⟩ hS _ hn
            simp at hn
            go_simp
            exact got_call (copyWrites_any a n cap ws w' HN.out hm HX.out (HI.out.below hS)) fun e w'' ⟨v, es, he, hex, hr, hb⟩ => by
              obtain ⟨a2, cp2, n2, rfl, hl2, ho⟩ := hr.ownA hex
              obtain rfl : n2 = n := by rw [← hl2, HN.out]
              exact ⟨_, he, hb, a2, cp2, _, w''.heap.size, rfl, Nat.le_refl _, ho.wider hS.size (Nat.le_refl _)⟩
          refine slotU_fact (EvnF V.heap.size n xa false 0 ws) (lastsU_belowE (lasts_evnF _ _ _ _ _ _)) ?_ ?_
          · intro ρ w' ⟨p1, p2, p3⟩ hS _ hn
            simp at hn
            obtain ⟨x28, a2, cp2, γ, hi, x31, h1, h2⟩ := hn
            go_simp
            exact ⟨Below.refl _ _, a2, cp2, γ, hi, rfl, h1, h2⟩
          apply slotU_eq
          · intro ρ w' ⟨p1, p2, p3⟩ hS _ hn
            simp at hn
            go_simp
            exact ⟨Below.refl _ _, rfl⟩
          refine slotU_end ?_
          intro vs w6 hS
          constructor
          · intro hF
            simp at hF
            obtain ⟨x33, ⟨a2, cp2, γ, hi, x32, hhi, hoa⟩, ⟨a3, cp3, γ3, hi3, x31, -, -⟩, x30, x29, x28, x27⟩ := hF
            simp only [List.take_succ_cons, List.take_zero, List.drop_succ_cons, List.drop_zero, putAll, x33, x32, x31, x30, x29, x28, x27]
            clear x33 x32 x31 x30 x29 x28 x27
            simp only [Act.put, List.setIfInBounds_toArray, List.set_cons_succ, List.set_cons_zero]
            have hvs := HVS.out
            have HS := Lib.hid (below_step HB.out HB.out.size hS)
            obtain ⟨-, -, e6⟩ := HCX.out w6 hS
            have d0 := cell_of_row w6 _ 0 _ _ _ e6
            have d1 := cell_of_row w6 _ 1 _ _ _ e6
            have d2 := cell_of_row w6 _ 2 _ _ _ e6
            have d3 := cell_of_row w6 _ 3 _ _ _ e6
            have fz : ∀ o, w6.frozen? ⟨w.heap.size + 1 + 1, o, none⟩ = false := fun o => frozen_of_row w6 _ o _ _ e6
            simp at d0 d1 d2 d3
            have HP : Hid (OwnA (put4 w6 (w.heap.size + 1 + 1) 0 xa false 0 (.slice a2 n cp2)) w.heap.size (put4 w6 (w.heap.size + 1 + 1) 0 xa false 0 (.slice a2 n cp2)).heap.size a2 ws γ) := by
              refine (hoa.put4 (b := w.heap.size + 1 + 1) (by omega) 0 xa false 0 (.slice a2 n cp2)).wider (by omega) ?_
              rw [put4_size]
              exact hhi
            have HQ : Hid (Below w.heap.size w (put4 w6 (w.heap.size + 1 + 1) 0 xa false 0 (.slice a2 n cp2))) := Below.put4' HS.out (by omega) 0 xa false 0 _
            clear hoa hS e6 HS HCX HI HN HX HB hvs HVS hhi
            go_wp2
            exact bodyPost_ret (v := .tuple #[evV xa false 0 a2 n cp2, .bool true]) (by simp [results, Try.results22, go_sem, d0, d1, d2, d3]) rfl ⟨xa, false, 0, a2, n, cp2, by rw [hev], fun _ => ⟨by simp [eventE, putK], by simp [eventE, putK], by simp [eventE, putK], rfl, γ, HP.out⟩, HQ.out⟩
          · intro hF
            simp at hF
            obtain ⟨⟨a2, cp2, γ, hi, x32, hhi, hoa⟩, ⟨a3, cp3, γ3, hi3, x31, -, -⟩, x30, x29, x28, x27⟩ := hF
            simp only [List.take_succ_cons, List.take_zero, List.eraseIdx_cons_succ, List.eraseIdx_cons_zero, List.drop_succ_cons, List.drop_zero, putAll, x32, x31, x30, x29, x28, x27]
            clear x32 x31 x30 x29 x28 x27
            simp only [Act.put, List.setIfInBounds_toArray, List.set_cons_succ, List.set_cons_zero, List.getElem?_cons_succ, List.getElem?_cons_zero, Option.toList_some, List.cons_append, List.nil_append]
            have hvs := HVS.out
            have HS := Lib.hid (below_step HB.out HB.out.size hS)
            obtain ⟨-, -, e6⟩ := HCX.out w6 hS
            have d0 := cell_of_row w6 _ 0 _ _ _ e6
            have d1 := cell_of_row w6 _ 1 _ _ _ e6
            have d2 := cell_of_row w6 _ 2 _ _ _ e6
            have d3 := cell_of_row w6 _ 3 _ _ _ e6
            have fz : ∀ o, w6.frozen? ⟨w.heap.size + 1 + 1, o, none⟩ = false := fun o => frozen_of_row w6 _ o _ _ e6
            simp at d0 d1 d2 d3
            have HP : Hid (OwnA (put4 w6 (w.heap.size + 1 + 1) 0 xa false 0 (.slice a2 n cp2)) w.heap.size (put4 w6 (w.heap.size + 1 + 1) 0 xa false 0 (.slice a2 n cp2)).heap.size a2 ws γ) := by
              refine (hoa.put4 (b := w.heap.size + 1 + 1) (by omega) 0 xa false 0 (.slice a2 n cp2)).wider (by omega) ?_
              rw [put4_size]
              exact hhi
            have HQ : Hid (Below w.heap.size w (put4 w6 (w.heap.size + 1 + 1) 0 xa false 0 (.slice a2 n cp2))) := Below.put4' HS.out (by omega) 0 xa false 0 _
            clear hoa hS e6 HS HCX HI HN HX HB hvs HVS hhi
            go_wp2
            exact bodyPost_ret (v := .tuple #[evV xa false 0 a2 n cp2, .bool true]) (by simp [results, Try.results22, go_sem, d0, d1, d2, d3]) rfl ⟨xa, false, 0, a2, n, cp2, by rw [hev], fun _ => ⟨by simp [eventE, putK], by simp [eventE, putK], by simp [eventE, putK], rfl, γ, HP.out⟩, HQ.out⟩
        · have hcb4 : (c == 4) = false := by simpa using hc4
          have hev : eventB ⟨1, xa, xb, xc, xd, xe⟩ c n = false := by simp [eventB, putK, okPut, hcb, hcb4]
          go_upto_region 6 with fail
          refine wp_region_slots_v 7 6 (0, 0) [[(2, false)], [(27, true)], [(3, false)], [(29, true)], [(30, true)], [(28, true), (31, true)], [(6, false)]] (fun w' => Below V.heap.size V w') (fun w' => Below V.heap.size V w') (fun _ w' => Below V.heap.size V w') (fun _ _ => True) (fun _ => none) (fun _ w w' => Below w.heap.size w w') (by kernel_rfl) (by kernel_rfl) (by rfl) (Below.refl _ _).drew (by kernel_rfl) (fun _ => trivial) (fun _ => trivial) (by kernel_rfl) (fun _ _ _ _ _ _ _ _ => trivial) (fun _ _ _ _ _ _ h => by cases h) (fun d f w w' h1 h2 => below_step h1 h1.size h2) (fun _ _ _ h => h) (fun _ _ _ h => h) ?_
          apply slotU_eq
          · intro ρ w' ⟨p1, p2, p3⟩ hS _ hn
            simp at hn
            go_simp
            exact ⟨Below.refl _ _, rfl⟩
          apply slotU_eq
          · intro ρ w' ⟨p1, p2, p3⟩ hS _ hn
            obtain ⟨⟨c0, c1, c2, c4⟩, ⟨k0, k1⟩, -⟩ := HCX.out w' hS
            simp at hn
            go_simp
            exact ⟨Below.refl _ _, rfl⟩
          apply slotU_eq
          · intro ρ w' ⟨p1, p2, p3⟩ hS _ hn
            simp at hn
            go_simp
            exact ⟨Below.refl _ _, rfl⟩
          apply slotU_eq
          · intro ρ w' ⟨p1, p2, p3⟩ hS _ hn
            obtain ⟨⟨c0, c1, c2, c4⟩, ⟨k0, k1⟩, -⟩ := HCX.out w' hS
            simp at hn
            go_simp
            exact ⟨Below.refl _ _, rfl⟩
          refine slotU_fact (CopF V.heap.size n ws) (lastsU_belowE (lasts_copF _ _ _)) ?_ ?_
          · intro ρ w' ⟨p1, p2, p3⟩ hS _ hn
            simp at hn
            go_simp
            exact got_call (copyWrites_any a n cap ws w' HN.out hm HX.out (HI.out.below hS)) fun e w'' ⟨v, es, he, hex, hr, hb⟩ => by
              obtain ⟨a2, cp2, n2, rfl, hl2, ho⟩ := hr.ownA hex
              obtain rfl : n2 = n := by rw [← hl2, HN.out]
              exact ⟨_, he, hb, a2, cp2, _, w''.heap.size, rfl, Nat.le_refl _, ho.wider hS.size (Nat.le_refl _)⟩
          refine slotU_fact (EvnF V.heap.size n xa false 0 ws) (lastsU_belowE (lasts_evnF _ _ _ _ _ _)) ?_ ?_
          · intro ρ w' ⟨p1, p2, p3⟩ hS _ hn
            simp at hn
            obtain ⟨x28, a2, cp2, γ, hi, x31, h1, h2⟩ := hn
            go_simp
            exact ⟨Below.refl _ _, a2, cp2, γ, hi, rfl, h1, h2⟩
          apply slotU_eq
          · intro ρ w' ⟨p1, p2, p3⟩ hS _ hn
            simp at hn
            go_simp
            exact ⟨Below.refl _ _, rfl⟩
          refine slotU_end ?_
          intro vs w6 hS
          constructor
          · intro hF
            simp at hF
            obtain ⟨x33, ⟨a2, cp2, γ, hi, x32, hhi, hoa⟩, ⟨a3, cp3, γ3, hi3, x31, -, -⟩, x30, x29, x28, x27⟩ := hF
            simp only [List.take_succ_cons, List.take_zero, List.drop_succ_cons, List.drop_zero, putAll, x33, x32, x31, x30, x29, x28, x27]
            clear x33 x32 x31 x30 x29 x28 x27
            simp only [Act.put, List.setIfInBounds_toArray, List.set_cons_succ, List.set_cons_zero]
            have hvs := HVS.out
            have HS := Lib.hid (below_step HB.out HB.out.size hS)
            obtain ⟨-, -, e6⟩ := HCX.out w6 hS
            have d0 := cell_of_row w6 _ 0 _ _ _ e6
            have d1 := cell_of_row w6 _ 1 _ _ _ e6
            have d2 := cell_of_row w6 _ 2 _ _ _ e6
            have d3 := cell_of_row w6 _ 3 _ _ _ e6
            have fz : ∀ o, w6.frozen? ⟨w.heap.size + 1 + 1, o, none⟩ = false := fun o => frozen_of_row w6 _ o _ _ e6
            simp at d0 d1 d2 d3
            have HP : Hid (OwnA (put4 w6 (w.heap.size + 1 + 1) 0 xa false 0 (.slice a2 n cp2)) w.heap.size (put4 w6 (w.heap.size + 1 + 1) 0 xa false 0 (.slice a2 n cp2)).heap.size a2 ws γ) := by
              refine (hoa.put4 (b := w.heap.size + 1 + 1) (by omega) 0 xa false 0 (.slice a2 n cp2)).wider (by omega) ?_
              rw [put4_size]
              exact hhi
            have HQ : Hid (Below w.heap.size w (put4 w6 (w.heap.size + 1 + 1) 0 xa false 0 (.slice a2 n cp2))) := Below.put4' HS.out (by omega) 0 xa false 0 _
            clear hoa hS e6 HS HCX HI HN HX HB hvs HVS hhi
            go_wp2
            exact bodyPost_ret (v := .tuple #[evV xa false 0 a2 n cp2, .bool false]) (by simp [results, Try.results22, go_sem, d0, d1, d2, d3]) rfl ⟨xa, false, 0, a2, n, cp2, by rw [hev], fun _ => ⟨by simp [eventE, putK], by simp [eventE, putK], by simp [eventE, putK], rfl, γ, HP.out⟩, HQ.out⟩
          · intro hF
            simp at hF
            obtain ⟨⟨a2, cp2, γ, hi, x32, hhi, hoa⟩, ⟨a3, cp3, γ3, hi3, x31, -, -⟩, x30, x29, x28, x27⟩ := hF
            simp only [List.take_succ_cons, List.take_zero, List.eraseIdx_cons_succ, List.eraseIdx_cons_zero, List.drop_succ_cons, List.drop_zero, putAll, x32, x31, x30, x29, x28, x27]
            clear x32 x31 x30 x29 x28 x27
            simp only [Act.put, List.setIfInBounds_toArray, List.set_cons_succ, List.set_cons_zero, List.getElem?_cons_succ, List.getElem?_cons_zero, Option.toList_some, List.cons_append, List.nil_append]
            have hvs := HVS.out
            have HS := Lib.hid (below_step HB.out HB.out.size hS)
            obtain ⟨-, -, e6⟩ := HCX.out w6 hS
            have d0 := cell_of_row w6 _ 0 _ _ _ e6
            have d1 := cell_of_row w6 _ 1 _ _ _ e6
            have d2 := cell_of_row w6 _ 2 _ _ _ e6
            have d3 := cell_of_row w6 _ 3 _ _ _ e6
            have fz : ∀ o, w6.frozen? ⟨w.heap.size + 1 + 1, o, none⟩ = false := fun o => frozen_of_row w6 _ o _ _ e6
            simp at d0 d1 d2 d3
            have HP : Hid (OwnA (put4 w6 (w.heap.size + 1 + 1) 0 xa false 0 (.slice a2 n cp2)) w.heap.size (put4 w6 (w.heap.size + 1 + 1) 0 xa false 0 (.slice a2 n cp2)).heap.size a2 ws γ) := by
              refine (hoa.put4 (b := w.heap.size + 1 + 1) (by omega) 0 xa false 0 (.slice a2 n cp2)).wider (by omega) ?_
              rw [put4_size]
              exact hhi
            have HQ : Hid (Below w.heap.size w (put4 w6 (w.heap.size + 1 + 1) 0 xa false 0 (.slice a2 n cp2))) := Below.put4' HS.out (by omega) 0 xa false 0 _
            clear hoa hS e6 HS HCX HI HN HX HB hvs HVS hhi
            go_wp2
            exact bodyPost_ret (v := .tuple #[evV xa false 0 a2 n cp2, .bool false]) (by simp [results, Try.results22, go_sem, d0, d1, d2, d3]) rfl ⟨xa, false, 0, a2, n, cp2, by rw [hev], fun _ => ⟨by simp [eventE, putK], by simp [eventE, putK], by simp [eventE, putK], rfl, γ, HP.out⟩, HQ.out⟩
    · have n0 : ¬ (0 : Int) < (n : Int) := by omega
      have hev : eventB ⟨1, xa, xb, xc, xd, xe⟩ c n = false := by simp [eventB, putK, hn0]
      go_upto_region 6 with fail
      refine wp_region_slots_v 7 6 (0, 0) [[(2, false)], [(27, true)], [(3, false)], [(29, true)], [(30, true)], [(28, true), (31, true)], [(6, false)]] (fun w' => Below V.heap.size V w') (fun w' => Below V.heap.size V w') (fun _ w' => Below V.heap.size V w') (fun _ _ => True) (fun _ => none) (fun _ w w' => Below w.heap.size w w') (by kernel_rfl) (by kernel_rfl) (by rfl) (Below.refl _ _).drew (by kernel_rfl) (fun _ => trivial) (fun _ => trivial) (by kernel_rfl) (fun _ _ _ _ _ _ _ _ => trivial) (fun _ _ _ _ _ _ h => by cases h) (fun d f w w' h1 h2 => below_step h1 h1.size h2) (fun _ _ _ h => h) (fun _ _ _ h => h) ?_
      apply slotU_eq
      · intro ρ w' ⟨p1, p2, p3⟩ hS _ hn
        simp at hn
        go_simp
        exact ⟨Below.refl _ _, rfl⟩
      apply slotU_eq
      · intro ρ w' ⟨p1, p2, p3⟩ hS _ hn
        obtain ⟨⟨c0, c1, c2, c4⟩, ⟨k0, k1⟩, -⟩ := HCX.out w' hS
        simp at hn
        go_simp
        exact ⟨Below.refl _ _, rfl⟩
      apply slotU_eq
      · intro ρ w' ⟨p1, p2, p3⟩ hS _ hn
        simp at hn
        go_simp
        exact ⟨Below.refl _ _, rfl⟩
      apply slotU_eq
      · intro ρ w' ⟨p1, p2, p3⟩ hS _ hn
        obtain ⟨⟨c0, c1, c2, c4⟩, ⟨k0, k1⟩, -⟩ := HCX.out w' hS
        simp at hn
        go_simp
        exact ⟨Below.refl _ _, rfl⟩
      refine slotU_fact (CopF V.heap.size n ws) (lastsU_belowE (lasts_copF _ _ _)) ?_ ?_
      · intro ρ w' ⟨p1, p2, p3⟩ hS _ hn
        simp at hn
        go_simp
        exact got_call (copyWrites_any a n cap ws w' HN.out hm HX.out (HI.out.below hS)) fun e w'' ⟨v, es, he, hex, hr, hb⟩ => by
          obtain ⟨a2, cp2, n2, rfl, hl2, ho⟩ := hr.ownA hex
          obtain rfl : n2 = n := by rw [← hl2, HN.out]
          exact ⟨_, he, hb, a2, cp2, _, w''.heap.size, rfl, Nat.le_refl _, ho.wider hS.size (Nat.le_refl _)⟩
      refine slotU_fact (EvnF V.heap.size n xa false 0 ws) (lastsU_belowE (lasts_evnF _ _ _ _ _ _)) ?_ ?_
      · intro ρ w' ⟨p1, p2, p3⟩ hS _ hn
        simp at hn
        obtain ⟨x28, a2, cp2, γ, hi, x31, h1, h2⟩ := hn
        go_simp
        exact ⟨Below.refl _ _, a2, cp2, γ, hi, rfl, h1, h2⟩
      apply slotU_eq
      · intro ρ w' ⟨p1, p2, p3⟩ hS _ hn
        simp at hn
        go_simp
        exact ⟨Below.refl _ _, rfl⟩
      refine slotU_end ?_
      intro vs w6 hS
      constructor
      · intro hF
        simp at hF
        obtain ⟨x33, ⟨a2, cp2, γ, hi, x32, hhi, hoa⟩, ⟨a3, cp3, γ3, hi3, x31, -, -⟩, x30, x29, x28, x27⟩ := hF
        simp only [List.take_succ_cons, List.take_zero, List.drop_succ_cons, List.drop_zero, putAll, x33, x32, x31, x30, x29, x28, x27]
        clear x33 x32 x31 x30 x29 x28 x27
        simp only [Act.put, List.setIfInBounds_toArray, List.set_cons_succ, List.set_cons_zero]
        have hvs := HVS.out
        have HS := Lib.hid (below_step HB.out HB.out.size hS)
        obtain ⟨-, -, e6⟩ := HCX.out w6 hS
        have d0 := cell_of_row w6 _ 0 _ _ _ e6
        have d1 := cell_of_row w6 _ 1 _ _ _ e6
        have d2 := cell_of_row w6 _ 2 _ _ _ e6
        have d3 := cell_of_row w6 _ 3 _ _ _ e6
        have fz : ∀ o, w6.frozen? ⟨w.heap.size + 1 + 1, o, none⟩ = false := fun o => frozen_of_row w6 _ o _ _ e6
        simp at d0 d1 d2 d3
        have HP : Hid (OwnA (put4 w6 (w.heap.size + 1 + 1) 0 xa false 0 (.slice a2 n cp2)) w.heap.size (put4 w6 (w.heap.size + 1 + 1) 0 xa false 0 (.slice a2 n cp2)).heap.size a2 ws γ) := by
          refine (hoa.put4 (b := w.heap.size + 1 + 1) (by omega) 0 xa false 0 (.slice a2 n cp2)).wider (by omega) ?_
          rw [put4_size]
          exact hhi
        have HQ : Hid (Below w.heap.size w (put4 w6 (w.heap.size + 1 + 1) 0 xa false 0 (.slice a2 n cp2))) := Below.put4' HS.out (by omega) 0 xa false 0 _
        clear hoa hS e6 HS HCX HI HN HX HB hvs HVS hhi
        go_wp2
        exact bodyPost_ret (v := .tuple #[evV xa false 0 a2 n cp2, .bool false]) (by simp [results, Try.results22, go_sem, d0, d1, d2, d3]) rfl ⟨xa, false, 0, a2, n, cp2, by rw [hev], fun _ => ⟨by simp [eventE, putK], by simp [eventE, putK], by simp [eventE, putK], rfl, γ, HP.out⟩, HQ.out⟩
      · intro hF
        simp at hF
        obtain ⟨⟨a2, cp2, γ, hi, x32, hhi, hoa⟩, ⟨a3, cp3, γ3, hi3, x31, -, -⟩, x30, x29, x28, x27⟩ := hF
        simp only [List.take_succ_cons, List.take_zero, List.eraseIdx_cons_succ, List.eraseIdx_cons_zero, List.drop_succ_cons, List.drop_zero, putAll, x32, x31, x30, x29, x28, x27]
        clear x32 x31 x30 x29 x28 x27
        simp only [Act.put, List.setIfInBounds_toArray, List.set_cons_succ, List.set_cons_zero, List.getElem?_cons_succ, List.getElem?_cons_zero, Option.toList_some, List.cons_append, List.nil_append]
        have hvs := HVS.out
        have HS := Lib.hid (below_step HB.out HB.out.size hS)
        obtain ⟨-, -, e6⟩ := HCX.out w6 hS
        have d0 := cell_of_row w6 _ 0 _ _ _ e6
        have d1 := cell_of_row w6 _ 1 _ _ _ e6
        have d2 := cell_of_row w6 _ 2 _ _ _ e6
        have d3 := cell_of_row w6 _ 3 _ _ _ e6
        have fz : ∀ o, w6.frozen? ⟨w.heap.size + 1 + 1, o, none⟩ = false := fun o => frozen_of_row w6 _ o _ _ e6
        simp at d0 d1 d2 d3
        have HP : Hid (OwnA (put4 w6 (w.heap.size + 1 + 1) 0 xa false 0 (.slice a2 n cp2)) w.heap.size (put4 w6 (w.heap.size + 1 + 1) 0 xa false 0 (.slice a2 n cp2)).heap.size a2 ws γ) := by
          refine (hoa.put4 (b := w.heap.size + 1 + 1) (by omega) 0 xa false 0 (.slice a2 n cp2)).wider (by omega) ?_
          rw [put4_size]
          exact hhi
        have HQ : Hid (Below w.heap.size w (put4 w6 (w.heap.size + 1 + 1) 0 xa false 0 (.slice a2 n cp2))) := Below.put4' HS.out (by omega) 0 xa false 0 _
        clear hoa hS e6 HS HCX HI HN HX HB hvs HVS hhi
        go_wp2
        exact bodyPost_ret (v := .tuple #[evV xa false 0 a2 n cp2, .bool false]) (by simp [results, Try.results22, go_sem, d0, d1, d2, d3]) rfl ⟨xa, false, 0, a2, n, cp2, by rw [hev], fun _ => ⟨by simp [eventE, putK], by simp [eventE, putK], by simp [eventE, putK], rfl, γ, HP.out⟩, HQ.out⟩
  by_cases h2 : xk = 2
  · subst h2
    by_cases hn0 : 0 < n
    · have n0 : (0 : Int) < (n : Int) := by omega
      by_cases hc0 : c = 0
      · subst hc0
        have hev : eventB ⟨2, xa, xb, xc, xd, xe⟩ 0 n = true := by simp [eventB, putK, okPut, hn0]
        go_upto_region 6 with fail
        refine wp_region_slots_v 7 6 (0, 0) [[(2, false)], [(27, true)], [(3, false)], [(29, true)], [(30, true)], [(28, true), (31, true)], [(6, false)]] (fun w' => Below V.heap.size V w') (fun w' => Below V.heap.size V w') (fun _ w' => Below V.heap.size V w') (fun _ _ => True) (fun _ => none) (fun _ w w' => Below w.heap.size w w') (by kernel_rfl) (by kernel_rfl) (by rfl) (Below.refl _ _).drew (by kernel_rfl) (fun _ => trivial) (fun _ => trivial) (by kernel_rfl) (fun _ _ _ _ _ _ _ _ => trivial) (fun _ _ _ _ _ _ h => by cases h) (fun d f w w' h1 h2 => below_step h1 h1.size h2) (fun _ _ _ h => h) (fun _ _ _ h => h) ?_
        apply slotU_eq
        · intro ρ w' ⟨p1, p2, p3⟩ hS _ hn
          simp at hn
          go_simp
          exact ⟨Below.refl _ _, rfl⟩
        apply slotU_eq
        · intro ρ w' ⟨p1, p2, p3⟩ hS _ hn
          obtain ⟨⟨c0, c1, c2, c4⟩, ⟨k0, k1⟩, -⟩ := HCX.out w' hS
          simp at hn
          go_simp
          exact ⟨Below.refl _ _, rfl⟩
        apply slotU_eq
        · intro ρ w' ⟨p1, p2, p3⟩ hS _ hn
          simp at hn
          go_simp
          exact ⟨Below.refl _ _, rfl⟩
        apply slotU_eq
        · intro ρ w' ⟨p1, p2, p3⟩ hS _ hn
          obtain ⟨⟨c0, c1, c2, c4⟩, ⟨k0, k1⟩, -⟩ := HCX.out w' hS
          simp at hn
          go_simp
          exact ⟨Below.refl _ _, rfl⟩
        refine slotU_fact (CopF V.heap.size n ws) (lastsU_belowE (lasts_copF _ _ _)) ?_ ?_
        · intro ρ w' ⟨p1, p2, p3⟩ hS _ hn
          simp at hn
          go_simp
          exact got_call (copyWrites_any a n cap ws w' HN.out hm HX.out (HI.out.below hS)) fun e w'' ⟨v, es, he, hex, hr, hb⟩ => by
            obtain ⟨a2, cp2, n2, rfl, hl2, ho⟩ := hr.ownA hex
            obtain rfl : n2 = n := by rw [← hl2, HN.out]
            exact ⟨_, he, hb, a2, cp2, _, w''.heap.size, rfl, Nat.le_refl _, ho.wider hS.size (Nat.le_refl _)⟩
        refine slotU_fact (EvnF V.heap.size n xa false 0 ws) (lastsU_belowE (lasts_evnF _ _ _ _ _ _)) ?_ ?_
        · intro ρ w' ⟨p1, p2, p3⟩ hS _ hn
          simp at hn
          obtain ⟨x28, a2, cp2, γ, hi, x31, h1, h2⟩ := hn
          go_simp
          exact ⟨Below.refl _ _, a2, cp2, γ, hi, rfl, h1, h2⟩
        apply slotU_eq
        · intro ρ w' ⟨p1, p2, p3⟩ hS _ hn
          simp at hn
          go_simp
          exact ⟨Below.refl _ _, rfl⟩
        refine slotU_end ?_
        intro vs w6 hS
        constructor
        · intro hF
          simp at hF
          obtain ⟨x33, ⟨a2, cp2, γ, hi, x32, hhi, hoa⟩, ⟨a3, cp3, γ3, hi3, x31, -, -⟩, x30, x29, x28, x27⟩ := hF
          simp only [List.take_succ_cons, List.take_zero, List.drop_succ_cons, List.drop_zero, putAll, x33, x32, x31, x30, x29, x28, x27]
          clear x33 x32 x31 x30 x29 x28 x27
          simp only [Act.put, List.setIfInBounds_toArray, List.set_cons_succ, List.set_cons_zero]
          have hvs := HVS.out
          have HS := Lib.hid (below_step HB.out HB.out.size hS)
          obtain ⟨-, -, e6⟩ := HCX.out w6 hS
          have d0 := cell_of_row w6 _ 0 _ _ _ e6
          have d1 := cell_of_row w6 _ 1 _ _ _ e6
          have d2 := cell_of_row w6 _ 2 _ _ _ e6
          have d3 := cell_of_row w6 _ 3 _ _ _ e6
          have fz : ∀ o, w6.frozen? ⟨w.heap.size + 1 + 1, o, none⟩ = false := fun o => frozen_of_row w6 _ o _ _ e6
          simp at d0 d1 d2 d3
          have HP : Hid (OwnA (put4 w6 (w.heap.size + 1 + 1) 0 xa false 0 (.slice a2 n cp2)) w.heap.size (put4 w6 (w.heap.size + 1 + 1) 0 xa false 0 (.slice a2 n cp2)).heap.size a2 ws γ) := by
            refine (hoa.put4 (b := w.heap.size + 1 + 1) (by omega) 0 xa false 0 (.slice a2 n cp2)).wider (by omega) ?_
            rw [put4_size]
            exact hhi
          have HQ : Hid (Below w.heap.size w (put4 w6 (w.heap.size + 1 + 1) 0 xa false 0 (.slice a2 n cp2))) := Below.put4' HS.out (by omega) 0 xa false 0 _
          clear hoa hS e6 HS HCX HI HN HX HB hvs HVS hhi
          go_wp2
          exact bodyPost_ret (v := .tuple #[evV xa false 0 a2 n cp2, .bool true]) (by simp [results, Try.results22, go_sem, d0, d1, d2, d3]) rfl ⟨xa, false, 0, a2, n, cp2, by rw [hev], fun _ => ⟨by simp [eventE, putK], by simp [eventE, putK], by simp [eventE, putK], rfl, γ, HP.out⟩, HQ.out⟩
        · intro hF
          simp at hF
          obtain ⟨⟨a2, cp2, γ, hi, x32, hhi, hoa⟩, ⟨a3, cp3, γ3, hi3, x31, -, -⟩, x30, x29, x28, x27⟩ := hF
          simp only [List.take_succ_cons, List.take_zero, List.eraseIdx_cons_succ, List.eraseIdx_cons_zero, List.drop_succ_cons, List.drop_zero, putAll, x32, x31, x30, x29, x28, x27]
          clear x32 x31 x30 x29 x28 x27
          simp only [Act.put, List.setIfInBounds_toArray, List.set_cons_succ, List.set_cons_zero, List.getElem?_cons_succ, List.getElem?_cons_zero, Option.toList_some, List.cons_append, List.nil_append]
          have hvs := HVS.out
          have HS := Lib.hid (below_step HB.out HB.out.size hS)
          obtain ⟨-, -, e6⟩ := HCX.out w6 hS
          have d0 := cell_of_row w6 _ 0 _ _ _ e6
          have d1 := cell_of_row w6 _ 1 _ _ _ e6
          have d2 := cell_of_row w6 _ 2 _ _ _ e6
          have d3 := cell_of_row w6 _ 3 _ _ _ e6
          have fz : ∀ o, w6.frozen? ⟨w.heap.size + 1 + 1, o, none⟩ = false := fun o => frozen_of_row w6 _ o _ _ e6
          simp at d0 d1 d2 d3
          have HP : Hid (OwnA (put4 w6 (w.heap.size + 1 + 1) 0 xa false 0 (.slice a2 n cp2)) w.heap.size (put4 w6 (w.heap.size + 1 + 1) 0 xa false 0 (.slice a2 n cp2)).heap.size a2 ws γ) := by
            refine (hoa.put4 (b := w.heap.size + 1 + 1) (by omega) 0 xa false 0 (.slice a2 n cp2)).wider (by omega) ?_
            rw [put4_size]
            exact hhi
          have HQ : Hid (Below w.heap.size w (put4 w6 (w.heap.size + 1 + 1) 0 xa false 0 (.slice a2 n cp2))) := Below.put4' HS.out (by omega) 0 xa false 0 _
          clear hoa hS e6 HS HCX HI HN HX HB hvs HVS hhi
          go_wp2
          exact bodyPost_ret (v := .tuple #[evV xa false 0 a2 n cp2, .bool true]) (by simp [results, Try.results22, go_sem, d0, d1, d2, d3]) rfl ⟨xa, false, 0, a2, n, cp2, by rw [hev], fun _ => ⟨by simp [eventE, putK], by simp [eventE, putK], by simp [eventE, putK], rfl, γ, HP.out⟩, HQ.out⟩
      · have hcb : (c == 0) = false := by simpa using hc0
        by_cases hc4 : c = 4
        · subst hc4
          have hev : eventB ⟨2, xa, xb, xc, xd, xe⟩ 4 n = true := by simp [eventB, putK, okPut, hn0]
          go_upto_region 6 with fail
          refine wp_region_slots_v 7 6 (0, 0) [[(2, false)], [(27, true)], [(3, false)], [(29, true)], [(30, true)], [(28, true), (31, true)], [(6, false)]] (fun w' => Below V.heap.size V w') (fun w' => Below V.heap.size V w') (fun _ w' => Below V.heap.size V w') (fun _ _ => True) (fun _ => none) (fun _ w w' => Below w.heap.size w w') (by kernel_rfl) (by kernel_rfl) (by rfl) (Below.refl _ _).drew (by kernel_rfl) (fun _ => trivial) (fun _ => trivial) (by kernel_rfl) (fun _ _ _ _ _ _ _ _ => trivial) (fun _ _ _ _ _ _ h => by cases h) (fun d f w w' h1 h2 => below_step h1 h1.size h2) (fun _ _ _ h => h) (fun _ _ _ h => h) ?_
          apply slotU_eq
          · intro ρ w' ⟨p1, p2, p3⟩ hS _ hn
            simp at hn
            go_simp
            exact ⟨Below.refl _ _, rfl⟩
          apply slotU_eq
          · intro ρ w' ⟨p1, p2, p3⟩ hS _ hn
            obtain ⟨⟨c0, c1, c2, c4⟩, ⟨k0, k1⟩, -⟩ := HCX.out w' hS
            simp at hn
            go_simp
            exact ⟨Below.refl _ _, rfl⟩
          apply slotU_eq
          · intro ρ w' ⟨p1, p2, p3⟩ hS _ hn
            simp at hn
            go_simp
            exact ⟨Below.refl _ _, rfl⟩
          apply slotU_eq
          · intro ρ w' ⟨p1, p2, p3⟩ hS _ hn
            obtain ⟨⟨c0, c1, c2, c4⟩, ⟨k0, k1⟩, -⟩ := HCX.out w' hS
            simp at hn
            go_simp
            exact ⟨Below.refl _ _, rfl⟩
          refine slotU_fact (CopF V.heap.size n ws) (lastsU_belowE (lasts_copF _ _ _)) ?_ ?_
          · intro ρ w' ⟨p1, p2, p3⟩ hS _ hn
            simp at hn
            go_simp
            exact got_call (copyWrites_any a n cap ws w' HN.out hm HX.out (HI.out.below hS)) fun e w'' ⟨v, es, he, hex, hr, hb⟩ => by
              obtain ⟨a2, cp2, n2, rfl, hl2, ho⟩ := hr.ownA hex
              obtain rfl : n2 = n := by rw [← hl2, HN.out]
              exact ⟨_, he, hb, a2, cp2, _, w''.heap.size, rfl, Nat.le_refl _, ho.wider hS.size (Nat.le_refl _)⟩
          refine slotU_fact (EvnF V.heap.size n xa false 0 ws) (lastsU_belowE (lasts_evnF _ _ _ _ _ _)) ?_ ?_
          · intro ρ w' ⟨p1, p2, p3⟩ hS _ hn
            simp at hn
            obtain ⟨x28, a2, cp2, γ, hi, x31, h1, h2⟩ := hn
            go_simp
            exact ⟨Below.refl _ _, a2, cp2, γ, hi, rfl, h1, h2⟩
          apply slotU_eq
          · intro ρ w' ⟨p1, p2, p3⟩ hS _ hn
            simp at hn
            go_simp
            exact ⟨Below.refl _ _, rfl⟩
          refine slotU_end ?_
          intro vs w6 hS
          constructor
          · intro hF
            simp at hF
            obtain ⟨x33, ⟨a2, cp2, γ, hi, x32, hhi, hoa⟩, ⟨a3, cp3, γ3, hi3, x31, -, -⟩, x30, x29, x28, x27⟩ := hF
            simp only [List.take_succ_cons, List.take_zero, List.drop_succ_cons, List.drop_zero, putAll, x33, x32, x31, x30, x29, x28, x27]
            clear x33 x32 x31 x30 x29 x28 x27
            simp only [Act.put, List.setIfInBounds_toArray, List.set_cons_succ, List.set_cons_zero]
            have hvs := HVS.out
            have HS := Lib.hid (below_step HB.out HB.out.size hS)
            obtain ⟨-, -, e6⟩ := HCX.out w6 hS
            have d0 := cell_of_row w6 _ 0 _ _ _ e6
            have d1 := cell_of_row w6 _ 1 _ _ _ e6
            have d2 := cell_of_row w6 _ 2 _ _ _ e6
            have d3 := cell_of_row w6 _ 3 _ _ _ e6
            have fz : ∀ o, w6.frozen? ⟨w.heap.size + 1 + 1, o, none⟩ = false := fun o => frozen_of_row w6 _ o _ _ e6
            simp at d0 d1 d2 d3
            have HP : Hid (OwnA (put4 w6 (w.heap.size + 1 + 1) 0 xa false 0 (.slice a2 n cp2)) w.heap.size (put4 w6 (w.heap.size + 1 + 1) 0 xa false 0 (.slice a2 n cp2)).heap.size a2 ws γ) := by
              refine (hoa.put4 (b := w.heap.size + 1 + 1) (by omega) 0 xa false 0 (.slice a2 n cp2)).wider (by omega) ?_
              rw [put4_size]
              exact hhi
            have HQ : Hid (Below w.heap.size w (put4 w6 (w.heap.size + 1 + 1) 0 xa false 0 (.slice a2 n cp2))) := Below.put4' HS.out (by omega) 0 xa false 0 _
            clear hoa hS e6 HS HCX HI HN HX HB hvs HVS hhi
            go_wp2
            exact bodyPost_ret (v := .tuple #[evV xa false 0 a2 n cp2, .bool true]) (by simp [results, Try.results22, go_sem, d0, d1, d2, d3]) rfl ⟨xa, false, 0, a2, n, cp2, by rw [hev], fun _ => ⟨by simp [eventE, putK], by simp [eventE, putK], by simp [eventE, putK], rfl, γ, HP.out⟩, HQ.out⟩
          · intro hF
            simp at hF
            obtain ⟨⟨a2, cp2, γ, hi, x32, hhi, hoa⟩, ⟨a3, cp3, γ3, hi3, x31, -, -⟩, x30, x29, x28, x27⟩ := hF
            simp only [List.take_succ_cons, List.take_zero, List.eraseIdx_cons_succ, List.eraseIdx_cons_zero, List.drop_succ_cons, List.drop_zero, putAll, x32, x31, x30, x29, x28, x27]
            clear x32 x31 x30 x29 x28 x27
            simp only [Act.put, List.setIfInBounds_toArray, List.set_cons_succ, List.set_cons_zero, List.getElem?_cons_succ, List.getElem?_cons_zero, Option.toList_some, List.cons_append, List.nil_append]
            have hvs := HVS.out
            have HS := Lib.hid (below_step HB.out HB.out.size hS)
            obtain ⟨-, -, e6⟩ := HCX.out w6 hS
            have d0 := cell_of_row w6 _ 0 _ _ _ e6
            have d1 := cell_of_row w6 _ 1 _ _ _ e6
            have d2 := cell_of_row w6 _ 2 _ _ _ e6
            have d3 := cell_of_row w6 _ 3 _ _ _ e6
            have fz : ∀ o, w6.frozen? ⟨w.heap.size + 1 + 1, o, none⟩ = false := fun o => frozen_of_row w6 _ o _ _ e6
            simp at d0 d1 d2 d3
            have HP : Hid (OwnA (put4 w6 (w.heap.size + 1 + 1) 0 xa false 0 (.slice a2 n cp2)) w.heap.size (put4 w6 (w.heap.size + 1 + 1) 0 xa false 0 (.slice a2 n cp2)).heap.size a2 ws γ) := by
              refine (hoa.put4 (b := w.heap.size + 1 + 1) (by omega) 0 xa false 0 (.slice a2 n cp2)).wider (by omega) ?_
              rw [put4_size]
              exact hhi
            have HQ : Hid (Below w.heap.size w (put4 w6 (w.heap.size + 1 + 1) 0 xa false 0 (.slice a2 n cp2))) := Below.put4' HS.out (by omega) 0 xa false 0 _
            clear hoa hS e6 HS HCX HI HN HX HB hvs HVS hhi
            go_wp2
            exact bodyPost_ret (v := .tuple #[evV xa false 0 a2 n cp2, .bool true]) (by simp [results, Try.results22, go_sem, d0, d1, d2, d3]) rfl ⟨xa, false, 0, a2, n, cp2, by rw [hev], fun _ => ⟨by simp [eventE, putK], by simp [eventE, putK], by simp [eventE, putK], rfl, γ, HP.out⟩, HQ.out⟩
        · have hcb4 : (c == 4) = false := by simpa using hc4
          have hev : eventB ⟨2, xa, xb, xc, xd, xe⟩ c n = false := by simp [eventB, putK, okPut, hcb, hcb4]
          go_upto_region 6 with fail
          refine wp_region_slots_v 7 6 (0, 0) [[(2, false)], [(27, true)], [(3, false)], [(29, true)], [(30, true)], [(28, true), (31, true)], [(6, false)]] (fun w' => Below V.heap.size V w') (fun w' => Below V.heap.size V w') (fun _ w' => Below V.heap.size V w') (fun _ _ => True) (fun _ => none) (fun _ w w' => Below w.heap.size w w') (by kernel_rfl) (by kernel_rfl) (by rfl) (Below.refl _ _).drew (by kernel_rfl) (fun _ => trivial) (fun _ => trivial) (by kernel_rfl) (fun _ _ _ _ _ _ _ _ => trivial) (fun _ _ _ _ _ _ h => by cases h) (fun d f w w' h1 h2 => below_step h1 h1.size h2) (fun _ _ _ h => h) (fun _ _ _ h => h) ?_
          apply slotU_eq
          · intro ρ w' ⟨p1, p2, p3⟩ hS _ hn
            simp at hn
            go_simp
            exact ⟨Below.refl _ _, rfl⟩
          apply slotU_eq
          · intro ρ w' ⟨p1, p2, p3⟩ hS _ hn
            obtain ⟨⟨c0, c1, c2, c4⟩, ⟨k0, k1⟩, -⟩ := HCX.out w' hS
            simp at hn
            go_simp
            exact ⟨Below.refl _ _, rfl⟩
          apply slotU_eq
          · intro ρ w' ⟨p1, p2, p3⟩ hS _ hn
            simp at hn
            go_simp
            exact ⟨Below.refl _ _, rfl⟩
          apply slotU_eq
          · intro ρ w' ⟨p1, p2, p3⟩ hS _ hn
            obtain ⟨⟨c0, c1, c2, c4⟩, ⟨k0, k1⟩, -⟩ := HCX.out w' hS
            simp at hn
            go_simp
            exact ⟨Below.refl _ _, rfl⟩
          refine slotU_fact (CopF V.heap.size n ws) (lastsU_belowE (lasts_copF _ _ _)) ?_ ?_
          · intro ρ w' ⟨p1, p2, p3⟩ hS _ hn
            simp at hn
            go_simp
            exact got_call (copyWrites_any a n cap ws w' HN.out hm HX.out (HI.out.below hS)) fun e w'' ⟨v, es, he, hex, hr, hb⟩ => by
              obtain ⟨a2, cp2, n2, rfl, hl2, ho⟩ := hr.ownA hex
              obtain rfl : n2 = n := by rw [← hl2, HN.out]
              exact ⟨_, he, hb, a2, cp2, _, w''.heap.size, rfl, Nat.le_refl _, ho.wider hS.size (Nat.le_refl _)⟩
          refine slotU_fact (EvnF V.heap.size n xa false 0 ws) (lastsU_belowE (lasts_evnF _ _ _ _ _ _)) ?_ ?_
          · intro ρ w' ⟨p1, p2, p3⟩ hS _ hn
            simp at hn
            obtain ⟨x28, a2, cp2, γ, hi, x31, h1, h2⟩ := hn
            go_simp
            exact ⟨Below.refl _ _, a2, cp2, γ, hi, rfl, h1, h2⟩
          apply slotU_eq
          · intro ρ w' ⟨p1, p2, p3⟩ hS _ hn
            simp at hn
            go_simp
            exact ⟨Below.refl _ _, rfl⟩
          refine slotU_end ?_
          intro vs w6 hS
          constructor
          · intro hF
            simp at hF
            obtain ⟨x33, ⟨a2, cp2, γ, hi, x32, hhi, hoa⟩, ⟨a3, cp3, γ3, hi3, x31, -, -⟩, x30, x29, x28, x27⟩ := hF
            simp only [List.take_succ_cons, List.take_zero, List.drop_succ_cons, List.drop_zero, putAll, x33, x32, x31, x30, x29, x28, x27]
            clear x33 x32 x31 x30 x29 x28 x27
            simp only [Act.put, List.setIfInBounds_toArray, List.set_cons_succ, List.set_cons_zero]
            have hvs := HVS.out
            have HS := Lib.hid (below_step HB.out HB.out.size hS)
            obtain ⟨-, -, e6⟩ := HCX.out w6 hS
            have d0 := cell_of_row w6 _ 0 _ _ _ e6
            have d1 := cell_of_row w6 _ 1 _ _ _ e6
            have d2 := cell_of_row w6 _ 2 _ _ _ e6
            have d3 := cell_of_row w6 _ 3 _ _ _ e6
            have fz : ∀ o, w6.frozen? ⟨w.heap.size + 1 + 1, o, none⟩ = false := fun o => frozen_of_row w6 _ o _ _ e6
            simp at d0 d1 d2 d3
            have HP : Hid (OwnA (put4 w6 (w.heap.size + 1 + 1) 0 xa false 0 (.slice a2 n cp2)) w.heap.size (put4 w6 (w.heap.size + 1 + 1) 0 xa false 0 (.slice a2 n cp2)).heap.size a2 ws γ) := by
              refine (hoa.put4 (b := w.heap.size + 1 + 1) (by omega) 0 xa false 0 (.slice a2 n cp2)).wider (by omega) ?_
              rw [put4_size]
              exact hhi
            have HQ : Hid (Below w.heap.size w (put4 w6 (w.heap.size + 1 + 1) 0 xa false 0 (.slice a2 n cp2))) := Below.put4' HS.out (by omega) 0 xa false 0 _
            clear hoa hS e6 HS HCX HI HN HX HB hvs HVS hhi
            go_wp2
            exact bodyPost_ret (v := .tuple #[evV xa false 0 a2 n cp2, .bool false]) (by simp [results, Try.results22, go_sem, d0, d1, d2, d3]) rfl ⟨xa, false, 0, a2, n, cp2, by rw [hev], fun _ => ⟨by simp [eventE, putK], by simp [eventE, putK], by simp [eventE, putK], rfl, γ, HP.out⟩, HQ.out⟩
          · intro hF
            simp at hF
            obtain ⟨⟨a2, cp2, γ, hi, x32, hhi, hoa⟩, ⟨a3, cp3, γ3, hi3, x31, -, -⟩, x30, x29, x28, x27⟩ := hF
            simp only [List.take_succ_cons, List.take_zero, List.eraseIdx_cons_succ, List.eraseIdx_cons_zero, List.drop_succ_cons, List.drop_zero, putAll, x32, x31, x30, x29, x28, x27]
            clear x32 x31 x30 x29 x28 x27
            simp only [Act.put, List.setIfInBounds_toArray, List.set_cons_succ, List.set_cons_zero, List.getElem?_cons_succ, List.getElem?_cons_zero, Option.toList_some, List.cons_append, List.nil_append]
            have hvs := HVS.out
            have HS := Lib.hid (below_step HB.out HB.out.size hS)
            obtain ⟨-, -, e6⟩ := HCX.out w6 hS
            have d0 := cell_of_row w6 _ 0 _ _ _ e6
            have d1 := cell_of_row w6 _ 1 _ _ _ e6
            have d2 := cell_of_row w6 _ 2 _ _ _ e6
            have d3 := cell_of_row w6 _ 3 _ _ _ e6
            have fz : ∀ o, w6.frozen? ⟨w.heap.size + 1 + 1, o, none⟩ = false := fun o => frozen_of_row w6 _ o _ _ e6
            simp at d0 d1 d2 d3
            have HP : Hid (OwnA (put4 w6 (w.heap.size + 1 + 1) 0 xa false 0 (.slice a2 n cp2)) w.heap.size (put4 w6 (w.heap.size + 1 + 1) 0 xa false 0 (.slice a2 n cp2)).heap.size a2 ws γ) := by
              refine (hoa.put4 (b := w.heap.size + 1 + 1) (by omega) 0 xa false 0 (.slice a2 n cp2)).wider (by omega) ?_
              rw [put4_size]
              exact hhi
            have HQ : Hid (Below w.heap.size w (put4 w6 (w.heap.size + 1 + 1) 0 xa false 0 (.slice a2 n cp2))) := Below.put4' HS.out (by omega) 0 xa false 0 _
            clear hoa hS e6 HS HCX HI HN HX HB hvs HVS hhi
            go_wp2
            exact bodyPost_ret (v := .tuple #[evV xa false 0 a2 n cp2, .bool false]) (by simp [results, Try.results22, go_sem, d0, d1, d2, d3]) rfl ⟨xa, false, 0, a2, n, cp2, by rw [hev], fun _ => ⟨by simp [eventE, putK], by simp [eventE, putK], by simp [eventE, putK], rfl, γ, HP.out⟩, HQ.out⟩
    · have n0 : ¬ (0 : Int) < (n : Int) := by omega
      have hev : eventB ⟨2, xa, xb, xc, xd, xe⟩ c n = false := by simp [eventB, putK, hn0]
      go_upto_region 6 with fail
      refine wp_region_slots_v 7 6 (0, 0) [[(2, false)], [(27, true)], [(3, false)], [(29, true)], [(30, true)], [(28, true), (31, true)], [(6, false)]] (fun w' => Below V.heap.size V w') (fun w' => Below V.heap.size V w') (fun _ w' => Below V.heap.size V w') (fun _ _ => True) (fun _ => none) (fun _ w w' => Below w.heap.size w w') (by kernel_rfl) (by kernel_rfl) (by rfl) (Below.refl _ _).drew (by kernel_rfl) (fun _ => trivial) (fun _ => trivial) (by kernel_rfl) (fun _ _ _ _ _ _ _ _ => trivial) (fun _ _ _ _ _ _ h => by cases h) (fun d f w w' h1 h2 => below_step h1 h1.size h2) (fun _ _ _ h => h) (fun _ _ _ h => h) ?_
      apply slotU_eq
      · intro ρ w' ⟨p1, p2, p3⟩ hS _ hn
        simp at hn
        go_simp
        exact ⟨Below.refl _ _, rfl⟩
      apply slotU_eq
      · intro ρ w' ⟨p1, p2, p3⟩ hS _ hn
        obtain ⟨⟨c0, c1, c2, c4⟩, ⟨k0, k1⟩, -⟩ := HCX.out w' hS
        simp at hn
        go_simp
        exact ⟨Below.refl _ _, rfl⟩
      apply slotU_eq
      · intro ρ w' ⟨p1, p2, p3⟩ hS _ hn
        simp at hn
        go_simp
        exact ⟨Below.refl _ _, rfl⟩
      apply slotU_eq
      · intro ρ w' ⟨p1, p2, p3⟩ hS _ hn
        obtain ⟨⟨c0, c1, c2, c4⟩, ⟨k0, k1⟩, -⟩ := HCX.out w' hS
        simp at hn
        go_simp
        exact ⟨Below.refl _ _, rfl⟩
      refine slotU_fact (CopF V.heap.size n ws) (lastsU_belowE (lasts_copF _ _ _)) ?_ ?_
      · intro ρ w' ⟨p1, p2, p3⟩ hS _ hn
        simp at hn
        go_simp
        exact got_call (copyWrites_any a n cap ws w' HN.out hm HX.out (HI.out.below hS)) fun e w'' ⟨v, es, he, hex, hr, hb⟩ => by
          obtain ⟨a2, cp2, n2, rfl, hl2, ho⟩ := hr.ownA hex
          obtain rfl : n2 = n := by rw [← hl2, HN.out]
          exact ⟨_, he, hb, a2, cp2, _, w''.heap.size, rfl, Nat.le_refl _, ho.wider hS.size (Nat.le_refl _)⟩
      refine slotU_fact (EvnF V.heap.size n xa false 0 ws) (lastsU_belowE (lasts_evnF _ _ _ _ _ _)) ?_ ?_
      · intro ρ w' ⟨p1, p2, p3⟩ hS _ hn
        simp at hn
        obtain ⟨x28, a2, cp2, γ, hi, x31, h1, h2⟩ := hn
        go_simp
        exact ⟨Below.refl _ _, a2, cp2, γ, hi, rfl, h1, h2⟩
      apply slotU_eq
      · intro ρ w' ⟨p1, p2, p3⟩ hS _ hn
        simp at hn
        go_simp
        exact ⟨Below.refl _ _, rfl⟩
      refine slotU_end ?_
      intro vs w6 hS
      constructor
      · intro hF
        simp at hF
        obtain ⟨x33, ⟨a2, cp2, γ, hi, x32, hhi, hoa⟩, ⟨a3, cp3, γ3, hi3, x31, -, -⟩, x30, x29, x28, x27⟩ := hF
        simp only [List.take_succ_cons, List.take_zero, List.drop_succ_cons, List.drop_zero, putAll, x33, x32, x31, x30, x29, x28, x27]
        clear x33 x32 x31 x30 x29 x28 x27
        simp only [Act.put, List.setIfInBounds_toArray, List.set_cons_succ, List.set_cons_zero]
        have hvs := HVS.out
        have HS := Lib.hid (below_step HB.out HB.out.size hS)
        obtain ⟨-, -, e6⟩ := HCX.out w6 hS
        have d0 := cell_of_row w6 _ 0 _ _ _ e6
        have d1 := cell_of_row w6 _ 1 _ _ _ e6
        have d2 := cell_of_row w6 _ 2 _ _ _ e6
        have d3 := cell_of_row w6 _ 3 _ _ _ e6
        have fz : ∀ o, w6.frozen? ⟨w.heap.size + 1 + 1, o, none⟩ = false := fun o => frozen_of_row w6 _ o _ _ e6
        simp at d0 d1 d2 d3
        have HP : Hid (OwnA (put4 w6 (w.heap.size + 1 + 1) 0 xa false 0 (.slice a2 n cp2)) w.heap.size (put4 w6 (w.heap.size + 1 + 1) 0 xa false 0 (.slice a2 n cp2)).heap.size a2 ws γ) := by
          refine (hoa.put4 (b := w.heap.size + 1 + 1) (by omega) 0 xa false 0 (.slice a2 n cp2)).wider (by omega) ?_
          rw [put4_size]
          exact hhi
        have HQ : Hid (Below w.heap.size w (put4 w6 (w.heap.size + 1 + 1) 0 xa false 0 (.slice a2 n cp2))) := Below.put4' HS.out (by omega) 0 xa false 0 _
        clear hoa hS e6 HS HCX HI HN HX HB hvs HVS hhi
        go_wp2
        exact bodyPost_ret (v := .tuple #[evV xa false 0 a2 n cp2, .bool false]) (by simp [results, Try.results22, go_sem, d0, d1, d2, d3]) rfl ⟨xa, false, 0, a2, n, cp2, by rw [hev], fun _ => ⟨by simp [eventE, putK], by simp [eventE, putK], by simp [eventE, putK], rfl, γ, HP.out⟩, HQ.out⟩
      · intro hF
        simp at hF
        obtain ⟨⟨a2, cp2, γ, hi, x32, hhi, hoa⟩, ⟨a3, cp3, γ3, hi3, x31, -, -⟩, x30, x29, x28, x27⟩ := hF
        simp only [List.take_succ_cons, List.take_zero, List.eraseIdx_cons_succ, List.eraseIdx_cons_zero, List.drop_succ_cons, List.drop_zero, putAll, x32, x31, x30, x29, x28, x27]
        clear x32 x31 x30 x29 x28 x27
        simp only [Act.put, List.setIfInBounds_toArray, List.set_cons_succ, List.set_cons_zero, List.getElem?_cons_succ, List.getElem?_cons_zero, Option.toList_some, List.cons_append, List.nil_append]
        have hvs := HVS.out
        have HS := Lib.hid (below_step HB.out HB.out.size hS)
        obtain ⟨-, -, e6⟩ := HCX.out w6 hS
        have d0 := cell_of_row w6 _ 0 _ _ _ e6
        have d1 := cell_of_row w6 _ 1 _ _ _ e6
        have d2 := cell_of_row w6 _ 2 _ _ _ e6
        have d3 := cell_of_row w6 _ 3 _ _ _ e6
        have fz : ∀ o, w6.frozen? ⟨w.heap.size + 1 + 1, o, none⟩ = false := fun o => frozen_of_row w6 _ o _ _ e6
        simp at d0 d1 d2 d3
        have HP : Hid (OwnA (put4 w6 (w.heap.size + 1 + 1) 0 xa false 0 (.slice a2 n cp2)) w.heap.size (put4 w6 (w.heap.size + 1 + 1) 0 xa false 0 (.slice a2 n cp2)).heap.size a2 ws γ) := by
          refine (hoa.put4 (b := w.heap.size + 1 + 1) (by omega) 0 xa false 0 (.slice a2 n cp2)).wider (by omega) ?_
          rw [put4_size]
          exact hhi
        have HQ : Hid (Below w.heap.size w (put4 w6 (w.heap.size + 1 + 1) 0 xa false 0 (.slice a2 n cp2))) := Below.put4' HS.out (by omega) 0 xa false 0 _
        clear hoa hS e6 HS HCX HI HN HX HB hvs HVS hhi
        go_wp2
        exact bodyPost_ret (v := .tuple #[evV xa false 0 a2 n cp2, .bool false]) (by simp [results, Try.results22, go_sem, d0, d1, d2, d3]) rfl ⟨xa, false, 0, a2, n, cp2, by rw [hev], fun _ => ⟨by simp [eventE, putK], by simp [eventE, putK], by simp [eventE, putK], rfl, γ, HP.out⟩, HQ.out⟩
  by_cases h10 : xk = 10
  · subst h10
    by_cases hn0 : 0 < n
    · have n0 : (0 : Int) < (n : Int) := by omega
      by_cases hc0 : c = 0
      · subst hc0
        have hev : eventB ⟨10, xa, xb, xc, xd, xe⟩ 0 n = true := by simp [eventB, putK, okPut, hn0]
        go_upto_region 6 with fail
        refine wp_region_slots_v 7 6 (0, 0) [[(2, false)], [(27, true)], [(3, false)], [(29, true)], [(30, true)], [(28, true), (31, true)], [(6, false)]] (fun w' => Below V.heap.size V w') (fun w' => Below V.heap.size V w') (fun _ w' => Below V.heap.size V w') (fun _ _ => True) (fun _ => none) (fun _ w w' => Below w.heap.size w w') (by kernel_rfl) (by kernel_rfl) (by rfl) (Below.refl _ _).drew (by kernel_rfl) (fun _ => trivial) (fun _ => trivial) (by kernel_rfl) (fun _ _ _ _ _ _ _ _ => trivial) (fun _ _ _ _ _ _ h => by cases h) (fun d f w w' h1 h2 => below_step h1 h1.size h2) (fun _ _ _ h => h) (fun _ _ _ h => h) ?_
        apply slotU_eq
        · intro ρ w' ⟨p1, p2, p3⟩ hS _ hn
          simp at hn
          go_simp
          exact ⟨Below.refl _ _, rfl⟩
        apply slotU_eq
        · intro ρ w' ⟨p1, p2, p3⟩ hS _ hn
          obtain ⟨⟨c0, c1, c2, c4⟩, ⟨k0, k1⟩, -⟩ := HCX.out w' hS
          simp at hn
          go_simp
          exact ⟨Below.refl _ _, rfl⟩
        apply slotU_eq
        · intro ρ w' ⟨p1, p2, p3⟩ hS _ hn
          simp at hn
          go_simp
          exact ⟨Below.refl _ _, rfl⟩
        apply slotU_eq
        · intro ρ w' ⟨p1, p2, p3⟩ hS _ hn
          obtain ⟨⟨c0, c1, c2, c4⟩, ⟨k0, k1⟩, -⟩ := HCX.out w' hS
          simp at hn
          go_simp
          exact ⟨Below.refl _ _, rfl⟩
        refine slotU_fact (CopF V.heap.size n ws) (lastsU_belowE (lasts_copF _ _ _)) ?_ ?_
        · intro ρ w' ⟨p1, p2, p3⟩ hS _ hn
          simp at hn
          go_simp
          exact got_call (copyWrites_any a n cap ws w' HN.out hm HX.out (HI.out.below hS)) fun e w'' ⟨v, es, he, hex, hr, hb⟩ => by
            obtain ⟨a2, cp2, n2, rfl, hl2, ho⟩ := hr.ownA hex
            obtain rfl : n2 = n := by rw [← hl2, HN.out]
            exact ⟨_, he, hb, a2, cp2, _, w''.heap.size, rfl, Nat.le_refl _, ho.wider hS.size (Nat.le_refl _)⟩
        refine slotU_fact (EvnF V.heap.size n xa false 0 ws) (lastsU_belowE (lasts_evnF _ _ _ _ _ _)) ?_ ?_
        · intro ρ w' ⟨p1, p2, p3⟩ hS _ hn
          simp at hn
          obtain ⟨x28, a2, cp2, γ, hi, x31, h1, h2⟩ := hn
          go_simp
          exact ⟨Below.refl _ _, a2, cp2, γ, hi, rfl, h1, h2⟩
        apply slotU_eq
        · intro ρ w' ⟨p1, p2, p3⟩ hS _ hn
          simp at hn
          go_simp
          exact ⟨Below.refl _ _, rfl⟩
        refine slotU_end ?_
        intro vs w6 hS
        constructor
        · intro hF
          simp at hF
          obtain ⟨x33, ⟨a2, cp2, γ, hi, x32, hhi, hoa⟩, ⟨a3, cp3, γ3, hi3, x31, -, -⟩, x30, x29, x28, x27⟩ := hF
          simp only [List.take_succ_cons, List.take_zero, List.drop_succ_cons, List.drop_zero, putAll, x33, x32, x31, x30, x29, x28, x27]
          clear x33 x32 x31 x30 x29 x28 x27
          simp only [Act.put, List.setIfInBounds_toArray, List.set_cons_succ, List.set_cons_zero]
          have hvs := HVS.out
          have HS := Lib.hid (below_step HB.out HB.out.size hS)
          obtain ⟨-, -, e6⟩ := HCX.out w6 hS
          have d0 := cell_of_row w6 _ 0 _ _ _ e6
          have d1 := cell_of_row w6 _ 1 _ _ _ e6
          have d2 := cell_of_row w6 _ 2 _ _ _ e6
          have d3 := cell_of_row w6 _ 3 _ _ _ e6
          have fz : ∀ o, w6.frozen? ⟨w.heap.size + 1 + 1, o, none⟩ = false := fun o => frozen_of_row w6 _ o _ _ e6
          simp at d0 d1 d2 d3
          have HP : Hid (OwnA (put4 w6 (w.heap.size + 1 + 1) 0 xa false 0 (.slice a2 n cp2)) w.heap.size (put4 w6 (w.heap.size + 1 + 1) 0 xa false 0 (.slice a2 n cp2)).heap.size a2 ws γ) := by
            refine (hoa.put4 (b := w.heap.size + 1 + 1) (by omega) 0 xa false 0 (.slice a2 n cp2)).wider (by omega) ?_
            rw [put4_size]
            exact hhi
          have HQ : Hid (Below w.heap.size w (put4 w6 (w.heap.size + 1 + 1) 0 xa false 0 (.slice a2 n cp2))) := Below.put4' HS.out (by omega) 0 xa false 0 _
          clear hoa hS e6 HS HCX HI HN HX HB hvs HVS hhi
          go_wp2
          exact bodyPost_ret (v := .tuple #[evV xa false 0 a2 n cp2, .bool true]) (by simp [results, Try.results22, go_sem, d0, d1, d2, d3]) rfl ⟨xa, false, 0, a2, n, cp2, by rw [hev], fun _ => ⟨by simp [eventE, putK], by simp [eventE, putK], by simp [eventE, putK], rfl, γ, HP.out⟩, HQ.out⟩
        · intro hF
          simp at hF
          obtain ⟨⟨a2, cp2, γ, hi, x32, hhi, hoa⟩, ⟨a3, cp3, γ3, hi3, x31, -, -⟩, x30, x29, x28, x27⟩ := hF
          simp only [List.take_succ_cons, List.take_zero, List.eraseIdx_cons_succ, List.eraseIdx_cons_zero, List.drop_succ_cons, List.drop_zero, putAll, x32, x31, x30, x29, x28, x27]
          clear x32 x31 x30 x29 x28 x27
          simp only [Act.put, List.setIfInBounds_toArray, List.set_cons_succ, List.set_cons_zero, List.getElem?_cons_succ, List.getElem?_cons_zero, Option.toList_some, List.cons_append, List.nil_append]
          have hvs := HVS.out
          have HS := Lib.hid (below_step HB.out HB.out.size hS)
          obtain ⟨-, -, e6⟩ := HCX.out w6 hS
          have d0 := cell_of_row w6 _ 0 _ _ _ e6
          have d1 := cell_of_row w6 _ 1 _ _ _ e6
          have d2 := cell_of_row w6 _ 2 _ _ _ e6
          have d3 := cell_of_row w6 _ 3 _ _ _ e6
          have fz : ∀ o, w6.frozen? ⟨w.heap.size + 1 + 1, o, none⟩ = false := fun o => frozen_of_row w6 _ o _ _ e6
          simp at d0 d1 d2 d3
          have HP : Hid (OwnA (put4 w6 (w.heap.size + 1 + 1) 0 xa false 0 (.slice a2 n cp2)) w.heap.size (put4 w6 (w.heap.size + 1 + 1) 0 xa false 0 (.slice a2 n cp2)).heap.size a2 ws γ) := by
            refine (hoa.put4 (b := w.heap.size + 1 + 1) (by omega) 0 xa false 0 (.slice a2 n cp2)).wider (by omega) ?_
            rw [put4_size]
            exact hhi
          have HQ : Hid (Below w.heap.size w (put4 w6 (w.heap.size + 1 + 1) 0 xa false 0 (.slice a2 n cp2))) := Below.put4' HS.out (by omega) 0 xa false 0 _
          clear hoa hS e6 HS HCX HI HN HX HB hvs HVS hhi
          go_wp2
          exact bodyPost_ret (v := .tuple #[evV xa false 0 a2 n cp2, .bool true]) (by simp [results, Try.results22, go_sem, d0, d1, d2, d3]) rfl ⟨xa, false, 0, a2, n, cp2, by rw [hev], fun _ => ⟨by simp [eventE, putK], by simp [eventE, putK], by simp [eventE, putK], rfl, γ, HP.out⟩, HQ.out⟩
      · have hcb : (c == 0) = false := by simpa using hc0
        by_cases hc4 : c = 4
        · subst hc4
          have hev : eventB ⟨10, xa, xb, xc, xd, xe⟩ 4 n = true := by simp [eventB, putK, okPut, hn0]
          go_upto_region 6 with fail
          refine wp_region_slots_v 7 6 (0, 0) [[(2, false)], [(27, true)], [(3, false)], [(29, true)], [(30, true)], [(28, true), (31, true)], [(6, false)]] (fun w' => Below V.heap.size V w') (fun w' => Below V.heap.size V w') (fun _ w' => Below V.heap.size V w') (fun _ _ => True) (fun _ => none) (fun _ w w' => Below w.heap.size w w') (by kernel_rfl) (by kernel_rfl) (by rfl) (Below.refl _ _).drew (by kernel_rfl) (fun _ => trivial) (fun _ => trivial) (by kernel_rfl) (fun _ _ _ _ _ _ _ _ => trivial) (fun _ _ _ _ _ _ h => by cases h) (fun d f w w' h1 h2 => below_step h1 h1.size h2) (fun _ _ _ h => h) (fun _ _ _ h => h) ?_
          apply slotU_eq
          · intro ρ w' ⟨p1, p2, p3⟩ hS _ hn
            simp at hn
            go_simp
            exact ⟨Below.refl _ _, rfl⟩
          apply slotU_eq
          · intro ρ w' ⟨p1, p2, p3⟩ hS _ hn
            obtain ⟨⟨c0, c1, c2, c4⟩, ⟨k0, k1⟩, -⟩ := HCX.out w' hS
            simp at hn
            go_simp
            exact ⟨Below.refl _ _, rfl⟩
          apply slotU_eq
          · intro ρ w' ⟨p1, p2, p3⟩ hS _ hn
            simp at hn
            go_simp
            exact ⟨Below.refl _ _, rfl⟩
          apply slotU_eq
          · intro ρ w' ⟨p1, p2, p3⟩ hS _ hn
            obtain ⟨⟨c0, c1, c2, c4⟩, ⟨k0, k1⟩, -⟩ := HCX.out w' hS
            simp at hn
            go_simp
            exact ⟨Below.refl _ _, rfl⟩
          refine slotU_fact (CopF V.heap.size n ws) (lastsU_belowE (lasts_copF _ _ _)) ?_ ?_
          · intro ρ w' ⟨p1, p2, p3⟩ hS _ hn
            simp at hn
            go_simp
            exact got_call (copyWrites_any a n cap ws w' HN.out hm HX.out (HI.out.below hS)) fun e w'' ⟨v, es, he, hex, hr, hb⟩ => by
              obtain ⟨a2, cp2, n2, rfl, hl2, ho⟩ := hr.ownA hex
              obtain rfl : n2 = n := by rw [← hl2, HN.out]
              exact ⟨_, he, hb, a2, cp2, _, w''.heap.size, rfl, Nat.le_refl _, ho.wider hS.size (Nat.le_refl _)⟩
          refine slotU_fact (EvnF V.heap.size n xa false 0 ws) (lastsU_belowE (lasts_evnF _ _ _ _ _ _)) ?_ ?_
          · intro ρ w' ⟨p1, p2, p3⟩ hS _ hn
            simp at hn
            obtain ⟨x28, a2, cp2, γ, hi, x31, h1, h2⟩ := hn
            go_simp
            exact ⟨Below.refl _ _, a2, cp2, γ, hi, rfl, h1, h2⟩
          apply slotU_eq
          · intro ρ w' ⟨p1, p2, p3⟩ hS _ hn
            simp at hn
            go_simp
            exact ⟨Below.refl _ _, rfl⟩
          refine slotU_end ?_
          intro vs w6 hS
          constructor
          · intro hF
            simp at hF
            obtain ⟨x33, ⟨a2, cp2, γ, hi, x32, hhi, hoa⟩, ⟨a3, cp3, γ3, hi3, x31, -, -⟩, x30, x29, x28, x27⟩ := hF
            simp only [List.take_succ_cons, List.take_zero, List.drop_succ_cons, List.drop_zero, putAll, x33, x32, x31, x30, x29, x28, x27]
            clear x33 x32 x31 x30 x29 x28 x27
            simp only [Act.put, List.setIfInBounds_toArray, List.set_cons_succ, List.set_cons_zero]
            have hvs := HVS.out
            have HS := Lib.hid (below_step HB.out HB.out.size hS)
            obtain ⟨-, -, e6⟩ := HCX.out w6 hS
            have d0 := cell_of_row w6 _ 0 _ _ _ e6
            have d1 := cell_of_row w6 _ 1 _ _ _ e6
            have d2 := cell_of_row w6 _ 2 _ _ _ e6
            have d3 := cell_of_row w6 _ 3 _ _ _ e6
            have fz : ∀ o, w6.frozen? ⟨w.heap.size + 1 + 1, o, none⟩ = false := fun o => frozen_of_row w6 _ o _ _ e6
            simp at d0 d1 d2 d3
            have HP : Hid (OwnA (put4 w6 (w.heap.size + 1 + 1) 0 xa false 0 (.slice a2 n cp2)) w.heap.size (put4 w6 (w.heap.size + 1 + 1) 0 xa false 0 (.slice a2 n cp2)).heap.size a2 ws γ) := by
              refine (hoa.put4 (b := w.heap.size + 1 + 1) (by omega) 0 xa false 0 (.slice a2 n cp2)).wider (by omega) ?_
              rw [put4_size]
              exact hhi
            have HQ : Hid (Below w.heap.size w (put4 w6 (w.heap.size + 1 + 1) 0 xa false 0 (.slice a2 n cp2))) := Below.put4' HS.out (by omega) 0 xa false 0 _
            clear hoa hS e6 HS HCX HI HN HX HB hvs HVS hhi
            go_wp2
            exact bodyPost_ret (v := .tuple #[evV xa false 0 a2 n cp2, .bool true]) (by simp [results, Try.results22, go_sem, d0, d1, d2, d3]) rfl ⟨xa, false, 0, a2, n, cp2, by rw [hev], fun _ => ⟨by simp [eventE, putK], by simp [eventE, putK], by simp [eventE, putK], rfl, γ, HP.out⟩, HQ.out⟩
          · intro hF
            simp at hF
            obtain ⟨⟨a2, cp2, γ, hi, x32, hhi, hoa⟩, ⟨a3, cp3, γ3, hi3, x31, -, -⟩, x30, x29, x28, x27⟩ := hF
            simp only [List.take_succ_cons, List.take_zero, List.eraseIdx_cons_succ, List.eraseIdx_cons_zero, List.drop_succ_cons, List.drop_zero, putAll, x32, x31, x30, x29, x28, x27]
            clear x32 x31 x30 x29 x28 x27
            simp only [Act.put, List.setIfInBounds_toArray, List.set_cons_succ, List.set_cons_zero, List.getElem?_cons_succ, List.getElem?_cons_zero, Option.toList_some, List.cons_append, List.nil_append]
            have hvs := HVS.out
            have HS := Lib.hid (below_step HB.out HB.out.size hS)
            obtain ⟨-, -, e6⟩ := HCX.out w6 hS
            have d0 := cell_of_row w6 _ 0 _ _ _ e6
            have d1 := cell_of_row w6 _ 1 _ _ _ e6
            have d2 := cell_of_row w6 _ 2 _ _ _ e6
            have d3 := cell_of_row w6 _ 3 _ _ _ e6
            have fz : ∀ o, w6.frozen? ⟨w.heap.size + 1 + 1, o, none⟩ = false := fun o => frozen_of_row w6 _ o _ _ e6
            simp at d0 d1 d2 d3
            have HP : Hid (OwnA (put4 w6 (w.heap.size + 1 + 1) 0 xa false 0 (.slice a2 n cp2)) w.heap.size (put4 w6 (w.heap.size + 1 + 1) 0 xa false 0 (.slice a2 n cp2)).heap.size a2 ws γ) := by
              refine (hoa.put4 (b := w.heap.size + 1 + 1) (by omega) 0 xa false 0 (.slice a2 n cp2)).wider (by omega) ?_
              rw [put4_size]
              exact hhi
            have HQ : Hid (Below w.heap.size w (put4 w6 (w.heap.size + 1 + 1) 0 xa false 0 (.slice a2 n cp2))) := Below.put4' HS.out (by omega) 0 xa false 0 _
            clear hoa hS e6 HS HCX HI HN HX HB hvs HVS hhi
            go_wp2
            exact bodyPost_ret (v := .tuple #[evV xa false 0 a2 n cp2, .bool true]) (by simp [results, Try.results22, go_sem, d0, d1, d2, d3]) rfl ⟨xa, false, 0, a2, n, cp2, by rw [hev], fun _ => ⟨by simp [eventE, putK], by simp [eventE, putK], by simp [eventE, putK], rfl, γ, HP.out⟩, HQ.out⟩
        · have hcb4 : (c == 4) = false := by simpa using hc4
          have hev : eventB ⟨10, xa, xb, xc, xd, xe⟩ c n = false := by simp [eventB, putK, okPut, hcb, hcb4]
          go_upto_region 6 with fail
          refine wp_region_slots_v 7 6 (0, 0) [[(2, false)], [(27, true)], [(3, false)], [(29, true)], [(30, true)], [(28, true), (31, true)], [(6, false)]] (fun w' => Below V.heap.size V w') (fun w' => Below V.heap.size V w') (fun _ w' => Below V.heap.size V w') (fun _ _ => True) (fun _ => none) (fun _ w w' => Below w.heap.size w w') (by kernel_rfl) (by kernel_rfl) (by rfl) (Below.refl _ _).drew (by kernel_rfl) (fun _ => trivial) (fun _ => trivial) (by kernel_rfl) (fun _ _ _ _ _ _ _ _ => trivial) (fun _ _ _ _ _ _ h => by cases h) (fun d f w w' h1 h2 => below_step h1 h1.size h2) (fun _ _ _ h => h) (fun _ _ _ h => h) ?_
          apply slotU_eq
          · intro ρ w' ⟨p1, p2, p3⟩ hS _ hn
            simp at hn
            go_simp
            exact ⟨Below.refl _ _, rfl⟩
          apply slotU_eq
          · intro ρ w' ⟨p1, p2, p3⟩ hS _ hn
            obtain ⟨⟨c0, c1, c2, c4⟩, ⟨k0, k1⟩, -⟩ := HCX.out w' hS
            simp at hn
            go_simp
            exact ⟨Below.refl _ _, rfl⟩
          apply slotU_eq
          · intro ρ w' ⟨p1, p2, p3⟩ hS _ hn
            simp at hn
            go_simp
            exact ⟨Below.refl _ _, rfl⟩
          apply slotU_eq
          · intro ρ w' ⟨p1, p2, p3⟩ hS _ hn
            obtain ⟨⟨c0, c1, c2, c4⟩, ⟨k0, k1⟩, -⟩ := HCX.out w' hS
            simp at hn
            go_simp
            exact ⟨Below.refl _ _, rfl⟩
          refine slotU_fact (CopF V.heap.size n ws) (lastsU_belowE (lasts_copF _ _ _)) ?_ ?_
          · intro ρ w' ⟨p1, p2, p3⟩ hS _ hn
            simp at hn
            go_simp
            exact got_call (copyWrites_any a n cap ws w' HN.out hm HX.out (HI.out.below hS)) fun e w'' ⟨v, es, he, hex, hr, hb⟩ => by
              obtain ⟨a2, cp2, n2, rfl, hl2, ho⟩ := hr.ownA hex
              obtain rfl : n2 = n := by rw [← hl2, HN.out]
              exact ⟨_, he, hb, a2, cp2, _, w''.heap.size, rfl, Nat.le_refl _, ho.wider hS.size (Nat.le_refl _)⟩
          refine slotU_fact (EvnF V.heap.size n xa false 0 ws) (lastsU_belowE (lasts_evnF _ _ _ _ _ _)) ?_ ?_
          · intro ρ w' ⟨p1, p2, p3⟩ hS _ hn
            simp at hn
            obtain ⟨x28, a2, cp2, γ, hi, x31, h1, h2⟩ := hn
            go_simp
            exact ⟨Below.refl _ _, a2, cp2, γ, hi, rfl, h1, h2⟩
          apply slotU_eq
          · intro ρ w' ⟨p1, p2, p3⟩ hS _ hn
            simp at hn
            go_simp
            exact ⟨Below.refl _ _, rfl⟩
          refine slotU_end ?_
          intro vs w6 hS
          constructor
          · intro hF
            simp at hF
            obtain ⟨x33, ⟨a2, cp2, γ, hi, x32, hhi, hoa⟩, ⟨a3, cp3, γ3, hi3, x31, -, -⟩, x30, x29, x28, x27⟩ := hF
            simp only [List.take_succ_cons, List.take_zero, List.drop_succ_cons, List.drop_zero, putAll, x33, x32, x31, x30, x29, x28, x27]
            clear x33 x32 x31 x30 x29 x28 x27
            simp only [Act.put, List.setIfInBounds_toArray, List.set_cons_succ, List.set_cons_zero]
            have hvs := HVS.out
            have HS := Lib.hid (below_step HB.out HB.out.size hS)
            obtain ⟨-, -, e6⟩ := HCX.out w6 hS
            have d0 := cell_of_row w6 _ 0 _ _ _ e6
            have d1 := cell_of_row w6 _ 1 _ _ _ e6
            have d2 := cell_of_row w6 _ 2 _ _ _ e6
            have d3 := cell_of_row w6 _ 3 _ _ _ e6
            have fz : ∀ o, w6.frozen? ⟨w.heap.size + 1 + 1, o, none⟩ = false := fun o => frozen_of_row w6 _ o _ _ e6
            simp at d0 d1 d2 d3
            have HP : Hid (OwnA (put4 w6 (w.heap.size + 1 + 1) 0 xa false 0 (.slice a2 n cp2)) w.heap.size (put4 w6 (w.heap.size + 1 + 1) 0 xa false 0 (.slice a2 n cp2)).heap.size a2 ws γ) := by
              refine (hoa.put4 (b := w.heap.size + 1 + 1) (by omega) 0 xa false 0 (.slice a2 n cp2)).wider (by omega) ?_
              rw [put4_size]
              exact hhi
            have HQ : Hid (Below w.heap.size w (put4 w6 (w.heap.size + 1 + 1) 0 xa false 0 (.slice a2 n cp2))) := Below.put4' HS.out (by omega) 0 xa false 0 _
            clear hoa hS e6 HS HCX HI HN HX HB hvs HVS hhi
            go_wp2
            exact bodyPost_ret (v := .tuple #[evV xa false 0 a2 n cp2, .bool false]) (by simp [results, Try.results22, go_sem, d0, d1, d2, d3]) rfl ⟨xa, false, 0, a2, n, cp2, by rw [hev], fun _ => ⟨by simp [eventE, putK], by simp [eventE, putK], by simp [eventE, putK], rfl, γ, HP.out⟩, HQ.out⟩
          · intro hF
            simp at hF
            obtain ⟨⟨a2, cp2, γ, hi, x32, hhi, hoa⟩, ⟨a3, cp3, γ3, hi3, x31, -, -⟩, x30, x29, x28, x27⟩ := hF
            simp only [List.take_succ_cons, List.take_zero, List.eraseIdx_cons_succ, List.eraseIdx_cons_zero, List.drop_succ_cons, List.drop_zero, putAll, x32, x31, x30, x29, x28, x27]
            clear x32 x31 x30 x29 x28 x27
            simp only [Act.put, List.setIfInBounds_toArray, List.set_cons_succ, List.set_cons_zero, List.getElem?_cons_succ, List.getElem?_cons_zero, Option.toList_some, List.cons_append, List.nil_append]
            have hvs := HVS.out
            have HS := Lib.hid (below_step HB.out HB.out.size hS)
            obtain ⟨-, -, e6⟩ := HCX.out w6 hS
            have d0 := cell_of_row w6 _ 0 _ _ _ e6
            have d1 := cell_of_row w6 _ 1 _ _ _ e6
            have d2 := cell_of_row w6 _ 2 _ _ _ e6
            have d3 := cell_of_row w6 _ 3 _ _ _ e6
            have fz : ∀ o, w6.frozen? ⟨w.heap.size + 1 + 1, o, none⟩ = false := fun o => frozen_of_row w6 _ o _ _ e6
            simp at d0 d1 d2 d3
            have HP : Hid (OwnA (put4 w6 (w.heap.size + 1 + 1) 0 xa false 0 (.slice a2 n cp2)) w.heap.size (put4 w6 (w.heap.size + 1 + 1) 0 xa false 0 (.slice a2 n cp2)).heap.size a2 ws γ) := by
              refine (hoa.put4 (b := w.heap.size + 1 + 1) (by omega) 0 xa false 0 (.slice a2 n cp2)).wider (by omega) ?_
              rw [put4_size]
              exact hhi
            have HQ : Hid (Below w.heap.size w (put4 w6 (w.heap.size + 1 + 1) 0 xa false 0 (.slice a2 n cp2))) := Below.put4' HS.out (by omega) 0 xa false 0 _
            clear hoa hS e6 HS HCX HI HN HX HB hvs HVS hhi
            go_wp2
            exact bodyPost_ret (v := .tuple #[evV xa false 0 a2 n cp2, .bool false]) (by simp [results, Try.results22, go_sem, d0, d1, d2, d3]) rfl ⟨xa, false, 0, a2, n, cp2, by rw [hev], fun _ => ⟨by simp [eventE, putK], by simp [eventE, putK], by simp [eventE, putK], rfl, γ, HP.out⟩, HQ.out⟩
    · have n0 : ¬ (0 : Int) < (n : Int) := by omega
      have hev : eventB ⟨10, xa, xb, xc, xd, xe⟩ c n = false := by simp [eventB, putK, hn0]
      go_upto_region 6 with fail
      refine wp_region_slots_v 7 6 (0, 0) [[(2, false)], [(27, true)], [(3, false)], [(29, true)], [(30, true)], [(28, true), (31, true)], [(6, false)]] (fun w' => Below V.heap.size V w') (fun w' => Below V.heap.size V w') (fun _ w' => Below V.heap.size V w') (fun _ _ => True) (fun _ => none) (fun _ w w' => Below w.heap.size w w') (by kernel_rfl) (by kernel_rfl) (by rfl) (Below.refl _ _).drew (by kernel_rfl) (fun _ => trivial) (fun _ => trivial) (by kernel_rfl) (fun _ _ _ _ _ _ _ _ => trivial) (fun _ _ _ _ _ _ h => by cases h) (fun d f w w' h1 h2 => below_step h1 h1.size h2) (fun _ _ _ h => h) (fun _ _ _ h => h) ?_
      apply slotU_eq
      · intro ρ w' ⟨p1, p2, p3⟩ hS _ hn
        simp at hn
        go_simp
        exact ⟨Below.refl _ _, rfl⟩
      apply slotU_eq
      · intro ρ w' ⟨p1, p2, p3⟩ hS _ hn
        obtain ⟨⟨c0, c1, c2, c4⟩, ⟨k0, k1⟩, -⟩ := HCX.out w' hS
        simp at hn
        go_simp
        exact ⟨Below.refl _ _, rfl⟩
      apply slotU_eq
      · intro ρ w' ⟨p1, p2, p3⟩ hS _ hn
        simp at hn
        go_simp
        exact ⟨Below.refl _ _, rfl⟩
      apply slotU_eq
      · intro ρ w' ⟨p1, p2, p3⟩ hS _ hn
        obtain ⟨⟨c0, c1, c2, c4⟩, ⟨k0, k1⟩, -⟩ := HCX.out w' hS
        simp at hn
        go_simp
        exact ⟨Below.refl _ _, rfl⟩
      refine slotU_fact (CopF V.heap.size n ws) (lastsU_belowE (lasts_copF _ _ _)) ?_ ?_
      · intro ρ w' ⟨p1, p2, p3⟩ hS _ hn
        simp at hn
        go_simp
        exact got_call (copyWrites_any a n cap ws w' HN.out hm HX.out (HI.out.below hS)) fun e w'' ⟨v, es, he, hex, hr, hb⟩ => by
          obtain ⟨a2, cp2, n2, rfl, hl2, ho⟩ := hr.ownA hex
          obtain rfl : n2 = n := by rw [← hl2, HN.out]
          exact ⟨_, he, hb, a2, cp2, _, w''.heap.size, rfl, Nat.le_refl _, ho.wider hS.size (Nat.le_refl _)⟩
      refine slotU_fact (EvnF V.heap.size n xa false 0 ws) (lastsU_belowE (lasts_evnF _ _ _ _ _ _)) ?_ ?_
      · intro ρ w' ⟨p1, p2, p3⟩ hS _ hn
        simp at hn
        obtain ⟨x28, a2, cp2, γ, hi, x31, h1, h2⟩ := hn
        go_simp
        exact ⟨Below.refl _ _, a2, cp2, γ, hi, rfl, h1, h2⟩
      apply slotU_eq
      · intro ρ w' ⟨p1, p2, p3⟩ hS _ hn
        simp at hn
        go_simp
        exact ⟨Below.refl _ _, rfl⟩
      refine slotU_end ?_
      intro vs w6 hS
      constructor
      · intro hF
        simp at hF
        obtain ⟨x33, ⟨a2, cp2, γ, hi, x32, hhi, hoa⟩, ⟨a3, cp3, γ3, hi3, x31, -, -⟩, x30, x29, x28, x27⟩ := hF
        simp only [List.take_succ_cons, List.take_zero, List.drop_succ_cons, List.drop_zero, putAll, x33, x32, x31, x30, x29, x28, x27]
        clear x33 x32 x31 x30 x29 x28 x27
        simp only [Act.put, List.setIfInBounds_toArray, List.set_cons_succ, List.set_cons_zero]
        have hvs := HVS.out
        have HS := Lib.hid (below_step HB.out HB.out.size hS)
        obtain ⟨-, -, e6⟩ := HCX.out w6 hS
        have d0 := cell_of_row w6 _ 0 _ _ _ e6
        have d1 := cell_of_row w6 _ 1 _ _ _ e6
        have d2 := cell_of_row w6 _ 2 _ _ _ e6
        have d3 := cell_of_row w6 _ 3 _ _ _ e6
        have fz : ∀ o, w6.frozen? ⟨w.heap.size + 1 + 1, o, none⟩ = false := fun o => frozen_of_row w6 _ o _ _ e6
        simp at d0 d1 d2 d3
        have HP : Hid (OwnA (put4 w6 (w.heap.size + 1 + 1) 0 xa false 0 (.slice a2 n cp2)) w.heap.size (put4 w6 (w.heap.size + 1 + 1) 0 xa false 0 (.slice a2 n cp2)).heap.size a2 ws γ) := by
          refine (hoa.put4 (b := w.heap.size + 1 + 1) (by omega) 0 xa false 0 (.slice a2 n cp2)).wider (by omega) ?_
          rw [put4_size]
          exact hhi
        have HQ : Hid (Below w.heap.size w (put4 w6 (w.heap.size + 1 + 1) 0 xa false 0 (.slice a2 n cp2))) := Below.put4' HS.out (by omega) 0 xa false 0 _
        clear hoa hS e6 HS HCX HI HN HX HB hvs HVS hhi
        go_wp2
        exact bodyPost_ret (v := .tuple #[evV xa false 0 a2 n cp2, .bool false]) (by simp [results, Try.results22, go_sem, d0, d1, d2, d3]) rfl ⟨xa, false, 0, a2, n, cp2, by rw [hev], fun _ => ⟨by simp [eventE, putK], by simp [eventE, putK], by simp [eventE, putK], rfl, γ, HP.out⟩, HQ.out⟩
      · intro hF
        simp at hF
        obtain ⟨⟨a2, cp2, γ, hi, x32, hhi, hoa⟩, ⟨a3, cp3, γ3, hi3, x31, -, -⟩, x30, x29, x28, x27⟩ := hF
        simp only [List.take_succ_cons, List.take_zero, List.eraseIdx_cons_succ, List.eraseIdx_cons_zero, List.drop_succ_cons, List.drop_zero, putAll, x32, x31, x30, x29, x28, x27]
        clear x32 x31 x30 x29 x28 x27
        simp only [Act.put, List.setIfInBounds_toArray, List.set_cons_succ, List.set_cons_zero, List.getElem?_cons_succ, List.getElem?_cons_zero, Option.toList_some, List.cons_append, List.nil_append]
        have hvs := HVS.out
        have HS := Lib.hid (below_step HB.out HB.out.size hS)
        obtain ⟨-, -, e6⟩ := HCX.out w6 hS
        have d0 := cell_of_row w6 _ 0 _ _ _ e6
        have d1 := cell_of_row w6 _ 1 _ _ _ e6
        have d2 := cell_of_row w6 _ 2 _ _ _ e6
        have d3 := cell_of_row w6 _ 3 _ _ _ e6
        have fz : ∀ o, w6.frozen? ⟨w.heap.size + 1 + 1, o, none⟩ = false := fun o => frozen_of_row w6 _ o _ _ e6
        simp at d0 d1 d2 d3
        have HP : Hid (OwnA (put4 w6 (w.heap.size + 1 + 1) 0 xa false 0 (.slice a2 n cp2)) w.heap.size (put4 w6 (w.heap.size + 1 + 1) 0 xa false 0 (.slice a2 n cp2)).heap.size a2 ws γ) := by
          refine (hoa.put4 (b := w.heap.size + 1 + 1) (by omega) 0 xa false 0 (.slice a2 n cp2)).wider (by omega) ?_
          rw [put4_size]
          exact hhi
        have HQ : Hid (Below w.heap.size w (put4 w6 (w.heap.size + 1 + 1) 0 xa false 0 (.slice a2 n cp2))) := Below.put4' HS.out (by omega) 0 xa false 0 _
        clear hoa hS e6 HS HCX HI HN HX HB hvs HVS hhi
        go_wp2
        exact bodyPost_ret (v := .tuple #[evV xa false 0 a2 n cp2, .bool false]) (by simp [results, Try.results22, go_sem, d0, d1, d2, d3]) rfl ⟨xa, false, 0, a2, n, cp2, by rw [hev], fun _ => ⟨by simp [eventE, putK], by simp [eventE, putK], by simp [eventE, putK], rfl, γ, HP.out⟩, HQ.out⟩
  by_cases h3 : xk = 3
  · subst h3
    by_cases hb : btw xb 0 5 = true
    · have hb2 : xb = 0 ∨ xb = 1 ∨ xb = 2 ∨ xb = 3 ∨ xb = 4 ∨ xb = 5 := by
        unfold btw at hb
        simp at hb
        omega
      go_wp2_with fail
      refine (keyOk_any xb _).mono ?_
      rintro e wz ⟨rfl, hw⟩
      subst wz
      rw [hb]
      clear hb
      rcases hb2 with rfl | rfl | rfl | rfl | rfl | rfl
      · have hev : eventB ⟨3, xa, 0, xc, xd, xe⟩ c n = okShow c := by simp [eventB, putK, btw]
        go_upto_region 9 with fail
        refine wp_region_slots 9 [[(2, false)], [(39, true)], [(2, false)], [(41, true)], [(42, true)], [(3, false)], [(40, true), (43, true), (44, true)], [(45, true)], [(45, true)]] (fun w' => Below V.heap.size V w') (fun w w' => Below w.heap.size w w') (by kernel_rfl) (by kernel_rfl) (by rfl) ((Below.refl _ _).drew) (fun _ _ h hb => below_step h h.size hb) ?_
        apply slot_eq
        · intro ρ w' ⟨p1, p2, p3⟩ hS hn
          simp at hn
          go_simp
          exact ⟨Below.refl _ _, rfl⟩
        apply slot_eq
        · intro ρ w' ⟨p1, p2, p3⟩ hS hn
          obtain ⟨⟨c0, c1, c2, c4⟩, ⟨k0, k1⟩, -⟩ := HCX.out w' hS
          simp at hn
          go_simp
          exact ⟨Below.refl _ _, rfl⟩
        apply slot_eq
        · intro ρ w' ⟨p1, p2, p3⟩ hS hn
          simp at hn
          go_simp
          exact ⟨Below.refl _ _, rfl⟩
        apply slot_eq
        · intro ρ w' ⟨p1, p2, p3⟩ hS hn
          obtain ⟨⟨c0, c1, c2, c4⟩, ⟨k0, k1⟩, -⟩ := HCX.out w' hS
          simp at hn
          go_simp
          exact ⟨Below.refl _ _, rfl⟩
        apply slot_eq
        · intro ρ w' ⟨p1, p2, p3⟩ hS hn
          simp at hn
          go_simp
          exact ⟨Below.refl _ _, rfl⟩
        apply slot_eq
        · intro ρ w' ⟨p1, p2, p3⟩ hS hn
          obtain ⟨⟨c0, c1, c2, c4⟩, ⟨k0, k1⟩, -⟩ := HCX.out w' hS
          simp at hn
          go_simp
          exact ⟨Below.refl _ _, rfl⟩
        refine slot_fact (TupF V.heap.size n xa 1 c ws) (lasts_tupF _ _ _ _ _ _) ?_ ?_
        · intro ρ w' ⟨p1, p2, p3⟩ hS hn
          simp at hn
          go_simp
          exact got_call (shownEvent_any xa 1 c a n cap ws w' HN.out hm HX.out (HI.out.below hS)) fun e w'' ⟨a2, cp2, γ, he, ho, hb⟩ => ⟨_, he, hb, a2, cp2, γ, w''.heap.size, rfl, Nat.le_refl _, ho.wider hS.size (Nat.le_refl _)⟩
        refine slot_fact (EvnF V.heap.size n xa true 1 ws) (lasts_evnF _ _ _ _ _ _) ?_ ?_
        · intro ρ w' ⟨p1, p2, p3⟩ hS hn
          simp at hn
          obtain ⟨a2, cp2, γ, hi, x45, h1, h2⟩ := hn
          go_simp
          exact ⟨Below.refl _ _, a2, cp2, γ, hi, rfl, h1, h2⟩
        apply slot_eq
        · intro ρ w' ⟨p1, p2, p3⟩ hS hn
          simp at hn
          obtain ⟨a2, cp2, γ, hi, x45, h1, h2⟩ := hn
          go_simp
          exact ⟨Below.refl _ _, rfl⟩
        refine slot_end ?_
        rintro vs w6 hS hF
        simp at hF
        obtain ⟨x47, ⟨a2, cp2, γ, hi, x46, hhi, hoa⟩, ⟨a3, cp3, γ3, hi3, x45, -, -⟩, x44, x43, x42, x41, x40, x39⟩ := hF
        simp only [List.take_succ_cons, List.take_zero, List.drop_succ_cons, List.drop_zero, putAll, x47, x46, x45, x44, x43, x42, x41, x40, x39]
        clear x47 x46 x45 x44 x43 x42 x41 x40 x39
        simp only [Act.put, List.setIfInBounds_toArray, List.set_cons_succ, List.set_cons_zero]
        have hvs := HVS.out
        have HS := Lib.hid (below_step HB.out HB.out.size hS)
        obtain ⟨-, -, e6⟩ := HCX.out w6 hS
        have d0 := cell_of_row w6 _ 0 _ _ _ e6
        have d1 := cell_of_row w6 _ 1 _ _ _ e6
        have d2 := cell_of_row w6 _ 2 _ _ _ e6
        have d3 := cell_of_row w6 _ 3 _ _ _ e6
        have fz : ∀ o, w6.frozen? ⟨w.heap.size + 1 + 1, o, none⟩ = false := fun o => frozen_of_row w6 _ o _ _ e6
        simp at d0 d1 d2 d3
        have HP : Hid (OwnA (put4 w6 (w.heap.size + 1 + 1) 0 xa true 1 (.slice a2 n cp2)) w.heap.size (put4 w6 (w.heap.size + 1 + 1) 0 xa true 1 (.slice a2 n cp2)).heap.size a2 ws γ) := by
          refine (hoa.put4 (b := w.heap.size + 1 + 1) (by omega) 0 xa true 1 (.slice a2 n cp2)).wider (by omega) ?_
          rw [put4_size]
          exact hhi
        have HQ : Hid (Below w.heap.size w (put4 w6 (w.heap.size + 1 + 1) 0 xa true 1 (.slice a2 n cp2))) := Below.put4' HS.out (by omega) 0 xa true 1 _
        clear hoa hS e6 HS HCX HI HN HX HB hvs HVS hhi
        go_wp2
        exact bodyPost_ret (v := .tuple #[evV xa true 1 a2 n cp2, .bool (okShow c)]) (by simp [results, Try.results22, go_sem, d0, d1, d2, d3]) rfl ⟨xa, true, 1, a2, n, cp2, by rw [hev], fun _ => ⟨by simp [eventE, putK], by simp [eventE, putK], by simp [eventE, putK], rfl, γ, HP.out⟩, HQ.out⟩
      · have hev : eventB ⟨3, xa, 1, xc, xd, xe⟩ c n = okShow c := by simp [eventB, putK, btw]
        go_upto_region 9 with fail
        refine wp_region_slots 9 [[(2, false)], [(39, true)], [(2, false)], [(41, true)], [(42, true)], [(3, false)], [(40, true), (43, true), (44, true)], [(45, true)], [(45, true)]] (fun w' => Below V.heap.size V w') (fun w w' => Below w.heap.size w w') (by kernel_rfl) (by kernel_rfl) (by rfl) ((Below.refl _ _).drew) (fun _ _ h hb => below_step h h.size hb) ?_
        apply slot_eq
        · intro ρ w' ⟨p1, p2, p3⟩ hS hn
          simp at hn
          go_simp
          exact ⟨Below.refl _ _, rfl⟩
        apply slot_eq
        · intro ρ w' ⟨p1, p2, p3⟩ hS hn
          obtain ⟨⟨c0, c1, c2, c4⟩, ⟨k0, k1⟩, -⟩ := HCX.out w' hS
          simp at hn
          go_simp
          exact ⟨Below.refl _ _, rfl⟩
        apply slot_eq
        · intro ρ w' ⟨p1, p2, p3⟩ hS hn
          simp at hn
          go_simp
          exact ⟨Below.refl _ _, rfl⟩
        apply slot_eq
        · intro ρ w' ⟨p1, p2, p3⟩ hS hn
          obtain ⟨⟨c0, c1, c2, c4⟩, ⟨k0, k1⟩, -⟩ := HCX.out w' hS
          simp at hn
          go_simp
          exact ⟨Below.refl _ _, rfl⟩
        apply slot_eq
        · intro ρ w' ⟨p1, p2, p3⟩ hS hn
          simp at hn
          go_simp
          exact ⟨Below.refl _ _, rfl⟩
        apply slot_eq
        · intro ρ w' ⟨p1, p2, p3⟩ hS hn
          obtain ⟨⟨c0, c1, c2, c4⟩, ⟨k0, k1⟩, -⟩ := HCX.out w' hS
          simp at hn
          go_simp
          exact ⟨Below.refl _ _, rfl⟩
        refine slot_fact (TupF V.heap.size n xa 2 c ws) (lasts_tupF _ _ _ _ _ _) ?_ ?_
        · intro ρ w' ⟨p1, p2, p3⟩ hS hn
          simp at hn
          go_simp
          exact got_call (shownEvent_any xa 2 c a n cap ws w' HN.out hm HX.out (HI.out.below hS)) fun e w'' ⟨a2, cp2, γ, he, ho, hb⟩ => ⟨_, he, hb, a2, cp2, γ, w''.heap.size, rfl, Nat.le_refl _, ho.wider hS.size (Nat.le_refl _)⟩
        refine slot_fact (EvnF V.heap.size n xa true 2 ws) (lasts_evnF _ _ _ _ _ _) ?_ ?_
        · intro ρ w' ⟨p1, p2, p3⟩ hS hn
          simp at hn
          obtain ⟨a2, cp2, γ, hi, x45, h1, h2⟩ := hn
          go_simp
          exact ⟨Below.refl _ _, a2, cp2, γ, hi, rfl, h1, h2⟩
        apply slot_eq
        · intro ρ w' ⟨p1, p2, p3⟩ hS hn
          simp at hn
          obtain ⟨a2, cp2, γ, hi, x45, h1, h2⟩ := hn
          go_simp
          exact ⟨Below.refl _ _, rfl⟩
        refine slot_end ?_
        rintro vs w6 hS hF
        simp at hF
        obtain ⟨x47, ⟨a2, cp2, γ, hi, x46, hhi, hoa⟩, ⟨a3, cp3, γ3, hi3, x45, -, -⟩, x44, x43, x42, x41, x40, x39⟩ := hF
        simp only [List.take_succ_cons, List.take_zero, List.drop_succ_cons, List.drop_zero, putAll, x47, x46, x45, x44, x43, x42, x41, x40, x39]
        clear x47 x46 x45 x44 x43 x42 x41 x40 x39
        simp only [Act.put, List.setIfInBounds_toArray, List.set_cons_succ, List.set_cons_zero]
        have hvs := HVS.out
        have HS := Lib.hid (below_step HB.out HB.out.size hS)
        obtain ⟨-, -, e6⟩ := HCX.out w6 hS
        have d0 := cell_of_row w6 _ 0 _ _ _ e6
        have d1 := cell_of_row w6 _ 1 _ _ _ e6
        have d2 := cell_of_row w6 _ 2 _ _ _ e6
        have d3 := cell_of_row w6 _ 3 _ _ _ e6
        have fz : ∀ o, w6.frozen? ⟨w.heap.size + 1 + 1, o, none⟩ = false := fun o => frozen_of_row w6 _ o _ _ e6
        simp at d0 d1 d2 d3
        have HP : Hid (OwnA (put4 w6 (w.heap.size + 1 + 1) 0 xa true 2 (.slice a2 n cp2)) w.heap.size (put4 w6 (w.heap.size + 1 + 1) 0 xa true 2 (.slice a2 n cp2)).heap.size a2 ws γ) := by
          refine (hoa.put4 (b := w.heap.size + 1 + 1) (by omega) 0 xa true 2 (.slice a2 n cp2)).wider (by omega) ?_
          rw [put4_size]
          exact hhi
        have HQ : Hid (Below w.heap.size w (put4 w6 (w.heap.size + 1 + 1) 0 xa true 2 (.slice a2 n cp2))) := Below.put4' HS.out (by omega) 0 xa true 2 _
        clear hoa hS e6 HS HCX HI HN HX HB hvs HVS hhi
        go_wp2
        exact bodyPost_ret (v := .tuple #[evV xa true 2 a2 n cp2, .bool (okShow c)]) (by simp [results, Try.results22, go_sem, d0, d1, d2, d3]) rfl ⟨xa, true, 2, a2, n, cp2, by rw [hev], fun _ => ⟨by simp [eventE, putK], by simp [eventE, putK], by simp [eventE, putK], rfl, γ, HP.out⟩, HQ.out⟩
      · have hev : eventB ⟨3, xa, 2, xc, xd, xe⟩ c n = okShow c := by simp [eventB, putK, btw]
        go_upto_region 9 with fail
        refine wp_region_slots 9 [[(2, false)], [(39, true)], [(2, false)], [(41, true)], [(42, true)], [(3, false)], [(40, true), (43, true), (44, true)], [(45, true)], [(45, true)]] (fun w' => Below V.heap.size V w') (fun w w' => Below w.heap.size w w') (by kernel_rfl) (by kernel_rfl) (by rfl) ((Below.refl _ _).drew) (fun _ _ h hb => below_step h h.size hb) ?_
        apply slot_eq
        · intro ρ w' ⟨p1, p2, p3⟩ hS hn
          simp at hn
          go_simp
          exact ⟨Below.refl _ _, rfl⟩
        apply slot_eq
        · intro ρ w' ⟨p1, p2, p3⟩ hS hn
          obtain ⟨⟨c0, c1, c2, c4⟩, ⟨k0, k1⟩, -⟩ := HCX.out w' hS
          simp at hn
          go_simp
          exact ⟨Below.refl _ _, rfl⟩
        apply slot_eq
        · intro ρ w' ⟨p1, p2, p3⟩ hS hn
          simp at hn
          go_simp
          exact ⟨Below.refl _ _, rfl⟩
        apply slot_eq
        · intro ρ w' ⟨p1, p2, p3⟩ hS hn
          obtain ⟨⟨c0, c1, c2, c4⟩, ⟨k0, k1⟩, -⟩ := HCX.out w' hS
          simp at hn
          go_simp
          exact ⟨Below.refl _ _, rfl⟩
        apply slot_eq
        · intro ρ w' ⟨p1, p2, p3⟩ hS hn
          simp at hn
          go_simp
          exact ⟨Below.refl _ _, rfl⟩
        apply slot_eq
        · intro ρ w' ⟨p1, p2, p3⟩ hS hn
          obtain ⟨⟨c0, c1, c2, c4⟩, ⟨k0, k1⟩, -⟩ := HCX.out w' hS
          simp at hn
          go_simp
          exact ⟨Below.refl _ _, rfl⟩
        refine slot_fact (TupF V.heap.size n xa 4 c ws) (lasts_tupF _ _ _ _ _ _) ?_ ?_
        · intro ρ w' ⟨p1, p2, p3⟩ hS hn
          simp at hn
          go_simp
          exact got_call (shownEvent_any xa 4 c a n cap ws w' HN.out hm HX.out (HI.out.below hS)) fun e w'' ⟨a2, cp2, γ, he, ho, hb⟩ => ⟨_, he, hb, a2, cp2, γ, w''.heap.size, rfl, Nat.le_refl _, ho.wider hS.size (Nat.le_refl _)⟩
        refine slot_fact (EvnF V.heap.size n xa true 4 ws) (lasts_evnF _ _ _ _ _ _) ?_ ?_
        · intro ρ w' ⟨p1, p2, p3⟩ hS hn
          simp at hn
          obtain ⟨a2, cp2, γ, hi, x45, h1, h2⟩ := hn
          go_simp
          exact ⟨Below.refl _ _, a2, cp2, γ, hi, rfl, h1, h2⟩
        apply slot_eq
        · intro ρ w' ⟨p1, p2, p3⟩ hS hn
          simp at hn
          obtain ⟨a2, cp2, γ, hi, x45, h1, h2⟩ := hn
          go_simp
          exact ⟨Below.refl _ _, rfl⟩
        refine slot_end ?_
        rintro vs w6 hS hF
        simp at hF
        obtain ⟨x47, ⟨a2, cp2, γ, hi, x46, hhi, hoa⟩, ⟨a3, cp3, γ3, hi3, x45, -, -⟩, x44, x43, x42, x41, x40, x39⟩ := hF
        simp only [List.take_succ_cons, List.take_zero, List.drop_succ_cons, List.drop_zero, putAll, x47, x46, x45, x44, x43, x42, x41, x40, x39]
        clear x47 x46 x45 x44 x43 x42 x41 x40 x39
        simp only [Act.put, List.setIfInBounds_toArray, List.set_cons_succ, List.set_cons_zero]
        have hvs := HVS.out
        have HS := Lib.hid (below_step HB.out HB.out.size hS)
        obtain ⟨-, -, e6⟩ := HCX.out w6 hS
        have d0 := cell_of_row w6 _ 0 _ _ _ e6
        have d1 := cell_of_row w6 _ 1 _ _ _ e6
        have d2 := cell_of_row w6 _ 2 _ _ _ e6
        have d3 := cell_of_row w6 _ 3 _ _ _ e6
        have fz : ∀ o, w6.frozen? ⟨w.heap.size + 1 + 1, o, none⟩ = false := fun o => frozen_of_row w6 _ o _ _ e6
        simp at d0 d1 d2 d3
        have HP : Hid (OwnA (put4 w6 (w.heap.size + 1 + 1) 0 xa true 4 (.slice a2 n cp2)) w.heap.size (put4 w6 (w.heap.size + 1 + 1) 0 xa true 4 (.slice a2 n cp2)).heap.size a2 ws γ) := by
          refine (hoa.put4 (b := w.heap.size + 1 + 1) (by omega) 0 xa true 4 (.slice a2 n cp2)).wider (by omega) ?_
          rw [put4_size]
          exact hhi
        have HQ : Hid (Below w.heap.size w (put4 w6 (w.heap.size + 1 + 1) 0 xa true 4 (.slice a2 n cp2))) := Below.put4' HS.out (by omega) 0 xa true 4 _
        clear hoa hS e6 HS HCX HI HN HX HB hvs HVS hhi
        go_wp2
        exact bodyPost_ret (v := .tuple #[evV xa true 4 a2 n cp2, .bool (okShow c)]) (by simp [results, Try.results22, go_sem, d0, d1, d2, d3]) rfl ⟨xa, true, 4, a2, n, cp2, by rw [hev], fun _ => ⟨by simp [eventE, putK], by simp [eventE, putK], by simp [eventE, putK], rfl, γ, HP.out⟩, HQ.out⟩
      · have hev : eventB ⟨3, xa, 3, xc, xd, xe⟩ c n = okShow c := by simp [eventB, putK, btw]
        go_upto_region 9 with fail
        refine wp_region_slots 9 [[(2, false)], [(39, true)], [(2, false)], [(41, true)], [(42, true)], [(3, false)], [(40, true), (43, true), (44, true)], [(45, true)], [(45, true)]] (fun w' => Below V.heap.size V w') (fun w w' => Below w.heap.size w w') (by kernel_rfl) (by kernel_rfl) (by rfl) ((Below.refl _ _).drew) (fun _ _ h hb => below_step h h.size hb) ?_
        apply slot_eq
        · intro ρ w' ⟨p1, p2, p3⟩ hS hn
          simp at hn
          go_simp
          exact ⟨Below.refl _ _, rfl⟩
        apply slot_eq
        · intro ρ w' ⟨p1, p2, p3⟩ hS hn
          obtain ⟨⟨c0, c1, c2, c4⟩, ⟨k0, k1⟩, -⟩ := HCX.out w' hS
          simp at hn
          go_simp
          exact ⟨Below.refl _ _, rfl⟩
        apply slot_eq
        · intro ρ w' ⟨p1, p2, p3⟩ hS hn
          simp at hn
          go_simp
          exact ⟨Below.refl _ _, rfl⟩
        apply slot_eq
        · intro ρ w' ⟨p1, p2, p3⟩ hS hn
          obtain ⟨⟨c0, c1, c2, c4⟩, ⟨k0, k1⟩, -⟩ := HCX.out w' hS
          simp at hn
          go_simp
          exact ⟨Below.refl _ _, rfl⟩
        apply slot_eq
        · intro ρ w' ⟨p1, p2, p3⟩ hS hn
          simp at hn
          go_simp
          exact ⟨Below.refl _ _, rfl⟩
        apply slot_eq
        · intro ρ w' ⟨p1, p2, p3⟩ hS hn
          obtain ⟨⟨c0, c1, c2, c4⟩, ⟨k0, k1⟩, -⟩ := HCX.out w' hS
          simp at hn
          go_simp
          exact ⟨Below.refl _ _, rfl⟩
        refine slot_fact (TupF V.heap.size n xa 8 c ws) (lasts_tupF _ _ _ _ _ _) ?_ ?_
        · intro ρ w' ⟨p1, p2, p3⟩ hS hn
          simp at hn
          go_simp
          exact got_call (shownEvent_any xa 8 c a n cap ws w' HN.out hm HX.out (HI.out.below hS)) fun e w'' ⟨a2, cp2, γ, he, ho, hb⟩ => ⟨_, he, hb, a2, cp2, γ, w''.heap.size, rfl, Nat.le_refl _, ho.wider hS.size (Nat.le_refl _)⟩
        refine slot_fact (EvnF V.heap.size n xa true 8 ws) (lasts_evnF _ _ _ _ _ _) ?_ ?_
        · intro ρ w' ⟨p1, p2, p3⟩ hS hn
          simp at hn
          obtain ⟨a2, cp2, γ, hi, x45, h1, h2⟩ := hn
          go_simp
          exact ⟨Below.refl _ _, a2, cp2, γ, hi, rfl, h1, h2⟩
        apply slot_eq
        · intro ρ w' ⟨p1, p2, p3⟩ hS hn
          simp at hn
          obtain ⟨a2, cp2, γ, hi, x45, h1, h2⟩ := hn
          go_simp
          exact ⟨Below.refl _ _, rfl⟩
        refine slot_end ?_
        rintro vs w6 hS hF
        simp at hF
        obtain ⟨x47, ⟨a2, cp2, γ, hi, x46, hhi, hoa⟩, ⟨a3, cp3, γ3, hi3, x45, -, -⟩, x44, x43, x42, x41, x40, x39⟩ := hF
        simp only [List.take_succ_cons, List.take_zero, List.drop_succ_cons, List.drop_zero, putAll, x47, x46, x45, x44, x43, x42, x41, x40, x39]
        clear x47 x46 x45 x44 x43 x42 x41 x40 x39
        simp only [Act.put, List.setIfInBounds_toArray, List.set_cons_succ, List.set_cons_zero]
        have hvs := HVS.out
        have HS := Lib.hid (below_step HB.out HB.out.size hS)
        obtain ⟨-, -, e6⟩ := HCX.out w6 hS
        have d0 := cell_of_row w6 _ 0 _ _ _ e6
        have d1 := cell_of_row w6 _ 1 _ _ _ e6
        have d2 := cell_of_row w6 _ 2 _ _ _ e6
        have d3 := cell_of_row w6 _ 3 _ _ _ e6
        have fz : ∀ o, w6.frozen? ⟨w.heap.size + 1 + 1, o, none⟩ = false := fun o => frozen_of_row w6 _ o _ _ e6
        simp at d0 d1 d2 d3
        have HP : Hid (OwnA (put4 w6 (w.heap.size + 1 + 1) 0 xa true 8 (.slice a2 n cp2)) w.heap.size (put4 w6 (w.heap.size + 1 + 1) 0 xa true 8 (.slice a2 n cp2)).heap.size a2 ws γ) := by
          refine (hoa.put4 (b := w.heap.size + 1 + 1) (by omega) 0 xa true 8 (.slice a2 n cp2)).wider (by omega) ?_
          rw [put4_size]
          exact hhi
        have HQ : Hid (Below w.heap.size w (put4 w6 (w.heap.size + 1 + 1) 0 xa true 8 (.slice a2 n cp2))) := Below.put4' HS.out (by omega) 0 xa true 8 _
        clear hoa hS e6 HS HCX HI HN HX HB hvs HVS hhi
        go_wp2
        exact bodyPost_ret (v := .tuple #[evV xa true 8 a2 n cp2, .bool (okShow c)]) (by simp [results, Try.results22, go_sem, d0, d1, d2, d3]) rfl ⟨xa, true, 8, a2, n, cp2, by rw [hev], fun _ => ⟨by simp [eventE, putK], by simp [eventE, putK], by simp [eventE, putK], rfl, γ, HP.out⟩, HQ.out⟩
      · have hev : eventB ⟨3, xa, 4, xc, xd, xe⟩ c n = okShow c := by simp [eventB, putK, btw]
        go_upto_region 9 with fail
        refine wp_region_slots 9 [[(2, false)], [(39, true)], [(2, false)], [(41, true)], [(42, true)], [(3, false)], [(40, true), (43, true), (44, true)], [(45, true)], [(45, true)]] (fun w' => Below V.heap.size V w') (fun w w' => Below w.heap.size w w') (by kernel_rfl) (by kernel_rfl) (by rfl) ((Below.refl _ _).drew) (fun _ _ h hb => below_step h h.size hb) ?_
        apply slot_eq
        · intro ρ w' ⟨p1, p2, p3⟩ hS hn
          simp at hn
          go_simp
          exact ⟨Below.refl _ _, rfl⟩
        apply slot_eq
        · intro ρ w' ⟨p1, p2, p3⟩ hS hn
          obtain ⟨⟨c0, c1, c2, c4⟩, ⟨k0, k1⟩, -⟩ := HCX.out w' hS
          simp at hn
          go_simp
          exact ⟨Below.refl _ _, rfl⟩
        apply slot_eq
        · intro ρ w' ⟨p1, p2, p3⟩ hS hn
          simp at hn
          go_simp
          exact ⟨Below.refl _ _, rfl⟩
        apply slot_eq
        · intro ρ w' ⟨p1, p2, p3⟩ hS hn
          obtain ⟨⟨c0, c1, c2, c4⟩, ⟨k0, k1⟩, -⟩ := HCX.out w' hS
          simp at hn
          go_simp
          exact ⟨Below.refl _ _, rfl⟩
        apply slot_eq
        · intro ρ w' ⟨p1, p2, p3⟩ hS hn
          simp at hn
          go_simp
          exact ⟨Below.refl _ _, rfl⟩
        apply slot_eq
        · intro ρ w' ⟨p1, p2, p3⟩ hS hn
          obtain ⟨⟨c0, c1, c2, c4⟩, ⟨k0, k1⟩, -⟩ := HCX.out w' hS
          simp at hn
          go_simp
          exact ⟨Below.refl _ _, rfl⟩
        refine slot_fact (TupF V.heap.size n xa 16 c ws) (lasts_tupF _ _ _ _ _ _) ?_ ?_
        · intro ρ w' ⟨p1, p2, p3⟩ hS hn
          simp at hn
          go_simp
          exact got_call (shownEvent_any xa 16 c a n cap ws w' HN.out hm HX.out (HI.out.below hS)) fun e w'' ⟨a2, cp2, γ, he, ho, hb⟩ => ⟨_, he, hb, a2, cp2, γ, w''.heap.size, rfl, Nat.le_refl _, ho.wider hS.size (Nat.le_refl _)⟩
        refine slot_fact (EvnF V.heap.size n xa true 16 ws) (lasts_evnF _ _ _ _ _ _) ?_ ?_
        · intro ρ w' ⟨p1, p2, p3⟩ hS hn
          simp at hn
          obtain ⟨a2, cp2, γ, hi, x45, h1, h2⟩ := hn
          go_simp
          exact ⟨Below.refl _ _, a2, cp2, γ, hi, rfl, h1, h2⟩
        apply slot_eq
        · intro ρ w' ⟨p1, p2, p3⟩ hS hn
          simp at hn
          obtain ⟨a2, cp2, γ, hi, x45, h1, h2⟩ := hn
          go_simp
          exact ⟨Below.refl _ _, rfl⟩
        refine slot_end ?_
        rintro vs w6 hS hF
        simp at hF
        obtain ⟨x47, ⟨a2, cp2, γ, hi, x46, hhi, hoa⟩, ⟨a3, cp3, γ3, hi3, x45, -, -⟩, x44, x43, x42, x41, x40, x39⟩ := hF
        simp only [List.take_succ_cons, List.take_zero, List.drop_succ_cons, List.drop_zero, putAll, x47, x46, x45, x44, x43, x42, x41, x40, x39]
        clear x47 x46 x45 x44 x43 x42 x41 x40 x39
        simp only [Act.put, List.setIfInBounds_toArray, List.set_cons_succ, List.set_cons_zero]
        have hvs := HVS.out
        have HS := Lib.hid (below_step HB.out HB.out.size hS)
        obtain ⟨-, -, e6⟩ := HCX.out w6 hS
        have d0 := cell_of_row w6 _ 0 _ _ _ e6
        have d1 := cell_of_row w6 _ 1 _ _ _ e6
        have d2 := cell_of_row w6 _ 2 _ _ _ e6
        have d3 := cell_of_row w6 _ 3 _ _ _ e6
        have fz : ∀ o, w6.frozen? ⟨w.heap.size + 1 + 1, o, none⟩ = false := fun o => frozen_of_row w6 _ o _ _ e6
        simp at d0 d1 d2 d3
        have HP : Hid (OwnA (put4 w6 (w.heap.size + 1 + 1) 0 xa true 16 (.slice a2 n cp2)) w.heap.size (put4 w6 (w.heap.size + 1 + 1) 0 xa true 16 (.slice a2 n cp2)).heap.size a2 ws γ) := by
          refine (hoa.put4 (b := w.heap.size + 1 + 1) (by omega) 0 xa true 16 (.slice a2 n cp2)).wider (by omega) ?_
          rw [put4_size]
          exact hhi
        have HQ : Hid (Below w.heap.size w (put4 w6 (w.heap.size + 1 + 1) 0 xa true 16 (.slice a2 n cp2))) := Below.put4' HS.out (by omega) 0 xa true 16 _
        clear hoa hS e6 HS HCX HI HN HX HB hvs HVS hhi
        go_wp2
        exact bodyPost_ret (v := .tuple #[evV xa true 16 a2 n cp2, .bool (okShow c)]) (by simp [results, Try.results22, go_sem, d0, d1, d2, d3]) rfl ⟨xa, true, 16, a2, n, cp2, by rw [hev], fun _ => ⟨by simp [eventE, putK], by simp [eventE, putK], by simp [eventE, putK], rfl, γ, HP.out⟩, HQ.out⟩
      · have hev : eventB ⟨3, xa, 5, xc, xd, xe⟩ c n = okShow c := by simp [eventB, putK, btw]
        go_upto_region 9 with fail
        refine wp_region_slots 9 [[(2, false)], [(39, true)], [(2, false)], [(41, true)], [(42, true)], [(3, false)], [(40, true), (43, true), (44, true)], [(45, true)], [(45, true)]] (fun w' => Below V.heap.size V w') (fun w w' => Below w.heap.size w w') (by kernel_rfl) (by kernel_rfl) (by rfl) ((Below.refl _ _).drew) (fun _ _ h hb => below_step h h.size hb) ?_
        apply slot_eq
        · intro ρ w' ⟨p1, p2, p3⟩ hS hn
          simp at hn
          go_simp
          exact ⟨Below.refl _ _, rfl⟩
        apply slot_eq
        · intro ρ w' ⟨p1, p2, p3⟩ hS hn
          obtain ⟨⟨c0, c1, c2, c4⟩, ⟨k0, k1⟩, -⟩ := HCX.out w' hS
          simp at hn
          go_simp
          exact ⟨Below.refl _ _, rfl⟩
        apply slot_eq
        · intro ρ w' ⟨p1, p2, p3⟩ hS hn
          simp at hn
          go_simp
          exact ⟨Below.refl _ _, rfl⟩
        apply slot_eq
        · intro ρ w' ⟨p1, p2, p3⟩ hS hn
          obtain ⟨⟨c0, c1, c2, c4⟩, ⟨k0, k1⟩, -⟩ := HCX.out w' hS
          simp at hn
          go_simp
          exact ⟨Below.refl _ _, rfl⟩
        apply slot_eq
        · intro ρ w' ⟨p1, p2, p3⟩ hS hn
          simp at hn
          go_simp
          exact ⟨Below.refl _ _, rfl⟩
        apply slot_eq
        · intro ρ w' ⟨p1, p2, p3⟩ hS hn
          obtain ⟨⟨c0, c1, c2, c4⟩, ⟨k0, k1⟩, -⟩ := HCX.out w' hS
          simp at hn
          go_simp
          exact ⟨Below.refl _ _, rfl⟩
        refine slot_fact (TupF V.heap.size n xa 32 c ws) (lasts_tupF _ _ _ _ _ _) ?_ ?_
        · intro ρ w' ⟨p1, p2, p3⟩ hS hn
          simp at hn
          go_simp
          exact got_call (shownEvent_any xa 32 c a n cap ws w' HN.out hm HX.out (HI.out.below hS)) fun e w'' ⟨a2, cp2, γ, he, ho, hb⟩ => ⟨_, he, hb, a2, cp2, γ, w''.heap.size, rfl, Nat.le_refl _, ho.wider hS.size (Nat.le_refl _)⟩
        refine slot_fact (EvnF V.heap.size n xa true 32 ws) (lasts_evnF _ _ _ _ _ _) ?_ ?_
        · intro ρ w' ⟨p1, p2, p3⟩ hS hn
          simp at hn
          obtain ⟨a2, cp2, γ, hi, x45, h1, h2⟩ := hn
          go_simp
          exact ⟨Below.refl _ _, a2, cp2, γ, hi, rfl, h1, h2⟩
        apply slot_eq
        · intro ρ w' ⟨p1, p2, p3⟩ hS hn
          simp at hn
          obtain ⟨a2, cp2, γ, hi, x45, h1, h2⟩ := hn
          go_simp
          exact ⟨Below.refl _ _, rfl⟩
        refine slot_end ?_
        rintro vs w6 hS hF
        simp at hF
        obtain ⟨x47, ⟨a2, cp2, γ, hi, x46, hhi, hoa⟩, ⟨a3, cp3, γ3, hi3, x45, -, -⟩, x44, x43, x42, x41, x40, x39⟩ := hF
        simp only [List.take_succ_cons, List.take_zero, List.drop_succ_cons, List.drop_zero, putAll, x47, x46, x45, x44, x43, x42, x41, x40, x39]
        clear x47 x46 x45 x44 x43 x42 x41 x40 x39
        simp only [Act.put, List.setIfInBounds_toArray, List.set_cons_succ, List.set_cons_zero]
        have hvs := HVS.out
        have HS := Lib.hid (below_step HB.out HB.out.size hS)
        obtain ⟨-, -, e6⟩ := HCX.out w6 hS
        have d0 := cell_of_row w6 _ 0 _ _ _ e6
        have d1 := cell_of_row w6 _ 1 _ _ _ e6
        have d2 := cell_of_row w6 _ 2 _ _ _ e6
        have d3 := cell_of_row w6 _ 3 _ _ _ e6
        have fz : ∀ o, w6.frozen? ⟨w.heap.size + 1 + 1, o, none⟩ = false := fun o => frozen_of_row w6 _ o _ _ e6
        simp at d0 d1 d2 d3
        have HP : Hid (OwnA (put4 w6 (w.heap.size + 1 + 1) 0 xa true 32 (.slice a2 n cp2)) w.heap.size (put4 w6 (w.heap.size + 1 + 1) 0 xa true 32 (.slice a2 n cp2)).heap.size a2 ws γ) := by
          refine (hoa.put4 (b := w.heap.size + 1 + 1) (by omega) 0 xa true 32 (.slice a2 n cp2)).wider (by omega) ?_
          rw [put4_size]
          exact hhi
        have HQ : Hid (Below w.heap.size w (put4 w6 (w.heap.size + 1 + 1) 0 xa true 32 (.slice a2 n cp2))) := Below.put4' HS.out (by omega) 0 xa true 32 _
        clear hoa hS e6 HS HCX HI HN HX HB hvs HVS hhi
        go_wp2
        exact bodyPost_ret (v := .tuple #[evV xa true 32 a2 n cp2, .bool (okShow c)]) (by simp [results, Try.results22, go_sem, d0, d1, d2, d3]) rfl ⟨xa, true, 32, a2, n, cp2, by rw [hev], fun _ => ⟨by simp [eventE, putK], by simp [eventE, putK], by simp [eventE, putK], rfl, γ, HP.out⟩, HQ.out⟩
    · have hbf : btw xb 0 5 = false := by simpa using hb
      have hev : eventB ⟨3, xa, xb, xc, xd, xe⟩ c n = false := by simp [eventB, putK, hbf]
      go_wp2_with fail
      refine (keyOk_any xb _).mono ?_
      rintro e wz ⟨rfl, hw⟩
      subst wz
      rw [hbf]
      have hvs := HVS.out
      obtain ⟨-, -, e6⟩ := HCX.out V (Below.refl _ _)
      have d0 := cell_of_row V _ 0 _ _ _ e6
      have d1 := cell_of_row V _ 1 _ _ _ e6
      have d2 := cell_of_row V _ 2 _ _ _ e6
      have d3 := cell_of_row V _ 3 _ _ _ e6
      have fz : ∀ o, V.frozen? ⟨w.heap.size + 1 + 1, o, none⟩ = false := fun o => frozen_of_row V _ o _ _ e6
      simp at d0 d1 d2 d3
      have HQ : Hid (Below w.heap.size w (put4 V (w.heap.size + 1 + 1) 0 0 false 0 (.slice none 0 0))) := Below.put4' HB.out (by omega) 0 0 false 0 _
      clear e6 HCX HI HN HX HB hvs HVS
      go_wp2
      exact bodyPost_ret (v := .tuple #[evV 0 false 0 none 0 0, .bool false]) (by simp [results, Try.results22, go_sem, d0, d1, d2, d3]) rfl ⟨0, false, 0, none, 0, 0, by rw [hev], (by intro h; rw [hev] at h; cases h), HQ.out⟩
  · by_cases h4 : xk = 4
    · subst h4
      by_cases hd : 0 ≤ xd
      · have hev : eventB ⟨4, xa, xb, xc, xd, xe⟩ c n = okShow c := by simp [eventB, putK, hd]
        go_wp2_with fail
        refine (shownEvent_any xa xd c a n cap ws V HN.out hm HX.out HI.out).mono ?_
        rintro e w6 ⟨a2, cp2, γ, rfl, ho, hS⟩
        have hhi : w6.heap.size ≤ w6.heap.size := Nat.le_refl _
        have hoa := ho
        clear ho
        have hvs := HVS.out
        have HS := Lib.hid (below_step HB.out HB.out.size hS)
        obtain ⟨-, -, e6⟩ := HCX.out w6 hS
        have d0 := cell_of_row w6 _ 0 _ _ _ e6
        have d1 := cell_of_row w6 _ 1 _ _ _ e6
        have d2 := cell_of_row w6 _ 2 _ _ _ e6
        have d3 := cell_of_row w6 _ 3 _ _ _ e6
        have fz : ∀ o, w6.frozen? ⟨w.heap.size + 1 + 1, o, none⟩ = false := fun o => frozen_of_row w6 _ o _ _ e6
        simp at d0 d1 d2 d3
        have HP : Hid (OwnA (put4 w6 (w.heap.size + 1 + 1) 0 xa true xd (.slice a2 n cp2)) w.heap.size (put4 w6 (w.heap.size + 1 + 1) 0 xa true xd (.slice a2 n cp2)).heap.size a2 ws γ) := by
          refine (hoa.put4 (b := w.heap.size + 1 + 1) (by omega) 0 xa true xd (.slice a2 n cp2)).wider (by omega) ?_
          rw [put4_size]
          exact hhi
        have HQ : Hid (Below w.heap.size w (put4 w6 (w.heap.size + 1 + 1) 0 xa true xd (.slice a2 n cp2))) := Below.put4' HS.out (by omega) 0 xa true xd _
        clear hoa hS e6 HS HCX HI HN HX HB hvs HVS hhi
        go_wp2
        exact bodyPost_ret (v := .tuple #[evV xa true xd a2 n cp2, .bool (okShow c)]) (by simp [results, Try.results22, go_sem, d0, d1, d2, d3]) rfl ⟨xa, true, xd, a2, n, cp2, by rw [hev], fun _ => ⟨by simp [eventE, putK], by simp [eventE, putK], by simp [eventE, putK], rfl, γ, HP.out⟩, HQ.out⟩
      · have hdf : ¬ 0 ≤ xd := hd
        have hev : eventB ⟨4, xa, xb, xc, xd, xe⟩ c n = false := by simp [eventB, putK, hd]
        have hvs := HVS.out
        obtain ⟨-, -, e6⟩ := HCX.out V (Below.refl _ _)
        have d0 := cell_of_row V _ 0 _ _ _ e6
        have d1 := cell_of_row V _ 1 _ _ _ e6
        have d2 := cell_of_row V _ 2 _ _ _ e6
        have d3 := cell_of_row V _ 3 _ _ _ e6
        have fz : ∀ o, V.frozen? ⟨w.heap.size + 1 + 1, o, none⟩ = false := fun o => frozen_of_row V _ o _ _ e6
        simp at d0 d1 d2 d3
        have HQ : Hid (Below w.heap.size w (put4 V (w.heap.size + 1 + 1) 0 0 false 0 (.slice none 0 0))) := Below.put4' HB.out (by omega) 0 0 false 0 _
        clear e6 HCX HI HN HX HB hvs HVS
        go_wp2
        exact bodyPost_ret (v := .tuple #[evV 0 false 0 none 0 0, .bool false]) (by simp [results, Try.results22, go_sem, d0, d1, d2, d3]) rfl ⟨0, false, 0, none, 0, 0, by rw [hev], (by intro h; rw [hev] at h; cases h), HQ.out⟩
    · have hk1 : (xk == 1) = false := by simpa using h1
      have hk2 : (xk == 2) = false := by simpa using h2
      have hk10 : (xk == 10) = false := by simpa using h10
      have hk3 : (xk == 3) = false := by simpa using h3
      have hk4 : (xk == 4) = false := by simpa using h4
      have hev : eventB ⟨xk, xa, xb, xc, xd, xe⟩ c n = false := by simp [eventB, putK, h1, h2, h10, h3, h4]
      have hvs := HVS.out
      obtain ⟨-, -, e6⟩ := HCX.out V (Below.refl _ _)
      have d0 := cell_of_row V _ 0 _ _ _ e6
      have d1 := cell_of_row V _ 1 _ _ _ e6
      have d2 := cell_of_row V _ 2 _ _ _ e6
      have d3 := cell_of_row V _ 3 _ _ _ e6
      have fz : ∀ o, V.frozen? ⟨w.heap.size + 1 + 1, o, none⟩ = false := fun o => frozen_of_row V _ o _ _ e6
      simp at d0 d1 d2 d3
      have HQ : Hid (Below w.heap.size w (put4 V (w.heap.size + 1 + 1) 0 0 false 0 (.slice none 0 0))) := Below.put4' HB.out (by omega) 0 0 false 0 _
      clear e6 HCX HI HN HX HB hvs HVS
      go_wp2
      exact bodyPost_ret (v := .tuple #[evV 0 false 0 none 0 0, .bool false]) (by simp [results, Try.results22, go_sem, d0, d1, d2, d3]) rfl ⟨0, false, 0, none, 0, 0, by rw [hev], (by intro h; rw [hev] at h; cases h), HQ.out⟩

end Go.Proofs.Ytobcefkjoojflaa
