import Derived.Test.YtobcefkjoojflaaPack7
import Derived.Test.YtobcefkjoojflaaPack6
import Derived.Deep.AppendLies
import Derived.Test.YtobcefkjoojflaaPack4
import Derived.Test.YtobcefkjoojflaaPack2
namespace Go.Proofs.Ytobcefkjoojflaa
open Go.ChangeShapes Go.WideShapes Go.ChangeAt Go.RowKit Go.Joins
set_option maxRecDepth 100000
attribute [local go_sem ↓] Go.wp_at_zero Go.wp_at_succ

def evsTo (acs : List Ac) (rs : List Rp) : Nat → List Ev
  | 0 => []
  | k + 1 => evsTo acs rs k ++ (if eventB (acs.getD k acz) (rs.getD k rpz).c (rs.getD k rpz).ws.length = true then [eventE (acs.getD k acz) (rs.getD k rpz).ws] else [])

def evsA (acs : List Ac) (rs : List Rp) : List Ev := if acs.length = rs.length then evsTo acs rs acs.length else []

theorem evsTo_len (acs : List Ac) (rs : List Rp) : ∀ k, (evsTo acs rs k).length ≤ k
  | 0 => Nat.le_refl _
  | k + 1 => by
    have h := evsTo_len acs rs k
    unfold evsTo
    split <;> simp <;> omega

theorem OwnA.offE {w w' : World} {lo hi b t : Nat} {a : Option Addr} {ws : List Wr} {γ : Nat → Nat} {x0 : Int} {x1 : Bool} {x2 : Int} {x3 : Value} (h : OwnA w lo hi a ws γ) (hb : w.heap[b]? = some (.cells #[.int .i64 x0, .bool x1, .int .i64 x2, x3] t (0, 0))) (hs : w.heap.size ≤ w'.heap.size) (hh : ∀ k, k < w.heap.size → k ≠ b → w'.heap[k]? = w.heap[k]?) : OwnA w' lo hi a ws γ := by
  rcases h with h | ⟨g, h1, h2, h3, h4⟩
  · exact .inl h
  · by_cases hz : ws = []
    · exact .inl hz
    have c1 : w.cell? ⟨b, 1, none⟩ = some (.bool x1) := by
      rw [cell_of_row _ _ 1 _ _ (0, 0) hb]
      rfl
    have hl : 0 < ws.length := List.length_pos_iff.2 hz
    have hg : g ≠ b := by
      rintro rfl
      obtain ⟨a', cap, q, -⟩ := h2.at_ 0 hl
      have q1 := q.2.1
      rw [Nat.zero_mul, Nat.zero_add, c1] at q1
      cases q1
    have hd : ∀ i, i < ws.length → 0 < (ws.getD i wz).xs.length → γ i ≠ b := fun i hi hp => by
      rintro rfl
      obtain ⟨-, -, -, q, -⟩ := h2.deps i hi hp
      have q1 := (q 0 hp).2.1
      rw [Nat.zero_mul, Nat.zero_add, c1] at q1
      cases q1
    exact .inr ⟨g, h1, h2.span hs (hh g h2.lt hg) (fun i hi hp => hh _ (h2.deps i hi hp).2.1 (hd i hi hp)), h3, h4⟩

def SayE (lo : Nat) (x : Ac) (bb : Bool) (n : Nat) (ws : List Wr) (s : Int) (sh : Bool) (m : Int) (a2 : Option Addr) (n2 : Nat) (w : World) : Prop :=
  bb = true → s = (eventE x ws).s ∧ sh = (eventE x ws).sh ∧ m = (eventE x ws).m ∧ n2 = n ∧ ∃ γ hi, hi ≤ w.heap.size ∧ OwnA w lo hi a2 ws γ

theorem SayE.below {lo : Nat} {x : Ac} {bb : Bool} {n : Nat} {ws : List Wr} {s : Int} {sh : Bool} {m : Int} {a2 : Option Addr} {n2 : Nat} {w w' : World} (h : SayE lo x bb n ws s sh m a2 n2 w) (hb : Below w.heap.size w w') : SayE lo x bb n ws s sh m a2 n2 w' := fun e => by
  obtain ⟨h1, h2, h3, h4, γ, hi, h5, h6⟩ := h e
  exact ⟨h1, h2, h3, h4, γ, hi, Nat.le_trans h5 hb.size, h6.below hb⟩

def TupE (lo : Nat) (x : Ac) (bb : Bool) (n : Nat) (ws : List Wr) : Fact := fun v w => ∃ s sh m a2 n2 cp, v = .tuple #[evV s sh m a2 n2 cp, .bool bb] ∧ SayE lo x bb n ws s sh m a2 n2 w

def ValE (lo : Nat) (x : Ac) (bb : Bool) (n : Nat) (ws : List Wr) : Fact := fun v w => ∃ s sh m a2 n2 cp, v = evV s sh m a2 n2 cp ∧ SayE lo x bb n ws s sh m a2 n2 w

theorem lasts_tupE (lo : Nat) (x : Ac) (bb : Bool) (n : Nat) (ws : List Wr) : lasts (fun w w' => Below w.heap.size w w') (TupE lo x bb n ws) := by
  rintro v w w' ⟨s, sh, m, a2, n2, cp, h1, h2⟩ hb
  exact ⟨s, sh, m, a2, n2, cp, h1, h2.below hb⟩

theorem lasts_valE (lo : Nat) (x : Ac) (bb : Bool) (n : Nat) (ws : List Wr) : lasts (fun w w' => Below w.heap.size w w') (ValE lo x bb n ws) := by
  rintro v w w' ⟨s, sh, m, a2, n2, cp, h1, h2⟩ hb
  exact ⟨s, sh, m, a2, n2, cp, h1, h2.below hb⟩

def BoxE (B : Nat) : Fact := fun v w => ∃ b, v = .pointer (some ⟨b, 0, none⟩) ∧ B ≤ b ∧ w.heap[b]? = some (.cells #[.int .i64 0, .bool false, .int .i64 0, .slice none 0 0] 50 (0, 0))

theorem lasts_boxE (B : Nat) : lasts (fun w w' => Below w.heap.size w w') (BoxE B) := by
  rintro v w w' ⟨b, h1, h2, h3⟩ hb
  exact ⟨b, h1, h2, (hb.block b (Array.getElem?_eq_some_iff.1 h3).1).trans h3⟩

set_option maxHeartbeats 16000000 in
theorem implEventsOf_any (a a' : Option Addr) (n n' cap cap' : Nat) (acs : List Ac) (rs : List Rp) (w : World) (hn : acs.length = n) (hn' : rs.length = n') (hm : n ≤ 1048576) (hm' : n' ≤ 1048576) (hx : FewR rs) (h : IsAs w a acs) (h' : IsRs w a' rs) :
    Calls Try.prog 9 #[.slice a n cap, .slice a' n' cap'] w fun e w' => ∃ v es, e = .returned v ∧ evsOf es = evsA acs rs ∧ RowV w' w.heap.size v es ∧ Below w.heap.size w w' := by
  have H := Lib.hid h
  have H' := Lib.hid h'
  have HN := Lib.hid hn
  have HN' := Lib.hid hn'
  have HX := Lib.hid hx
  clear h h' hx
  by_cases hne : n = n'
  · subst hne
    have HEV : Hid (evsA acs rs = evsTo acs rs n) := by
      show _ = _
      unfold evsA
      rw [if_pos (by omega), hn]
    clear hn hn'
    obtain ⟨i0, hi0, hx0⟩ := Option.map_eq_some_iff.1 infoEvent
    simp only [Prod.mk.injEq] at hx0
    have HI0 := Lib.hid hi0
    have HX0 := Lib.hid hx0
    clear hi0 hx0
    go_enter Try.func9, Try.ntmps9
    go_wp2
    go_loopw [5, 17] (fun t i wr => ∃ (k : Nat) (v : Value) (es : List EvB), k ≤ n ∧ es.length ≤ k ∧ i = .int .i64 k ∧ v = t ∧ Hid (evsOf es = evsTo acs rs k) ∧ Hid (RowV wr w.heap.size v es) ∧ Hid (Below w.heap.size w wr)) (fun _ i _ => n - (intOf i).toNat)
    case atStart => exact ⟨0, _, [], Nat.zero_le _, Nat.le_refl _, rfl, rfl, rfl, rowV_nil _ _, Below.refl _ _⟩
    case round =>
      obtain ⟨k, v, es, hk, hek, rfl, rfl, HE, HR, HB⟩ := hrel
      by_cases hk' : k < n
      · have i1 : (0 : Int) ≤ (k : Int) := by omega
        have i2 : (k : Int) < (n : Int) := by omega
        obtain ⟨b, o, rfl, hz, e0, e1, e2, e3, e4, e5⟩ := H.out.at HB.out (k := k) (by rw [HN.out]; exact hk')
        obtain ⟨b', o', ar, cr, rfl, hz', ⟨f0, f1⟩, hws⟩ := H'.out.at HB.out (k := k) (by rw [HN'.out]; exact hk')
        obtain ⟨hxl, hxf⟩ := HX.out k (by rw [HN'.out]; exact hk')
        have HTO : Hid (evsTo acs rs (k + 1) = evsTo acs rs k ++ (if eventB (acs.getD k acz) (rs.getD k rpz).c (rs.getD k rpz).ws.length = true then [eventE (acs.getD k acz) (rs.getD k rpz).ws] else [])) := rfl
        generalize acs.getD k acz = x at *
        generalize rs.getD k rpz = r at *
        obtain ⟨rc, ws⟩ := r
        simp only at f0 f1 hws hxl hxf HTO
        obtain ⟨q, hq⟩ : ∃ q, ws.length = q := ⟨_, rfl⟩
        rw [hq] at f1 hxl HTO
        obtain ⟨bb, hbb⟩ : ∃ bb, eventB x rc q = bb := ⟨_, rfl⟩
        rw [hbb] at HTO
        have HBB := Lib.hid hbb
        have HQ := Lib.hid hq
        have HXF := Lib.hid hxf
        clear hq hbb hxf
        go_upto_region 7 with fail
        have hA : Below wr.heap.size wr (wr.alloc (.cells #[.int .i64 x.k, .int .i64 x.a, .int .i64 x.b, .int .i64 x.c, .int .i64 x.d, .int .i64 x.e] 44)) := (Below.refl _ _).alloc (Nat.le_refl _) _
        have HB7 := Lib.hid (below_step HB.out HB.out.size hA)
        have HR7 := Lib.hid (HR.out.below hA)
        have HW7 := Lib.hid (hws.below hA)
        have y0 := heap_alloc_new wr (.cells #[.int .i64 x.k, .int .i64 x.a, .int .i64 x.b, .int .i64 x.c, .int .i64 x.d, .int .i64 x.e] 44)
        have g0 : (wr.alloc (.cells #[.int .i64 x.k, .int .i64 x.a, .int .i64 x.b, .int .i64 x.c, .int .i64 x.d, .int .i64 x.e] 44)).cell? ⟨b', o' + k * 2, none⟩ = some (.int .i64 rc) := (hA.cell (p := ⟨b', o' + k * 2, none⟩) hz').trans f0
        have g1 : (wr.alloc (.cells #[.int .i64 x.k, .int .i64 x.a, .int .i64 x.b, .int .i64 x.c, .int .i64 x.d, .int .i64 x.e] 44)).cell? ⟨b', o' + k * 2 + 1, none⟩ = some (.slice ar q cr) := (hA.cell (p := ⟨b', o' + k * 2 + 1, none⟩) hz').trans f1
        have hz7 : b' < (wr.alloc (.cells #[.int .i64 x.k, .int .i64 x.a, .int .i64 x.b, .int .i64 x.c, .int .i64 x.d, .int .i64 x.e] 44)).heap.size := Nat.lt_of_lt_of_le hz' hA.size
        have hs7 : wr.heap.size < (wr.alloc (.cells #[.int .i64 x.k, .int .i64 x.a, .int .i64 x.b, .int .i64 x.c, .int .i64 x.d, .int .i64 x.e] 44)).heap.size := by simp
        clear hA e0 e1 e2 e3 e4 e5 f0 f1 hws HB HR
        generalize wr.alloc (.cells #[.int .i64 x.k, .int .i64 x.a, .int .i64 x.b, .int .i64 x.c, .int .i64 x.d, .int .i64 x.e] 44) = V at *
        have HCX : Hid (∀ W, Below V.heap.size V W → (W.cell? ⟨wr.heap.size, 0, none⟩ = some (.int .i64 x.k) ∧ W.cell? ⟨wr.heap.size, 1, none⟩ = some (.int .i64 x.a) ∧ W.cell? ⟨wr.heap.size, 2, none⟩ = some (.int .i64 x.b) ∧ W.cell? ⟨wr.heap.size, 3, none⟩ = some (.int .i64 x.c) ∧ W.cell? ⟨wr.heap.size, 4, none⟩ = some (.int .i64 x.d) ∧ W.cell? ⟨wr.heap.size, 5, none⟩ = some (.int .i64 x.e)) ∧ W.cell? ⟨b', o' + k * 2, none⟩ = some (.int .i64 rc) ∧ W.cell? ⟨b', o' + k * 2 + 1, none⟩ = some (.slice ar q cr)) := fun W hW => by
          have y1 := (hW.block _ hs7).trans y0
          exact ⟨⟨by rw [cell_of_row _ _ 0 _ _ (0, 0) y1]; rfl, by rw [cell_of_row _ _ 1 _ _ (0, 0) y1]; rfl, by rw [cell_of_row _ _ 2 _ _ (0, 0) y1]; rfl, by rw [cell_of_row _ _ 3 _ _ (0, 0) y1]; rfl, by rw [cell_of_row _ _ 4 _ _ (0, 0) y1]; rfl, by rw [cell_of_row _ _ 5 _ _ (0, 0) y1]; rfl⟩, (hW.cell (p := ⟨b', o' + k * 2, none⟩) hz7).trans g0, (hW.cell (p := ⟨b', o' + k * 2 + 1, none⟩) hz7).trans g1⟩
        clear y0 g0 g1
        refine wp_region_slots_w 10 [8] (22, 28) [[(7, false)], [(1, false)], [(6, false)], [(24, true), (25, true)], [(26, true)], [(23, true), (27, true)], [(28, true)], [(22, true)], [(22, true)], []] (fun w' => Below V.heap.size V w') (fun w' => Below V.heap.size V w') (fun _ w' => Below V.heap.size V w') (fun _ _ => True) (fun _ => none) (fun _ w w' => Below w.heap.size w w') (by kernel_rfl) (by kernel_rfl) (fun _ _ d _ _ h => by cases d <;> exact h) (by rfl) (Below.refl _ _).drew (by kernel_rfl) (fun _ => trivial) (fun _ => trivial) (by kernel_rfl) (fun _ _ _ _ _ _ _ _ => trivial) (fun _ _ _ _ _ _ h => by cases h) (fun d f w w' h1 h2 => below_step h1 h1.size h2) (fun _ _ _ h => h) (fun _ _ _ h => h) ?_
        apply slotU_eq
        · intro ρ w' ⟨p1, p2, p3⟩ hS _ hn
          obtain ⟨⟨c0, c1, c2, c3, c4, c5⟩, k0, k1⟩ := HCX.out w' hS
          simp at hn
          go_simp
          exact ⟨Below.refl _ _, rfl⟩
        apply slotU_eq
        · intro ρ w' ⟨p1, p2, p3⟩ hS _ hn
          simp at hn
          go_simp
          exact ⟨Below.refl _ _, rfl⟩
        apply slotU_eq
        · intro ρ w' ⟨p1, p2, p3⟩ hS _ hn
          simp at hn
          go_simp
          exact ⟨Below.refl _ _, rfl⟩
        apply slotU_eq
        · intro ρ w' ⟨p1, p2, p3⟩ hS _ hn
          simp at hn
          go_simp
          exact ⟨Below.refl _ _, rfl⟩
        apply slotU_eq
        · intro ρ w' ⟨p1, p2, p3⟩ hS _ hn
          obtain ⟨⟨c0, c1, c2, c3, c4, c5⟩, k0, k1⟩ := HCX.out w' hS
          simp at hn
          go_simp
          exact ⟨Below.refl _ _, rfl⟩
        refine slotU_fact (TupE V.heap.size x bb q ws) (lastsU_belowE (lasts_tupE _ _ _ _ _)) ?_ ?_
        · intro ρ w' ⟨p1, p2, p3⟩ hS _ hn
          simp at hn
          go_simp
          exact got_call (eventOf_any x rc ar q cr ws w' HQ.out hxl HXF.out (HW7.out.below hS)) fun e w'' ⟨s, sh, m, a2, n2, cp, he, hsay, hb⟩ => ⟨_, he, hb, s, sh, m, a2, n2, cp, by rw [HBB.out], fun hbt => by
            obtain ⟨q1, q2, q3, q4, γ, ho⟩ := hsay (by rw [HBB.out]; exact hbt)
            exact ⟨q1, q2, q3, q4, γ, w''.heap.size, Nat.le_refl _, ho.wider hS.size (Nat.le_refl _)⟩⟩
        refine slotU_fact (TupE V.heap.size x bb q ws) (lastsU_belowE (lasts_tupE _ _ _ _ _)) ?_ ?_
        · intro ρ w' ⟨p1, p2, p3⟩ hS _ hn
          simp at hn
          obtain ⟨s, sh, m, a2, n2, cp, x28, hsay⟩ := hn
          go_simp
          exact ⟨Below.refl _ _, s, sh, m, a2, n2, cp, rfl, hsay⟩
        refine slotU_fact (ValE V.heap.size x bb q ws) (lastsU_belowE (lasts_valE _ _ _ _ _)) ?_ ?_
        · intro ρ w' ⟨p1, p2, p3⟩ hS _ hn
          simp at hn
          obtain ⟨s, sh, m, a2, n2, cp, x28, hsay⟩ := hn
          go_simp
          exact ⟨Below.refl _ _, s, sh, m, a2, n2, cp, rfl, hsay⟩
        apply slotU_eq
        · intro ρ w' ⟨p1, p2, p3⟩ hS _ hn
          simp at hn
          obtain ⟨s, sh, m, a2, n2, cp, x28, hsay⟩ := hn
          go_simp
          exact ⟨Below.refl _ _, rfl⟩
        refine slotU_fact (BoxE V.heap.size) (lastsU_belowE (lasts_boxE _)) ?_ ?_
        · intro ρ w' ⟨p1, p2, p3⟩ hS _ hn
          simp at hn
          go_simp
          exact ⟨(Below.refl _ _).alloc (Nat.le_refl _) _, w'.heap.size, rfl, hS.size, heap_alloc_new w' _⟩
        refine slotU_end ?_
        rintro vs w6 hS hF
        simp at hF
        obtain ⟨⟨b8, x8, hb8, hh8⟩, x30, ⟨s, sh, m, a2, n2, cp, x29, hsay⟩, ⟨s', sh', m', a3, n3, cp3, x22, -⟩, ⟨s'', sh'', m'', a4, n4, cp4, x28, -⟩, x27, x26, x25, x24, x23⟩ := hF
        simp only [List.take_succ_cons, List.take_zero, List.drop_succ_cons, List.drop_zero, putAll, x8, x30, x29, x22, x28, x27, x26, x25, x24, x23]
        clear x8 x30 x29 x22 x28 x27 x26 x25 x24 x23
        simp only [Act.put, List.setIfInBounds_toArray, List.set_cons_succ, List.set_cons_zero]
        have d0 := cell_of_row w6 _ 0 _ _ _ hh8
        have d1 := cell_of_row w6 _ 1 _ _ _ hh8
        have d2 := cell_of_row w6 _ 2 _ _ _ hh8
        have d3 := cell_of_row w6 _ 3 _ _ _ hh8
        have fz : ∀ o, w6.frozen? ⟨b8, o, none⟩ = false := fun o => frozen_of_row w6 _ o _ _ hh8
        simp at d0 d1 d2 d3
        have hst : ∀ k, k < w6.heap.size → k ≠ b8 → ((((w6.setCell ⟨b8, 0, none⟩ (.int .i64 s)).setCell ⟨b8, 1, none⟩ (.bool sh)).setCell ⟨b8, 2, none⟩ (.int .i64 m)).setCell ⟨b8, 3, none⟩ (.slice a2 n2 cp)).heap[k]? = w6.heap[k]? := fun k _ hk => (((Below.heap_setCell _ _ _ _ hk).trans (Below.heap_setCell _ _ _ _ hk)).trans (Below.heap_setCell _ _ _ _ hk)).trans (Below.heap_setCell _ _ _ _ hk)
        have hsz6 : w6.heap.size ≤ ((((w6.setCell ⟨b8, 0, none⟩ (.int .i64 s)).setCell ⟨b8, 1, none⟩ (.bool sh)).setCell ⟨b8, 2, none⟩ (.int .i64 m)).setCell ⟨b8, 3, none⟩ (.slice a2 n2 cp)).heap.size := by simp
        have hb8' : Below V.heap.size V ((((w6.setCell ⟨b8, 0, none⟩ (.int .i64 s)).setCell ⟨b8, 1, none⟩ (.bool sh)).setCell ⟨b8, 2, none⟩ (.int .i64 m)).setCell ⟨b8, 3, none⟩ (.slice a2 n2 cp)) := (((hS.setCell (p := ⟨b8, 0, none⟩) hb8 _).setCell (p := ⟨b8, 1, none⟩) hb8 _).setCell (p := ⟨b8, 2, none⟩) hb8 _).setCell (p := ⟨b8, 3, none⟩) hb8 _
        have HSAY : Hid (SayE V.heap.size x bb q ws s sh m a2 n2 ((((w6.setCell ⟨b8, 0, none⟩ (.int .i64 s)).setCell ⟨b8, 1, none⟩ (.bool sh)).setCell ⟨b8, 2, none⟩ (.int .i64 m)).setCell ⟨b8, 3, none⟩ (.slice a2 n2 cp))) := fun e => by
          obtain ⟨q1, q2, q3, q4, γ, hi, q5, q6⟩ := hsay e
          exact ⟨q1, q2, q3, q4, γ, hi, Nat.le_trans q5 hsz6, q6.offE hh8 hsz6 hst⟩
        have HR8 := Lib.hid (HR7.out.below hb8')
        have HB8 := Lib.hid (below_step HB7.out HB7.out.size hb8')
        have v0 : ((((w6.setCell ⟨b8, 0, none⟩ (.int .i64 s)).setCell ⟨b8, 1, none⟩ (.bool sh)).setCell ⟨b8, 2, none⟩ (.int .i64 m)).setCell ⟨b8, 3, none⟩ (.slice a2 n2 cp)).cell? ⟨b8, 0, none⟩ = some (.int .i64 s) := by go_simp
        have v1 : ((((w6.setCell ⟨b8, 0, none⟩ (.int .i64 s)).setCell ⟨b8, 1, none⟩ (.bool sh)).setCell ⟨b8, 2, none⟩ (.int .i64 m)).setCell ⟨b8, 3, none⟩ (.slice a2 n2 cp)).cell? ⟨b8, 1, none⟩ = some (.bool sh) := by go_simp
        have v2 : ((((w6.setCell ⟨b8, 0, none⟩ (.int .i64 s)).setCell ⟨b8, 1, none⟩ (.bool sh)).setCell ⟨b8, 2, none⟩ (.int .i64 m)).setCell ⟨b8, 3, none⟩ (.slice a2 n2 cp)).cell? ⟨b8, 2, none⟩ = some (.int .i64 m) := by go_simp
        have v3 : ((((w6.setCell ⟨b8, 0, none⟩ (.int .i64 s)).setCell ⟨b8, 1, none⟩ (.bool sh)).setCell ⟨b8, 2, none⟩ (.int .i64 m)).setCell ⟨b8, 3, none⟩ (.slice a2 n2 cp)).cell? ⟨b8, 3, none⟩ = some (.slice a2 n2 cp) := by go_simp
        have HV8 : Hid (V.heap.size ≤ ((((w6.setCell ⟨b8, 0, none⟩ (.int .i64 s)).setCell ⟨b8, 1, none⟩ (.bool sh)).setCell ⟨b8, 2, none⟩ (.int .i64 m)).setCell ⟨b8, 3, none⟩ (.slice a2 n2 cp)).heap.size) := hb8'.size
        clear hsay hst hsz6 hb8' hS
        go_upto_region 8 with fail
        generalize (((w6.setCell ⟨b8, 0, none⟩ (.int .i64 s)).setCell ⟨b8, 1, none⟩ (.bool sh)).setCell ⟨b8, 2, none⟩ (.int .i64 m)).setCell ⟨b8, 3, none⟩ (.slice a2 n2 cp) = W8 at *
        clear d0 d1 d2 d3 fz hh8 hb8
        cases bb
        · have HE2 : Hid (evsOf es = evsTo acs rs (k + 1)) := by
            show _ = _
            rw [HTO.out, if_neg (by simp), List.append_nil]
            exact HE.out
          clear HSAY v0 v1 v2 v3
          go_wp2
          exact ⟨⟨k + 1, v, es, by omega, by omega, by go_num, rfl, HE2, HR8, HB8⟩, by simp [intOf]; omega⟩
        · obtain ⟨q1, q2, q3, q4, γ, hi, hhi, hoa⟩ := HSAY.out rfl
          subst q4
          obtain ⟨X, hX⟩ : ∃ X : EvB, X = ⟨s, sh, m, ⟨ws, a2, cp, V.heap.size, hi, γ⟩⟩ := ⟨_, rfl⟩
          have HEV2 : Hid (evOf X = eventE x ws) := by
            show _ = _
            have h4 : (eventE x ws).ws = ws := by
              unfold eventE
              split
              · rfl
              · split <;> rfl
            rw [hX]
            show (⟨s, sh, m, ws⟩ : Ev) = eventE x ws
            rw [q1, q2, q3]
            generalize eventE x ws = E at *
            obtain ⟨E1, E2, E3, E4⟩ := E
            simp only at h4
            rw [h4]
          have HE2 : Hid (evsOf (es ++ [X]) = evsTo acs rs (k + 1)) := by
            show _ = _
            have h := HE.out
            have h2 := HEV2.out
            unfold evsOf at h ⊢
            rw [HTO.out, if_pos rfl, List.map_append, h, List.map_cons, List.map_nil, h2]
          have HBC : Hid (Below W8.heap.size W8 (W8.alloc (.cells #[.int .i64 s, .bool sh, .int .i64 m, .slice a2 n2 cp] 50))) := (Below.refl _ _).alloc (Nat.le_refl _) _
          have HRC := Lib.hid (HR8.out.below HBC.out)
          have HBD := Lib.hid (below_step HB8.out HB8.out.size HBC.out)
          have hwz : w.heap.size ≤ V.heap.size := HB7.out.size
          have HNEW : Hid (w.heap.size ≤ X.b.lo ∧ X.b.hi ≤ (W8.alloc (.cells #[.int .i64 s, .bool sh, .int .i64 m, .slice a2 n2 cp] 50)).heap.size ∧ OwnA (W8.alloc (.cells #[.int .i64 s, .bool sh, .int .i64 m, .slice a2 n2 cp] 50)) X.b.lo X.b.hi X.b.a X.b.ws X.b.γ) := by
            rw [hX]
            exact ⟨hwz, Nat.le_trans hhi HBC.out.size, hoa.below HBC.out⟩
          have HORD : Hid (∀ i, i < es.length → (es.getD i ebz).b.hi ≤ X.b.lo) := fun i hi' => by
            rw [hX]
            exact (HR7.out.laid i hi').2.1
          have HOWN : Hid (∀ g, v.ownBlock = some g → g < X.b.lo) := fun g hg => by
            rw [hX]
            exact (HR7.out.own.lt g hg).2
          have HCL : Hid (∀ j u, (evVals X)[j]? = some u → (W8.alloc (.cells #[.int .i64 s, .bool sh, .int .i64 m, .slice a2 n2 cp] 50)).cell? ((⟨W8.heap.size, 0, none⟩ : Addr).add j) = some u) := by
            intro j u hu
            have e1 : (⟨W8.heap.size, 0, none⟩ : Addr).add j = ⟨W8.heap.size, j, none⟩ := by
              unfold Addr.add
              split
              · rename_i h
                rw [h]
              · simp
            rw [e1, cell_of_row _ _ j _ _ (0, 0) (heap_alloc_new W8 _), ← hu, hX]
            have h3 := HQ.out
            simp [evVals, batV, h3]
          have hszw : w.heap.size ≤ W8.heap.size := HB8.out.size
          have HXE := Lib.hid hX
          clear hX q1 q2 q3 hoa hhi HSAY HBC HB7 HR7 HB8 HR8
          go_wp2_with (at_builtin; refine wpList_append_lies _ (by rfl) _ _ _ (by rfl) w.heap.size 50 i0 (.agg #[.int .i64 0, .bool false, .int .i64 0, .slice none 0 0]) 4 48 Try.underlying26 HI0.out HX0.out.1 HX0.out.2.1 HX0.out.2.2 (by rfl) (by omega) v es.length (es.flatMap evVals) (by rfl) HRC.out.own ⟨W8.heap.size, 0, none⟩ 1 1 (evVals X) (by rfl) (by rfl) HCL.out (evVals_one _) (by omega) (by unfold maxLen; omega) (by omega) (by simp; omega) _ rfl ?_; intro g5 cp5 w9 hown hgrow hg5 _; refine Hid.out ?_)
          refine Lib.hid ?_
          have HR9 := Lib.hid (HRC.out.more HNEW.out HORD.out HOWN.out hown hgrow hg5)
          have HB9 : Hid (Below w.heap.size w w9) := HBD.out.grown hgrow (by simp; omega) fun j hj => (HRC.out.own.lt j hj).1
          have hl9 : (es ++ [X]).length ≤ k + 1 := by simp; omega
          clear hown hgrow hg5 HRC HCL HNEW HORD HOWN HBD v0 v1 v2 v3
          go_wp2
          exact ⟨⟨k + 1, _, _, by omega, hl9, by go_num, rfl, HE2, HR9, HB9⟩, by simp [intOf]; omega⟩
      · obtain rfl : k = n := by omega
        go_wp2
        go_ret
        exact ⟨_, es, rfl, HE.out.trans HEV.out.symm, HR.out, HB.out⟩
  · have hne' : ¬ (n : Int) = (n' : Int) := by omega
    have HEV : Hid (evsA acs rs = []) := by
      show _ = _
      unfold evsA
      rw [if_neg (by omega)]
    clear hn hn'
    go_enter Try.func9, Try.ntmps9
    go_wp2
    go_ret
    exact ⟨_, [], rfl, HEV.out.symm, rowV_nil _ _, Below.refl _ _⟩

end Go.Proofs.Ytobcefkjoojflaa

namespace Go.Proofs.Ytobcefkjoojflaa
open Go.ChangeShapes Go.WideShapes Go.ChangeAt Go.RowKit Go.Joins

def InW (w : World) (lo hi : Nat) (a : Option Addr) (ws : List Wr) : Prop :=
  ∀ w' : World, w.heap.size ≤ w'.heap.size → (∀ k, lo ≤ k → k < hi → w'.heap[k]? = w.heap[k]?) → IsWs w' a ws

theorem InW.isWs {w : World} {lo hi : Nat} {a : Option Addr} {ws : List Wr} (h : InW w lo hi a ws) : IsWs w a ws := h w (Nat.le_refl _) fun _ _ _ => rfl

theorem InW.span {w w' : World} {lo hi : Nat} {a : Option Addr} {ws : List Wr} (h : InW w lo hi a ws) (hs : w.heap.size ≤ w'.heap.size) (hb : ∀ k, lo ≤ k → k < hi → w'.heap[k]? = w.heap[k]?) : InW w' lo hi a ws :=
  fun w2 h1 h2 => h w2 (Nat.le_trans hs h1) fun k k1 k2 => (h2 k k1 k2).trans (hb k k1 k2)

theorem InW.below {w w' : World} {lo hi : Nat} {a : Option Addr} {ws : List Wr} (h : InW w lo hi a ws) (hhi : hi ≤ w.heap.size) (hb : Below w.heap.size w w') : InW w' lo hi a ws :=
  h.span hb.size fun k _ k2 => hb.block k (by omega)

theorem InW.wider {w : World} {lo lo' hi hi' : Nat} {a : Option Addr} {ws : List Wr} (h : InW w lo hi a ws) (h1 : lo' ≤ lo) (h2 : hi ≤ hi') : InW w lo' hi' a ws :=
  fun w2 s1 s2 => h w2 s1 fun k k1 k2 => s2 k (by omega) (by omega)

theorem RowEs.span {w w' : World} {base g cap : Nat} {es : List En} (h : RowEs w base g cap es) (hs : w.heap.size ≤ w'.heap.size) (hb : ∀ k, base ≤ k → k < w.heap.size → w'.heap[k]? = w.heap[k]?) : RowEs w' base g cap es where
  le := h.le
  lt := Nat.lt_of_lt_of_le h.lt hs
  own := by
    refine ⟨h.own.1, ?_⟩
    rcases h.own.2 with h1 | ⟨g', c', cur, h1, h2, h3, h4⟩
    · exact .inl h1
    · exact .inr ⟨g', c', cur, h1, h2, (hb g' h2 (Array.getElem?_eq_some_iff.1 h3).1).trans h3, h4⟩
  deps := fun e he => by
    obtain ⟨q1, q2, q3, q4⟩ := h.deps e he
    have hbk := hb e.g q1 q2
    have e' : ∀ o, w'.cell? ⟨e.g, o, none⟩ = w.cell? ⟨e.g, o, none⟩ := fun o => World.cell?_of_block (a := ⟨e.g, o, none⟩) hbk
    exact ⟨q1, Nat.lt_of_lt_of_le q2 hs, q3, fun j hj => ⟨(e' _).trans (q4 j hj).1, (e' _).trans (q4 j hj).2.1, (e' _).trans (q4 j hj).2.2.1, (e' _).trans (q4 j hj).2.2.2⟩⟩

theorem RowEs.inW {w : World} {base g cap : Nat} {es : List En} (h : RowEs w base g cap es) {ws : List Wr} (hw : es.map (·.x) = ws) (hx : Few ws) : InW w base w.heap.size (some ⟨g, 0, none⟩) ws :=
  fun _ h1 h2 => (h.span h1 h2).isWs hw hx

structure RowX (w : World) (base : Nat) (v : Value) (es : List EvB) : Prop where
  own : w.ownsRow base 50 4 v es.length (es.flatMap evVals)
  laid : ∀ i, i < es.length → base ≤ (es.getD i ebz).b.lo ∧ (es.getD i ebz).b.hi ≤ w.heap.size ∧ (∀ g, v.ownBlock = some g → g < (es.getD i ebz).b.lo ∨ (es.getD i ebz).b.hi ≤ g) ∧ InW w (es.getD i ebz).b.lo (es.getD i ebz).b.hi (es.getD i ebz).b.a (es.getD i ebz).b.ws

theorem rowX_start (w : World) (base : Nat) (hb : base ≤ w.heap.size) : RowX (w.alloc (.cells #[] 50)) base (.slice (some ⟨w.heap.size, 0, none⟩) 0 0) [] where
  own := World.ownsRow_made w #[] 0 hb (by simp [maxLen]) (by simp)
  laid := fun i hi => by simp at hi

theorem RowX.below {w w' : World} {base : Nat} {v : Value} {es : List EvB} (h : RowX w base v es) (hb : Below w.heap.size w w') : RowX w' base v es where
  own := h.own.kept (row := none) ⟨hb.os, hb.tape, hb.output, hb.size, fun k hk _ => hb.block k hk⟩ (by
    by_cases e : v.ownBlock = none
    · exact .inl e
    · exact .inr e)
  laid := fun i hi => ⟨(h.laid i hi).1, Nat.le_trans (h.laid i hi).2.1 hb.size, (h.laid i hi).2.2.1, (h.laid i hi).2.2.2.below (h.laid i hi).2.1 hb⟩

theorem RowX.more {w w5 : World} {base g5 cap5 : Nat} {v : Value} {es : List EvB} {x : EvB} (h : RowX w base v es) (hx : base ≤ x.b.lo ∧ x.b.hi ≤ w.heap.size ∧ InW w x.b.lo x.b.hi x.b.a x.b.ws) (hv : ∀ g, v.ownBlock = some g → g < x.b.lo)
    (hown : w5.ownsRow base 50 4 (.slice (some ⟨g5, 0, none⟩) (es.length + 1) cap5) (es.length + 1) (es.flatMap evVals ++ evVals x)) (hgrow : w.grownBy w5 v.ownBlock) (hg : v.ownBlock = some g5 ∨ g5 = w.heap.size) : RowX w5 base (.slice (some ⟨g5, 0, none⟩) (es.length + 1) cap5) (es ++ [x]) where
  own := by
    rw [List.length_append, List.flatMap_append]
    simpa using hown
  laid := fun i hi => by
    have key : ∀ e : EvB, base ≤ e.b.lo → e.b.hi ≤ w.heap.size → (∀ g, v.ownBlock = some g → g < e.b.lo ∨ e.b.hi ≤ g) → InW w e.b.lo e.b.hi e.b.a e.b.ws → base ≤ e.b.lo ∧ e.b.hi ≤ w5.heap.size ∧ (∀ g, (Value.slice (some ⟨g5, 0, none⟩) (es.length + 1) cap5).ownBlock = some g → g < e.b.lo ∨ e.b.hi ≤ g) ∧ InW w5 e.b.lo e.b.hi e.b.a e.b.ws := fun e h1 h2 h3 h4 => by
      refine ⟨h1, Nat.le_trans h2 hgrow.size, fun g eg => ?_, h4.span hgrow.size fun k hk hk' => hgrow.block k (by omega) fun e => ?_⟩
      · have e5 : g5 = g := by
          simp only [Value.ownBlock, Option.some.injEq] at eg
          exact eg
        subst e5
        rcases hg with hg | hg
        · exact h3 _ hg
        · exact .inr (by omega)
      · have := h3 k e.symm
        omega
    by_cases hl : i < es.length
    · rw [eb_old es x (by omega)]
      obtain ⟨h1, h2, h3, h4⟩ := h.laid i hl
      exact key _ h1 h2 h3 h4
    · have hi' : i = es.length := by simp at hi; omega
      rw [hi', eb_new]
      exact key x hx.1 hx.2.1 (fun g eg => .inl (hv g eg)) hx.2.2

theorem RowX.isEs {w : World} {base : Nat} {v : Value} {es : List EvB} (h : RowX w base v es) : ∃ a cap, v = .slice a es.length cap ∧ IsEs w a (evsOf es) := by
  rcases h.own.2 with ⟨h1, h2⟩ | ⟨g, cap, cur, h1, h2, h3, h4⟩
  · exact ⟨none, 0, by rw [h1, h2], .inl (by rw [List.length_eq_zero_iff.1 h2]; rfl)⟩
  · refine ⟨_, cap, h1, .inr ⟨g, 0, rfl, (Array.getElem?_eq_some_iff.1 h3).1, fun i hi => ?_⟩⟩
    have hi' : i < es.length := by rwa [evsOf_len] at hi
    have hown := h.own
    rw [h1] at hown
    have c : ∀ c, c < 4 → w.cell? ⟨g, 0 + i * 4 + c, none⟩ = some (fieldE (es.getD i ebz) c) := fun c hc => by
      rw [Nat.zero_add, hown.cellAt _ (by omega), evVals_at es i c hi' hc]
    rw [evsOf_get es hi']
    exact ⟨_, _, ⟨c 0 (by omega), c 1 (by omega), c 2 (by omega), c 3 (by omega)⟩, (h.laid i hi').2.2.2.isWs⟩

end Go.Proofs.Ytobcefkjoojflaa
