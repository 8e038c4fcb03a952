import Derived.Test.YtobcefkjoojflaaPack2
import Derived.Test.YtobcefkjoojflaaPack3
import Derived.Lib.Hide
import Derived.Deep.OwnRows
namespace Go.Proofs.Ytobcefkjoojflaa
open Go.ChangeShapes Go.WideShapes Go.ChangeAt Go.RowKit Go.Joins
set_option maxRecDepth 100000
attribute [local go_sem ↓] Go.wp_at_zero Go.wp_at_succ

def IsBs (w : World) (a : Option Addr) (bs : List (List Wr)) : Prop :=
  bs = [] ∨ ∃ b o, a = some ⟨b, o, none⟩ ∧ b < w.heap.size ∧ ∀ i, i < bs.length → ∃ a' cap, w.cell? ⟨b, o + i, none⟩ = some (.slice a' (bs.getD i []).length cap) ∧ IsWs w a' (bs.getD i [])

theorem IsBs.below {w w' : World} {a : Option Addr} {bs : List (List Wr)} (h : IsBs w a bs) (hb : Below w.heap.size w w') : IsBs w' a bs := by
  rcases h with h | ⟨b, o, ha, hlt, hh⟩
  · exact .inl h
  · refine .inr ⟨b, o, ha, Nat.lt_of_lt_of_le hlt hb.size, fun i hi => ?_⟩
    obtain ⟨a', cap, hc, hw⟩ := hh i hi
    exact ⟨a', cap, (hb.cell (p := ⟨b, o + i, none⟩) hlt).trans hc, hw.below hb⟩

theorem IsBs.at {w w' : World} {a : Option Addr} {bs : List (List Wr)} (h : IsBs w a bs) (hb : Below w.heap.size w w') {k : Nat} (hk : k < bs.length) : ∃ b o a' cap, a = some ⟨b, o, none⟩ ∧ b < w'.heap.size ∧ w'.cell? ⟨b, o + k, none⟩ = some (.slice a' (bs.getD k []).length cap) ∧ IsWs w' a' (bs.getD k []) := by
  rcases h.below hb with h | ⟨b, o, ha, hlt, hh⟩
  · subst h
    simp at hk
  · obtain ⟨a', cap, hc, hw⟩ := hh k hk
    exact ⟨b, o, a', cap, ha, hlt, hc, hw⟩

def FewB (bs : List (List Wr)) : Prop := ∀ i, i < bs.length → (bs.getD i []).length ≤ 1048576 ∧ Few (bs.getD i [])

end Go.Proofs.Ytobcefkjoojflaa

namespace Go.Proofs.Ytobcefkjoojflaa
open Go.ChangeShapes Go.WideShapes Go.ChangeAt Go.RowKit Go.Joins
set_option maxRecDepth 100000
attribute [local go_sem ↓] Go.wp_at_zero Go.wp_at_succ

def heftB : List (List Wr) → Nat
  | [] => 0
  | ws :: r => ws.length + bulk ws + heftB r

theorem heft_take : ∀ (bs : List (List Wr)) (k : Nat), k < bs.length → heftB (bs.take (k + 1)) = heftB (bs.take k) + ((bs.getD k []).length + bulk (bs.getD k []))
  | [], k, h => by simp at h
  | b :: r, 0, _ => by simp [heftB]
  | b :: r, k + 1, h => by
    have ih := heft_take r k (by simpa using h)
    simp only [List.take_succ_cons, heftB, List.getD_cons_succ]
    omega

theorem heft_one : ∀ (bs : List (List Wr)) (i : Nat), i < bs.length → (bs.getD i []).length + bulk (bs.getD i []) ≤ heftB bs
  | [], i, h => by simp at h
  | b :: r, 0, _ => by simp [heftB]
  | b :: r, i + 1, h => by
    have ih := heft_one r i (by simpa using h)
    simp only [heftB, List.getD_cons_succ]
    omega

theorem few_heft {bs : List (List Wr)} (h : heftB bs ≤ 1048576) : FewB bs := fun i hi => by
  have := heft_one bs i hi
  exact ⟨by omega, few_of_bulk (by omega)⟩

end Go.Proofs.Ytobcefkjoojflaa

namespace Go.Proofs.Ytobcefkjoojflaa
open Go.ChangeShapes Go.WideShapes Go.ChangeAt Go.RowKit Go.Joins
set_option maxRecDepth 100000
attribute [local go_sem ↓] Go.wp_at_zero Go.wp_at_succ

structure Ev where
  s : Int
  sh : Bool
  m : Int
  ws : List Wr

def evz : Ev := ⟨0, false, 0, []⟩

def evW (es : List Ev) : List (List Wr) := es.map (·.ws)

theorem evW_get (es : List Ev) {i : Nat} (h : i < es.length) : (evW es).getD i [] = (es.getD i evz).ws := by
  simp [evW, List.getD, h]

theorem evW_len (es : List Ev) : (evW es).length = es.length := by simp [evW]

abbrev evV (s : Int) (sh : Bool) (m : Int) (a : Option Addr) (n cap : Nat) : Value := .agg #[.int .i64 s, .bool sh, .int .i64 m, .slice a n cap]

def EvAt (w : World) (b o : Nat) (e : Ev) (a : Option Addr) (cap : Nat) : Prop :=
  w.cell? ⟨b, o, none⟩ = some (.int .i64 e.s) ∧ w.cell? ⟨b, o + 1, none⟩ = some (.bool e.sh) ∧ w.cell? ⟨b, o + 2, none⟩ = some (.int .i64 e.m) ∧ w.cell? ⟨b, o + 3, none⟩ = some (.slice a e.ws.length cap)

theorem EvAt.of_block {w w' : World} {b o : Nat} {e : Ev} {a : Option Addr} {cap : Nat} (h : EvAt w b o e a cap) (hb : w'.heap[b]? = w.heap[b]?) : EvAt w' b o e a cap := by
  have c : ∀ o, w'.cell? ⟨b, o, none⟩ = w.cell? ⟨b, o, none⟩ := fun o => World.cell?_of_block (a := ⟨b, o, none⟩) hb
  exact ⟨(c _).trans h.1, (c _).trans h.2.1, (c _).trans h.2.2.1, (c _).trans h.2.2.2⟩

def IsEs (w : World) (a : Option Addr) (es : List Ev) : Prop :=
  es = [] ∨ ∃ b o, a = some ⟨b, o, none⟩ ∧ b < w.heap.size ∧ ∀ i, i < es.length → ∃ a' cap, EvAt w b (o + i * 4) (es.getD i evz) a' cap ∧ IsWs w a' (es.getD i evz).ws

theorem IsEs.below {w w' : World} {a : Option Addr} {es : List Ev} (h : IsEs w a es) (hb : Below w.heap.size w w') : IsEs w' a es := by
  rcases h with h | ⟨b, o, ha, hlt, hh⟩
  · exact .inl h
  · refine .inr ⟨b, o, ha, Nat.lt_of_lt_of_le hlt hb.size, fun i hi => ?_⟩
    obtain ⟨a', cap, hc, hw⟩ := hh i hi
    exact ⟨a', cap, hc.of_block (hb.block b hlt), hw.below hb⟩

theorem IsEs.at {w w' : World} {a : Option Addr} {es : List Ev} (h : IsEs w a es) (hb : Below w.heap.size w w') {k : Nat} (hk : k < es.length) : ∃ b o a' cap, a = some ⟨b, o, none⟩ ∧ b < w'.heap.size ∧ EvAt w' b (o + k * 4) (es.getD k evz) a' cap ∧ IsWs w' a' (es.getD k evz).ws := by
  rcases h.below hb with h | ⟨b, o, ha, hlt, hh⟩
  · subst h
    simp at hk
  · obtain ⟨a', cap, hc, hw⟩ := hh k hk
    exact ⟨b, o, a', cap, ha, hlt, hc, hw⟩

theorem IsEs.base {w w' : World} {a : Option Addr} {es : List Ev} (h : IsEs w a es) (hb : Below w.heap.size w w') {k : Nat} (hk : k < es.length) : ∃ b o a' cap, a = some ⟨b, o, none⟩ ∧ b < w'.heap.size ∧ EvAt w' b (o + k * 4) (es.getD k evz) a' cap ∧ IsWs w a' (es.getD k evz).ws := by
  rcases h with h | ⟨b, o, ha, hlt, hh⟩
  · subst h
    simp at hk
  · obtain ⟨a', cap, hc, hw⟩ := hh k hk
    exact ⟨b, o, a', cap, ha, Nat.lt_of_lt_of_le hlt hb.size, hc.of_block (hb.block b hlt), hw⟩

def FewE (es : List Ev) : Prop := ∀ i, i < es.length → (es.getD i evz).ws.length ≤ 1048576 ∧ Few (es.getD i evz).ws

theorem fewE_heft {es : List Ev} (h : heftB (evW es) ≤ 1048576) : FewE es := fun i hi => by
  have := few_heft h i (by rw [evW_len]; exact hi)
  rwa [evW_get es hi] at this

set_option maxHeartbeats 2000000 in
theorem eqEvent_same (s : Int) (sh : Bool) (m : Int) (a a' : Option Addr) (n cap cap' : Nat) (ws : List Wr) (w : World) (hn : ws.length = n) (hm : n ≤ 1048576) (hx : Few ws) (h : IsWs w a ws) (h' : IsWs w a' ws) :
    Calls Try.prog 23 #[evV s sh m a n cap, evV s sh m a' n cap'] w fun e w' => e = .returned (.bool true) ∧ Below w.heap.size w w' := by
  have HB : Hid (Below w.heap.size w ((w.alloc (.cells #[.int .i64 s, .bool sh, .int .i64 m, .slice a n cap] 50)).alloc (.cells #[.int .i64 s, .bool sh, .int .i64 m, .slice a' n cap'] 50))) := ((Below.refl _ _).alloc (Nat.le_refl _) _).alloc (by simp) _
  have H := Lib.hid h
  have H' := Lib.hid h'
  have HN := Lib.hid hn
  have HX := Lib.hid hx
  clear h h' hn hx
  go_enter Try.func23, Try.ntmps23
  go_wp2_with fail
  refine (eqWriteS_gen _ _ n _ _ ws _ HN.out hm HX.out (H.out.below HB.out) (H'.out.below HB.out)).mono ?_
  rintro e w1 ⟨rfl, hb⟩
  have HB1 : Hid (Below w.heap.size w w1) := below_step HB.out HB.out.size hb
  clear hb
  go_wp2
  go_ret
  exact ⟨rfl, HB1.out⟩

set_option maxHeartbeats 2000000 in
theorem eqEventS_same (a a' : Option Addr) (n cap cap' : Nat) (es : List Ev) (w : World) (hn : es.length = n) (hm : n ≤ 1048576) (hx : FewE es) (h : IsEs w a es) (h' : IsEs w a' es) :
    Calls Try.prog 10 #[.slice a n cap, .slice a' n cap'] w fun e w' => e = .returned (.bool true) ∧ Below w.heap.size w w' := by
  have H := Lib.hid h
  have H' := Lib.hid h'
  have HN := Lib.hid hn
  have HX := Lib.hid hx
  clear h h' hn hx
  go_enter Try.func10, Try.ntmps10
  go_wp2
  go_loopw [5] (fun i wr => ∃ k : Nat, k ≤ n ∧ i = .int .i64 k ∧ Hid (Below w.heap.size w wr)) (fun i _ => n - (intOf i).toNat)
  case atStart => exact ⟨0, Nat.zero_le _, rfl, Below.refl _ _⟩
  case round =>
    obtain ⟨k, hk, rfl, HB⟩ := hrel
    by_cases hk' : k < n
    · have hkk : k < es.length := by rw [HN.out]; exact hk'
      have i1 : (0 : Int) ≤ (k : Int) := by omega
      have i2 : (k : Int) < (n : Int) := by omega
      obtain ⟨b, o, ad, cp, rfl, hz, e0, hw⟩ := H.out.at HB.out hkk
      obtain ⟨b', o', ad', cp', rfl, hz', f0, hw'⟩ := H'.out.at HB.out hkk
      obtain ⟨hl, hf⟩ := HX.out k hkk
      have HC : Hid (∀ W, Below wr.heap.size wr W → Calls Try.prog 23 #[evV (es.getD k evz).s (es.getD k evz).sh (es.getD k evz).m ad (es.getD k evz).ws.length cp, evV (es.getD k evz).s (es.getD k evz).sh (es.getD k evz).m ad' (es.getD k evz).ws.length cp'] W fun e w' => e = .returned (.bool true) ∧ Below W.heap.size W w') := fun W hW => eqEvent_same _ _ _ _ _ _ _ _ (es.getD k evz).ws W rfl hl hf (hw.below hW) (hw'.below hW)
      have HE : Hid (∀ W, Below wr.heap.size wr W → EvAt W b (o + k * 4) (es.getD k evz) ad cp ∧ EvAt W b' (o' + k * 4) (es.getD k evz) ad' cp') := fun W hW => ⟨e0.of_block (hW.block b hz), f0.of_block (hW.block b' hz')⟩
      clear hw hw' e0 f0 hf hl
      generalize es.getD k evz = y at *
      obtain ⟨ys, yh, ym, yw⟩ := y
      unfold EvAt at HE
      simp only at HC HE
      generalize yw.length = q at *
      go_wp2_with fail
      refine wp_region_slots 10 [[(0, false)], [(5, false)], [(17, true), (18, true)], [(19, true)], [(1, false)], [(5, false)], [(21, true), (22, true)], [(23, true)], [(20, true), (24, true)], [(25, true)]] (fun w' => Below wr.heap.size wr w') (fun w w' => Below w.heap.size w w') (by kernel_rfl) (by kernel_rfl) (by rfl) ((Below.refl _ _).drew) (fun _ _ h hb => below_step h h.size hb) ?_
      iterate 8 (apply slot_eq; · (intro ρ w' ⟨p1, p2, p3⟩ hbl hn; obtain ⟨⟨c1, c2, c3, c4⟩, ⟨d1, d2, d3, d4⟩⟩ := HE.out w' hbl; simp at hn; go_simp; exact ⟨Below.refl _ _, rfl⟩))
      apply slot_eq
      · intro ρ w' ⟨p1, p2, p3⟩ hbl hn
        simp at hn
        obtain ⟨e1, e2⟩ := hn
        go_simp
        exact got_call (HC.out w' hbl) fun e w'' ⟨he, hb⟩ => ⟨_, he, hb, rfl⟩
      apply slot_eq
      · intro ρ w' ⟨p1, p2, p3⟩ hbl hn
        simp at hn
        go_simp
        exact ⟨Below.refl _ _, rfl⟩
      refine slot_end ?_
      intro vs w3 hS hF
      simp at hF
      obtain ⟨h26, -⟩ := hF
      have HB3 := Lib.hid (below_step HB.out HB.out.size hS)
      clear hS
      simp only [List.take_succ_cons, List.take_zero, List.drop_succ_cons, List.drop_zero, putAll, h26]
      clear h26
      simp only [Act.put, List.setIfInBounds_toArray, List.set_cons_succ, List.set_cons_zero]
      go_wp2
      exact ⟨⟨k + 1, by omega, by go_num, HB3⟩, by simp [intOf]; omega⟩
    · have hkk : k = n := by omega
      subst hkk
      go_wp2
      go_ret
      exact ⟨rfl, HB.out⟩

end Go.Proofs.Ytobcefkjoojflaa

namespace Go.Proofs.Ytobcefkjoojflaa
open Go.ChangeShapes Go.WideShapes Go.ChangeAt Go.RowKit Go.Joins
attribute [local go_sem ↓] Go.wp_at_zero Go.wp_at_succ

abbrev Span (lo hi : Nat) (x : Nat) : Prop := lo ≤ x ∧ x < hi

def OwnA (w : World) (lo hi : Nat) (a : Option Addr) (ws : List Wr) (γ : Nat → Nat) : Prop :=
  ws = [] ∨ ∃ b, a = some ⟨b, 0, none⟩ ∧ OwnG w lo b ws γ ∧ b < hi ∧ ∀ i, i < ws.length → 0 < (ws.getD i wz).xs.length → γ i < hi

theorem OwnG.ownA {w : World} {lo b : Nat} {ws : List Wr} {γ : Nat → Nat} (h : OwnG w lo b ws γ) : OwnA w lo w.heap.size (some ⟨b, 0, none⟩) ws γ :=
  .inr ⟨b, rfl, h, h.lt, fun i hi hp => (h.deps i hi hp).2.1⟩

theorem RowG.ownA {w : World} {base : Nat} {v : Value} {es : List EnG} (h : RowG w base v es) {ws : List Wr} (hw : es.map (·.x) = ws) : ∃ a cap n, v = .slice a n cap ∧ ws.length = n ∧ OwnA w base w.heap.size a ws (gammaG es) := by
  obtain ⟨a, cap, h1, h2⟩ := h.form
  subst hw
  refine ⟨a, cap, es.length, h1, by simp, ?_⟩
  rcases h2 with h2 | ⟨b, rfl, h2⟩
  · exact .inl (by simp [h2])
  · exact h2.ownA

theorem OwnA.below {w w' : World} {lo hi : Nat} {a : Option Addr} {ws : List Wr} {γ : Nat → Nat} (h : OwnA w lo hi a ws γ) (hb : Below w.heap.size w w') : OwnA w' lo hi a ws γ := by
  rcases h with h | ⟨b, h1, h2, h3⟩
  · exact .inl h
  · exact .inr ⟨b, h1, h2.below hb, h3⟩

theorem OwnG.only {w w' : World} {S : Nat → Prop} {base b : Nat} {ws : List Wr} {γ : Nat → Nat} (h : OwnG w base b ws γ) (ho : Only S w w') (hS : ∀ x, S x → x < base) : OwnG w' base b ws γ where
  lt := by rw [ho.size]; exact h.lt
  le := h.le
  open_ := fun o => (ho.frozen _).trans (h.open_ o)
  at_ := fun i hi => by
    obtain ⟨a, cap, h1, h2⟩ := h.at_ i hi
    exact ⟨a, cap, h1.of_block (ho.block b fun e => by have := hS b e; have := h.le; omega), h2⟩
  deps := fun i hi hp => by
    obtain ⟨h1, h2, h3, h4, h5⟩ := h.deps i hi hp
    have hb : w'.heap[γ i]? = w.heap[γ i]? := ho.block _ fun e => by have := hS _ e; omega
    have e' : ∀ o, w'.cell? ⟨γ i, o, none⟩ = w.cell? ⟨γ i, o, none⟩ := fun o => World.cell?_of_block (a := ⟨γ i, o, none⟩) hb
    exact ⟨h1, by rw [ho.size]; exact h2, h3, fun j hj => ⟨(e' _).trans (h4 j hj).1, (e' _).trans (h4 j hj).2.1, (e' _).trans (h4 j hj).2.2.1, (e' _).trans (h4 j hj).2.2.2⟩, fun o => (ho.frozen _).trans (h5 o)⟩
  inj := h.inj

theorem OwnA.only {w w' : World} {S : Nat → Prop} {lo hi : Nat} {a : Option Addr} {ws : List Wr} {γ : Nat → Nat} (h : OwnA w lo hi a ws γ) (ho : Only S w w') (hS : ∀ x, S x → x < lo) : OwnA w' lo hi a ws γ := by
  rcases h with h | ⟨b, h1, h2, h3⟩
  · exact .inl h
  · exact .inr ⟨b, h1, h2.only ho hS, h3⟩

theorem OwnA.isWs {w : World} {lo hi : Nat} {a : Option Addr} {ws : List Wr} {γ : Nat → Nat} (h : OwnA w lo hi a ws γ) (hx : Few ws) : IsWs w a ws := by
  rcases h with h | ⟨b, h1, h2, _⟩
  · exact .inl h
  · rw [h1]
    exact h2.isWs hx

def MarkedA (w : World) (a : Option Addr) (ws : List Wr) (γ : Nat → Nat) (k : Int) : Prop :=
  ws = [] ∨ ∃ b, a = some ⟨b, 0, none⟩ ∧ MarkedWs w b ws γ k ∧ b < w.heap.size ∧ ∀ i, i < ws.length → 0 < (ws.getD i wz).xs.length → γ i < w.heap.size

theorem MarkedA.below {w w' : World} {a : Option Addr} {ws : List Wr} {γ : Nat → Nat} {k : Int} (h : MarkedA w a ws γ k) (hb : Below w.heap.size w w') : MarkedA w' a ws γ k := by
  rcases h with h | ⟨b, h1, h2, h3, h4⟩
  · exact .inl h
  · exact .inr ⟨b, h1, h2.below hb h3 h4, Nat.lt_of_lt_of_le h3 hb.size, fun i hi hp => Nat.lt_of_lt_of_le (h4 i hi hp) hb.size⟩

set_option maxHeartbeats 1000000 in
theorem markWriteS_nil (a : Option Addr) (cap : Nat) (k : Int) (w : World) :
    Calls Try.prog 26 #[.slice a 0 cap, .int .i64 k] w fun e w' => e = .returned (.int .i64 k) ∧ w' = w := by
  go_enter Try.func26, Try.ntmps26
  go_wp2
  go_loopw [1, 5] (fun l i wr => i = .int .i64 0 ∧ l = .int .i64 k ∧ wr = w) (fun _ _ _ => 0)
  case atStart => exact ⟨rfl, rfl, rfl⟩
  case round =>
    obtain ⟨rfl, rfl, rfl⟩ := hrel
    go_wp2
    go_ret
    exact ⟨rfl, rfl⟩

set_option maxHeartbeats 1000000 in
theorem heldWriteS_nil (a : Option Addr) (cap : Nat) (k : Int) (w : World) :
    Calls Try.prog 27 #[.slice a 0 cap, .int .i64 k] w fun e w' => e = .returned (.int .i64 k) ∧ w' = w := by
  go_enter Try.func27, Try.ntmps27
  go_wp2
  go_loopw [1, 5] (fun l i wr => i = .int .i64 0 ∧ l = .int .i64 k ∧ wr = w) (fun _ _ _ => 0)
  case atStart => exact ⟨rfl, rfl, rfl⟩
  case round =>
    obtain ⟨rfl, rfl, rfl⟩ := hrel
    go_wp2
    go_ret
    exact ⟨rfl, rfl⟩

theorem markWriteS_all (lo hi n cap : Nat) (a : Option Addr) (k : Int) (ws : List Wr) (γ : Nat → Nat) (w : World) (hn : ws.length = n) (hm : n ≤ 1048576) (hbk : bulk ws ≤ 1048576) (h0 : 0 ≤ k) (h1 : k ≤ 1073741824) (h : OwnA w lo hi a ws γ) :
    Calls Try.prog 26 #[.slice a n cap, .int .i64 k] w fun e w' => e = .returned (.int .i64 (markK ws k n)) ∧ MarkedA w' a ws γ k ∧ Only (Span lo hi) w w' := by
  rcases h with h | ⟨b, rfl, h2, h3, h4⟩
  · subst h
    have hn0 : n = 0 := by rw [← hn]; rfl
    subst hn0
    refine (markWriteS_nil a cap k w).mono ?_
    rintro e w' ⟨rfl, rfl⟩
    exact ⟨by rw [markK_zero], .inl rfl, Only.refl _ _⟩
  · refine (markWriteS_any lo b n cap k ws γ w hn hm hbk h0 h1 h2).mono ?_
    rintro e w' ⟨rfl, h5, h6⟩
    have hS : ∀ x, TakenUp b ws γ x → Span lo hi x := fun x hx => by
      rcases hx with rfl | ⟨i, hi, hp, rfl⟩
      · exact ⟨h2.le, h3⟩
      · exact ⟨(h2.deps i hi hp).1, h4 i hi hp⟩
    refine ⟨rfl, .inr ⟨b, rfl, h5, by rw [h6.size]; exact h2.lt, fun i hi hp => by rw [h6.size]; exact (h2.deps i hi hp).2.1⟩, ?_⟩
    exact ⟨h6.os, h6.tape, h6.output, h6.size, fun x hx => h6.block x fun e => hx (hS x e), h6.frozen⟩

theorem heldWriteS_all (n cap : Nat) (a : Option Addr) (k : Int) (ws : List Wr) (γ : Nat → Nat) (w : World) (hn : ws.length = n) (hm : n ≤ 1048576) (hbk : bulk ws ≤ 1048576) (h0 : 0 ≤ k) (h1 : k ≤ 1073741824) (h : MarkedA w a ws γ k) :
    Calls Try.prog 27 #[.slice a n cap, .int .i64 k] w fun e w' => e = .returned (.int .i64 (markK ws k n)) ∧ w' = w := by
  rcases h with h | ⟨b, rfl, h2, _⟩
  · subst h
    have hn0 : n = 0 := by rw [← hn]; rfl
    subst hn0
    rw [markK_zero]
    exact heldWriteS_nil a cap k w
  · exact heldWriteS_any b n cap k ws γ w hn hm hbk h0 h1 h2

end Go.Proofs.Ytobcefkjoojflaa

namespace Go.Proofs.Ytobcefkjoojflaa
open Go.ChangeShapes Go.WideShapes Go.ChangeAt Go.RowKit Go.Joins
attribute [local go_sem ↓] Go.wp_at_zero Go.wp_at_succ

end Go.Proofs.Ytobcefkjoojflaa

namespace Go.Proofs.Ytobcefkjoojflaa
open Go.ChangeShapes Go.WideShapes Go.ChangeAt Go.RowKit Go.Joins
attribute [local go_sem ↓] Go.wp_at_zero Go.wp_at_succ

end Go.Proofs.Ytobcefkjoojflaa

namespace Go.Proofs.Ytobcefkjoojflaa
open Go.ChangeShapes Go.WideShapes Go.ChangeAt Go.RowKit Go.Joins

theorem RowEs.isWs {w : World} {base g cap : Nat} {es : List En} (h : RowEs w base g cap es) {ws : List Wr} (hw : es.map (·.x) = ws) (hx : Few ws) : IsWs w (some ⟨g, 0, none⟩) ws := (h.holds hw).isWs hx

end Go.Proofs.Ytobcefkjoojflaa

namespace Go.Proofs.Ytobcefkjoojflaa
open Go.ChangeShapes Go.WideShapes Go.ChangeAt Go.RowKit Go.Joins
set_option maxRecDepth 100000
attribute [local go_sem ↓] Go.wp_at_zero Go.wp_at_succ

structure Bat where
  ws : List Wr
  a : Option Addr
  cap : Nat
  lo : Nat
  hi : Nat
  γ : Nat → Nat

def btz : Bat := ⟨[], none, 0, 0, 0, fun _ => 0⟩

def batV (e : Bat) : Value := .slice e.a e.ws.length e.cap

def BatsAt (w : World) (b : Nat) (es : List Bat) : Prop := ∀ i, i < es.length → w.cell? ⟨b, i, none⟩ = some (batV (es.getD i btz))

def OwnB (w : World) (lo hi : Nat) (a : Option Addr) (es : List Bat) : Prop :=
  es = [] ∨ ∃ b, a = some ⟨b, 0, none⟩ ∧ lo ≤ b ∧ b < hi ∧ b < w.heap.size ∧ BatsAt w b es ∧ (∀ i, i < es.length → lo ≤ (es.getD i btz).lo ∧ (es.getD i btz).hi ≤ hi ∧ (b < (es.getD i btz).lo ∨ (es.getD i btz).hi ≤ b) ∧ OwnA w (es.getD i btz).lo (es.getD i btz).hi (es.getD i btz).a (es.getD i btz).ws (es.getD i btz).γ) ∧ ∀ i j, i < j → j < es.length → (es.getD i btz).hi ≤ (es.getD j btz).lo

theorem BatsAt.of_block {w w' : World} {b : Nat} {es : List Bat} (h : BatsAt w b es) (hb : w'.heap[b]? = w.heap[b]?) : BatsAt w' b es := fun i hi => (World.cell?_of_block (a := ⟨b, i, none⟩) hb).trans (h i hi)

theorem OwnB.below {w w' : World} {lo hi : Nat} {a : Option Addr} {es : List Bat} (h : OwnB w lo hi a es) (hb : Below w.heap.size w w') : OwnB w' lo hi a es := by
  rcases h with h | ⟨b, h1, h2, h3, h4, h5, h6, h7⟩
  · exact .inl h
  · exact .inr ⟨b, h1, h2, h3, Nat.lt_of_lt_of_le h4 hb.size, h5.of_block (hb.block b h4), fun i hi => ⟨(h6 i hi).1, (h6 i hi).2.1, (h6 i hi).2.2.1, (h6 i hi).2.2.2.below hb⟩, h7⟩

theorem OwnB.only {w w' : World} {S : Nat → Prop} {lo hi : Nat} {a : Option Addr} {es : List Bat} (h : OwnB w lo hi a es) (ho : Only S w w') (hS : ∀ x, S x → x < lo) : OwnB w' lo hi a es := by
  rcases h with h | ⟨b, h1, h2, h3, h4, h5, h6, h7⟩
  · exact .inl h
  · exact .inr ⟨b, h1, h2, h3, by rw [ho.size]; exact h4, h5.of_block (ho.block b fun e => by have := hS b e; omega), fun i hi => ⟨(h6 i hi).1, (h6 i hi).2.1, (h6 i hi).2.2.1, (h6 i hi).2.2.2.only ho fun x hx => by have := hS x hx; have := (h6 i hi).1; omega⟩, h7⟩

def markKB (es : List Bat) (k : Int) : Int := es.foldl (fun k e => markK e.ws k e.ws.length) k

def MarkedS (w : World) (e : Bat) (k : Int) : Prop := MarkedA w e.a e.ws e.γ k ∧ (e.ws = [] ∨ ∃ b, e.a = some ⟨b, 0, none⟩ ∧ e.lo ≤ b ∧ b < e.hi ∧ ∀ i, i < e.ws.length → 0 < (e.ws.getD i wz).xs.length → e.lo ≤ e.γ i ∧ e.γ i < e.hi)

theorem MarkedWs.of_blocks {w w' : World} {b : Nat} {ws : List Wr} {γ : Nat → Nat} {k : Int} (h : MarkedWs w b ws γ k) (hb : w'.heap[b]? = w.heap[b]?) (h2 : ∀ i, i < ws.length → 0 < (ws.getD i wz).xs.length → w'.heap[γ i]? = w.heap[γ i]?) : MarkedWs w' b ws γ k := by
  intro i hi
  obtain ⟨⟨e0, e1, e2, e3, e4, e5, a, cp, e6, e7⟩, hd⟩ := h i hi
  have c : ∀ o, w'.cell? ⟨b, o, none⟩ = w.cell? ⟨b, o, none⟩ := fun o => World.cell?_of_block (a := ⟨b, o, none⟩) hb
  exact ⟨⟨(c _).trans e0, (c _).trans e1, (c _).trans e2, (c _).trans e3, (c _).trans e4, (c _).trans e5, a, cp, (c _).trans e6, e7⟩, fun hp => (hd hp).of_block (h2 i hi hp)⟩

theorem MarkedS.only {w w' : World} {S : Nat → Prop} {e : Bat} {k : Int} (h : MarkedS w e k) (ho : Only S w w') (hS : ∀ x, S x → x < e.lo ∨ e.hi ≤ x) : MarkedS w' e k := by
  refine ⟨?_, h.2⟩
  rcases h.1 with h1 | ⟨b, h1, h2, h3, h4⟩
  · exact .inl h1
  · rcases h.2 with g | ⟨b', g1, g2, g3, g4⟩
    · exact .inl g
    · obtain rfl : b = b' := by rw [h1] at g1; simpa using g1
      exact .inr ⟨b, h1, h2.of_blocks (ho.block b fun hx => by have := hS b hx; omega) fun i hi hp => ho.block _ fun hx => by have := hS _ hx; have := g4 i hi hp; omega, by rw [ho.size]; exact h3, fun i hi hp => by rw [ho.size]; exact h4 i hi hp⟩

def MarkedB (w : World) (a : Option Addr) (es : List Bat) (k : Int) : Prop := es = [] ∨ ∃ b, a = some ⟨b, 0, none⟩ ∧ b < w.heap.size ∧ BatsAt w b es ∧ ∀ i, i < es.length → MarkedA w (es.getD i btz).a (es.getD i btz).ws (es.getD i btz).γ (markKB (es.take i) k)

theorem MarkedB.below {w w' : World} {a : Option Addr} {es : List Bat} {k : Int} (h : MarkedB w a es k) (hb : Below w.heap.size w w') : MarkedB w' a es k := by
  rcases h with h | ⟨b, h1, h2, h3, h4⟩
  · exact .inl h
  · exact .inr ⟨b, h1, Nat.lt_of_lt_of_le h2 hb.size, h3.of_block (hb.block b h2), fun i hi => (h4 i hi).below hb⟩

theorem OwnA.marked {w w' : World} {e : Bat} {k : Int} (h : OwnA w e.lo e.hi e.a e.ws e.γ) (hm : MarkedA w' e.a e.ws e.γ k) : MarkedS w' e k := by
  refine ⟨hm, ?_⟩
  rcases h with h | ⟨b, h1, h2, h3, h4⟩
  · exact .inl h
  · exact .inr ⟨b, h1, h2.le, h3, fun i hi hp => ⟨(h2.deps i hi hp).1, h4 i hi hp⟩⟩

end Go.Proofs.Ytobcefkjoojflaa

namespace Go.Proofs.Ytobcefkjoojflaa
open Go.ChangeShapes Go.WideShapes Go.ChangeAt Go.RowKit Go.Joins
set_option maxRecDepth 100000
attribute [local go_sem ↓] Go.wp_at_zero Go.wp_at_succ

theorem OwnG.lower {w : World} {base base' b : Nat} {ws : List Wr} {γ : Nat → Nat} (h : OwnG w base b ws γ) (hb : base' ≤ base) : OwnG w base' b ws γ where
  lt := h.lt
  le := Nat.le_trans hb h.le
  open_ := h.open_
  at_ := h.at_
  deps := fun i hi hp => ⟨Nat.le_trans hb (h.deps i hi hp).1, (h.deps i hi hp).2⟩
  inj := h.inj

theorem OwnA.wider {w : World} {lo lo' hi hi' : Nat} {a : Option Addr} {ws : List Wr} {γ : Nat → Nat} (h : OwnA w lo hi a ws γ) (h1 : lo' ≤ lo) (h2 : hi ≤ hi') : OwnA w lo' hi' a ws γ := by
  rcases h with h | ⟨b, q1, q2, q3, q4⟩
  · exact .inl h
  · exact .inr ⟨b, q1, q2.lower h1, Nat.lt_of_lt_of_le q3 h2, fun i hi hp => Nat.lt_of_lt_of_le (q4 i hi hp) h2⟩

theorem OwnA.setLow {w : World} {lo hi : Nat} {a : Option Addr} {ws : List Wr} {γ : Nat → Nat} (h : OwnA w lo hi a ws γ) {b : Nat} (hb : b < lo) (o : Nat) (v : Value) : OwnA (w.setCell ⟨b, o, none⟩ v) lo hi a ws γ :=
  h.only (S := fun x => x = b) (Only.set (S := fun x => x = b) (Only.refl _ w) rfl o v) fun x hx => by rw [hx]; exact hb

theorem get_old (es : List Bat) (x : Bat) {i : Nat} (h : i < es.length) : (es ++ [x]).getD i btz = es.getD i btz := by
  rw [List.getD_eq_getElem?_getD, List.getD_eq_getElem?_getD, List.getElem?_append_left h]

def LaidB (w : World) (B : Nat) (es : List Bat) : Prop := (∀ i, i < es.length → B < (es.getD i btz).lo ∧ (es.getD i btz).hi ≤ w.heap.size ∧ OwnA w (es.getD i btz).lo (es.getD i btz).hi (es.getD i btz).a (es.getD i btz).ws (es.getD i btz).γ) ∧ ∀ i j, i < j → j < es.length → (es.getD i btz).hi ≤ (es.getD j btz).lo

theorem get_new (es : List Bat) (x : Bat) : (es ++ [x]).getD es.length btz = x := by simp [List.getD]

theorem LaidB.more {w w' : World} {B : Nat} {es : List Bat} (h : LaidB w B es) (hb : Below w.heap.size w w') {x : Bat} (h1 : B < x.lo) (h2 : w.heap.size ≤ x.lo) (h3 : x.hi ≤ w'.heap.size) (h4 : OwnA w' x.lo x.hi x.a x.ws x.γ) : LaidB w' B (es ++ [x]) := by
  constructor
  · intro i hi
    by_cases hl : i < es.length
    · rw [get_old es x hl]
      obtain ⟨q1, q2, q3⟩ := h.1 i hl
      exact ⟨q1, Nat.le_trans q2 hb.size, q3.below hb⟩
    · have hi' : i = es.length := by simp at hi; omega
      rw [hi', get_new]
      exact ⟨h1, h3, h4⟩
  · intro i j hij hj
    by_cases hl : j < es.length
    · rw [get_old es x hl, get_old es x (by omega)]
      exact h.2 i j hij hl
    · have hj' : j = es.length := by simp at hj; omega
      rw [hj', get_new, get_old es x (by omega)]
      exact Nat.le_trans (h.1 i (by omega)).2.1 h2

theorem LaidB.setRow {w : World} {B : Nat} {es : List Bat} (h : LaidB w B es) (o : Nat) (v : Value) : LaidB (w.setCell ⟨B, o, none⟩ v) B es :=
  ⟨fun i hi => ⟨(h.1 i hi).1, by simpa using (h.1 i hi).2.1, (h.1 i hi).2.2.setLow (h.1 i hi).1 o v⟩, h.2⟩

end Go.Proofs.Ytobcefkjoojflaa

namespace Go.Proofs.Ytobcefkjoojflaa
open Go.ChangeShapes Go.WideShapes Go.ChangeAt Go.RowKit Go.Joins
set_option maxRecDepth 100000

theorem markK_bd (ws : List Wr) (k : Int) : k ≤ markK ws k ws.length ∧ markK ws k ws.length ≤ k + 6 * ((ws.length + bulk ws : Nat) : Int) := by
  unfold markK
  rw [List.take_length]
  constructor <;> (push_cast; omega)

theorem heft_part : ∀ (bs : List (List Wr)) (i : Nat), heftB (bs.take i) ≤ heftB bs
  | [], i => by simp
  | b :: r, 0 => by simp [heftB]
  | b :: r, i + 1 => by
    have := heft_part r i
    simp only [List.take_succ_cons, heftB]
    omega

end Go.Proofs.Ytobcefkjoojflaa

namespace Go.Proofs.Ytobcefkjoojflaa
open Go.ChangeShapes Go.WideShapes Go.ChangeAt Go.RowKit Go.Joins
set_option maxRecDepth 100000
attribute [local go_sem ↓] Go.wp_at_zero Go.wp_at_succ

theorem toWriteS_ownA (a : Option Addr) (n cap : Nat) (ws : List Wr) (w : World) (hn : ws.length = n) (hm : n ≤ 1048576) (hx : Few ws) (h : IsWs w a ws) :
    Calls Try.prog 31 #[.slice a n cap] w fun e w' => ∃ γ, e = .returned (.slice (some ⟨w.heap.size, 0, none⟩) n n) ∧ OwnA w' w.heap.size w'.heap.size (some ⟨w.heap.size, 0, none⟩) ws γ ∧ Below w.heap.size w w' :=
  (toWriteS_any a n cap ws w hm hn (fun i hi => hx i (by rw [hn]; exact hi)) h).mono fun _ _ ⟨γ, he, ho, hb⟩ => ⟨γ, he, ho.gen.ownA, hb⟩

def put4 (w : World) (b o : Nat) (s : Int) (sh : Bool) (m : Int) (v : Value) : World :=
  (((w.setCell ⟨b, o, none⟩ (.int .i64 s)).setCell ⟨b, o + 1, none⟩ (.bool sh)).setCell ⟨b, o + 2, none⟩ (.int .i64 m)).setCell ⟨b, o + 3, none⟩ v

theorem OwnA.put4 {w : World} {lo hi : Nat} {a : Option Addr} {ws : List Wr} {γ : Nat → Nat} (h : OwnA w lo hi a ws γ) {b : Nat} (hb : b < lo) (o : Nat) (s : Int) (sh : Bool) (m : Int) (v : Value) : OwnA (Proofs.Ytobcefkjoojflaa.put4 w b o s sh m v) lo hi a ws γ :=
  (((h.setLow hb _ _).setLow hb _ _).setLow hb _ _).setLow hb _ _

theorem Below.put4' {B : Nat} {w w' : World} (h : Below B w w') {b : Nat} (hb : B ≤ b) (o : Nat) (s : Int) (sh : Bool) (m : Int) (v : Value) : Below B w (put4 w' b o s sh m v) :=
  (((h.setCell (p := ⟨b, o, none⟩) hb _).setCell (p := ⟨b, o + 1, none⟩) hb _).setCell (p := ⟨b, o + 2, none⟩) hb _).setCell (p := ⟨b, o + 3, none⟩) hb _

theorem put4_size (w : World) (b o : Nat) (s : Int) (sh : Bool) (m : Int) (v : Value) : (put4 w b o s sh m v).heap.size = w.heap.size := by simp [put4]

structure EvB where
  s : Int
  sh : Bool
  m : Int
  b : Bat

def ebz : EvB := ⟨0, false, 0, btz⟩

def evOf (e : EvB) : Ev := ⟨e.s, e.sh, e.m, e.b.ws⟩

def evsOf (es : List EvB) : List Ev := es.map evOf

theorem evsOf_len (es : List EvB) : (evsOf es).length = es.length := by simp [evsOf]

theorem evsOf_get (es : List EvB) {i : Nat} (h : i < es.length) : (evsOf es).getD i evz = evOf (es.getD i ebz) := by simp [evsOf, List.getD, h]

def fieldE (e : EvB) (c : Nat) : Value := if c = 0 then .int .i64 e.s else if c = 1 then .bool e.sh else if c = 2 then .int .i64 e.m else batV e.b

def EvsIn (f : Nat → Value) (es : List EvB) : Prop := ∀ i, i < es.length → ∀ c, c < 4 → f (i * 4 + c) = fieldE (es.getD i ebz) c

def LaidE (w : World) (lo hi b : Nat) (es : List EvB) : Prop := (∀ i, i < es.length → lo ≤ (es.getD i ebz).b.lo ∧ (es.getD i ebz).b.hi ≤ hi ∧ (b < (es.getD i ebz).b.lo ∨ (es.getD i ebz).b.hi ≤ b) ∧ OwnA w (es.getD i ebz).b.lo (es.getD i ebz).b.hi (es.getD i ebz).b.a (es.getD i ebz).b.ws (es.getD i ebz).b.γ) ∧ ∀ i j, i < j → j < es.length → (es.getD i ebz).b.hi ≤ (es.getD j ebz).b.lo

def OwnE (w : World) (lo hi : Nat) (a : Option Addr) (es : List EvB) : Prop :=
  es = [] ∨ ∃ b N f, a = some ⟨b, 0, none⟩ ∧ lo ≤ b ∧ b < hi ∧ w.rowIs b 50 N f ∧ es.length * 4 ≤ N ∧ EvsIn f es ∧ LaidE w lo hi b es

theorem LaidE.below {w w' : World} {lo hi b : Nat} {es : List EvB} (h : LaidE w lo hi b es) (hb : Below w.heap.size w w') : LaidE w' lo hi b es :=
  ⟨fun i hi => ⟨(h.1 i hi).1, (h.1 i hi).2.1, (h.1 i hi).2.2.1, (h.1 i hi).2.2.2.below hb⟩, h.2⟩

theorem OwnE.below {w w' : World} {lo hi : Nat} {a : Option Addr} {es : List EvB} (h : OwnE w lo hi a es) (hb : Below w.heap.size w w') : OwnE w' lo hi a es := by
  rcases h with h | ⟨b, N, f, h1, h2, h3, h4, h5, h6, h7⟩
  · exact .inl h
  · exact .inr ⟨b, N, f, h1, h2, h3, h4.of_block (hb.block b h4.lt), h5, h6, h7.below hb⟩

theorem OwnE.only {w w' : World} {S : Nat → Prop} {lo hi : Nat} {a : Option Addr} {es : List EvB} (h : OwnE w lo hi a es) (ho : Only S w w') (hS : ∀ x, S x → x < lo) : OwnE w' lo hi a es := by
  rcases h with h | ⟨b, N, f, h1, h2, h3, h4, h5, h6, h7⟩
  · exact .inl h
  · exact .inr ⟨b, N, f, h1, h2, h3, h4.of_block (ho.block b fun e => by have := hS b e; omega), h5, h6, fun i hi => ⟨(h7.1 i hi).1, (h7.1 i hi).2.1, (h7.1 i hi).2.2.1, (h7.1 i hi).2.2.2.only ho fun x hx => by have := hS x hx; have := (h7.1 i hi).1; omega⟩, h7.2⟩

theorem EvsIn.at_ {f : Nat → Value} {es : List EvB} (h : EvsIn f es) {w : World} {b t N : Nat} (hr : w.rowIs b t N f) (hN : es.length * 4 ≤ N) {i : Nat} (hi : i < es.length) : EvAt w b (i * 4) (evOf (es.getD i ebz)) (es.getD i ebz).b.a (es.getD i ebz).b.cap := by
  have c : ∀ c, c < 4 → w.cell? ⟨b, i * 4 + c, none⟩ = some (fieldE (es.getD i ebz) c) := fun c hc => by rw [hr.cell (i := i * 4 + c) (by omega), h i hi c hc]
  exact ⟨c 0 (by omega), c 1 (by omega), c 2 (by omega), c 3 (by omega)⟩

theorem OwnE.isEs {w : World} {lo hi : Nat} {a : Option Addr} {es : List EvB} (h : OwnE w lo hi a es) (hx : FewE (evsOf es)) : IsEs w a (evsOf es) := by
  rcases h with h | ⟨b, N, f, h1, h2, h3, h4, h5, h6, h7⟩
  · exact .inl (by rw [h]; rfl)
  · refine .inr ⟨b, 0, h1, h4.lt, fun i hi => ?_⟩
    have hi' : i < es.length := by rwa [evsOf_len] at hi
    have hf := (hx i hi).2
    rw [evsOf_get es hi'] at hf ⊢
    exact ⟨_, _, by rw [Nat.zero_add]; exact h6.at_ h4 h5 hi', (h7.1 i hi').2.2.2.isWs hf⟩

theorem eb_old (es : List EvB) (x : EvB) {i : Nat} (h : i ≠ es.length) : (es ++ [x]).getD i ebz = es.getD i ebz := by
  rw [List.getD_eq_getElem?_getD, List.getD_eq_getElem?_getD]
  by_cases hl : i < es.length
  · rw [List.getElem?_append_left hl]
  · rw [List.getElem?_eq_none (by simp; omega), List.getElem?_eq_none (by omega)]

theorem eb_new (es : List EvB) (x : EvB) : (es ++ [x]).getD es.length ebz = x := by simp [List.getD]

theorem infoEvent : (Try.prog.info? 50).map (fun i => (i.zero, i.size, i.bytes)) = some (some (.agg #[.int .i64 0, .bool false, .int .i64 0, .slice none 0 0]), 4, 48) := by kernel_rfl

theorem LaidE.more {w w' : World} {B : Nat} {es : List EvB} (h : LaidE w B w.heap.size B es) (hB : B < w.heap.size) (hb : Below w.heap.size w w') {x : EvB} (h2 : w.heap.size ≤ x.b.lo) (h3 : x.b.hi ≤ w'.heap.size) (h4 : OwnA w' x.b.lo x.b.hi x.b.a x.b.ws x.b.γ) : LaidE w' B w'.heap.size B (es ++ [x]) := by
  constructor
  · intro i hi
    by_cases hl : i < es.length
    · rw [eb_old es x (by omega)]
      obtain ⟨q1, q2, q3, q4⟩ := h.1 i hl
      exact ⟨q1, Nat.le_trans q2 hb.size, q3, q4.below hb⟩
    · have hi' : i = es.length := by simp at hi; omega
      rw [hi', eb_new]
      exact ⟨by omega, h3, .inl (by omega), h4⟩
  · intro i j hij hj
    by_cases hl : j < es.length
    · rw [eb_old es x (by omega), eb_old es x (by omega)]
      exact h.2 i j hij hl
    · have hj' : j = es.length := by simp at hj; omega
      rw [hj', eb_new, eb_old es x (by omega)]
      exact Nat.le_trans (h.1 i (by omega)).2.1 h2

theorem LaidE.setRow {w : World} {B : Nat} {es : List EvB} (h : LaidE w B w.heap.size B es) (hs : ∀ i, i < es.length → B < (es.getD i ebz).b.lo) (o : Nat) (s : Int) (sh : Bool) (m : Int) (v : Value) : LaidE (put4 w B o s sh m v) B (put4 w B o s sh m v).heap.size B es :=
  ⟨fun i hi => ⟨(h.1 i hi).1, by rw [put4_size]; exact (h.1 i hi).2.1, (h.1 i hi).2.2.1, (h.1 i hi).2.2.2.put4 (hs i hi) o s sh m v⟩, h.2⟩

end Go.Proofs.Ytobcefkjoojflaa

namespace Go.Proofs.Ytobcefkjoojflaa
open Go.ChangeShapes Go.WideShapes Go.ChangeAt Go.RowKit Go.Joins
set_option maxRecDepth 100000
attribute [local go_sem ↓] Go.wp_at_zero Go.wp_at_succ

theorem OwnG.apart {w w' : World} {S : Nat → Prop} {base b : Nat} {ws : List Wr} {γ : Nat → Nat} (h : OwnG w base b ws γ) (ho : Only S w w') (h1 : ¬ S b) (h2 : ∀ i, i < ws.length → 0 < (ws.getD i wz).xs.length → ¬ S (γ i)) : OwnG w' base b ws γ where
  lt := by rw [ho.size]; exact h.lt
  le := h.le
  open_ := fun o => (ho.frozen _).trans (h.open_ o)
  at_ := fun i hi => by
    obtain ⟨a, cap, h3, h4⟩ := h.at_ i hi
    exact ⟨a, cap, h3.of_block (ho.block b h1), h4⟩
  deps := fun i hi hp => by
    obtain ⟨q1, q2, q3, q4, q5⟩ := h.deps i hi hp
    have hb : w'.heap[γ i]? = w.heap[γ i]? := ho.block _ (h2 i hi hp)
    have e' : ∀ o, w'.cell? ⟨γ i, o, none⟩ = w.cell? ⟨γ i, o, none⟩ := fun o => World.cell?_of_block (a := ⟨γ i, o, none⟩) hb
    exact ⟨q1, by rw [ho.size]; exact q2, q3, fun j hj => ⟨(e' _).trans (q4 j hj).1, (e' _).trans (q4 j hj).2.1, (e' _).trans (q4 j hj).2.2.1, (e' _).trans (q4 j hj).2.2.2⟩, fun o => (ho.frozen _).trans (q5 o)⟩
  inj := h.inj

theorem OwnA.apart {w w' : World} {S : Nat → Prop} {lo hi : Nat} {a : Option Addr} {ws : List Wr} {γ : Nat → Nat} (h : OwnA w lo hi a ws γ) (ho : Only S w w') (hS : ∀ x, S x → x < lo ∨ hi ≤ x) : OwnA w' lo hi a ws γ := by
  rcases h with h | ⟨b, h1, h2, h3, h4⟩
  · exact .inl h
  · refine .inr ⟨b, h1, h2.apart ho (fun e => ?_) (fun i hi hp e => ?_), h3, h4⟩
    · have := hS b e
      have := h2.le
      omega
    · have := hS _ e
      have := (h2.deps i hi hp).1
      have := h4 i hi hp
      omega

def markKE (es : List EvB) (k : Int) : Int := es.foldl (fun k e => markK e.b.ws (k + 1 + 1 + 1) e.b.ws.length) k

theorem markKE_take (es : List EvB) (k : Int) {i : Nat} (h : i < es.length) : markKE (es.take (i + 1)) k = markK (es.getD i ebz).b.ws (markKE (es.take i) k + 1 + 1 + 1) (es.getD i ebz).b.ws.length := by
  unfold markKE
  have e : es.take (i + 1) = es.take i ++ [es.getD i ebz] := by
    rw [List.take_add_one, List.getElem?_eq_getElem h]
    simp [List.getD, h]
  rw [e, List.foldl_append]
  rfl

def TameE (es : List EvB) (k : Int) : Prop := (∀ i, i < es.length → (es.getD i ebz).b.ws.length ≤ 1048576 ∧ bulk (es.getD i ebz).b.ws ≤ 1048576) ∧ ∀ i, i ≤ es.length → 0 ≤ markKE (es.take i) k ∧ markKE (es.take i) k ≤ 1073741800

theorem markKE_bd : ∀ (es : List EvB) (k : Int), k ≤ markKE es k ∧ markKE es k ≤ k + 3 * (es.length : Int) + 6 * (heftB (evW (evsOf es)) : Int)
  | [], k => by simp [markKE, evsOf, evW, heftB]
  | e :: r, k => by
    have h1 := markK_bd e.b.ws (k + 1 + 1 + 1)
    have h2 := markKE_bd r (markK e.b.ws (k + 1 + 1 + 1) e.b.ws.length)
    have e1 : markKE (e :: r) k = markKE r (markK e.b.ws (k + 1 + 1 + 1) e.b.ws.length) := rfl
    have e2 : heftB (evW (evsOf (e :: r))) = e.b.ws.length + bulk e.b.ws + heftB (evW (evsOf r)) := rfl
    rw [e1, e2]
    generalize markK e.b.ws (k + 1 + 1 + 1) e.b.ws.length = m at *
    simp only [List.length_cons]
    push_cast at *
    omega

theorem tameE_heft {es : List EvB} {k : Int} (hk : 0 ≤ k) (hk2 : k ≤ 1000000000) (h : heftB (evW (evsOf es)) ≤ 1048576) (hl : es.length ≤ 1048576) : TameE es k := by
  refine ⟨fun i hi => ?_, fun i hi => ?_⟩
  · have h1 := heft_one (evW (evsOf es)) i (by rw [evW_len, evsOf_len]; exact hi)
    rw [evW_get _ (by rw [evsOf_len]; exact hi), evsOf_get es hi] at h1
    simp only [evOf] at h1
    omega
  · have h3 := markKE_bd (es.take i) k
    have h4 : evW (evsOf (es.take i)) = (evW (evsOf es)).take i := by simp [evsOf, evW]
    rw [h4] at h3
    have h5 := heft_part (evW (evsOf es)) i
    have h6 : (es.take i).length ≤ es.length := by simp; omega
    omega

def markF (e : EvB) (k : Int) (c : Nat) : Value := if c = 0 then .int .i64 k else if c = 1 then .bool ((k + 1) % 3 == 0) else if c = 2 then .int .i64 (k + 1 + 1) else batV e.b

def MarkRow (f : Nat → Value) (es : List EvB) (k : Int) (j : Nat) : Prop := ∀ i, i < es.length → ∀ c, c < 4 → f (i * 4 + c) = if i < j then markF (es.getD i ebz) (markKE (es.take i) k) c else fieldE (es.getD i ebz) c

abbrev mark3 (w : World) (b o : Nat) (m : Int) : World := ((w.setCell ⟨b, o, none⟩ (.int .i64 m)).setCell ⟨b, o + 1, none⟩ (.bool ((m + 1) % 3 == 0))).setCell ⟨b, o + 2, none⟩ (.int .i64 (m + 1 + 1))

theorem MarkRow.step {f g : Nat → Value} {es : List EvB} {k m : Int} {j : Nat} (h : MarkRow f es k j) (hm : markKE (es.take j) k = m) (hg : ∀ o, g o = if o = j * 4 + 2 then .int .i64 (m + 1 + 1) else if o = j * 4 + 1 then .bool ((m + 1) % 3 == 0) else if o = j * 4 then .int .i64 m else f o) : MarkRow g es k (j + 1) := by
  intro i hi c hc
  by_cases hij : i = j
  · subst hij
    rw [if_pos (by omega), hm]
    have h4 : c = 0 ∨ c = 1 ∨ c = 2 ∨ c = 3 := by omega
    rcases h4 with rfl | rfl | rfl | rfl
    · rw [hg, if_neg (by omega), if_neg (by omega), if_pos (by omega)]
      rfl
    · rw [hg, if_neg (by omega), if_pos (by omega)]
      rfl
    · rw [hg, if_pos (by omega)]
      rfl
    · rw [hg, if_neg (by omega), if_neg (by omega), if_neg (by omega), h i hi 3 (by omega), if_neg (by omega)]
      rfl
  · rw [hg, if_neg (by omega), if_neg (by omega), if_neg (by omega), h i hi c hc]
    by_cases hl : i < j
    · rw [if_pos hl, if_pos (by omega)]
    · rw [if_neg hl, if_neg (by omega)]

def MarkedE (w : World) (a : Option Addr) (es : List EvB) (k : Int) : Prop := es = [] ∨ ∃ b N f, a = some ⟨b, 0, none⟩ ∧ w.rowIs b 50 N f ∧ es.length * 4 ≤ N ∧ MarkRow f es k es.length ∧ ∀ i, i < es.length → MarkedA w (es.getD i ebz).b.a (es.getD i ebz).b.ws (es.getD i ebz).b.γ (markKE (es.take i) k + 1 + 1 + 1)

theorem MarkedE.below {w w' : World} {a : Option Addr} {es : List EvB} {k : Int} (h : MarkedE w a es k) (hb : Below w.heap.size w w') : MarkedE w' a es k := by
  rcases h with h | ⟨b, N, f, h1, h2, h3, h4, h5⟩
  · exact .inl h
  · exact .inr ⟨b, N, f, h1, h2.of_block (hb.block b h2.lt), h3, h4, fun i hi => (h5 i hi).below hb⟩

set_option maxHeartbeats 4000000 in
theorem markEventS_any (lo hi n cap : Nat) (a : Option Addr) (k : Int) (es : List EvB) (w : World) (hn : es.length = n) (hm : n ≤ 1048576) (ht : TameE es k) (ho : OwnE w lo hi a es) :
    Calls Try.prog 15 #[.slice a n cap, .int .i64 k] w fun e w' => e = .returned (.int .i64 (markKE es k)) ∧ MarkedE w' a es k ∧ Only (Span lo hi) w w' := by
  by_cases hz : n = 0
  · subst hz
    have he : es = [] := List.length_eq_zero_iff.1 hn
    subst he
    clear ho hn ht
    go_enter Try.func15, Try.ntmps15
    go_wp2
    go_loopw [1, 5] (fun l i wr => i = .int .i64 0 ∧ l = .int .i64 k ∧ wr = w) (fun _ _ _ => 0)
    case atStart => exact ⟨rfl, rfl, rfl⟩
    case round =>
      obtain ⟨rfl, rfl, rfl⟩ := hrel
      go_wp2
      go_ret
      exact ⟨rfl, .inl rfl, Only.refl _ _⟩
  · obtain ⟨b, N, f0, rfl, hlo, hhi, hrow, hN, hin, hla, hpw⟩ : ∃ b N f, a = some ⟨b, 0, none⟩ ∧ lo ≤ b ∧ b < hi ∧ w.rowIs b 50 N f ∧ es.length * 4 ≤ N ∧ EvsIn f es ∧ LaidE w lo hi b es := by
      rcases ho with h | h
      · rw [h] at hn
        exact absurd hn.symm hz
      · exact h
    have HROW := Lib.hid hrow
    have HIN : Hid (MarkRow f0 es k 0) := fun i hi c hc => by rw [if_neg (by omega)]; exact hin i hi c hc
    have HOW := Lib.hid hla
    have HPW := Lib.hid hpw
    have HT := Lib.hid ht
    have HN := Lib.hid hn
    clear hin hla hpw ht hn ho hrow
    go_enter Try.func15, Try.ntmps15
    go_wp2
    go_loopw [1, 5] (fun l i wr => ∃ (j : Nat) (f : Nat → Value), j ≤ n ∧ i = .int .i64 j ∧ l = .int .i64 (markKE (es.take j) k) ∧ Hid (wr.rowIs b 50 N f) ∧ Hid (MarkRow f es k j) ∧ Hid (∀ i, i < j → MarkedS wr (es.getD i ebz).b (markKE (es.take i) k + 1 + 1 + 1)) ∧ Hid (∀ i, j ≤ i → i < n → OwnA wr (es.getD i ebz).b.lo (es.getD i ebz).b.hi (es.getD i ebz).b.a (es.getD i ebz).b.ws (es.getD i ebz).b.γ) ∧ Hid (Only (Span lo hi) w wr)) (fun _ i _ => n - (intOf i).toNat)
    case atStart => exact ⟨0, f0, Nat.zero_le _, rfl, rfl, HROW, HIN, fun i h => absurd h (Nat.not_lt_zero i), fun i _ h => (HOW.out i (by rw [HN.out]; exact h)).2.2.2, Only.refl _ _⟩
    case round =>
      obtain ⟨j, f, hj, rfl, rfl, HA, HR, HM, HO, HL⟩ := hrel
      by_cases hj' : j < n
      · have hjj : j < es.length := by rw [HN.out]; exact hj'
        have i1 : (0 : Int) ≤ (j : Int) := by omega
        have i2 : (j : Int) < (n : Int) := by omega
        have hj4 : j * 4 + 3 < N := by omega
        have c0 := HA.out.cell (i := j * 4) (by omega)
        have c1 := HA.out.cell (i := j * 4 + 1) (by omega)
        have c2 := HA.out.cell (i := j * 4 + 2) (by omega)
        have c3 : wr.cell? ⟨b, j * 4 + 3, none⟩ = some (batV (es.getD j ebz).b) := by
          rw [HA.out.cell (i := j * 4 + 3) hj4, HR.out j hjj 3 (by omega), if_neg (by omega)]
          rfl
        have fz := HA.out.frozen
        unfold batV at c3
        obtain ⟨b1, b2⟩ := HT.out.1 j hjj
        obtain ⟨t1, t2⟩ := HT.out.2 j (by omega)
        have HK := Lib.hid (markKE_take es k hjj)
        have HE := Lib.hid (HO.out j (Nat.le_refl _) hj')
        have HI := Lib.hid (HOW.out j hjj)
        obtain ⟨kk, hkk⟩ : ∃ kk, markKE (es.take j) k = kk := ⟨_, rfl⟩
        have HRW : Hid ((mark3 wr b (j * 4) kk).rowIs b 50 N _) := ((HA.out.set (j * 4) _).set (j * 4 + 1) _).set (j * 4 + 2) _
        have HR2 := Lib.hid (HR.out.step hkk fun _ => rfl)
        rw [hkk] at t1 t2 HK ⊢
        have HKK := Lib.hid hkk
        obtain ⟨x, hx⟩ : ∃ x, es.getD j ebz = x := ⟨_, rfl⟩
        rw [hx] at c3 b1 b2 HK HE HI
        have HX := Lib.hid hx
        clear hkk hx HR
        obtain ⟨xs, xsh, xm, xw, xa, xc, xl, xh, xg⟩ := x
        simp only at c3 b1 b2 HK HE HI
        obtain ⟨q, hq⟩ : ∃ q, xw.length = q := ⟨_, rfl⟩
        rw [hq] at c3 b1 HK
        have HQ := Lib.hid hq
        clear hq
        obtain ⟨k3, hk3⟩ : ∃ k3, markK xw (kk + 1 + 1 + 1) q = k3 := ⟨_, rfl⟩
        rw [hk3] at HK
        have HK3 := Lib.hid hk3
        clear hk3
        have HO3 : Hid (Only (fun x => x = b) wr (mark3 wr b (j * 4) kk)) := Only.set (S := fun x => x = b) (Only.set (S := fun x => x = b) (Only.set (S := fun x => x = b) (Only.refl _ wr) rfl _ _) rfl _ _) rfl _ _
        have HE3 : Hid (OwnA (mark3 wr b (j * 4) kk) xl xh xa xw xg) := by
          refine HE.out.apart HO3.out fun x hx => ?_
          have h1 := HI.out.2.2.1
          subst hx
          exact h1
        go_wp2_with fail
        refine (markWriteS_all xl xh q xc xa (kk + 1 + 1 + 1) xw xg _ HQ.out b1 b2 (by omega) (by omega) HE3.out).mono ?_
        rintro e w2 ⟨rfl, hmk, ho⟩
        rw [HK3.out]
        have hnb : ¬ Span xl xh b := fun hx => by have h1 := HI.out.2.2.1; have h2 := hx.1; have h3 := hx.2; omega
        have HA2 := Lib.hid (HRW.out.of_block (ho.block b hnb))
        have HXL : Hid ((es.getD j ebz).b.lo = xl ∧ (es.getD j ebz).b.hi = xh) := by rw [HX.out]; exact ⟨rfl, rfl⟩
        have HM2 : Hid (∀ i, i < j + 1 → MarkedS w2 (es.getD i ebz).b (markKE (es.take i) k + 1 + 1 + 1)) := fun i hi => by
          by_cases hij : i < j
          · exact ((HM.out i hij).only HO3.out fun x hx => by have h1 := (HOW.out i (by omega)).2.2.1; subst hx; exact h1).only ho fun x hx => .inr (by have h1 := HPW.out i j hij hjj; have h2 := hx.1; have h3 := HXL.out.1; omega)
          · obtain rfl : i = j := by omega
            rw [HX.out, HKK.out]
            exact OwnA.marked (e := ⟨xw, xa, xc, xl, xh, xg⟩) HE.out hmk
        have HO2 : Hid (∀ i, j + 1 ≤ i → i < n → OwnA w2 (es.getD i ebz).b.lo (es.getD i ebz).b.hi (es.getD i ebz).b.a (es.getD i ebz).b.ws (es.getD i ebz).b.γ) := fun i h1 h2 => ((HO.out i (by omega) h2).apart HO3.out fun x hx => by have h3 := (HOW.out i (by rw [HN.out]; exact h2)).2.2.1; subst hx; exact h3).only ho fun x hx => by have h3 := HPW.out j i (by omega) (by rw [HN.out]; exact h2); have h4 := hx.2; have h5 := HXL.out.2; omega
        have HL2 : Hid (Only (Span lo hi) w w2) := (HL.out.trans HO3.out fun x hx => by subst hx; exact ⟨hlo, hhi⟩).trans ho fun x hx => ⟨by have := HI.out.1; have := hx.1; omega, by have := HI.out.2.1; have := hx.2; omega⟩
        clear hmk ho HE HE3 HO3 HI HX HXL HM HO HA HL HK3 HQ HKK HRW
        go_wp2
        exact ⟨⟨j + 1, _, by omega, by go_num, by rw [HK.out], HA2, HR2, HM2, HO2, HL2⟩, by simp [intOf]; omega⟩
      · have hjj : j = n := by omega
        subst hjj
        have HF : Hid (es.take j = es) := List.take_of_length_le (by rw [HN.out]; exact Nat.le_refl _)
        rw [HF.out]
        go_wp2
        go_ret
        exact ⟨rfl, .inr ⟨b, N, f, rfl, HA.out, hN, by rw [HN.out]; exact HR.out, fun i hi => (HM.out i (by rw [← HN.out]; exact hi)).1⟩, HL.out⟩

end Go.Proofs.Ytobcefkjoojflaa

namespace Go.Proofs.Ytobcefkjoojflaa
open Go.ChangeShapes Go.WideShapes Go.ChangeAt Go.RowKit Go.Joins

theorem OwnG.span {w w' : World} {base b : Nat} {ws : List Wr} {γ : Nat → Nat} (h : OwnG w base b ws γ) (hs : w.heap.size ≤ w'.heap.size) (h1 : w'.heap[b]? = w.heap[b]?) (h2 : ∀ i, i < ws.length → 0 < (ws.getD i wz).xs.length → w'.heap[γ i]? = w.heap[γ i]?) : OwnG w' base b ws γ where
  lt := Nat.lt_of_lt_of_le h.lt hs
  le := h.le
  open_ := fun o => (World.frozen?_of_block (a := ⟨b, o, none⟩) h1).trans (h.open_ o)
  at_ := fun i hi => by
    obtain ⟨a, cap, h3, h4⟩ := h.at_ i hi
    exact ⟨a, cap, h3.of_block h1, h4⟩
  deps := fun i hi hp => by
    obtain ⟨q1, q2, q3, q4, q5⟩ := h.deps i hi hp
    have hb := h2 i hi hp
    have e' : ∀ o, w'.cell? ⟨γ i, o, none⟩ = w.cell? ⟨γ i, o, none⟩ := fun o => World.cell?_of_block (a := ⟨γ i, o, none⟩) hb
    exact ⟨q1, Nat.lt_of_lt_of_le q2 hs, q3, fun j hj => ⟨(e' _).trans (q4 j hj).1, (e' _).trans (q4 j hj).2.1, (e' _).trans (q4 j hj).2.2.1, (e' _).trans (q4 j hj).2.2.2⟩, fun o => (World.frozen?_of_block (a := ⟨γ i, o, none⟩) hb).trans (q5 o)⟩
  inj := h.inj

theorem OwnA.span {w w' : World} {lo hi : Nat} {a : Option Addr} {ws : List Wr} {γ : Nat → Nat} (h : OwnA w lo hi a ws γ) (hs : w.heap.size ≤ w'.heap.size) (hb : ∀ k, lo ≤ k → k < hi → w'.heap[k]? = w.heap[k]?) : OwnA w' lo hi a ws γ := by
  rcases h with h | ⟨b, h1, h2, h3, h4⟩
  · exact .inl h
  · exact .inr ⟨b, h1, h2.span hs (hb b h2.le h3) fun i hi hp => hb _ (h2.deps i hi hp).1 (h4 i hi hp), h3, h4⟩

def evVals (e : EvB) : List Value := [.int .i64 e.s, .bool e.sh, .int .i64 e.m, batV e.b]

theorem evVals_at : ∀ (es : List EvB) (i c : Nat), i < es.length → c < 4 → (es.flatMap evVals)[i * 4 + c]? = some (fieldE (es.getD i ebz) c)
  | [], i, c, hi, _ => by simp at hi
  | e :: r, 0, c, _, hc => by
    rw [List.flatMap_cons, List.getElem?_append_left (by simp [evVals]; omega)]
    have h4 : c = 0 ∨ c = 1 ∨ c = 2 ∨ c = 3 := by omega
    rcases h4 with rfl | rfl | rfl | rfl <;> simp [evVals, fieldE]
  | e :: r, i + 1, c, hi, hc => by
    rw [List.flatMap_cons, List.getElem?_append_right (by simp [evVals]; omega)]
    have := evVals_at r i c (by simpa using hi) hc
    rw [show (i + 1) * 4 + c - (evVals e).length = i * 4 + c by simp [evVals]; omega, this]
    simp

theorem evVals_one (e : EvB) : ∀ u ∈ evVals e, u.oneCell' = true := by
  intro u h
  simp only [evVals, List.mem_cons, List.not_mem_nil, or_false] at h
  rcases h with rfl | rfl | rfl | rfl <;> rfl

structure RowV (w : World) (base : Nat) (v : Value) (es : List EvB) : Prop where
  own : w.ownsRow base 50 4 v es.length (es.flatMap evVals)
  laid : ∀ i, i < es.length → base ≤ (es.getD i ebz).b.lo ∧ (es.getD i ebz).b.hi ≤ w.heap.size ∧ (∀ g, v.ownBlock = some g → g < (es.getD i ebz).b.lo ∨ (es.getD i ebz).b.hi ≤ g) ∧ OwnA w (es.getD i ebz).b.lo (es.getD i ebz).b.hi (es.getD i ebz).b.a (es.getD i ebz).b.ws (es.getD i ebz).b.γ
  order : ∀ i j, i < j → j < es.length → (es.getD i ebz).b.hi ≤ (es.getD j ebz).b.lo

theorem rowV_nil (w : World) (base : Nat) : RowV w base (.slice none 0 0) [] where
  own := World.ownsRow_nil w base _ _
  laid := fun i hi => by simp at hi
  order := fun i j _ hj => by simp at hj

theorem RowV.below {w w' : World} {base : Nat} {v : Value} {es : List EvB} (h : RowV w base v es) (hb : Below w.heap.size w w') : RowV w' base v es where
  own := h.own.kept (row := none) ⟨hb.os, hb.tape, hb.output, hb.size, fun k hk _ => hb.block k hk⟩ (by
    by_cases e : v.ownBlock = none
    · exact .inl e
    · exact .inr e)
  laid := fun i hi => ⟨(h.laid i hi).1, Nat.le_trans (h.laid i hi).2.1 hb.size, (h.laid i hi).2.2.1, (h.laid i hi).2.2.2.below hb⟩
  order := h.order

theorem RowV.more {w w5 : World} {base g5 cap5 : Nat} {v : Value} {es : List EvB} {x : EvB} (h : RowV w base v es) (hx : base ≤ x.b.lo ∧ x.b.hi ≤ w.heap.size ∧ OwnA w x.b.lo x.b.hi x.b.a x.b.ws x.b.γ) (ho : ∀ i, i < es.length → (es.getD i ebz).b.hi ≤ x.b.lo) (hv : ∀ g, v.ownBlock = some g → g < x.b.lo)
    (hown : w5.ownsRow base 50 4 (.slice (some ⟨g5, 0, none⟩) (es.length + 1) cap5) (es.length + 1) (es.flatMap evVals ++ evVals x)) (hgrow : w.grownBy w5 v.ownBlock) (hg : v.ownBlock = some g5 ∨ g5 = w.heap.size) : RowV w5 base (.slice (some ⟨g5, 0, none⟩) (es.length + 1) cap5) (es ++ [x]) where
  own := by
    rw [List.length_append, List.flatMap_append]
    simpa using hown
  laid := fun i hi => by
    have key : ∀ e : EvB, base ≤ e.b.lo → e.b.hi ≤ w.heap.size → (∀ g, v.ownBlock = some g → g < e.b.lo ∨ e.b.hi ≤ g) → OwnA w e.b.lo e.b.hi e.b.a e.b.ws e.b.γ → base ≤ e.b.lo ∧ e.b.hi ≤ w5.heap.size ∧ (∀ g, (Value.slice (some ⟨g5, 0, none⟩) (es.length + 1) cap5).ownBlock = some g → g < e.b.lo ∨ e.b.hi ≤ g) ∧ OwnA w5 e.b.lo e.b.hi e.b.a e.b.ws e.b.γ := fun e h1 h2 h3 h4 => by
      refine ⟨h1, Nat.le_trans h2 hgrow.size, fun g eg => ?_, h4.span hgrow.size fun k hk hk' => hgrow.block k (by omega) fun e => ?_⟩
      · have e5 : g5 = g := by
          simp only [Value.ownBlock, Option.some.injEq] at eg
          exact eg
        subst e5
        rcases hg with hg | hg
        · exact h3 _ hg
        · exact .inr (by omega)
      · have := h3 k e.symm
        omega
    by_cases hl : i < es.length
    · rw [eb_old es x (by omega)]
      obtain ⟨h1, h2, h3, h4⟩ := h.laid i hl
      exact key _ h1 h2 h3 h4
    · have hi' : i = es.length := by simp at hi; omega
      rw [hi', eb_new]
      exact key x hx.1 hx.2.1 (fun g eg => .inl (hv g eg)) hx.2.2
  order := fun i j hij hj => by
    by_cases hl : j < es.length
    · rw [eb_old es x (by omega), eb_old es x (by omega)]
      exact h.order i j hij hl
    · have hj' : j = es.length := by simp at hj; omega
      rw [hj', eb_new, eb_old es x (by omega)]
      exact ho i (by omega)

theorem RowV.ownE {w : World} {base : Nat} {v : Value} {es : List EvB} (h : RowV w base v es) : ∃ a cap, v = .slice a es.length cap ∧ OwnE w base w.heap.size a es := by
  rcases h.own.2 with ⟨h1, h2⟩ | ⟨g, cap, cur, h1, h2, h3, h4, h5, h6, h7⟩
  · exact ⟨none, 0, by rw [h1, h2], .inl (List.length_eq_zero_iff.1 h2)⟩
  · refine ⟨_, cap, h1, .inr ⟨g, cap * 4, fun i => cur.getD i undef, rfl, h2, (Array.getElem?_eq_some_iff.1 h3).1, ⟨cur, h3, h6, fun i hi => ?_⟩, Nat.mul_le_mul_right _ h4, fun i hi c hc => ?_, fun i hi => ?_, h.order⟩⟩
    · have hi' : i < cur.size := by omega
      simp [Array.getD, hi']
    · have h8 := evVals_at es i c hi hc
      rw [← h7, List.getElem?_take_of_lt (by omega)] at h8
      obtain ⟨hlt, h9⟩ := List.getElem?_eq_some_iff.1 h8
      have hlt' : i * 4 + c < cur.size := by simpa using hlt
      simp only [Array.getD, hlt', dite_true]
      simpa using h9
    · obtain ⟨q1, q2, q3, q4⟩ := h.laid i hi
      exact ⟨q1, q2, q3 g (by rw [h1]; rfl), q4⟩

end Go.Proofs.Ytobcefkjoojflaa

namespace Go.Proofs.Ytobcefkjoojflaa
open Go.ChangeShapes Go.WideShapes Go.ChangeAt Go.RowKit Go.Joins
set_option maxRecDepth 100000
attribute [local go_sem ↓] Go.wp_at_zero Go.wp_at_succ

structure Rp where
  c : Int
  ws : List Wr

def rpz : Rp := ⟨0, []⟩

def rpW (es : List Rp) : List (List Wr) := es.map (·.ws)

theorem rpW_get (es : List Rp) {i : Nat} (h : i < es.length) : (rpW es).getD i [] = (es.getD i rpz).ws := by
  simp [rpW, List.getD, h]

theorem rpW_len (es : List Rp) : (rpW es).length = es.length := by simp [rpW]

abbrev rpV (s : Int) (a : Option Addr) (n cap : Nat) : Value := .agg #[.int .i64 s, .slice a n cap]

def RpAt (w : World) (b o : Nat) (e : Rp) (a : Option Addr) (cap : Nat) : Prop :=
  w.cell? ⟨b, o, none⟩ = some (.int .i64 e.c) ∧ w.cell? ⟨b, o + 1, none⟩ = some (.slice a e.ws.length cap)

theorem RpAt.of_block {w w' : World} {b o : Nat} {e : Rp} {a : Option Addr} {cap : Nat} (h : RpAt w b o e a cap) (hb : w'.heap[b]? = w.heap[b]?) : RpAt w' b o e a cap := by
  have c : ∀ o, w'.cell? ⟨b, o, none⟩ = w.cell? ⟨b, o, none⟩ := fun o => World.cell?_of_block (a := ⟨b, o, none⟩) hb
  exact ⟨(c _).trans h.1, (c _).trans h.2⟩

def IsRs (w : World) (a : Option Addr) (es : List Rp) : Prop :=
  es = [] ∨ ∃ b o, a = some ⟨b, o, none⟩ ∧ b < w.heap.size ∧ ∀ i, i < es.length → ∃ a' cap, RpAt w b (o + i * 2) (es.getD i rpz) a' cap ∧ IsWs w a' (es.getD i rpz).ws

theorem IsRs.below {w w' : World} {a : Option Addr} {es : List Rp} (h : IsRs w a es) (hb : Below w.heap.size w w') : IsRs w' a es := by
  rcases h with h | ⟨b, o, ha, hlt, hh⟩
  · exact .inl h
  · refine .inr ⟨b, o, ha, Nat.lt_of_lt_of_le hlt hb.size, fun i hi => ?_⟩
    obtain ⟨a', cap, hc, hw⟩ := hh i hi
    exact ⟨a', cap, hc.of_block (hb.block b hlt), hw.below hb⟩

theorem IsRs.at {w w' : World} {a : Option Addr} {es : List Rp} (h : IsRs w a es) (hb : Below w.heap.size w w') {k : Nat} (hk : k < es.length) : ∃ b o a' cap, a = some ⟨b, o, none⟩ ∧ b < w'.heap.size ∧ RpAt w' b (o + k * 2) (es.getD k rpz) a' cap ∧ IsWs w' a' (es.getD k rpz).ws := by
  rcases h.below hb with h | ⟨b, o, ha, hlt, hh⟩
  · subst h
    simp at hk
  · obtain ⟨a', cap, hc, hw⟩ := hh k hk
    exact ⟨b, o, a', cap, ha, hlt, hc, hw⟩

theorem IsRs.base {w w' : World} {a : Option Addr} {es : List Rp} (h : IsRs w a es) (hb : Below w.heap.size w w') {k : Nat} (hk : k < es.length) : ∃ b o a' cap, a = some ⟨b, o, none⟩ ∧ b < w'.heap.size ∧ RpAt w' b (o + k * 2) (es.getD k rpz) a' cap ∧ IsWs w a' (es.getD k rpz).ws := by
  rcases h with h | ⟨b, o, ha, hlt, hh⟩
  · subst h
    simp at hk
  · obtain ⟨a', cap, hc, hw⟩ := hh k hk
    exact ⟨b, o, a', cap, ha, Nat.lt_of_lt_of_le hlt hb.size, hc.of_block (hb.block b hlt), hw⟩

def FewR (es : List Rp) : Prop := ∀ i, i < es.length → (es.getD i rpz).ws.length ≤ 1048576 ∧ Few (es.getD i rpz).ws

theorem fewR_heft {es : List Rp} (h : heftB (rpW es) ≤ 1048576) : FewR es := fun i hi => by
  have := few_heft h i (by rw [rpW_len]; exact hi)
  rwa [rpW_get es hi] at this

set_option maxHeartbeats 2000000 in
theorem eqReply_same (s : Int) (a a' : Option Addr) (n cap cap' : Nat) (ws : List Wr) (w : World) (hn : ws.length = n) (hm : n ≤ 1048576) (hx : Few ws) (h : IsWs w a ws) (h' : IsWs w a' ws) :
    Calls Try.prog 25 #[rpV s a n cap, rpV s a' n cap'] w fun e w' => e = .returned (.bool true) ∧ Below w.heap.size w w' := by
  have HB : Hid (Below w.heap.size w ((w.alloc (.cells #[.int .i64 s, .slice a n cap] 47)).alloc (.cells #[.int .i64 s, .slice a' n cap'] 47))) := ((Below.refl _ _).alloc (Nat.le_refl _) _).alloc (by simp) _
  have H := Lib.hid h
  have H' := Lib.hid h'
  have HN := Lib.hid hn
  have HX := Lib.hid hx
  clear h h' hn hx
  go_enter Try.func25, Try.ntmps25
  go_wp2_with fail
  refine (eqWriteS_gen _ _ n _ _ ws _ HN.out hm HX.out (H.out.below HB.out) (H'.out.below HB.out)).mono ?_
  rintro e w1 ⟨rfl, hb⟩
  have HB1 : Hid (Below w.heap.size w w1) := below_step HB.out HB.out.size hb
  clear hb
  go_wp2
  go_ret
  exact ⟨rfl, HB1.out⟩

set_option maxHeartbeats 2000000 in
theorem eqReplyS_same (a a' : Option Addr) (n cap cap' : Nat) (es : List Rp) (w : World) (hn : es.length = n) (hm : n ≤ 1048576) (hx : FewR es) (h : IsRs w a es) (h' : IsRs w a' es) :
    Calls Try.prog 12 #[.slice a n cap, .slice a' n cap'] w fun e w' => e = .returned (.bool true) ∧ Below w.heap.size w w' := by
  have H := Lib.hid h
  have H' := Lib.hid h'
  have HN := Lib.hid hn
  have HX := Lib.hid hx
  clear h h' hn hx
  go_enter Try.func12, Try.ntmps12
  go_wp2
  go_loopw [5] (fun i wr => ∃ k : Nat, k ≤ n ∧ i = .int .i64 k ∧ Hid (Below w.heap.size w wr)) (fun i _ => n - (intOf i).toNat)
  case atStart => exact ⟨0, Nat.zero_le _, rfl, Below.refl _ _⟩
  case round =>
    obtain ⟨k, hk, rfl, HB⟩ := hrel
    by_cases hk' : k < n
    · have hkk : k < es.length := by rw [HN.out]; exact hk'
      have i1 : (0 : Int) ≤ (k : Int) := by omega
      have i2 : (k : Int) < (n : Int) := by omega
      obtain ⟨b, o, ad, cp, rfl, hz, e0, hw⟩ := H.out.at HB.out hkk
      obtain ⟨b', o', ad', cp', rfl, hz', f0, hw'⟩ := H'.out.at HB.out hkk
      obtain ⟨hl, hf⟩ := HX.out k hkk
      have HC : Hid (∀ W, Below wr.heap.size wr W → Calls Try.prog 25 #[rpV (es.getD k rpz).c ad (es.getD k rpz).ws.length cp, rpV (es.getD k rpz).c ad' (es.getD k rpz).ws.length cp'] W fun e w' => e = .returned (.bool true) ∧ Below W.heap.size W w') := fun W hW => eqReply_same _ _ _ _ _ _ (es.getD k rpz).ws W rfl hl hf (hw.below hW) (hw'.below hW)
      have HE : Hid (∀ W, Below wr.heap.size wr W → RpAt W b (o + k * 2) (es.getD k rpz) ad cp ∧ RpAt W b' (o' + k * 2) (es.getD k rpz) ad' cp') := fun W hW => ⟨e0.of_block (hW.block b hz), f0.of_block (hW.block b' hz')⟩
      clear hw hw' e0 f0 hf hl
      generalize es.getD k rpz = y at *
      obtain ⟨ys, yw⟩ := y
      unfold RpAt at HE
      simp only at HC HE
      generalize yw.length = q at *
      go_wp2_with fail
      refine wp_region_slots 10 [[(0, false)], [(5, false)], [(17, true), (18, true)], [(19, true)], [(1, false)], [(5, false)], [(21, true), (22, true)], [(23, true)], [(20, true), (24, true)], [(25, true)]] (fun w' => Below wr.heap.size wr w') (fun w w' => Below w.heap.size w w') (by kernel_rfl) (by kernel_rfl) (by rfl) ((Below.refl _ _).drew) (fun _ _ h hb => below_step h h.size hb) ?_
      iterate 8 (apply slot_eq; · (intro ρ w' ⟨p1, p2, p3⟩ hbl hn; obtain ⟨⟨c1, c2⟩, ⟨d1, d2⟩⟩ := HE.out w' hbl; simp at hn; go_simp; exact ⟨Below.refl _ _, rfl⟩))
      apply slot_eq
      · intro ρ w' ⟨p1, p2, p3⟩ hbl hn
        simp at hn
        obtain ⟨e1, e2⟩ := hn
        go_simp
        exact got_call (HC.out w' hbl) fun e w'' ⟨he, hb⟩ => ⟨_, he, hb, rfl⟩
      apply slot_eq
      · intro ρ w' ⟨p1, p2, p3⟩ hbl hn
        simp at hn
        go_simp
        exact ⟨Below.refl _ _, rfl⟩
      refine slot_end ?_
      intro vs w3 hS hF
      simp at hF
      obtain ⟨h26, -⟩ := hF
      have HB3 := Lib.hid (below_step HB.out HB.out.size hS)
      clear hS
      simp only [List.take_succ_cons, List.take_zero, List.drop_succ_cons, List.drop_zero, putAll, h26]
      clear h26
      simp only [Act.put, List.setIfInBounds_toArray, List.set_cons_succ, List.set_cons_zero]
      go_wp2
      exact ⟨⟨k + 1, by omega, by go_num, HB3⟩, by simp [intOf]; omega⟩
    · have hkk : k = n := by omega
      subst hkk
      go_wp2
      go_ret
      exact ⟨rfl, HB.out⟩

set_option maxHeartbeats 1000000 in
theorem szReply_any (s : Int) (a : Option Addr) (n cap : Nat) (left : Int) (ws : List Wr) (w : World) (h0 : 0 ≤ left) (h1 : left ≤ 1048576) (hm : n ≤ maxLen) (hn : ws.length = n) (h : IsWs w a ws) :
    Calls Try.prog 17 #[rpV s a n cap, .int .i64 left] w fun e w' => ∃ r : Int, e = .returned (.int .i64 r) ∧ (r = -1 ∨ (0 ≤ r ∧ r = left - n - bulk ws)) ∧ Below w.heap.size w w' := by
  have H := Lib.hid h
  have HN := Lib.hid hn
  clear h hn
  have HB : Hid (Below w.heap.size w (w.alloc (.cells #[.int .i64 s, .slice a n cap] 42))) := (Below.refl _ _).alloc (Nat.le_refl _) _
  go_enter Try.func17, Try.ntmps17
  go_wp2_with fail
  refine (szWriteS_any a n cap left ws _ h0 h1 hm HN.out (H.out.below HB.out)).mono ?_
  rintro e w1 ⟨r, rfl, hr, hb⟩
  have HB1 := Lib.hid (below_step HB.out HB.out.size hb)
  clear hb
  rcases hr with rfl | ⟨r0, hr⟩
  · go_wp2
    go_ret
    exact ⟨_, rfl, .inl rfl, HB1.out⟩
  · have HR := Lib.hid hr
    clear hr
    go_wp2
    go_ret
    exact ⟨_, rfl, .inr ⟨r0, HR.out⟩, HB1.out⟩

set_option maxHeartbeats 2000000 in
theorem szReplyS_any (a : Option Addr) (n cap : Nat) (left : Int) (es : List Rp) (w : World) (h0 : 0 ≤ left) (h1 : left ≤ 1048576) (hm : n ≤ maxLen) (hn : es.length = n) (hl : ∀ i, i < es.length → (es.getD i rpz).ws.length ≤ maxLen) (h : IsRs w a es) :
    Calls Try.prog 5 #[.slice a n cap, .int .i64 left] w fun e w' => ∃ r : Int, e = .returned (.int .i64 r) ∧ (r = -1 ∨ (0 ≤ r ∧ r = left - n - heftB (rpW es))) ∧ Below w.heap.size w w' := by
  have H := Lib.hid h
  have HN := Lib.hid hn
  have HLM := Lib.hid hl
  clear h hn hl
  have hm' : n ≤ 9223372036854775807 := hm
  clear hm
  by_cases hbig : left < (n : Int)
  · go_enter Try.func5, Try.ntmps5
    go_wp2
    go_ret
    exact ⟨_, rfl, .inl rfl, Below.refl _ _⟩
  go_enter Try.func5, Try.ntmps5
  go_wp2
  go_loopw [1, 5] (fun t i wr => ∃ (k : Nat) (z : Int), k ≤ n ∧ i = .int .i64 k ∧ t = .int .i64 z ∧ 0 ≤ z ∧ z ≤ 1048576 ∧ Hid (z = left - n - heftB ((rpW es).take k)) ∧ Hid (Below w.heap.size w wr)) (fun _ i _ => n - (intOf i).toNat)
  case atStart => exact ⟨0, left - n, Nat.zero_le _, rfl, rfl, by omega, by omega, by simp [heftB, Hid], Below.refl _ _⟩
  case round =>
    obtain ⟨k, z, hk, rfl, rfl, z0, z1, HZ, HB⟩ := hrel
    by_cases hk' : k < n
    · have hkk : k < es.length := by rw [HN.out]; exact hk'
      have i1 : (0 : Int) ≤ (k : Int) := by omega
      have i2 : (k : Int) < (n : Int) := by omega
      obtain ⟨b, o, ad, cp, rfl, hz, e0, hw⟩ := H.out.at HB.out hkk
      have hlm := HLM.out k hkk
      have HW := Lib.hid hw
      have ht := heft_take (rpW es) k (by rw [rpW_len]; exact hkk)
      rw [rpW_get es hkk] at ht
      have HT := Lib.hid ht
      clear hw ht
      generalize es.getD k rpz = y at *
      obtain ⟨ys, ws⟩ := y
      unfold RpAt at e0
      simp only at e0 HT HW hlm
      obtain ⟨c0, c3⟩ := e0
      obtain ⟨q, hq⟩ : ∃ q, ws.length = q := ⟨_, rfl⟩
      rw [hq] at c3 hlm
      have HQ := Lib.hid hq
      clear hq
      go_wp2_with fail
      refine (szReply_any ys ad q cp z ws _ z0 z1 hlm HQ.out HW.out).mono ?_
      rintro e w2 ⟨r, rfl, hr, hb⟩
      have HB2 := Lib.hid (below_step HB.out HB.out.size hb)
      clear hb
      rcases hr with rfl | ⟨r0, hr⟩
      · go_wp2
        go_ret
        exact ⟨_, rfl, .inl rfl, HB2.out⟩
      · have HR : Hid (r = left - n - heftB ((rpW es).take (k + 1))) := by
          have h1 := HZ.out
          have h2 := HT.out
          have h3 := HQ.out
          show _ = _
          omega
        have r1 : r ≤ 1048576 := by omega
        clear hr
        go_wp2
        exact ⟨⟨k + 1, r, by omega, by go_num, rfl, r0, r1, HR, HB2⟩, by simp [intOf]; omega⟩
    · have hkk : k = n := by omega
      subst hkk
      have HF : Hid (z = left - k - heftB (rpW es)) := by
        have h := HZ.out
        rw [List.take_of_length_le (by rw [rpW_len, HN.out]; exact Nat.le_refl _)] at h
        exact h
      go_wp2
      go_ret
      exact ⟨z, rfl, .inr ⟨z0, HF.out⟩, HB.out⟩

end Go.Proofs.Ytobcefkjoojflaa
