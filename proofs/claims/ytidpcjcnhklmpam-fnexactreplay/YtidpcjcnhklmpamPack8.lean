import Derived.Test.YtidpcjcnhklmpamPack6
import Derived.Test.YtidpcjcnhklmpamPack7
import Derived.Test.YtidpcjcnhklmpamPack5
import Derived.Deep.OwnRows
/- Lists of writes that a call answers, or that are handed to one: marks on them, and what marks leave alone. -/
namespace Go.Proofs.Ytidpcjcnhklmpam
open Go.ChangeShapes Go.WideShapes Go.ChangeAt Go.RowKit Go.Joins
attribute [local go_sem ↓] Go.wp_at_zero Go.wp_at_succ

/-- What was written lies in these blocks. -/
abbrev Span (lo hi : Nat) (x : Nat) : Prop := lo ≤ x ∧ x < hi

/-- A list of writes of one's own, between two block numbers; it may be nil where it is empty. -/
def OwnA (w : World) (lo hi : Nat) (a : Option Addr) (ws : List Wr) (γ : Nat → Nat) : Prop :=
  ws = [] ∨ ∃ b, a = some ⟨b, 0, none⟩ ∧ OwnG w lo b ws γ ∧ b < hi ∧ ∀ i, i < ws.length → 0 < (ws.getD i wz).xs.length → γ i < hi

theorem OwnG.ownA {w : World} {lo b : Nat} {ws : List Wr} {γ : Nat → Nat} (h : OwnG w lo b ws γ) : OwnA w lo w.heap.size (some ⟨b, 0, none⟩) ws γ :=
  .inr ⟨b, rfl, h, h.lt, fun i hi hp => (h.deps i hi hp).2.1⟩

theorem RowG.ownA {w : World} {base : Nat} {v : Value} {es : List EnG} (h : RowG w base v es) {ws : List Wr} (hw : es.map (·.x) = ws) : ∃ a cap n, v = .slice a n cap ∧ ws.length = n ∧ OwnA w base w.heap.size a ws (gammaG es) := by
  obtain ⟨a, cap, h1, h2⟩ := h.form
  subst hw
  refine ⟨a, cap, es.length, h1, by simp, ?_⟩
  rcases h2 with h2 | ⟨b, rfl, h2⟩
  · exact .inl (by simp [h2])
  · exact h2.ownA

theorem OwnA.below {w w' : World} {lo hi : Nat} {a : Option Addr} {ws : List Wr} {γ : Nat → Nat} (h : OwnA w lo hi a ws γ) (hb : Below w.heap.size w w') : OwnA w' lo hi a ws γ := by
  rcases h with h | ⟨b, h1, h2, h3⟩
  · exact .inl h
  · exact .inr ⟨b, h1, h2.below hb, h3⟩

theorem OwnG.only {w w' : World} {S : Nat → Prop} {base b : Nat} {ws : List Wr} {γ : Nat → Nat} (h : OwnG w base b ws γ) (ho : Only S w w') (hS : ∀ x, S x → x < base) : OwnG w' base b ws γ where
  lt := by rw [ho.size]; exact h.lt
  le := h.le
  open_ := fun o => (ho.frozen _).trans (h.open_ o)
  at_ := fun i hi => by
    obtain ⟨a, cap, h1, h2⟩ := h.at_ i hi
    exact ⟨a, cap, h1.of_block (ho.block b fun e => by have := hS b e; have := h.le; omega), h2⟩
  deps := fun i hi hp => by
    obtain ⟨h1, h2, h3, h4, h5⟩ := h.deps i hi hp
    have hb : w'.heap[γ i]? = w.heap[γ i]? := ho.block _ fun e => by have := hS _ e; omega
    have e' : ∀ o, w'.cell? ⟨γ i, o, none⟩ = w.cell? ⟨γ i, o, none⟩ := fun o => World.cell?_of_block (a := ⟨γ i, o, none⟩) hb
    exact ⟨h1, by rw [ho.size]; exact h2, h3, fun j hj => ⟨(e' _).trans (h4 j hj).1, (e' _).trans (h4 j hj).2.1, (e' _).trans (h4 j hj).2.2.1, (e' _).trans (h4 j hj).2.2.2⟩, fun o => (ho.frozen _).trans (h5 o)⟩
  inj := h.inj

theorem OwnA.only {w w' : World} {S : Nat → Prop} {lo hi : Nat} {a : Option Addr} {ws : List Wr} {γ : Nat → Nat} (h : OwnA w lo hi a ws γ) (ho : Only S w w') (hS : ∀ x, S x → x < lo) : OwnA w' lo hi a ws γ := by
  rcases h with h | ⟨b, h1, h2, h3⟩
  · exact .inl h
  · exact .inr ⟨b, h1, h2.only ho hS, h3⟩

theorem OwnA.isWs {w : World} {lo hi : Nat} {a : Option Addr} {ws : List Wr} {γ : Nat → Nat} (h : OwnA w lo hi a ws γ) (hx : Few ws) : IsWs w a ws := by
  rcases h with h | ⟨b, h1, h2, _⟩
  · exact .inl h
  · rw [h1]
    exact h2.isWs hx

/-- A list that is marked. -/
def MarkedA (w : World) (a : Option Addr) (ws : List Wr) (γ : Nat → Nat) (k : Int) : Prop :=
  ws = [] ∨ ∃ b, a = some ⟨b, 0, none⟩ ∧ MarkedWs w b ws γ k ∧ b < w.heap.size ∧ ∀ i, i < ws.length → 0 < (ws.getD i wz).xs.length → γ i < w.heap.size

theorem MarkedA.below {w w' : World} {a : Option Addr} {ws : List Wr} {γ : Nat → Nat} {k : Int} (h : MarkedA w a ws γ k) (hb : Below w.heap.size w w') : MarkedA w' a ws γ k := by
  rcases h with h | ⟨b, h1, h2, h3, h4⟩
  · exact .inl h
  · exact .inr ⟨b, h1, h2.below hb h3 h4, Nat.lt_of_lt_of_le h3 hb.size, fun i hi hp => Nat.lt_of_lt_of_le (h4 i hi hp) hb.size⟩

set_option maxHeartbeats 1000000 in
theorem markWriteS_nil (a : Option Addr) (cap : Nat) (k : Int) (w : World) :
    Calls Try.prog 12 #[.slice a 0 cap, .int .i64 k] w fun e w' => e = .returned (.int .i64 k) ∧ w' = w := by
  go_enter Try.func12, Try.ntmps12
  go_wp2
  go_loopw [1, 5] (fun l i wr => i = .int .i64 0 ∧ l = .int .i64 k ∧ wr = w) (fun _ _ _ => 0)
  case atStart => exact ⟨rfl, rfl, rfl⟩
  case round =>
    obtain ⟨rfl, rfl, rfl⟩ := hrel
    go_wp2
    go_ret
    exact ⟨rfl, rfl⟩

set_option maxHeartbeats 1000000 in
theorem heldWriteS_nil (a : Option Addr) (cap : Nat) (k : Int) (w : World) :
    Calls Try.prog 13 #[.slice a 0 cap, .int .i64 k] w fun e w' => e = .returned (.int .i64 k) ∧ w' = w := by
  go_enter Try.func13, Try.ntmps13
  go_wp2
  go_loopw [1, 5] (fun l i wr => i = .int .i64 0 ∧ l = .int .i64 k ∧ wr = w) (fun _ _ _ => 0)
  case atStart => exact ⟨rfl, rfl, rfl⟩
  case round =>
    obtain ⟨rfl, rfl, rfl⟩ := hrel
    go_wp2
    go_ret
    exact ⟨rfl, rfl⟩

theorem markWriteS_all (lo hi n cap : Nat) (a : Option Addr) (k : Int) (ws : List Wr) (γ : Nat → Nat) (w : World) (hn : ws.length = n) (hm : n ≤ 1048576) (hbk : bulk ws ≤ 1048576) (h0 : 0 ≤ k) (h1 : k ≤ 1073741824) (h : OwnA w lo hi a ws γ) :
    Calls Try.prog 12 #[.slice a n cap, .int .i64 k] w fun e w' => e = .returned (.int .i64 (markK ws k n)) ∧ MarkedA w' a ws γ k ∧ Only (Span lo hi) w w' := by
  rcases h with h | ⟨b, rfl, h2, h3, h4⟩
  · subst h
    have hn0 : n = 0 := by rw [← hn]; rfl
    subst hn0
    refine (markWriteS_nil a cap k w).mono ?_
    rintro e w' ⟨rfl, rfl⟩
    exact ⟨by rw [markK_zero], .inl rfl, Only.refl _ _⟩
  · refine (markWriteS_any lo b n cap k ws γ w hn hm hbk h0 h1 h2).mono ?_
    rintro e w' ⟨rfl, h5, h6⟩
    have hS : ∀ x, TakenUp b ws γ x → Span lo hi x := fun x hx => by
      rcases hx with rfl | ⟨i, hi, hp, rfl⟩
      · exact ⟨h2.le, h3⟩
      · exact ⟨(h2.deps i hi hp).1, h4 i hi hp⟩
    refine ⟨rfl, .inr ⟨b, rfl, h5, by rw [h6.size]; exact h2.lt, fun i hi hp => by rw [h6.size]; exact (h2.deps i hi hp).2.1⟩, ?_⟩
    exact ⟨h6.os, h6.tape, h6.output, h6.size, fun x hx => h6.block x fun e => hx (hS x e), h6.frozen⟩

theorem heldWriteS_all (n cap : Nat) (a : Option Addr) (k : Int) (ws : List Wr) (γ : Nat → Nat) (w : World) (hn : ws.length = n) (hm : n ≤ 1048576) (hbk : bulk ws ≤ 1048576) (h0 : 0 ≤ k) (h1 : k ≤ 1073741824) (h : MarkedA w a ws γ k) :
    Calls Try.prog 13 #[.slice a n cap, .int .i64 k] w fun e w' => e = .returned (.int .i64 (markK ws k n)) ∧ w' = w := by
  rcases h with h | ⟨b, rfl, h2, _⟩
  · subst h
    have hn0 : n = 0 := by rw [← hn]; rfl
    subst hn0
    rw [markK_zero]
    exact heldWriteS_nil a cap k w
  · exact heldWriteS_any b n cap k ws γ w hn hm hbk h0 h1 h2

/-- The keys of dependencies that are right rise from 0 on: there are at most six. -/
theorem depsOk_len {xs : List Dp} (h : depsOkB xs = true) : xs.length ≤ 6 := by
  unfold depsOkB at h
  rw [List.all_eq_true] at h
  have hg : ∀ i, i < xs.length → (i : Int) ≤ (xs.getD i dz).k ∧ (xs.getD i dz).k ≤ 5 := by
    intro i
    induction i with
    | zero =>
      intro hi
      have := h 0 (List.mem_range.2 hi)
      unfold depGood btw at this
      simp only [Bool.and_eq_true, decide_eq_true_eq] at this
      exact ⟨by have := this.1.1; omega, this.1.2⟩
    | succ i ih =>
      intro hi
      have h1 := ih (by omega)
      have := h (i + 1) (List.mem_range.2 hi)
      unfold depGood btw at this
      simp only [Bool.and_eq_true, decide_eq_true_eq] at this
      rcases this.2.2 with h2 | h2
      · omega
      · rw [show i + 1 - 1 = i from rfl] at h2
        exact ⟨by omega, this.1.2⟩
  by_cases h7 : xs.length ≤ 6
  · exact h7
  · have := hg 6 (by omega)
    omega

theorem okW_len {x : Wr} (h : okW x = true) : x.xs.length ≤ 6 := by
  unfold okW writeOkB at h
  simp only [Bool.and_eq_true] at h
  exact depsOk_len h.2.2.2.1

theorem bulk_le {ws : List Wr} {m : Nat} (h : ∀ x ∈ ws, x.xs.length ≤ m) : bulk ws ≤ ws.length * m := by
  induction ws with
  | nil => simp [bulk]
  | cons x r ih =>
    have h1 := h x (by simp)
    have h2 := ih fun y hy => h y (by simp [hy])
    simp only [bulk, List.length_cons]
    rw [Nat.add_mul]
    omega

end Go.Proofs.Ytidpcjcnhklmpam

/- How much a join is. -/
namespace Go.Proofs.Ytidpcjcnhklmpam
open Go.ChangeShapes Go.WideShapes Go.ChangeAt Go.RowKit Go.Joins

theorem joinB_ok (us vs : List Wr) : ∀ x ∈ joinB us vs, okW x = true := by
  intro x hx
  unfold joinB at hx
  split at hx
  · rename_i h
    obtain ⟨_, h2, _⟩ := join_spec vs us ((mapOk_iff us).1 h.1).2
    rcases h2 x hx with h3 | h3
    · exact ((mapOk_iff us).1 h.1).1 x h3
    · exact ((mapOk_iff vs).1 h.2).1 x h3
  · simp at hx

theorem joinB_rise (us vs : List Wr) : Rise (joinB us vs) := by
  unfold joinB
  split
  · rename_i h
    exact (join_spec vs us ((mapOk_iff us).1 h.1).2).1
  · exact List.Pairwise.nil

theorem joinB_mapOk (us vs : List Wr) : mapOkB (joinB us vs) = true := (mapOk_iff _).2 ⟨joinB_ok us vs, joinB_rise us vs⟩

theorem mapOk_len {ws : List Wr} (h : mapOkB ws = true) : ws.length ≤ 6 := by
  have e := told_find ((mapOk_iff ws).1 h).2 (mapOk_keys h)
  rw [← e, ← toldTo_six]
  exact toldTo_len _ 6

theorem mapOk_bulk {ws : List Wr} (h : mapOkB ws = true) : bulk ws ≤ 36 := by
  have h1 := bulk_le (m := 6) fun x hx => okW_len (((mapOk_iff ws).1 h).1 x hx)
  have h2 := mapOk_len h
  omega

theorem joinB_bulk (us vs : List Wr) : bulk (joinB us vs) ≤ 36 := mapOk_bulk (joinB_mapOk us vs)

theorem joinB_len (us vs : List Wr) : (joinB us vs).length ≤ 6 := mapOk_len (joinB_mapOk us vs)

theorem joinB_few (us vs : List Wr) : Few (joinB us vs) := few_of_bulk (by have := joinB_bulk us vs; omega)

/-- The specification's answer, as a list. -/
theorem RowEs.isWs {w : World} {base g cap : Nat} {es : List En} (h : RowEs w base g cap es) {ws : List Wr} (hw : es.map (·.x) = ws) (hx : Few ws) : IsWs w (some ⟨g, 0, none⟩) ws := (h.holds hw).isWs hx

end Go.Proofs.Ytidpcjcnhklmpam

/- What comes of replaying batches: plain facts; the contract of spec.Replay. -/
namespace Go.Proofs.Ytidpcjcnhklmpam
open Go.ChangeShapes Go.WideShapes Go.ChangeAt Go.RowKit Go.Joins
attribute [local go_sem ↓] Go.wp_at_zero Go.wp_at_succ

/-- A write is put if it is WriteOk. -/
def repPut (m : List Wr) (x : Wr) : List Wr := if okW x = true then putW m x else m

def repRun (m : List Wr) (ws : List Wr) : List Wr := ws.foldl repPut m

def replayW (bs : List (List Wr)) : List Wr := bs.foldl repRun []

set_option maxRecDepth 100000 in
theorem one_ok {x : Wr} (h : okW x = true) : mapOkB [x] = true := (mapOk_iff _).2 ⟨fun y hy => by
  have : y = x := by simpa using hy
  rw [this]
  exact h, by simp [Rise]⟩

set_option maxRecDepth 100000 in
theorem repPut_ok {m : List Wr} (h : mapOkB m = true) (x : Wr) : mapOkB (repPut m x) = true := by
  unfold repPut
  split
  · rename_i hx
    have e : joinB m [x] = putW m x := by
      unfold joinB
      rw [if_pos ⟨h, one_ok hx⟩]
      rfl
    rw [← e]
    exact joinB_mapOk _ _
  · exact h

set_option maxRecDepth 100000 in
theorem repRun_ok : ∀ (ws m : List Wr), mapOkB m = true → mapOkB (repRun m ws) = true
  | [], _, h => h
  | x :: r, m, h => repRun_ok r (repPut m x) (repPut_ok h x)

set_option maxRecDepth 100000 in
theorem replay_fold : ∀ (bs : List (List Wr)) (m : List Wr), mapOkB m = true → mapOkB (bs.foldl repRun m) = true
  | [], _, h => h
  | b :: r, m, h => replay_fold r (repRun m b) (repRun_ok b m h)

set_option maxRecDepth 100000 in
theorem replay_ok (bs : List (List Wr)) : mapOkB (replayW bs) = true := replay_fold bs [] rfl

set_option maxRecDepth 100000 in
theorem repRun_take (ws m : List Wr) (k : Nat) (h : k < ws.length) : repRun m (ws.take (k + 1)) = repPut (repRun m (ws.take k)) (ws.getD k wz) := foldl_take repPut ws m k h

set_option maxRecDepth 100000 in
theorem replay_take (bs : List (List Wr)) (k : Nat) (h : k < bs.length) : replayW (bs.take (k + 1)) = repRun (replayW (bs.take k)) (bs.getD k []) := by
  unfold replayW
  have e : bs.take (k + 1) = bs.take k ++ [bs.getD k []] := by
    rw [List.take_add_one, List.getElem?_eq_getElem h]
    simp [List.getD, h]
  rw [e, List.foldl_append]
  rfl

set_option maxRecDepth 100000 in
theorem ok_few {m : List Wr} (h : mapOkB m = true) : Few m := few_of_bulk (by have := mapOk_bulk h; omega)

set_option maxRecDepth 100000 in
set_option maxHeartbeats 4000000 in
theorem specReplay_any (a : Option Addr) (n cap : Nat) (bs : List (List Wr)) (w : World) (hn : bs.length = n) (hm : n ≤ 1048576) (hx : FewB bs) (h : IsBs w a bs) :
    Calls Try.prog 6 #[.slice a n cap] w fun e w' => AnsS w w' e (replayW bs) := by
  have H := Lib.hid h
  have HN := Lib.hid hn
  have HX := Lib.hid hx
  clear h hn hx
  have HR0 : Hid (RowEs (w.alloc (.cells #[] 53)) w.heap.size w.heap.size 0 []) := rowEs_start _ _ (Nat.le_refl _)
  have HB0 : Hid (Below w.heap.size w (w.alloc (.cells #[] 53))) := (Below.refl _ _).alloc (Nat.le_refl _) _
  go_enter Try.func6, Try.ntmps6
  go_wp2
  go_loopw [3, 4] (fun t i wr => ∃ (k L g cp : Nat) (es : List En), k ≤ n ∧ L ≤ 6 ∧ i = .int .i64 k ∧ t = .slice (some ⟨g, 0, none⟩) L cp ∧ Hid (es.length = L) ∧ Hid (es.map (·.x) = replayW (bs.take k)) ∧ Hid (RowEs wr w.heap.size g cp es) ∧ Hid (Below w.heap.size w wr)) (fun _ i _ => n - (intOf i).toNat)
  case atStart => exact ⟨0, 0, w.heap.size, 0, [], Nat.zero_le _, by omega, rfl, rfl, rfl, rfl, HR0, HB0⟩
  case round =>
    clear HR0 HB0
    obtain ⟨k, L, g, cp, es, hk, hL, rfl, rfl, HL, HE, HR, HB⟩ := hrel
    obtain ⟨W1, rfl⟩ : ∃ W1, W1 = wr := ⟨wr, rfl⟩
    by_cases hk' : k < n
    · have hkk : k < bs.length := by rw [HN.out]; exact hk'
      have i1 : (0 : Int) ≤ (k : Int) := by omega
      have i2 : (k : Int) < (n : Int) := by omega
      obtain ⟨b, o, ad, cpd, rfl, hz, e0, hw⟩ := H.out.at HB.out hkk
      obtain ⟨hl, hf⟩ := HX.out k hkk
      have HT := Lib.hid (replay_take bs k hkk)
      have HOK := Lib.hid (replay_ok (bs.take k))
      have HW := Lib.hid hw
      have HF := Lib.hid hf
      clear hw hf
      generalize bs.getD k [] = ws at *
      generalize replayW (bs.take k) = m at *
      obtain ⟨q, hq⟩ : ∃ q, ws.length = q := ⟨_, rfl⟩
      rw [hq] at e0 hl
      have HQ := Lib.hid hq
      clear hq
      go_wp2
      go_loopw [3, 5] (fun t i wq => ∃ (j L g cp : Nat) (es : List En), j ≤ q ∧ L ≤ 6 ∧ i = .int .i64 j ∧ t = .slice (some ⟨g, 0, none⟩) L cp ∧ Hid (es.length = L) ∧ Hid (es.map (·.x) = repRun m (ws.take j)) ∧ Hid (RowEs wq w.heap.size g cp es) ∧ Hid (Below W1.heap.size W1 wq) ∧ Hid (Below w.heap.size w wq)) (fun _ i _ => q - (intOf i).toNat)
      case atStart => exact ⟨0, L, g, cp, es, Nat.zero_le _, hL, rfl, rfl, HL, HE, HR, Below.refl _ _, HB⟩
      case round =>
        clear HL HE HR HB hL
        obtain ⟨j, L, g, cp, es, hj, hL, rfl, rfl, HL, HE, HR, HBR, HB⟩ := hrel
        have e1 := (HBR.out.cell (p := ⟨b, o + k, none⟩) hz).trans e0
        by_cases hj' : j < q
        · have hjj : j < ws.length := by rw [HQ.out]; exact hj'
          have j1 : (0 : Int) ≤ (j : Int) := by omega
          have j2 : (j : Int) < (q : Int) := by omega
          obtain ⟨b2, o2, ad2, cp2, rfl, hz2, ⟨c0, c1, c2, c3, c4, c5, c6⟩, hd⟩ := HW.out.at HBR.out HQ.out hj'
          have hxl := HF.out j hjj
          have HD := Lib.hid hd
          have HS := Lib.hid (repRun_take ws m j hjj)
          have HO := Lib.hid (repRun_ok (ws.take j) m HOK.out)
          have HH : Hid (HoldsWs wr g (repRun m (ws.take j)) (gamma es)) := HR.out.holds HE.out
          have HLL : Hid ((repRun m (ws.take j)).length = L) := by
            rw [← HE.out, List.length_map]
            exact HL
          clear hd
          generalize ws.getD j wz = x at *
          obtain ⟨xk, xc, xs', xq, xv, xd, xx⟩ := x
          simp only at c0 c1 c2 c3 c4 c5 c6 hxl HD
          generalize repRun m (ws.take j) = ms at *
          cases hok : okW ⟨xk, xc, xs', xq, xv, xd, xx⟩
          · have HE2 : Hid (es.map (·.x) = repRun m (ws.take (j + 1))) := by
              show _ = _
              rw [HS.out]
              unfold repPut
              rw [if_neg (by rw [hok]; simp)]
              exact HE.out
            go_wp2_with fail
            refine (specWriteOk_is ⟨xk, xc, xs', xq, xv, xd, xx⟩ false hok ad2 cp2 _ hxl HD.out).mono ?_
            rintro e w2 ⟨rfl, hb⟩
            have HR2 := Lib.hid (HR.out.below hb)
            have HBR2 := Lib.hid (below_step HBR.out HBR.out.size hb)
            have HB2 := Lib.hid (below_step HB.out HB.out.size hb)
            clear hb
            go_wp2
            exact ⟨⟨j + 1, L, g, cp, es, by omega, hL, by go_num, rfl, HL, HE2, HR2, HBR2, HB2⟩, by simp [intOf]; omega⟩
          · have HS2 : Hid (repRun m (ws.take (j + 1)) = putW ms ⟨xk, xc, xs', xq, xv, xd, xx⟩) := by
              show _ = _
              rw [HS.out]
              unfold repPut
              rw [if_pos hok]
            have HO2 : Hid (mapOkB (putW ms ⟨xk, xc, xs', xq, xv, xd, xx⟩) = true) := by
              have := repPut_ok HO.out ⟨xk, xc, xs', xq, xv, xd, xx⟩
              unfold repPut at this
              rw [if_pos hok] at this
              exact this
            go_wp2_with fail
            refine (specWriteOk_is ⟨xk, xc, xs', xq, xv, xd, xx⟩ true hok ad2 cp2 _ hxl HD.out).mono ?_
            rintro e w2 ⟨rfl, hb⟩
            have HR2 := Lib.hid (HR.out.below hb)
            have HBR2 := Lib.hid (below_step HBR.out HBR.out.size hb)
            have HB2 := Lib.hid (below_step HB.out HB.out.size hb)
            have HD2 := Lib.hid (HD.out.below hb)
            have e2 := (hb.cell (p := ⟨b, o + k, none⟩) (Nat.lt_of_lt_of_le hz HBR.out.size)).trans e1
            have d0 := (hb.cell (p := ⟨b2, o2 + j * 7, none⟩) hz2).trans c0
            have d1 := (hb.cell (p := ⟨b2, o2 + j * 7 + 1, none⟩) hz2).trans c1
            have d2 := (hb.cell (p := ⟨b2, o2 + j * 7 + 2, none⟩) hz2).trans c2
            have d3 := (hb.cell (p := ⟨b2, o2 + j * 7 + 3, none⟩) hz2).trans c3
            have d4 := (hb.cell (p := ⟨b2, o2 + j * 7 + 4, none⟩) hz2).trans c4
            have d5 := (hb.cell (p := ⟨b2, o2 + j * 7 + 5, none⟩) hz2).trans c5
            have d6 := (hb.cell (p := ⟨b2, o2 + j * 7 + 6, none⟩) hz2).trans c6
            have HH2 := Lib.hid ((HR2.out.holds HE.out).isWs (ok_few HO.out))
            clear hb hok c0 c1 c2 c3 c4 c5 c6 e1 HR HBR HB HD HH
            go_wp2_with fail
            refine (put_gen _ L cp ms ⟨xk, xc, xs', xq, xv, xd, xx⟩ ad2 cp2 _ HLL.out (by omega) (ok_few HO.out) HH2.out hxl HD2.out).mono ?_
            rintro e w3 ⟨g3, cp3, es3, L3, rfl, hl3, he3, hr3, hb3⟩
            have hL3 : L3 ≤ 6 := by
              have h1 := mapOk_len HO2.out
              rw [← he3, List.length_map, hl3] at h1
              exact h1
            have HL3 := Lib.hid hl3
            have HE3 : Hid (es3.map (·.x) = repRun m (ws.take (j + 1))) := he3.trans HS2.out.symm
            have HR3 := Lib.hid (hr3.mono (Nat.le_trans HB2.out.size (Nat.le_succ _)))
            have HBR3 := Lib.hid (below_step HBR2.out HBR2.out.size hb3)
            have HB3 := Lib.hid (below_step HB2.out HB2.out.size hb3)
            clear hl3 he3 hr3 hb3
            go_wp2
            exact ⟨⟨j + 1, L3, g3, cp3, es3, by omega, hL3, by go_num, rfl, HL3, HE3, HR3, HBR3, HB3⟩, by simp [intOf]; omega⟩
        · have hjj : j = q := by omega
          subst hjj
          have HE2 : Hid (es.map (·.x) = replayW (bs.take (k + 1))) := by
            have h := HE.out
            rw [List.take_of_length_le (by rw [HQ.out]; exact Nat.le_refl _)] at h
            exact h.trans HT.out.symm
          go_wp2
          exact ⟨⟨k + 1, L, g, cp, es, by omega, hL, by go_num, rfl, HL, HE2, HR, HB⟩, by simp [intOf]; omega⟩
    · have hkk : k = n := by omega
      subst hkk
      have HF : Hid (es.map (·.x) = replayW bs) := by
        have h := HE.out
        rw [List.take_of_length_le (by rw [HN.out]; exact Nat.le_refl _)] at h
        exact h
      go_wp2
      go_ret
      exact ⟨g, cp, es, L, rfl, HL.out, HF.out, HR.out, HB.out⟩

end Go.Proofs.Ytidpcjcnhklmpam

/- The contract of impl.Replay. -/
namespace Go.Proofs.Ytidpcjcnhklmpam
open Go.ChangeShapes Go.WideShapes Go.ChangeAt Go.RowKit Go.Joins
attribute [local go_sem ↓] Go.wp_at_zero Go.wp_at_succ

/-- A write is put to the registers if it is WriteOk. -/
def regRep (M : Int → Option Wr) (x : Wr) : Int → Option Wr := if okW x = true then regPut M x else M

def regRun (M : Int → Option Wr) (ws : List Wr) : Int → Option Wr := ws.foldl regRep M

def regAll (bs : List (List Wr)) : Int → Option Wr := bs.foldl regRun (fun _ => none)

set_option maxRecDepth 100000 in
theorem ok_rise {m : List Wr} (h : mapOkB m = true) : Rise m := ((mapOk_iff m).1 h).2

set_option maxRecDepth 100000 in
theorem regRep_find {m : List Wr} (h : mapOkB m = true) (x : Wr) : regRep (findW m) x = findW (repPut m x) := by
  unfold regRep repPut
  split
  · funext key
    rw [find_putW (ok_rise h)]
    unfold regPut
    rfl
  · rfl

set_option maxRecDepth 100000 in
theorem regRun_find : ∀ (ws m : List Wr), mapOkB m = true → regRun (findW m) ws = findW (repRun m ws)
  | [], _, _ => rfl
  | x :: r, m, h => by
    show regRun (regRep (findW m) x) r = findW (repRun (repPut m x) r)
    rw [regRep_find h]
    exact regRun_find r _ (repPut_ok h x)

set_option maxRecDepth 100000 in
theorem regAll_fold : ∀ (bs : List (List Wr)) (m : List Wr), mapOkB m = true → bs.foldl regRun (findW m) = findW (bs.foldl repRun m)
  | [], _, _ => rfl
  | b :: r, m, h => by
    show r.foldl regRun (regRun (findW m) b) = findW (r.foldl repRun (repRun m b))
    rw [regRun_find b m h]
    exact regAll_fold r _ (repRun_ok b m h)

set_option maxRecDepth 100000 in
theorem regAll_find (bs : List (List Wr)) : regAll bs = findW (replayW bs) := regAll_fold bs [] rfl

set_option maxRecDepth 100000 in
/-- What the registers tell in the end is the map that comes of it. -/
theorem told_replay (bs : List (List Wr)) : toldM (regAll bs) = replayW bs := by
  rw [regAll_find]
  exact told_find (ok_rise (replay_ok bs)) (mapOk_keys (replay_ok bs))

set_option maxRecDepth 100000 in
theorem regRun_take (ws : List Wr) (M : Int → Option Wr) (k : Nat) (h : k < ws.length) : regRun M (ws.take (k + 1)) = regRep (regRun M (ws.take k)) (ws.getD k wz) := foldl_take regRep ws M k h

set_option maxRecDepth 100000 in
theorem regAll_take (bs : List (List Wr)) (k : Nat) (h : k < bs.length) : regAll (bs.take (k + 1)) = regRun (regAll (bs.take k)) (bs.getD k []) := by
  unfold regAll
  have e : bs.take (k + 1) = bs.take k ++ [bs.getD k []] := by
    rw [List.take_add_one, List.getElem?_eq_getElem h]
    simp [List.getD, h]
  rw [e, List.foldl_append]
  rfl

set_option maxRecDepth 100000 in
theorem IsBs.base {w w' : World} {a : Option Addr} {bs : List (List Wr)} (h : IsBs w a bs) (hb : Below w.heap.size w w') {k : Nat} (hk : k < bs.length) : ∃ b o a' cap, a = some ⟨b, o, none⟩ ∧ b < w'.heap.size ∧ w'.cell? ⟨b, o + k, none⟩ = some (.slice a' (bs.getD k []).length cap) ∧ IsWs w a' (bs.getD k []) := by
  rcases h with h | ⟨b, o, ha, hlt, hh⟩
  · subst h
    simp at hk
  · obtain ⟨a', cap, hc, hw⟩ := hh k hk
    exact ⟨b, o, a', cap, ha, Nat.lt_of_lt_of_le hlt hb.size, (hb.cell (p := ⟨b, o + k, none⟩) hlt).trans hc, hw⟩

set_option maxRecDepth 100000 in
theorem implWriteOk_is (x : Wr) (r : Bool) (h : okW x = r) (ad : Option Addr) (cp : Nat) (w : World) (hl : x.xs.length ≤ 1048576) (hd : IsDeps w ad x.xs) :
    Calls Try.prog 23 #[wrOf x ad cp] w fun e w' => e = .returned (.bool r) ∧ Below w.heap.size w w' := by
  subst h
  exact implWriteOk_gen x.k x.c x.s x.q x.v x.de ad x.xs _ cp w rfl hl hd

set_option maxRecDepth 100000 in
set_option maxHeartbeats 8000000 in
theorem implReplay_any (a : Option Addr) (n cap : Nat) (bs : List (List Wr)) (w : World) (hn : bs.length = n) (hm : n ≤ 1048576) (hx : FewB bs) (h : IsBs w a bs) :
    Calls Try.prog 8 #[.slice a n cap] w fun e w' => ∃ v es, e = .returned v ∧ es.map (·.x) = replayW bs ∧ RowG w' w.heap.size v es ∧ Below w.heap.size w w' := by
  have H := Lib.hid h
  have HN := Lib.hid hn
  have HX := Lib.hid hx
  clear h hn hx
  have HR0 : Hid (RegsW w (w.alloc (.map #[] 0)) w.heap.size 0 (fun _ => none)) := ⟨_, regs_made w, fun k => ⟨fun _ => rfl, fun x h => by cases h⟩⟩
  have HB0 : Hid (Below w.heap.size w (w.alloc (.map #[] 0))) := (Below.refl _ _).alloc (Nat.le_refl _) _
  have hmm := @run_makeMap Try.prog
  go_enter Try.func8, Try.ntmps8
  go_wp2
  clear hmm
  go_loopw [11] (fun i wr => ∃ (k m : Nat), k ≤ n ∧ i = .int .i64 k ∧ m ≤ 1048576 * k ∧ Hid (RegsW w wr w.heap.size m (regAll (bs.take k))) ∧ Hid (Below w.heap.size w wr)) (fun i _ => n - (intOf i).toNat)
  case atStart => exact ⟨0, 0, Nat.zero_le _, rfl, Nat.zero_le _, HR0, HB0⟩
  case round =>
    clear HR0 HB0
    obtain ⟨k, m, hk, rfl, hmk, HR, HB⟩ := hrel
    obtain ⟨W1, rfl⟩ : ∃ W1, W1 = wr := ⟨wr, rfl⟩
    by_cases hk' : k < n
    · have hkk : k < bs.length := by rw [HN.out]; exact hk'
      have i1 : (0 : Int) ≤ (k : Int) := by omega
      have i2 : (k : Int) < (n : Int) := by omega
      obtain ⟨b, o, ad, cpd, rfl, hz, e0, hw⟩ := H.out.base HB.out hkk
      obtain ⟨hl, hf⟩ := HX.out k hkk
      have HT := Lib.hid (regAll_take bs k hkk)
      have HW := Lib.hid hw
      have HF := Lib.hid hf
      clear hw hf
      generalize bs.getD k [] = ws at *
      generalize regAll (bs.take k) = M at *
      obtain ⟨q, hq⟩ : ∃ q, ws.length = q := ⟨_, rfl⟩
      rw [hq] at e0 hl
      have HQ := Lib.hid hq
      clear hq
      have HBA : Hid (Below W1.heap.size W1 (W1.alloc (.cells #[.slice ad q cpd] 47))) := (Below.refl _ _).alloc (Nat.le_refl _) _
      have HRA := Lib.hid (HR.out.below HBA.out)
      have HB1 := Lib.hid (below_step HB.out HB.out.size HBA.out)
      go_wp2
      generalize W1.alloc (.cells #[.slice ad q cpd] 47) = W2 at *
      go_loopw [18] (fun i wq => ∃ (j p : Nat), j ≤ q ∧ i = .int .i64 j ∧ p ≤ 1048576 * k + j ∧ Hid (RegsW w wq w.heap.size p (regRun M (ws.take j))) ∧ Hid (Below w.heap.size w wq)) (fun i _ => q - (intOf i).toNat)
      case atStart => exact ⟨0, m, Nat.zero_le _, rfl, by omega, HRA, HB1⟩
      case round =>
        clear HR HB HBA HRA HB1
        obtain ⟨j, p, hj, rfl, hp, HR, HB⟩ := hrel
        by_cases hj' : j < q
        · have hjj : j < ws.length := by rw [HQ.out]; exact hj'
          have j1 : (0 : Int) ≤ (j : Int) := by omega
          have j2 : (j : Int) < (q : Int) := by omega
          obtain ⟨b2, o2, ad2, cp2, rfl, hz2, ⟨c0, c1, c2, c3, c4, c5, c6⟩, hd⟩ := HW.out.base HB.out HQ.out hj'
          have hxl := HF.out j hjj
          have HD := Lib.hid hd
          have HS := Lib.hid (regRun_take ws M j hjj)
          clear hd
          generalize ws.getD j wz = x at *
          obtain ⟨xk, xc, xs', xq, xv, xd, xx⟩ := x
          simp only at c0 c1 c2 c3 c4 c5 c6 hxl HD
          generalize regRun M (ws.take j) = M2 at *
          have HX0 : Hid (Below wr.heap.size wr (wr.alloc (.cells #[.int .i64 xk, .int .i64 xc, .int .i64 xs', .int .i64 xq, .int .i64 xv, .bool xd, .slice ad2 xx.length cp2] 53))) := (Below.refl _ _).alloc (Nat.le_refl _) _
          have HR1 := Lib.hid (HR.out.below HX0.out)
          have HB1 := Lib.hid (below_step HB.out HB.out.size HX0.out)
          cases hok : okW ⟨xk, xc, xs', xq, xv, xd, xx⟩
          · have HE2 : Hid (regRun M (ws.take (j + 1)) = M2) := by
              show _ = _
              rw [HS.out]
              unfold regRep
              rw [if_neg (by rw [hok]; simp)]
            go_wp2_with fail
            refine (implWriteOk_is ⟨xk, xc, xs', xq, xv, xd, xx⟩ false hok ad2 cp2 _ hxl (HD.out.below HB1.out)).mono ?_
            rintro e w2 ⟨rfl, hb⟩
            have HR2 : Hid (RegsW w w2 w.heap.size p (regRun M (ws.take (j + 1)))) := by
              rw [HE2.out]
              exact HR1.out.below hb
            have HB2 := Lib.hid (below_step HB1.out HB1.out.size hb)
            clear hb
            go_wp2
            exact ⟨⟨j + 1, p, by omega, by go_num, by omega, HR2, HB2⟩, by simp [intOf]; omega⟩
          · have HE2 : Hid (regRun M (ws.take (j + 1)) = regPut M2 ⟨xk, xc, xs', xq, xv, xd, xx⟩) := by
              show _ = _
              rw [HS.out]
              unfold regRep
              rw [if_pos hok]
            have HKY := Lib.hid (okW_key hok)
            go_wp2_with fail
            refine (implWriteOk_is ⟨xk, xc, xs', xq, xv, xd, xx⟩ true hok ad2 cp2 _ hxl (HD.out.below HB1.out)).mono ?_
            rintro e w2 ⟨rfl, hb⟩
            have HX2 : Hid (BoxIn wr w2 xk xc xs' xq xv xd ad2 xx.length cp2) := BoxIn.start (t := 53) hb
            have HR2 := Lib.hid (HR1.out.below hb)
            have HB2 := Lib.hid (below_step HB1.out HB1.out.size hb)
            clear hb hok HR1 HB1 HX0
            have b0 := HX2.out.c0
            have b1 := HX2.out.c1
            have b2' := HX2.out.c2
            have b3 := HX2.out.c3
            have b4 := HX2.out.c4
            have b5 := HX2.out.c5
            have b6 := HX2.out.c6
            go_wp2_with fail
            refine (putOne_any w w.heap.size p M2 ⟨xk, xc, xs', xq, xv, xd, xx⟩ ad2 cp2 _ (by omega) hxl HKY.out HD.out HB2.out (Nat.le_refl _) HR2.out).mono ?_
            rintro e w3 ⟨rfl, hr3, hb3⟩
            have HR3 : Hid (RegsW w w3 w.heap.size (p + 1) (regRun M (ws.take (j + 1)))) := by
              rw [HE2.out]
              exact hr3
            have HB3 := Lib.hid hb3
            clear hr3 hb3
            go_wp2
            exact ⟨⟨j + 1, p + 1, by omega, by go_num, by omega, HR3, HB3⟩, by simp [intOf]; omega⟩
        · have hjj : j = q := by omega
          subst hjj
          have HR2 : Hid (RegsW w wr w.heap.size p (regAll (bs.take (k + 1)))) := by
            have h := HR.out
            rw [List.take_of_length_le (by rw [HQ.out]; exact Nat.le_refl _)] at h
            rw [HT.out]
            exact h
          go_wp2
          exact ⟨⟨k + 1, p, by omega, by go_num, by omega, HR2, HB⟩, by simp [intOf]; omega⟩
    · have hkk : k = n := by omega
      subst hkk
      have HRE : Hid (RegsW w W1 w.heap.size m (regAll bs)) := by
        have h := HR.out
        rw [List.take_of_length_le (by rw [HN.out]; exact Nat.le_refl _)] at h
        exact h
      go_wp2_with fail
      refine (told_any w w.heap.size m (regAll bs) _ HB.out HRE.out).mono ?_
      rintro e w6 ⟨v, es, rfl, hes, hrow, hb6⟩
      have HES : Hid (es.map (·.x) = replayW bs) := hes.trans (told_replay bs)
      have HRW := Lib.hid (hrow.mono HB.out.size)
      have HB6 : Hid (Below w.heap.size w w6) := below_step HB.out HB.out.size hb6
      clear hes hrow hb6
      go_wp2
      go_ret
      exact ⟨v, es, rfl, HES.out, HRW.out, HB6.out⟩

end Go.Proofs.Ytidpcjcnhklmpam

/- Batches of one's own, marked: the contracts of markBatchS and heldBatchS. -/
namespace Go.Proofs.Ytidpcjcnhklmpam
open Go.ChangeShapes Go.WideShapes Go.ChangeAt Go.RowKit Go.Joins
attribute [local go_sem ↓] Go.wp_at_zero Go.wp_at_succ

/-- A batch: its writes, where they are said to lie, their room, between which block numbers, and where their dependencies lie. -/
structure Bat where
  ws : List Wr
  a : Option Addr
  cap : Nat
  lo : Nat
  hi : Nat
  γ : Nat → Nat

def btz : Bat := ⟨[], none, 0, 0, 0, fun _ => 0⟩

def batV (e : Bat) : Value := .slice e.a e.ws.length e.cap

def BatsAt (w : World) (b : Nat) (es : List Bat) : Prop := ∀ i, i < es.length → w.cell? ⟨b, i, none⟩ = some (batV (es.getD i btz))

/-- Batches of one's own: a row, and each batch's memory apart from the row and from the others'. -/
def OwnB (w : World) (lo hi : Nat) (a : Option Addr) (es : List Bat) : Prop :=
  es = [] ∨ ∃ b, a = some ⟨b, 0, none⟩ ∧ lo ≤ b ∧ b < hi ∧ b < w.heap.size ∧ BatsAt w b es ∧ (∀ i, i < es.length → lo ≤ (es.getD i btz).lo ∧ (es.getD i btz).hi ≤ hi ∧ (b < (es.getD i btz).lo ∨ (es.getD i btz).hi ≤ b) ∧ OwnA w (es.getD i btz).lo (es.getD i btz).hi (es.getD i btz).a (es.getD i btz).ws (es.getD i btz).γ) ∧ ∀ i j, i < j → j < es.length → (es.getD i btz).hi ≤ (es.getD j btz).lo

set_option maxRecDepth 100000 in
theorem BatsAt.of_block {w w' : World} {b : Nat} {es : List Bat} (h : BatsAt w b es) (hb : w'.heap[b]? = w.heap[b]?) : BatsAt w' b es := fun i hi => (World.cell?_of_block (a := ⟨b, i, none⟩) hb).trans (h i hi)

set_option maxRecDepth 100000 in
theorem OwnB.below {w w' : World} {lo hi : Nat} {a : Option Addr} {es : List Bat} (h : OwnB w lo hi a es) (hb : Below w.heap.size w w') : OwnB w' lo hi a es := by
  rcases h with h | ⟨b, h1, h2, h3, h4, h5, h6, h7⟩
  · exact .inl h
  · exact .inr ⟨b, h1, h2, h3, Nat.lt_of_lt_of_le h4 hb.size, h5.of_block (hb.block b h4), fun i hi => ⟨(h6 i hi).1, (h6 i hi).2.1, (h6 i hi).2.2.1, (h6 i hi).2.2.2.below hb⟩, h7⟩

set_option maxRecDepth 100000 in
theorem OwnB.only {w w' : World} {S : Nat → Prop} {lo hi : Nat} {a : Option Addr} {es : List Bat} (h : OwnB w lo hi a es) (ho : Only S w w') (hS : ∀ x, S x → x < lo) : OwnB w' lo hi a es := by
  rcases h with h | ⟨b, h1, h2, h3, h4, h5, h6, h7⟩
  · exact .inl h
  · exact .inr ⟨b, h1, h2, h3, by rw [ho.size]; exact h4, h5.of_block (ho.block b fun e => by have := hS b e; omega), fun i hi => ⟨(h6 i hi).1, (h6 i hi).2.1, (h6 i hi).2.2.1, (h6 i hi).2.2.2.only ho fun x hx => by have := hS x hx; have := (h6 i hi).1; omega⟩, h7⟩

def batsOf (es : List Bat) : List (List Wr) := es.map (·.ws)

set_option maxRecDepth 100000 in
theorem batsOf_get (es : List Bat) {i : Nat} (h : i < es.length) : (batsOf es).getD i [] = (es.getD i btz).ws := by
  simp [batsOf, List.getD, h]

set_option maxRecDepth 100000 in
theorem OwnB.isBs {w : World} {lo hi : Nat} {a : Option Addr} {es : List Bat} (h : OwnB w lo hi a es) (hx : FewB (batsOf es)) : IsBs w a (batsOf es) := by
  rcases h with h | ⟨b, h1, h2, h3, h4, h5, h6, h7⟩
  · exact .inl (by rw [h]; rfl)
  · refine .inr ⟨b, 0, h1, h4, fun i hi => ?_⟩
    have hi' : i < es.length := by simpa [batsOf] using hi
    have hf := (hx i hi).2
    rw [batsOf_get es hi'] at hf ⊢
    exact ⟨_, _, by rw [Nat.zero_add]; exact h5 i hi', (h6 i hi').2.2.2.isWs hf⟩

/-- How far the marks have come behind these batches. -/
def markKB (es : List Bat) (k : Int) : Int := es.foldl (fun k e => markK e.ws k e.ws.length) k

set_option maxRecDepth 100000 in
theorem markKB_take (es : List Bat) (k : Int) {i : Nat} (h : i < es.length) : markKB (es.take (i + 1)) k = markK (es.getD i btz).ws (markKB (es.take i) k) (es.getD i btz).ws.length := by
  unfold markKB
  have e : es.take (i + 1) = es.take i ++ [es.getD i btz] := by
    rw [List.take_add_one, List.getElem?_eq_getElem h]
    simp [List.getD, h]
  rw [e, List.foldl_append]
  rfl

/-- All that is marked stays within bounds. -/
def TameB (es : List Bat) (k : Int) : Prop := (∀ i, i < es.length → (es.getD i btz).ws.length ≤ 1048576 ∧ bulk (es.getD i btz).ws ≤ 1048576) ∧ ∀ i, i ≤ es.length → 0 ≤ markKB (es.take i) k ∧ markKB (es.take i) k ≤ 1073741824

/-- A batch that is marked, its memory between two block numbers. -/
def MarkedS (w : World) (e : Bat) (k : Int) : Prop := MarkedA w e.a e.ws e.γ k ∧ (e.ws = [] ∨ ∃ b, e.a = some ⟨b, 0, none⟩ ∧ e.lo ≤ b ∧ b < e.hi ∧ ∀ i, i < e.ws.length → 0 < (e.ws.getD i wz).xs.length → e.lo ≤ e.γ i ∧ e.γ i < e.hi)

set_option maxRecDepth 100000 in
theorem MarkedWs.of_blocks {w w' : World} {b : Nat} {ws : List Wr} {γ : Nat → Nat} {k : Int} (h : MarkedWs w b ws γ k) (hb : w'.heap[b]? = w.heap[b]?) (h2 : ∀ i, i < ws.length → 0 < (ws.getD i wz).xs.length → w'.heap[γ i]? = w.heap[γ i]?) : MarkedWs w' b ws γ k := by
  intro i hi
  obtain ⟨⟨e0, e1, e2, e3, e4, e5, a, cp, e6, e7⟩, hd⟩ := h i hi
  have c : ∀ o, w'.cell? ⟨b, o, none⟩ = w.cell? ⟨b, o, none⟩ := fun o => World.cell?_of_block (a := ⟨b, o, none⟩) hb
  exact ⟨⟨(c _).trans e0, (c _).trans e1, (c _).trans e2, (c _).trans e3, (c _).trans e4, (c _).trans e5, a, cp, (c _).trans e6, e7⟩, fun hp => (hd hp).of_block (h2 i hi hp)⟩

set_option maxRecDepth 100000 in
theorem MarkedS.only {w w' : World} {S : Nat → Prop} {e : Bat} {k : Int} (h : MarkedS w e k) (ho : Only S w w') (hS : ∀ x, S x → x < e.lo ∨ e.hi ≤ x) : MarkedS w' e k := by
  refine ⟨?_, h.2⟩
  rcases h.1 with h1 | ⟨b, h1, h2, h3, h4⟩
  · exact .inl h1
  · rcases h.2 with g | ⟨b', g1, g2, g3, g4⟩
    · exact .inl g
    · obtain rfl : b = b' := by rw [h1] at g1; simpa using g1
      exact .inr ⟨b, h1, h2.of_blocks (ho.block b fun hx => by have := hS b hx; omega) fun i hi hp => ho.block _ fun hx => by have := hS _ hx; have := g4 i hi hp; omega, by rw [ho.size]; exact h3, fun i hi hp => by rw [ho.size]; exact h4 i hi hp⟩

/-- Batches that are marked. -/
def MarkedB (w : World) (a : Option Addr) (es : List Bat) (k : Int) : Prop := es = [] ∨ ∃ b, a = some ⟨b, 0, none⟩ ∧ b < w.heap.size ∧ BatsAt w b es ∧ ∀ i, i < es.length → MarkedA w (es.getD i btz).a (es.getD i btz).ws (es.getD i btz).γ (markKB (es.take i) k)

set_option maxRecDepth 100000 in
theorem MarkedB.below {w w' : World} {a : Option Addr} {es : List Bat} {k : Int} (h : MarkedB w a es k) (hb : Below w.heap.size w w') : MarkedB w' a es k := by
  rcases h with h | ⟨b, h1, h2, h3, h4⟩
  · exact .inl h
  · exact .inr ⟨b, h1, Nat.lt_of_lt_of_le h2 hb.size, h3.of_block (hb.block b h2), fun i hi => (h4 i hi).below hb⟩

set_option maxRecDepth 100000 in
theorem OwnA.marked {w w' : World} {e : Bat} {k : Int} (h : OwnA w e.lo e.hi e.a e.ws e.γ) (hm : MarkedA w' e.a e.ws e.γ k) : MarkedS w' e k := by
  refine ⟨hm, ?_⟩
  rcases h with h | ⟨b, h1, h2, h3, h4⟩
  · exact .inl h
  · exact .inr ⟨b, h1, h2.le, h3, fun i hi hp => ⟨(h2.deps i hi hp).1, h4 i hi hp⟩⟩

set_option maxRecDepth 100000 in
set_option maxHeartbeats 4000000 in
theorem markBatchS_any (lo hi n cap : Nat) (a : Option Addr) (k : Int) (es : List Bat) (w : World) (hn : es.length = n) (hm : n ≤ 1048576) (ht : TameB es k) (ho : OwnB w lo hi a es) :
    Calls Try.prog 11 #[.slice a n cap, .int .i64 k] w fun e w' => e = .returned (.int .i64 (markKB es k)) ∧ MarkedB w' a es k ∧ Only (Span lo hi) w w' := by
  by_cases hz : n = 0
  · subst hz
    have he : es = [] := List.length_eq_zero_iff.1 hn
    subst he
    clear ho hn ht
    go_enter Try.func11, Try.ntmps11
    go_wp2
    go_loopw [1, 5] (fun l i wr => i = .int .i64 0 ∧ l = .int .i64 k ∧ wr = w) (fun _ _ _ => 0)
    case atStart => exact ⟨rfl, rfl, rfl⟩
    case round =>
      obtain ⟨rfl, rfl, rfl⟩ := hrel
      go_wp2
      go_ret
      exact ⟨rfl, .inl rfl, Only.refl _ _⟩
  · obtain ⟨b, rfl, hlo, hhi, hlt, hat, hown, hpw⟩ : ∃ b, a = some ⟨b, 0, none⟩ ∧ lo ≤ b ∧ b < hi ∧ b < w.heap.size ∧ BatsAt w b es ∧ (∀ i, i < es.length → lo ≤ (es.getD i btz).lo ∧ (es.getD i btz).hi ≤ hi ∧ (b < (es.getD i btz).lo ∨ (es.getD i btz).hi ≤ b) ∧ OwnA w (es.getD i btz).lo (es.getD i btz).hi (es.getD i btz).a (es.getD i btz).ws (es.getD i btz).γ) ∧ ∀ i j, i < j → j < es.length → (es.getD i btz).hi ≤ (es.getD j btz).lo := by
      rcases ho with h | h
      · rw [h] at hn
        exact absurd hn.symm hz
      · exact h
    have HAT := Lib.hid hat
    have HOW := Lib.hid hown
    have HPW := Lib.hid hpw
    have HT := Lib.hid ht
    have HN := Lib.hid hn
    clear hat hown hpw ht hn ho
    go_enter Try.func11, Try.ntmps11
    go_wp2
    go_loopw [1, 5] (fun l i wr => ∃ (j : Nat), j ≤ n ∧ i = .int .i64 j ∧ l = .int .i64 (markKB (es.take j) k) ∧ Hid (BatsAt wr b es) ∧ Hid (∀ i, i < j → MarkedS wr (es.getD i btz) (markKB (es.take i) k)) ∧ Hid (∀ i, j ≤ i → i < n → OwnA wr (es.getD i btz).lo (es.getD i btz).hi (es.getD i btz).a (es.getD i btz).ws (es.getD i btz).γ) ∧ Hid (Only (Span lo hi) w wr)) (fun _ i _ => n - (intOf i).toNat)
    case atStart => exact ⟨0, Nat.zero_le _, rfl, rfl, HAT, fun i h => absurd h (Nat.not_lt_zero i), fun i _ h => (HOW.out i (by rw [HN.out]; exact h)).2.2.2, Only.refl _ _⟩
    case round =>
      obtain ⟨j, hj, rfl, rfl, HA, HM, HO, HL⟩ := hrel
      by_cases hj' : j < n
      · have hjj : j < es.length := by rw [HN.out]; exact hj'
        have i1 : (0 : Int) ≤ (j : Int) := by omega
        have i2 : (j : Int) < (n : Int) := by omega
        have c0 := HA.out j hjj
        unfold batV at c0
        obtain ⟨b1, b2⟩ := HT.out.1 j hjj
        obtain ⟨t1, t2⟩ := HT.out.2 j (by omega)
        have HK := Lib.hid (markKB_take es k hjj)
        have HE := Lib.hid (HO.out j (Nat.le_refl _) hj')
        have HI := Lib.hid (HOW.out j hjj)
        obtain ⟨kk, hkk⟩ : ∃ kk, markKB (es.take j) k = kk := ⟨_, rfl⟩
        rw [hkk] at t1 t2 HK ⊢
        have HKK := Lib.hid hkk
        obtain ⟨x, hx⟩ : ∃ x, es.getD j btz = x := ⟨_, rfl⟩
        rw [hx] at c0 b1 b2 HK HE HI
        have HX := Lib.hid hx
        clear hkk hx
        obtain ⟨xw, xa, xc, xl, xh, xg⟩ := x
        simp only at c0 b1 b2 HK HE HI
        obtain ⟨q, hq⟩ : ∃ q, xw.length = q := ⟨_, rfl⟩
        rw [hq] at c0 b1 HK
        have HQ := Lib.hid hq
        clear hq
        obtain ⟨k3, hk3⟩ : ∃ k3, markK xw kk q = k3 := ⟨_, rfl⟩
        rw [hk3] at HK
        have HK3 := Lib.hid hk3
        clear hk3
        go_wp2_with fail
        refine (markWriteS_all xl xh q xc xa kk xw xg _ HQ.out b1 b2 t1 t2 HE.out).mono ?_
        rintro e w2 ⟨rfl, hmk, ho⟩
        rw [HK3.out]
        have HA2 : Hid (BatsAt w2 b es) := HA.out.of_block (ho.block b fun hx => by have h1 := HI.out.2.2.1; have h2 := hx.1; have h3 := hx.2; omega)
        have HXL : Hid ((es.getD j btz).lo = xl ∧ (es.getD j btz).hi = xh) := by rw [HX.out]; exact ⟨rfl, rfl⟩
        have HM2 : Hid (∀ i, i < j + 1 → MarkedS w2 (es.getD i btz) (markKB (es.take i) k)) := fun i hi => by
          by_cases hij : i < j
          · exact (HM.out i hij).only ho fun x hx => .inr (by have h1 := HPW.out i j hij hjj; have h2 := hx.1; have h3 := HXL.out.1; omega)
          · obtain rfl : i = j := by omega
            rw [HX.out, HKK.out]
            exact OwnA.marked (e := ⟨xw, xa, xc, xl, xh, xg⟩) HE.out hmk
        have HO2 : Hid (∀ i, j + 1 ≤ i → i < n → OwnA w2 (es.getD i btz).lo (es.getD i btz).hi (es.getD i btz).a (es.getD i btz).ws (es.getD i btz).γ) := fun i h1 h2 => (HO.out i (by omega) h2).only ho fun x hx => by have h3 := HPW.out j i (by omega) (by rw [HN.out]; exact h2); have h4 := hx.2; have h5 := HXL.out.2; omega
        have HL2 : Hid (Only (Span lo hi) w w2) := HL.out.trans ho fun x hx => ⟨by have := HI.out.1; have := hx.1; omega, by have := HI.out.2.1; have := hx.2; omega⟩
        clear hmk ho HE HI HX HXL HM HO HA HL HK3 HQ HKK
        go_wp2
        exact ⟨⟨j + 1, by omega, by go_num, by rw [HK.out], HA2, HM2, HO2, HL2⟩, by simp [intOf]; omega⟩
      · have hjj : j = n := by omega
        subst hjj
        have HF : Hid (es.take j = es) := List.take_of_length_le (by rw [HN.out]; exact Nat.le_refl _)
        rw [HF.out]
        go_wp2
        go_ret
        exact ⟨rfl, .inr ⟨b, rfl, by rw [HL.out.size]; exact hlt, HA.out, fun i hi => (HM.out i (by rw [← HN.out]; exact hi)).1⟩, HL.out⟩

end Go.Proofs.Ytidpcjcnhklmpam

/- The laws' copies of batches: the contracts of toBatch and toBatchS. -/
namespace Go.Proofs.Ytidpcjcnhklmpam
open Go.ChangeShapes Go.WideShapes Go.ChangeAt Go.RowKit Go.Joins
attribute [local go_sem ↓] Go.wp_at_zero Go.wp_at_succ

set_option maxRecDepth 100000 in
theorem OwnG.lower {w : World} {base base' b : Nat} {ws : List Wr} {γ : Nat → Nat} (h : OwnG w base b ws γ) (hb : base' ≤ base) : OwnG w base' b ws γ where
  lt := h.lt
  le := Nat.le_trans hb h.le
  open_ := h.open_
  at_ := h.at_
  deps := fun i hi hp => ⟨Nat.le_trans hb (h.deps i hi hp).1, (h.deps i hi hp).2⟩
  inj := h.inj

set_option maxRecDepth 100000 in
theorem OwnA.wider {w : World} {lo lo' hi hi' : Nat} {a : Option Addr} {ws : List Wr} {γ : Nat → Nat} (h : OwnA w lo hi a ws γ) (h1 : lo' ≤ lo) (h2 : hi ≤ hi') : OwnA w lo' hi' a ws γ := by
  rcases h with h | ⟨b, q1, q2, q3, q4⟩
  · exact .inl h
  · exact .inr ⟨b, q1, q2.lower h1, Nat.lt_of_lt_of_le q3 h2, fun i hi hp => Nat.lt_of_lt_of_le (q4 i hi hp) h2⟩

set_option maxRecDepth 100000 in
theorem OwnA.setLow {w : World} {lo hi : Nat} {a : Option Addr} {ws : List Wr} {γ : Nat → Nat} (h : OwnA w lo hi a ws γ) {b : Nat} (hb : b < lo) (o : Nat) (v : Value) : OwnA (w.setCell ⟨b, o, none⟩ v) lo hi a ws γ :=
  h.only (S := fun x => x = b) (Only.set (S := fun x => x = b) (Only.refl _ w) rfl o v) fun x hx => by rw [hx]; exact hb

set_option maxRecDepth 100000 in
set_option maxHeartbeats 2000000 in
theorem toBatch_any (a : Option Addr) (n cap : Nat) (ws : List Wr) (w : World) (hn : ws.length = n) (hm : n ≤ 1048576) (hx : Few ws) (h : IsWs w a ws) :
    Calls Try.prog 22 #[.agg #[.slice a n cap]] w fun e w' => ∃ b γ, e = .returned (.agg #[.slice (some ⟨b, 0, none⟩) n n]) ∧ OwnA w' w.heap.size w'.heap.size (some ⟨b, 0, none⟩) ws γ ∧ Below w.heap.size w w' := by
  have H := Lib.hid h
  have HN := Lib.hid hn
  have HX : Hid (∀ i, i < n → (ws.getD i wz).xs.length ≤ 1048576) := fun i hi => hx i (by rw [hn]; exact hi)
  clear h hn hx
  have HB : Hid (Below w.heap.size w (((w.alloc (.cells #[.slice a n cap] 45)).alloc (.cells #[.slice none 0 0] 47)).alloc (.cells #[.slice none 0 0] 47))) := (((Below.refl _ _).alloc (Nat.le_refl _) _).alloc (by simp) _).alloc (by simp; omega) _
  have hsz : (((w.alloc (.cells #[.slice a n cap] 45)).alloc (.cells #[.slice none 0 0] 47)).alloc (.cells #[.slice none 0 0] 47)).heap.size = w.heap.size + 3 := by simp
  have HZ2 : Hid ((((w.alloc (.cells #[.slice a n cap] 45)).alloc (.cells #[.slice none 0 0] 47)).alloc (.cells #[.slice none 0 0] 47)).heap[w.heap.size + 1]? = some (.cells #[.slice none 0 0] 47 (0, 0))) := by
    have e : (w.alloc (.cells #[.slice a n cap] 45)).heap.size = w.heap.size + 1 := by simp
    have := heap_alloc2_old (w.alloc (.cells #[.slice a n cap] 45)) (.cells #[.slice none 0 0] 47) (.cells #[.slice none 0 0] 47)
    rwa [e] at this
  have HZ3 : Hid ((((w.alloc (.cells #[.slice a n cap] 45)).alloc (.cells #[.slice none 0 0] 47)).alloc (.cells #[.slice none 0 0] 47)).heap[w.heap.size + 2]? = some (.cells #[.slice none 0 0] 47 (0, 0))) := by
    have e : (w.alloc (.cells #[.slice a n cap] 45)).heap.size = w.heap.size + 1 := by simp
    have := heap_alloc2_new (w.alloc (.cells #[.slice a n cap] 45)) (.cells #[.slice none 0 0] 47) (.cells #[.slice none 0 0] 47)
    rwa [e] at this
  go_enter Try.func22, Try.ntmps22
  go_wp2_with fail
  generalize ((w.alloc (.cells #[.slice a n cap] 45)).alloc (.cells #[.slice none 0 0] 47)).alloc (.cells #[.slice none 0 0] 47) = W3 at *
  refine (toWriteS_any a n cap ws _ hm HN.out HX.out (H.out.below HB.out)).mono ?_
  rintro e w4 ⟨γ, rfl, hO, hb⟩
  have HO : Hid (OwnA w4 W3.heap.size w4.heap.size (some ⟨W3.heap.size, 0, none⟩) ws γ) := hO.gen.ownA
  have HB4 : Hid (Below w.heap.size w w4) := below_step HB.out HB.out.size hb
  have q2 := (hb.block (w.heap.size + 1) (by omega)).trans HZ2.out
  have q3 := (hb.block (w.heap.size + 2) (by omega)).trans HZ3.out
  have hs4 : W3.heap.size ≤ w4.heap.size := hb.size
  have c2 := cell_of_row w4 (w.heap.size + 1) 0 _ _ _ q2
  have c3 := cell_of_row w4 (w.heap.size + 2) 0 _ _ _ q3
  have f2 := frozen_of_row w4 (w.heap.size + 1) 0 _ _ q2
  have f3 := frozen_of_row w4 (w.heap.size + 2) 0 _ _ q3
  simp at c2 c3
  clear hb hO HB HZ2 HZ3
  go_wp2
  have hw3 : W3.heap.size = w.heap.size + 3 := hsz
  refine bodyPost_ret (v := .agg #[.slice (some ⟨w.heap.size + 3, 0, none⟩) n n]) (by simp [results, Try.results22, go_sem, c2]) rfl ⟨w.heap.size + 3, γ, rfl, ?_, (HB4.out.setCell (p := ⟨w.heap.size + 1 + 1, 0, none⟩) (by simp; omega) _).setCell (p := ⟨w.heap.size + 1, 0, none⟩) (by simp) _⟩
  have h1 := HO.out
  rw [hw3] at h1
  exact ((h1.setLow (b := w.heap.size + 1 + 1) (by omega) 0 _).setLow (b := w.heap.size + 1) (by omega) 0 _).wider (by omega) (by simp)

set_option maxRecDepth 100000 in
theorem infoBatch : (Try.prog.info? 47).map (fun i => (i.zero, i.size, i.bytes)) = some (some (.agg #[.slice none 0 0]), 1, 24) := by kernel_rfl

set_option maxRecDepth 100000 in
theorem run_make_bats (n : Nat) (hn : n ≤ 1048576) (w : World) :
    (Instr.makeSlice 26 (.int .i64 (n : Int)) (.int .i64 (n : Int))).run Try.prog w = .ok (.slice (some ⟨w.heap.size, 0, none⟩) n n) (w.alloc (.cells (madeCells #[.slice none 0 0] n) 47)) := by
  obtain ⟨i, hi, hzz⟩ := Option.map_eq_some_iff.1 infoBatch
  simp only [Prod.mk.injEq] at hzz
  obtain ⟨hz, hs, hb⟩ := hzz
  have hr := run_make (P := Try.prog) w 26 47 i _ Try.underlying26 hi hz .i64 .i64 n n (by omega) (Int.le_refl _) (by rw [hb]; omega) (by omega)
  simp only [Int.toNat_natCast, hs, Nat.mul_one] at hr
  exact hr

/-- The row while it is filled in. -/
def fillBat (es : List Bat) (j : Nat) : Value := if j < es.length then batV (es.getD j btz) else .slice none 0 0

set_option maxRecDepth 100000 in
theorem get_old (es : List Bat) (x : Bat) {i : Nat} (h : i < es.length) : (es ++ [x]).getD i btz = es.getD i btz := by
  rw [List.getD_eq_getElem?_getD, List.getD_eq_getElem?_getD, List.getElem?_append_left h]

set_option maxRecDepth 100000 in
theorem fillBat_step (es : List Bat) (x : Bat) (j : Nat) : (if j = es.length then batV x else fillBat es j) = fillBat (es ++ [x]) j := by
  unfold fillBat
  by_cases h : j = es.length
  · rw [if_pos h, if_pos (by simp; omega), h]
    simp [List.getD]
  · rw [if_neg h]
    by_cases hl : j < es.length
    · rw [if_pos hl, if_pos (by simp; omega), get_old es x hl]
    · rw [if_neg hl, if_neg (by simp; omega)]

set_option maxRecDepth 100000 in
theorem rowBat_start (w : World) (t n : Nat) : (w.alloc (.cells (madeCells #[.slice none 0 0] n) t)).rowIs w.heap.size t n (fillBat []) := by
  refine ⟨_, Go.Deep.blk_alloc_new _ _, size_madeCells _ _, fun i hi => ?_⟩
  have e : fillBat [] i = .slice none 0 0 := by unfold fillBat; rw [if_neg (by simp)]
  rw [e]
  have h1 : i % 1 = 0 := by omega
  simp [madeCells, hi, h1]

/-- The batches that are laid so far. -/
def LaidB (w : World) (B : Nat) (es : List Bat) : Prop := (∀ i, i < es.length → B < (es.getD i btz).lo ∧ (es.getD i btz).hi ≤ w.heap.size ∧ OwnA w (es.getD i btz).lo (es.getD i btz).hi (es.getD i btz).a (es.getD i btz).ws (es.getD i btz).γ) ∧ ∀ i j, i < j → j < es.length → (es.getD i btz).hi ≤ (es.getD j btz).lo

set_option maxRecDepth 100000 in
theorem get_new (es : List Bat) (x : Bat) : (es ++ [x]).getD es.length btz = x := by simp [List.getD]

set_option maxRecDepth 100000 in
theorem LaidB.more {w w' : World} {B : Nat} {es : List Bat} (h : LaidB w B es) (hb : Below w.heap.size w w') {x : Bat} (h1 : B < x.lo) (h2 : w.heap.size ≤ x.lo) (h3 : x.hi ≤ w'.heap.size) (h4 : OwnA w' x.lo x.hi x.a x.ws x.γ) : LaidB w' B (es ++ [x]) := by
  constructor
  · intro i hi
    by_cases hl : i < es.length
    · rw [get_old es x hl]
      obtain ⟨q1, q2, q3⟩ := h.1 i hl
      exact ⟨q1, Nat.le_trans q2 hb.size, q3.below hb⟩
    · have hi' : i = es.length := by simp at hi; omega
      rw [hi', get_new]
      exact ⟨h1, h3, h4⟩
  · intro i j hij hj
    by_cases hl : j < es.length
    · rw [get_old es x hl, get_old es x (by omega)]
      exact h.2 i j hij hl
    · have hj' : j = es.length := by simp at hj; omega
      rw [hj', get_new, get_old es x (by omega)]
      exact Nat.le_trans (h.1 i (by omega)).2.1 h2

set_option maxRecDepth 100000 in
theorem LaidB.setRow {w : World} {B : Nat} {es : List Bat} (h : LaidB w B es) (o : Nat) (v : Value) : LaidB (w.setCell ⟨B, o, none⟩ v) B es :=
  ⟨fun i hi => ⟨(h.1 i hi).1, by simpa using (h.1 i hi).2.1, (h.1 i hi).2.2.setLow (h.1 i hi).1 o v⟩, h.2⟩

set_option maxRecDepth 100000 in
set_option maxHeartbeats 4000000 in
theorem toBatchS_any (a : Option Addr) (n cap : Nat) (bs : List (List Wr)) (w : World) (hn : bs.length = n) (hm : n ≤ 1048576) (hx : FewB bs) (h : IsBs w a bs) :
    Calls Try.prog 7 #[.slice a n cap] w fun e w' => ∃ es, e = .returned (.slice (some ⟨w.heap.size, 0, none⟩) n n) ∧ batsOf es = bs ∧ OwnB w' w.heap.size w'.heap.size (some ⟨w.heap.size, 0, none⟩) es ∧ Below w.heap.size w w' := by
  have H := Lib.hid h
  have HN := Lib.hid hn
  have HX := Lib.hid hx
  clear h hn hx
  have hmk := run_make_bats n hm
  go_enter Try.func7, Try.ntmps7
  go_wp2
  clear hmk
  go_loopw [4] (fun i wr => ∃ (k : Nat) (es : List Bat), k ≤ n ∧ i = .int .i64 k ∧ es.length = k ∧ Hid (batsOf es = bs.take k) ∧ Hid (wr.rowIs w.heap.size 47 n (fillBat es)) ∧ Hid (LaidB wr w.heap.size es) ∧ Hid (Below w.heap.size w wr)) (fun i _ => n - (intOf i).toNat)
  case atStart => exact ⟨0, [], Nat.zero_le _, rfl, rfl, rfl, rowBat_start _ _ _, ⟨fun i hi => by simp at hi, fun i j _ hj => by simp at hj⟩, (Below.refl _ _).alloc (Nat.le_refl _) _⟩
  case round =>
    obtain ⟨k, es, hk, rfl, hel, HE, HR, HL, HB⟩ := hrel
    by_cases hk' : k < n
    · have hkk : k < bs.length := by rw [HN.out]; exact hk'
      have i1 : (0 : Int) ≤ (k : Int) := by omega
      have i2 : (k : Int) < (n : Int) := by omega
      obtain ⟨b, o, ad, cp, rfl, hz, e0, hw⟩ := H.out.at HB.out hkk
      obtain ⟨hl, hf⟩ := HX.out k hkk
      have HW := Lib.hid hw
      have HF := Lib.hid hf
      have HT : Hid (bs.take (k + 1) = bs.take k ++ [bs.getD k []]) := by
        show _ = _
        rw [List.take_add_one, List.getElem?_eq_getElem hkk]
        simp [List.getD, hkk]
      have hlt : w.heap.size < wr.heap.size := HR.out.lt
      clear hw hf
      generalize bs.getD k [] = ws at *
      obtain ⟨q, hq⟩ : ∃ q, ws.length = q := ⟨_, rfl⟩
      rw [hq] at e0 hl
      have HQ := Lib.hid hq
      clear hq
      go_wp2_with fail
      refine (toBatch_any ad q cp ws _ HQ.out hl HF.out HW.out).mono ?_
      rintro e w2 ⟨b2, γ, rfl, hO, hb⟩
      have HR2 : Hid (w2.rowIs w.heap.size 47 n (fillBat es)) := HR.out.of_block (hb.block _ hlt)
      have HL2 : Hid (LaidB w2 w.heap.size (es ++ [⟨ws, some ⟨b2, 0, none⟩, q, wr.heap.size, w2.heap.size, γ⟩])) := HL.out.more hb hlt (Nat.le_refl _) (Nat.le_refl _) hO
      have HB2 := Lib.hid (below_step HB.out HB.out.size hb)
      have HE2 : Hid (batsOf (es ++ [⟨ws, some ⟨b2, 0, none⟩, q, wr.heap.size, w2.heap.size, γ⟩]) = bs.take (k + 1)) := by
        show _ = _
        unfold batsOf at *
        rw [HT.out, List.map_append, HE.out]
        rfl
      have c0 := HR2.out.cell (i := k) hk'
      have fz := HR2.out.frozen
      have HS : Hid ((w2.setCell ⟨w.heap.size, k, none⟩ (.slice (some ⟨b2, 0, none⟩) q q)).rowIs w.heap.size 47 n (fillBat (es ++ [⟨ws, some ⟨b2, 0, none⟩, q, wr.heap.size, w2.heap.size, γ⟩]))) := (HR2.out.set k _).congr fun j _ => by
        have := fillBat_step es ⟨ws, some ⟨b2, 0, none⟩, q, wr.heap.size, w2.heap.size, γ⟩ j
        rw [hel] at this
        rw [← this]
        unfold batV
        rw [HQ.out]
      clear hO hb HR HL HB
      go_wp2
      exact ⟨⟨k + 1, _, by omega, by go_num, by simp [hel], HE2, HS, HL2.out.setRow k _, HB2.out.setCell (p := ⟨w.heap.size, k, none⟩) (Nat.le_refl _) _⟩, by simp [intOf]; omega⟩
    · have hkk : k = n := by omega
      subst hkk
      have HE2 : Hid (batsOf es = bs) := by
        have h := HE.out
        rw [List.take_of_length_le (by rw [HN.out]; exact Nat.le_refl _)] at h
        exact h
      go_wp2
      go_ret
      refine ⟨es, rfl, HE2.out, .inr ⟨w.heap.size, rfl, Nat.le_refl _, HR.out.lt, HR.out.lt, fun i hi => ?_, fun i hi => ?_, HL.out.2⟩, HB.out⟩
      · rw [HR.out.cell (by omega), fillBat, if_pos hi]
      · obtain ⟨q1, q2, q3⟩ := HL.out.1 i hi
        exact ⟨Nat.le_of_lt q1, q2, .inl q1, q3⟩

end Go.Proofs.Ytidpcjcnhklmpam

/- The sizes of batches: the contracts of szBatch and szBatchS. -/
namespace Go.Proofs.Ytidpcjcnhklmpam
open Go.ChangeShapes Go.WideShapes Go.ChangeAt Go.RowKit Go.Joins
attribute [local go_sem ↓] Go.wp_at_zero Go.wp_at_succ

set_option maxRecDepth 100000 in
set_option maxHeartbeats 1000000 in
theorem szBatch_any (a : Option Addr) (n cap : Nat) (left : Int) (ws : List Wr) (w : World) (h0 : 0 ≤ left) (h1 : left ≤ 1048576) (hm : n ≤ maxLen) (hn : ws.length = n) (h : IsWs w a ws) :
    Calls Try.prog 19 #[.agg #[.slice a n cap], .int .i64 left] w fun e w' => ∃ r : Int, e = .returned (.int .i64 r) ∧ (r = -1 ∨ (0 ≤ r ∧ r = left - n - bulk ws)) ∧ Below w.heap.size w w' := by
  have H := Lib.hid h
  have HN := Lib.hid hn
  clear h hn
  have HB : Hid (Below w.heap.size w (w.alloc (.cells #[.slice a n cap] 45))) := (Below.refl _ _).alloc (Nat.le_refl _) _
  go_enter Try.func19, Try.ntmps19
  go_wp2_with fail
  refine (szWriteS_any a n cap left ws _ h0 h1 hm HN.out (H.out.below HB.out)).mono ?_
  rintro e w1 ⟨r, rfl, hr, hb⟩
  have HB1 := Lib.hid (below_step HB.out HB.out.size hb)
  clear hb
  rcases hr with rfl | ⟨r0, hr⟩
  · go_wp2
    go_ret
    exact ⟨_, rfl, .inl rfl, HB1.out⟩
  · have HR := Lib.hid hr
    clear hr
    go_wp2
    go_ret
    exact ⟨_, rfl, .inr ⟨r0, HR.out⟩, HB1.out⟩

/-- How much the batches hold. -/
def heftB : List (List Wr) → Nat
  | [] => 0
  | ws :: r => ws.length + bulk ws + heftB r

set_option maxRecDepth 100000 in
theorem heft_take : ∀ (bs : List (List Wr)) (k : Nat), k < bs.length → heftB (bs.take (k + 1)) = heftB (bs.take k) + ((bs.getD k []).length + bulk (bs.getD k []))
  | [], k, h => by simp at h
  | b :: r, 0, _ => by simp [heftB]
  | b :: r, k + 1, h => by
    have ih := heft_take r k (by simpa using h)
    simp only [List.take_succ_cons, heftB, List.getD_cons_succ]
    omega

set_option maxRecDepth 100000 in
theorem heft_one : ∀ (bs : List (List Wr)) (i : Nat), i < bs.length → (bs.getD i []).length + bulk (bs.getD i []) ≤ heftB bs
  | [], i, h => by simp at h
  | b :: r, 0, _ => by simp [heftB]
  | b :: r, i + 1, h => by
    have ih := heft_one r i (by simpa using h)
    simp only [heftB, List.getD_cons_succ]
    omega

set_option maxRecDepth 100000 in
theorem few_heft {bs : List (List Wr)} (h : heftB bs ≤ 1048576) : FewB bs := fun i hi => by
  have := heft_one bs i hi
  exact ⟨by omega, few_of_bulk (by omega)⟩

set_option maxRecDepth 100000 in
set_option maxHeartbeats 2000000 in
theorem szBatchS_any (a : Option Addr) (n cap : Nat) (left : Int) (bs : List (List Wr)) (w : World) (h0 : 0 ≤ left) (h1 : left ≤ 1048576) (hm : n ≤ maxLen) (hn : bs.length = n) (hl : ∀ i, i < bs.length → (bs.getD i []).length ≤ maxLen) (h : IsBs w a bs) :
    Calls Try.prog 5 #[.slice a n cap, .int .i64 left] w fun e w' => ∃ r : Int, e = .returned (.int .i64 r) ∧ (r = -1 ∨ (0 ≤ r ∧ r = left - n - heftB bs)) ∧ Below w.heap.size w w' := by
  have H := Lib.hid h
  have HN := Lib.hid hn
  have HLM := Lib.hid hl
  clear h hn hl
  have hm' : n ≤ 9223372036854775807 := hm
  clear hm
  by_cases hbig : left < (n : Int)
  · go_enter Try.func5, Try.ntmps5
    go_wp2
    go_ret
    exact ⟨_, rfl, .inl rfl, Below.refl _ _⟩
  go_enter Try.func5, Try.ntmps5
  go_wp2
  go_loopw [1, 5] (fun t i wr => ∃ (k : Nat) (z : Int), k ≤ n ∧ i = .int .i64 k ∧ t = .int .i64 z ∧ 0 ≤ z ∧ z ≤ 1048576 ∧ Hid (z = left - n - heftB (bs.take k)) ∧ Hid (Below w.heap.size w wr)) (fun _ i _ => n - (intOf i).toNat)
  case atStart => exact ⟨0, left - n, Nat.zero_le _, rfl, rfl, by omega, by omega, by simp [heftB, Hid], Below.refl _ _⟩
  case round =>
    obtain ⟨k, z, hk, rfl, rfl, z0, z1, HZ, HB⟩ := hrel
    by_cases hk' : k < n
    · have hkk : k < bs.length := by rw [HN.out]; exact hk'
      have i1 : (0 : Int) ≤ (k : Int) := by omega
      have i2 : (k : Int) < (n : Int) := by omega
      obtain ⟨b, o, ad, cp, rfl, hz, e0, hw⟩ := H.out.at HB.out hkk
      have hlm := HLM.out k hkk
      have HW := Lib.hid hw
      have HT := Lib.hid (heft_take bs k hkk)
      clear hw
      generalize bs.getD k [] = ws at *
      obtain ⟨q, hq⟩ : ∃ q, ws.length = q := ⟨_, rfl⟩
      rw [hq] at e0 hlm
      have HQ := Lib.hid hq
      clear hq
      go_wp2_with fail
      refine (szBatch_any ad q cp z ws _ z0 z1 hlm HQ.out HW.out).mono ?_
      rintro e w2 ⟨r, rfl, hr, hb⟩
      have HB2 := Lib.hid (below_step HB.out HB.out.size hb)
      clear hb
      rcases hr with rfl | ⟨r0, hr⟩
      · go_wp2
        go_ret
        exact ⟨_, rfl, .inl rfl, HB2.out⟩
      · have HR : Hid (r = left - n - heftB (bs.take (k + 1))) := by
          have h1 := HZ.out
          have h2 := HT.out
          have h3 := HQ.out
          show _ = _
          omega
        have r1 : r ≤ 1048576 := by omega
        clear hr
        go_wp2
        exact ⟨⟨k + 1, r, by omega, by go_num, rfl, r0, r1, HR, HB2⟩, by simp [intOf]; omega⟩
    · have hkk : k = n := by omega
      subst hkk
      have HF : Hid (z = left - k - heftB bs) := by
        have h := HZ.out
        rw [List.take_of_length_le (by rw [HN.out]; exact Nat.le_refl _)] at h
        exact h
      go_wp2
      go_ret
      exact ⟨z, rfl, .inr ⟨z0, HF.out⟩, HB.out⟩

end Go.Proofs.Ytidpcjcnhklmpam

/- The marks of batches stay within bounds: plain facts. -/
namespace Go.Proofs.Ytidpcjcnhklmpam
open Go.ChangeShapes Go.WideShapes Go.ChangeAt Go.RowKit Go.Joins

set_option maxRecDepth 100000 in
theorem markK_bd (ws : List Wr) (k : Int) : k ≤ markK ws k ws.length ∧ markK ws k ws.length ≤ k + 6 * ((ws.length + bulk ws : Nat) : Int) := by
  unfold markK
  rw [List.take_length]
  constructor <;> (push_cast; omega)

set_option maxRecDepth 100000 in
theorem markKB_bd : ∀ (es : List Bat) (k : Int), k ≤ markKB es k ∧ markKB es k ≤ k + 6 * (heftB (batsOf es) : Int)
  | [], k => by simp [markKB, batsOf, heftB]
  | e :: r, k => by
    have h1 := markK_bd e.ws k
    have h2 := markKB_bd r (markK e.ws k e.ws.length)
    have e1 : markKB (e :: r) k = markKB r (markK e.ws k e.ws.length) := rfl
    have e2 : heftB (batsOf (e :: r)) = e.ws.length + bulk e.ws + heftB (batsOf r) := rfl
    rw [e1, e2]
    generalize markK e.ws k e.ws.length = m at *
    push_cast at *
    omega

set_option maxRecDepth 100000 in
theorem heft_part : ∀ (bs : List (List Wr)) (i : Nat), heftB (bs.take i) ≤ heftB bs
  | [], i => by simp
  | b :: r, 0 => by simp [heftB]
  | b :: r, i + 1 => by
    have := heft_part r i
    simp only [List.take_succ_cons, heftB]
    omega

set_option maxRecDepth 100000 in
theorem tame_heft {es : List Bat} (h : heftB (batsOf es) ≤ 100000000) (h2 : ∀ i, i < es.length → (es.getD i btz).ws.length ≤ 1048576 ∧ bulk (es.getD i btz).ws ≤ 1048576) : TameB es 1 := by
  refine ⟨h2, fun i _ => ?_⟩
  have h3 := markKB_bd (es.take i) 1
  have h4 : batsOf (es.take i) = (batsOf es).take i := by simp [batsOf]
  rw [h4] at h3
  have h5 := heft_part (batsOf es) i
  omega

set_option maxRecDepth 100000 in
theorem tame_small {es : List Bat} (h : heftB (batsOf es) ≤ 1048576) : TameB es 1 := tame_heft (by omega) fun i hi => by
  have h1 := heft_one (batsOf es) i (by simpa [batsOf] using hi)
  rw [batsOf_get es hi] at h1
  omega

end Go.Proofs.Ytidpcjcnhklmpam
