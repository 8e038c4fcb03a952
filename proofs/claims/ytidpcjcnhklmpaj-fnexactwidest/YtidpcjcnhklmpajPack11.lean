import Derived.Test.YtidpcjcnhklmpajPack9
import Derived.Test.YtidpcjcnhklmpajPack10
import Derived.Deep.RegionHeld3
import Derived.WalkMore
import Derived.Test.YtidpcjcnhklmpajPack4
import Derived.Test.YtidpcjcnhklmpajPack8
import Derived.Test.YtidpcjcnhklmpajPack7
import Derived.Laws.ShiftsVarLaws
import Derived.Laws.BitsAllLaws
/- Lists of writes that a call answers, or that are handed to one: marks on them, and what marks leave alone. -/
namespace Go.Proofs.Ytidpcjcnhklmpaj
open Go.ChangeShapes Go.WideShapes Go.ChangeAt Go.RowKit Go.Joins
attribute [local go_sem ↓] Go.wp_at_zero Go.wp_at_succ

/-- What was written lies in these blocks. -/
abbrev Span (lo hi : Nat) (x : Nat) : Prop := lo ≤ x ∧ x < hi

/-- A list of writes of one's own, between two block numbers; it may be nil where it is empty. -/
def OwnA (w : World) (lo hi : Nat) (a : Option Addr) (ws : List Wr) (γ : Nat → Nat) : Prop :=
  ws = [] ∨ ∃ b, a = some ⟨b, 0, none⟩ ∧ OwnG w lo b ws γ ∧ b < hi ∧ ∀ i, i < ws.length → 0 < (ws.getD i wz).xs.length → γ i < hi

theorem OwnG.ownA {w : World} {lo b : Nat} {ws : List Wr} {γ : Nat → Nat} (h : OwnG w lo b ws γ) : OwnA w lo w.heap.size (some ⟨b, 0, none⟩) ws γ :=
  .inr ⟨b, rfl, h, h.lt, fun i hi hp => (h.deps i hi hp).2.1⟩

theorem RowG.ownA {w : World} {base : Nat} {v : Value} {es : List EnG} (h : RowG w base v es) {ws : List Wr} (hw : es.map (·.x) = ws) : ∃ a cap n, v = .slice a n cap ∧ ws.length = n ∧ OwnA w base w.heap.size a ws (gammaG es) := by
  obtain ⟨a, cap, h1, h2⟩ := h.form
  subst hw
  refine ⟨a, cap, es.length, h1, by simp, ?_⟩
  rcases h2 with h2 | ⟨b, rfl, h2⟩
  · exact .inl (by simp [h2])
  · exact h2.ownA

theorem OwnA.below {w w' : World} {lo hi : Nat} {a : Option Addr} {ws : List Wr} {γ : Nat → Nat} (h : OwnA w lo hi a ws γ) (hb : Below w.heap.size w w') : OwnA w' lo hi a ws γ := by
  rcases h with h | ⟨b, h1, h2, h3⟩
  · exact .inl h
  · exact .inr ⟨b, h1, h2.below hb, h3⟩

theorem OwnG.only {w w' : World} {S : Nat → Prop} {base b : Nat} {ws : List Wr} {γ : Nat → Nat} (h : OwnG w base b ws γ) (ho : Only S w w') (hS : ∀ x, S x → x < base) : OwnG w' base b ws γ where
  lt := by rw [ho.size]; exact h.lt
  le := h.le
  open_ := fun o => (ho.frozen _).trans (h.open_ o)
  at_ := fun i hi => by
    obtain ⟨a, cap, h1, h2⟩ := h.at_ i hi
    exact ⟨a, cap, h1.of_block (ho.block b fun e => by have := hS b e; have := h.le; omega), h2⟩
  deps := fun i hi hp => by
    obtain ⟨h1, h2, h3, h4, h5⟩ := h.deps i hi hp
    have hb : w'.heap[γ i]? = w.heap[γ i]? := ho.block _ fun e => by have := hS _ e; omega
    have e' : ∀ o, w'.cell? ⟨γ i, o, none⟩ = w.cell? ⟨γ i, o, none⟩ := fun o => World.cell?_of_block (a := ⟨γ i, o, none⟩) hb
    exact ⟨h1, by rw [ho.size]; exact h2, h3, fun j hj => ⟨(e' _).trans (h4 j hj).1, (e' _).trans (h4 j hj).2.1, (e' _).trans (h4 j hj).2.2.1, (e' _).trans (h4 j hj).2.2.2⟩, fun o => (ho.frozen _).trans (h5 o)⟩
  inj := h.inj

theorem OwnA.only {w w' : World} {S : Nat → Prop} {lo hi : Nat} {a : Option Addr} {ws : List Wr} {γ : Nat → Nat} (h : OwnA w lo hi a ws γ) (ho : Only S w w') (hS : ∀ x, S x → x < lo) : OwnA w' lo hi a ws γ := by
  rcases h with h | ⟨b, h1, h2, h3⟩
  · exact .inl h
  · exact .inr ⟨b, h1, h2.only ho hS, h3⟩

theorem OwnA.isWs {w : World} {lo hi : Nat} {a : Option Addr} {ws : List Wr} {γ : Nat → Nat} (h : OwnA w lo hi a ws γ) (hx : Few ws) : IsWs w a ws := by
  rcases h with h | ⟨b, h1, h2, _⟩
  · exact .inl h
  · rw [h1]
    exact h2.isWs hx

/-- A list that is marked. -/
def MarkedA (w : World) (a : Option Addr) (ws : List Wr) (γ : Nat → Nat) (k : Int) : Prop :=
  ws = [] ∨ ∃ b, a = some ⟨b, 0, none⟩ ∧ MarkedWs w b ws γ k ∧ b < w.heap.size ∧ ∀ i, i < ws.length → 0 < (ws.getD i wz).xs.length → γ i < w.heap.size

theorem MarkedA.below {w w' : World} {a : Option Addr} {ws : List Wr} {γ : Nat → Nat} {k : Int} (h : MarkedA w a ws γ k) (hb : Below w.heap.size w w') : MarkedA w' a ws γ k := by
  rcases h with h | ⟨b, h1, h2, h3, h4⟩
  · exact .inl h
  · exact .inr ⟨b, h1, h2.below hb h3 h4, Nat.lt_of_lt_of_le h3 hb.size, fun i hi hp => Nat.lt_of_lt_of_le (h4 i hi hp) hb.size⟩

set_option maxHeartbeats 1000000 in
theorem markWriteS_nil (a : Option Addr) (cap : Nat) (k : Int) (w : World) :
    Calls Try.prog 15 #[.slice a 0 cap, .int .i64 k] w fun e w' => e = .returned (.int .i64 k) ∧ w' = w := by
  go_enter Try.func15, Try.ntmps15
  go_wp2
  go_loopw [1, 5] (fun l i wr => i = .int .i64 0 ∧ l = .int .i64 k ∧ wr = w) (fun _ _ _ => 0)
  case atStart => exact ⟨rfl, rfl, rfl⟩
  case round =>
    obtain ⟨rfl, rfl, rfl⟩ := hrel
    go_wp2
    go_ret
    exact ⟨rfl, rfl⟩

set_option maxHeartbeats 1000000 in
theorem heldWriteS_nil (a : Option Addr) (cap : Nat) (k : Int) (w : World) :
    Calls Try.prog 31 #[.slice a 0 cap, .int .i64 k] w fun e w' => e = .returned (.int .i64 k) ∧ w' = w := by
  go_enter Try.func31, Try.ntmps31
  go_wp2
  go_loopw [1, 5] (fun l i wr => i = .int .i64 0 ∧ l = .int .i64 k ∧ wr = w) (fun _ _ _ => 0)
  case atStart => exact ⟨rfl, rfl, rfl⟩
  case round =>
    obtain ⟨rfl, rfl, rfl⟩ := hrel
    go_wp2
    go_ret
    exact ⟨rfl, rfl⟩

theorem markWriteS_all (lo hi n cap : Nat) (a : Option Addr) (k : Int) (ws : List Wr) (γ : Nat → Nat) (w : World) (hn : ws.length = n) (hm : n ≤ 1048576) (hbk : bulk ws ≤ 1048576) (h0 : 0 ≤ k) (h1 : k ≤ 1073741824) (h : OwnA w lo hi a ws γ) :
    Calls Try.prog 15 #[.slice a n cap, .int .i64 k] w fun e w' => e = .returned (.int .i64 (markK ws k n)) ∧ MarkedA w' a ws γ k ∧ Only (Span lo hi) w w' := by
  rcases h with h | ⟨b, rfl, h2, h3, h4⟩
  · subst h
    have hn0 : n = 0 := by rw [← hn]; rfl
    subst hn0
    refine (markWriteS_nil a cap k w).mono ?_
    rintro e w' ⟨rfl, rfl⟩
    exact ⟨by rw [markK_zero], .inl rfl, Only.refl _ _⟩
  · refine (markWriteS_any lo b n cap k ws γ w hn hm hbk h0 h1 h2).mono ?_
    rintro e w' ⟨rfl, h5, h6⟩
    have hS : ∀ x, TakenUp b ws γ x → Span lo hi x := fun x hx => by
      rcases hx with rfl | ⟨i, hi, hp, rfl⟩
      · exact ⟨h2.le, h3⟩
      · exact ⟨(h2.deps i hi hp).1, h4 i hi hp⟩
    refine ⟨rfl, .inr ⟨b, rfl, h5, by rw [h6.size]; exact h2.lt, fun i hi hp => by rw [h6.size]; exact (h2.deps i hi hp).2.1⟩, ?_⟩
    exact ⟨h6.os, h6.tape, h6.output, h6.size, fun x hx => h6.block x fun e => hx (hS x e), h6.frozen⟩

theorem heldWriteS_all (n cap : Nat) (a : Option Addr) (k : Int) (ws : List Wr) (γ : Nat → Nat) (w : World) (hn : ws.length = n) (hm : n ≤ 1048576) (hbk : bulk ws ≤ 1048576) (h0 : 0 ≤ k) (h1 : k ≤ 1073741824) (h : MarkedA w a ws γ k) :
    Calls Try.prog 31 #[.slice a n cap, .int .i64 k] w fun e w' => e = .returned (.int .i64 (markK ws k n)) ∧ w' = w := by
  rcases h with h | ⟨b, rfl, h2, _⟩
  · subst h
    have hn0 : n = 0 := by rw [← hn]; rfl
    subst hn0
    rw [markK_zero]
    exact heldWriteS_nil a cap k w
  · exact heldWriteS_any b n cap k ws γ w hn hm hbk h0 h1 h2

/-- The keys of dependencies that are right rise from 0 on: there are at most six. -/
theorem depsOk_len {xs : List Dp} (h : depsOkB xs = true) : xs.length ≤ 6 := by
  unfold depsOkB at h
  rw [List.all_eq_true] at h
  have hg : ∀ i, i < xs.length → (i : Int) ≤ (xs.getD i dz).k ∧ (xs.getD i dz).k ≤ 5 := by
    intro i
    induction i with
    | zero =>
      intro hi
      have := h 0 (List.mem_range.2 hi)
      unfold depGood btw at this
      simp only [Bool.and_eq_true, decide_eq_true_eq] at this
      exact ⟨by have := this.1.1; omega, this.1.2⟩
    | succ i ih =>
      intro hi
      have h1 := ih (by omega)
      have := h (i + 1) (List.mem_range.2 hi)
      unfold depGood btw at this
      simp only [Bool.and_eq_true, decide_eq_true_eq] at this
      rcases this.2.2 with h2 | h2
      · omega
      · rw [show i + 1 - 1 = i from rfl] at h2
        exact ⟨by omega, this.1.2⟩
  by_cases h7 : xs.length ≤ 6
  · exact h7
  · have := hg 6 (by omega)
    omega

theorem okW_len {x : Wr} (h : okW x = true) : x.xs.length ≤ 6 := by
  unfold okW writeOkB at h
  simp only [Bool.and_eq_true] at h
  exact depsOk_len h.2.2.2.1

theorem bulk_le {ws : List Wr} {m : Nat} (h : ∀ x ∈ ws, x.xs.length ≤ m) : bulk ws ≤ ws.length * m := by
  induction ws with
  | nil => simp [bulk]
  | cons x r ih =>
    have h1 := h x (by simp)
    have h2 := ih fun y hy => h y (by simp [hy])
    simp only [bulk, List.length_cons]
    rw [Nat.add_mul]
    omega

end Go.Proofs.Ytidpcjcnhklmpaj

/- The contract of impl.widestCover: a cover that has just what fits. -/
namespace Go.Proofs.Ytidpcjcnhklmpaj
open Go.ChangeShapes Go.WideShapes Go.ChangeAt Go.RowKit Go.Joins
attribute [local go_sem ↓] Go.wp_at_zero Go.wp_at_succ

theorem latest_rows {us vs : List Wr} {L : Nat → List Wr} (hu : ∀ x ∈ us, okW x = true) (hv : ∀ x ∈ vs, okW x = true) (h : ∀ k, k < 6 → (L k).Perm (startL us vs k) ∧ (L k).Pairwise fun x y => 0 ≤ tcmp x.c x.s x.q y.c y.s y.q) : Rows6 us vs (fun k => if k < 6 then L k else []) := by
  have hok : ∀ k, k < 6 → ∀ x ∈ L k, tagOkB x.c x.s x.q = true := fun k hk x hx => by
    have hm := (h k hk).1.mem_iff.1 hx
    unfold startL at hm
    rcases List.mem_append.1 hm with hm | hm
    · obtain ⟨u, h1, rfl⟩ := List.mem_map.1 hm
      exact (okW_parts (hu u (List.mem_filter.1 h1).1)).2.1
    · exact (okW_parts (hv x (List.mem_filter.1 hm).1)).2.1
  refine rows6_start hu hv (fun k hk => ?_) (fun k hk => ?_) (fun k => ?_)
  · simp only [if_pos hk]
    exact (h k hk).1
  · simp only [if_neg (Nat.not_lt.2 hk)]
  · by_cases hk : k < 6
    · simp only [if_pos hk]
      refine (h k hk).2.imp_of_mem ?_
      intro x y hx hy hxy
      exact (word_order (hok k hk x hx) (hok k hk y hy)).2 hxy
    · simp only [if_neg hk]
      exact List.Pairwise.nil

theorem start_few {us vs : List Wr} {L : Nat → List Wr} (hu : ∀ x ∈ us, okW x = true) (hv : ∀ x ∈ vs, okW x = true) (k : Nat) (h : (L k).Perm (startL us vs k)) : ∀ x ∈ L k, x.xs.length ≤ 1048576 ∧ tagOkB x.c x.s x.q = true ∧ depsOkB x.xs = true := fun x hx => by
  have hm := h.mem_iff.1 hx
  unfold startL at hm
  rcases List.mem_append.1 hm with hm | hm
  · obtain ⟨u, h1, rfl⟩ := List.mem_map.1 hm
    exact ⟨by simp [strip], (okW_parts (hu u (List.mem_filter.1 h1).1)).2.1, rfl⟩
  · have h1 := okW_parts (hv x (List.mem_filter.1 hm).1)
    have h2 := okW_len (hv x (List.mem_filter.1 hm).1)
    exact ⟨by omega, h1.2.1, h1.2.2⟩

set_option maxRecDepth 100000 in
set_option maxHeartbeats 16000000 in
theorem widest_any (a b : Option Addr) (n m cap cap' : Nat) (us vs : List Wr) (w : World) (hn : us.length = n) (hm : vs.length = m) (hs : n + m ≤ 1048576) (hx : Few us) (hy : Few vs) (hi : IsWs w a us) (hj : IsWs w b vs) (hr : Rise us) (hu : ∀ x ∈ us, okW x = true) (hv : ∀ x ∈ vs, okW x = true) :
    Calls Try.prog 64 #[.slice a n cap, .slice b m cap'] w fun e w' => ∃ c : Nat → Int, e = .returned (covV c) ∧ (∀ j, j < vs.length → chas c (vs.getD j wz).xs = fixS us vs j) ∧ Below w.heap.size w w' := by
  have HU := Lib.hid hu
  have HV := Lib.hid hv
  have HR := Lib.hid hr
  have HB0 : Hid (Below w.heap.size w (w.alloc (.cells (six zeroU) 83))) := (Below.refl _ _).alloc (Nat.le_refl _) _
  have HQ0 : Hid (Box6 (w.alloc (.cells (six zeroU) 83)) w.heap.size zeroU) := box6_new w _ _ _ rfl
  have HC := Lib.hid (latest_any a b n m cap cap' us vs (w.alloc (.cells (six zeroU) 83)) hn hm hs hx hy (hi.below HB0.out) (hj.below HB0.out) (fun i hi => okW_key (hu _ (getV_mem hi))) (fun i hi => okW_key (hv _ (getV_mem hi))))
  clear hi hj hx hy hn hm hu hv hr
  go_enter Try.func64, Try.ntmps64
  go_wp2
  go_step3
  go_wp2_with fail
  refine HC.out.mono ?_
  rintro e w1 ⟨P, C, L0, rfl, hL, hb⟩
  have HB1 := Lib.hid (below_step HB0.out HB0.out.size hb)
  have HQ1 := Lib.hid (HQ0.out.below hb)
  have HL := Lib.hid hL
  clear hb hL HC HB0 HQ0
  have HLB : Hid (Box6 ((w1.alloc (.cells (six (sl6 P C L0)) 99)).alloc (.cells (six zeroU) 83)) w1.heap.size (sl6 P C L0)) := (box6_new w1 _ _ _ rfl).below ((Below.refl _ _).alloc (Nat.le_refl _) _)
  have HCB : Hid (Box6 ((w1.alloc (.cells (six (sl6 P C L0)) 99)).alloc (.cells (six zeroU) 83)) (w1.heap.size + 1) zeroU) := by
    have e : (w1.alloc (.cells (six (sl6 P C L0)) 99)).heap.size = w1.heap.size + 1 := by simp
    rw [← e]
    exact box6_new (w1.alloc (.cells (six (sl6 P C L0)) 99)) 83 zeroU _ rfl
  have HK1 : Hid (Below w1.heap.size w1 ((w1.alloc (.cells (six (sl6 P C L0)) 99)).alloc (.cells (six zeroU) 83))) := ((Below.refl _ _).alloc (Nat.le_refl _) _).alloc (by simp) _
  have HFW := Lib.hid (fun k (hk : k < 6) => start_few (L := L0) HU.out HV.out k (HL.out k hk).2.2.1)
  go_wp2
  go_loopw [15] (fun i wr => ∃ k : Nat, k ≤ 6 ∧ i = .int .i64 k ∧ Hid (Box6 wr w1.heap.size (sl6 P C L0)) ∧ Hid (Box6 wr (w1.heap.size + 1) (fun j => if j < k then .int .u64 (headW (L0 j)) else .int .u64 0)) ∧ Hid (Below w1.heap.size w1 wr)) (fun i _ => 6 - (intOf i).toNat)
  case atStart => exact ⟨0, Nat.zero_le _, rfl, HLB, HCB.out.congr fun k _ => rfl, HK1⟩
  case round =>
    clear HLB HCB HK1
    obtain ⟨k, hk, rfl, HLB, HCB, HK⟩ := hrel
    by_cases hk' : k < 6
    · have i1 : (0 : Int) ≤ (k : Int) := by omega
      have i2 : (k : Int) < 6 := by omega
      have hix := run_index6 (sl6 P C L0) hk' _ rfl
      simp only [sl6] at hix
      have HFC := Lib.hid (firstWord_any (P k) (L0 k).length (C k) (L0 k) wr rfl ((HL.out k hk').1.below HK.out) (fun x hx => (HFW.out k hk' x hx).2.1))
      go_wp2_with fail
      refine HFC.out.mono ?_
      rintro e w2 ⟨rfl, hb⟩
      have HLB2 := Lib.hid (HLB.out.below hb)
      have HCB2 := Lib.hid (HCB.out.below hb)
      have HK2 := Lib.hid (below_step HK.out HK.out.size hb)
      clear hb HLB HCB HK HFC hix
      have cc := HCB2.out.cells k hk'
      have cf := HCB2.out.nf
      have HLB3 : Hid (Box6 (w2.setCell ⟨w1.heap.size + 1, k, none⟩ (.int .u64 (headW (L0 k)))) w1.heap.size (sl6 P C L0)) := HLB2.out.other (by omega) k _
      have HCB3 : Hid (Box6 (w2.setCell ⟨w1.heap.size + 1, k, none⟩ (.int .u64 (headW (L0 k)))) (w1.heap.size + 1) (fun j => if j < k + 1 then .int .u64 (headW (L0 j)) else .int .u64 0)) := (HCB2.out.set hk' _).congr fun j hj => by
        unfold updF
        by_cases e : j = k
        · subst e
          rw [if_pos rfl, if_pos (by omega)]
        · rw [if_neg e]
          show (if j < k then Value.int .u64 (headW (L0 j)) else .int .u64 0) = _
          by_cases e2 : j < k
          · rw [if_pos e2, if_pos (by omega)]
          · rw [if_neg e2, if_neg (by omega)]
      have HK3 : Hid (Below w1.heap.size w1 (w2.setCell ⟨w1.heap.size + 1, k, none⟩ (.int .u64 (headW (L0 k))))) := HK2.out.setCell (p := ⟨w1.heap.size + 1, k, none⟩) (by simp) _
      go_wp2
      exact ⟨⟨k + 1, by omega, by go_num, HLB3, HCB3, HK3⟩, by simp [intOf]; omega⟩
    · have hkk : k = 6 := by omega
      subst hkk
      have HRT : Hid (Rest w1 wr w1.heap.size (w1.heap.size + 1) n us vs P C (fun k => if k < 6 then L0 k else [])) := by
        refine ⟨latest_rows HU.out HV.out fun k hk => (HL.out k hk).2.2, fun k hk => ?_, fun k hk => ?_, fun k hk x hx => ?_, HLB.out.congr fun k hk => ?_, HCB.out.congr fun k hk => ?_, HK.out⟩
        · simp only [if_pos hk]
          exact (HL.out k hk).1
        · simp only [if_pos hk]
          exact (HL.out k hk).2.1
        · simp only [if_pos hk] at hx
          exact HFW.out k hk x hx
        · unfold sl6
          simp only [if_pos hk]
        · unfold covU tops
          simp only [if_pos hk]
      clear HLB HCB HK HFW HL
      generalize (fun k => if k < 6 then L0 k else []) = L at *
      go_wp2
      go_step3
      go_wp2
      rw [show ((6 : Nat) : Int) = 6 from rfl]
      go_loopw [25] (fun _ wr => ∃ (P : Nat → Option Addr) (C : Nat → Nat) (L : Nat → List Wr), Hid (Rest w1 wr w1.heap.size (w1.heap.size + 1) n us vs P C L)) (fun _ wr => lenSum wr w1.heap.size)
      case atStart => exact ⟨P, C, L, HRT⟩
      case round =>
        clear HRT
        obtain ⟨P, C, L, HT⟩ := hrel
        obtain ⟨wo, rfl⟩ : ∃ wo : World, wo = wr := ⟨_, rfl⟩
        have HME := Lib.hid (lenSum_eq HT.out.lb.cells)
        have c0 := HT.out.lb.cells 0 (by omega)
        have c1 := HT.out.lb.cells 1 (by omega)
        have c2 := HT.out.lb.cells 2 (by omega)
        have c3 := HT.out.lb.cells 3 (by omega)
        have c4 := HT.out.lb.cells 4 (by omega)
        have c5 := HT.out.lb.cells 5 (by omega)
        unfold sl6 at c0 c1 c2 c3 c4 c5
        go_wp2
        clear c0 c1 c2 c3 c4 c5
        go_loopw [25] (fun i wr => ∃ q : Nat, q ≤ 6 ∧ i = .int .i64 q ∧ Hid (Settled L q) ∧ Hid (Rest w1 wr w1.heap.size (w1.heap.size + 1) n us vs P C L)) (fun i _ => 6 - (intOf i).toNat)
        case atStart => exact ⟨0, Nat.zero_le _, rfl, fun k x t hk => absurd hk (Nat.not_lt_zero k), HT⟩
        case round =>
          clear HT
          obtain ⟨q, hq, rfl, HS, HT⟩ := hrel
          by_cases hq' : q < 6
          · have i1 : (0 : Int) ≤ (q : Int) := by omega
            have i2 : (q : Int) < 6 := by omega
            cases hl : L q with
            | nil =>
              have hix := run_index6 (sl6 P C L) hq' (.slice (P q) 0 (C q)) (by unfold sl6; rw [hl]; rfl)
              simp only [sl6] at hix
              have HS2 := Lib.hid (settled_next HS.out fun x t h => by rw [hl] at h; cases h)
              clear hl HS
              go_wp2_with fail
              clear hix
              have ne := aft_some wr
              refine wp_region_aft (by kernel_rfl) (by kernel_rfl) ?_
              repeat (first | go_big_quiet_step (fail))
              refine wpQuiet_nil ?_
              intro wq hwq
              have HT2 := Lib.hid (HT.out.below hwq)
              clear hwq ne HT
              go_wp2
              exact ⟨⟨q + 1, by omega, by go_num, HS2, HT2⟩, by simp [intOf]; omega⟩
            | cons x t =>
              obtain ⟨bb, oo, ad, cq, hP, hz, ⟨e0, e1, e2, e3, e4, e5, e6⟩, hd⟩ := (HT.out.ws q hq').at HT.out.keep (n := t.length + 1) (k := 0) (by rw [hl]; rfl) (by omega)
              rw [hl] at e0 e1 e2 e3 e4 e5 e6 hd
              simp only [List.getD_cons_zero, Nat.zero_mul, Nat.add_zero] at e0 e1 e2 e3 e4 e5 e6 hd
              have hix := run_index6 (sl6 P C L) hq' (.slice (some ⟨bb, oo, none⟩) (t.length + 1) (C q)) (by unfold sl6; rw [hl, hP]; rfl)
              simp only [sl6] at hix
              obtain ⟨hf1, -, hf3⟩ := HT.out.few q hq' x (by rw [hl]; exact List.mem_cons_self)
              have HCH : Hid (∀ p : Aft wr.heap.size wr, Calls Try.prog 65 #[covV (tops L), .slice ad x.xs.length cq] p.now fun e w' => e = .returned (.bool (chas (tops L) x.xs)) ∧ Below p.now.heap.size p.now w') := fun p => covHas_any (tops L) ad _ cq x.xs p.now rfl hf1 (hd.below p.below) hf3
              have z0 := HT.out.cb.cells 0 (by omega)
              have z1 := HT.out.cb.cells 1 (by omega)
              have z2 := HT.out.cb.cells 2 (by omega)
              have z3 := HT.out.cb.cells 3 (by omega)
              have z4 := HT.out.cb.cells 4 (by omega)
              have z5 := HT.out.cb.cells 5 (by omega)
              unfold covU at z0 z1 z2 z3 z4 z5
              have hzc := HT.out.cb.lt
              have t1 : (0 : Int) < ((t.length + 1 : Nat) : Int) := by omega
              cases hc : chas (tops L) x.xs
              · have HLQ := Lib.hid hl
                have HCX := Lib.hid hc
                rw [hc] at HCH
                clear hl hc hd HS
                generalize x.xs.length = xl at *
                go_wp2_with fail
                clear hix
                have ge6 := aft_cell hz e6
                have gz0 := aft_cell hzc z0
                have gz1 := aft_cell hzc z1
                have gz2 := aft_cell hzc z2
                have gz3 := aft_cell hzc z3
                have gz4 := aft_cell hzc z4
                have gz5 := aft_cell hzc z5
                have ne := aft_some wr
                refine wp_region_aft (by kernel_rfl) (by kernel_rfl) ?_
                repeat (first | go_big_quiet_step (first | (go_at_call 65; exact aft_of (HCH.out _))))
                refine wpQuiet_nil ?_
                intro wq hwq
                have HT2 := Lib.hid (HT.out.below hwq)
                clear hwq ne HT ge6 gz0 gz1 gz2 gz3 gz4 gz5 z0 z1 z2 z3 z4 z5 e0 e1 e2 e3 e4 e5 e6 HCH hzc hz
                have lc := HT2.out.lb.cells q hq'
                have lf := HT2.out.lb.nf
                by_cases hC : C q = 1
                · have HTW : Hid (IsWs w1 (some ⟨bb, oo, none⟩) t) := by
                    have h1 := HT2.out.ws q hq'
                    rw [hP, HLQ.out] at h1
                    have h2 := HT2.out.le q hq'
                    rw [HLQ.out] at h2
                    have h3 := isWs_tail h1 h2
                    rw [if_pos hC] at h3
                    exact h3
                  have HTG : Hid (∀ y ∈ t, tagOkB y.c y.s y.q = true) := fun y hy => (HT2.out.few q hq' y (by rw [HLQ.out]; exact List.mem_cons_of_mem _ hy)).2.1
                  have HKW : Hid (Below w1.heap.size w1 (wq.setCell ⟨w1.heap.size, q, none⟩ (.slice (some ⟨bb, oo, none⟩) t.length 0))) := HT2.out.keep.setCell (p := ⟨w1.heap.size, q, none⟩) (Nat.le_refl _) _
                  have HFC := Lib.hid (firstWord_any (some ⟨bb, oo, none⟩) t.length 0 t _ rfl (HTW.out.below HKW.out) HTG.out)
                  go_wp2_with fail
                  refine HFC.out.mono ?_
                  rintro e w3 ⟨rfl, hb⟩
                  have HST := Lib.hid (HT2.out.step HR.out HU.out HV.out hq' hP HLQ.out HCX.out (pa := (some ⟨bb, oo, none⟩)) (c' := 0) (by rw [if_pos hC]) (by rw [hC]) hb (Nat.le_refl _) (Nat.le_succ _) (by omega))
                  have HC3 := (HT2.out.cb.other (B' := w1.heap.size) (by omega) q (.slice (some ⟨bb, oo, none⟩) t.length 0)).below hb
                  have y0 := HC3.cells q hq'
                  have y1 := HC3.nf
                  clear HC3 hb HT2 HFC HKW HTW HTG lc lf
                  have hlt : lenSum (w3.setCell ⟨w1.heap.size + 1, q, none⟩ (.int .u64 (headW t))) w1.heap.size < lenSum wo w1.heap.size := by
                    rw [HME.out, lenSum_eq HST.out.lb.cells]
                    refine lenSum_less (L := L) hq' ?_ fun k hk => ?_
                    · unfold tailL
                      rw [if_pos rfl, HLQ.out]
                      simp
                    · unfold tailL
                      rw [if_neg hk]
                  generalize headW t = ht at *
                  go_wp2
                  exact ⟨⟨_, _, _, HST⟩, hlt⟩
                · have HTW : Hid (IsWs w1 (some ⟨bb, oo + 7, none⟩) t) := by
                    have h1 := HT2.out.ws q hq'
                    rw [hP, HLQ.out] at h1
                    have h2 := HT2.out.le q hq'
                    rw [HLQ.out] at h2
                    have h3 := isWs_tail h1 h2
                    rw [if_neg hC] at h3
                    exact h3
                  have HTG : Hid (∀ y ∈ t, tagOkB y.c y.s y.q = true) := fun y hy => (HT2.out.few q hq' y (by rw [HLQ.out]; exact List.mem_cons_of_mem _ hy)).2.1
                  have HKW : Hid (Below w1.heap.size w1 (wq.setCell ⟨w1.heap.size, q, none⟩ (.slice (some ⟨bb, oo + 7, none⟩) t.length (C q - 1)))) := HT2.out.keep.setCell (p := ⟨w1.heap.size, q, none⟩) (Nat.le_refl _) _
                  have HFC := Lib.hid (firstWord_any (some ⟨bb, oo + 7, none⟩) t.length (C q - 1) t _ rfl (HTW.out.below HKW.out) HTG.out)
                  go_wp2_with fail
                  refine HFC.out.mono ?_
                  rintro e w3 ⟨rfl, hb⟩
                  have HST := Lib.hid (HT2.out.step HR.out HU.out HV.out hq' hP HLQ.out HCX.out (pa := (some ⟨bb, oo + 7, none⟩)) (c' := (C q - 1)) (by rw [if_neg hC]) rfl hb (Nat.le_refl _) (Nat.le_succ _) (by omega))
                  have HC3 := (HT2.out.cb.other (B' := w1.heap.size) (by omega) q (.slice (some ⟨bb, oo + 7, none⟩) t.length (C q - 1))).below hb
                  have y0 := HC3.cells q hq'
                  have y1 := HC3.nf
                  clear HC3 hb HT2 HFC HKW HTW HTG lc lf
                  have hlt : lenSum (w3.setCell ⟨w1.heap.size + 1, q, none⟩ (.int .u64 (headW t))) w1.heap.size < lenSum wo w1.heap.size := by
                    rw [HME.out, lenSum_eq HST.out.lb.cells]
                    refine lenSum_less (L := L) hq' ?_ fun k hk => ?_
                    · unfold tailL
                      rw [if_pos rfl, HLQ.out]
                      simp
                    · unfold tailL
                      rw [if_neg hk]
                  generalize headW t = ht at *
                  go_wp2
                  exact ⟨⟨_, _, _, HST⟩, hlt⟩
              · have HS2 := Lib.hid (settled_next HS.out fun y t' h => by rw [hl] at h; injection h with h1 h2; rw [← h1]; exact hc)
                rw [hc] at HCH
                clear hl hc hd HS
                generalize x.xs.length = xl at *
                go_wp2_with fail
                clear hix
                have ge6 := aft_cell hz e6
                have gz0 := aft_cell hzc z0
                have gz1 := aft_cell hzc z1
                have gz2 := aft_cell hzc z2
                have gz3 := aft_cell hzc z3
                have gz4 := aft_cell hzc z4
                have gz5 := aft_cell hzc z5
                have ne := aft_some wr
                refine wp_region_aft (by kernel_rfl) (by kernel_rfl) ?_
                repeat (first | go_big_quiet_step (first | (go_at_call 65; exact aft_of (HCH.out _))))
                refine wpQuiet_nil ?_
                intro wq hwq
                have HT2 := Lib.hid (HT.out.below hwq)
                clear hwq ne HT ge6 gz0 gz1 gz2 gz3 gz4 gz5 z0 z1 z2 z3 z4 z5 e0 e1 e2 e3 e4 e5 e6 HCH hzc hz
                go_wp2
                exact ⟨⟨q + 1, by omega, by go_num, HS2, HT2⟩, by simp [intOf]; omega⟩
          · have hqq : q = 6 := by omega
            subst hqq
            have z0 := HT.out.cb.cells 0 (by omega)
            have z1 := HT.out.cb.cells 1 (by omega)
            have z2 := HT.out.cb.cells 2 (by omega)
            have z3 := HT.out.cb.cells 3 (by omega)
            have z4 := HT.out.cb.cells 4 (by omega)
            have z5 := HT.out.cb.cells 5 (by omega)
            unfold covU at z0 z1 z2 z3 z4 z5
            have HQ := HQ1.out.below HT.out.keep
            have r0 := HQ.cells 0 (by omega)
            have r1 := HQ.cells 1 (by omega)
            have r2 := HQ.cells 2 (by omega)
            have r3 := HQ.cells 3 (by omega)
            have r4 := HQ.cells 4 (by omega)
            have r5 := HQ.cells 5 (by omega)
            have rf := HQ.nf
            have HDN := Lib.hid (HT.out.rows.done HR.out HU.out HV.out HS.out)
            have HBB := Lib.hid (below_step HB1.out HB1.out.size HT.out.keep)
            clear HQ
            go_wp2
            try rw [Exit.noGoto_ret]
            refine bodyPost_ret (v := covV (tops L)) (by simp [results, Try.results64, go_sem, r0, r1, r2, r3, r4, r5]) rfl ⟨tops L, rfl, HDN.out, ?_⟩
            exact (((((HBB.out.setCell (by simp) _).setCell (by simp) _).setCell (by simp) _).setCell (by simp) _).setCell (by simp) _).setCell (by simp) _

end Go.Proofs.Ytidpcjcnhklmpaj

/- Sets of places as bits: contracts of the placeSet's has, add, others. -/
namespace Go.Proofs.Ytidpcjcnhklmpaj
open Go.ChangeShapes Go.WideShapes Go.ChangeAt Go.RowKit Go.Joins
attribute [local go_sem ↓] Go.wp_at_zero Go.wp_at_succ

/-- The words of a set. -/
structure BitW (w : World) (g N : Nat) (F : Nat → Nat) : Prop where
  lt : g < w.heap.size
  cells : CellsAre w g N (fun j => .int .u64 (F j : Int))
  nf : ∀ o, w.frozen? ⟨g, o, none⟩ = false
  small : ∀ j, F j < 18446744073709551616

theorem bit_at (x c : Nat) (hx : x < 18446744073709551616) : (bits .and .u64 ((x : Int) / 2 ^ c) 1 == (1 : Int)) = x.testBit c := by
  have h0 : (x : Int) / 2 ^ c = ((x / 2 ^ c : Nat) : Int) := by simp
  have h1 : x / 2 ^ c ≤ x := Nat.div_le_self _ _
  rw [h0]
  generalize hy : x / 2 ^ c = y at *
  rw [u64_and _ _ (by omega) (by omega) (by omega) (by omega)]
  simp only [Int.toNat_natCast, show (1 : Int).toNat = 1 from rfl]
  rw [Nat.and_one_is_mod, Nat.testBit_eq_decide_div_mod_eq, hy]
  rw [Bool.eq_iff_iff]
  simp
  omega

set_option maxHeartbeats 1000000 in
theorem placeHas_raw (g N c a b : Nat) (z : Int) (F : Nat → Nat) (w : World) (hF : BitW w g N F) (ha : a < N) (hz0 : 0 ≤ z) (hz1 : z ≤ 1099511627776) (d1 : z / 64 = a) (d2 : z % 64 = b) :
    Calls Try.prog 62 #[.slice (some ⟨g, 0, none⟩) N c, .int .i64 z] w fun e w' => e = .returned (.bool ((F a).testBit b)) ∧ w' = w := by
  have c0 := hF.cells a ha
  have HB := Lib.hid (bit_at (F a) b (hF.small a))
  have i0 : (0 : Int) ≤ (a : Int) := by omega
  have i1 : (a : Int) < (N : Int) := by omega
  clear hF
  generalize (F a).testBit b = tb at *
  go_enter Try.func62, Try.ntmps62
  go_wp2
  go_ret
  exact ⟨ret_bool HB.out, rfl⟩

theorem placeHas_any (g N c i : Nat) (F : Nat → Nat) (w : World) (hF : BitW w g N F) (hi : i ≤ 1048576) (hN : i / 64 < N) :
    Calls Try.prog 62 #[.slice (some ⟨g, 0, none⟩) N c, .int .i64 (i : Int)] w fun e w' => e = .returned (.bool ((F (i / 64)).testBit (i % 64))) ∧ w' = w :=
  placeHas_raw g N c (i / 64) (i % 64) (i : Int) F w hF hN (by omega) (by omega) (by omega) (by omega)

set_option maxHeartbeats 2000000 in
theorem placeAdd_raw (g N c a b : Nat) (z : Int) (F : Nat → Nat) (w : World) (hF : BitW w g N F) (ha : a < N) (hb : b < 64) (hz0 : 0 ≤ z) (hz1 : z ≤ 1099511627776) (d1 : z / 64 = a) (d2 : z % 64 = b) :
    Calls Try.prog 66 #[.slice (some ⟨g, 0, none⟩) N c, .int .i64 z] w fun e w' => e = .returned (.tuple #[]) ∧ BitW w' g N (updF F a (F a ||| 2 ^ b)) ∧ w.grownBy w' (some g) := by
  have c0 := hF.cells a ha
  have nf := hF.nf
  have i0 : (0 : Int) ≤ (a : Int) := by omega
  have i1 : (a : Int) < (N : Int) := by omega
  have HF := Lib.hid hF
  have t1 : IntKind.i64.wrap (z.tdiv 64) = (a : Int) := by
    rw [← d1, Int.tdiv_eq_ediv_of_nonneg hz0]
    exact IntWalk.i64_in _ (by omega)
  have t2 : z.tmod 64 = (b : Int) := by rw [← d2, Int.tmod_eq_emod_of_nonneg hz0]
  have hsh : IntKind.u64.wrap ((2 : Int) ^ b) = ((2 ^ b : Nat) : Int) := by
    have h2 : (2 : Nat) ^ b < 2 ^ 64 := Nat.pow_lt_pow_right (by omega) hb
    have h3 : (2 : Int) ^ b = ((2 ^ b : Nat) : Int) := by simp
    rw [h3]
    generalize (2 : Nat) ^ b = p at *
    rw [IntWalk.u64_in _ (by omega)]
  clear hF
  go_enter Try.func66, Try.ntmps66
  go_wp2_with fail
  refine wp_region_slots 10 [[(0, false)], [(1, false)], [(5, true)], [(4, true), (6, true)], [(7, true)], [(1, false)], [(9, true)], [(10, true)], [(8, true), (11, true)], [(4, true), (6, true)]] (fun w' => w' = w.drew) (fun w w' => w' = w) (by kernel_rfl) (by kernel_rfl) (by rfl) rfl (fun w w' h1 h2 => h2.trans h1) ?_
  iterate 10 (apply slot_eq; · (rintro ρ w' ⟨p1, p2, p3⟩ rfl hn; simp at hn; go_simp; exact ⟨rfl, rfl⟩))
  refine slot_end ?_
  rintro tv w4 rfl hF
  simp at hF
  obtain ⟨f13, f12, f11, f10, f9, f8, f7, f6, f5, f4⟩ := hF
  have h2 : (2 : Nat) ^ b < 2 ^ 64 := Nat.pow_lt_pow_right (by omega) hb
  have ho : bits .or .u64 ((F a : Nat) : Int) (((2 ^ b : Nat) : Int)) = ((F a ||| 2 ^ b : Nat) : Int) := u64_or_nat _ _ (HF.out.small a) h2
  have hw : F a ||| 2 ^ b < 2 ^ 64 := Nat.or_lt_two_pow (HF.out.small a) h2
  have HW : Hid (BitW (w.setCell ⟨g, a, none⟩ (.int .u64 ((F a ||| 2 ^ b : Nat) : Int))).drew g N (updF F a (F a ||| 2 ^ b))) := by
    have hd : CellsAre (w.setCell ⟨g, a, none⟩ (.int .u64 ((F a ||| 2 ^ b : Nat) : Int))).drew g N (fun j => if j = a then .int .u64 ((F a ||| 2 ^ b : Nat) : Int) else .int .u64 (F j : Int)) := HF.out.cells.set ha _
    refine ⟨by simpa using HF.out.lt, hd.congr fun o _ => ?_, fun o => ?_, fun j => ?_⟩
    · unfold updF
      by_cases e : o = a
      · rw [if_pos e, if_pos e]
      · rw [if_neg e, if_neg e]
    · have := HF.out.nf o
      simpa using this
    · unfold updF
      by_cases e : j = a
      · rw [if_pos e]
        exact hw
      · rw [if_neg e]
        exact HF.out.small j
  have HG : Hid (w.grownBy (w.setCell ⟨g, a, none⟩ (.int .u64 ((F a ||| 2 ^ b : Nat) : Int))).drew (some g)) := by
    have h := grown_set w g a (.int .u64 ((F a ||| 2 ^ b : Nat) : Int))
    exact Lib.hid ⟨rfl, rfl, rfl, h.size, h.block⟩
  have e3 : (2 : Int) ^ b = ((2 ^ b : Nat) : Int) := by simp
  rw [e3, ho] at f12
  rw [e3] at f11
  clear h2 ho hw hsh
  simp only [List.take_succ_cons, List.take_zero, List.drop_succ_cons, List.drop_zero, putAll, f13, f12, f11, f10, f9, f8, f7, f6, f5, f4]
  clear f13 f12 f11 f10 f9 f8 f7 f6 f5 f4
  simp only [Act.put, List.setIfInBounds_toArray, List.set_cons_succ, List.set_cons_zero]
  go_wp2
  exact bodyPost_end (v := .tuple #[]) (by simp [results, Try.results66]) rfl ⟨rfl, HW.out, HG.out⟩

/-- The set with place i. -/
def addBit (F : Nat → Nat) (i : Nat) : Nat → Nat := updF F (i / 64) (F (i / 64) ||| 2 ^ (i % 64))

def bitOf (F : Nat → Nat) (j : Nat) : Bool := (F (j / 64)).testBit (j % 64)

theorem bit_add (F : Nat → Nat) (i j : Nat) : bitOf (addBit F i) j = (decide (j = i) || bitOf F j) := by
  unfold bitOf addBit updF
  by_cases e : j / 64 = i / 64
  · rw [if_pos e, e, Nat.testBit_or, Nat.testBit_two_pow]
    by_cases e2 : j = i
    · subst e2
      simp
    · have : ¬ i % 64 = j % 64 := by omega
      simp [this, e2]
  · rw [if_neg e]
    have : j ≠ i := fun h => e (by rw [h])
    simp [this]

theorem placeAdd_any (g N c i : Nat) (F : Nat → Nat) (w : World) (hF : BitW w g N F) (hi : i ≤ 1048576) (hN : i / 64 < N) :
    Calls Try.prog 66 #[.slice (some ⟨g, 0, none⟩) N c, .int .i64 (i : Int)] w fun e w' => e = .returned (.tuple #[]) ∧ BitW w' g N (addBit F i) ∧ w.grownBy w' (some g) :=
  placeAdd_raw g N c (i / 64) (i % 64) (i : Int) F w hF hN (Nat.mod_lt _ (by omega)) (by omega) (by omega) (by omega) (by omega)

theorem BitW.of_block {w w' : World} {g N : Nat} {F : Nat → Nat} (h : BitW w g N F) (hs : w.heap.size ≤ w'.heap.size) (hb : w'.heap[g]? = w.heap[g]?) : BitW w' g N F :=
  ⟨Nat.lt_of_lt_of_le h.lt hs, h.cells.of_block hb, fun o => (World.frozen?_of_block (a := ⟨g, o, none⟩) hb).trans (h.nf o), h.small⟩

theorem BitW.below {w w' : World} {g N : Nat} {F : Nat → Nat} (h : BitW w g N F) (hb : Below w.heap.size w w') : BitW w' g N F := h.of_block hb.size (hb.block g h.lt)

theorem infoU64 : (Try.prog.info? 81).map (fun i => (i.zero, i.size, i.bytes)) = some (some (.int .u64 0), 1, 8) := by kernel_rfl

theorem run_make_words (n : Nat) (hn : n ≤ 1048576) (w : World) :
    (Instr.makeSlice 65 (.int .i64 (n : Int)) (.int .i64 (n : Int))).run Try.prog w = .ok (.slice (some ⟨w.heap.size, 0, none⟩) n n) (w.alloc (.cells (madeCells #[.int .u64 0] n) 81)) := by
  obtain ⟨i, hi, hzz⟩ := Option.map_eq_some_iff.1 infoU64
  simp only [Prod.mk.injEq] at hzz
  obtain ⟨hz, hs, hb⟩ := hzz
  have hr := run_make (P := Try.prog) w 65 81 i _ Try.underlying65 hi hz .i64 .i64 n n (by omega) (Int.le_refl _) (by rw [hb]; omega) (by omega)
  simp only [Int.toNat_natCast, hs, Nat.mul_one] at hr
  exact hr

theorem words_made (w : World) (n t : Nat) : BitW (w.alloc (.cells (madeCells #[.int .u64 0] n) t)) w.heap.size n (fun _ => 0) := by
  refine ⟨by simp, fun o ho => ?_, fun o => frozen_of_row _ _ o _ _ (heap_alloc_new w _), fun _ => by omega⟩
  rw [cell_of_row _ _ o _ _ (0, 0) (heap_alloc_new w _)]
  simp [madeCells, ho, Nat.mod_one]

end Go.Proofs.Ytidpcjcnhklmpaj

/- The specification's l03Those, Held, Fitting. -/
namespace Go.Proofs.Ytidpcjcnhklmpaj
open Go.ChangeShapes Go.WideShapes Go.ChangeAt Go.RowKit Go.Joins
attribute [local go_sem ↓] Go.wp_at_zero Go.wp_at_succ

theorem those_yes {vs : List Wr} {st : Nat → Bool} {fit : Bool} {k : Nat} (h : st k = fit) : thoseTo vs st fit (k + 1) = thoseTo vs st fit k ++ [vs.getD k wz] := by
  rw [thoseTo, if_pos h]

theorem those_no {vs : List Wr} {st : Nat → Bool} {fit : Bool} {k : Nat} (h : st k ≠ fit) : thoseTo vs st fit (k + 1) = thoseTo vs st fit k := by
  rw [thoseTo, if_neg h]

set_option maxRecDepth 100000 in
set_option maxHeartbeats 4000000 in
theorem l03Those_any (a b : Option Addr) (n m cap cap' : Nat) (us vs : List Wr) (fit : Bool) (w : World) (hn : us.length = n) (hm : vs.length = m) (hs : n + m ≤ 1048576) (hx : Few us) (hy : Few vs) (hi : IsWs w a us) (hj : IsWs w b vs) :
    Calls Try.prog 43 #[.slice a n cap, .slice b m cap', .bool fit] w fun e w' => ∃ g cp es L, e = .returned (.slice (some ⟨g, 0, none⟩) L cp) ∧ es.length = L ∧ es.map (·.x) = fitL us vs fit ∧ RowEs w' w.heap.size g cp es ∧ Below w.heap.size w w' := by
  have HI : Hid (IsWs w a us) := hi
  have HJ : Hid (IsWs w b vs) := hj
  have HN : Hid (us.length = n) := hn
  have HM : Hid (vs.length = m) := hm
  have HX : Hid (Few us) := hx
  have HY : Hid (Few vs) := hy
  clear hi hj hn hm hx hy
  obtain ⟨i0, hi0, hx0⟩ := Option.map_eq_some_iff.1 infoWr
  simp only [Prod.mk.injEq] at hx0
  have HI0 := Lib.hid hi0
  have HX0 := Lib.hid hx0
  clear hi0 hx0
  have HB0 : Hid (Below w.heap.size w (w.alloc (.cells #[] 52))) := (Below.refl _ _).alloc (Nat.le_refl _) _
  have HR0 : Hid (RowEs (w.alloc (.cells #[] 52)) w.heap.size w.heap.size 0 []) := rowEs_start w _ (Nat.le_refl _)
  have HC : Hid (Calls Try.prog 47 #[.slice a n cap, .slice b m cap'] (w.alloc (.cells #[] 52)) fun e w' => e = .returned (.bool (rightB us vs)) ∧ Below (w.alloc (.cells #[] 52)).heap.size (w.alloc (.cells #[] 52)) w') :=
    l03Right_any a b n m cap cap' us vs _ HN.out HM.out (by omega) (by omega) HX.out HY.out (HI.out.below HB0.out) (HJ.out.below HB0.out)
  have HFL : Hid (fitL us vs fit = match rightB us vs with
    | true => thoseTo vs (fixS us vs) fit vs.length
    | false => []) := rfl
  cases hr : rightB us vs
  · have HF : Hid (fitL us vs fit = []) := by
      have := HFL.out
      rw [hr] at this
      exact this
    rw [hr] at HC
    clear hr HFL
    go_enter Try.func43, Try.ntmps43
    go_wp2_with fail
    refine HC.out.mono ?_
    rintro e w1 ⟨rfl, hb⟩
    have HB1 := Lib.hid (below_step HB0.out HB0.out.size hb)
    have HR1 := Lib.hid (HR0.out.below hb)
    clear hb HC HB0 HR0
    go_wp2
    go_ret
    exact ⟨_, _, [], 0, rfl, rfl, HF.out.symm, HR1.out, HB1.out⟩
  · have HF : Hid (fitL us vs fit = thoseTo vs (fixS us vs) fit vs.length) := by
      have := HFL.out
      rw [hr] at this
      exact this
    rw [hr] at HC
    clear hr HFL
    go_enter Try.func43, Try.ntmps43
    go_wp2_with fail
    refine HC.out.mono ?_
    rintro e w1 ⟨rfl, hb⟩
    have HB1 := Lib.hid (below_step HB0.out HB0.out.size hb)
    have HR1 := Lib.hid (HR0.out.below hb)
    clear hb HC HB0 HR0
    go_wp2_with fail
    refine (l03Stay_any a b n m cap cap' us vs _ HN.out HM.out hs HX.out HY.out (HI.out.below HB1.out) (HJ.out.below HB1.out)).mono ?_
    rintro e w2 ⟨rfl, r, hrow, hfix, hb⟩
    have HS2 : Hid (w2.rowIs w1.heap.size 4 m (bfill (fixS us vs))) := hrow.congr fun j hj => by
      unfold bfill
      rw [stay_is_fix (fun j hj => hfix j (by rw [← HM.out]; exact hj)) j (by rw [HM.out]; exact hj)]
    have HB2 := Lib.hid (below_step HB1.out HB1.out.size hb)
    have HR2 := Lib.hid (HR1.out.below hb)
    have hg1 : w.heap.size ≠ w1.heap.size := by have := HR1.out.lt; omega
    clear hrow hfix hb HB1 HR1
    generalize w1.heap.size = B at *
    generalize fixS us vs = st at *
    go_wp2
    go_loopw [7, 9] (fun t i wr => ∃ (k L g cp : Nat) (es : List En), k ≤ m ∧ L ≤ k ∧ i = .int .i64 k ∧ t = .slice (some ⟨g, 0, none⟩) L cp ∧ g ≠ B ∧ Hid (es.length = L) ∧ Hid (es.map (·.x) = thoseTo vs st fit k) ∧ Hid (RowEs wr w.heap.size g cp es) ∧ Hid (wr.rowIs B 4 m (bfill st)) ∧ Hid (Below w.heap.size w wr)) (fun _ i _ => m - (intOf i).toNat)
    case atStart => exact ⟨0, 0, w.heap.size, 0, [], Nat.zero_le _, Nat.le_refl _, rfl, rfl, hg1, rfl, rfl, HR2, HS2, HB2⟩
    case round =>
      clear HR2 HS2 HB2 hg1
      obtain ⟨k, L, g, cp, es, hk, hL, rfl, rfl, hgB, HL, HE, HR, HS, HB⟩ := hrel
      by_cases hk' : k < m
      · have i1 : (0 : Int) ≤ (k : Int) := by omega
        have i2 : (k : Int) < (m : Int) := by omega
        have c0 := HS.out.cell (i := k) (by omega)
        unfold bfill at c0
        by_cases hb : st k = fit
        · rw [hb] at c0
          obtain ⟨bb, oo, ad, cq, rfl, hz, ⟨e0, e1, e2, e3, e4, e5, e6⟩, hd⟩ := HJ.out.at HB.out HM.out hk'
          have hkb : k < vs.length := by rw [HM.out]; exact hk'
          have hxl := HY.out k hkb
          have HD := Lib.hid hd
          have HT : Hid (thoseTo vs st fit (k + 1) = thoseTo vs st fit k ++ [vs.getD k wz]) := those_yes hb
          clear hd HJ hb
          generalize vs.getD k wz = x at *
          obtain ⟨xk, xc, xs', xq, xv, xd, xx⟩ := x
          simp only at e0 e1 e2 e3 e4 e5 e6 hxl HD
          go_wp2_with fail
          refine (copy_any ⟨xk, xc, xs', xq, xv, xd, xx⟩ _ _ _ hxl HD.out).mono ?_
          rintro e w2 ⟨g2, cp2, rfl, hg1, hg2, hg3, hb⟩
          have HB2 : Hid (Below w.heap.size w w2) := below_step HB.out HB.out.size hb
          have HR2 : Hid (RowEs w2 w.heap.size g cp es) := HR.out.below hb
          have HS2 : Hid (w2.rowIs B 4 m (bfill st)) := HS.out.of_block (hb.block _ HS.out.lt)
          have HG : Hid (HoldsDeps w2 g2 0 xx) := hg3
          have hg5 : g2 ≠ g := by have := HR.out.lt; omega
          have hg6 : w.heap.size ≤ g2 := Nat.le_trans HB.out.size hg1
          clear hb hg3 hg1 HD
          have HBA : Hid (Below w2.heap.size w2 (w2.alloc (.cells #[.int .i64 xk, .int .i64 xc, .int .i64 xs', .int .i64 xq, .int .i64 xv, .bool xd, .slice (some ⟨g2, 0, none⟩) xx.length cp2] 52))) := (Below.refl _ _).alloc (Nat.le_refl _) _
          have HW := Lib.hid (HR2.out.below HBA.out)
          have HS3 := Lib.hid (HS2.out.of_block (HBA.out.block _ HS2.out.lt))
          have HOW : Hid ((w2.alloc (.cells #[.int .i64 xk, .int .i64 xc, .int .i64 xs', .int .i64 xq, .int .i64 xv, .bool xd, .slice (some ⟨g2, 0, none⟩) xx.length cp2] 52)).ownsRow w.heap.size 52 7 (.slice (some ⟨g, 0, none⟩) L cp) L (es.flatMap wrVals)) := by
            have := HW.out.own
            rw [HL.out] at this
            exact this
          have hsz : w.heap.size ≤ w2.heap.size := HB2.out.size
          go_wp2_with (at_builtin; refine wpList_append_lies _ (by rfl) _ _ _ (by rfl) w.heap.size 52 i0 (wrV 0 0 0 0 0 false none 0 0) 7 72 Try.underlying26 HI0.out HX0.out.1 HX0.out.2.1 HX0.out.2.2 (by rfl) (by omega) (.slice (some ⟨g, 0, none⟩) L cp) L (es.flatMap wrVals) (by rfl) HOW.out ⟨w2.heap.size, 0, none⟩ 1 1 (wrVals ⟨⟨xk, xc, xs', xq, xv, xd, xx⟩, g2, cp2⟩) (by rfl) (by rfl) (one_cells w2 _ ⟨⟨xk, xc, xs', xq, xv, xd, xx⟩, g2, cp2⟩) (by simpa using vals_one [⟨⟨xk, xc, xs', xq, xv, xd, xx⟩, g2, cp2⟩]) (by omega) (by unfold maxLen; omega) (by omega) (by simp; omega) _ rfl ?_; intro g3 cp3 w5 hown hgrow hg3 _; refine Hid.out ?_)
          refine Lib.hid ?_
          have HB5 : Hid (Below w.heap.size w w5) := (HB2.out.alloc hsz _).grown hgrow (by simp; omega) fun j hj => by simp only [Value.ownBlock, Option.some.injEq] at hj; have := HR2.out.le; omega
          have HR5 : Hid (RowEs w5 w.heap.size g3 cp3 (es ++ [⟨⟨xk, xc, xs', xq, xv, xd, xx⟩, g2, cp2⟩])) := by
            refine HW.out.more ⟨hg6, by simp; omega, hg5, HG.out.below HBA.out hg2⟩ (by rw [HL.out]; exact hown) hgrow hg3
          have HS5 : Hid (w5.rowIs B 4 m (bfill st)) := HS3.out.of_block (hgrow.block B HS3.out.lt (by simpa [Value.ownBlock] using Ne.symm hgB))
          have hgB5 : g3 ≠ B := by
            have := HS3.out.lt
            rcases hg3 with h | h
            · simp only [Value.ownBlock, Option.some.injEq] at h
              omega
            · omega
          have HE5 : Hid ((es ++ [(⟨⟨xk, xc, xs', xq, xv, xd, xx⟩, g2, cp2⟩ : En)]).map (·.x) = thoseTo vs st fit (k + 1)) := by
            rw [HT.out, List.map_append, HE.out]
            exact Lib.hid rfl
          have HL5 : Hid ((es ++ [(⟨⟨xk, xc, xs', xq, xv, xd, xx⟩, g2, cp2⟩ : En)]).length = L + 1) := by
            rw [List.length_append, HL.out]
            exact Lib.hid rfl
          clear hown hgrow HW HOW
          go_wp2
          exact ⟨⟨k + 1, L + 1, g3, cp3, _, by omega, by omega, by go_num, rfl, hgB5, HL5, HE5, HR5, HS5, HB5⟩, by simp [intOf]; omega⟩
        · have HE2 : Hid (es.map (·.x) = thoseTo vs st fit (k + 1)) := HE.out.trans (those_no hb).symm
          generalize st k = sk at *
          cases sk <;> cases fit <;> first
            | exact absurd rfl hb
            | (clear hb HE
               go_wp2
               exact ⟨⟨k + 1, L, g, cp, es, by omega, by omega, by go_num, rfl, hgB, HL, HE2, HR, HS, HB⟩, by simp [intOf]; omega⟩)
      · have hkk : k = m := by omega
        subst hkk
        have HE2 : Hid (es.map (·.x) = fitL us vs fit) := by
          rw [HF.out, HM.out]
          exact HE
        go_wp2
        go_ret
        exact ⟨g, cp, es, L, rfl, HL.out, HE2.out, HR.out, HB.out⟩

set_option maxHeartbeats 1000000 in
theorem specFitting_any (a b : Option Addr) (n m cap cap' : Nat) (us vs : List Wr) (w : World) (hn : us.length = n) (hm : vs.length = m) (hs : n + m ≤ 1048576) (hx : Few us) (hy : Few vs) (hi : IsWs w a us) (hj : IsWs w b vs) :
    Calls Try.prog 29 #[.slice a n cap, .slice b m cap'] w fun e w' => ∃ g cp es L, e = .returned (.slice (some ⟨g, 0, none⟩) L cp) ∧ es.length = L ∧ es.map (·.x) = fitL us vs true ∧ RowEs w' w.heap.size g cp es ∧ Below w.heap.size w w' := by
  have HC := Lib.hid (l03Those_any a b n m cap cap' us vs true w hn hm hs hx hy hi hj)
  clear hn hm hx hy hi hj
  go_enter Try.func29, Try.ntmps29
  go_wp2_with fail
  refine HC.out.mono ?_
  rintro e w1 ⟨g, cp, es, L, rfl, h1, h2, h3, h4⟩
  have HA := Lib.hid (And.intro h1 (And.intro h2 (And.intro h3 h4)))
  clear h1 h2 h3 h4 HC
  go_wp2
  go_ret
  exact ⟨g, cp, es, L, rfl, HA.out.1, HA.out.2.1, HA.out.2.2.1, HA.out.2.2.2⟩

end Go.Proofs.Ytidpcjcnhklmpaj

/- Contracts of the placeSet's others, of impl.writesAt. -/
namespace Go.Proofs.Ytidpcjcnhklmpaj
open Go.ChangeShapes Go.WideShapes Go.ChangeAt Go.RowKit Go.Joins
attribute [local go_sem ↓] Go.wp_at_zero Go.wp_at_succ

def notW (F : Nat → Nat) : Nat → Nat := fun j => 18446744073709551615 - F j

theorem bit_not (F : Nat → Nat) (hF : ∀ j, F j < 18446744073709551616) (j : Nat) : bitOf (notW F) j = !bitOf F j := by
  unfold bitOf notW
  have h := Nat.testBit_two_pow_sub_succ (n := 64) (hF (j / 64)) (j % 64)
  have e : 2 ^ 64 - (F (j / 64) + 1) = 18446744073709551615 - F (j / 64) := by omega
  rw [e] at h
  rw [h]
  have : j % 64 < 64 := Nat.mod_lt _ (by omega)
  simp [this]

theorem xor_all (x : Nat) (h : x < 18446744073709551616) : 18446744073709551615 ^^^ x = 18446744073709551615 - x := by
  apply Nat.eq_of_testBit_eq
  intro i
  have h1 := Nat.testBit_two_pow_sub_one 64 i
  have h2 := Nat.testBit_two_pow_sub_succ (n := 64) h i
  have e1 : 2 ^ 64 - 1 = 18446744073709551615 := by decide
  have e2 : 2 ^ 64 - (x + 1) = 18446744073709551615 - x := by omega
  rw [e1] at h1
  rw [e2] at h2
  rw [Nat.testBit_xor, h1, h2]
  by_cases hi : i < 64
  · simp [hi]
  · have : x.testBit i = false := Nat.testBit_lt_two_pow (Nat.lt_of_lt_of_le h (by
      have := Nat.pow_le_pow_right (n := 2) (by omega) (Nat.not_lt.1 hi)
      omega))
    simp [hi, this]

theorem bits_not (x : Nat) (h : x < 18446744073709551616) : bits BinOp.xor IntKind.u64 (if IntKind.u64.signed = true then -1 else IntKind.u64.max) (x : Int) = ((18446744073709551615 - x : Nat) : Int) := by
  have e : (if IntKind.u64.signed = true then (-1 : Int) else IntKind.u64.max) = ((18446744073709551615 : Nat) : Int) := by decide
  rw [e, u64_xor_nat _ _ (by omega) h, xor_all x h]

theorem those_not (vs : List Wr) (F : Nat → Nat) (hF : ∀ j, F j < 18446744073709551616) : ∀ k, thoseTo vs (bitOf (notW F)) true k = thoseTo vs (bitOf F) false k
  | 0 => rfl
  | k + 1 => by
    have ih := those_not vs F hF k
    unfold thoseTo
    rw [ih, bit_not F hF]
    cases bitOf F k <;> rfl

set_option maxRecDepth 100000 in
set_option maxHeartbeats 8000000 in
theorem writesAt_any (a : Option Addr) (n cap g N c : Nat) (ws : List Wr) (F : Nat → Nat) (w : World) (hn : ws.length = n) (hm : n ≤ 1048576) (hx : Few ws) (hi : IsWs w a ws) (hF : BitW w g N F) (hN : n ≤ N * 64) :
    Calls Try.prog 45 #[.slice a n cap, .slice (some ⟨g, 0, none⟩) N c] w fun e w' => ∃ v es, e = .returned v ∧ es.map (·.x) = thoseTo ws (bitOf F) true n ∧ RowG w' w.heap.size v es ∧ Below w.heap.size w w' := by
  have HI := Lib.hid hi
  have HN := Lib.hid hn
  have HX := Lib.hid hx
  have HF := Lib.hid hF
  clear hi hn hx hF
  obtain ⟨i0, hi0, hx0⟩ := Option.map_eq_some_iff.1 infoWr
  simp only [Prod.mk.injEq] at hx0
  have HI0 := Lib.hid hi0
  have HX0 := Lib.hid hx0
  clear hi0 hx0
  go_enter Try.func45, Try.ntmps45
  go_wp2
  go_loopw [5, 10] (fun t i wr => ∃ (k : Nat) (v : Value) (es : List EnG), k ≤ n ∧ i = .int .i64 k ∧ v = t ∧ Hid (es.map (·.x) = thoseTo ws (bitOf F) true k) ∧ Hid (RowG wr w.heap.size v es) ∧ Hid (Below w.heap.size w wr)) (fun _ i _ => n - (intOf i).toNat)
  case atStart => exact ⟨0, _, [], Nat.zero_le _, rfl, rfl, rfl, rowG_nil _ _, Below.refl _ _⟩
  case round =>
    obtain ⟨k, v, es, hk, rfl, rfl, HE, HR, HB⟩ := hrel
    have hln : es.length ≤ k := by
      have h1 := those_len ws (bitOf F) true k
      rw [← HE.out, List.length_map] at h1
      exact h1
    by_cases hk' : k < n
    · obtain ⟨bb, oo, ad, cq, rfl, hz, ⟨e0, e1, e2, e3, e4, e5, e6⟩, hd⟩ := HI.out.at HB.out HN.out hk'
      have i1 : (0 : Int) ≤ (k : Int) := by omega
      have i2 : (k : Int) < (n : Int) := by omega
      have hxl := HX.out k (by rw [HN.out]; exact hk')
      have HD := Lib.hid hd
      have hbk : (F (k / 64)).testBit (k % 64) = bitOf F k := rfl
      have HPH : Hid (∀ W, Below wr.heap.size wr W → Calls Try.prog 62 #[.slice (some ⟨g, 0, none⟩) N c, .int .i64 (k : Int)] W fun e w' => e = .returned (.bool (bitOf F k)) ∧ w' = W) := fun W hW => placeHas_any g N c k F W ((HF.out.below HB.out).below hW) (by omega) (by omega)
      have HTY : Hid (bitOf F k = true → thoseTo ws (bitOf F) true (k + 1) = thoseTo ws (bitOf F) true k ++ [ws.getD k wz]) := fun h => those_yes h
      have HTN : Hid (bitOf F k = false → thoseTo ws (bitOf F) true (k + 1) = thoseTo ws (bitOf F) true k) := fun h => those_no (by rw [h]; simp)
      clear hd HI hbk
      generalize ws.getD k wz = x at *
      obtain ⟨xk, xc, xs', xq, xv, xd, xx⟩ := x
      simp only at e0 e1 e2 e3 e4 e5 e6 HD hxl HTY
      have HBX : Hid (Below wr.heap.size wr (wr.alloc (.cells #[.int .i64 xk, .int .i64 xc, .int .i64 xs', .int .i64 xq, .int .i64 xv, .bool xd, .slice ad xx.length cq] 52))) := (Below.refl _ _).alloc (Nat.le_refl _) _
      have HR1 := Lib.hid (HR.out.below HBX.out)
      have HB1 := Lib.hid (below_step HB.out HB.out.size HBX.out)
      cases hb : bitOf F k
      · have HE1 : Hid (es.map (·.x) = thoseTo ws (bitOf F) true (k + 1)) := HE.out.trans (HTN.out hb).symm
        rw [hb] at HPH
        clear hb HTY HTN HE HR HB
        go_wp2_with fail
        refine (HPH.out _ HBX.out).mono ?_
        rintro e w1 ⟨rfl, rfl⟩
        go_wp2
        exact ⟨⟨k + 1, _, es, by omega, by go_num, rfl, HE1, HR1, HB1⟩, by simp [intOf]; omega⟩
      · have HTE := Lib.hid (HTY.out hb)
        rw [hb] at HPH
        clear hb HTY HTN
        have hwr : w.heap.size ≤ wr.heap.size := HB.out.size
        go_wp2_with fail
        refine (HPH.out _ HBX.out).mono ?_
        rintro e w1 ⟨rfl, rfl⟩
        go_wp2_with fail
        refine (icopy_any ⟨xk, xc, xs', xq, xv, xd, xx⟩ ad cq _ hxl (HD.out.below HBX.out)).mono ?_
        rintro e w2 ⟨a2, g2, cp2, rfl, hg, hb⟩
        have HB2 : Hid (Below w.heap.size w w2) := below_step HB1.out HB1.out.size hb
        have HG : Hid (FreshDeps wr.heap.size w2 a2 g2 xx) := hg.mono HBX.out.size
        have HR2 : Hid (RowG w2 w.heap.size _ es) := HR1.out.below hb
        have HAP : Hid (∀ d ∈ es, 0 < d.x.xs.length → 0 < xx.length → d.g ≠ g2) := fun d hd hp hq => by
          have h1 := ((HR.out.deps d hd).1 hp).2.2.1
          have h2 := (HG.out hq).2.1
          omega
        have HV : Hid (0 < xx.length → v.ownBlock ≠ some g2) := fun hq e => by
          have h1 := (HR.out.own.lt g2 e).2
          have h2 := (HG.out hq).2.1
          omega
        clear hb hg HB1 HBX HD HR1 HR HB HPH
        have HBC : Hid (Below w2.heap.size w2 (w2.alloc (.cells #[.int .i64 xk, .int .i64 xc, .int .i64 xs', .int .i64 xq, .int .i64 xv, .bool xd, .slice a2 xx.length cp2] 52))) := (Below.refl _ _).alloc (Nat.le_refl _) _
        have HRC := Lib.hid (HR2.out.below HBC.out)
        have hsz : w.heap.size ≤ w2.heap.size := HB2.out.size
        go_wp2_with (at_builtin; refine wpList_append_lies _ (by rfl) _ _ _ (by rfl) w.heap.size 52 i0 (wrV 0 0 0 0 0 false none 0 0) 7 72 Try.underlying26 HI0.out HX0.out.1 HX0.out.2.1 HX0.out.2.2 (by rfl) (by omega) v es.length (es.flatMap wrValsG) (by rfl) HRC.out.own ⟨w2.heap.size, 0, none⟩ 1 1 (wrValsG ⟨⟨xk, xc, xs', xq, xv, xd, xx⟩, a2, g2, cp2⟩) (by rfl) (by rfl) (oneG_cells w2 _ ⟨⟨xk, xc, xs', xq, xv, xd, xx⟩, a2, g2, cp2⟩) (by simpa using valsG_one [⟨⟨xk, xc, xs', xq, xv, xd, xx⟩, a2, g2, cp2⟩]) (by omega) (by unfold maxLen; omega) (by omega) (by simp; omega) _ rfl ?_; intro g3 cp3 w5 hown hgrow hg3 _; refine Hid.out ?_)
        refine Lib.hid ?_
        have HB5 : Hid (Below w.heap.size w w5) := (HB2.out.alloc hsz _).grown hgrow (by simp; omega) fun j hj => (HR2.out.own.lt j hj).1
        have HR5 : Hid (RowG w5 w.heap.size (.slice (some ⟨g3, 0, none⟩) (es.length + 1) cp3) (es ++ [⟨⟨xk, xc, xs', xq, xv, xd, xx⟩, a2, g2, cp2⟩])) :=
          HRC.out.more ((HG.out.below HBC.out).mono hwr) HV.out HAP.out hown hgrow hg3
        have HE5 : Hid ((es ++ [(⟨⟨xk, xc, xs', xq, xv, xd, xx⟩, a2, g2, cp2⟩ : EnG)]).map (·.x) = thoseTo ws (bitOf F) true (k + 1)) := by
          rw [HTE.out, List.map_append, HE.out]
          exact Lib.hid rfl
        clear hown hgrow HRC HBC
        go_wp2
        exact ⟨⟨k + 1, _, _, by omega, by go_num, rfl, HE5, HR5, HB5⟩, by simp [intOf]; omega⟩
    · have hkk : k = n := by omega
      subst hkk
      go_wp2
      go_ret
      exact ⟨_, es, rfl, HE.out, HR.out, HB.out⟩

end Go.Proofs.Ytidpcjcnhklmpaj

/- Contracts of impl.allWriteOk, impl.mayBeSeen. -/
namespace Go.Proofs.Ytidpcjcnhklmpaj
open Go.ChangeShapes Go.WideShapes Go.ChangeAt Go.RowKit Go.Joins
attribute [local go_sem ↓] Go.wp_at_zero Go.wp_at_succ

theorem all_false {vs : List Wr} {k : Nat} (h : k < vs.length) (hk : okW (vs.getD k wz) = false) : vs.all okW = false := by
  rw [List.all_eq_false]
  refine ⟨vs.getD k wz, ?_, by rw [hk]; simp⟩
  have e : vs.getD k wz = vs[k] := by simp [List.getD, h]
  rw [e]
  exact List.getElem_mem h

theorem all_true {vs : List Wr} {n : Nat} (hn : vs.length = n) (h : ∀ j, j < n → okW (vs.getD j wz) = true) : vs.all okW = true := by
  rw [List.all_eq_true]
  intro x hx
  obtain ⟨i, hi, rfl⟩ := List.mem_iff_getElem.1 hx
  have := h i (by rw [← hn]; exact hi)
  simpa [List.getD, hi] using this

set_option maxHeartbeats 2000000 in
theorem allOk_any (a : Option Addr) (n cap : Nat) (ws : List Wr) (w : World) (hn : ws.length = n) (hm : n ≤ 1048576) (hx : Few ws) (hh : IsWs w a ws) :
    Calls Try.prog 61 #[.slice a n cap] w fun e w' => e = .returned (.bool (ws.all okW)) ∧ Below w.heap.size w w' := by
  have HH : Hid (IsWs w a ws) := hh
  have HN : Hid (ws.length = n) := hn
  have HX : Hid (Few ws) := hx
  clear hh hn hx
  go_enter Try.func61, Try.ntmps61
  go_wp2
  go_loopw [7] (fun i wr => ∃ k : Nat, k ≤ n ∧ i = .int .i64 k ∧ Hid (∀ j, j < k → okW (ws.getD j wz) = true) ∧ Hid (Below w.heap.size w wr)) (fun i _ => n - (intOf i).toNat)
  case atStart => exact ⟨0, Nat.zero_le _, rfl, fun j hj => absurd hj (Nat.not_lt_zero j), Below.refl _ _⟩
  case round =>
    obtain ⟨k, hk, rfl, HK, HB⟩ := hrel
    by_cases hk' : k < n
    · obtain ⟨b, o, ad, cp, rfl, hz, ⟨e0, e1, e2, e3, e4, e5, e6⟩, hd⟩ := HH.out.at HB.out HN.out hk'
      have i1 : (0 : Int) ≤ (k : Int) := by omega
      have i2 : (k : Int) < (n : Int) := by omega
      have hkm : k < ws.length := by rw [HN.out]; exact hk'
      have HC : Hid (∀ W, Below wr.heap.size wr W → Calls Try.prog 53 #[wrOf (ws.getD k wz) ad cp] W fun e w' => e = .returned (.bool (okW (ws.getD k wz))) ∧ Below W.heap.size W w') := fun W hW =>
        implWriteOk_gen _ _ _ _ _ _ _ (ws.getD k wz).xs _ _ _ rfl (HX.out k hkm) (hd.below hW)
      have HK1 : Hid (okW (ws.getD k wz) = true → ∀ j, j < k + 1 → okW (ws.getD j wz) = true) := fun h1 => upto_next HK.out h1
      have HF1 : Hid (okW (ws.getD k wz) = false → ws.all okW = false) := fun h1 => all_false hkm h1
      clear hd HH HK
      cases h1 : okW (ws.getD k wz)
      · have HF := Lib.hid (HF1.out h1)
        rw [h1] at HC
        clear h1 HK1 HF1
        generalize ws.getD k wz = x at *
        obtain ⟨xk, xc, xs', xq, xv, xd, xx⟩ := x
        simp only at e0 e1 e2 e3 e4 e5 e6 HC
        go_wp2_with fail
        refine (HC.out _ ((Below.refl _ _).alloc (Nat.le_refl _) _)).mono ?_
        rintro e w2 ⟨rfl, hb⟩
        have HB2 : Hid (Below w.heap.size w w2) := below_step HB.out HB.out.size (BoxIn.start hb).below
        clear hb
        go_wp2
        go_ret
        exact ⟨ret_bool HF.out.symm, HB2.out⟩
      · have HK2 := Lib.hid (HK1.out h1)
        rw [h1] at HC
        clear h1 HK1 HF1
        generalize ws.getD k wz = x at *
        obtain ⟨xk, xc, xs', xq, xv, xd, xx⟩ := x
        simp only at e0 e1 e2 e3 e4 e5 e6 HC
        go_wp2_with fail
        refine (HC.out _ ((Below.refl _ _).alloc (Nat.le_refl _) _)).mono ?_
        rintro e w2 ⟨rfl, hb⟩
        have HB2 : Hid (Below w.heap.size w w2) := below_step HB.out HB.out.size (BoxIn.start hb).below
        clear hb
        go_wp2
        exact ⟨⟨k + 1, by omega, by go_num, HK2, HB2⟩, by simp [intOf]; omega⟩
    · have hkk : k = n := by omega
      subst hkk
      have HF : Hid (ws.all okW = true) := all_true HN.out HK.out
      go_wp2
      go_ret
      exact ⟨ret_bool HF.out.symm, HB.out⟩

set_option maxHeartbeats 2000000 in
theorem seen_any (a b : Option Addr) (n m cap cap' : Nat) (us vs : List Wr) (w : World) (hn : us.length = n) (hm : vs.length = m) (hn1 : n ≤ 1048576) (hm1 : m ≤ 1048576) (hx : Few us) (hy : Few vs) (hi : IsWs w a us) (hj : IsWs w b vs) :
    Calls Try.prog 44 #[.slice a n cap, .slice b m cap'] w fun e w' => e = .returned (.bool (rightB us vs)) ∧ Below w.heap.size w w' := by
  have HJ : Hid (∀ W, Below w.heap.size w W → Calls Try.prog 61 #[.slice b m cap'] W fun e w' => e = .returned (.bool (vs.all okW)) ∧ Below W.heap.size W w') := fun W hW => allOk_any b m cap' vs W hm hm1 hy (hj.below hW)
  have HC : Hid (Calls Try.prog 37 #[.slice a n cap] w fun e w' => e = .returned (.bool (mapOkB us)) ∧ Below w.heap.size w w') := implMapOk_any a n cap us w hn hn1 hx hi
  have HE : Hid (rightB us vs = (mapOkB us && vs.all okW)) := rfl
  clear hi hj hn hm hx hy
  generalize rightB us vs = r at *
  generalize vs.all okW = r2 at *
  cases ha : mapOkB us
  · rw [ha] at HC HE
    have HE' : Hid (r = false) := by rw [HE.out, Bool.false_and]; exact Lib.hid rfl
    clear ha HE
    go_enter Try.func44, Try.ntmps44
    go_wp2_with fail
    refine HC.out.mono ?_
    rintro e w1 ⟨rfl, hb⟩
    have HB1 := Lib.hid hb
    clear hb
    go_wp2
    go_ret
    exact ⟨ret_bool HE'.out.symm, HB1.out⟩
  · rw [ha] at HC HE
    have HE' : Hid (r = r2) := by rw [HE.out, Bool.true_and]; exact Lib.hid rfl
    clear ha HE
    go_enter Try.func44, Try.ntmps44
    go_wp2_with fail
    refine HC.out.mono ?_
    rintro e w1 ⟨rfl, hb⟩
    have HB1 := Lib.hid hb
    clear hb
    go_wp2_with fail
    refine (HJ.out _ HB1.out).mono ?_
    rintro e w2 ⟨rfl, hb⟩
    have HB2 : Hid (Below w.heap.size w w2) := below_step HB1.out HB1.out.size hb
    clear hb
    go_wp2
    go_ret
    exact ⟨ret_bool HE'.out.symm, HB2.out⟩

end Go.Proofs.Ytidpcjcnhklmpaj

/- Contracts of impl.fittingPlaces, impl.Fitting, impl.Held. -/
namespace Go.Proofs.Ytidpcjcnhklmpaj
open Go.ChangeShapes Go.WideShapes Go.ChangeAt Go.RowKit Go.Joins
attribute [local go_sem ↓] Go.wp_at_zero Go.wp_at_succ

set_option maxRecDepth 100000 in
set_option maxHeartbeats 400000 in
theorem fitPlaces_any (a b : Option Addr) (n m N cap cap' : Nat) (us vs : List Wr) (w : World) (hn : us.length = n) (hm : vs.length = m) (hs : n + m ≤ 1048576) (hx : Few us) (hy : Few vs) (hi : IsWs w a us) (hj : IsWs w b vs) (hr : Rise us) (hu : ∀ x ∈ us, okW x = true) (hv : ∀ x ∈ vs, okW x = true) (hN : N = (m + 63) / 64) :
    Calls Try.prog 46 #[.slice a n cap, .slice b m cap'] w fun e w' => ∃ g F, e = .returned (.slice (some ⟨g, 0, none⟩) N N) ∧ BitW w' g N F ∧ (∀ j, j < m → bitOf F j = fixS us vs j) ∧ Below w.heap.size w w' := by
  have HC := Lib.hid (widest_any a b n m cap cap' us vs w hn hm hs hx hy hi hj hr hu hv)
  have HJ := Lib.hid hj
  have HM := Lib.hid hm
  have HY := Lib.hid hy
  have HV := Lib.hid hv
  clear hi hj hn hm hx hy hr hu hv
  have dN : ((m : Int) + 64 - 1) / 64 = (N : Int) := by omega
  have hmk : ∀ W, (Instr.makeSlice 65 (.int .i64 (((m : Int) + 64 - 1) / 64)) (.int .i64 (((m : Int) + 64 - 1) / 64))).run Try.prog W = .ok (.slice (some ⟨W.heap.size, 0, none⟩) N N) (W.alloc (.cells (madeCells #[.int .u64 0] N) 81)) := fun W => by
    rw [dN]
    exact run_make_words N (by omega) W
  have n64 : m ≤ N * 64 := by omega
  clear dN hN
  go_enter Try.func46, Try.ntmps46
  go_wp2_with fail
  refine HC.out.mono ?_
  rintro e w1 ⟨c, rfl, hc, hb⟩
  have HB1 := Lib.hid hb
  have HCX := Lib.hid hc
  clear hb hc HC
  have HCB : Hid (Box6 ((w1.alloc (.cells (covCells c) 83)).alloc (.cells (madeCells #[.int .u64 0] N) 81)) w1.heap.size (covU c)) := (box6_new w1 _ _ _ rfl).below ((Below.refl _ _).alloc (Nat.le_refl _) _)
  have HW0 : Hid (BitW ((w1.alloc (.cells (covCells c) 83)).alloc (.cells (madeCells #[.int .u64 0] N) 81)) (w1.heap.size + 1) N (fun _ => 0)) := by
    have e : (w1.alloc (.cells (covCells c) 83)).heap.size = w1.heap.size + 1 := by simp
    rw [← e]
    exact words_made _ N 81
  have HB2 : Hid (Below w.heap.size w ((w1.alloc (.cells (covCells c) 83)).alloc (.cells (madeCells #[.int .u64 0] N) 81))) := (HB1.out.alloc HB1.out.size _).alloc (by have := HB1.out.size; simp; omega) _
  have hw1 : w.heap.size ≤ w1.heap.size := HB1.out.size
  go_wp2
  clear hmk
  go_loopw [20] (fun i wr => ∃ (k : Nat) (F : Nat → Nat), k ≤ m ∧ i = .int .i64 k ∧ Hid (∀ j, bitOf F j = (decide (j < k) && chas c (vs.getD j wz).xs)) ∧ Hid (BitW wr (w1.heap.size + 1) N F) ∧ Hid (Box6 wr w1.heap.size (covU c)) ∧ Hid (Below w.heap.size w wr)) (fun i _ => m - (intOf i).toNat)
  case atStart => exact ⟨0, fun _ => 0, Nat.zero_le _, rfl, fun j => by simp [bitOf], HW0, HCB, HB2⟩
  case round =>
    clear HW0 HCB HB2
    obtain ⟨k, F, hk, rfl, HE, HW, HCB, HB⟩ := hrel
    by_cases hk' : k < m
    · obtain ⟨bb, oo, ad, cq, rfl, hz, ⟨e0, e1, e2, e3, e4, e5, e6⟩, hd⟩ := HJ.out.at HB.out HM.out hk'
      have i1 : (0 : Int) ≤ (k : Int) := by omega
      have i2 : (k : Int) < (m : Int) := by omega
      have hkm : k < vs.length := by rw [HM.out]; exact hk'
      have HCH : Hid (∀ W, Below wr.heap.size wr W → Calls Try.prog 65 #[covV c, .slice ad (vs.getD k wz).xs.length cq] W fun e w' => e = .returned (.bool (chas c (vs.getD k wz).xs)) ∧ Below W.heap.size W w') := fun W hW => covHas_any c ad _ cq _ W rfl (HY.out k hkm) (hd.below hW) (okW_parts (HV.out _ (getV_mem hkm))).2.2
      have HEY : Hid (chas c (vs.getD k wz).xs = true → ∀ j, bitOf (addBit F k) j = (decide (j < k + 1) && chas c (vs.getD j wz).xs)) := fun h j => by
        rw [bit_add, HE.out j]
        by_cases e : j = k
        · rw [e, h]
          simp
        · have : (decide (j < k + 1)) = decide (j < k) := by simp only [decide_eq_decide]; omega
          rw [this, decide_eq_false e, Bool.false_or]
      have HEN : Hid (chas c (vs.getD k wz).xs = false → ∀ j, bitOf F j = (decide (j < k + 1) && chas c (vs.getD j wz).xs)) := fun h j => by
        rw [HE.out j]
        by_cases e : j = k
        · rw [e, h]
          simp
        · have : (decide (j < k + 1)) = decide (j < k) := by simp only [decide_eq_decide]; omega
          rw [this]
      clear hd HJ HE
      have z0 := HCB.out.cells 0 (by omega)
      have z1 := HCB.out.cells 1 (by omega)
      have z2 := HCB.out.cells 2 (by omega)
      have z3 := HCB.out.cells 3 (by omega)
      have z4 := HCB.out.cells 4 (by omega)
      have z5 := HCB.out.cells 5 (by omega)
      unfold covU at z0 z1 z2 z3 z4 z5
      have hzc := HCB.out.lt
      generalize vs.getD k wz = x at *
      obtain ⟨xk, xc, xs', xq, xv, xd, xx⟩ := x
      simp only at e0 e1 e2 e3 e4 e5 e6 HCH HEY HEN
      have HBX : Hid (Below wr.heap.size wr (wr.alloc (.cells #[.int .i64 xk, .int .i64 xc, .int .i64 xs', .int .i64 xq, .int .i64 xv, .bool xd, .slice ad xx.length cq] 52))) := (Below.refl _ _).alloc (Nat.le_refl _) _
      replace z0 := held_cell HBX.out z0 hzc
      replace z1 := held_cell HBX.out z1 hzc
      replace z2 := held_cell HBX.out z2 hzc
      replace z3 := held_cell HBX.out z3 hzc
      replace z4 := held_cell HBX.out z4 hzc
      replace z5 := held_cell HBX.out z5 hzc
      cases hc : chas c xx
      · have HE2 := Lib.hid (HEN.out hc)
        rw [hc] at HCH
        clear hc HEN HEY
        go_wp2_with fail
        refine (HCH.out _ HBX.out).mono ?_
        rintro e w2 ⟨rfl, hb⟩
        have hb2 := below_step HBX.out HBX.out.size hb
        have HW2 := Lib.hid (HW.out.below hb2)
        have HC2 := Lib.hid (HCB.out.below hb2)
        have HB2 := Lib.hid (below_step HB.out HB.out.size hb2)
        clear hb hb2 HW HCB HB HCH HBX z0 z1 z2 z3 z4 z5
        go_wp2
        exact ⟨⟨k + 1, F, by omega, by go_num, HE2, HW2, HC2, HB2⟩, by simp [intOf]; omega⟩
      · have HE2 := Lib.hid (HEY.out hc)
        rw [hc] at HCH
        clear hc HEN HEY
        go_wp2_with fail
        refine (HCH.out _ HBX.out).mono ?_
        rintro e w2 ⟨rfl, hb⟩
        have hb2 := below_step HBX.out HBX.out.size hb
        have HW2 := Lib.hid (HW.out.below hb2)
        have HC2 := Lib.hid (HCB.out.below hb2)
        have HB2 := Lib.hid (below_step HB.out HB.out.size hb2)
        clear hb hb2 HW HCB HB HCH HBX z0 z1 z2 z3 z4 z5
        go_wp2_with fail
        refine (placeAdd_any (w1.heap.size + 1) N N k F _ HW2.out (by omega) (by omega)).mono ?_
        rintro e w3 ⟨rfl, hw, hg⟩
        have HW3 := Lib.hid hw
        have HC3 : Hid (Box6 w3 w1.heap.size (covU c)) := HC2.out.of_block hg.size (hg.block _ HC2.out.lt (by simp))
        have HB3 : Hid (Below w.heap.size w w3) := HB2.out.grown hg HB2.out.size fun b hb => by injection hb with hb; omega
        clear hw hg HW2 HC2 HB2
        go_wp2
        exact ⟨⟨k + 1, _, by omega, by go_num, HE2, HW3, HC3, HB3⟩, by simp [intOf]; omega⟩
    · have hkk : k = m := by omega
      subst hkk
      have HE2 : Hid (∀ j, j < k → bitOf F j = fixS us vs j) := fun j hj => by
        rw [HE.out j, HCX.out j (by rw [HM.out]; exact hj)]
        simp [hj]
      go_wp2
      go_ret
      exact ⟨_, F, rfl, HW.out, HE2.out, HB.out⟩

end Go.Proofs.Ytidpcjcnhklmpaj
