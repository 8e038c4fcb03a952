/- A row of writes whose dependencies may be nil, and that grows; the contract of the registers' told. -/
import Derived.Test.YtfapebnilbdheabIJoin
import Derived.Test.YtfapebnilbdheabMarks2
namespace Go.Proofs.Ytfapebnilbdheab
open Go.ChangeShapes Go.WideShapes Go.ChangeAt Go.RowKit Go.Joins
attribute [local go_sem ↓] Go.wp_at_zero Go.wp_at_succ

/-- A write, where its dependencies are said to lie, their block, their room. -/
structure EnG where
  x : Wr
  a : Option Addr
  g : Nat
  cp : Nat

def ezG : EnG := ⟨wz, none, 0, 0⟩

def wrValsG (e : EnG) : List Value := [.int .i64 e.x.k, .int .i64 e.x.c, .int .i64 e.x.s, .int .i64 e.x.q, .int .i64 e.x.v, .bool e.x.de, .slice e.a e.x.xs.length e.cp]

theorem valsG_len : ∀ es : List EnG, (es.flatMap wrValsG).length = es.length * 7
  | [] => rfl
  | e :: r => by
    rw [List.flatMap_cons, List.length_append, valsG_len r]
    simp [wrValsG]
    omega

theorem valsG_at : ∀ (es : List EnG) (i c : Nat), i < es.length → c < 7 → (es.flatMap wrValsG)[i * 7 + c]? = (wrValsG (es.getD i ezG))[c]?
  | [], i, c, hi, _ => by simp at hi
  | e :: r, 0, c, _, hc => by
    rw [List.flatMap_cons, List.getElem?_append_left (by simp [wrValsG]; omega)]
    simp
  | e :: r, i + 1, c, hi, hc => by
    rw [List.flatMap_cons, List.getElem?_append_right (by simp [wrValsG]; omega)]
    have := valsG_at r i c (by simpa using hi) hc
    rw [show (i + 1) * 7 + c - (wrValsG e).length = i * 7 + c by simp [wrValsG]; omega, this]
    simp

theorem valsG_one (es : List EnG) : ∀ u ∈ es.flatMap wrValsG, u.oneCell' = true := by
  intro u hu
  obtain ⟨e, _, h⟩ := List.mem_flatMap.1 hu
  simp only [wrValsG, List.mem_cons, List.not_mem_nil, or_false] at h
  rcases h with rfl | rfl | rfl | rfl | rfl | rfl | rfl <;> rfl

theorem frozen_of_block {w w' : World} {b o : Nat} (h : w'.heap[b]? = w.heap[b]?) : w'.frozen? ⟨b, o, none⟩ = w.frozen? ⟨b, o, none⟩ := by
  unfold World.frozen?
  simp only [h]

theorem FreshDeps.of_block {B : Nat} {w w' : World} {a : Option Addr} {g : Nat} {xs : List Dp} (h : FreshDeps B w a g xs) (hs : w.heap.size ≤ w'.heap.size) (hb : 0 < xs.length → w'.heap[g]? = w.heap[g]?) : FreshDeps B w' a g xs := fun hp => by
  obtain ⟨h1, h2, h3, h4, h5⟩ := h hp
  refine ⟨h1, h2, Nat.lt_of_lt_of_le h3 hs, fun i hi => ?_, fun o => (frozen_of_block (hb hp)).trans (h5 o)⟩
  have e' : ∀ o, w'.cell? ⟨g, o, none⟩ = w.cell? ⟨g, o, none⟩ := fun o => World.cell?_of_block (a := ⟨g, o, none⟩) (hb hp)
  obtain ⟨a0, a1, a2, a3⟩ := h4 i hi
  exact ⟨(e' _).trans a0, (e' _).trans a1, (e' _).trans a2, (e' _).trans a3⟩

/-- A row of writes of one's own, from block number base on; it may be nil. -/
structure RowG (w : World) (base : Nat) (v : Value) (es : List EnG) : Prop where
  own : w.ownsRow base 31 7 v es.length (es.flatMap wrValsG)
  deps : ∀ e ∈ es, FreshDeps base w e.a e.g e.x.xs ∧ (0 < e.x.xs.length → v.ownBlock ≠ some e.g)
  apart : es.Pairwise fun e e' => 0 < e.x.xs.length → 0 < e'.x.xs.length → e.g ≠ e'.g

theorem rowG_nil (w : World) (base : Nat) : RowG w base (.slice none 0 0) [] where
  own := World.ownsRow_nil w base _ _
  deps := fun e he => by simp at he
  apart := List.Pairwise.nil

theorem RowG.below {w w' : World} {base : Nat} {v : Value} {es : List EnG} (h : RowG w base v es) (hb : Below w.heap.size w w') : RowG w' base v es where
  own := h.own.kept (row := none) ⟨hb.os, hb.tape, hb.output, hb.size, fun k hk _ => hb.block k hk⟩ (by
    by_cases e : v.ownBlock = none
    · exact .inl e
    · exact .inr e)
  deps := fun e he => ⟨(h.deps e he).1.below hb, (h.deps e he).2⟩
  apart := h.apart

theorem RowG.mono {w : World} {base base' : Nat} {v : Value} {es : List EnG} (h : RowG w base v es) (hb : base' ≤ base) : RowG w base' v es where
  own := by
    refine ⟨h.own.1, ?_⟩
    rcases h.own.2 with h1 | ⟨g, cap, cur, h1, h2, h3⟩
    · exact .inl h1
    · exact .inr ⟨g, cap, cur, h1, Nat.le_trans hb h2, h3⟩
  deps := fun e he => ⟨(h.deps e he).1.mono hb, (h.deps e he).2⟩
  apart := h.apart

/-- One write more. -/
theorem RowG.more {w w5 : World} {base g5 cap5 : Nat} {v : Value} {es : List EnG} {e : EnG} (h : RowG w base v es) (he : FreshDeps base w e.a e.g e.x.xs) (hv : 0 < e.x.xs.length → v.ownBlock ≠ some e.g) (hap : ∀ d ∈ es, 0 < d.x.xs.length → 0 < e.x.xs.length → d.g ≠ e.g)
    (hown : w5.ownsRow base 31 7 (.slice (some ⟨g5, 0, none⟩) (es.length + 1) cap5) (es.length + 1) (es.flatMap wrValsG ++ wrValsG e)) (hgrow : w.grownBy w5 v.ownBlock) (hg : v.ownBlock = some g5 ∨ g5 = w.heap.size) : RowG w5 base (.slice (some ⟨g5, 0, none⟩) (es.length + 1) cap5) (es ++ [e]) where
  own := by
    rw [List.length_append, List.flatMap_append]
    simpa using hown
  deps := by
    have : ∀ d : EnG, FreshDeps base w d.a d.g d.x.xs → (0 < d.x.xs.length → v.ownBlock ≠ some d.g) → FreshDeps base w5 d.a d.g d.x.xs ∧ (0 < d.x.xs.length → (Value.slice (some ⟨g5, 0, none⟩) (es.length + 1) cap5).ownBlock ≠ some d.g) := fun d h1 h2 => by
      refine ⟨h1.of_block hgrow.size fun hp => hgrow.block d.g (h1 hp).2.2.1 (fun e => h2 hp e.symm), fun hp e => ?_⟩
      have e5 : g5 = d.g := by
        simp only [Value.ownBlock, Option.some.injEq] at e
        exact e
      rcases hg with hg | hg
      · exact h2 hp (by rw [hg, e5])
      · have := (h1 hp).2.2.1
        omega
    intro d hd
    rcases List.mem_append.1 hd with hd | hd
    · exact this d (h.deps d hd).1 (h.deps d hd).2
    · have hd : d = e := by simpa using hd
      subst hd
      exact this d he hv
  apart := by
    rw [List.pairwise_append]
    exact ⟨h.apart, by simp, fun d hd e' he' => by
      have : e' = e := by simpa using he'
      subst this
      exact hap d hd⟩

def gammaG (es : List EnG) (i : Nat) : Nat := (es.getD i ezG).g

theorem pairwise_getD {r : EnG → EnG → Prop} : ∀ {es : List EnG}, es.Pairwise r → ∀ i j, i < j → j < es.length → r (es.getD i ezG) (es.getD j ezG)
  | [], _, _, _, _, h => by simp at h
  | e :: es, hp, 0, j + 1, _, h => by
    have hj : j < es.length := by simpa using h
    have := (List.pairwise_cons.1 hp).1 (es.getD j ezG) (by simp [List.getD, hj])
    simpa using this
  | e :: es, hp, i + 1, j + 1, hij, h => by
    have := pairwise_getD (List.pairwise_cons.1 hp).2 i j (by omega) (by simpa using h)
    simpa using this

/-- The row as a slice that is the call's own. -/
theorem RowG.form {w : World} {base : Nat} {v : Value} {es : List EnG} (h : RowG w base v es) :
    ∃ a cap, v = .slice a es.length cap ∧ (es = [] ∨ ∃ b, a = some ⟨b, 0, none⟩ ∧ OwnG w base b (es.map (·.x)) (gammaG es)) := by
  rcases h.own.2 with ⟨h1, h2⟩ | ⟨g, cap, cur, h1, h2, h3, _⟩
  · exact ⟨none, 0, by rw [h1, h2], .inl (List.length_eq_zero_iff.1 h2)⟩
  · refine ⟨_, cap, h1, .inr ⟨g, rfl, ?_⟩⟩
    subst h1
    have hlt : g < w.heap.size := (h.own.lt g rfl).2
    have hm : ∀ i, i < es.length → es.getD i ezG ∈ es := fun i hi => by simp [List.getD, hi]
    have hx : ∀ i, i < es.length → (es.map (·.x)).getD i wz = (es.getD i ezG).x := fun i hi => by simp [List.getD, hi]
    have hl : (es.map (·.x)).length = es.length := by simp
    refine ⟨hlt, h2, fun o => h.own.frozenAt o, fun i hi => ?_, fun i hi hp => ?_, fun i j hi hj hp hq e => ?_⟩
    · rw [hl] at hi
      rw [hx i hi]
      have c : ∀ c, c < 7 → w.cell? ⟨g, i * 7 + c, none⟩ = (wrValsG (es.getD i ezG))[c]? := fun c hc => by rw [h.own.cellAt _ (by omega), valsG_at es i c hi hc]
      exact ⟨(es.getD i ezG).a, (es.getD i ezG).cp, ⟨c 0 (by omega), c 1 (by omega), c 2 (by omega), c 3 (by omega), c 4 (by omega), c 5 (by omega), c 6 (by omega)⟩, fun hp => ((h.deps _ (hm i hi)).1 hp).1⟩
    · rw [hl] at hi
      rw [hx i hi] at hp ⊢
      obtain ⟨_, h5, h6, h7, h8⟩ := (h.deps _ (hm i hi)).1 hp
      refine ⟨h5, h6, fun e => (h.deps _ (hm i hi)).2 hp (by rw [← e]; rfl), h7, h8⟩
    · rw [hl] at hi hj
      rw [hx i hi] at hp
      rw [hx j hj] at hq
      by_cases h1 : i < j
      · exact absurd e (pairwise_getD h.apart i j h1 hj hp hq)
      · by_cases h2 : j < i
        · exact absurd e.symm (pairwise_getD h.apart j i h2 hi hq hp)
        · omega

theorem oneG_cells (w : World) (t : Nat) (e : EnG) : ∀ j u, (wrValsG e)[j]? = some u → (w.alloc (.cells #[.int .i64 e.x.k, .int .i64 e.x.c, .int .i64 e.x.s, .int .i64 e.x.q, .int .i64 e.x.v, .bool e.x.de, .slice e.a e.x.xs.length e.cp] t)).cell? ((⟨w.heap.size, 0, none⟩ : Addr).add j) = some u := by
  intro j u hu
  have e1 : (⟨w.heap.size, 0, none⟩ : Addr).add j = ⟨w.heap.size, j, none⟩ := by
    unfold Addr.add
    split
    · rename_i h
      rw [h]
    · simp
  rw [e1, cell_of_row _ _ j _ t (0, 0) (heap_alloc_new w _), ← hu]
  simp [wrValsG]

def toldTo (M : Int → Option Wr) (k : Nat) : List Wr := (List.range k).filterMap fun (j : Nat) => M (j : Int)

theorem toldTo_none {M : Int → Option Wr} {k : Nat} (h : M (k : Int) = none) : toldTo M (k + 1) = toldTo M k := by
  unfold toldTo
  rw [List.range_succ, List.filterMap_append]
  simp [h]

theorem toldTo_some {M : Int → Option Wr} {k : Nat} {x : Wr} (h : M (k : Int) = some x) : toldTo M (k + 1) = toldTo M k ++ [x] := by
  unfold toldTo
  rw [List.range_succ, List.filterMap_append]
  simp [h]

theorem toldTo_six (M : Int → Option Wr) : toldTo M 6 = toldM M := by
  rfl

theorem toldTo_len (M : Int → Option Wr) (k : Nat) : (toldTo M k).length ≤ k := by
  unfold toldTo
  have := List.length_filterMap_le (fun j : Nat => M (j : Int)) (List.range k)
  simpa using this

set_option maxHeartbeats 8000000 in
theorem told_any (w0 : World) (b m : Nat) (M : Int → Option Wr) (w : World) (hb : Below w0.heap.size w0 w) (hr : RegsW w0 w b m M) :
    Calls Try.prog 44 #[.map (some b)] w fun e w' => ∃ v es, e = .returned v ∧ es.map (·.x) = toldM M ∧ RowG w' w.heap.size v es ∧ Below w.heap.size w w' := by
  have HR0 : Hid (RegsW w0 w b m M) := hr
  have HB0 : Hid (Below w0.heap.size w0 w) := hb
  clear hr hb
  obtain ⟨i0, hi0, hx0⟩ := Option.map_eq_some_iff.1 infoWr
  simp only [Prod.mk.injEq] at hx0
  have HI0 := Lib.hid hi0
  have HX0 := Lib.hid hx0
  clear hi0 hx0
  go_enter Try.func44, Try.ntmps44
  go_wp2
  go_loopw [3, 7] (fun t i wr => ∃ (k : Nat) (v : Value) (es : List EnG), k ≤ 6 ∧ i = .int .i64 k ∧ v = t ∧ Hid (es.map (·.x) = toldTo M k) ∧ Hid (RowG wr w.heap.size v es) ∧ Hid (Below w.heap.size w wr)) (fun _ i _ => 6 - (intOf i).toNat)
  case atStart => exact ⟨0, _, [], Nat.zero_le _, rfl, rfl, rfl, rowG_nil _ _, Below.refl _ _⟩
  case round =>
    obtain ⟨k, v, es, hk, rfl, rfl, HE, HR, HB⟩ := hrel
    have hln : es.length ≤ 6 := by
      have h1 := toldTo_len M k
      rw [← HE.out, List.length_map] at h1
      omega
    by_cases hk' : k < 6
    · have i1 : (0 : Int) ≤ (k : Int) := by omega
      have i2 : (k : Int) < 6 := by omega
      have HRW := Lib.hid (HR0.out.below HB.out)
      cases hM : M (k : Int) with
      | none =>
        have HE' : Hid (es.map (·.x) = toldTo M (k + 1)) := by
          rw [toldTo_none hM]
          exact HE
        have HM := Lib.hid hM
        clear hM
        have HBA : Hid (Below w.heap.size w (wr.alloc (.cells #[.int .i64 0, .int .i64 0, .int .i64 0, .int .i64 0, .int .i64 0, .bool false, .slice none 0 0] 31))) := HB.out.alloc HB.out.size _
        have HRA := Lib.hid (HR.out.below ((Below.refl wr.heap.size wr).alloc (Nat.le_refl _) (.cells #[.int .i64 0, .int .i64 0, .int .i64 0, .int .i64 0, .int .i64 0, .bool false, .slice none 0 0] 31)))
        go_wp2_with (at_lookup; refine look_none (by rfl) _ _ (by rfl) HRW.out (k : Int) ⟨i1, by omega⟩ HM.out (by rfl) (by rfl) ?_)
        exact ⟨⟨k + 1, _, es, by omega, by go_num, rfl, HE', HRA, HBA⟩, by simp [intOf]; omega⟩
      | some y =>
        have HE' : Hid (toldTo M (k + 1) = toldTo M k ++ [y]) := toldTo_some hM
        have HM := Lib.hid hM
        clear hM
        obtain ⟨yk, yc, ys, yq, yv, yd, yy⟩ := y
        go_wp2_with (at_lookup; refine look_some (by rfl) _ _ (by rfl) HRW.out (k : Int) ⟨i1, by omega⟩ _ HM.out (by rfl) (by rfl) ?_; intro ad cp hd hl)
        have HBA : Hid (Below wr.heap.size wr (wr.alloc (.cells #[.int .i64 yk, .int .i64 yc, .int .i64 ys, .int .i64 yq, .int .i64 yv, .bool yd, .slice ad yy.length cp] 31))) := (Below.refl _ _).alloc (Nat.le_refl _) _
        have HB1 := Lib.hid (below_step HB.out HB.out.size HBA.out)
        have HD := Lib.hid (hd.below (HB0.out.trans (HB1.out.mono HB0.out.size)))
        clear hd
        refine (icopy_any ⟨yk, yc, ys, yq, yv, yd, yy⟩ ad cp _ hl HD.out).mono ?_
        rintro e w2 ⟨a2, g2, cp2, rfl, hg, hb⟩
        have HB2 : Hid (Below w.heap.size w w2) := below_step HB1.out HB1.out.size hb
        have HG : Hid (FreshDeps wr.heap.size w2 a2 g2 yy) := hg.mono HBA.out.size
        have HR2 : Hid (RowG w2 w.heap.size _ es) := HR.out.below (below_step HBA.out HBA.out.size hb)
        have hwr : w.heap.size ≤ wr.heap.size := HB.out.size
        have HAP : Hid (∀ d ∈ es, 0 < d.x.xs.length → 0 < yy.length → d.g ≠ g2) := fun d hd hp hq => by
          have h1 := ((HR.out.deps d hd).1 hp).2.2.1
          have h2 := (HG.out hq).2.1
          omega
        have HV : Hid (0 < yy.length → v.ownBlock ≠ some g2) := fun hq e => by
          have h1 := (HR.out.own.lt g2 e).2
          have h2 := (HG.out hq).2.1
          omega
        clear hb hg HB1 HBA HD HM HRW
        have HBC : Hid (Below w2.heap.size w2 (w2.alloc (.cells #[.int .i64 yk, .int .i64 yc, .int .i64 ys, .int .i64 yq, .int .i64 yv, .bool yd, .slice a2 yy.length cp2] 31))) := (Below.refl _ _).alloc (Nat.le_refl _) _
        have HRC := Lib.hid (HR2.out.below HBC.out)
        have hsz : w.heap.size ≤ w2.heap.size := HB2.out.size
        go_wp2_with (at_builtin; refine wpList_append_lies _ (by rfl) _ _ _ (by rfl) w.heap.size 31 i0 (wrV 0 0 0 0 0 false none 0 0) 7 72 Try.underlying36 HI0.out HX0.out.1 HX0.out.2.1 HX0.out.2.2 (by rfl) (by omega) v es.length (es.flatMap wrValsG) (by rfl) HRC.out.own ⟨w2.heap.size, 0, none⟩ 1 1 (wrValsG ⟨⟨yk, yc, ys, yq, yv, yd, yy⟩, a2, g2, cp2⟩) (by rfl) (by rfl) (oneG_cells w2 _ ⟨⟨yk, yc, ys, yq, yv, yd, yy⟩, a2, g2, cp2⟩) (by simpa using valsG_one [⟨⟨yk, yc, ys, yq, yv, yd, yy⟩, a2, g2, cp2⟩]) (by omega) (by unfold maxLen; omega) (by omega) (by simp; omega) _ rfl ?_; intro g3 cp3 w5 hown hgrow hg3 _; refine Hid.out ?_)
        refine Lib.hid ?_
        have HB5 : Hid (Below w.heap.size w w5) := (HB2.out.alloc hsz _).grown hgrow (by simp; omega) fun j hj => (HR2.out.own.lt j hj).1
        have HR5 : Hid (RowG w5 w.heap.size (.slice (some ⟨g3, 0, none⟩) (es.length + 1) cp3) (es ++ [⟨⟨yk, yc, ys, yq, yv, yd, yy⟩, a2, g2, cp2⟩])) :=
          HRC.out.more ((HG.out.below HBC.out).mono hwr) HV.out HAP.out hown hgrow hg3
        have HE5 : Hid ((es ++ [(⟨⟨yk, yc, ys, yq, yv, yd, yy⟩, a2, g2, cp2⟩ : EnG)]).map (·.x) = toldTo M (k + 1)) := by
          rw [HE'.out, List.map_append, HE.out]
          exact Lib.hid rfl
        clear hown hgrow HRC HBC
        go_wp2
        exact ⟨⟨k + 1, _, _, by omega, by go_num, rfl, HE5, HR5, HB5⟩, by simp [intOf]; omega⟩
    · have hkk : k = 6 := by omega
      subst hkk
      have HF : Hid (es.map (·.x) = toldM M) := by
        rw [← toldTo_six]
        exact HE
      go_wp2
      go_ret
      exact ⟨_, es, rfl, HF.out, HR.out, HB.out⟩

end Go.Proofs.Ytfapebnilbdheab
