import Derived.Test.YtionfpjjlghanakPack8
import Derived.Test.YtionfpjjlghanakPack7
import Derived.Test.YtionfpjjlghanakPack4
import Derived.Shelf.SlSortCmp.NoneTotal
import Derived.Deep.RegionHeld3
/- A row of writes of one's own whose dependencies may be nil, and that grows. -/
namespace Go.Proofs.Ytionfpjjlghanak
open Go.ChangeShapes Go.WideShapes Go.ChangeAt Go.RowKit Go.Joins

/-- A write, where its dependencies are said to lie, their block, their room. -/
structure EnG where
  x : Wr
  a : Option Addr
  g : Nat
  cp : Nat

def ezG : EnG := ⟨wz, none, 0, 0⟩

def wrValsG (e : EnG) : List Value := [.int .i64 e.x.k, .int .i64 e.x.c, .int .i64 e.x.s, .int .i64 e.x.q, .int .i64 e.x.v, .bool e.x.de, .slice e.a e.x.xs.length e.cp]

set_option maxRecDepth 100000 in
theorem valsG_len : ∀ es : List EnG, (es.flatMap wrValsG).length = es.length * 7
  | [] => rfl
  | e :: r => by
    rw [List.flatMap_cons, List.length_append, valsG_len r]
    simp [wrValsG]
    omega

set_option maxRecDepth 100000 in
theorem valsG_at : ∀ (es : List EnG) (i c : Nat), i < es.length → c < 7 → (es.flatMap wrValsG)[i * 7 + c]? = (wrValsG (es.getD i ezG))[c]?
  | [], i, c, hi, _ => by simp at hi
  | e :: r, 0, c, _, hc => by
    rw [List.flatMap_cons, List.getElem?_append_left (by simp [wrValsG]; omega)]
    simp
  | e :: r, i + 1, c, hi, hc => by
    rw [List.flatMap_cons, List.getElem?_append_right (by simp [wrValsG]; omega)]
    have := valsG_at r i c (by simpa using hi) hc
    rw [show (i + 1) * 7 + c - (wrValsG e).length = i * 7 + c by simp [wrValsG]; omega, this]
    simp

set_option maxRecDepth 100000 in
theorem valsG_one (es : List EnG) : ∀ u ∈ es.flatMap wrValsG, u.oneCell' = true := by
  intro u hu
  obtain ⟨e, _, h⟩ := List.mem_flatMap.1 hu
  simp only [wrValsG, List.mem_cons, List.not_mem_nil, or_false] at h
  rcases h with rfl | rfl | rfl | rfl | rfl | rfl | rfl <;> rfl

set_option maxRecDepth 100000 in
theorem frozen_of_block {w w' : World} {b o : Nat} (h : w'.heap[b]? = w.heap[b]?) : w'.frozen? ⟨b, o, none⟩ = w.frozen? ⟨b, o, none⟩ := by
  unfold World.frozen?
  simp only [h]

set_option maxRecDepth 100000 in
theorem FreshDeps.of_block {B : Nat} {w w' : World} {a : Option Addr} {g : Nat} {xs : List Dp} (h : FreshDeps B w a g xs) (hs : w.heap.size ≤ w'.heap.size) (hb : 0 < xs.length → w'.heap[g]? = w.heap[g]?) : FreshDeps B w' a g xs := fun hp => by
  obtain ⟨h1, h2, h3, h4, h5⟩ := h hp
  refine ⟨h1, h2, Nat.lt_of_lt_of_le h3 hs, fun i hi => ?_, fun o => (frozen_of_block (hb hp)).trans (h5 o)⟩
  have e' : ∀ o, w'.cell? ⟨g, o, none⟩ = w.cell? ⟨g, o, none⟩ := fun o => World.cell?_of_block (a := ⟨g, o, none⟩) (hb hp)
  obtain ⟨a0, a1, a2, a3⟩ := h4 i hi
  exact ⟨(e' _).trans a0, (e' _).trans a1, (e' _).trans a2, (e' _).trans a3⟩

/-- A row of writes of one's own, from block number base on; it may be nil. -/
structure RowG (w : World) (base : Nat) (v : Value) (es : List EnG) : Prop where
  own : w.ownsRow base 40 7 v es.length (es.flatMap wrValsG)
  deps : ∀ e ∈ es, FreshDeps base w e.a e.g e.x.xs ∧ (0 < e.x.xs.length → v.ownBlock ≠ some e.g)
  apart : es.Pairwise fun e e' => 0 < e.x.xs.length → 0 < e'.x.xs.length → e.g ≠ e'.g

set_option maxRecDepth 100000 in
theorem rowG_nil (w : World) (base : Nat) : RowG w base (.slice none 0 0) [] where
  own := World.ownsRow_nil w base _ _
  deps := fun e he => by simp at he
  apart := List.Pairwise.nil

set_option maxRecDepth 100000 in
theorem RowG.below {w w' : World} {base : Nat} {v : Value} {es : List EnG} (h : RowG w base v es) (hb : Below w.heap.size w w') : RowG w' base v es where
  own := h.own.kept (row := none) ⟨hb.os, hb.tape, hb.output, hb.size, fun k hk _ => hb.block k hk⟩ (by
    by_cases e : v.ownBlock = none
    · exact .inl e
    · exact .inr e)
  deps := fun e he => ⟨(h.deps e he).1.below hb, (h.deps e he).2⟩
  apart := h.apart

set_option maxRecDepth 100000 in
theorem RowG.mono {w : World} {base base' : Nat} {v : Value} {es : List EnG} (h : RowG w base v es) (hb : base' ≤ base) : RowG w base' v es where
  own := by
    refine ⟨h.own.1, ?_⟩
    rcases h.own.2 with h1 | ⟨g, cap, cur, h1, h2, h3⟩
    · exact .inl h1
    · exact .inr ⟨g, cap, cur, h1, Nat.le_trans hb h2, h3⟩
  deps := fun e he => ⟨(h.deps e he).1.mono hb, (h.deps e he).2⟩
  apart := h.apart

set_option maxRecDepth 100000 in
/-- One write more. -/
theorem RowG.more {w w5 : World} {base g5 cap5 : Nat} {v : Value} {es : List EnG} {e : EnG} (h : RowG w base v es) (he : FreshDeps base w e.a e.g e.x.xs) (hv : 0 < e.x.xs.length → v.ownBlock ≠ some e.g) (hap : ∀ d ∈ es, 0 < d.x.xs.length → 0 < e.x.xs.length → d.g ≠ e.g)
    (hown : w5.ownsRow base 40 7 (.slice (some ⟨g5, 0, none⟩) (es.length + 1) cap5) (es.length + 1) (es.flatMap wrValsG ++ wrValsG e)) (hgrow : w.grownBy w5 v.ownBlock) (hg : v.ownBlock = some g5 ∨ g5 = w.heap.size) : RowG w5 base (.slice (some ⟨g5, 0, none⟩) (es.length + 1) cap5) (es ++ [e]) where
  own := by
    rw [List.length_append, List.flatMap_append]
    simpa using hown
  deps := by
    have : ∀ d : EnG, FreshDeps base w d.a d.g d.x.xs → (0 < d.x.xs.length → v.ownBlock ≠ some d.g) → FreshDeps base w5 d.a d.g d.x.xs ∧ (0 < d.x.xs.length → (Value.slice (some ⟨g5, 0, none⟩) (es.length + 1) cap5).ownBlock ≠ some d.g) := fun d h1 h2 => by
      refine ⟨h1.of_block hgrow.size fun hp => hgrow.block d.g (h1 hp).2.2.1 (fun e => h2 hp e.symm), fun hp e => ?_⟩
      have e5 : g5 = d.g := by
        simp only [Value.ownBlock, Option.some.injEq] at e
        exact e
      rcases hg with hg | hg
      · exact h2 hp (by rw [hg, e5])
      · have := (h1 hp).2.2.1
        omega
    intro d hd
    rcases List.mem_append.1 hd with hd | hd
    · exact this d (h.deps d hd).1 (h.deps d hd).2
    · have hd : d = e := by simpa using hd
      subst hd
      exact this d he hv
  apart := by
    rw [List.pairwise_append]
    exact ⟨h.apart, by simp, fun d hd e' he' => by
      have : e' = e := by simpa using he'
      subst this
      exact hap d hd⟩

def gammaG (es : List EnG) (i : Nat) : Nat := (es.getD i ezG).g

set_option maxRecDepth 100000 in
theorem pairwise_getD {r : EnG → EnG → Prop} : ∀ {es : List EnG}, es.Pairwise r → ∀ i j, i < j → j < es.length → r (es.getD i ezG) (es.getD j ezG)
  | [], _, _, _, _, h => by simp at h
  | e :: es, hp, 0, j + 1, _, h => by
    have hj : j < es.length := by simpa using h
    have := (List.pairwise_cons.1 hp).1 (es.getD j ezG) (by simp [List.getD, hj])
    simpa using this
  | e :: es, hp, i + 1, j + 1, hij, h => by
    have := pairwise_getD (List.pairwise_cons.1 hp).2 i j (by omega) (by simpa using h)
    simpa using this

set_option maxRecDepth 100000 in
/-- The row as a slice that is the call's own. -/
theorem RowG.form {w : World} {base : Nat} {v : Value} {es : List EnG} (h : RowG w base v es) :
    ∃ a cap, v = .slice a es.length cap ∧ (es = [] ∨ ∃ b, a = some ⟨b, 0, none⟩ ∧ OwnG w base b (es.map (·.x)) (gammaG es)) := by
  rcases h.own.2 with ⟨h1, h2⟩ | ⟨g, cap, cur, h1, h2, h3, _⟩
  · exact ⟨none, 0, by rw [h1, h2], .inl (List.length_eq_zero_iff.1 h2)⟩
  · refine ⟨_, cap, h1, .inr ⟨g, rfl, ?_⟩⟩
    subst h1
    have hlt : g < w.heap.size := (h.own.lt g rfl).2
    have hm : ∀ i, i < es.length → es.getD i ezG ∈ es := fun i hi => by simp [List.getD, hi]
    have hx : ∀ i, i < es.length → (es.map (·.x)).getD i wz = (es.getD i ezG).x := fun i hi => by simp [List.getD, hi]
    have hl : (es.map (·.x)).length = es.length := by simp
    refine ⟨hlt, h2, fun o => h.own.frozenAt o, fun i hi => ?_, fun i hi hp => ?_, fun i j hi hj hp hq e => ?_⟩
    · rw [hl] at hi
      rw [hx i hi]
      have c : ∀ c, c < 7 → w.cell? ⟨g, i * 7 + c, none⟩ = (wrValsG (es.getD i ezG))[c]? := fun c hc => by rw [h.own.cellAt _ (by omega), valsG_at es i c hi hc]
      exact ⟨(es.getD i ezG).a, (es.getD i ezG).cp, ⟨c 0 (by omega), c 1 (by omega), c 2 (by omega), c 3 (by omega), c 4 (by omega), c 5 (by omega), c 6 (by omega)⟩, fun hp => ((h.deps _ (hm i hi)).1 hp).1⟩
    · rw [hl] at hi
      rw [hx i hi] at hp ⊢
      obtain ⟨_, h5, h6, h7, h8⟩ := (h.deps _ (hm i hi)).1 hp
      refine ⟨h5, h6, fun e => (h.deps _ (hm i hi)).2 hp (by rw [← e]; rfl), h7, h8⟩
    · rw [hl] at hi hj
      rw [hx i hi] at hp
      rw [hx j hj] at hq
      by_cases h1 : i < j
      · exact absurd e (pairwise_getD h.apart i j h1 hj hp hq)
      · by_cases h2 : j < i
        · exact absurd e.symm (pairwise_getD h.apart j i h2 hi hq hp)
        · omega

set_option maxRecDepth 100000 in
theorem oneG_cells (w : World) (t : Nat) (e : EnG) : ∀ j u, (wrValsG e)[j]? = some u → (w.alloc (.cells #[.int .i64 e.x.k, .int .i64 e.x.c, .int .i64 e.x.s, .int .i64 e.x.q, .int .i64 e.x.v, .bool e.x.de, .slice e.a e.x.xs.length e.cp] t)).cell? ((⟨w.heap.size, 0, none⟩ : Addr).add j) = some u := by
  intro j u hu
  have e1 : (⟨w.heap.size, 0, none⟩ : Addr).add j = ⟨w.heap.size, j, none⟩ := by
    unfold Addr.add
    split
    · rename_i h
      rw [h]
    · simp
  rw [e1, cell_of_row _ _ j _ t (0, 0) (heap_alloc_new w _), ← hu]
  simp [wrValsG]

set_option maxRecDepth 100000 in
/-- One write of a slice, in a later world; its dependencies in the world of the slice. -/
theorem IsWs.base {w w' : World} {a : Option Addr} {ws : List Wr} (h : IsWs w a ws) (hb : Below w.heap.size w w') {k n : Nat} (hn : ws.length = n) (hk : k < n) :
    ∃ b o a' cap, a = some ⟨b, o, none⟩ ∧ b < w'.heap.size ∧ WrAt w' b (o + k * 7) (ws.getD k wz) a' cap ∧ IsDeps w a' (ws.getD k wz).xs := by
  rcases h with h | ⟨b, o, ha, hlt, hh⟩
  · subst h
    simp at hn
    omega
  · obtain ⟨a', cap, h1, _, h3⟩ := hh k (by omega)
    exact ⟨b, o, a', cap, ha, Nat.lt_of_lt_of_le hlt hb.size, h1.of_block (hb.block _ hlt), h3⟩

end Go.Proofs.Ytionfpjjlghanak

/- slices.SortFunc over writes, the latest tag first. -/
namespace Go.Proofs.Ytionfpjjlghanak
open Go.ChangeShapes Go.WideShapes Go.ChangeAt Go.RowKit Go.Joins
attribute [local go_sem ↓] Go.wp_at_zero Go.wp_at_succ

/-- By tags, the latest first. -/
def laterC (x y : EnG) : Int := tcmp y.x.c y.x.s y.x.q x.x.c x.x.s x.x.q

/-- The row's cells hold these writes. -/
def HoldsE (w : World) (g : Nat) (es : List EnG) : Prop := @Go.Sort.HoldsK EnG ⟨ezG⟩ wrValsG 7 w g 0 es.toArray

theorem tcmp_ntrans {c s q c' s' q' c2 s2 q2 : Int} (h : 0 ≤ tcmp c s q c' s' q') (h' : 0 ≤ tcmp c' s' q' c2 s2 q2) : 0 ≤ tcmp c s q c2 s2 q2 := by
  have t := tcmp_three c2 s2 q2 c' s' q' c s q
  rw [tcmp_neg c' s' q' c2 s2 q2, tcmp_neg c s q c' s' q', tcmp_neg c s q c2 s2 q2] at t
  rcases t.on (by omega) (by omega) with h1 | h1 <;> omega

theorem laterC_swo : Go.Sort.SWO (Go.Proofs.ltOf laterC) where
  irrefl x := by
    unfold Go.Proofs.ltOf laterC
    rw [tcmp_self]
    rfl
  trans x y z h1 h2 := by
    unfold Go.Proofs.ltOf laterC at *
    rw [decide_eq_true_eq] at *
    rcases (tcmp_three z.x.c z.x.s z.x.q y.x.c y.x.s y.x.q x.x.c x.x.s x.x.q).on (by omega) (by omega) with h | h <;> omega
  ntrans x y z h1 h2 := by
    unfold Go.Proofs.ltOf laterC at *
    rw [decide_eq_false_iff_not] at *
    have := tcmp_ntrans (Int.not_lt.1 h2) (Int.not_lt.1 h1)
    omega

set_option maxHeartbeats 1000000 in
theorem laterF_any (x y : EnG) (w : World) :
    Calls Try.prog 59 #[.agg (wrValsG x).toArray, .agg (wrValsG y).toArray] w fun e w' => e = .returned (.int .i64 (laterC x y)) ∧ Laid w w' := by
  obtain ⟨⟨xk, xc, xs', xq, xv, xd, xx⟩, xa, xg, xcp⟩ := x
  obtain ⟨⟨yk, yc, ys, yq, yv, yd, yy⟩, ya, yg, ycp⟩ := y
  unfold laterC wrValsG
  simp only
  have HL : Hid (Laid w ((w.alloc (.cells #[.int .i64 xk, .int .i64 xc, .int .i64 xs', .int .i64 xq, .int .i64 xv, .bool xd, .slice xa xx.length xcp] 40)).alloc (.cells #[.int .i64 yk, .int .i64 yc, .int .i64 ys, .int .i64 yq, .int .i64 yv, .bool yd, .slice ya yy.length ycp] 40))) := ((Laid.refl _).alloc _).alloc _
  go_enter Try.func59, Try.ntmps59
  go_wp2_with fail
  refine (lTagCmp_any _ _ _ _ _ _ _).mono ?_
  rintro e w1 ⟨rfl, hl⟩
  have HL1 := Lib.hid (HL.out.trans hl)
  clear hl HL
  go_wp2
  go_ret
  exact ⟨rfl, HL1.out⟩

theorem grown_sorted (w : World) (g n : Nat) (d : Array EnG) (os : Array Obj) : w.grownBy (@sortWorldK EnG ⟨ezG⟩ wrValsG 7 w g 0 n d os) (some g) := by
  refine ⟨rfl, rfl, rfl, @size_sortWorldK_c EnG ⟨ezG⟩ wrValsG 7 w g 0 n d os, fun k hk hne => ?_⟩
  unfold sortWorldK
  rw [Go.Sort.heap_grow_old _ _ (by rw [@Go.Sort.size_putRowK EnG ⟨ezG⟩]; exact hk)]
  have : g ≠ k := fun e => hne (by rw [e])
  simp [Go.Sort.putRowK, Go.Sort.putRow, Go.Sort.mapBlock, Go.Sort.ahead, Array.getElem?_modify, this]

theorem sorted_pair {es : List EnG} (h : ∀ i j, i < j → j < es.length → 0 ≤ tcmp (es.getD i ezG).x.c (es.getD i ezG).x.s (es.getD i ezG).x.q (es.getD j ezG).x.c (es.getD j ezG).x.s (es.getD j ezG).x.q) : es.Pairwise fun x y => 0 ≤ tcmp x.x.c x.x.s x.x.q y.x.c y.x.s y.x.q := by
  rw [List.pairwise_iff_getElem]
  intro i j hi hj hij
  have := h i j hij hj
  simpa [List.getD, hi, hj] using this

theorem sortW_any (g n cap : Nat) (es : List EnG) (w : World) (hn : es.length = n) (hm : n ≤ 2097152) (hg : g < w.heap.size) (hH : HoldsE w g es) :
    Calls Try.prog 58 #[.slice (some ⟨g, 0, none⟩) n cap, .func (.func 59) #[] #[]] w fun e w' => e = .returned (.tuple #[]) ∧ ∃ es' : List EnG, es'.Perm es ∧ (es'.Pairwise fun x y => 0 ≤ tcmp x.x.c x.x.s x.x.q y.x.c y.x.s y.x.q) ∧ HoldsE w' g es' ∧ w.grownBy w' (some g) := by
  have eg : ∀ args w, (callFunc 59 args).run Try.prog w = .ok (.enter 59 args) w := enters_of Try.func59 (by kernel_rfl) rfl
  have hs : es.toArray.size = n := by simpa using hn
  have hc : @CmpLays EnG ⟨ezG⟩ Try.prog 59 #[] wrValsG 7 laterC g 0 es.toArray.size w := fun m os dk _ x y => by
    have := laterF_any x y (@sortWorldK EnG ⟨ezG⟩ wrValsG 7 w g 0 m dk os)
    simpa [Laid] using this
  have hcon := @AnyQ.slices_SortFunc Try.prog _ EnG ⟨ezG⟩ Try.sortW 7 Try.isAgg40 Try.sizeOf40 wrValsG (fun _ => rfl) (fun x v hv => valsG_one [x] v (by simpa using hv)) laterC laterC_swo 59 #[] g 0 cap es.toArray w eg hc hH hg (by rw [hs]; omega)
  rw [hs] at hcon
  refine Calls.mono (R := fun e w' => e = .returned (.tuple #[]) ∧ ∃ d' n' os, @Go.Sort.PermIn EnG ⟨ezG⟩ 0 n es.toArray d' ∧ @Go.Sort.SortedIn EnG ⟨ezG⟩ (Go.Proofs.ltOf laterC) 0 n d' ∧ w' = @sortWorldK EnG ⟨ezG⟩ wrValsG 7 w g 0 n' d' os) hcon ?_
  rintro e w' ⟨rfl, d', n', os, ⟨hp1, -, hp3⟩, hso, rfl⟩
  have hd : d'.size = n := by rw [hp1]; exact hs
  refine ⟨rfl, d'.toList, ?_, ?_, ?_, grown_sorted w g n' d' os⟩
  · have e1 : d'.extract 0 n = d' := by rw [← hd]; simp
    have e2 : es.toArray.extract 0 n = es.toArray := by rw [← hs]; simp
    rw [e1, e2] at hp3
    exact hp3
  · refine sorted_pair fun i j hij hj => ?_
    have hj' : j < d'.size := by simpa using hj
    have h := hso i j (Nat.zero_le _) hij (by omega)
    unfold Go.Proofs.ltOf laterC at h
    rw [decide_eq_false_iff_not, Int.not_lt] at h
    have gi : @getElem! (Array EnG) Nat EnG _ _ ⟨ezG⟩ d' i = d'.toList.getD i ezG := by
      rw [@getElem!_pos _ _ _ _ _ _ ⟨ezG⟩ d' i (by omega)]
      simp [List.getD, show i < d'.size by omega]
    have gj : @getElem! (Array EnG) Nat EnG _ _ ⟨ezG⟩ d' j = d'.toList.getD j ezG := by
      rw [@getElem!_pos _ _ _ _ _ _ ⟨ezG⟩ d' j (by omega)]
      simp [List.getD, hj']
    rw [gi, gj] at h
    exact h
  · exact @holdsK_sortWorldK_c EnG ⟨ezG⟩ wrValsG 7 w g 0 es.toArray d' n' os hH hg (by rw [hd, hs])

end Go.Proofs.Ytionfpjjlghanak

/- Six rows of writes that grow, a row a key; what they are behind an append and a store. -/
namespace Go.Proofs.Ytionfpjjlghanak
open Go.ChangeShapes Go.WideShapes Go.ChangeAt Go.RowKit Go.Joins

def updF {α : Type} (f : Nat → α) (k : Nat) (x : α) : Nat → α := fun i => if i = k then x else f i

theorem updF_at {α : Type} (f : Nat → α) (k : Nat) (x : α) : updF f k x k = x := if_pos rfl

theorem updF_off {α : Type} (f : Nat → α) {k i : Nat} (x : α) (h : i ≠ k) : updF f k x i = f i := if_neg h

/-- Six rows of writes of one's own; their dependencies lie in the world w0. -/
structure SixR (w0 w : World) (base : Nat) (V : Nat → Value) (E : Nat → List EnG) : Prop where
  own : ∀ k, k < 6 → w.ownsRow base 40 7 (V k) (E k).length ((E k).flatMap wrValsG)
  deps : ∀ k, k < 6 → ∀ e ∈ E k, IsDeps w0 e.a e.x.xs ∧ e.x.xs.length ≤ 1048576
  apart : ∀ i j, i < 6 → j < 6 → i ≠ j → ∀ b, (V i).ownBlock = some b → (V j).ownBlock ≠ some b

/-- The cells of block A hold the six slices. -/
structure SixA (w : World) (A : Nat) (V : Nat → Value) : Prop where
  lt : A < w.heap.size
  cells : CellsAre w A 6 V
  nf : ∀ o, w.frozen? ⟨A, o, none⟩ = false
  off : ∀ k, k < 6 → (V k).ownBlock ≠ some A

theorem SixR.below {w0 w w' : World} {base : Nat} {V : Nat → Value} {E : Nat → List EnG} (h : SixR w0 w base V E) (hb : Below w.heap.size w w') : SixR w0 w' base V E where
  own k hk := (h.own k hk).kept (row := none) (grown_of_below hb none) (by
    by_cases e : (V k).ownBlock = none
    · exact .inl e
    · exact .inr e)
  deps := h.deps
  apart := h.apart

theorem SixA.below {w w' : World} {A : Nat} {V : Nat → Value} (h : SixA w A V) (hb : Below w.heap.size w w') : SixA w' A V where
  lt := Nat.lt_of_lt_of_le h.lt hb.size
  cells := h.cells.of_block (hb.block A h.lt)
  nf o := (frozen_of_block (hb.block A h.lt)).trans (h.nf o)
  off := h.off

/-- One write more, in the row j. -/
theorem six_put {w0 W w4 : World} {base A j g3 cp3 : Nat} {V : Nat → Value} {E : Nat → List EnG} {e : EnG} (hj : j < 6) (h : SixR w0 W base V E) (hA : SixA W A V) (he : IsDeps w0 e.a e.x.xs ∧ e.x.xs.length ≤ 1048576) (hG : W.grownBy w4 (V j).ownBlock)
    (hrow : w4.ownsRow base 40 7 (.slice (some ⟨g3, 0, none⟩) ((E j).length + 1) cp3) ((E j).length + 1) ((E j).flatMap wrValsG ++ wrValsG e)) (hg3 : (V j).ownBlock = some g3 ∨ W.heap.size ≤ g3) :
    SixR w0 (w4.setCell ⟨A, j, none⟩ (.slice (some ⟨g3, 0, none⟩) ((E j).length + 1) cp3)) base (updF V j (.slice (some ⟨g3, 0, none⟩) ((E j).length + 1) cp3)) (updF E j (E j ++ [e])) ∧ SixA (w4.setCell ⟨A, j, none⟩ (.slice (some ⟨g3, 0, none⟩) ((E j).length + 1) cp3)) A (updF V j (.slice (some ⟨g3, 0, none⟩) ((E j).length + 1) cp3)) := by
  have hA4 : w4.heap[A]? = W.heap[A]? := hG.block A hA.lt (fun e => hA.off j hj e.symm)
  have hgA : g3 ≠ A := fun e => by
    rcases hg3 with h1 | h1
    · exact hA.off j hj (by rw [h1, e])
    · have := hA.lt
      omega
  have hnew : ∀ i, i < 6 → i ≠ j → (V i).ownBlock ≠ some g3 := fun i hi hne e => by
    rcases hg3 with h1 | h1
    · exact h.apart i j hi hj hne g3 e h1
    · have := ((h.own i hi).lt g3 e).2
      omega
  constructor
  · constructor
    · intro k hk
      by_cases e1 : k = j
      · subst e1
        rw [updF_at, updF_at]
        have h1 := World.ownsRow.kept hrow (grown_set w4 A k _) (.inr (by simpa [Value.ownBlock] using hgA)) (w' := w4.setCell ⟨A, k, none⟩ (.slice (some ⟨g3, 0, none⟩) ((E k).length + 1) cp3))
        rw [List.length_append, List.flatMap_append]
        simpa using h1
      · rw [updF_off _ _ e1, updF_off _ _ e1]
        refine ((h.own k hk).kept hG ?_).kept (grown_set w4 A j _) (.inr (hA.off k hk))
        by_cases e2 : (V k).ownBlock = none
        · exact .inl e2
        · refine .inr fun e3 => ?_
          cases hb : (V k).ownBlock with
          | none => exact e2 hb
          | some b => exact h.apart k j hk hj e1 b hb (by rw [← e3, hb])
    · intro k hk d hd
      by_cases e1 : k = j
      · subst e1
        rw [updF_at] at hd
        rcases List.mem_append.1 hd with hd | hd
        · exact h.deps k hk d hd
        · have : d = e := by simpa using hd
          rw [this]
          exact he
      · rw [updF_off _ _ e1] at hd
        exact h.deps k hk d hd
    · intro i k hi hk hne b hb
      by_cases e1 : i = j
      · subst e1
        rw [updF_at] at hb
        rw [updF_off _ _ (fun e => hne e.symm)]
        have : g3 = b := by simpa [Value.ownBlock] using hb
        rw [← this]
        exact hnew k hk (fun e => hne e.symm)
      · rw [updF_off _ _ e1] at hb
        by_cases e2 : k = j
        · subst e2
          rw [updF_at]
          intro e3
          have : g3 = b := by simpa [Value.ownBlock] using e3
          rw [← this] at hb
          exact hnew i hi e1 hb
        · rw [updF_off _ _ e2]
          exact h.apart i k hi hk hne b hb
  · constructor
    · have h1 := hG.size
      have h2 := hA.lt
      simp
      omega
    · exact (hA.cells.of_block hA4).set hj _
    · intro o
      rw [World.frozen?_setCell]
      exact (frozen_of_block hA4).trans (hA.nf o)
    · intro k hk
      by_cases e1 : k = j
      · subst e1
        rw [updF_at]
        simpa [Value.ownBlock] using hgA
      · rw [updF_off _ _ e1]
        exact hA.off k hk

/-- One write, in a new block. -/
def WrNew (ob : Option Nat) (e : EnG) : Fact := fun v w => ∃ g', v = .slice (some ⟨g', 0, none⟩) 1 1 ∧ g' < w.heap.size ∧ ob ≠ some g' ∧ ∀ j u, (wrValsG e)[j]? = some u → w.cell? ((⟨g', 0, none⟩ : Addr).add j) = some u

theorem lasts_wrNew (U : Tmp → Option Tmp) (s : Tmp) (dst : Option Tmp) (ob : Option Nat) (e : EnG) : lastsU U (AppS s ob) dst (WrNew ob e) := by
  rintro d' _ _ v w w' ⟨g', h1, h2, h3, h4⟩ hr
  have hr' := appS_any hr
  have hb := hr'.block g' h2 (fun e => h3 e.symm)
  refine ⟨g', h1, Nat.lt_of_lt_of_le h2 hr'.size, h3, fun j u hu => ?_⟩
  have := h4 j u hu
  rw [add_block] at this ⊢
  exact (World.cell?_of_block (a := ⟨g', j, none⟩) hb).trans this

/-- The row with one write more. -/
def WrRow (base B o : Nat) (ob : Option Nat) (xs : List Value) : Fact := fun v w => ∃ g3 cp3, v = .slice (some ⟨g3, 0, none⟩) (o + 1) cp3 ∧ w.ownsRow base 40 7 (.slice (some ⟨g3, 0, none⟩) (o + 1) cp3) (o + 1) xs ∧ (ob = some g3 ∨ B ≤ g3)

theorem lasts_wrRow (U : Tmp → Option Tmp) (s : Tmp) (ob : Option Nat) (base B o : Nat) (xs : List Value) : lastsU U (AppS s ob) (some s) (WrRow base B o ob xs) := by
  rintro d' hd _ v w w' ⟨g3, cp3, h1, h2, h3⟩ hr
  exact ⟨g3, cp3, h1, h2.kept (row := none) (grown_of_below (appS_below hd hr) none) (.inr (by simp [Value.ownBlock])), h3⟩

theorem ownsRow_below {w w' : World} {base t sz n : Nat} {v : Value} {xs : List Value} (h : w.ownsRow base t sz v n xs) (hb : Below w.heap.size w w') : w'.ownsRow base t sz v n xs :=
  h.kept (row := none) (grown_of_below hb none) (by
    by_cases e : v.ownBlock = none
    · exact .inl e
    · exact .inr e)

end Go.Proofs.Ytionfpjjlghanak

/- The contract of impl.latestFirst: of each key its writes, the latest first. -/
namespace Go.Proofs.Ytionfpjjlghanak
open Go.ChangeShapes Go.WideShapes Go.ChangeAt Go.RowKit Go.Joins
attribute [local go_sem ↓] Go.wp_at_zero Go.wp_at_succ

abbrev six (V : Nat → Value) : Array Value := #[V 0, V 1, V 2, V 3, V 4, V 5]

def nilS : Nat → Value := fun _ => .slice none 0 0

def ofKey (ws : List Wr) (k : Nat) : List Wr := ws.filter fun x => x.k == (k : Int)

theorem six_start (w0 w : World) (base A : Nat) (o : Obj) (hA : w.heap.size = A) (ho : o = .cells (six nilS) 74) : SixR w0 (w.alloc o) base nilS (fun _ => []) ∧ SixA (w.alloc o) A nilS := by
  subst ho hA
  refine ⟨⟨fun k _ => World.ownsRow_nil _ _ _ _, fun k _ e he => by simp at he, fun i j _ _ _ b hb => by simp [nilS, Value.ownBlock] at hb⟩, ⟨by simp, fun k hk => ?_, fun o => frozen_of_row _ _ o _ _ (heap_alloc_new w _), fun k _ => by simp [nilS, Value.ownBlock]⟩⟩
  rw [cell_of_row _ _ k _ _ (0, 0) (heap_alloc_new w _)]
  match k, hk with
  | 0, _ => rfl
  | 1, _ => rfl
  | 2, _ => rfl
  | 3, _ => rfl
  | 4, _ => rfl
  | 5, _ => rfl

theorem ofKey_take {ws : List Wr} {k j : Nat} (hk : k < ws.length) (hj : (ws.getD k wz).k = (j : Int)) (i : Nat) : ofKey (ws.take (k + 1)) i = if i = j then ofKey (ws.take k) i ++ [ws.getD k wz] else ofKey (ws.take k) i := by
  unfold ofKey
  have e : ws.take (k + 1) = ws.take k ++ [ws.getD k wz] := by
    rw [List.take_add_one, List.getElem?_eq_getElem hk]
    simp [List.getD, hk]
  rw [e, List.filter_append]
  generalize ws.getD k wz = x at *
  by_cases h : i = j
  · rw [if_pos h]
    have : (x.k == (i : Int)) = true := by rw [hj, h]; simp
    simp [this]
  · rw [if_neg h]
    have : (x.k == (i : Int)) = false := by
      rw [hj, beq_eq_false_iff_ne]
      omega
    simp [this]

theorem ofKey_len (ws : List Wr) (k j : Nat) : (ofKey (ws.take k) j).length ≤ k := by
  unfold ofKey
  have h1 := List.length_filter_le (fun x : Wr => x.k == (j : Int)) (ws.take k)
  have h2 : (ws.take k).length ≤ k := by simp; omega
  omega

theorem startL_eq (us vs : List Wr) (k : Nat) : startL us vs k = (ofKey us k).map strip ++ ofKey vs k := rfl

/-- The box of a write of which the first four cells are read, and the cell of its key's row, while the row grows. -/
theorem put_cells {W : World} {A B j : Nat} {V : Nat → Value} (hA : SixA W A V) (hj : j < 6) (hB : B < W.heap.size) (hob : (V j).ownBlock ≠ some B) {x0 x1 x2 x3 x4 x5 x6 : Value} (h0 : W.cell? ⟨B, 0, none⟩ = some x0) (h1 : W.cell? ⟨B, 1, none⟩ = some x1) (h2 : W.cell? ⟨B, 2, none⟩ = some x2) (h3 : W.cell? ⟨B, 3, none⟩ = some x3) (h4 : W.cell? ⟨B, 4, none⟩ = some x4) (h5 : W.cell? ⟨B, 5, none⟩ = some x5) (h6 : W.cell? ⟨B, 6, none⟩ = some x6) :
    ∀ w', W.grownBy w' (V j).ownBlock → w'.cell? ⟨B, 0, none⟩ = some x0 ∧ w'.cell? ⟨B, 1, none⟩ = some x1 ∧ w'.cell? ⟨B, 2, none⟩ = some x2 ∧ w'.cell? ⟨B, 3, none⟩ = some x3 ∧ w'.cell? ⟨B, 4, none⟩ = some x4 ∧ w'.cell? ⟨B, 5, none⟩ = some x5 ∧ w'.cell? ⟨B, 6, none⟩ = some x6 ∧ w'.cell? ⟨A, j, none⟩ = some (V j) := fun w' hG => by
  have hb := hG.block B hB (fun e => hob e.symm)
  have ha := hG.block A hA.lt (fun e => hA.off j hj e.symm)
  have c : ∀ o, w'.cell? ⟨B, o, none⟩ = W.cell? ⟨B, o, none⟩ := fun o => World.cell?_of_block (a := ⟨B, o, none⟩) hb
  exact ⟨(c _).trans h0, (c _).trans h1, (c _).trans h2, (c _).trans h3, (c _).trans h4, (c _).trans h5, (c _).trans h6, (World.cell?_of_block (a := ⟨A, j, none⟩) ha).trans (hA.cells j hj)⟩

/-- The box of the result, as it was made. -/
def RBox (w : World) (R : Nat) : Prop := R < w.heap.size ∧ CellsAre w R 6 nilS ∧ ∀ o, w.frozen? ⟨R, o, none⟩ = false

theorem RBox.of_block {w w' : World} {R : Nat} (h : RBox w R) (hs : w.heap.size ≤ w'.heap.size) (hb : w'.heap[R]? = w.heap[R]?) : RBox w' R :=
  ⟨Nat.lt_of_lt_of_le h.1 hs, h.2.1.of_block hb, fun o => (frozen_of_block hb).trans (h.2.2 o)⟩

theorem RBox.below {w w' : World} {R : Nat} (h : RBox w R) (hb : Below w.heap.size w w') : RBox w' R := h.of_block hb.size (hb.block R h.1)

theorem rbox_start (w : World) (o : Obj) (ho : o = .cells (six nilS) 74) : RBox (w.alloc o) w.heap.size :=
  ⟨(six_start w w 0 _ o rfl ho).2.lt, (six_start w w 0 _ o rfl ho).2.cells, (six_start w w 0 _ o rfl ho).2.nf⟩

/-- .. behind an append and a store. -/
theorem RBox.put {W w4 : World} {R A base j : Nat} {V : Nat → Value} {E : Nat → List EnG} {w0 : World} (h : RBox W R) (hj : j < 6) (hR : SixR w0 W base V E) (hb : R < base) (hA : A ≠ R) (hG : W.grownBy w4 (V j).ownBlock) (v : Value) : RBox (w4.setCell ⟨A, j, none⟩ v) R := by
  have h1 : RBox w4 R := h.of_block hG.size (hG.block R h.1 fun e => by have := ((hR.own j hj).lt R e.symm).1; omega)
  exact h1.of_block (by simp) ((grown_set w4 A j v).block R h1.1 (by simpa using Ne.symm hA))

theorem HoldsE.of_block {w w' : World} {g : Nat} {es : List EnG} (h : HoldsE w g es) (hb : w'.heap[g]? = w.heap[g]?) : HoldsE w' g es := fun j hj => by
  obtain ⟨h1, h2⟩ := h j hj
  exact ⟨(World.cell?_of_block (a := ⟨g, 0 + j, none⟩) hb).trans h1, (frozen_of_block hb).trans h2⟩

theorem get_es (es : List EnG) {i : Nat} (h : i < es.length) : @getElem! (Array EnG) Nat EnG _ _ ⟨ezG⟩ es.toArray i = es.getD i ezG := by
  rw [@getElem!_pos _ _ _ _ _ _ ⟨ezG⟩ es.toArray i (by simpa using h)]
  simp [List.getD, h]

theorem vals_bang (e : EnG) {c : Nat} (h : c < 7) : (wrValsG e)[c]? = some (wrValsG e)[c]! := by
  match c, h with
  | 0, _ => rfl
  | 1, _ => rfl
  | 2, _ => rfl
  | 3, _ => rfl
  | 4, _ => rfl
  | 5, _ => rfl
  | 6, _ => rfl

theorem holdsE_of_own {w : World} {base g n cap : Nat} {es : List EnG} (h : w.ownsRow base 40 7 (.slice (some ⟨g, 0, none⟩) n cap) n (es.flatMap wrValsG)) (hn : es.length = n) : HoldsE w g es := by
  intro t ht
  have ht' : t < es.length * 7 := by simpa using ht
  rw [Nat.zero_add]
  refine ⟨?_, h.frozenAt t⟩
  have hd : t / 7 < es.length := by omega
  have hm : t % 7 < 7 := by omega
  rw [h.cellAt t (by omega)]
  show _ = some (@getElem! (Array Value) Nat Value _ _ _ (@Go.Sort.flatK EnG ⟨ezG⟩ wrValsG 7 es.toArray) t)
  rw [@Go.Sort.get_flatK EnG ⟨ezG⟩ wrValsG 7 es.toArray t (by simpa using ht'), get_es es hd]
  have e := valsG_at es (t / 7) (t % 7) hd hm
  rw [show t / 7 * 7 + t % 7 = t by omega] at e
  rw [e, vals_bang _ hm]

theorem holdsE_isWs {w : World} {g : Nat} {es : List EnG} (h : HoldsE w g es) (hg : g < w.heap.size) (hd : ∀ e ∈ es, IsDeps w e.a e.x.xs ∧ e.x.xs.length ≤ 1048576) : IsWs w (some ⟨g, 0, none⟩) (es.map (·.x)) := by
  refine .inr ⟨g, 0, rfl, hg, fun i hi => ?_⟩
  have hi' : i < es.length := by simpa using hi
  have hx : (es.map (·.x)).getD i wz = (es.getD i ezG).x := by simp [List.getD, hi']
  have hm : es.getD i ezG ∈ es := by simp [List.getD, hi']
  rw [hx]
  have c : ∀ c, c < 7 → w.cell? ⟨g, 0 + i * 7 + c, none⟩ = (wrValsG (es.getD i ezG))[c]? := fun c hc => by
    have := (@Go.Sort.HoldsK.cell EnG ⟨ezG⟩ wrValsG 7 w g 0 es.toArray h i c (by simpa using hi') hc).1
    rw [this, get_es es hi', vals_bang _ hc]
  have hl : (es.getD i ezG).x.xs.length ≤ maxLen := by have := (hd _ hm).2; unfold maxLen; omega
  exact ⟨_, _, ⟨c 0 (by omega), c 1 (by omega), c 2 (by omega), c 3 (by omega), c 4 (by omega), c 5 (by omega), c 6 (by omega)⟩, hl, (hd _ hm).1⟩

/-- A row to be sorted. -/
def RowS (w : World) (v : Value) (es : List EnG) : Prop := (es = [] ∧ ∃ p c, v = .slice p 0 c) ∨ ∃ g c, v = .slice (some ⟨g, 0, none⟩) es.length c ∧ es.length ≤ c ∧ g < w.heap.size ∧ HoldsE w g es

theorem rowS_of_own {w : World} {base : Nat} {v : Value} {es : List EnG} (h : w.ownsRow base 40 7 v es.length (es.flatMap wrValsG)) : RowS w v es := by
  rcases h.2 with ⟨h1, h2⟩ | ⟨g, cap, cur, h1, h2, h3, h4, _⟩
  · exact .inl ⟨List.length_eq_zero_iff.1 h2, none, 0, h1⟩
  · subst h1
    exact .inr ⟨g, cap, rfl, h4, (Array.getElem?_eq_some_iff.1 h3).1, holdsE_of_own h rfl⟩

theorem RowS.grown {w w' : World} {v : Value} {es : List EnG} {ob : Option Nat} (h : RowS w v es) (hg : w.grownBy w' ob) (hv : ∀ b, v.ownBlock = some b → ob ≠ some b) : RowS w' v es := by
  rcases h with h | ⟨g, c, h1, h0, h2, h3⟩
  · exact .inl h
  · exact .inr ⟨g, c, h1, h0, Nat.lt_of_lt_of_le h2 hg.size, h3.of_block (hg.block g h2 fun e => hv g (by rw [h1]; rfl) e.symm)⟩

def sP : Value → Option Addr
  | .slice p _ _ => p
  | _ => none

def sC : Value → Nat
  | .slice _ _ c => c
  | _ => 0

theorem RowS.form {w : World} {v : Value} {es : List EnG} (h : RowS w v es) : v = .slice (sP v) es.length (sC v) := by
  rcases h with ⟨rfl, p, c, rfl⟩ | ⟨g, c, rfl, _⟩
  · rfl
  · rfl

theorem RowS.le {w : World} {v : Value} {es : List EnG} (h : RowS w v es) : es.length ≤ sC v := by
  rcases h with ⟨rfl, p, c, rfl⟩ | ⟨g, c, rfl, h1, _⟩
  · exact Nat.zero_le _
  · exact h1

theorem RowS.isWs {w : World} {v : Value} {es : List EnG} (h : RowS w v es) (hd : ∀ e ∈ es, IsDeps w e.a e.x.xs ∧ e.x.xs.length ≤ 1048576) : IsWs w (sP v) (es.map (·.x)) := by
  rcases h with ⟨rfl, p, c, rfl⟩ | ⟨g, c, rfl, -, h2, h3⟩
  · exact .inl rfl
  · exact holdsE_isWs h3 h2 hd

theorem six_at (V : Nat → Value) {k : Nat} (h : k < 6) : (six V)[k]? = some (V k) := by
  match k, h with
  | 0, _ => rfl
  | 1, _ => rfl
  | 2, _ => rfl
  | 3, _ => rfl
  | 4, _ => rfl
  | 5, _ => rfl

theorem run_index6 (V : Nat → Value) {q : Nat} (h : q < 6) (v : Value) (hv : V q = v) (w : World) : (Instr.index 74 (.agg #[V 0, V 1, V 2, V 3, V 4, V 5]) (.int .i64 (q : Int))).run Try.prog w = .ok v w := by
  have hix : [V 0, V 1, V 2, V 3, V 4, V 5][q]? = some v := by
    rw [← hv]
    have := six_at V h
    simpa using this
  simp [Instr.index, go_sem, Go.part, Try.isAgg24, Try.sizeOf24, h]
  exact (List.getElem?_eq_some_iff.1 hix).2

theorem six_congr {V V' : Nat → Value} (h : ∀ k, k < 6 → V k = V' k) : six V = six V' := by
  unfold six
  rw [h 0 (by omega), h 1 (by omega), h 2 (by omega), h 3 (by omega), h 4 (by omega), h 5 (by omega)]

end Go.Proofs.Ytionfpjjlghanak

/- slices.SortFunc over no writes. -/
namespace Go.Proofs.Ytionfpjjlghanak
open Go.ChangeShapes Go.WideShapes Go.ChangeAt Go.RowKit Go.Joins

theorem sortN_any (a : Option Addr) (cap : Nat) (w : World) :
    Calls Try.prog 58 #[.slice a 0 cap, .func (.func 59) #[] #[]] w fun e w' => e = .returned (.tuple #[]) ∧ w' = w :=
  AnyF.slices_SortFunc_none Try.sortW a cap _ w

end Go.Proofs.Ytionfpjjlghanak

/- The contract of impl.latestFirst: of each key its writes, the latest first. -/
namespace Go.Proofs.Ytionfpjjlghanak
open Go.ChangeShapes Go.WideShapes Go.ChangeAt Go.RowKit Go.Joins
attribute [local go_sem ↓] Go.wp_at_zero Go.wp_at_succ

set_option maxRecDepth 100000 in
set_option maxHeartbeats 16000000 in
theorem latest_any (a b : Option Addr) (n m cap cap' : Nat) (us vs : List Wr) (w : World) (hn : us.length = n) (hm : vs.length = m) (hs : n + m ≤ 1048576) (hx : Few us) (hy : Few vs) (hi : IsWs w a us) (hj : IsWs w b vs) (hku : ∀ i, i < us.length → 0 ≤ (us.getD i wz).k ∧ (us.getD i wz).k ≤ 5) (hkv : ∀ i, i < vs.length → 0 ≤ (vs.getD i wz).k ∧ (vs.getD i wz).k ≤ 5) :
    Calls Try.prog 43 #[.slice a n cap, .slice b m cap'] w fun e w' => ∃ (P : Nat → Option Addr) (C : Nat → Nat) (L : Nat → List Wr), e = .returned (.agg (six fun k => .slice (P k) (L k).length (C k))) ∧ (∀ k, k < 6 → IsWs w' (P k) (L k) ∧ (L k).length ≤ C k ∧ (L k).Perm (startL us vs k) ∧ (L k).Pairwise fun x y => 0 ≤ tcmp x.c x.s x.q y.c y.s y.q) ∧ Below w.heap.size w w' := by
  have HI : Hid (IsWs w a us) := hi
  have HJ : Hid (IsWs w b vs) := hj
  have HN : Hid (us.length = n) := hn
  have HM : Hid (vs.length = m) := hm
  have HX : Hid (Few us) := hx
  have HY : Hid (Few vs) := hy
  have HKU : Hid (∀ i, i < us.length → 0 ≤ (us.getD i wz).k ∧ (us.getD i wz).k ≤ 5) := hku
  have HKV : Hid (∀ i, i < vs.length → 0 ≤ (vs.getD i wz).k ∧ (vs.getD i wz).k ≤ 5) := hkv
  clear hi hj hn hm hx hy hku hkv
  obtain ⟨i0, hi0, hx0⟩ := Option.map_eq_some_iff.1 infoWr
  simp only [Prod.mk.injEq] at hx0
  have HI0 := Lib.hid hi0
  have HX0 := Lib.hid hx0
  clear hi0 hx0
  have HS0 := Lib.hid (six_start w (w.alloc (.cells (six nilS) 74)) (w.heap.size + 2) (w.heap.size + 1) _ (by simp) rfl)
  have HQ0 : Hid (RBox ((w.alloc (.cells (six nilS) 74)).alloc (.cells (six nilS) 74)) w.heap.size) := (rbox_start w _ rfl).below ((Below.refl _ _).alloc (Nat.le_refl _) _)
  have HB0 : Hid (Below w.heap.size w ((w.alloc (.cells (six nilS) 74)).alloc (.cells (six nilS) 74))) := ((Below.refl _ _).alloc (Nat.le_refl _) _).alloc (by simp) _
  go_enter Try.func43, Try.ntmps43
  go_wp2
  go_loopw [14] (fun i wr => ∃ (k : Nat) (V : Nat → Value) (E : Nat → List EnG), k ≤ n ∧ i = .int .i64 k ∧ Hid (∀ j, j < 6 → (E j).map (·.x) = (ofKey (us.take k) j).map strip) ∧ Hid (SixR w wr (w.heap.size + 2) V E) ∧ Hid (SixA wr (w.heap.size + 1) V) ∧ Hid (RBox wr w.heap.size) ∧ Hid (Below w.heap.size w wr)) (fun i _ => n - (intOf i).toNat)
  case atStart => exact ⟨0, nilS, fun _ => [], Nat.zero_le _, rfl, fun j _ => rfl, HS0.out.1, HS0.out.2, HQ0, HB0⟩
  case round =>
    clear HS0 HB0 HQ0
    obtain ⟨k, V, E, hk, rfl, HE, HR, HA, HQ, HB⟩ := hrel
    by_cases hk' : k < n
    · obtain ⟨bb, oo, ad, cq, rfl, hz, ⟨e0, e1, e2, e3, e4, e5, e6⟩, hdd⟩ := HI.out.base HB.out HN.out hk'
      have i1 : (0 : Int) ≤ (k : Int) := by omega
      have i2 : (k : Int) < (n : Int) := by omega
      have hkw : k < us.length := by rw [HN.out]; exact hk'
      obtain ⟨k0, k5⟩ := HKU.out k hkw
      have hxl := HX.out k hkw
      obtain ⟨j, hj⟩ : ∃ j : Nat, (us.getD k wz).k = (j : Int) := ⟨(us.getD k wz).k.toNat, by omega⟩
      have hj6 : j < 6 := by omega
      have HT : Hid (∀ i, ofKey (us.take (k + 1)) i = if i = j then ofKey (us.take k) i ++ [us.getD k wz] else ofKey (us.take k) i) := ofKey_take hkw hj
      have hEl : (E j).length ≤ k := by
        have h1 := congrArg List.length (HE.out j hj6)
        simp only [List.length_map] at h1
        rw [h1]
        exact ofKey_len us k j
      have HDD := Lib.hid hdd
      clear HI hdd
      generalize us.getD k wz = x at *
      obtain ⟨xk, xc, xs', xq, xv, xd, xx⟩ := x
      simp only at e0 e1 e2 e3 e4 e5 e6 hj hxl HDD
      subst hj
      have HBX : Hid (Below wr.heap.size wr (wr.alloc (.cells #[.int .i64 (j : Int), .int .i64 xc, .int .i64 xs', .int .i64 xq, .int .i64 xv, .bool xd, .slice ad xx.length cq] 40))) := (Below.refl _ _).alloc (Nat.le_refl _) _
      have HR1 := Lib.hid (HR.out.below HBX.out)
      have HA1 := Lib.hid (HA.out.below HBX.out)
      have HQ1 := Lib.hid (HQ.out.below HBX.out)
      have HBW := Lib.hid (below_step HB.out HB.out.size HBX.out)
      have hbx : ∀ o u, (#[.int .i64 (j : Int), .int .i64 xc, .int .i64 xs', .int .i64 xq, .int .i64 xv, .bool xd, .slice ad xx.length cq] : Array Value)[o]? = some u → (wr.alloc (.cells #[.int .i64 (j : Int), .int .i64 xc, .int .i64 xs', .int .i64 xq, .int .i64 xv, .bool xd, .slice ad xx.length cq] 40)).cell? ⟨wr.heap.size, o, none⟩ = some u := fun o u hu => by
        rw [cell_of_row _ _ o _ _ (0, 0) (heap_alloc_new wr _)]
        exact hu
      have HCL := Lib.hid (put_cells HA1.out hj6 (B := wr.heap.size) (by simp) (fun e => by have := ((HR.out.own j hj6).lt _ e).2; omega) (hbx 0 _ rfl) (hbx 1 _ rfl) (hbx 2 _ rfl) (hbx 3 _ rfl) (hbx 4 _ rfl) (hbx 5 _ rfl) (hbx 6 _ rfl))
      clear hbx HR HA HB HQ
      have j1 : (0 : Int) ≤ (j : Int) := by omega
      have j2 : (j : Int) < 6 := by omega
      go_upto_region 5 with fail
      clear e0 e1 e2 e3 e4 e5 e6
      generalize hWb : wr.alloc (.cells #[.int .i64 (j : Int), .int .i64 xc, .int .i64 xs', .int .i64 xq, .int .i64 xv, .bool xd, .slice ad xx.length cq] 40) = Wb at *
      have HBs : Hid (w.heap.size + 2 ≤ Wb.heap.size) := by have := HA1.out.lt; exact Lib.hid (by omega)
      refine wp_region_slots_u 14 [[(7, false)], [(18, true)], [(7, false)], [(20, true)], [(5, false), (21, true)], [(22, true)], [(7, false)], [(24, true)], [(7, false)], [(26, true)], [(25, true), (27, true)], [(28, true)], [(23, true), (29, true)], [(5, false), (19, true)]] (fun w' => Wb.grownBy w' (V j).ownBlock) (fun w' => Wb.grownBy w' (V j).ownBlock) (fun _ w' => Wb.grownBy w' (V j).ownBlock) (fun d w' => d = some 30 → w'.ownsRow (w.heap.size + 2) 40 7 (V j) (E j).length ((E j).flatMap wrValsG)) (fun _ => none) (AppS 30 (V j).ownBlock) (by kernel_rfl) (by kernel_rfl) (by rfl) ⟨rfl, rfl, rfl, Nat.le_refl _, fun _ _ _ => rfl⟩ (by kernel_rfl) (fun _ _ => HR1.out.own j hj6) (fun _ h => by cases h) (fun d d' hd w w' h1 h2 h3 => ownsRow_below (h1 h3) (appS_below (h3 ▸ hd) h2)) (fun _ _ _ _ _ _ h => by cases h) (fun d _ w w' h1 h2 => grown_trans h1 (appS_any h2)) (fun _ _ _ h => h) (fun _ _ _ h => h) ?_
      have HRF : Hid (∀ (d : Option Tmp) (w : World), d ≠ some 30 → AppS 30 (V j).ownBlock d w w) := fun d w hd => appS_refl hd w
      iterate 11 (apply slotU_eq; · (intro ρ w' ⟨p1, p2, p3⟩ hG hEE hn; obtain ⟨c0, c1, c2, c3, c4, c5, c6, cA⟩ := HCL.out w' hG; simp at hn; go_simp; exact ⟨HRF.out _ _ (by simp), rfl⟩))
      refine slotU_fact (WrNew (V j).ownBlock ⟨strip ⟨(j : Int), xc, xs', xq, xv, xd, xx⟩, none, 0, 0⟩) (lasts_wrNew _ _ _ _ _) ?_ ?_
      · intro ρ w' ⟨p1, p2, p3⟩ hG hEE hn
        simp at hn
        go_simp
        exact ⟨appS_alloc (by simp) _ _, _, rfl, by simp, fun e => by have h1 := ((HR1.out.own j hj6).lt _ e).2; have h2 := hG.size; omega, oneG_cells _ _ ⟨strip ⟨(j : Int), xc, xs', xq, xv, xd, xx⟩, none, 0, 0⟩⟩
      refine slotU_fact (WrRow (w.heap.size + 2) Wb.heap.size (E j).length (V j).ownBlock ((E j).flatMap wrValsG ++ wrValsG ⟨strip ⟨(j : Int), xc, xs', xq, xv, xd, xx⟩, none, 0, 0⟩)) (lasts_wrRow _ _ _ _ _ _ _) ?_ ?_
      · intro ρ w' ⟨p1, p2, p3⟩ hG hEE hn
        simp at hn
        obtain ⟨fr, g', fn, hg3, hg4, hg5⟩ := hn
        have hown := hEE rfl
        refine got_append (.tmp 23) (.tmp 29) _ rfl (w.heap.size + 2) 40 i0 (wrV 0 0 0 0 0 false none 0 0) 7 72 Try.underlying24 HI0.out HX0.out.1 HX0.out.2.1 HX0.out.2.2 (by rfl) (by omega) (V j) (E j).length ((E j).flatMap wrValsG) fr hown ⟨g', 0, none⟩ 1 1 (wrValsG ⟨strip ⟨(j : Int), xc, xs', xq, xv, xd, xx⟩, none, 0, 0⟩) fn (by rfl) hg5 (by simpa using valsG_one [⟨strip ⟨(j : Int), xc, xs', xq, xv, xd, xx⟩, none, 0, 0⟩]) (by omega) (by unfold maxLen; omega) (by omega) (Nat.le_trans HBs.out hG.size) _ rfl ?_
        intro g3 cp3 w5 h1 h2 h3 h4
        refine ⟨appS_grown h2, g3, cp3, rfl, h1, ?_⟩
        rcases h3 with h3 | h3
        · exact .inl h3
        · exact .inr (by rw [h3]; exact hG.size)
      iterate 1 (apply slotU_eq; · (intro ρ w' ⟨p1, p2, p3⟩ hG hEE hn; obtain ⟨c0, c1, c2, c3, c4, c5, c6, cA⟩ := HCL.out w' hG; simp at hn; go_simp; exact ⟨HRF.out _ _ (by simp), rfl⟩))
      refine slotU_end ?_
      rintro tv w4 hG hF
      simp at hF
      obtain ⟨f31, ⟨g3, cp3, f30, hrow, hg3⟩, ⟨g', f29, -, -, -⟩, f28, f27, f26, f25, f24, f23, f22, f21, f20, f19, f18⟩ := hF
      have HP := Lib.hid (six_put (e := ⟨strip ⟨(j : Int), xc, xs', xq, xv, xd, xx⟩, none, 0, 0⟩) hj6 HR1.out HA1.out ⟨.inl rfl, by simp [strip]⟩ hG hrow hg3)
      have HQ4 := Lib.hid (HQ1.out.put (A := w.heap.size + 1) hj6 HR1.out (by omega) (by omega) hG (.slice (some ⟨g3, 0, none⟩) ((E j).length + 1) cp3))
      have cA := (HCL.out w4 hG).2.2.2.2.2.2.2
      have fA : w4.frozen? ⟨w.heap.size + 1, j, none⟩ = false := (frozen_of_block (hG.block _ HA1.out.lt (fun e => HA1.out.off j hj6 e.symm))).trans (HA1.out.nf j)
      have HB4 : Hid (Below w.heap.size w (w4.setCell ⟨w.heap.size + 1, j, none⟩ (.slice (some ⟨g3, 0, none⟩) ((E j).length + 1) cp3))) := (HBW.out.grown hG HBW.out.size fun b hb => by have := ((HR1.out.own j hj6).lt b hb).1; omega).setCell (by simp) _
      have HE4 : Hid (∀ i, i < 6 → (updF E j (E j ++ [⟨strip ⟨(j : Int), xc, xs', xq, xv, xd, xx⟩, none, 0, 0⟩]) i).map (·.x) = (ofKey (us.take (k + 1)) i).map strip) := fun i hi => by
        rw [HT.out i]
        by_cases e : i = j
        · subst e
          rw [updF_at, if_pos rfl, List.map_append, HE.out i hi]
          rw [List.map_append]
          rfl
        · rw [updF_off _ _ e, if_neg e]
          exact HE.out i hi
      clear hrow hg3 hG HR1 HA1 HQ1 HCL HRF HE HBW
      simp only [List.take_succ_cons, List.take_zero, List.drop_succ_cons, List.drop_zero, putAll, f31, f30, f29, f28, f27, f26, f25, f24, f23, f22, f21, f20, f19, f18]
      clear f18 f19 f20 f21 f22 f23 f24 f25 f26 f27 f28 f29 f30 f31
      simp only [Act.put, List.setIfInBounds_toArray, List.set_cons_succ, List.set_cons_zero]
      generalize updF E j (E j ++ [⟨strip ⟨(j : Int), xc, xs', xq, xv, xd, xx⟩, none, 0, 0⟩]) = E4 at *
      go_wp2
      exact ⟨⟨k + 1, _, E4, by omega, by go_num, HE4, HP.out.1, HP.out.2, HQ4, HB4⟩, by simp [intOf]; omega⟩
    · have hkk : k = n := by omega
      subst hkk
      have HE0 : Hid (∀ j, j < 6 → (E j).map (·.x) = (ofKey us j).map strip ++ ofKey (vs.take 0) j) := fun j hj => by
        rw [HE.out j hj, List.take_of_length_le (by rw [HN.out]; exact Nat.le_refl _)]
        simp [ofKey]
      clear HE
      go_wp2
      go_loopw [35] (fun i wr => ∃ (q : Nat) (V : Nat → Value) (E : Nat → List EnG), q ≤ m ∧ i = .int .i64 q ∧ Hid (∀ j, j < 6 → (E j).map (·.x) = (ofKey us j).map strip ++ ofKey (vs.take q) j) ∧ Hid (SixR w wr (w.heap.size + 2) V E) ∧ Hid (SixA wr (w.heap.size + 1) V) ∧ Hid (RBox wr w.heap.size) ∧ Hid (Below w.heap.size w wr)) (fun i _ => m - (intOf i).toNat)
      case atStart => exact ⟨0, V, E, Nat.zero_le _, rfl, HE0, HR, HA, HQ, HB⟩
      case round =>
        clear HE0 HR HA HQ HB
        generalize k = n at *
        obtain ⟨k, V, E, hk, rfl, HE, HR, HA, HQ, HB⟩ := hrel
        by_cases hk' : k < m
        · obtain ⟨bb, oo, ad, cq, rfl, hz, ⟨e0, e1, e2, e3, e4, e5, e6⟩, hdd⟩ := HJ.out.base HB.out HM.out hk'
          have i1 : (0 : Int) ≤ (k : Int) := by omega
          have i2 : (k : Int) < (m : Int) := by omega
          have hkw : k < vs.length := by rw [HM.out]; exact hk'
          obtain ⟨k0, k5⟩ := HKV.out k hkw
          have hxl := HY.out k hkw
          obtain ⟨j, hj⟩ : ∃ j : Nat, (vs.getD k wz).k = (j : Int) := ⟨(vs.getD k wz).k.toNat, by omega⟩
          have hj6 : j < 6 := by omega
          have HT : Hid (∀ i, ofKey (vs.take (k + 1)) i = if i = j then ofKey (vs.take k) i ++ [vs.getD k wz] else ofKey (vs.take k) i) := ofKey_take hkw hj
          have hEl : (E j).length ≤ n + k := by
            have h1 := congrArg List.length (HE.out j hj6)
            simp only [List.length_map, List.length_append] at h1
            have h2 := ofKey_len us n j
            have h3 := ofKey_len vs k j
            rw [List.take_of_length_le (by rw [HN.out]; exact Nat.le_refl _)] at h2
            omega
          have HDD := Lib.hid hdd
          clear HJ hdd
          generalize vs.getD k wz = x at *
          obtain ⟨xk, xc, xs', xq, xv, xd, xx⟩ := x
          simp only at e0 e1 e2 e3 e4 e5 e6 hj hxl HDD
          subst hj
          have HBX : Hid (Below wr.heap.size wr (wr.alloc (.cells #[.int .i64 (j : Int), .int .i64 xc, .int .i64 xs', .int .i64 xq, .int .i64 xv, .bool xd, .slice ad xx.length cq] 40))) := (Below.refl _ _).alloc (Nat.le_refl _) _
          have HR1 := Lib.hid (HR.out.below HBX.out)
          have HA1 := Lib.hid (HA.out.below HBX.out)
          have HQ1 := Lib.hid (HQ.out.below HBX.out)
          have HBW := Lib.hid (below_step HB.out HB.out.size HBX.out)
          have hbx : ∀ o u, (#[.int .i64 (j : Int), .int .i64 xc, .int .i64 xs', .int .i64 xq, .int .i64 xv, .bool xd, .slice ad xx.length cq] : Array Value)[o]? = some u → (wr.alloc (.cells #[.int .i64 (j : Int), .int .i64 xc, .int .i64 xs', .int .i64 xq, .int .i64 xv, .bool xd, .slice ad xx.length cq] 40)).cell? ⟨wr.heap.size, o, none⟩ = some u := fun o u hu => by
            rw [cell_of_row _ _ o _ _ (0, 0) (heap_alloc_new wr _)]
            exact hu
          have HCL := Lib.hid (put_cells HA1.out hj6 (B := wr.heap.size) (by simp) (fun e => by have := ((HR.out.own j hj6).lt _ e).2; omega) (hbx 0 _ rfl) (hbx 1 _ rfl) (hbx 2 _ rfl) (hbx 3 _ rfl) (hbx 4 _ rfl) (hbx 5 _ rfl) (hbx 6 _ rfl))
          clear hbx HR HA HB HQ
          have j1 : (0 : Int) ≤ (j : Int) := by omega
          have j2 : (j : Int) < 6 := by omega
          go_upto_region 10 with fail
          clear e0 e1 e2 e3 e4 e5 e6
          generalize hWb : wr.alloc (.cells #[.int .i64 (j : Int), .int .i64 xc, .int .i64 xs', .int .i64 xq, .int .i64 xv, .bool xd, .slice ad xx.length cq] 40) = Wb at *
          have HBs : Hid (w.heap.size + 2 ≤ Wb.heap.size) := by have := HA1.out.lt; exact Lib.hid (by omega)
          refine wp_region_slots_u 10 [[(9, false)], [(39, true)], [(9, false)], [(41, true)], [(5, false), (42, true)], [(43, true)], [(9, false)], [(45, true)], [(44, true), (46, true)], [(5, false), (40, true)]] (fun w' => Wb.grownBy w' (V j).ownBlock) (fun w' => Wb.grownBy w' (V j).ownBlock) (fun _ w' => Wb.grownBy w' (V j).ownBlock) (fun d w' => d = some 47 → w'.ownsRow (w.heap.size + 2) 40 7 (V j) (E j).length ((E j).flatMap wrValsG)) (fun _ => none) (AppS 47 (V j).ownBlock) (by kernel_rfl) (by kernel_rfl) (by rfl) ⟨rfl, rfl, rfl, Nat.le_refl _, fun _ _ _ => rfl⟩ (by kernel_rfl) (fun _ _ => HR1.out.own j hj6) (fun _ h => by cases h) (fun d d' hd w w' h1 h2 h3 => ownsRow_below (h1 h3) (appS_below (h3 ▸ hd) h2)) (fun _ _ _ _ _ _ h => by cases h) (fun d _ w w' h1 h2 => grown_trans h1 (appS_any h2)) (fun _ _ _ h => h) (fun _ _ _ h => h) ?_
          have HRF : Hid (∀ (d : Option Tmp) (w : World), d ≠ some 47 → AppS 47 (V j).ownBlock d w w) := fun d w hd => appS_refl hd w
          iterate 7 (apply slotU_eq; · (intro ρ w' ⟨p1, p2, p3⟩ hG hEE hn; obtain ⟨c0, c1, c2, c3, c4, c5, c6, cA⟩ := HCL.out w' hG; simp at hn; go_simp; exact ⟨HRF.out _ _ (by simp), rfl⟩))
          refine slotU_fact (WrNew (V j).ownBlock ⟨⟨(j : Int), xc, xs', xq, xv, xd, xx⟩, ad, 0, cq⟩) (lasts_wrNew _ _ _ _ _) ?_ ?_
          · intro ρ w' ⟨p1, p2, p3⟩ hG hEE hn
            simp at hn
            go_simp
            exact ⟨appS_alloc (by simp) _ _, _, rfl, by simp, fun e => by have h1 := ((HR1.out.own j hj6).lt _ e).2; have h2 := hG.size; omega, oneG_cells _ _ ⟨⟨(j : Int), xc, xs', xq, xv, xd, xx⟩, ad, 0, cq⟩⟩
          refine slotU_fact (WrRow (w.heap.size + 2) Wb.heap.size (E j).length (V j).ownBlock ((E j).flatMap wrValsG ++ wrValsG ⟨⟨(j : Int), xc, xs', xq, xv, xd, xx⟩, ad, 0, cq⟩)) (lasts_wrRow _ _ _ _ _ _ _) ?_ ?_
          · intro ρ w' ⟨p1, p2, p3⟩ hG hEE hn
            simp at hn
            obtain ⟨fr, g', fn, hg3, hg4, hg5⟩ := hn
            have hown := hEE rfl
            refine got_append (.tmp 44) (.tmp 46) _ rfl (w.heap.size + 2) 40 i0 (wrV 0 0 0 0 0 false none 0 0) 7 72 Try.underlying24 HI0.out HX0.out.1 HX0.out.2.1 HX0.out.2.2 (by rfl) (by omega) (V j) (E j).length ((E j).flatMap wrValsG) fr hown ⟨g', 0, none⟩ 1 1 (wrValsG ⟨⟨(j : Int), xc, xs', xq, xv, xd, xx⟩, ad, 0, cq⟩) fn (by rfl) hg5 (by simpa using valsG_one [⟨⟨(j : Int), xc, xs', xq, xv, xd, xx⟩, ad, 0, cq⟩]) (by omega) (by unfold maxLen; omega) (by omega) (Nat.le_trans HBs.out hG.size) _ rfl ?_
            intro g3 cp3 w5 h1 h2 h3 h4
            refine ⟨appS_grown h2, g3, cp3, rfl, h1, ?_⟩
            rcases h3 with h3 | h3
            · exact .inl h3
            · exact .inr (by rw [h3]; exact hG.size)
          iterate 1 (apply slotU_eq; · (intro ρ w' ⟨p1, p2, p3⟩ hG hEE hn; obtain ⟨c0, c1, c2, c3, c4, c5, c6, cA⟩ := HCL.out w' hG; simp at hn; go_simp; exact ⟨HRF.out _ _ (by simp), rfl⟩))
          refine slotU_end ?_
          rintro tv w4 hG hF
          simp at hF
          obtain ⟨f48, ⟨g3, cp3, f47, hrow, hg3⟩, ⟨g', f46, -, -, -⟩, f45, f44, f43, f42, f41, f40, f39⟩ := hF
          have HP := Lib.hid (six_put (e := ⟨⟨(j : Int), xc, xs', xq, xv, xd, xx⟩, ad, 0, cq⟩) hj6 HR1.out HA1.out ⟨HDD.out, hxl⟩ hG hrow hg3)
          have HQ4 := Lib.hid (HQ1.out.put (A := w.heap.size + 1) hj6 HR1.out (by omega) (by omega) hG (.slice (some ⟨g3, 0, none⟩) ((E j).length + 1) cp3))
          have cA := (HCL.out w4 hG).2.2.2.2.2.2.2
          have fA : w4.frozen? ⟨w.heap.size + 1, j, none⟩ = false := (frozen_of_block (hG.block _ HA1.out.lt (fun e => HA1.out.off j hj6 e.symm))).trans (HA1.out.nf j)
          have HB4 : Hid (Below w.heap.size w (w4.setCell ⟨w.heap.size + 1, j, none⟩ (.slice (some ⟨g3, 0, none⟩) ((E j).length + 1) cp3))) := (HBW.out.grown hG HBW.out.size fun b hb => by have := ((HR1.out.own j hj6).lt b hb).1; omega).setCell (by simp) _
          have HE4 : Hid (∀ i, i < 6 → (updF E j (E j ++ [⟨⟨(j : Int), xc, xs', xq, xv, xd, xx⟩, ad, 0, cq⟩]) i).map (·.x) = (ofKey us i).map strip ++ ofKey (vs.take (k + 1)) i) := fun i hi => by
            rw [HT.out i]
            by_cases e : i = j
            · subst e
              rw [updF_at, if_pos rfl, List.map_append, HE.out i hi]
              rw [List.append_assoc]
              rfl
            · rw [updF_off _ _ e, if_neg e]
              exact HE.out i hi
          clear hrow hg3 hG HR1 HA1 HQ1 HCL HRF HE HBW
          simp only [List.take_succ_cons, List.take_zero, List.drop_succ_cons, List.drop_zero, putAll, f48, f47, f46, f45, f44, f43, f42, f41, f40, f39]
          clear f39 f40 f41 f42 f43 f44 f45 f46 f47 f48
          simp only [Act.put, List.setIfInBounds_toArray, List.set_cons_succ, List.set_cons_zero]
          generalize updF E j (E j ++ [⟨⟨(j : Int), xc, xs', xq, xv, xd, xx⟩, ad, 0, cq⟩]) = E4 at *
          go_wp2
          exact ⟨⟨k + 1, _, E4, by omega, by go_num, HE4, HP.out.1, HP.out.2, HQ4, HB4⟩, by simp [intOf]; omega⟩
        · have hkk : k = m := by omega
          subst hkk
          have HE5 : Hid (∀ j, j < 6 → (E j).map (·.x) = startL us vs j) := fun j hj => by
            rw [HE.out j hj, List.take_of_length_le (by rw [HM.out]; exact Nat.le_refl _)]
            rfl
          have HL5 : Hid (∀ j, j < 6 → (E j).length ≤ n + k) := fun j hj => by
            have h1 := congrArg List.length (HE.out j hj)
            simp only [List.length_map, List.length_append] at h1
            have h2 := ofKey_len us n j
            have h3 := ofKey_len vs k j
            rw [List.take_of_length_le (by rw [HN.out]; exact Nat.le_refl _)] at h2
            omega
          have HS5 : Hid (∀ j, j < 6 → RowS wr (V j) (E j)) := fun j hj => rowS_of_own (HR.out.own j hj)
          have HAP := Lib.hid HR.out.apart
          have HDP := Lib.hid HR.out.deps
          have HOB : Hid (∀ j, j < 6 → ∀ b, (V j).ownBlock = some b → w.heap.size + 2 ≤ b) := fun j hj b hb => ((HR.out.own j hj).lt b hb).1
          have c0 := HA.out.cells 0 (by omega)
          have c1 := HA.out.cells 1 (by omega)
          have c2 := HA.out.cells 2 (by omega)
          have c3 := HA.out.cells 3 (by omega)
          have c4 := HA.out.cells 4 (by omega)
          have c5 := HA.out.cells 5 (by omega)
          clear HE HR
          go_wp2
          clear c0 c1 c2 c3 c4 c5
          go_loopw [51] (fun i wr => ∃ (q : Nat) (F : Nat → List EnG), q ≤ 6 ∧ i = .int .i64 q ∧ Hid (∀ j, j < 6 → RowS wr (V j) (F j) ∧ (F j).Perm (E j) ∧ (j < q → (F j).Pairwise fun x y => 0 ≤ tcmp x.x.c x.x.s x.x.q y.x.c y.x.s y.x.q)) ∧ Hid (SixA wr (w.heap.size + 1) V) ∧ Hid (RBox wr w.heap.size) ∧ Hid (Below w.heap.size w wr)) (fun i _ => 6 - (intOf i).toNat)
          case atStart => exact ⟨0, E, Nat.zero_le _, rfl, fun j hj => ⟨HS5.out j hj, List.Perm.refl _, fun h => absurd h (Nat.not_lt_zero j)⟩, HA, HQ, HB⟩
          case round =>
            clear HA HQ HB HS5
            obtain ⟨q, F, hq, rfl, HS, HA, HQ, HB⟩ := hrel
            by_cases hq' : q < 6
            · have i1 : (0 : Int) ≤ (q : Int) := by omega
              have i2 : (q : Int) < 6 := by omega
              rcases (HS.out q hq').1 with ⟨hnil, p, c, hv⟩ | ⟨g, c, hv, hlc, hg, hh⟩
              · have hix := run_index6 V hq' _ hv
                have HS2 : Hid (∀ j, j < 6 → RowS wr (V j) (F j) ∧ (F j).Perm (E j) ∧ (j < q + 1 → (F j).Pairwise fun x y => 0 ≤ tcmp x.x.c x.x.s x.x.q y.x.c y.x.s y.x.q)) := fun j hj => ⟨(HS.out j hj).1, (HS.out j hj).2.1, fun h => by
                  by_cases e : j = q
                  · rw [e, hnil]
                    exact List.Pairwise.nil
                  · exact (HS.out j hj).2.2 (by omega)⟩
                clear hv HS
                go_wp2_with fail
                refine (sortN_any p c _).mono ?_
                rintro e w1 ⟨rfl, rfl⟩
                go_wp2
                exact ⟨⟨q + 1, F, by omega, by go_num, HS2, HA, HQ, HB⟩, by simp [intOf]; omega⟩
              · have hix := run_index6 V hq' _ hv
                have hbl : (V q).ownBlock = some g := by rw [hv]; rfl
                have hFl : (F q).length ≤ 2097152 := by
                  have h1 := (HS.out q hq').2.1.length_eq
                  have h2 := HL5.out q hq'
                  omega
                have HH := Lib.hid hh
                have hb2 := HOB.out q hq' g hbl
                have HC := Lib.hid (sortW_any g (F q).length c (F q) wr rfl hFl hg HH.out)
                clear hv hh
                go_wp2_with fail
                refine HC.out.mono ?_
                rintro e w1 ⟨rfl, es', hp, hso, hh1, hgr⟩
                have HS2 : Hid (∀ j, j < 6 → RowS w1 (V j) (updF F q es' j) ∧ (updF F q es' j).Perm (E j) ∧ (j < q + 1 → (updF F q es' j).Pairwise fun x y => 0 ≤ tcmp x.x.c x.x.s x.x.q y.x.c y.x.s y.x.q)) := fun j hj => by
                  by_cases e : j = q
                  · subst e
                    rw [updF_at]
                    refine ⟨?_, hp.trans (HS.out j hj).2.1, fun _ => hso⟩
                    rcases (HS.out j hj).1 with ⟨h1, p, c', h2⟩ | ⟨g', c', h2, h0, h3, h4⟩
                    · refine .inl ⟨?_, p, c', h2⟩
                      rw [h1] at hp
                      exact List.Perm.eq_nil hp
                    · have hgg : g' = g := by
                        rw [h2] at hbl
                        simpa [Value.ownBlock] using hbl
                      subst hgg
                      exact .inr ⟨g', c', by rw [h2, hp.length_eq], by rw [hp.length_eq]; exact h0, Nat.lt_of_lt_of_le hg hgr.size, hh1⟩
                  · rw [updF_off _ _ e]
                    exact ⟨(HS.out j hj).1.grown hgr fun b hb e2 => HAP.out j q hj hq' e b hb (by rw [hbl, e2]), (HS.out j hj).2.1, fun h => (HS.out j hj).2.2 (by omega)⟩
                have HA2 : Hid (SixA w1 (w.heap.size + 1) V) := ⟨Nat.lt_of_lt_of_le HA.out.lt hgr.size, HA.out.cells.of_block (hgr.block _ HA.out.lt (by simp; omega)), fun o => (frozen_of_block (hgr.block _ HA.out.lt (by simp; omega))).trans (HA.out.nf o), HA.out.off⟩
                have HQ2 : Hid (RBox w1 w.heap.size) := HQ.out.of_block hgr.size (hgr.block _ HQ.out.1 (by simp; omega))
                have HB2 : Hid (Below w.heap.size w w1) := HB.out.grown hgr HB.out.size fun b hb => by injection hb with hb; omega
                clear hp hso hh1 hgr HS HA HQ HB HC HH
                generalize updF F q es' = F2 at *
                go_wp2
                exact ⟨⟨q + 1, F2, by omega, by go_num, HS2, HA2, HQ2, HB2⟩, by simp [intOf]; omega⟩
            · have hqq : q = 6 := by omega
              subst hqq
              have HF := Lib.hid (fun j (hj : j < 6) => (HS.out j hj).1.form)
              have c0 := HA.out.cells 0 (by omega)
              have c1 := HA.out.cells 1 (by omega)
              have c2 := HA.out.cells 2 (by omega)
              have c3 := HA.out.cells 3 (by omega)
              have c4 := HA.out.cells 4 (by omega)
              have c5 := HA.out.cells 5 (by omega)
              rw [HF.out 0 (by omega)] at c0
              rw [HF.out 1 (by omega)] at c1
              rw [HF.out 2 (by omega)] at c2
              rw [HF.out 3 (by omega)] at c3
              rw [HF.out 4 (by omega)] at c4
              rw [HF.out 5 (by omega)] at c5
              have r0 := HQ.out.2.1 0 (by omega)
              have r1 := HQ.out.2.1 1 (by omega)
              have r2 := HQ.out.2.1 2 (by omega)
              have r3 := HQ.out.2.1 3 (by omega)
              have r4 := HQ.out.2.1 4 (by omega)
              have r5 := HQ.out.2.1 5 (by omega)
              have rf := HQ.out.2.2
              have HPM : Hid (∀ j, j < 6 → ((F j).map (·.x)).Perm (startL us vs j)) := fun j hj => by
                rw [← HE5.out j hj]
                exact (HS.out j hj).2.1.map _
              have HSO : Hid (∀ j, j < 6 → ((F j).map (·.x)).Pairwise fun x y => 0 ≤ tcmp x.c x.s x.q y.c y.s y.q) := fun j hj => List.pairwise_map.2 ((HS.out j hj).2.2 hj)
              have HFD : Hid (∀ j, j < 6 → ∀ e ∈ F j, IsDeps w e.a e.x.xs ∧ e.x.xs.length ≤ 1048576) := fun j hj e he => HDP.out j hj e ((HS.out j hj).2.1.mem_iff.1 he)
              have HRS : Hid (∀ j, j < 6 → RowS wr (V j) (F j)) := fun j hj => (HS.out j hj).1
              clear HS HF HE5 HL5 HDP HAP
              go_wp2
              refine bodyPost_ret (v := .agg (six fun k => .slice (sP (V k)) (F k).length (sC (V k)))) (by simp [results, Try.results43, go_sem, r0, r1, r2, r3, r4, r5]) rfl ⟨fun k => sP (V k), fun k => sC (V k), fun k => (F k).map (·.x), by simp, fun q hq => ?_, ?_⟩
              · have hG := grown_trans (grown_trans (grown_trans (grown_trans (grown_trans (grown_set wr w.heap.size 0 (.slice (sP (V 0)) (F 0).length (sC (V 0)))) (grown_set _ w.heap.size 1 (.slice (sP (V 1)) (F 1).length (sC (V 1))))) (grown_set _ w.heap.size 2 (.slice (sP (V 2)) (F 2).length (sC (V 2))))) (grown_set _ w.heap.size 3 (.slice (sP (V 3)) (F 3).length (sC (V 3))))) (grown_set _ w.heap.size 4 (.slice (sP (V 4)) (F 4).length (sC (V 4))))) (grown_set _ w.heap.size 5 (.slice (sP (V 5)) (F 5).length (sC (V 5))))
                have hb2 : Below w.heap.size w ((((((wr.setCell ⟨w.heap.size, 0, none⟩ (.slice (sP (V 0)) (F 0).length (sC (V 0)))).setCell ⟨w.heap.size, 1, none⟩ (.slice (sP (V 1)) (F 1).length (sC (V 1)))).setCell ⟨w.heap.size, 2, none⟩ (.slice (sP (V 2)) (F 2).length (sC (V 2)))).setCell ⟨w.heap.size, 3, none⟩ (.slice (sP (V 3)) (F 3).length (sC (V 3)))).setCell ⟨w.heap.size, 4, none⟩ (.slice (sP (V 4)) (F 4).length (sC (V 4)))).setCell ⟨w.heap.size, 5, none⟩ (.slice (sP (V 5)) (F 5).length (sC (V 5)))) := HB.out.grown hG HB.out.size fun b hb => by injection hb with hb; omega
                refine ⟨?_, by rw [List.length_map]; exact (HRS.out q hq).le, HPM.out q hq, HSO.out q hq⟩
                refine ((HRS.out q hq).grown hG fun b hb e => ?_).isWs fun e he => ⟨((HFD.out q hq e he).1).below hb2, (HFD.out q hq e he).2⟩
                have h1 := HOB.out q hq b hb
                injection e with e
                omega
              · exact (((((HB.out.setCell (by simp) _).setCell (by simp) _).setCell (by simp) _).setCell (by simp) _).setCell (by simp) _).setCell (by simp) _

end Go.Proofs.Ytionfpjjlghanak

/- Contracts of impl.Lacks, impl.Covered, impl.IsCut, spec.IsCut. -/
namespace Go.Proofs.Ytionfpjjlghanak
open Go.ChangeShapes Go.WideShapes Go.ChangeAt Go.RowKit Go.Joins
attribute [local go_sem ↓] Go.wp_at_zero Go.wp_at_succ

def cutB (ws : List Wr) : Bool := mapOkB ws && ws.all fun x => covB ws x.xs

theorem cut_false {ws : List Wr} {k : Nat} (h : k < ws.length) (hk : covB ws (ws.getD k wz).xs = false) : cutB ws = false := by
  unfold cutB
  rw [Bool.and_eq_false_iff]
  refine .inr ?_
  rw [List.all_eq_false]
  refine ⟨ws.getD k wz, ?_, by rw [hk]; simp⟩
  have e : ws.getD k wz = ws[k] := by simp [List.getD, h]
  rw [e]
  exact List.getElem_mem h

theorem cut_true {ws : List Wr} {n : Nat} (hn : ws.length = n) (hm : mapOkB ws = true) (h : ∀ j, j < n → covB ws (ws.getD j wz).xs = true) : cutB ws = true := by
  unfold cutB
  rw [hm, Bool.true_and, List.all_eq_true]
  intro x hx
  obtain ⟨i, hi, rfl⟩ := List.mem_iff_getElem.1 hx
  have := h i (by rw [← hn]; exact hi)
  simpa [List.getD, hi] using this

theorem upto_next {P : Nat → Prop} {k : Nat} (h : ∀ j, j < k → P j) (hk : P k) : ∀ j, j < k + 1 → P j := fun j hj => by
  by_cases e : j < k
  · exact h j e
  · have : j = k := by omega
    rw [this]
    exact hk

end Go.Proofs.Ytionfpjjlghanak
