import Derived.Test.YtolmlcbgdihcbaaPack7
import Derived.Deep.DeepCutAuto
import Derived.Laws.Append
import Derived.Test.YtolmlcbgdihcbaaPack1
import Derived.Test.YtolmlcbgdihcbaaPack5
/- A row of posts of one's own that grows. -/
namespace Go.Proofs.Ytolmlcbgdihcbaa
open Go.ChangeShapes Go.WideShapes Go.ChangeAt Go.RowKit Go.Joins

/-- A post, the block of its numbers, their room. -/
structure EnP where
  x : Pst
  g : Nat
  cp : Nat

def ezP : EnP := ⟨pz, 0, 0⟩

def psVals (e : EnP) : List Value := [.int .i64 e.x.f, .slice (some ⟨e.g, 0, none⟩) e.x.xs.length e.cp, .int .i64 e.x.y]

theorem psVals_len : ∀ es : List EnP, (es.flatMap psVals).length = es.length * 3
  | [] => rfl
  | e :: r => by
    rw [List.flatMap_cons, List.length_append, psVals_len r]
    simp [psVals]
    omega

theorem psVals_at : ∀ (es : List EnP) (i c : Nat), i < es.length → c < 3 → (es.flatMap psVals)[i * 3 + c]? = (psVals (es.getD i ezP))[c]?
  | [], i, c, hi, _ => by simp at hi
  | e :: r, 0, c, _, hc => by
    rw [List.flatMap_cons, List.getElem?_append_left (by simp [psVals]; omega)]
    simp
  | e :: r, i + 1, c, hi, hc => by
    rw [List.flatMap_cons, List.getElem?_append_right (by simp [psVals]; omega)]
    have := psVals_at r i c (by simpa using hi) hc
    rw [show (i + 1) * 3 + c - (psVals e).length = i * 3 + c by simp [psVals]; omega, this]
    simp

theorem psVals_one (es : List EnP) : ∀ u ∈ es.flatMap psVals, u.oneCell' = true := by
  intro u hu
  obtain ⟨e, _, h⟩ := List.mem_flatMap.1 hu
  simp only [psVals, List.mem_cons, List.not_mem_nil, or_false] at h
  rcases h with rfl | rfl | rfl <;> rfl

/-- A row of posts of one's own, from block number base on; it may be nil. -/
structure RowP (w : World) (base : Nat) (v : Value) (es : List EnP) : Prop where
  own : w.ownsRow base 42 3 v es.length (es.flatMap psVals)
  nums : ∀ e ∈ es, base ≤ e.g ∧ v.ownBlock ≠ some e.g ∧ NumsAt w e.g e.x.xs
  apart : es.Pairwise fun e e' => e.g ≠ e'.g

theorem rowP_nil (w : World) (base : Nat) : RowP w base (.slice none 0 0) [] where
  own := World.ownsRow_nil w base _ _
  nums := fun e he => by simp at he
  apart := List.Pairwise.nil

theorem rowP_start (w : World) (base : Nat) (hb : base ≤ w.heap.size) : RowP (w.alloc (.cells #[] 42)) base (.slice (some ⟨w.heap.size, 0, none⟩) 0 0) [] where
  own := World.ownsRow_made w #[] 0 hb (by simp [maxLen]) (by simp)
  nums := fun e he => by simp at he
  apart := List.Pairwise.nil

theorem NumsAt.below {w w' : World} {g : Nat} {xs : List Int} (h : NumsAt w g xs) (hb : Below w.heap.size w w') : NumsAt w' g xs :=
  h.of_block (hb.block _ h.1) (Nat.lt_of_lt_of_le h.1 hb.size)

theorem RowP.below {w w' : World} {base : Nat} {v : Value} {es : List EnP} (h : RowP w base v es) (hb : Below w.heap.size w w') : RowP w' base v es where
  own := h.own.kept (row := none) ⟨hb.os, hb.tape, hb.output, hb.size, fun k hk _ => hb.block k hk⟩ (by
    by_cases e : v.ownBlock = none
    · exact .inl e
    · exact .inr e)
  nums := fun e he => ⟨(h.nums e he).1, (h.nums e he).2.1, (h.nums e he).2.2.below hb⟩
  apart := h.apart

/-- A store into a block below the row's. -/
theorem RowP.set {w : World} {base : Nat} {v : Value} {es : List EnP} (h : RowP w base v es) {p : Addr} (hp : p.block < base) (u : Value) : RowP (w.setCell p u) base v es where
  own := ownsRow_setCell_below h.own hp u
  nums := fun e he => ⟨(h.nums e he).1, (h.nums e he).2.1, (h.nums e he).2.2.of_block (Below.heap_setCell _ _ _ _ (by have := (h.nums e he).1; omega)) (by simpa using (h.nums e he).2.2.1)⟩
  apart := h.apart

/-- One post more. -/
theorem RowP.more {w w5 : World} {base g5 cap5 : Nat} {v : Value} {es : List EnP} {e : EnP} (h : RowP w base v es) (he : base ≤ e.g ∧ v.ownBlock ≠ some e.g ∧ NumsAt w e.g e.x.xs) (hap : ∀ d ∈ es, d.g ≠ e.g)
    (hown : w5.ownsRow base 42 3 (.slice (some ⟨g5, 0, none⟩) (es.length + 1) cap5) (es.length + 1) (es.flatMap psVals ++ psVals e)) (hgrow : w.grownBy w5 v.ownBlock) (hg : v.ownBlock = some g5 ∨ g5 = w.heap.size) : RowP w5 base (.slice (some ⟨g5, 0, none⟩) (es.length + 1) cap5) (es ++ [e]) where
  own := by
    rw [List.length_append, List.flatMap_append]
    simpa using hown
  nums := by
    have : ∀ d : EnP, base ≤ d.g → v.ownBlock ≠ some d.g → NumsAt w d.g d.x.xs → base ≤ d.g ∧ (Value.slice (some ⟨g5, 0, none⟩) (es.length + 1) cap5).ownBlock ≠ some d.g ∧ NumsAt w5 d.g d.x.xs := fun d h0 h1 h2 => by
      refine ⟨h0, fun e => ?_, h2.of_block (hgrow.block d.g h2.1 (fun e => h1 e.symm)) (Nat.lt_of_lt_of_le h2.1 hgrow.size)⟩
      have e5 : g5 = d.g := by
        simp only [Value.ownBlock, Option.some.injEq] at e
        exact e
      rcases hg with hg | hg
      · exact h1 (by rw [hg, e5])
      · have := h2.1
        omega
    intro d hd
    rcases List.mem_append.1 hd with hd | hd
    · obtain ⟨h0, h1, h2⟩ := h.nums d hd
      exact this d h0 h1 h2
    · have hd : d = e := by simpa using hd
      subst hd
      exact this d he.1 he.2.1 he.2.2
  apart := by
    rw [List.pairwise_append]
    exact ⟨h.apart, by simp, fun d hd e' he' => by
      have : e' = e := by simpa using he'
      subst this
      exact hap d hd⟩

def gammaP (es : List EnP) (i : Nat) : Nat := (es.getD i ezP).g

theorem pairP_getD {r : EnP → EnP → Prop} : ∀ {es : List EnP}, es.Pairwise r → ∀ i j, i < j → j < es.length → r (es.getD i ezP) (es.getD j ezP)
  | [], _, _, _, _, h => by simp at h
  | e :: es, hp, 0, j + 1, _, h => by
    have hj : j < es.length := by simpa using h
    have := (List.pairwise_cons.1 hp).1 (es.getD j ezP) (by simp [List.getD, hj])
    simpa using this
  | e :: es, hp, i + 1, j + 1, hij, h => by
    have := pairP_getD (List.pairwise_cons.1 hp).2 i j (by omega) (by simpa using h)
    simpa using this

/-- The row as a slice that is the call's own. -/
theorem RowP.form {w : World} {base : Nat} {v : Value} {es : List EnP} (h : RowP w base v es) :
    ∃ a cap, v = .slice a es.length cap ∧ (es = [] ∨ ∃ b, a = some ⟨b, 0, none⟩ ∧ OwnP w base b (es.map (·.x)) (gammaP es)) := by
  rcases h.own.2 with ⟨h1, h2⟩ | ⟨g, cap, cur, h1, h2, h3, _⟩
  · exact ⟨none, 0, by rw [h1, h2], .inl (List.length_eq_zero_iff.1 h2)⟩
  · refine ⟨_, cap, h1, .inr ⟨g, rfl, ?_⟩⟩
    subst h1
    have hlt : g < w.heap.size := (h.own.lt g rfl).2
    have hm : ∀ i, i < es.length → es.getD i ezP ∈ es := fun i hi => by simp [List.getD, hi]
    have hx : ∀ i, i < es.length → (es.map (·.x)).getD i pz = (es.getD i ezP).x := fun i hi => by simp [List.getD, hi]
    have hl : (es.map (·.x)).length = es.length := by simp
    refine ⟨hlt, h2, fun o => h.own.frozenAt o, fun i hi => ?_, fun i hi hp => ?_, fun i j hi hj hp hq e => ?_⟩
    · rw [hl] at hi
      rw [hx i hi]
      have c : ∀ c, c < 3 → w.cell? ⟨g, i * 3 + c, none⟩ = (psVals (es.getD i ezP))[c]? := fun c hc => by rw [h.own.cellAt _ (by omega), psVals_at es i c hi hc]
      exact ⟨some ⟨(es.getD i ezP).g, 0, none⟩, (es.getD i ezP).cp, ⟨c 0 (by omega), c 1 (by omega), c 2 (by omega)⟩, fun hp => rfl⟩
    · rw [hl] at hi
      rw [hx i hi]
      obtain ⟨h5, h6, h7⟩ := h.nums _ (hm i hi)
      exact ⟨h5, fun e => h6 (by rw [← e]; rfl), h7⟩
    · rw [hl] at hi hj
      by_cases h1 : i < j
      · exact absurd e (pairP_getD h.apart i j h1 hj)
      · by_cases h2 : j < i
        · exact absurd e.symm (pairP_getD h.apart j i h2 hi)
        · omega

theorem oneP_cells (w : World) (t : Nat) (e : EnP) : ∀ j u, (psVals e)[j]? = some u → (w.alloc (.cells #[.int .i64 e.x.f, .slice (some ⟨e.g, 0, none⟩) e.x.xs.length e.cp, .int .i64 e.x.y] t)).cell? ((⟨w.heap.size, 0, none⟩ : Addr).add j) = some u := by
  intro j u hu
  have e1 : (⟨w.heap.size, 0, none⟩ : Addr).add j = ⟨w.heap.size, j, none⟩ := by
    unfold Addr.add
    split
    · rename_i h
      rw [h]
    · simp
  rw [e1, cell_of_row _ _ j _ t (0, 0) (heap_alloc_new w _), ← hu]
  simp [psVals]

end Go.Proofs.Ytolmlcbgdihcbaa

/- The keys of a map: a turn (a site and a tick). -/
namespace Go.Proofs.Ytolmlcbgdihcbaa
open Go.ChangeShapes Go.WideShapes Go.ChangeAt Go.RowKit Go.Joins Go.Maps

structure TK where
  s : Int
  k : Int

abbrev tvV (x : TK) : Value := .agg #[.int .i64 x.s, .int .i64 x.k]

def tvL (x : TK) : Lit := .string (keyBytes [.int .i64 x.s, .int .i64 x.k])

set_option maxRecDepth 100000 in
theorem tv_row : (75 : TypeId) < Try.prog.types.size := of_decide_eq_true (by kernel_rfl)

set_option maxRecDepth 100000 in
theorem tv_cells : Try.prog.cellsOf 75 = 2 := by kernel_rfl

set_option maxRecDepth 100000 in
theorem int_cellsT : Try.prog.cellsOf 3 = 1 := by kernel_rfl

set_option maxRecDepth 100000 in
theorem tv_wide : (match Try.prog.underlying 75 with | some (.array _ _) | some (.struct _) => true | _ => false) = true := by rw [Try.underlying75]

set_option maxRecDepth 100000 in
theorem tv_klaw : WideMaps.KeyLaw Try.prog 75 := (deep_law_laid laidOut (m := 2) (by omega) tv_row (by kernel_rfl) tv_wide)

theorem tv_law : Keyed Try.prog 75 := Keyed.of_law tv_klaw

set_option maxRecDepth 100000 in
theorem tv_type : Try.prog.keyType 75 = true := by kernel_rfl

set_option maxRecDepth 100000 in
theorem tv_key (x : TK) (h : R64 x.s ∧ R64 x.k) : keyOf Try.prog 75 (tvV x) = some (tvL x) := by
  have hf : (tvV x).formed Try.prog 75 = true := by simp [Value.formed, Try.underlying75, tv_cells]
  obtain ⟨m, hm⟩ : ∃ m, Try.prog.types.size = m + 1 := ⟨Try.prog.types.size - 1, (Nat.sub_add_cancel (Nat.lt_of_le_of_lt (Nat.zero_le _) tv_row)).symm⟩
  unfold keyOf
  rw [Try.underlying75]
  simp only [tv_type, hf, Bool.and_self, if_true]
  rw [hm]
  simp [Program.keyLits, Try.underlying75, Try.underlying3, tv_cells, int_cellsT, Value.cells, r64_wf h.1, r64_wf h.2, tvL, List.range]

def keyT : KeyG TK 75 where
  v := fun x => tvV x
  l := tvL
  ok := fun x => R64 x.s ∧ R64 x.k
  law := tv_law
  key := tv_key
  inj := fun x y h => by
    cases x
    cases y
    simp at h
    simp [h]

theorem tv_ne {d d' : TK} : d = d' ∨ d ≠ d' := by
  obtain ⟨a, b⟩ := d
  obtain ⟨a', b'⟩ := d'
  by_cases h : a = a' ∧ b = b'
  · left
    rw [h.1, h.2]
  · right
    intro e
    injection e with e1 e2
    exact h ⟨e1, e2⟩

def updT {α : Type} (f : TK → α) (d : TK) (u : α) : TK → α := fun d' => if d'.s = d.s ∧ d'.k = d.k then u else f d'

theorem updT_at {α : Type} (f : TK → α) (d : TK) (u : α) : updT f d u d = u := if_pos ⟨rfl, rfl⟩

theorem updT_off {α : Type} (f : TK → α) (d : TK) (u : α) {d' : TK} (h : d' ≠ d) : updT f d u d' = f d' := if_neg fun e => h (by
  cases d
  cases d'
  simp only at e
  rw [e.1, e.2])

def rowT (V : TK → Option Value) (d : TK) : Value := (V d).getD (.slice none 0 0)

/-- Block b is a map from turns to rows of numbers, each row in a block of its own. -/
structure NumsM (w : World) (b n base : Nat) (V : TK → Option Value) (E : TK → List Int) : Prop where
  map : MapIs keyT w b n V
  nil : ∀ d, V d = none → E d = []
  row : ∀ d v, V d = some v → RowI w base v (E d)
  pos : ∀ d v, V d = some v → ∃ g, v.ownBlock = some g
  off : ∀ d v, V d = some v → v.ownBlock ≠ some b
  apart : ∀ d d' v v', V d = some v → V d' = some v' → d ≠ d' → v.ownBlock ≠ v'.ownBlock

theorem RowI.keepI {w w' : World} {base : Nat} {v : Value} {zs : List Int} (h : RowI w base v zs) (hb : ∀ g, v.ownBlock = some g → w'.heap[g]? = w.heap[g]?) : RowI w' base v zs := by
  refine ⟨h.1, ?_⟩
  rcases h.2 with h1 | ⟨g, cap, cur, h1, h2, h3, h4⟩
  · exact .inl h1
  · exact .inr ⟨g, cap, cur, h1, h2, (hb g (by rw [h1]; rfl)).trans h3, h4⟩

theorem NumsM.below {w w' : World} {b n base : Nat} {V : TK → Option Value} {E : TK → List Int} (h : NumsM w b n base V E) (hb : Below w.heap.size w w') : NumsM w' b n base V E :=
  ⟨h.map.below hb, h.nil, fun d v hv => (h.row d v hv).keepI fun g hg => hb.block g (World.ownsRow.lt (h.row d v hv) g hg).2, h.pos, h.off, h.apart⟩

theorem numsM_made (w : World) (base : Nat) : NumsM (w.alloc (.map #[] 0)) w.heap.size 0 base (fun _ => none) (fun _ => []) where
  map := mapIs_made keyT w
  nil := fun _ _ => rfl
  row := fun _ _ h => by cases h
  pos := fun _ _ h => by cases h
  off := fun _ _ h => by cases h
  apart := fun _ _ _ _ h => by cases h

theorem NumsM.theRow {w : World} {b n base : Nat} {V : TK → Option Value} {E : TK → List Int} (h : NumsM w b n base V E) (d : TK) : RowI w base (rowT V d) (E d) := by
  unfold rowT
  cases hv : V d with
  | none =>
    rw [h.nil d hv]
    exact World.ownsRow_nil w base _ _
  | some v => exact h.row d v hv

theorem rowT_own {V : TK → Option Value} {d : TK} {g : Nat} (hg : (rowT V d).ownBlock = some g) : ∃ v, V d = some v ∧ v.ownBlock = some g := by
  unfold rowT at hg
  cases hv : V d with
  | none => rw [hv] at hg; simp [Value.ownBlock] at hg
  | some v => rw [hv] at hg; exact ⟨v, rfl, hg⟩

theorem NumsM.rowOff {w : World} {b n base : Nat} {V : TK → Option Value} {E : TK → List Int} (h : NumsM w b n base V E) (d : TK) : (rowT V d).ownBlock ≠ some b := fun e => by
  obtain ⟨v, h1, h2⟩ := rowT_own e
  exact h.off d v h1 h2

/-- One row turned: the entry found (w1), the row grown (w4), the entry stored (w5). -/
theorem NumsM.put {w w1 w4 w5 : World} {b n base g' cap' : Nat} {V : TK → Option Value} {E : TK → List Int} (h : NumsM w b n base V E) {d0 : TK} {zs : List Int} (h1 : w.grownBy w1 (some b))
    (hrow : RowI w4 base (.slice (some ⟨g', 0, none⟩) zs.length cap') zs) (hg : w1.grownBy w4 (rowT V d0).ownBlock) (hnew : (rowT V d0).ownBlock = some g' ∨ g' = w1.heap.size) (hmap : ∀ g : TK → Option Value, g d0 = some (.slice (some ⟨g', 0, none⟩) zs.length cap') → (∀ j, j ≠ d0 → g j = V j) → MapIs keyT w5 b (n + 1) g) (ht : w4.grownBy w5 (some b)) :
    NumsM w5 b (n + 1) base (updT V d0 (some (.slice (some ⟨g', 0, none⟩) zs.length cap'))) (updT E d0 zs) := by
  have hbl : b < w.heap.size := h.map.lt
  have hs1 := h1.size
  have hgb : g' ≠ b := fun e => by
    rcases hnew with h2 | h2
    · exact h.rowOff d0 (by rw [h2, e])
    · omega
  have hkeep : ∀ d v, V d = some v → d ≠ d0 → ∀ g, v.ownBlock = some g → w5.heap[g]? = w.heap[g]? := fun d v hv hne g hgv => by
    have hlt : g < w.heap.size := (World.ownsRow.lt (h.row d v hv) g hgv).2
    have q1 : some g ≠ (rowT V d0).ownBlock := fun e => by
      obtain ⟨u, u1, u2⟩ := rowT_own e.symm
      exact h.apart d d0 v u hv u1 hne (by rw [hgv, u2])
    have q2 : some g ≠ some b := fun e => h.off d v hv (by rw [hgv]; exact e)
    exact (ht.block g (Nat.lt_of_lt_of_le (Nat.lt_of_lt_of_le hlt hs1) hg.size) q2).trans ((hg.block g (Nat.lt_of_lt_of_le hlt hs1) q1).trans (h1.block g hlt q2))
  have hrow5 : RowI w5 base (.slice (some ⟨g', 0, none⟩) zs.length cap') zs := hrow.keepI fun g hgv => by
    have e5 : g' = g := by simpa [Value.ownBlock] using hgv
    exact ht.block g (World.ownsRow.lt hrow g hgv).2 fun e => hgb (by rw [e5]; injection e)
  have hap : ∀ d v, V d = some v → d ≠ d0 → v.ownBlock ≠ some g' := fun d v hv hne e => by
    rcases hnew with h2 | h2
    · obtain ⟨u, u1, u2⟩ := rowT_own h2
      exact h.apart d d0 v u hv u1 hne (by rw [e, u2])
    · have := (World.ownsRow.lt (h.row d v hv) g' e).2
      omega
  refine ⟨hmap _ (updT_at _ _ _) fun j hj => updT_off _ _ _ hj, ?_, ?_, ?_, ?_, ?_⟩
  · intro d hv
    rcases tv_ne (d := d) (d' := d0) with rfl | hne
    · rw [updT_at] at hv
      cases hv
    · rw [updT_off _ _ _ hne] at hv ⊢
      exact h.nil d hv
  · intro d v hv
    rcases tv_ne (d := d) (d' := d0) with rfl | hne
    · rw [updT_at] at hv ⊢
      injection hv with hv
      rw [← hv]
      exact hrow5
    · rw [updT_off _ _ _ hne] at hv ⊢
      exact (h.row d v hv).keepI (hkeep d v hv hne)
  · intro d v hv
    rcases tv_ne (d := d) (d' := d0) with rfl | hne
    · rw [updT_at] at hv
      injection hv with hv
      rw [← hv]
      exact ⟨g', rfl⟩
    · rw [updT_off _ _ _ hne] at hv
      exact h.pos d v hv
  · intro d v hv
    rcases tv_ne (d := d) (d' := d0) with rfl | hne
    · rw [updT_at] at hv
      injection hv with hv
      rw [← hv]
      simpa [Value.ownBlock] using hgb
    · rw [updT_off _ _ _ hne] at hv
      exact h.off d v hv
  · intro d d' v u hv hu hne
    rcases tv_ne (d := d) (d' := d0) with rfl | q1
    · rw [updT_at] at hv
      injection hv with hv
      rw [updT_off _ _ _ hne.symm] at hu
      rw [← hv]
      exact fun e => hap d' u hu hne.symm e.symm
    · rw [updT_off _ _ _ q1] at hv
      rcases tv_ne (d := d') (d' := d0) with rfl | q2
      · rw [updT_at] at hu
        injection hu with hu
        rw [← hu]
        exact hap d v hv q1
      · rw [updT_off _ _ _ q2] at hu
        exact h.apart d d' v u hv hu hne

end Go.Proofs.Ytolmlcbgdihcbaa

/- InOrder, the program's side: placesByTurn. -/
namespace Go.Proofs.Ytolmlcbgdihcbaa
open Go.ChangeShapes Go.WideShapes Go.ChangeAt Go.RowKit Go.Joins
attribute [local go_sem ↓] Go.wp_at_zero Go.wp_at_succ

/-- The turn of a post that may ever come. -/
def turnB (p : Pst) : Option TK := if vecB p.xs && btw p.f 0 3 then some ⟨p.f, p.xs.getD p.f.toNat 0⟩ else none

def isT (t : TK) (p : Pst) : Bool := match turnB p with
  | some u => decide (u.s = t.s) && decide (u.k = t.k)
  | none => false

/-- The places below m of the posts of a turn. -/
def placesE (ps : List Pst) (m : Nat) (t : TK) : List Int := (((List.range m).filter fun (i : Nat) => isT t (ps.getD i pz)).map fun (i : Nat) => (i : Int))

theorem placesE_next (ps : List Pst) (m : Nat) (t : TK) : placesE ps (m + 1) t = if isT t (ps.getD m pz) then placesE ps m t ++ [(m : Int)] else placesE ps m t := by
  unfold placesE
  rw [List.range_succ, List.filter_append, List.map_append]
  cases h : isT t (ps.getD m pz)
  · rw [show [m].filter (fun (i : Nat) => isT t (ps.getD i pz)) = [] by simp only [List.filter, h]]
    simp
  · rw [show [m].filter (fun (i : Nat) => isT t (ps.getD i pz)) = [m] by simp only [List.filter, h]]
    simp

theorem placesE_none {ps : List Pst} {m : Nat} (h : turnB (ps.getD m pz) = none) : placesE ps (m + 1) = placesE ps m := by
  funext t
  have : isT t (ps.getD m pz) = false := by unfold isT; rw [h]
  rw [placesE_next, this]
  rfl

theorem placesE_some {ps : List Pst} {m : Nat} {u : TK} (h : turnB (ps.getD m pz) = some u) : placesE ps (m + 1) = updT (placesE ps m) u (placesE ps m u ++ [(m : Int)]) := by
  funext t
  rw [placesE_next]
  rcases tv_ne (d := t) (d' := u) with rfl | hne
  · have : isT t (ps.getD m pz) = true := by unfold isT; rw [h]; simp
    rw [updT_at, this]
    rfl
  · rw [updT_off _ _ _ hne]
    have : isT t (ps.getD m pz) = false := by
      unfold isT
      rw [h]
      obtain ⟨u1, u2⟩ := u
      obtain ⟨t1, t2⟩ := t
      simp only [Bool.and_eq_false_iff, decide_eq_false_iff_not]
      by_cases e : u1 = t1
      · exact .inr fun e' => hne (by rw [e, e'])
      · exact .inl e
    rw [this]
    rfl

theorem placesE_len (ps : List Pst) (m : Nat) (t : TK) : (placesE ps m t).length ≤ m := by
  unfold placesE
  rw [List.length_map]
  have := List.length_filter_le (fun i => isT t (ps.getD i pz)) (List.range m)
  simpa using this

theorem zero_ints (u : World) : (zeroValue 22).run Try.prog u = .ok (.slice none 0 0) u := by kernel_rfl

theorem turnMap : Try.prog.underlying 69 = some (.map 75 22) := Try.underlying69

theorem NumsM.mono {w : World} {b n n' base : Nat} {V : TK → Option Value} {E : TK → List Int} (h : NumsM w b n base V E) (hn : n ≤ n') : NumsM w b n' base V E := ⟨h.map.mono hn, h.nil, h.row, h.pos, h.off, h.apart⟩

set_option maxRecDepth 100000 in
set_option maxHeartbeats 4000000 in
theorem placesOfTurn_any (a : Option Addr) (len cap : Nat) (ps : List Pst) (w : World) (hl : ps.length = len) (hn : len ≤ 1048576) (hx : ∀ i, i < len → (ps.getD i pz).xs.length ≤ 1048576) (hi : IsPs w a ps) :
    Calls Try.prog 47 #[.slice a len cap] w fun e w' => ∃ b n V, e = .returned (.map (some b)) ∧ NumsM w' b n w.heap.size V (placesE ps len) ∧ w.heap.size ≤ b ∧ Below w.heap.size w w' := by
  have HI : Hid (IsPs w a ps) := hi
  have HL : Hid (ps.length = len) := hl
  have HX : Hid (∀ i, i < len → (ps.getD i pz).xs.length ≤ 1048576) := hx
  have HW0 : Hid (NumsM (w.alloc (.map #[] 0)) w.heap.size 0 w.heap.size (fun _ => none) (placesE ps 0) ∧ Below w.heap.size w (w.alloc (.map #[] 0))) := ⟨numsM_made w _, (Below.refl _ _).alloc (Nat.le_refl _) _⟩
  clear hi hl hx
  have hmm := @run_makeMap Try.prog
  go_enter Try.func47, Try.ntmps47
  go_wp2
  clear hmm
  generalize w.alloc (.map #[] 0) = W0 at *
  go_loopw [12] (fun i wr => ∃ (m : Nat) (V : TK → Option Value), m ≤ len ∧ i = .int .i64 m ∧ Hid (NumsM wr w.heap.size m w.heap.size V (placesE ps m)) ∧ Hid (Below w.heap.size w wr)) (fun i _ => len - (intOf i).toNat)
  case atStart => exact ⟨0, _, Nat.zero_le _, rfl, HW0.out.1, HW0.out.2⟩
  case round =>
    clear HW0
    obtain ⟨m, V, hm, rfl, HM, HB⟩ := hrel
    by_cases hm' : m < len
    · obtain ⟨b, o, ad, cq, rfl, hz, ⟨e0, e1, e2⟩, hmx, hd⟩ := ps_at HI.out HB.out HL.out hm'
      have HD : Hid (IsIs wr ad (ps.getD m pz).xs) := hd
      have i1 : (0 : Int) ≤ (m : Int) := by omega
      have i2 : (m : Int) < (len : Int) := by omega
      have hxl := HX.out m hm'
      have HNO : Hid (turnB (ps.getD m pz) = none → placesE ps (m + 1) = placesE ps m) := placesE_none
      have HYE : Hid (∀ u, turnB (ps.getD m pz) = some u → placesE ps (m + 1) = updT (placesE ps m) u (placesE ps m u ++ [(m : Int)])) := fun u => placesE_some
      clear hd
      generalize ps.getD m pz = x at *
      obtain ⟨xf, xx, xy⟩ := x
      simp only at e0 e1 e2 hxl HD hmx
      have HTU : Hid (turnB ⟨xf, xx, xy⟩ = if vecB xx && btw xf 0 3 then some ⟨xf, xx.getD xf.toNat 0⟩ else none) := Lib.hid rfl
      have HBA : Hid (Below wr.heap.size wr (wr.alloc (.cells #[.int .i64 xf, .slice ad xx.length cq, .int .i64 xy] 42))) := (Below.refl _ _).alloc (Nat.le_refl _) _
      go_wp2_with fail
      refine (ticksOf_any ad xx.length cq xx _ rfl hmx (HD.out.below HBA.out)).mono ?_
      rintro e w2 ⟨⟨x0, x1, x2, x3, rfl, hxx⟩, hb⟩
      have HB2 := Lib.hid (below_step HBA.out HBA.out.size hb)
      have hz2 : wr.heap.size < w2.heap.size := by have := hb.size; simp at this; omega
      have HTC : Hid (w2.heap[wr.heap.size]? = some (.cells #[.int .i64 xf, .slice ad xx.length cq, .int .i64 xy] 42 (0, 0))) := (hb.block _ (by simp)).trans (heap_alloc_new wr _)
      have t0 := cell_of_row w2 wr.heap.size 0 _ _ _ HTC.out
      simp at t0
      have HB12 : Hid (Below wr.heap.size wr w2) := below_step HBA.out HBA.out.size hb
      have HB22 : Hid (Below w.heap.size w w2) := below_step HB.out HB.out.size HB12.out
      clear hb e0 e1 e2
      cases hv : vecB xx
      · have HNO2 := Lib.hid (HNO.out (by rw [HTU.out, hv]; rfl))
        have hb5 : Below wr.heap.size wr w2 := HB12.out
        have HM5 : Hid (NumsM (w2.alloc (.cells #[.int .i64 x0, .int .i64 x1, .int .i64 x2, .int .i64 x3] 59)) w.heap.size (m + 1) w.heap.size V (placesE ps (m + 1))) := by
          rw [HNO2.out]
          exact ((HM.out.below hb5).below ((Below.refl _ _).alloc (Nat.le_refl _) _)).mono (Nat.le_succ _)
        have HB5 : Hid (Below w.heap.size w (w2.alloc (.cells #[.int .i64 x0, .int .i64 x1, .int .i64 x2, .int .i64 x3] 59))) := HB22.out.alloc HB22.out.size _
        clear hb5
        go_wp2
        exact ⟨⟨m + 1, V, by omega, by go_num, HM5, HB5⟩, by simp [intOf]; omega⟩
      · have hxx4 := hxx hv
        have hxl4 : xx.length = 4 := by rw [hxx4]; rfl
        have HBB : Hid (Below wr.heap.size wr (w2.alloc (.cells #[.int .i64 x0, .int .i64 x1, .int .i64 x2, .int .i64 x3] 59))) := HB12.out.alloc HB12.out.size _
        have HTD : Hid ((w2.alloc (.cells #[.int .i64 x0, .int .i64 x1, .int .i64 x2, .int .i64 x3] 59)).heap[wr.heap.size]? = some (.cells #[.int .i64 xf, .slice ad xx.length cq, .int .i64 xy] 42 (0, 0))) := (Below.heap_alloc _ _ _ hz2).trans HTC.out
        have HTX : Hid ((w2.alloc (.cells #[.int .i64 x0, .int .i64 x1, .int .i64 x2, .int .i64 x3] 59)).heap[w2.heap.size]? = some (.cells #[.int .i64 x0, .int .i64 x1, .int .i64 x2, .int .i64 x3] 59 (0, 0))) := heap_alloc_new w2 _
        have HXX := Lib.hid hxx4
        clear hxx hxx4
        go_upto_region 6 with fail
        clear t0
        generalize hTX : w2.heap.size = TX at *
        generalize w2.alloc (.cells #[.int .i64 x0, .int .i64 x1, .int .i64 x2, .int .i64 x3] 59) = w3 at *
        clear hTX HTC HB2 hxl4 HB12 HB22
        have t0 := cell_of_row w3 wr.heap.size 0 _ _ _ HTD.out
        simp at t0
        go_wp2_with fail
        refine (isSite_any xf w3).mono ?_
        rintro e w4 ⟨rfl, hw⟩
        subst w4
        cases hs : btw xf 0 3
        · have HNO2 := Lib.hid (HNO.out (by rw [HTU.out, hv, hs]; rfl))
          have HM5 : Hid (NumsM w3 w.heap.size (m + 1) w.heap.size V (placesE ps (m + 1))) := by
            rw [HNO2.out]
            exact (HM.out.below HBB.out).mono (Nat.le_succ _)
          have HB5 : Hid (Below w.heap.size w w3) := below_step HB.out HB.out.size HBB.out
          go_wp2
          exact ⟨⟨m + 1, V, by omega, by go_num, HM5, HB5⟩, by simp [intOf]; omega⟩
        · obtain ⟨q, hq, rfl⟩ : ∃ q : Nat, q < 4 ∧ xf = (q : Int) := ⟨xf.toNat, by have := btw_site hs; omega, by have := btw_site hs; omega⟩
          have tq : w3.cell? ⟨TX, q, none⟩ = some (.int .i64 (xx.getD q 0)) := by
            rw [cell_of_row w3 TX q _ _ _ HTX.out, HXX.out]
            have hq4 : q = 0 ∨ q = 1 ∨ q = 2 ∨ q = 3 := by omega
            rcases hq4 with rfl | rfl | rfl | rfl <;> simp
          have HU : Hid (turnB ⟨(q : Int), xx, xy⟩ = some ⟨(q : Int), xx.getD q 0⟩) := by
            have h := HTU.out
            rw [hv, hs] at h
            exact Lib.hid (by simpa using h)
          have HTK : Hid (R64 (xx.getD q 0)) := by
            have := vecB_rng hv (k := q) hq
            unfold R64
            exact Lib.hid (by omega)
          have HQR : Hid (R64 (q : Int)) := by
            unfold R64
            exact Lib.hid (by omega)
          generalize xx.getD q 0 = tk at *
          have j1 : (0 : Int) ≤ (q : Int) := by omega
          have j2 : (q : Int) < 4 := by omega
          have zT : wr.heap.size < w3.heap.size := (Array.getElem?_eq_some_iff.1 HTD.out).1
          have zX : TX < w3.heap.size := (Array.getElem?_eq_some_iff.1 HTX.out).1
          go_wp2_with fail
          go_region
          have HMD := Lib.hid ((HM.out.below HBB.out).below (((Below.refl _ _).alloc (Nat.le_refl _) (.cells #[.int .i64 (q : Int), .int .i64 tk] 75)).drew))
          have HBD := Lib.hid (((below_step HB.out HB.out.size HBB.out).alloc (Nat.le_trans HB.out.size HBB.out.size) (.cells #[.int .i64 (q : Int), .int .i64 tk] 75)).drew)
          have HKC : Hid ((w3.alloc (.cells #[.int .i64 (q : Int), .int .i64 tk] 75)).drew.heap[w3.heap.size]? = some (.cells #[.int .i64 (q : Int), .int .i64 tk] 75 (0, 0))) := heap_alloc_new w3 _
          generalize (w3.alloc (.cells #[.int .i64 (q : Int), .int .i64 tk] 75)).drew = w4 at *
          generalize hT8 : w3.heap.size = T8 at *
          clear hT8 t0 tq zT zX HTD HTX HBB
          have k0 := cell_of_row w4 T8 0 _ _ _ HKC.out
          have k1 := cell_of_row w4 T8 1 _ _ _ HKC.out
          simp at k0 k1
          have zT8 : T8 < w4.heap.size := (Array.getElem?_eq_some_iff.1 HKC.out).1
          have hB5 : Below w4.heap.size w4 (w4.alloc (.cells #[.int .i64 (m : Int)] 3)) := (Below.refl _ _).alloc (Nat.le_refl _) _
          have HM5 := Lib.hid (HMD.out.below hB5)
          obtain ⟨st, w6, hme, hg6, hst⟩ := HM5.out.map.entry tv_klaw (by unfold maxLen; omega) turnMap zero_ints (k := ⟨(q : Int), tk⟩) ⟨HQR.out, HTK.out⟩
          rw [show keyT.v ⟨(q : Int), tk⟩ = .agg #[.int .i64 (q : Int), .int .i64 tk] from rfl, show (V ⟨(q : Int), tk⟩).getD (.slice none 0 0) = rowT V ⟨(q : Int), tk⟩ from rfl] at hme
          have HR6 : Hid (RowI w6 w.heap.size (rowT V ⟨(q : Int), tk⟩) (placesE ps m ⟨(q : Int), tk⟩)) := by
            refine (HM5.out.theRow _).keepI fun g hg => hg6.block g (World.ownsRow.lt (HM5.out.theRow _) g hg).2 fun e => HM5.out.rowOff _ (by rw [hg]; exact e)
          have HC6 : Hid (∀ j u, ([intV (m : Int)] : List Value)[j]? = some u → w6.cell? ((⟨w4.heap.size, 0, none⟩ : Addr).add j) = some u) := fun j u hu => by
            have hne : w4.heap.size ≠ w.heap.size := by
              have := HMD.out.map.lt
              omega
            refine (World.cell?_of_block (a := (⟨w4.heap.size, 0, none⟩ : Addr).add j) ?_).trans (oneI_cells w4 3 (m : Int) j u hu)
            rw [add_block]
            exact hg6.block _ (by simp) fun e => hne (by injection e)
          have HPL := Lib.hid (placesE_len ps m ⟨(q : Int), tk⟩)
          have hplm : (placesE ps m ⟨(q : Int), tk⟩).length ≤ m := HPL.out
          have HG6 := Lib.hid hg6
          have HST := Lib.hid hst
          have HBL : Hid (w.heap.size ≤ w6.heap.size) := by
            have := HBD.out.size
            have := hB5.size
            have := hg6.size
            exact Lib.hid (by omega)
          have HZ5 : Hid ((w4.alloc (.cells #[.int .i64 (m : Int)] 3)).heap.size ≤ w6.heap.size) := hg6.size
          clear hg6 hst hB5
          obtain ⟨ii, hii, hxi⟩ := Option.map_eq_some_iff.1 infoInt
          simp only [Prod.mk.injEq] at hxi
          have HII := Lib.hid hii
          have HXI := Lib.hid hxi
          clear hii hxi
          generalize hrv : rowT V ⟨(q : Int), tk⟩ = rv at *
          have HRV := Lib.hid hrv
          clear hrv
          have hbl := HBL.out
          go_wp2_with (at_builtin; refine wpList_append_lies _ (by rfl) _ _ _ (by rfl) w.heap.size 3 ii (.int .i64 0) 1 8 Try.underlying22 HII.out HXI.out.1 HXI.out.2.1 HXI.out.2.2 (by rfl) (by omega) rv (placesE ps m ⟨(q : Int), tk⟩).length ((placesE ps m ⟨(q : Int), tk⟩).map intV) (by rfl) HR6.out ⟨w4.heap.size, 0, none⟩ 1 1 [intV (m : Int)] (by rfl) (by rfl) HC6.out (intV_one [(m : Int)]) (by omega) (by unfold maxLen; omega) (by omega) hbl _ rfl ?_; intro g7 cp7 w7 hown7 hgrow7 hg7 _; refine Hid.out ?_)
          refine Lib.hid ?_
          have hro : rv.ownBlock ≠ some w.heap.size := by
            rw [← HRV.out]
            exact HM5.out.rowOff _
          have hb7 : w7.heap[w.heap.size]? = w6.heap[w.heap.size]? := hgrow7.block _ (Nat.lt_of_lt_of_le HM5.out.map.lt HZ5.out) fun e => hro e.symm
          obtain ⟨w8, hes, hg8, hmap8⟩ := HST.out w7 (.slice (some ⟨g7, 0, none⟩) ((placesE ps m ⟨(q : Int), tk⟩).length + 1) cp7) hb7
          have HB8 : Hid (Below w.heap.size w w8) := by
            have q1 := (HBD.out.alloc HBD.out.size (.cells #[.int .i64 (m : Int)] 3)).grown HG6.out (by have := HBD.out.size; simp; omega) fun j hj => by
              injection hj with hj
              exact Nat.le_of_eq hj
            have q2 := q1.grown hgrow7 q1.size fun j hj => (World.ownsRow.lt HR6.out j hj).1
            exact q2.grown hg8 q2.size fun j hj => by
              injection hj with hj
              exact Nat.le_of_eq hj
          have HM8 : Hid (NumsM w8 w.heap.size (m + 1) w.heap.size (updT V ⟨(q : Int), tk⟩ (some (.slice (some ⟨g7, 0, none⟩) ((placesE ps m ⟨(q : Int), tk⟩).length + 1) cp7))) (placesE ps (m + 1))) := by
            rw [HYE.out _ HU.out]
            have hle : (placesE ps m ⟨(q : Int), tk⟩).length + 1 = (placesE ps m ⟨(q : Int), tk⟩ ++ [(m : Int)]).length := by simp
            rw [hle] at hmap8 ⊢
            refine HM5.out.put HG6.out ?_ (by rw [HRV.out]; exact hgrow7) (by rw [HRV.out]; exact hg7) hmap8 hg8
            unfold RowI
            rw [List.map_append]
            rw [hle] at hown7
            exact hown7
          have hes' : (Instr.entryStore 69 (.map (some w.heap.size)) (.int .i64 (st : Int)) (.slice (some ⟨g7, 0, none⟩) ((placesE ps m ⟨(q : Int), tk⟩).length + 1) cp7)).run Try.prog w7 = .ok () w8 := hes
          clear hes hown7 hgrow7 hg7 hb7 hg8 hmap8 hro hme hbl hplm k0 k1 zT8
          go_wp2
          exact ⟨⟨m + 1, _, by omega, by go_num, HM8, HB8⟩, by simp [intOf]; omega⟩
    · have hmm : m = len := by omega
      subst hmm
      go_wp2
      go_ret
      exact ⟨_, _, V, rfl, HM.out, Nat.le_refl _, HB.out⟩

end Go.Proofs.Ytolmlcbgdihcbaa

/- InOrder, the program's side: firstToCome. -/
namespace Go.Proofs.Ytolmlcbgdihcbaa
open Go.ChangeShapes Go.WideShapes Go.ChangeAt Go.RowKit Go.Joins
attribute [local go_sem ↓] Go.wp_at_zero Go.wp_at_succ

/-- k is the least place below len of which P holds; len where there is none. -/
def LeastN (P : Nat → Prop) (len k : Nat) : Prop := k ≤ len ∧ (k < len → P k) ∧ ∀ i, i < k → ¬ P i

theorem LeastN.congr {P Q : Nat → Prop} {len k : Nat} (h : LeastN P len k) (e : ∀ i, i < len → (Q i ↔ P i)) : LeastN Q len k :=
  ⟨h.1, fun hk => (e k hk).2 (h.2.1 hk), fun i hi hq => h.2.2 i hi ((e i (Nat.lt_of_lt_of_le hi h.1)).1 hq)⟩

theorem LeastN.take {P Q : Nat → Prop} {len k q : Nat} (h : LeastN P len k) (hq : q < k) (hQ : Q q) (e : ∀ i, Q i → P i ∨ i = q) : LeastN Q len q :=
  ⟨Nat.le_trans (Nat.le_of_lt hq) h.1, fun _ => hQ, fun i hi hQi => by
    rcases e i hQi with h1 | h1
    · exact h.2.2 i (Nat.lt_trans hi hq) h1
    · omega⟩

theorem LeastN.keep {P Q : Nat → Prop} {len k : Nat} (h : LeastN P len k) (e : ∀ i, Q i → P i ∨ k ≤ i) (e' : ∀ i, P i → Q i) : LeastN Q len k :=
  ⟨h.1, fun hk => e' k (h.2.1 hk), fun i hi hQ => by
    rcases e i hQ with h1 | h1
    · exact h.2.2 i hi h1
    · omega⟩

def rowsN (ps : List Pst) (m : Nat) (t : TK) : List Nat := (List.range m).filter fun (i : Nat) => isT t (ps.getD i pz)

theorem rowsN_mem {ps : List Pst} {m : Nat} {t : TK} {i : Nat} : i ∈ rowsN ps m t ↔ i < m ∧ isT t (ps.getD i pz) = true := by
  simp [rowsN]

theorem placesE_rows (ps : List Pst) (m : Nat) (t : TK) : placesE ps m t = (rowsN ps m t).map fun (i : Nat) => (i : Int) := rfl

theorem placesE_at {ps : List Pst} {m : Nat} {t : TK} {j : Nat} (h : j < (placesE ps m t).length) : (placesE ps m t).getD j 0 = (((rowsN ps m t).getD j 0 : Nat) : Int) ∧ (rowsN ps m t).getD j 0 < m ∧ isT t (ps.getD ((rowsN ps m t).getD j 0) pz) = true := by
  rw [placesE_rows] at h ⊢
  rw [List.length_map] at h
  refine ⟨by simp [List.getD, h], ?_⟩
  have : (rowsN ps m t).getD j 0 ∈ rowsN ps m t := by simp [List.getD, h]
  exact rowsN_mem.1 this

theorem isT_is {t : TK} {p : Pst} (h : isT t p = true) : vecB p.xs = true ∧ btw p.f 0 3 = true ∧ p.f = t.s ∧ p.xs.getD p.f.toNat 0 = t.k := by
  unfold isT turnB at h
  cases hv : vecB p.xs
  · rw [hv] at h
    simp at h
  · cases hb : btw p.f 0 3
    · rw [hv, hb] at h
      simp at h
    · rw [hv, hb] at h
      simp at h
      exact ⟨rfl, rfl, h.1, h.2⟩

theorem isT_of {t : TK} {p : Pst} (h : vecB p.xs = true) (h' : btw p.f 0 3 = true) (e : p.f = t.s) (e' : p.xs.getD p.f.toNat 0 = t.k) : isT t p = true := by
  unfold isT turnB
  rw [h, h']
  simp at e' ⊢
  exact ⟨e, e'⟩

theorem btw_of {f : Int} (h : 0 ≤ f ∧ f ≤ 3) : btw f 0 3 = true := by
  unfold btw
  simp
  omega

theorem comes_isT {v : List Int} {p : Pst} (h : comesB v p = true) {q : Nat} (hq : p.f = (q : Int)) : isT ⟨(q : Int), v.getD q 0 + 1⟩ p = true := by
  obtain ⟨h1, h2, h3, h4, h5, h6, h7, h8, h9⟩ := comes_join h
  refine isT_of h2 (btw_of h6) hq ?_
  rw [h7, show p.f.toNat = q by omega]

theorem isT_comes {v : List Int} {p : Pst} {q : Nat} {k : Int} (hv : vecB v = true) (h : isT ⟨(q : Int), k⟩ p = true) : comesB v p = mayAt v p.xs q 4 := by
  obtain ⟨h1, h2, h3, h4⟩ := isT_is h
  have h3' : p.f = (q : Int) := h3
  unfold comesB
  rw [mayB_at hv h1 h2, show p.f.toNat = q by omega]

/-- The places of posts of the sites below s that come. -/
def PrS (v : List Int) (ps : List Pst) (s : Nat) (i : Nat) : Prop := comesB v (ps.getD i pz) = true ∧ (ps.getD i pz).f < (s : Int)

/-- And of those of the first j of a row. -/
def PrJ (v : List Int) (ps : List Pst) (s : Nat) (r : List Nat) (j i : Nat) : Prop := PrS v ps s i ∨ (i ∈ r.take j ∧ comesB v (ps.getD i pz) = true)

theorem prS_start (v : List Int) (ps : List Pst) : LeastN (PrS v ps 0) ps.length ps.length :=
  ⟨Nat.le_refl _, fun h => absurd h (Nat.lt_irrefl _), fun i _ h => by
    have := (comes_join h.1).2.2.2.2.2.1
    have := h.2
    omega⟩

theorem prS_end {v : List Int} {ps : List Pst} {k : Nat} (h : LeastN (PrS v ps 4) ps.length k) : firstC v ps = k := by
  have hP : ∀ i, comesB v (ps.getD i pz) = true → PrS v ps 4 i := fun i hc => by
    have := (comes_join hc).2.2.2.2.2.1
    exact ⟨hc, by omega⟩
  have hn : ∀ i, i < k → comesB v (ps.getD i pz) = false := fun i hi => by
    cases hc : comesB v (ps.getD i pz)
    · rfl
    · exact absurd (hP i hc) (h.2.2 i hi)
  by_cases hk : k < ps.length
  · exact firstC_is hk (h.2.1 hk).1 hn
  · have e : k = ps.length := by have := h.1; omega
    subst e
    exact firstC_none hn

theorem prJ_start {v : List Int} {ps : List Pst} {s k len : Nat} (r : List Nat) (h : LeastN (PrS v ps s) len k) : LeastN (PrJ v ps s r 0) len k :=
  h.congr fun i _ => by simp [PrJ]

theorem prJ_end {v : List Int} {ps : List Pst} {s k len j : Nat} (h : LeastN (PrJ v ps s (rowsN ps len ⟨(s : Int), v.getD s 0 + 1⟩) j) len k) (hj : (rowsN ps len ⟨(s : Int), v.getD s 0 + 1⟩).length ≤ j) : LeastN (PrS v ps (s + 1)) len k :=
  h.congr fun i hi => by
    rw [PrJ, List.take_of_length_le hj, rowsN_mem]
    constructor
    · intro h
      by_cases hs : (ps.getD i pz).f < (s : Int)
      · exact .inl ⟨h.1, hs⟩
      · exact .inr ⟨⟨hi, comes_isT h.1 (by have := h.2; omega)⟩, h.1⟩
    · intro h
      rcases h with h | h
      · exact ⟨h.1, by have := h.2; omega⟩
      · have h3 : (ps.getD i pz).f = (s : Int) := (isT_is h.1.2).2.2.1
        exact ⟨h.2, by omega⟩

theorem take_mem {r : List Nat} {j i : Nat} (hj : j < r.length) : i ∈ r.take (j + 1) ↔ i ∈ r.take j ∨ i = r.getD j 0 := by
  rw [List.take_succ_eq_append_getElem hj, List.mem_append, List.mem_singleton, show r.getD j 0 = r[j] by simp [List.getD, hj]]

theorem prJ_yes {v : List Int} {ps : List Pst} {s k len j : Nat} {r : List Nat} (h : LeastN (PrJ v ps s r j) len k) (hj : j < r.length) (hq : r.getD j 0 < k) (hc : comesB v (ps.getD (r.getD j 0) pz) = true) : LeastN (PrJ v ps s r (j + 1)) len (r.getD j 0) :=
  h.take hq (.inr ⟨(take_mem hj).2 (.inr rfl), hc⟩) fun i hi => by
    rcases hi with hi | ⟨hi, hc'⟩
    · exact .inl (.inl hi)
    · rcases (take_mem hj).1 hi with hi | hi
      · exact .inl (.inr ⟨hi, hc'⟩)
      · exact .inr hi

theorem prJ_no {v : List Int} {ps : List Pst} {s k len j : Nat} {r : List Nat} (h : LeastN (PrJ v ps s r j) len k) (hj : j < r.length) (hq : k ≤ r.getD j 0 ∨ comesB v (ps.getD (r.getD j 0) pz) = false) : LeastN (PrJ v ps s r (j + 1)) len k :=
  h.keep (fun i hi => by
    rcases hi with hi | ⟨hi, hc'⟩
    · exact .inl (.inl hi)
    · rcases (take_mem hj).1 hi with hi | hi
      · exact .inl (.inr ⟨hi, hc'⟩)
      · rcases hq with hq | hq
        · exact .inr (by omega)
        · rw [hi, hq] at hc'
          cases hc') fun i hi => by
    rcases hi with hi | ⟨hi, hc'⟩
    · exact .inl hi
    · exact .inr ⟨(take_mem hj).2 (.inl hi), hc'⟩

theorem isIs_cells {w : World} {ad : Option Addr} {y0 y1 y2 y3 : Int} (h : IsIs w ad [y0, y1, y2, y3]) :
    ∃ b o, ad = some ⟨b, o, none⟩ ∧ b < w.heap.size ∧ w.cell? ⟨b, o, none⟩ = some (.int .i64 y0) ∧ w.cell? ⟨b, o + 1, none⟩ = some (.int .i64 y1) ∧ w.cell? ⟨b, o + 2, none⟩ = some (.int .i64 y2) ∧ w.cell? ⟨b, o + 3, none⟩ = some (.int .i64 y3) := by
  obtain ⟨b, o, rfl, hz, e0⟩ := h.at (Below.refl _ _) (k := 0) (by simp)
  obtain ⟨_, _, he, -, e1⟩ := h.at (Below.refl _ _) (k := 1) (by simp)
  injection he with he
  injection he with he1 he2
  subst he1
  subst he2
  obtain ⟨_, _, he, -, e2⟩ := h.at (Below.refl _ _) (k := 2) (by simp)
  injection he with he
  injection he with he1 he2
  subst he1
  subst he2
  obtain ⟨_, _, he, -, e3⟩ := h.at (Below.refl _ _) (k := 3) (by simp)
  injection he with he
  injection he with he1 he2
  subst he1
  subst he2
  simp only [Nat.add_zero, List.getD_cons_zero, List.getD_cons_succ] at e0 e1 e2 e3
  exact ⟨b, o, rfl, hz, e0, e1, e2, e3⟩

theorem run_tkS (x0 x1 x2 x3 : Int) {s : Nat} (hs : s < 4) (w : World) : (Instr.index 59 (tkV x0 x1 x2 x3) (.int .i64 (s : Int))).run Try.prog w = .ok (.int .i64 (([x0, x1, x2, x3] : List Int).getD s 0)) w := by
  refine run_tk [.int .i64 x0, .int .i64 x1, .int .i64 x2, .int .i64 x3] _ rfl ?_ w
  match s, hs with
  | 0, _ | 1, _ | 2, _ | 3, _ => rfl

set_option maxRecDepth 100000 in
set_option maxHeartbeats 4000000 in
theorem firstToCome_any (a : Option Addr) (len cap : Nat) (ps : List Pst) (mb n base : Nat) (V : TK → Option Value) (x0 x1 x2 x3 : Int) (w : World) (hl : ps.length = len) (hn : len ≤ 1048576) (hi : IsPs w a ps) (hM : NumsM w mb n base V (placesE ps len)) (hv : vecB [x0, x1, x2, x3] = true) :
    Calls Try.prog 48 #[.slice a len cap, .map (some mb), tkV x0 x1 x2 x3] w fun e w' => e = .returned (.tuple #[.int .i64 (firstC [x0, x1, x2, x3] ps : Nat), .bool (decide (firstC [x0, x1, x2, x3] ps < len))]) ∧ Below w.heap.size w w' := by
  have HI : Hid (IsPs w a ps) := hi
  have HL : Hid (ps.length = len) := hl
  have HV : Hid (vecB [x0, x1, x2, x3] = true) := hv
  have HM : Hid (NumsM w mb n base V (placesE ps len)) := hM
  obtain ⟨hx0, hx1, hx2, hx3⟩ := (vecB_is _ _ _ _).1 hv
  have HLS : Hid (∀ (q : Nat), q < 4 → ∀ y0 y1 y2 y3 W, Calls Try.prog 46 #[tkV x0 x1 x2 x3, tkV y0 y1 y2 y3, .int .i64 (q : Int)] W fun e w' => e = .returned (.bool (letsB x0 x1 x2 x3 y0 y1 y2 y3 q)) ∧ Below W.heap.size W w') := fun q hq y0 y1 y2 y3 W => tkLets_any x0 x1 x2 x3 y0 y1 y2 y3 q hq hx0 hx1 hx2 hx3 W
  have HXR : Hid (∀ s : Nat, s < 4 → 0 ≤ ([x0, x1, x2, x3] : List Int).getD s 0 ∧ ([x0, x1, x2, x3] : List Int).getD s 0 ≤ 1000000) := by
    intro s hs
    match s, hs with
    | 0, _ => exact hx0
    | 1, _ => exact hx1
    | 2, _ => exact hx2
    | 3, _ => exact hx3
  have HIX : Hid (∀ s : Nat, s < 4 → ∀ W, (Instr.index 59 (tkV x0 x1 x2 x3) (.int .i64 (s : Int))).run Try.prog W = .ok (.int .i64 (([x0, x1, x2, x3] : List Int).getD s 0)) W) := fun s hs W => run_tkS x0 x1 x2 x3 hs W
  have HT4 : Hid (([x0, x1, x2, x3] : List Int).length = 4) := Lib.hid rfl
  have hres : Try.f48.results = #[.tmp 6, .tmp 7] := by kernel_rfl
  clear hi hl hv hM hx0 hx1 hx2 hx3
  have HA : Hid (Below w.heap.size w (w.alloc (.cells #[.int .i64 x0, .int .i64 x1, .int .i64 x2, .int .i64 x3] 59))) := (Below.refl _ _).alloc (Nat.le_refl _) _
  have HAC : Hid ((w.alloc (.cells #[.int .i64 x0, .int .i64 x1, .int .i64 x2, .int .i64 x3] 59)).heap[w.heap.size]? = some (.cells #[.int .i64 x0, .int .i64 x1, .int .i64 x2, .int .i64 x3] 59 (0, 0))) := heap_alloc_new w _
  go_enter Try.func48, Try.ntmps48
  go_upto_region 2 with fail
  generalize w.alloc (.cells #[.int .i64 x0, .int .i64 x1, .int .i64 x2, .int .i64 x3] 59) = WA at *
  have c0 := cell_of_row WA w.heap.size 0 _ _ _ HAC.out
  have c1 := cell_of_row WA w.heap.size 1 _ _ _ HAC.out
  have c2 := cell_of_row WA w.heap.size 2 _ _ _ HAC.out
  have c3 := cell_of_row WA w.heap.size 3 _ _ _ HAC.out
  simp at c0 c1 c2 c3
  go_wp2
  clear c0 c1 c2 c3
  obtain ⟨X, hX⟩ : ∃ X, ([x0, x1, x2, x3] : List Int) = X := ⟨_, rfl⟩
  have HX := Lib.hid hX
  rw [hX] at HV HXR HIX
  clear hX HT4
  go_loopw [8, 16] (fun t8 t16 wr => ∃ (k s : Nat), s ≤ 4 ∧ k ≤ len ∧ t8 = .int .i64 (k : Int) ∧ t16 = .int .i64 (s : Int) ∧ Hid (LeastN (PrS X ps s) len k) ∧ Hid (Below WA.heap.size WA wr)) (fun _ t16 _ => 4 - (intOf t16).toNat)
  case atStart =>
    refine ⟨len, 0, by omega, by omega, rfl, rfl, ?_, Below.refl _ _⟩
    have := prS_start X ps
    rw [HL.out] at this
    exact this
  case round =>
    obtain ⟨k, s, hs, hk, rfl, rfl, HP, HB⟩ := hrel
    by_cases hs' : s < 4
    · have hix := HIX.out s hs'
      obtain ⟨n0, n1⟩ := HXR.out s hs'
      obtain ⟨u, hu⟩ : ∃ u, X.getD s 0 = u := ⟨_, rfl⟩
      have HU := Lib.hid hu
      rw [hu] at hix n0 n1
      clear hu
      have HLW : Hid (∀ W, Below WA.heap.size WA W → Below w.heap.size w W) := fun W hW => below_step HA.out HA.out.size hW
      have HMr : Hid (NumsM wr mb n base V (placesE ps len)) := HM.out.below (HLW.out _ HB.out)
      have HOK : Hid (keyT.ok ⟨(s : Int), u + 1⟩) := by
        show R64 _ ∧ R64 _
        unfold R64
        exact Lib.hid (by simp; omega)
      obtain ⟨ar, cr, hrow, -⟩ := (HMr.out.theRow ⟨(s : Int), u + 1⟩).form
      have HRI : Hid (∀ W, Below WA.heap.size WA W → IsIs W ar (placesE ps len ⟨(s : Int), u + 1⟩)) := fun W hW => by
        have h := (HM.out.below (HLW.out W hW)).theRow ⟨(s : Int), u + 1⟩
        rw [hrow] at h
        obtain ⟨a', c', e, o⟩ := h.form
        injection e with e1
        subst e1
        exact o.isIs
      have hll := placesE_len ps len ⟨(s : Int), u + 1⟩
      have HPA : Hid (∀ j, j < (placesE ps len ⟨(s : Int), u + 1⟩).length → _) := fun j hj => placesE_at hj
      have HRL : Hid ((rowsN ps len ⟨(s : Int), u + 1⟩).length = (placesE ps len ⟨(s : Int), u + 1⟩).length) := by
        rw [placesE_rows, List.length_map]
        exact Lib.hid rfl
      obtain ⟨L, hL⟩ : ∃ L, (placesE ps len ⟨(s : Int), u + 1⟩).length = L := ⟨_, rfl⟩
      unfold rowT at hrow
      rw [hL] at hrow hll HPA HRL
      have HLL := Lib.hid hL
      have HRE : Hid ((rowsN ps len ⟨(s : Int), u + 1⟩).length ≤ L) := by rw [HRL.out]; exact Lib.hid (Nat.le_refl _)
      clear hL
      go_wp2_with (first | (at_lookup; refine wpList_lookG1 (K := keyT) (by rfl) _ _ 69 22 (by rfl) Try.underlying69 (zero_ints _) HMr.out.map ⟨(s : Int), u + 1⟩ HOK.out (by rfl) (by rfl) ?_; rw [hrow]))
      clear hrow HOK HMr
      obtain ⟨W1, rfl⟩ : ∃ W1, W1 = wr := ⟨wr, rfl⟩
      go_loopw [8, 27] (fun t8 t27 wr => ∃ (k j : Nat), j ≤ L ∧ k ≤ len ∧ t8 = .int .i64 (k : Int) ∧ t27 = .int .i64 (j : Int) ∧ Hid (LeastN (PrJ X ps s (rowsN ps len ⟨(s : Int), u + 1⟩) j) len k) ∧ Hid (Below WA.heap.size WA wr)) (fun _ t27 _ => L - (intOf t27).toNat)
      case atStart => exact ⟨k, 0, Nat.zero_le _, hk, rfl, rfl, prJ_start _ HP.out, HB⟩
      case round =>
        clear HP HB hk
        obtain ⟨k, j, hj, hk, rfl, rfl, HP, HB⟩ := hrel
        by_cases hj' : j < L
        · obtain ⟨e0, hil, hiT⟩ := HPA.out j hj'
          have hjr : j < (rowsN ps len ⟨(s : Int), u + 1⟩).length := by rw [HRL.out]; exact hj'
          have HYES : Hid (_ → _ → LeastN (PrJ X ps s (rowsN ps len ⟨(s : Int), u + 1⟩) (j + 1)) len _) := fun h1 h2 => prJ_yes HP.out hjr h1 h2
          have HNO : Hid (_ → LeastN (PrJ X ps s (rowsN ps len ⟨(s : Int), u + 1⟩) (j + 1)) len k) := fun h => prJ_no HP.out hjr h
          obtain ⟨i, hi⟩ : ∃ i, (rowsN ps len ⟨(s : Int), u + 1⟩).getD j 0 = i := ⟨_, rfl⟩
          rw [hi] at e0 hil hiT HYES HNO
          clear hi hjr HP
          obtain ⟨br, orr, rfl, hzr, cr0⟩ := (HRI.out _ HB.out).at (Below.refl _ _) (k := j) (by rw [HLL.out]; exact hj')
          rw [e0] at cr0
          have j1 : (0 : Int) ≤ (j : Int) := by omega
          have j2 : (j : Int) < (L : Int) := by omega
          clear e0
          have HB0 : Hid (wr.heap[w.heap.size]? = some (.cells #[.int .i64 x0, .int .i64 x1, .int .i64 x2, .int .i64 x3] 59 (0, 0))) := (HB.out.block _ (Array.getElem?_eq_some_iff.1 HAC.out).1).trans HAC.out
          by_cases hik : i < k
          · obtain ⟨b, o, ad, cq, rfl, hz, ⟨e0, e1, e2⟩, hmx, hd⟩ := ps_at HI.out (HLW.out _ HB.out) HL.out hil
            have hct := isT_comes HV.out hiT
            obtain ⟨y0, y1, y2, y3, hy, -⟩ := vecB_four (isT_is hiT).1
            have i1 : (0 : Int) ≤ (i : Int) := by omega
            have i2 : (i : Int) < (len : Int) := by omega
            have hxl : (ps.getD i pz).xs.length = 4 := by rw [hy]; rfl
            rw [hy] at hd hct
            rw [hxl] at e1
            rw [← HX.out, ← lets_may x0 x1 x2 x3 y0 y1 y2 y3 s hs', HX.out] at hct
            rw [hct] at HNO HYES
            obtain ⟨by_, oy, rfl, hzy, d0, d1, d2, d3⟩ := isIs_cells hd
            have HLT := HLS.out s hs' y0 y1 y2 y3
            generalize letsB x0 x1 x2 x3 y0 y1 y2 y3 s = z at *
            have hg : decide (i < k) = true := decide_eq_true hik
            have hat : ∀ w, (Instr.arrayAt 59 (.slice (some ⟨by_, oy, none⟩) 4 cq)).run Try.prog w = .ok (.pointer (some ⟨by_, oy, none⟩)) w := fun w => run_arrayAt w 59 _ 4 _ 4 cq Try.underlying59 (Nat.le_refl _)
            have zb : w.heap.size < wr.heap.size := (Array.getElem?_eq_some_iff.1 HB0.out).1
            have c0 := cell_of_row wr w.heap.size 0 _ _ _ HB0.out
            have c1 := cell_of_row wr w.heap.size 1 _ _ _ HB0.out
            have c2 := cell_of_row wr w.heap.size 2 _ _ _ HB0.out
            have c3 := cell_of_row wr w.heap.size 3 _ _ _ HB0.out
            simp at c0 c1 c2 c3
            clear hd hct hy hxl
            go_wp2_with fail
            have g0 := aft_cell zb c0
            have g1 := aft_cell zb c1
            have g2 := aft_cell zb c2
            have g3 := aft_cell zb c3
            have g4 := aft_cell hz e1
            have g5 := aft_cell hzy d0
            have g6 := aft_cell hzy d1
            have g7 := aft_cell hzy d2
            have g8 := aft_cell hzy d3
            have ne := aft_some wr
            clear cr0
            refine wp_region_aft (by kernel_rfl) (by kernel_rfl) ?_
            repeat (first | go_big_quiet_step (first | (go_at_call 46; exact aft_of (HLT _)) | simp only [hat]))
            refine wpQuiet_nil ?_
            intro wa hqwa
            clear g0 g1 g2 g3 g4 g5 g6 g7 g8 ne
            have HBA : Hid (Below WA.heap.size WA wa) := below_step HB.out HB.out.size hqwa
            clear hqwa c0 c1 c2 c3 d0 d1 d2 d3 e0 e1 e2
            cases z
            · have HP2 := Lib.hid (HNO.out (.inr rfl))
              go_wp2
              exact ⟨⟨k, j + 1, by omega, hk, rfl, by go_num, HP2, HBA⟩, by simp [intOf]; omega⟩
            · have HP2 := Lib.hid (HYES.out hik rfl)
              go_wp2
              exact ⟨⟨i, j + 1, by omega, by omega, rfl, by go_num, HP2, HBA⟩, by simp [intOf]; omega⟩
          · have HP2 := Lib.hid (HNO.out (.inl (by omega)))
            have hg : decide (i < k) = false := decide_eq_false hik
            go_wp2_with fail
            have ne := aft_some wr
            clear cr0
            refine wp_region_aft (by kernel_rfl) (by kernel_rfl) ?_
            repeat (first | go_big_quiet_step (fail))
            refine wpQuiet_nil ?_
            intro wa hqwa
            clear ne
            have HBA : Hid (Below WA.heap.size WA wa) := below_step HB.out HB.out.size hqwa
            clear hqwa
            go_wp2
            exact ⟨⟨k, j + 1, by omega, hk, rfl, by go_num, HP2, HBA⟩, by simp [intOf]; omega⟩
        · have hjj : j = L := by omega
          subst hjj
          have HP2 : Hid (LeastN (PrS X ps (s + 1)) len k) := prJ_end (by rw [HU.out]; exact HP.out) (by rw [HU.out]; exact HRE.out)
          go_wp2
          exact ⟨⟨k, s + 1, by omega, hk, rfl, by go_num, HP2, HB⟩, by simp [intOf]; omega⟩
    · have hss : s = 4 := by omega
      subst hss
      have HF : Hid (firstC X ps = k) := prS_end (by rw [HL.out]; exact HP.out)
      go_wp2
      refine bodyPost_ret (v := .tuple #[.int .i64 (k : Int), .bool (decide (k < len))]) (by simp only [results, hres]; go_simp) rfl ⟨by rw [HX.out, HF.out], below_step HA.out HA.out.size HB.out⟩

end Go.Proofs.Ytolmlcbgdihcbaa

/- InOrder, the specification's side: what lies where. -/
namespace Go.Proofs.Ytolmlcbgdihcbaa
open Go.ChangeShapes Go.WideShapes Go.ChangeAt Go.RowKit Go.Joins
attribute [local go_sem ↓] Go.wp_at_zero Go.wp_at_succ

/-- What InOrder answers. -/
def OrdAns (w : World) (ps : List Pst) (e : Ending) (w' : World) : Prop := ∃ n v4 es gv cpv, GoC ps n ∧ firstC (runC ps n).2 ps = ps.length ∧ e = .returned (.tuple #[v4, vecV (some ⟨gv, 0, none⟩) 4 cpv]) ∧
  RowP w' w.heap.size v4 es ∧ es.map (·.x) = outC ps n ∧ NumsAt w' gv (runC ps n).2 ∧ w.heap.size ≤ gv ∧ v4.ownBlock ≠ some gv ∧ (∀ e ∈ es, e.g ≠ gv) ∧ Below w.heap.size w w'

/-- What lies where: who came, the vector, the posts told. -/
structure OrdX (w wr : World) (N : Nat) (cm : List Nat) (vv : List Int) (out : List Pst) (v4 : Value) (es : List EnP) (gv cpv : Nat) : Prop where
  low : Below w.heap.size w wr
  b0 : wr.heap[w.heap.size]? = some (.cells #[.slice none 0 0] 27 (0, 0))
  bv : wr.heap[w.heap.size + 3]? = some (.cells #[.slice (some ⟨gv, 0, none⟩) 4 cpv] 27 (0, 0))
  bc : wr.rowIs (w.heap.size + 4) 4 N (fun i => .bool (decide (i ∈ cm)))
  row : RowP wr (w.heap.size + 1) v4 es
  ours : es.map (·.x) = out
  away : ∀ g, v4.ownBlock = some g → g = w.heap.size + 1 ∨ w.heap.size + 5 ≤ g
  far : ∀ e ∈ es, w.heap.size + 5 ≤ e.g
  nums : NumsAt wr gv vv
  gle : w.heap.size + 2 ≤ gv
  g3 : gv ≠ w.heap.size + 3
  g4 : gv ≠ w.heap.size + 4
  goff : v4.ownBlock ≠ some gv
  goffs : ∀ e ∈ es, e.g ≠ gv

/-- Round n, in memory. -/
structure OrdW (w wr : World) (ps : List Pst) (n : Nat) (v4 : Value) (es : List EnP) (gv cpv : Nat) : Prop extends OrdX w wr ps.length (runC ps n).1 (runC ps n).2 (outC ps n) v4 es gv cpv where
  go : GoC ps n

theorem rowIs_below {w w' : World} {b t n : Nat} {f : Nat → Value} (h : w.rowIs b t n f) (hb : Below w.heap.size w w') : w'.rowIs b t n f := by
  obtain ⟨cs, h1, h2, h3⟩ := h
  exact ⟨cs, (hb.block b (Array.getElem?_eq_some_iff.1 h1).1).trans h1, h2, h3⟩

theorem OrdX.lt {w wr : World} {N : Nat} {cm : List Nat} {vv : List Int} {out : List Pst} {v4 : Value} {es : List EnP} {gv cpv : Nat} (h : OrdX w wr N cm vv out v4 es gv cpv) : w.heap.size + 4 < wr.heap.size := by
  obtain ⟨cs, h1, -, -⟩ := h.bc
  exact (Array.getElem?_eq_some_iff.1 h1).1

theorem OrdX.below {w wr w' : World} {N : Nat} {cm : List Nat} {vv : List Int} {out : List Pst} {v4 : Value} {es : List EnP} {gv cpv : Nat} (h : OrdX w wr N cm vv out v4 es gv cpv) (hb : Below wr.heap.size wr w') : OrdX w w' N cm vv out v4 es gv cpv where
  low := below_step h.low h.low.size hb
  b0 := (hb.block _ (Array.getElem?_eq_some_iff.1 h.b0).1).trans h.b0
  bv := (hb.block _ (Array.getElem?_eq_some_iff.1 h.bv).1).trans h.bv
  bc := rowIs_below h.bc hb
  row := h.row.below hb
  ours := h.ours
  away := h.away
  far := h.far
  nums := h.nums.below hb
  gle := h.gle
  g3 := h.g3
  g4 := h.g4
  goff := h.goff
  goffs := h.goffs

theorem RowP.setOff {w : World} {base : Nat} {v : Value} {es : List EnP} (h : RowP w base v es) {p : Addr} (hp : v.ownBlock ≠ some p.block) (hq : ∀ e ∈ es, e.g ≠ p.block) (u : Value) : RowP (w.setCell p u) base v es where
  own := by
    refine ⟨h.own.1, ?_⟩
    rcases h.own.2 with h1 | ⟨g, cap, cur, h1, h2, h3, h4⟩
    · exact .inl h1
    · refine .inr ⟨g, cap, cur, h1, h2, (Below.heap_setCell _ _ _ _ fun e => hp ?_).trans h3, h4⟩
      rw [h1, ← e]
      rfl
  nums := fun e he => ⟨(h.nums e he).1, (h.nums e he).2.1, (h.nums e he).2.2.of_block (Below.heap_setCell _ _ _ _ (hq e he)) (by simpa using (h.nums e he).2.2.1)⟩
  apart := h.apart

theorem RowP.mono {w : World} {base base' : Nat} {v : Value} {es : List EnP} (h : RowP w base v es) (hb : base' ≤ base) : RowP w base' v es where
  own := by
    refine ⟨h.own.1, ?_⟩
    rcases h.own.2 with h1 | ⟨g, cap, cur, h1, h2, h3⟩
    · exact .inl h1
    · exact .inr ⟨g, cap, cur, h1, Nat.le_trans hb h2, h3⟩
  nums := fun e he => ⟨Nat.le_trans hb (h.nums e he).1, (h.nums e he).2⟩
  apart := h.apart

/-- Who came is marked. -/
theorem OrdX.mark {w wr : World} {N : Nat} {cm : List Nat} {vv : List Int} {out : List Pst} {v4 : Value} {es : List EnP} {gv cpv : Nat} (h : OrdX w wr N cm vv out v4 es gv cpv) (q : Nat) : OrdX w (wr.setCell ⟨w.heap.size + 4, q, none⟩ (.bool true)) N (cm ++ [q]) vv out v4 es gv cpv where
  low := h.low.setCell (p := ⟨w.heap.size + 4, q, none⟩) (by show w.heap.size ≤ w.heap.size + 4; omega) _
  b0 := (Below.heap_setCell _ _ _ _ (by show w.heap.size ≠ w.heap.size + 4; omega)).trans h.b0
  bv := (Below.heap_setCell _ _ _ _ (by show w.heap.size + 3 ≠ w.heap.size + 4; omega)).trans h.bv
  bc := (h.bc.set q (.bool true)).congr fun i _ => by
    by_cases e : i = q
    · subst e
      simp
    · simp [e]
  row := h.row.setOff (fun e => by have := h.away _ e; simp at this) (fun e he => by have := h.far e he; show e.g ≠ w.heap.size + 4; omega) _
  ours := h.ours
  away := h.away
  far := h.far
  nums := h.nums.of_block (Below.heap_setCell _ _ _ _ h.g4) (by simpa using h.nums.1)
  gle := h.gle
  g3 := h.g3
  g4 := h.g4
  goff := h.goff
  goffs := h.goffs

/-- A store elsewhere. -/
theorem OrdX.setT {w wr : World} {N : Nat} {cm : List Nat} {vv : List Int} {out : List Pst} {v4 : Value} {es : List EnP} {gv cpv : Nat} (h : OrdX w wr N cm vv out v4 es gv cpv) {p : Addr} (hp : w.heap.size + 5 ≤ p.block) (h1 : v4.ownBlock ≠ some p.block) (h2 : ∀ e ∈ es, e.g ≠ p.block) (h3 : gv ≠ p.block) (u : Value) : OrdX w (wr.setCell p u) N cm vv out v4 es gv cpv where
  low := h.low.setCell (by omega) _
  b0 := (Below.heap_setCell _ _ _ _ (by omega)).trans h.b0
  bv := (Below.heap_setCell _ _ _ _ (by omega)).trans h.bv
  bc := h.bc.of_block (Below.heap_setCell _ _ _ _ (by omega))
  row := h.row.setOff h1 h2 _
  ours := h.ours
  away := h.away
  far := h.far
  nums := h.nums.of_block (Below.heap_setCell _ _ _ _ h3) (by simpa using h.nums.1)
  gle := h.gle
  g3 := h.g3
  g4 := h.g4
  goff := h.goff
  goffs := h.goffs

theorem RowP.old {w : World} {base : Nat} {v : Value} {es : List EnP} (h : RowP w base v es) {g : Nat} (hg : w.heap.size ≤ g) : v.ownBlock ≠ some g ∧ ∀ e ∈ es, e.g ≠ g :=
  ⟨fun e => by have := (World.ownsRow.lt h.own g e).2; omega, fun e he => by have := (h.nums e he).2.2.1; omega⟩

/-- The vector is another. -/
theorem OrdX.turn {w wr w' : World} {N : Nat} {cm : List Nat} {vv nv : List Int} {out : List Pst} {v4 : Value} {es : List EnP} {gv cpv g : Nat} (h : OrdX w wr N cm vv out v4 es gv cpv) (hb : Below wr.heap.size wr w') (hn : NumsAt w' g nv) (hg : wr.heap.size ≤ g) (cp : Nat) : OrdX w (w'.setCell ⟨w.heap.size + 3, 0, none⟩ (.slice (some ⟨g, 0, none⟩) 4 cp)) N cm nv out v4 es g cp := by
  have h' := h.below hb
  have hl := h.lt
  obtain ⟨o1, o2⟩ := h.row.old hg
  refine ⟨h'.low.setCell (p := ⟨w.heap.size + 3, 0, none⟩) (by show w.heap.size ≤ w.heap.size + 3; omega) _, ?_, one_setCell h'.bv, ?_, ?_, h.ours, h.away, h.far, ?_, by omega, by omega, by omega, o1, o2⟩
  · exact (Below.heap_setCell _ _ _ _ (by show w.heap.size ≠ w.heap.size + 3; omega)).trans h'.b0
  · exact h'.bc.of_block (Below.heap_setCell _ _ _ _ (by show w.heap.size + 4 ≠ w.heap.size + 3; omega))
  · exact h'.row.setOff (fun e => by have := h.away _ e; simp at this) (fun e he => by have := h.far e he; show e.g ≠ w.heap.size + 3; omega) _
  · exact hn.of_block (Below.heap_setCell _ _ _ _ (by show g ≠ w.heap.size + 3; omega)) (by simpa using hn.1)

/-- One post more. -/
theorem OrdX.more {w wr w5 : World} {N : Nat} {cm : List Nat} {vv : List Int} {out : List Pst} {v4 : Value} {es : List EnP} {gv cpv g5 cap5 : Nat} {e : EnP} (h : OrdX w wr N cm vv out v4 es gv cpv) (he : w.heap.size + 5 ≤ e.g ∧ v4.ownBlock ≠ some e.g ∧ NumsAt wr e.g e.x.xs) (hap : ∀ d ∈ es, d.g ≠ e.g) (hgv : e.g ≠ gv)
    (hown : w5.ownsRow (w.heap.size + 1) 42 3 (.slice (some ⟨g5, 0, none⟩) (es.length + 1) cap5) (es.length + 1) (es.flatMap psVals ++ psVals e)) (hgrow : wr.grownBy w5 v4.ownBlock) (hg : v4.ownBlock = some g5 ∨ g5 = wr.heap.size) : OrdX w w5 N cm vv (out ++ [e.x]) (.slice (some ⟨g5, 0, none⟩) (es.length + 1) cap5) (es ++ [e]) gv cpv := by
  have hl := h.lt
  have hlow := h.low.size
  have hblk : ∀ j, j < wr.heap.size → v4.ownBlock ≠ some j → w5.heap[j]? = wr.heap[j]? := fun j h1 h2 => hgrow.block j h1 fun e => h2 e.symm
  have ha : ∀ j, w.heap.size + 2 ≤ j → j < w.heap.size + 5 → v4.ownBlock ≠ some j := fun j h1 h2 e => by
    have := h.away j e
    omega
  have ha0 : v4.ownBlock ≠ some w.heap.size := fun e => by
    have := h.away _ e
    omega
  refine ⟨h.low.grown hgrow hlow fun j hj => ?_, (hblk _ (by omega) ha0).trans h.b0, (hblk _ (by omega) (ha _ (by omega) (by omega))).trans h.bv, h.bc.of_block (hblk _ (by omega) (ha _ (by omega) (by omega))), h.row.more ⟨by omega, he.2.1, he.2.2⟩ hap hown hgrow hg, ?_, fun g hg' => ?_, ?_, ?_, h.gle, h.g3, h.g4, fun e' => ?_, ?_⟩
  · have := h.away j hj
    omega
  · rw [List.map_append, h.ours]
    rfl
  · have e5 : g5 = g := by
      simp only [Value.ownBlock, Option.some.injEq] at hg'
      exact hg'
    rcases hg with hg | hg
    · exact h.away g (by rw [hg, e5])
    · omega
  · intro d hd
    rcases List.mem_append.1 hd with hd | hd
    · exact h.far d hd
    · have hd : d = e := by simpa using hd
      subst hd
      exact he.1
  · exact h.nums.of_block (hblk _ h.nums.1 h.goff) (Nat.lt_of_lt_of_le h.nums.1 hgrow.size)
  · have e5 : g5 = gv := by
      simp only [Value.ownBlock, Option.some.injEq] at e'
      exact e'
    rcases hg with hg | hg
    · exact h.goff (by rw [hg, e5])
    · have := h.nums.1
      omega
  · intro d hd
    rcases List.mem_append.1 hd with hd | hd
    · exact h.goffs d hd
    · have hd : d = e := by simpa using hd
      subst hd
      exact hgv

theorem OrdW.below {w wr w' : World} {ps : List Pst} {n : Nat} {v4 : Value} {es : List EnP} {gv cpv : Nat} (h : OrdW w wr ps n v4 es gv cpv) (hb : Below wr.heap.size wr w') : OrdW w w' ps n v4 es gv cpv := ⟨h.toOrdX.below hb, h.go⟩

theorem OrdW.len {w wr : World} {ps : List Pst} {n : Nat} {v4 : Value} {es : List EnP} {gv cpv : Nat} (h : OrdW w wr ps n v4 es gv cpv) : es.length = n := by
  have := congrArg List.length h.ours
  rw [List.length_map, outC_len h.go] at this
  exact this

/-- At the end. -/
theorem OrdW.ends {w wr : World} {ps : List Pst} {n : Nat} {v4 : Value} {es : List EnP} {gv cpv : Nat} (h : OrdW w wr ps n v4 es gv cpv) (he : firstC (runC ps n).2 ps = ps.length) (u : Value) : OrdAns w ps (.returned (.tuple #[v4, vecV (some ⟨gv, 0, none⟩) 4 cpv])) (wr.setCell ⟨w.heap.size, 0, none⟩ u) := by
  have hg := h.gle
  exact ⟨n, v4, es, gv, cpv, h.go, he, rfl, (h.row.set (p := ⟨w.heap.size, 0, none⟩) (Nat.lt_succ_self _) u).mono (Nat.le_succ _), h.ours, h.nums.of_block (Below.heap_setCell _ _ _ _ (by show gv ≠ w.heap.size; omega)) (by simpa using h.nums.1), by omega, h.goff, h.goffs, h.low.setCell (p := ⟨w.heap.size, 0, none⟩) (Nat.le_refl _) u⟩

theorem madeBools (w : World) (n : Nat) : (w.alloc (.cells (madeCells #[.bool false] n) 4)).rowIs w.heap.size 4 n (fun _ => .bool false) := by
  refine ⟨_, Go.Deep.blk_alloc_new _ _, size_madeCells _ _, fun i hi => ?_⟩
  simp [madeCells, hi, Nat.mod_one]

theorem infoBool : (Try.prog.info? 4).map (fun i => (i.zero, i.size, i.bytes)) = some (some (.bool false), 1, 1) := by kernel_rfl

theorem run_make_bools (n : Nat) (hn : n ≤ 1048576) (w : World) :
    (Instr.makeSlice 68 (.int .i64 (n : Int)) (.int .i64 (n : Int))).run Try.prog w = .ok (.slice (some ⟨w.heap.size, 0, none⟩) n n) (w.alloc (.cells (madeCells #[.bool false] n) 4)) := by
  obtain ⟨i, hi, hzz⟩ := Option.map_eq_some_iff.1 infoBool
  simp only [Prod.mk.injEq] at hzz
  obtain ⟨hz, hs, hb⟩ := hzz
  have hr := run_make (P := Try.prog) w 68 4 i _ Try.underlying68 hi hz .i64 .i64 n n (by omega) (Int.le_refl _) (by rw [hb]; omega) (by omega)
  simp only [Int.toNat_natCast, hs, Nat.mul_one] at hr
  exact hr

end Go.Proofs.Ytolmlcbgdihcbaa
