/- The posts turned: two appends within one region, and what lasts there. -/
import Derived.Test.YtpejdhbajejmoaaPack8
import Derived.Test.YtpejdhbajejmoaaPack11
import Derived.Test.YtpejdhbajejmoaaPack5
import Derived.Deep.Upon
namespace Go.Proofs.Ytpejdhbajejmoaa
open Go.ChangeShapes Go.WideShapes Go.ChangeAt Go.RowKit Go.Joins

/-- A row of posts, each with where its numbers lie. -/
theorem isPs_entries {w : World} {b o : Nat} {ps : List Pst} (h : IsPs w (some ⟨b, o, none⟩) ps) (hp : 0 < ps.length) : b < w.heap.size ∧ ∃ es : List EnQ, es.map toPst = ps ∧ (∀ j, j < ps.length * 3 → w.cell? ⟨b, o + j, none⟩ = (es.flatMap pqVals)[j]?) ∧ ∀ e ∈ es, IsIs w e.a e.xs := by
  rcases h with h | ⟨b', o', ha, hlt, hh⟩
  · subst h
    simp at hp
  · injection ha with ha
    injection ha with h1 h2
    subst h1 h2
    refine ⟨hlt, ?_⟩
    have hx : ∀ i, ∃ e : EnQ, i < ps.length → toPst e = ps.getD i pz ∧ (∀ c, c < 3 → w.cell? ⟨b, o + (i * 3 + c), none⟩ = (pqVals e)[c]?) ∧ IsIs w e.a e.xs := fun i => by
      by_cases hi : i < ps.length
      · obtain ⟨a', cap, ⟨h1, h2, h3⟩, _, h5⟩ := hh i hi
        refine ⟨⟨(ps.getD i pz).f, (ps.getD i pz).xs, (ps.getD i pz).y, a', cap⟩, fun _ => ⟨rfl, fun c hc => ?_, h5⟩⟩
        match c, hc with
        | 0, _ => exact h1
        | 1, _ => exact h2
        | 2, _ => exact h3
      · exact ⟨ezQ, fun h => absurd h hi⟩
    let F : Nat → EnQ := fun i => (hx i).choose
    have hF : ∀ i, i < ps.length → toPst (F i) = ps.getD i pz ∧ (∀ c, c < 3 → w.cell? ⟨b, o + (i * 3 + c), none⟩ = (pqVals (F i))[c]?) ∧ IsIs w (F i).a (F i).xs := fun i hi => (hx i).choose_spec hi
    have hl : ((List.range ps.length).map F).length = ps.length := by simp
    refine ⟨(List.range ps.length).map F, ?_, fun j hj => ?_, fun e he => ?_⟩
    · rw [List.map_map]
      conv => rhs; rw [← range_posts ps]
      apply List.map_congr_left
      intro i hi
      exact (hF i (List.mem_range.1 hi)).1
    · have hq : j = (j / 3) * 3 + j % 3 := by omega
      have h3 : j % 3 < 3 := Nat.mod_lt _ (by omega)
      have hd : j / 3 < ps.length := by omega
      rw [hq, pqVals_at _ (j / 3) (j % 3) (by rw [hl]; exact hd) h3]
      have : ((List.range ps.length).map F).getD (j / 3) ezQ = F (j / 3) := by simp [List.getD, hd]
      rw [this]
      exact (hF _ hd).2.1 _ h3
    · obtain ⟨i, hi, rfl⟩ := List.mem_map.1 he
      exact (hF i (List.mem_range.1 hi)).2.2

/-- A row that bears this mark, from block B on, is written to, and new memory made; nothing else. -/
def MTurn (B : Nat) (hd : Value) (w w' : World) : Prop := ∃ b, B ≤ b ∧ w.cell? ⟨b, 1, none⟩ = some hd ∧ Hole b w w'

def RM (B : Nat) (hd : Value) (u : Tmp) : ReachU := fun d w w' => (d = some u ∧ MTurn B hd w w') ∨ (d ≠ some u ∧ Below w.heap.size w w')

theorem rm_below {B : Nat} {hd : Value} {u : Tmp} {d : Option Tmp} {w w' : World} (hn : d ≠ some u) (h : Below w.heap.size w w') : RM B hd u d w w' := .inr ⟨hn, h⟩

theorem rm_step {B : Nat} {hd : Value} {u : Tmp} {d : Option Tmp} {w0 w w' : World} (h : Below B w0 w) (hB : B ≤ w.heap.size) (hr : RM B hd u d w w') : Below B w0 w' := by
  rcases hr with ⟨-, b, hb, -, hh⟩ | ⟨-, hb⟩
  · exact Hole.below h hh hb hB
  · exact below_step h hB hb

theorem rm_size {B : Nat} {hd : Value} {u : Tmp} {d : Option Tmp} {w w' : World} (hr : RM B hd u d w w') : w.heap.size ≤ w'.heap.size := by
  rcases hr with ⟨-, b, hb, -, hh⟩ | ⟨-, hb⟩
  · exact hh.size
  · exact hb.size

theorem lastsM_until {B : Nat} {hd : Value} {u d : Tmp} {U : Tmp → Option Tmp} {T : Fact} (hU : U d = some u) (h : lasts (fun w w' => Below w.heap.size w w') T) : lastsU U (RM B hd u) (some d) T := by
  intro d' _ h2 v w w' hv hr
  rcases hr with ⟨h3, -⟩ | ⟨-, hb⟩
  · exact absurd h3 (h2 d u rfl hU)
  · exact h v w w' hv hb

theorem lastsM_own {B : Nat} {hd : Value} {u : Tmp} {U : Tmp → Option Tmp} {T : Fact} (h : lasts (fun w w' => Below w.heap.size w w') T) : lastsU U (RM B hd u) (some u) T := by
  intro d' h1 _ v w w' hv hr
  rcases hr with ⟨h3, -⟩ | ⟨-, hb⟩
  · exact absurd h3 h1
  · exact h v w w' hv hb

theorem lastsM_both {B : Nat} {hd : Value} {u : Tmp} {d : Option Tmp} {U : Tmp → Option Tmp} {T : Fact} (h : lasts (fun w w' => Below w.heap.size w w') T) (ht : lasts (MTurn B hd) T) : lastsU U (RM B hd u) d T := by
  intro d' _ _ v w w' hv hr
  rcases hr with ⟨-, h4⟩ | ⟨-, hb⟩
  · exact ht v w w' hv h4
  · exact h v w w' hv hb

/-- The operation at which the slots' facts end is the only one that reads them. -/
def onlyM (all : List Oper) (N : List (List (Tmp × Bool))) (U : Tmp → Option Tmp) : Bool :=
  (List.range N.length).all fun j => (N.getD j []).all fun p => !p.2 || (match U p.1 with | none => true | some u => (List.range all.length).all fun i => match all[i]? with | some o => (o.dst != some u) || (i == j) | none => true)

theorem onlyM_of {all : List Oper} {N : List (List (Tmp × Bool))} {U : Tmp → Option Tmp} (h : onlyM all N U = true) :
    ∀ (j : Nat) (n : List (Tmp × Bool)), N[j]? = some n → ∀ x, (x, true) ∈ n → ∀ u, U x = some u → ∀ (i : Nat) (o' : Oper), all[i]? = some o' → o'.dst = some u → i = j := by
  intro j n hj x hx u hu i o' ho hd
  have hjl : j < N.length := (List.getElem?_eq_some_iff.1 hj).1
  have h1 := List.all_eq_true.1 h j (List.mem_range.2 hjl)
  have e : N.getD j [] = n := by simp [List.getD, hj]
  rw [e] at h1
  have h2 := List.all_eq_true.1 h1 _ hx
  simp only [hu, Bool.not_true, Bool.false_or] at h2
  have hil : i < all.length := (List.getElem?_eq_some_iff.1 ho).1
  have h3 := List.all_eq_true.1 h2 i (List.mem_range.2 hil)
  rw [ho] at h3
  simp only [hd, bne_self_eq_false, Bool.false_or, beq_iff_eq] at h3
  exact h3

/-- A row of one's own of posts. -/
def RowT (B n : Nat) (vals : List Value) : Fact := fun v w => ∃ g c, v = .slice (some ⟨g, 0, none⟩) n c ∧ w.ownsRow B 33 3 (.slice (some ⟨g, 0, none⟩) n c) n vals

theorem lasts_rowT (B n : Nat) (vals : List Value) : lasts (fun w w' => Below w.heap.size w w') (RowT B n vals) := by
  rintro v w w' ⟨g, c, h1, h2⟩ hb
  exact ⟨g, c, h1, h2.kept (row := none) ⟨hb.os, hb.tape, hb.output, hb.size, fun k hk _ => hb.block k hk⟩ (.inr (by simp [Value.ownBlock]))⟩

/-- A box of one's own. -/
theorem lasts_boxM (B B' : Nat) (hd : Value) : lasts (MTurn B' hd) (BoxF B) := by
  rintro v w w' ⟨b, h1, h2, h3⟩ ⟨b', h4, h5, h6⟩
  refine ⟨b, h1, h2, ?_⟩
  have hne : b ≠ b' := by
    rintro rfl
    rw [cell_of_row _ _ 1 _ _ (0, 0) h3] at h5
    simp at h5
  exact (h6.block b (Array.getElem?_eq_some_iff.1 h3).1 hne).trans h3

/-- What InOrder answers: the posts, the vector, the mark not among them. -/
def TellO (B M : Nat) (out : List Pst) (x : Option Addr) (cp : Nat) (w : World) : Prop := out = [] ∨ ∃ es, RowP w B (.slice x M cp) es ∧ es ≠ [] ∧ es.map (·.x) = out ∧ ∀ e ∈ es, e.x.xs.length = 4

def TellV (vv : List Int) (gv : Nat) (w : World) : Prop := NumsAt w gv vv ∧ vv.length = 4

theorem TellO.below {B M : Nat} {out : List Pst} {x : Option Addr} {cp : Nat} {w w' : World} (h : TellO B M out x cp w) (hb : Below w.heap.size w w') : TellO B M out x cp w' := by
  rcases h with h | ⟨es, h1, h2⟩
  · exact .inl h
  · exact .inr ⟨es, h1.below hb, h2⟩

theorem TellV.below {vv : List Int} {gv : Nat} {w w' : World} (h : TellV vv gv w) (hb : Below w.heap.size w w') : TellV vv gv w' := ⟨h.1.below hb, h.2⟩

/-- A header of numbers that lie below, or of a length that is not four. -/
def HeadB (B : Nat) (hd : Value) : Prop := ∃ a n c, hd = .slice a n c ∧ (n = 4 → ∃ b o, a = some ⟨b, o, none⟩ ∧ b < B)

theorem nums_ne {w : World} {g b : Nat} {xs : List Int} {B : Nat} {hd : Value} (h : NumsAt w g xs) (h4 : xs.length = 4) (hh : HeadB B hd) (hm : w.cell? ⟨b, 1, none⟩ = some hd) : g ≠ b := by
  rintro rfl
  obtain ⟨a, n, c, rfl, -⟩ := hh
  rw [h.2.1 1 (by omega)] at hm
  cases hm

theorem TellV.turn {vv : List Int} {gv B : Nat} {hd : Value} {w w' : World} (h : TellV vv gv w) (hh : HeadB B hd) (ht : MTurn B hd w w') : TellV vv gv w' := by
  obtain ⟨b, h1, h2, h3⟩ := ht
  exact ⟨h.1.of_block (h3.block _ h.1.1 (nums_ne h.1 h.2 hh h2)) (Nat.lt_of_lt_of_le h.1.1 h3.size), h.2⟩

theorem TellO.turn {B M : Nat} {out : List Pst} {x : Option Addr} {cp : Nat} {hd : Value} {w w' : World} (h : TellO B M out x cp w) (hh : HeadB B hd) (ht : MTurn B hd w w') : TellO B M out x cp w' := by
  rcases h with h | ⟨es, h1, h2, h3, h4⟩
  · exact .inl h
  · obtain ⟨b, t1, t2, t3⟩ := ht
    refine .inr ⟨es, ⟨?_, fun e he => ?_, h1.apart⟩, h2, h3, h4⟩
    · refine h1.own.kept (row := some b) ⟨t3.os, t3.tape, t3.output, t3.size, fun k hk hn => t3.block k hk (fun e => hn (by rw [e]))⟩ ?_
      rcases h1.own.2 with ⟨e1, e2⟩ | ⟨g, c, cur, e1, e2, e3, e4⟩
      · exact absurd (List.length_eq_zero_iff.1 e2) h2
      · refine .inr fun hg => ?_
        have hg' : g = b := by
          rw [e1] at hg
          simpa [Value.ownBlock] using hg
        subst hg'
        have hl : 0 < es.length := List.length_pos_iff.2 h2
        have hown := h1.own
        rw [e1] at hown
        have hc := hown.cellAt 1 (by omega)
        have hp := psVals_at es 0 1 hl (by omega)
        rw [show 0 * 3 + 1 = 1 by rfl] at hp
        rw [hp] at hc
        rw [hc] at t2
        have hm : es.getD 0 ezP ∈ es := by simp [List.getD, hl]
        have h40 := h4 _ hm
        have hB := (h1.nums _ hm).1
        generalize es.getD 0 ezP = e at *
        obtain ⟨a, n, c', rfl, hn4⟩ := hh
        simp [psVals] at t2
        obtain ⟨t5, t6, -⟩ := t2
        obtain ⟨b', o', ha, hlt⟩ := hn4 (by omega)
        rw [← t5] at ha
        injection ha with ha
        injection ha with ha1 ha2
        omega
    · obtain ⟨n1, n2, n3⟩ := h1.nums e he
      exact ⟨n1, n2, n3.of_block (t3.block _ n3.1 (nums_ne n3 (h4 e he) hh t2)) (Nat.lt_of_lt_of_le n3.1 t3.size)⟩

/-- The facts of the call's answer, and of its parts. -/
def AnsT (P : Prop) (B M : Nat) (out : List Pst) (vv : List Int) : Fact := fun v w => ∃ x cp gv cv, P ∧ v = .tuple #[.slice x M cp, vecV (some ⟨gv, 0, none⟩) 4 cv] ∧ TellO B M out x cp w ∧ TellV vv gv w

def OutT (P : Prop) (B M : Nat) (out : List Pst) : Fact := fun v w => ∃ x cp, P ∧ v = .slice x M cp ∧ TellO B M out x cp w

def VecT (vv : List Int) : Fact := fun v w => ∃ gv cv, v = vecV (some ⟨gv, 0, none⟩) 4 cv ∧ TellV vv gv w

theorem lasts_ansT {P : Prop} {B M : Nat} {out : List Pst} {vv : List Int} {hd : Value} {u : Tmp} {d : Option Tmp} {U : Tmp → Option Tmp} (hh : HeadB B hd) : lastsU U (RM B hd u) d (AnsT P B M out vv) :=
  lastsM_both (by rintro v w w' ⟨x, cp, gv, cv, h0, h1, h2, h3⟩ hb; exact ⟨x, cp, gv, cv, h0, h1, h2.below hb, h3.below hb⟩) (by rintro v w w' ⟨x, cp, gv, cv, h0, h1, h2, h3⟩ ht; exact ⟨x, cp, gv, cv, h0, h1, h2.turn hh ht, h3.turn hh ht⟩)

theorem lasts_outT {P : Prop} {B M : Nat} {out : List Pst} {hd : Value} {u : Tmp} {d : Option Tmp} {U : Tmp → Option Tmp} (hh : HeadB B hd) : lastsU U (RM B hd u) d (OutT P B M out) :=
  lastsM_both (by rintro v w w' ⟨x, cp, h0, h1, h2⟩ hb; exact ⟨x, cp, h0, h1, h2.below hb⟩) (by rintro v w w' ⟨x, cp, h0, h1, h2⟩ ht; exact ⟨x, cp, h0, h1, h2.turn hh ht⟩)

theorem lasts_vecT {B : Nat} {vv : List Int} {hd : Value} {u : Tmp} {d : Option Tmp} {U : Tmp → Option Tmp} (hh : HeadB B hd) : lastsU U (RM B hd u) d (VecT vv) :=
  lastsM_both (by rintro v w w' ⟨gv, cv, h1, h3⟩ hb; exact ⟨gv, cv, h1, h3.below hb⟩) (by rintro v w w' ⟨gv, cv, h1, h3⟩ ht; exact ⟨gv, cv, h1, h3.turn hh ht⟩)

theorem TellO.isPs {B M : Nat} {out : List Pst} {x : Option Addr} {cp : Nat} {w : World} (h : TellO B M out x cp w) : IsPs w x out := by
  rcases h with h | ⟨es, h1, h2, h3, h4⟩
  · exact .inl h
  · obtain ⟨a, c, e1, e2⟩ := h1.isPs fun e he => by have := h4 e he; unfold maxLen; omega
    injection e1 with e1
    rw [e1, ← h3]
    exact e2

theorem ansT_of {w w' : World} {ps : List Pst} {B N : Nat} {vv : List Int} {P : Prop} {e : Ending} (h : OrdAns w ps e w') (hB : B ≤ w.heap.size) (hu : ∀ M, GoC ps M → firstC (runC ps M).2 ps = ps.length → M = N ∧ (runC ps M).2 = vv ∧ P) : ∃ v, e = .returned v ∧ AnsT P B N (outC ps N) vv v w' ∧ Below w.heap.size w w' := by
  obtain ⟨m, v4, es, gv, cpv, h1, h2, h3, h4, h5, h6, h7, h8, h9, h10⟩ := h
  obtain ⟨e1, e2, hP⟩ := hu m h1 h2
  subst e1
  obtain ⟨a, cap, e3, -⟩ := h4.isPs fun e he => by
    have := outC_four h1 e.x (by rw [← h5]; exact List.mem_map.2 ⟨e, he, rfl⟩)
    unfold maxLen
    omega
  have hl : es.length = m := by rw [← outC_len h1, ← h5, List.length_map]
  rw [hl] at e3
  subst e3
  refine ⟨_, h3, ⟨a, cap, gv, cpv, hP, rfl, ?_, by rw [← e2]; exact ⟨h6, runC_four h1⟩⟩, h10⟩
  by_cases he : es = []
  · exact .inl (by rw [← h5, he]; rfl)
  · refine .inr ⟨es, ⟨h4.own.mono hB, fun e he' => ⟨Nat.le_trans hB (h4.nums e he').1, (h4.nums e he').2⟩, h4.apart⟩, he, h5, fun e he' => outC_four h1 e.x (by rw [← h5]; exact List.mem_map.2 ⟨e, he', rfl⟩)⟩

theorem got_append_run {P : Program} {K : Value → World → Prop} {o : Oper} {ρ : Operand → Value} {w : World} (s x : Operand) (t : TypeId) (ho : o.op = .call { callee := .builtin .append, args := #[s, x], argTypes := #[t, t] }) (vs vx v' : Value) (w' : World) (hs : ρ s = vs) (hx : ρ x = vx) (hr : (Builtin.append_ #[t, t] o.type #[vs, vx]).run P w = .ok v' w') (h : K v' w') : got P K ((execOp ρ o).run P w) := by
  unfold execOp
  simp only [ho, resolve, invoke, builtin, Sem.run_bind, Sem.run_pure, Result.andThen_ok, List.map_toArray, List.map_cons, List.map_nil, hs, hx, hr]
  exact h

/-- Posts appended to an empty row. -/
theorem run_first (w : World) (B m : Nat) (hB : B ≤ w.heap.size) (es : List EnQ) (hm : es.length = m) (h0 : 0 < m) (h1 : m ≤ 100) (t ty : TypeId) (i : TypeInfo) (z : Value) (ht : Try.prog.underlying t = some (.slice 33)) (hi : Try.prog.info? 33 = some i) (hz : i.zero = some z) (hsize : i.size = 3) (hby : i.bytes = 40) (hzs : z.cells.size = 3)
    (X : Nat) (A : Addr) (c : Nat) (hn : ∀ j u, (es.flatMap pqVals)[j]? = some u → w.cell? (A.add j) = some u) :
    ∃ v' w', (Builtin.append_ #[t, t] ty #[.slice (some ⟨X, 0, none⟩) 0 0, .slice (some A) m c]).run Try.prog w = .ok v' w' ∧ RowT B m (es.flatMap pqVals) v' w' ∧ Below w.heap.size w w' := by
  have hlen : (es.flatMap pqVals).length = m * 3 := by rw [pqVals_len, hm]
  have hone : ∀ u ∈ es.flatMap pqVals, u.oneCell' = true := fun u hu => by
    obtain ⟨e, _, he⟩ := List.mem_flatMap.1 hu
    exact pqVals_one e u he
  have hs : Src Try.prog i.size t (.slice (some A) m c) m (es.flatMap pqVals) w := by
    rw [hsize]
    exact Src.ofSlice w ht A m c _ hlen hn hone
  have hold : (Builtin.firstCells i.size 0 (.slice (some ⟨X, 0, none⟩) 0 0)).run Try.prog w.drew = .ok ([] : List Value).toArray w.drew :=
    run_firstCells_some w.drew i.size 0 ⟨X, 0, none⟩ 0 0 [] (by simp) (by intro _ _ h'; simp at h')
  have hrun := run_append_grow_src (P := Try.prog) w t t ty 33 i z ht hi hz (some ⟨X, 0, none⟩) 0 0 [] hold _ m (es.flatMap pqVals) hs (by omega) (by omega) (growslice_fits (by omega) (by rw [hby]; omega))
  simp only [Nat.zero_add, List.nil_append] at hrun
  have hge := grownCap_ge w m 0 33
  have hcm := grownCap_le_maxLen w m 0 33 (by unfold maxLen; omega)
  refine ⟨_, _, hrun, ⟨w.heap.size, _, rfl, hlen, .inr ⟨w.heap.size, _, _, rfl, hB, heap_alloc_new w.drew _, hge, hcm, ?_, ?_⟩⟩, (Below.refl _ _).drew.alloc (Nat.le_refl _) _⟩
  · rw [Array.size_append, List.size_toArray, hlen, size_zeroCells, hzs, ← Nat.add_mul]
    congr 1
    omega
  · rw [Array.toList_append, List.take_append_of_le_length (by simp [hlen])]
    exact List.take_of_length_le (by simp [hlen])

/-- Posts appended to a row of one's own; perhaps none. -/
theorem run_second (w : World) (B m k : Nat) (hB : B ≤ w.heap.size) (vals : List Value) (es : List EnQ) (hk : es.length = k) (h1 : m + k ≤ 100) (t ty : TypeId) (i : TypeInfo) (z : Value) (ht : Try.prog.underlying t = some (.slice 33)) (hi : Try.prog.info? 33 = some i) (hz : i.zero = some z) (hsize : i.size = 3) (hby : i.bytes = 40) (hzs : z.cells.size = 3)
    (g cg : Nat) (hd : Value) (hown : w.ownsRow B 33 3 (.slice (some ⟨g, 0, none⟩) m cg) m vals) (hmk : vals[1]? = some hd) (h0 : 0 < m) (A : Addr) (c : Nat) (hn : ∀ j u, (es.flatMap pqVals)[j]? = some u → w.cell? (A.add j) = some u) :
    ∃ v' w', (Builtin.append_ #[t, t] ty #[.slice (some ⟨g, 0, none⟩) m cg, .slice (some A) k c]).run Try.prog w = .ok v' w' ∧ RowT B (m + k) (vals ++ es.flatMap pqVals) v' w' ∧ MTurn B hd w w' := by
  have hlen : (es.flatMap pqVals).length = k * 3 := by rw [pqVals_len, hk]
  have hone : ∀ u ∈ es.flatMap pqVals, u.oneCell' = true := fun u hu => by
    obtain ⟨e, _, he⟩ := List.mem_flatMap.1 hu
    exact pqVals_one e u he
  have hgB := (World.ownsRow.lt hown g rfl)
  have hmark : w.cell? ⟨g, 1, none⟩ = some hd := by rw [hown.cellAt 1 (by omega)]; exact hmk
  by_cases hk0 : k = 0
  · subst hk0
    obtain rfl := List.length_eq_zero_iff.1 hk
    have hle : m ≤ cg := by
      rcases hown.2 with ⟨e1, -⟩ | ⟨g', c', cur, e1, -, -, e4, -⟩
      · cases e1
      · injection e1 with _ _ e1
        rw [e1]
        exact e4
    have hs : Src Try.prog i.size t (.slice (some A) 0 c) 0 [] w := Src.ofSlice w ht A 0 c _ (by simp) (by intro _ _ h'; simp at h') (by simp)
    refine ⟨_, _, run_append_nothing w t t ty 33 i ht hi (some ⟨g, 0, none⟩) m cg hle _ hs, ⟨g, cg, rfl, by simpa using hown⟩, g, hgB.1, hmark, Hole.refl _ _⟩
  · obtain ⟨g2, cap2, w', hr, h2, h3, h4, h5⟩ := run_append_lies (P := Try.prog) w t ty B 33 i z 3 40 ht hi hz hsize hby hzs (by omega) _ m vals hown A k c (es.flatMap pqVals) hlen hn hone (by omega) (by unfold maxLen; omega) (by omega) hB _ rfl
    refine ⟨_, _, hr, ⟨g2, cap2, rfl, h2⟩, g, hgB.1, hmark, ⟨h3.os, h3.tape, h3.output, h3.size, fun j hj hn => h3.block j hj (by simp [Value.ownBlock]; omega)⟩⟩

theorem pq_drop : ∀ (es : List EnQ) (n : Nat), (es.drop n).flatMap pqVals = (es.flatMap pqVals).drop (n * 3)
  | [], n => by simp
  | e :: r, 0 => by simp
  | e :: r, n + 1 => by
    rw [List.drop_succ_cons, pq_drop r n, List.flatMap_cons, List.drop_append]
    have l3 : (pqVals e).length = 3 := rfl
    rw [show (pqVals e).drop ((n + 1) * 3) = [] from List.drop_of_length_le (by rw [l3]; omega), List.nil_append, l3, show (n + 1) * 3 - 3 = n * 3 by omega]

theorem pq_take : ∀ (es : List EnQ) (n : Nat), (es.take n).flatMap pqVals = (es.flatMap pqVals).take (n * 3)
  | [], n => by simp
  | e :: r, 0 => by simp
  | e :: r, n + 1 => by
    have l3 : (pqVals e).length = 3 := rfl
    rw [List.take_succ_cons, List.flatMap_cons, pq_take r n, List.flatMap_cons, List.take_append, l3, show (pqVals e).take ((n + 1) * 3) = pqVals e from List.take_of_length_le (by rw [l3]; omega), show (n + 1) * 3 - 3 = n * 3 by omega]

/-- What the region knows of the list that is turned. -/
structure TurnF (V : World) (bp op L n : Nat) (ps : List Pst) (es : List EnQ) : Prop where
  lt : bp < V.heap.size
  posts : es.map toPst = ps
  len : es.length = L
  cells : ∀ j, j < L * 3 → V.cell? ⟨bp, op + j, none⟩ = (es.flatMap pqVals)[j]?
  ints : ∀ e ∈ es, IsIs V e.a e.xs
  small : ∀ e ∈ es, e.xs.length ≤ 5
  at_ : n < L

theorem turnF_of {V : World} {bp op L n : Nat} {ps : List Pst} (h : IsPs V (some ⟨bp, op, none⟩) ps) (hl : ps.length = L) (hx : ∀ i, i < ps.length → (ps.getD i pz).xs.length ≤ 5) (hn : n < L) : ∃ es, TurnF V bp op L n ps es := by
  obtain ⟨h1, es, h2, h3, h4⟩ := isPs_entries h (by omega)
  refine ⟨es, h1, h2, by rw [← hl, ← h2, List.length_map], fun j hj => h3 j (by rw [hl]; exact hj), h4, fun e he => ?_, hn⟩
  have hm : toPst e ∈ ps := by rw [← h2]; exact List.mem_map.2 ⟨e, he, rfl⟩
  obtain ⟨i, hi, hie⟩ := List.getElem_of_mem hm
  have := hx i hi
  rw [show ps.getD i pz = toPst e by simp [List.getD, hi, hie]] at this
  exact this

variable {V w : World} {bp op L n : Nat} {ps : List Pst} {es : List EnQ}

theorem TurnF.tail (h : TurnF V bp op L n ps es) (hb : Below V.heap.size V w) : ∀ j u, ((es.drop n).flatMap pqVals)[j]? = some u → w.cell? ((⟨bp, op + n * 3, none⟩ : Addr).add j) = some u := by
  intro j u hu
  rw [pq_drop, List.getElem?_drop] at hu
  have hl := (List.getElem?_eq_some_iff.1 hu).1
  rw [pqVals_len, h.len] at hl
  rw [add_at, Nat.add_assoc]
  exact ((hb.cell (p := ⟨bp, op + (n * 3 + j), none⟩) h.lt).trans (h.cells _ hl)).trans hu

theorem TurnF.head (h : TurnF V bp op L n ps es) (hb : Below V.heap.size V w) : ∀ j u, ((es.take n).flatMap pqVals)[j]? = some u → w.cell? ((⟨bp, op, none⟩ : Addr).add j) = some u := by
  intro j u hu
  rw [pq_take] at hu
  have hl := (List.getElem?_eq_some_iff.1 hu).1
  rw [List.length_take, pqVals_len, h.len] at hl
  rw [List.getElem?_take_of_lt (by omega)] at hu
  rw [add_at]
  exact ((hb.cell (p := ⟨bp, op + j, none⟩) h.lt).trans (h.cells _ (by omega))).trans hu

/-- The mark: where the numbers of the first of the turned posts lie. -/
def markT (es : List EnQ) (n : Nat) : Value := .slice (es.getD n ezQ).a (es.getD n ezQ).xs.length (es.getD n ezQ).cp

theorem TurnF.mark (h : TurnF V bp op L n ps es) : ((es.drop n).flatMap pqVals)[1]? = some (markT es n) := by
  have hl := h.len
  have hn := h.at_
  have := pqVals_at (es.drop n) 0 1 (by rw [List.length_drop]; omega) (by omega)
  rw [show 0 * 3 + 1 = 1 by rfl] at this
  rw [this]
  have e : (es.drop n).getD 0 ezQ = es.getD n ezQ := by simp [List.getD]
  rw [e]
  rfl

theorem TurnF.headB (h : TurnF V bp op L n ps es) : HeadB V.heap.size (markT es n) := by
  have hl := h.len
  have hn := h.at_
  have hm : es.getD n ezQ ∈ es := by simp [List.getD, show n < es.length by omega]
  refine ⟨_, _, _, rfl, fun h4 => ?_⟩
  rcases h.ints _ hm with h0 | ⟨b, o, h1, h2, -⟩
  · rw [h0] at h4
    simp at h4
  · exact ⟨b, o, h1, h2⟩

theorem TurnF.isPs (h : TurnF V bp op L n ps es) (hb : Below V.heap.size V w) {g c : Nat} (ho : w.ownsRow V.heap.size 33 3 (.slice (some ⟨g, 0, none⟩) L c) L ((es.drop n).flatMap pqVals ++ (es.take n).flatMap pqVals)) : IsPs w (some ⟨g, 0, none⟩) (ps.drop n ++ ps.take n) := by
  have hl := h.len
  have hn := h.at_
  have e : (es.drop n ++ es.take n).map toPst = ps.drop n ++ ps.take n := by rw [List.map_append, List.map_drop, List.map_take, h.posts]
  have hl2 : (es.drop n ++ es.take n).length = L := by simp; omega
  rw [← e]
  have hm : ∀ d ∈ es.drop n ++ es.take n, d ∈ es := fun d hd => by
    rcases List.mem_append.1 hd with hd | hd
    · exact List.mem_of_mem_drop hd
    · exact List.mem_of_mem_take hd
  refine isPs_of (World.ownsRow.lt ho g rfl).2 (fun j hj => ?_) fun d hd => ⟨h.small d (hm d hd), (h.ints d (hm d hd)).below hb⟩
  rw [Nat.zero_add, ho.cellAt j (by rw [hl2] at hj; exact hj), List.flatMap_append]

theorem TurnF.len2 (h : TurnF V bp op L n ps es) : (ps.drop n ++ ps.take n).length = L := by
  have hl := h.len
  have hn := h.at_
  have : ps.length = L := by rw [← h.posts, List.length_map, hl]
  simp
  omega

end Go.Proofs.Ytpejdhbajejmoaa
