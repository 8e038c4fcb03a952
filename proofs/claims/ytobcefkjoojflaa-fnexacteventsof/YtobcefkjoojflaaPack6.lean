import Derived.Test.YtobcefkjoojflaaPack3
namespace Go.Proofs.Ytobcefkjoojflaa

def sealL (ops : Array Oper) (m lo : Nat) : Bool :=
  (List.range ops.size).all fun i => decide (i < m) || (match ops[i]? with
    | some o => (List.range i).all fun j => decide (j = lo) || (cover ops (List.range i).reverse ((o.after.toList.filter fun e => Region.binds .any e).map (·.on))).contains j
    | none => false)

theorem sealedL {ops : Array Oper} {m lo : Nat} (h : sealL ops m lo = true) {listed : Array Bool} (hdown : ∀ (i : Nat) (o : Oper), ops[i]? = some o → listed.getD i false = true → ∀ e ∈ o.after, Region.binds .any e = true → listed.getD e.on false = true)
    {i : Nat} {o : Oper} (ho : ops[i]? = some o) (hi : m ≤ i) (hall : ∀ e ∈ o.after, Region.binds .any e = true → listed.getD e.on false = true) {j : Nat} (hj : j < i) (hne : j ≠ lo) : listed.getD j false = true := by
  have hlt := (Array.getElem?_eq_some_iff.1 ho).1
  have h1 := List.all_eq_true.1 h i (List.mem_range.2 hlt)
  simp only [ho, Bool.or_eq_true, decide_eq_true_eq] at h1
  rcases h1 with h1 | h1
  · omega
  · have h2 := List.all_eq_true.1 h1 j (List.mem_range.2 hj)
    simp only [Bool.or_eq_true, decide_eq_true_eq] at h2
    rcases h2 with h2 | h2
    · exact absurd h2 hne
    · refine cover_listed hdown _ _ (fun x hx => ?_) j (by simpa using h2)
      simp only [List.mem_map, List.mem_filter, Array.mem_toList_iff] at hx
      obtain ⟨e, ⟨he, hb⟩, rfl⟩ := hx
      exact hall e he hb

def tidyL (ops : Array Oper) (m lo : Nat) (N : List (List (Tmp × Bool))) : Bool :=
  distB (ops.toList.take m) [] && ((ops.toList.take m).all fun o => o.guard.isNone) && (N.length == m) && decide (m < ops.size) && decide (lo < m) && sealL ops m lo && sealB ops (m + 1) &&
  ((List.range ops.size).all fun j => match ops[j]? with
    | some o => (o.after.all fun e => !Region.binds .any e || decide (e.on < j)) && (match N[j]? with | some n => tabRowB ops j o n | none => true)
    | _ => false)

theorem op_of_list {P : Program} {ops : Array Oper} {Q : Exit → Act → World → Prop} {j : Nat} {o : Oper} (ho : ops[j]? = some o) {rest : List Oper} {K : Act → World → Prop} {a : Act} {w : World} (h : wpList P ops Q (o :: rest) a w) (key : ∀ a' w', wpList P ops Q rest a' w' → K a' w') : wpOp P ops Q j K a w := by
  unfold wpOp
  rw [ho]
  unfold wpList at h
  split at h
  · rename_i hw
    simp only [hw, if_true]
    exact h.imp (Oper.wp_mono key) id
  · rename_i hw
    simp only [hw]
    exact key _ _ h

theorem inv_stepV {E : Option Tmp → World → Prop} {U : Tmp → Option Tmp} {ops : Array Oper} {a0 : Act} {S S' : World → Prop} {R : ReachU} {Tf : Facts} {j : Nat} {o : Oper} (hS : ∀ w w', S w → R o.dst w w' → S' w') (hE : ∀ (i : Nat) (oi : Oper), ops[i]? = some oi → i ≠ j → (∀ e ∈ o.after, Region.binds .any e = true → e.on ≠ i) → ∀ w w', E oi.dst w → R o.dst w w' → E oi.dst w') (hl : ∀ d p, Tf.lookup d = some p → lastsU U R (some d) p)
    (hbd : ∀ (i : Nat) (o : Oper) (d : Tmp), ops[i]? = some o → o.dst = some d → d < a0.tmps.size) {listed : Array Bool} {a : Act} {w w' : World} (hI : InvU E U ops a0 S Tf listed a w) (hj : ops[j]? = some o)
    (hall : ∀ e ∈ o.after, Region.binds .any e = true → listed.getD e.on false = true) {T : Fact} (hT : ∀ d, o.dst = some d → Tf.lookup d = some T) {v : Value} (hR : R o.dst w w') (hv : T v w') :
    InvU E U ops a0 S' Tf (listed.setIfInBounds j true) (a.put o.dst v) w' := by
  have hI0 : InvU (fun _ _ => True) U ops a0 S Tf listed a w := ⟨hI.size, hI.ok, fun _ _ _ _ => trivial, hI.defers, hI.len, hI.down, hI.fresh, hI.old⟩
  have h := inv_stepU (E := fun _ _ => True) hS (fun _ _ _ _ _ _ _ _ => trivial) hl hbd hI0 hj hall hT hR hv
  refine ⟨h.size, h.ok, fun i oi hoi hli => ?_, h.defers, h.len, h.down, h.fresh, h.old⟩
  by_cases e : j = i
  · subst e
    have hlt : j < listed.size := by rw [hI.size]; exact (Array.getElem?_eq_some_iff.1 hj).1
    simp [hlt] at hli
  · rw [getD_set_ne false e] at hli
    refine hE i oi hoi (Ne.symm e) (fun ed he hb heq => ?_) _ _ (hI.ex i oi hoi hli) hR
    have := hall ed he hb
    rw [heq, hli] at this
    cases this

def waitB (all : List Oper) (wt : Tmp × Tmp) : Bool :=
  (List.range all.length).all fun j => match all[j]? with
    | some o => (o.dst != some wt.1) || (List.range all.length).all (fun i => match all[i]? with
      | some oi => (oi.dst != some wt.2) || o.after.any (fun e => Region.binds .any e && e.on == i)
      | none => true)
    | none => true

theorem waits_for {all : List Oper} {wt : Tmp × Tmp} (h : waitB all wt = true) {j i : Nat} {o oi : Oper} (hj : all[j]? = some o) (hi : all[i]? = some oi) (h1 : o.dst = some wt.1) (h2 : oi.dst = some wt.2) : ∃ e ∈ o.after, Region.binds .any e = true ∧ e.on = i := by
  have hjl := (List.getElem?_eq_some_iff.1 hj).1
  have hil := (List.getElem?_eq_some_iff.1 hi).1
  have h3 := List.all_eq_true.1 h j (List.mem_range.2 hjl)
  simp only [hj, h1, bne_self_eq_false, Bool.false_or] at h3
  have h4 := List.all_eq_true.1 h3 i (List.mem_range.2 hil)
  simp only [hi, h2, bne_self_eq_false, Bool.false_or] at h4
  obtain ⟨e, he, hb⟩ := Array.any_eq_true'.1 h4
  simp only [Bool.and_eq_true, beq_iff_eq] at hb
  exact ⟨e, he, hb.1, hb.2⟩

theorem any_slotsV {P : Program} {E : Option Tmp → World → Prop} {U : Tmp → Option Tmp} {ops : Array Oper} {a0 : Act} {S SF : World → Prop} {SS : Nat → World → Prop} {R : ReachU} {Tf : Facts} {Q : Exit → Act → World → Prop} {m lo : Nat} (hmlt : m < ops.size) (hlo : lo < m) (hseal : sealL ops m lo = true) (hseal2 : sealB ops (m + 1) = true) (hstep : ∀ d f w w', SS (f + 1) w → R d w w' → SS f w') (hSS : ∀ f w, f < ops.size → SS (f + 1) w → S w) (hF : ∀ f w, f ≤ ops.size → SS f w → SF w) (hE : ∀ (j : Nat) (o : Oper), ops[j]? = some o → ∀ (i : Nat) (oi : Oper), ops[i]? = some oi → i ≠ j → (∀ e ∈ o.after, Region.binds .any e = true → e.on ≠ i) → ∀ w w', E oi.dst w → R o.dst w w' → E oi.dst w') (hl : ∀ d p, Tf.lookup d = some p → lastsU U R (some d) p)
    (hbd : ∀ (i : Nat) (o : Oper) (d : Tmp), ops[i]? = some o → o.dst = some d → d < a0.tmps.size) (hg : ∀ (i : Nat) (o : Oper), i < m → ops[i]? = some o → o.guard = none) (hlt : ∀ (i : Nat) (o : Oper), ops[i]? = some o → ∀ e ∈ o.after, Region.binds .any e = true → e.on < i)
    (hobl : ∀ (j : Nat) (o : Oper), j < m → ops[j]? = some o → ∃ n T, tabRowB ops j o n = true ∧ (∀ x, (x, true) ∈ n → ∀ u, U x = some u → ∀ (i : Nat) (o' : Oper), ops[i]? = some o' → o'.dst = some u → i = j) ∧ oblU P a0 S E R n o Tf T ∧ ∀ d, o.dst = some d → Tf.lookup d = some T)
    (hfin : ∀ a w, SF w → a.defers = a0.defers → a.tmps.size = a0.tmps.size → (∀ (i : Nat) (o : Oper) (d : Tmp) p, i < m → ops[i]? = some o → o.dst = some d → Tf.lookup d = some p → U d = none → p (a.eval (.tmp d)) w) → (∀ x, (∀ (i : Nat) (o : Oper), i < m → ops[i]? = some o → o.dst ≠ some x) → a.eval (.tmp x) = a0.eval (.tmp x)) → wpList P ops Q (ops.toList.drop m) a w)
    (hfin2 : ∀ a w, SF w → a.defers = a0.defers → a.tmps.size = a0.tmps.size → (∀ (i : Nat) (o : Oper) (d : Tmp) p, i < m → i ≠ lo → ops[i]? = some o → o.dst = some d → Tf.lookup d = some p → U d = none → p (a.eval (.tmp d)) w) → (∀ x, (∀ (i : Nat) (o : Oper), i < m → i ≠ lo → ops[i]? = some o → o.dst ≠ some x) → a.eval (.tmp x) = a0.eval (.tmp x)) → wpList P ops Q (ops[m] :: (ops[lo]'(by omega)) :: ops.toList.drop (m + 1)) a w) :
    ∀ (fuel : Nat) (listed : Array Bool) (a : Act) (w : World), listed.toList.count false = fuel → (∀ j, m ≤ j → j < ops.size → listed.getD j true = false) → InvU E U ops a0 (SS fuel) Tf listed a w → wpAny P .any ops Q fuel listed a w := by
  have hmo : ops[m]? = some ops[m] := by simp [hmlt]
  have hlol : lo < ops.size := by omega
  have hloo : ops[lo]? = some ops[lo] := by simp [hlol]
  have hdr : ops.toList.drop m = ops[m] :: ops.toList.drop (m + 1) := by
    rw [List.drop_eq_getElem_cons (by simpa using hmlt)]
    simp
  intro fuel
  induction fuel with
  | zero =>
    intro listed a w hc hm2 hI
    exfalso
    have hi' : m < listed.size := by rw [hI.size]; exact hmlt
    have h1 := hm2 m (Nat.le_refl _) hmlt
    have h2 : listed[m] = false := by simpa [hi'] using h1
    exact List.count_eq_zero.1 hc (by rw [← h2]; simp)
  | succ fuel ih =>
    intro listed a w hc hm2 hI
    have hcl : fuel + 1 ≤ ops.size := by have := List.count_le_length (a := false) (l := listed.toList); rw [hc, Array.length_toList, hI.size] at this; exact this
    have hml : listed.getD m false = false := listed_ne hI.size hmlt (hm2 m (Nat.le_refl _) hmlt)
    have hsz := hI.size
    have hcnt : ∀ j, j < listed.size → listed.getD j true = false → (listed.setIfInBounds j true).toList.count false = fuel := fun j h1 h2 => by
      have := count_set h1 h2
      omega
    -- an operation among the first comes
    have hgo : ∀ (j : Nat) (o : Oper), j < m → ops[j]? = some o → listed.getD j true = false → (∀ e ∈ o.after, Region.binds .any e = true → listed.getD e.on false = true) → wpOp P ops Q j (wpAny P .any ops Q fuel (listed.setIfInBounds j true)) a w := by
      intro j o hjm ho h0 hall
      have hjlt := (Array.getElem?_eq_some_iff.1 ho).1
      obtain ⟨n, T, htab, huse, hob, hT⟩ := hobl j o hjm ho
      have hun := listed_ne hI.size hjlt h0
      have hgot := hob a.eval w (plain_eval a) (hSS fuel w (by omega) hI.ok) (hI.ex j o ho hun) (needs_iff.2 (needs_ofU hI ho hun hall n htab (fun x hx u hu i' o' ho' hd' => by rw [huse x hx u hu i' o' ho' hd']; exact hun)))
      unfold wpOp
      simp only [ho]
      rw [if_pos (by simp [Region.wanted, hg j o hjm ho])]
      refine .inl (upon_of_got (got_mono (fun v w' ⟨hR, hv⟩ => ?_) hgot))
      have hI' := inv_stepV (hstep o.dst fuel) (hE j o ho) hl hbd hI ho hall hT hR hv
      exact ih _ _ _ (hcnt j (by rw [hsz]; exact hjlt) h0) (fun i hi hi2 => by rw [getD_set_ne true (by omega)]; exact hm2 i hi hi2) hI'
    have hfacts : (∀ j, j < m → j ≠ lo → listed.getD j false = true) → (∀ (i : Nat) (o : Oper) (d : Tmp) p, i < m → i ≠ lo → ops[i]? = some o → o.dst = some d → Tf.lookup d = some p → U d = none → p (a.eval (.tmp d)) w) := fun hdone i o d p hi hne ho hd hp hu => hI.fresh i o d p ho (hdone i hi hne) hd hp (fun u h => by rw [hu] at h; cases h)
    have hlt2 : ∀ (i : Nat) (o : Oper), ops[i]? = some o → listed.getD i false = true → i < m := fun i o ho hli => by
      rcases Nat.lt_or_ge i m with h' | h'
      · exact h'
      · have hil := (Array.getElem?_eq_some_iff.1 ho).1
        rw [listed_ne hI.size hil (hm2 i h' hil)] at hli
        cases hli
    by_cases hdone : ∀ j, j < m → j ≠ lo → listed.getD j false = true
    · by_cases hll : listed.getD lo false = true
      · -- all the first have come
        have hall1 : ∀ j, j < m → listed.getD j false = true := fun j hj => by
          by_cases e : j = lo
          · rw [e]; exact hll
          · exact hdone j hj e
        have hcount := count_drop hI.size (by omega) hall1 hm2
        have hlist := hfin a w (hF _ w hcl hI.ok) hI.defers hI.len (fun i o d p hi ho hd hp hu => hI.fresh i o d p ho (hall1 i hi) hd hp (fun u h => by rw [hu] at h; cases h)) (fun x hx => hI.old x fun i o ho hli => hx i o (hlt2 i o ho hli) ho)
        rw [hdr] at hlist
        refine ⟨fun hr => ?_, fun j hj => ?_⟩
        · exfalso
          have hmem : m ∈ Region.ready .any ops listed := mem_ready.2 ⟨hm2 m (Nat.le_refl _) hmlt, _, hmo, fun e he hb => hall1 _ (hlt m _ hmo e he hb)⟩
          rw [hr] at hmem
          cases hmem
        · obtain ⟨h0, o, ho, hall⟩ := mem_ready.1 hj
          have hjlt := (Array.getElem?_eq_some_iff.1 ho).1
          have hjm : j = m := by
            rcases Nat.lt_trichotomy j m with h' | h' | h'
            · have h3 := hall1 j h'
              rw [listed_ne hsz hjlt h0] at h3
              cases h3
            · exact h'
            · have h3 := sealed hseal2 hI.down ho h' hall h'
              rw [hml] at h3
              cases h3
          subst hjm
          refine op_of_list hmo hlist fun a' w' h' => ?_
          refine any_tail hseal2 hlt fuel (j + 1) _ a' w' (Nat.le_refl _) (by omega) (by simpa using hsz) (fun i hi => ?_) (fun i hi hi2 => by rw [getD_set_ne true (by omega)]; exact hm2 i (by omega) hi2) h'
          by_cases hij : j = i
          · subst hij
            simp [hsz, hjlt]
          · rw [getD_set_ne false hij]
            exact hall1 i (by omega)
      · -- all but the loose one
        have hll' : listed.getD lo false = false := by simpa using hll
        have hllt : listed.getD lo true = false := by
          have : lo < listed.size := by rw [hsz]; exact hlol
          simp [this] at hll' ⊢
          exact hll'
        have hcount : ops.size = m + fuel := by
          have h1 := hcnt lo (by rw [hsz]; exact hlol) hllt
          have h2 := count_drop (listed := listed.setIfInBounds lo true) (p := m) (n := ops.size) (by simpa using hsz) (by omega) (fun j hj => by
            by_cases e : lo = j
            · subst e
              simp [hsz, hlol]
            · rw [getD_set_ne false e]
              exact hdone j hj (Ne.symm e)) (fun j h1 h2 => by rw [getD_set_ne true (by omega)]; exact hm2 j h1 h2)
          omega
        have hlist := hfin2 a w (hF _ w hcl hI.ok) hI.defers hI.len (hfacts hdone) (fun x hx => hI.old x fun i o ho hli => hx i o (hlt2 i o ho hli) (fun e => by rw [e, hll'] at hli; cases hli) ho)
        refine ⟨fun hr => ?_, fun j hj => ?_⟩
        · exfalso
          have hmem : lo ∈ Region.ready .any ops listed := mem_ready.2 ⟨hllt, _, hloo, fun e he hb => hdone _ (by have := hlt lo _ hloo e he hb; omega) (by have := hlt lo _ hloo e he hb; omega)⟩
          rw [hr] at hmem
          cases hmem
        · obtain ⟨h0, o, ho, hall⟩ := mem_ready.1 hj
          have hjlt := (Array.getElem?_eq_some_iff.1 ho).1
          rcases Nat.lt_trichotomy j m with h' | h' | h'
          · exact hgo j o h' ho h0 hall
          · subst h'
            refine op_of_list hmo hlist fun a' w' h' => ?_
            -- the loose one comes next
            match fuel, hcount, hcnt, hcl with
            | 0, hcount, _, _ => exfalso; omega
            | fuel + 1, hcount, hcnt, hcl =>
              have hs2 : (listed.setIfInBounds j true).size = ops.size := by simpa using hsz
              have hnl : (listed.setIfInBounds j true).getD lo true = false := by rw [getD_set_ne true (by omega)]; exact hllt
              refine ⟨fun hr => ?_, fun i hi => ?_⟩
              · exfalso
                have hmem : lo ∈ Region.ready .any ops (listed.setIfInBounds j true) := mem_ready.2 ⟨hnl, _, hloo, fun e he hb => getD_set_true (hdone _ (by have := hlt lo _ hloo e he hb; omega) (by have := hlt lo _ hloo e he hb; omega))⟩
                rw [hr] at hmem
                cases hmem
              · obtain ⟨g0, oi, hoi, gall⟩ := mem_ready.1 hi
                have hilt := (Array.getElem?_eq_some_iff.1 hoi).1
                have hilo : i = lo := by
                  by_cases e : i = lo
                  · exact e
                  · exfalso
                    rcases Nat.lt_trichotomy i j with h4 | h4 | h4
                    · have h3 := hdone i h4 e
                      rw [getD_set_ne true (by omega)] at g0
                      rw [listed_ne hsz hilt g0] at h3
                      cases h3
                    · subst h4
                      simp [hsz, hilt] at g0
                    · have hd2 : ∀ (i' : Nat) (o' : Oper), ops[i']? = some o' → (listed.setIfInBounds j true).getD i' false = true → ∀ e ∈ o'.after, Region.binds .any e = true → (listed.setIfInBounds j true).getD e.on false = true := by
                        intro i' o' ho' hl' e' he' hb'
                        by_cases hij : j = i'
                        · subst hij
                          obtain rfl := Option.some.inj (ho.symm.trans ho')
                          exact getD_set_true (hall e' he' hb')
                        · rw [getD_set_ne false hij] at hl'
                          exact getD_set_true (hI.down i' o' ho' hl' e' he' hb')
                      have h3 := sealed hseal2 hd2 hoi (by omega) gall (j := lo) (by omega)
                      rw [listed_ne hs2 hlol hnl] at h3
                      cases h3
                subst hilo
                refine op_of_list hloo h' fun a2 w2 h2 => ?_
                refine any_tail hseal2 hlt fuel (j + 1) _ a2 w2 (Nat.le_refl _) (by omega) (by simpa using hsz) (fun i' hi' => ?_) (fun i' h1 h2 => by rw [getD_set_ne true (by omega), getD_set_ne true (by omega)]; exact hm2 i' (by omega) h2) h2
                by_cases e1 : i = i'
                · subst e1
                  simp [hsz, hlol]
                · rw [getD_set_ne false e1]
                  by_cases e2 : j = i'
                  · subst e2
                    simp [hsz, hjlt]
                  · rw [getD_set_ne false e2]
                    exact hdone i' (by omega) (Ne.symm e1)
          · exfalso
            have h3 := sealed hseal2 hI.down ho h' hall h'
            rw [hml] at h3
            cases h3
    · refine ⟨fun hr => absurd ?_ hdone, fun j hj => ?_⟩
      · have hall : ∀ k, k ≤ m → ∀ i, i < k → listed.getD i false = true := by
          intro k
          induction k with
          | zero => intro _ i hi; omega
          | succ k ihk =>
            intro hk i hi
            by_cases hik : i < k
            · exact ihk (by omega) i hik
            · have : i = k := by omega
              subst this
              have hi' : i < ops.size := by omega
              cases hb : listed.getD i true with
              | true =>
                have hi2 : i < listed.size := by rw [hI.size]; exact hi'
                simpa [hi2] using hb
              | false =>
                have hmem : i ∈ Region.ready .any ops listed := mem_ready.2 ⟨hb, ops[i], by simp [hi'], fun e he hbi => ihk (by omega) e.on (hlt i _ (by simp [hi']) e he hbi)⟩
                rw [hr] at hmem
                cases hmem
        exact fun j hj _ => hall m (Nat.le_refl _) j hj
      · obtain ⟨h0, o, ho, hall⟩ := mem_ready.1 hj
        have hjm : j < m := by
          rcases Nat.lt_or_ge j m with h' | h'
          · exact h'
          · exact absurd (fun i hi hne => sealedL hseal hI.down ho h' hall (Nat.lt_of_lt_of_le hi h') hne) hdone
        exact hgo j o hjm ho h0 hall

theorem wp_region_slots_v {P : Program} {id : Nat} {Q : Exit → Act → World → Prop} {a0 : Act} {w0 : World} {all : List Oper} (m lo : Nat) (wt : Tmp × Tmp) (N : List (List (Tmp × Bool))) (S SF : World → Prop) (SS : Nat → World → Prop) (E : Option Tmp → World → Prop) (U : Tmp → Option Tmp) (R : ReachU)
    (hm : P.follows .mixedOrders = true) (hB : tidyL all.toArray m lo N = true) (hz : (all.all fun o => match o.dst with | some d => decide (d < a0.tmps.size) | none => true) = true)
    (h0 : SS all.length w0.drew) (hD : distB all [] = true) (hE0 : ∀ d, E d w0.drew) (hEn : ∀ w, E none w) (hW : waitB all wt = true) (hE : ∀ d d', d ≠ d' → ¬ (d = some wt.1 ∧ d' = some wt.2) → ∀ w w', E d' w → R d w w' → E d' w') (hU : ∀ (j : Nat) (n : List (Tmp × Bool)), N[j]? = some n → ∀ x, (x, true) ∈ n → ∀ u, U x = some u → ∀ (i : Nat) (o' : Oper), all[i]? = some o' → o'.dst = some u → i = j) (hstep : ∀ d f w w', SS (f + 1) w → R d w w' → SS f w') (hSS : ∀ f w, f < all.length → SS (f + 1) w → S w) (hF : ∀ f w, f ≤ all.length → SS f w → SF w)
    (h : wpSlotsU P a0 S E U R (fun Ts => ∀ vs w, SF w → (factsAtU U vs w Ts → wpList P all.toArray Q (all.drop m) (putAll vs (all.take m) a0) w) ∧ (factsAtU (fun d => if (all[lo]?.bind (·.dst)) = some d then some 0 else U d) vs w Ts → wpList P all.toArray Q ((all[m]?.toList ++ all[lo]?.toList) ++ all.drop (m + 1)) (putAll vs ((all.take m).eraseIdx lo) a0) w)) N (all.take m) []) : (Code.region id all.toArray true).wp P Q a0 w0 := by
  simp only [tidyL, Bool.and_eq_true, beq_iff_eq, decide_eq_true_eq] at hB
  obtain ⟨⟨⟨⟨⟨⟨⟨hdist, hguard⟩, hlen⟩, hmlt⟩, hlo⟩, hseal⟩, hseal2⟩, htab⟩ := hB
  have hops : ∀ (i : Nat) (o : Oper), all.toArray[i]? = some o → all[i]? = some o := fun i o h => by simpa using h
  have hmemo : ∀ (i : Nat) (o : Oper), all.toArray[i]? = some o → o ∈ all := fun i o h => List.mem_of_getElem? (hops i o h)
  have htk : ∀ (i : Nat) (o : Oper), i < m → all.toArray[i]? = some o → (all.take m)[i]? = some o := fun i o hi h => by rw [List.getElem?_take_of_lt hi]; exact hops i o h
  have hbd : ∀ (i : Nat) (o : Oper) (d : Tmp), all.toArray[i]? = some o → o.dst = some d → d < a0.tmps.size := fun i o d ho hd => by
    have := List.all_eq_true.1 hz o (hmemo i o ho)
    simpa [hd] using this
  obtain ⟨Tf, hfin, _, hmem, hall⟩ := collectU N (all.take m) [] h (by simpa using hdist)
  have hrow : ∀ (j : Nat) (o : Oper), all.toArray[j]? = some o → (∀ e ∈ o.after, Region.binds .any e = true → e.on < j) ∧ (j < m → ∃ n, N[j]? = some n ∧ tabRowB all.toArray j o n = true) := fun j o ho => by
    have hj := (Array.getElem?_eq_some_iff.1 ho).1
    have h1 := List.all_eq_true.1 htab j (List.mem_range.2 hj)
    rw [ho] at h1
    simp only [Bool.and_eq_true] at h1
    refine ⟨fun e he hb => ?_, fun hjm => ?_⟩
    · have h2 := Array.all_eq_true'.1 h1.1 e he
      simpa [hb] using h2
    · have hjN : j < N.length := by rw [hlen]; exact hjm
      have h2 := h1.2
      rw [List.getElem?_eq_getElem hjN] at h2
      exact ⟨_, List.getElem?_eq_getElem hjN, h2⟩
  have hback : ∀ (k : Nat) (o : Oper), (all.take m)[k]? = some o → k < m ∧ all.toArray[k]? = some o := fun k o hk => by
    have hkl := (List.getElem?_eq_some_iff.1 hk).1
    have hkm : k < m := by
      rw [List.length_take] at hkl
      omega
    rw [List.getElem?_take_of_lt hkm] at hk
    exact ⟨hkm, by simpa using hk⟩
  refine wp_region_any hm ?_
  refine any_slotsV (E := E) (U := U) (m := m) (lo := lo) (Tf := Tf) (a0 := a0) (SS := SS) (S := S) (SF := SF) hmlt hlo hseal hseal2 hstep (fun f w hf => hSS f w (by simpa using hf)) (fun f w hf => hF f w (by simpa using hf)) (fun j o ho i oi hoi hne hnw w w' h1 h2 => ?_) (fun d p hp => ?_) hbd (fun i o hi ho => ?_) (fun i o ho => (hrow i o ho).1) (fun j o hj ho => ?_) (fun a w hSw hdef hsz hfr hold => ?_) (fun a w hSw hdef hsz hfr hold => ?_) _ _ _ _ ?_ ?_ ?_
  · by_cases hd : oi.dst = none
    · rw [hd]
      exact hEn _
    · refine hE o.dst oi.dst (fun e => ?_) (fun ⟨e1, e2⟩ => ?_) _ _ h1 h2
      · obtain ⟨d, hd'⟩ := Option.ne_none_iff_exists'.1 hd
        exact hne (dist_inj all [] hD i j oi o d (hops i oi hoi) (hops j o ho) hd' (e.trans hd'))
      · obtain ⟨ed, he, hb, heq⟩ := waits_for hW (hops j o ho) (hops i oi hoi) e1 e2
        exact hnw ed he hb heq
  · -- each fact lasts
    rcases hmem d p (lookup_mem hp) with h1 | ⟨_, k, o, hk, hod⟩
    · cases h1
    · obtain ⟨hkm, hk'⟩ := hback k o hk
      obtain ⟨n, hn, _⟩ := (hrow k o hk').2 hkm
      obtain ⟨T, hT, _, hT2⟩ := hall k n o hn hk
      obtain rfl := Option.some.inj ((hT2 d hod).symm.trans hp)
      rw [← hod]
      exact hT
  · have := List.all_eq_true.1 hguard o (List.mem_of_getElem? (htk i o hi ho))
    simpa using this
  · obtain ⟨n, hn, h1⟩ := (hrow j o ho).2 hj
    obtain ⟨T, _, hT1, hT2⟩ := hall j n o hn (htk j o hj ho)
    exact ⟨n, T, h1, fun x hx u hu i o' ho' hd' => hU j n hn x hx u hu i o' (hops i o' ho') hd', hT1, hT2⟩
  · obtain ⟨p1, p2, p3⟩ := putAll_spec (fun d => a.eval (.tmp d)) (all.take m) a0 (fun o ho d hd => by
      obtain ⟨i, hi, he⟩ := List.getElem_of_mem ho
      obtain ⟨_, hi'⟩ := hback i o (by rw [List.getElem?_eq_getElem hi, he])
      exact hbd i o d hi' hd)
    have e : a = putAll (fun d => a.eval (.tmp d)) (all.take m) a0 := by
      refine act_ext (hdef.trans p1.symm) (hsz.trans p2.symm) fun x => ?_
      by_cases hx : ∃ o ∈ all.take m, o.dst = some x
      · exact ((p3 x).1 hx).symm
      · rw [(p3 x).2 hx]
        exact hold x fun i o hi ho hd => hx ⟨o, List.mem_of_getElem? (htk i o hi ho), hd⟩
    rw [e]
    refine (hfin _ w hSw).1 (factsAtU_of fun d p hdp hun => ?_)
    rcases hmem d p hdp with h1 | ⟨hlk, k, o, hk, hod⟩
    · cases h1
    · obtain ⟨hkm, hk'⟩ := hback k o hk
      exact hfr k o d p hkm hk' hod hlk hun
  · have hsz2 : m < all.length := by simpa using hmlt
    have hel : ∀ (o : Oper), o ∈ (all.take m).eraseIdx lo ↔ ∃ i, i < m ∧ i ≠ lo ∧ all[i]? = some o := by
      intro o
      rw [List.mem_eraseIdx_iff_getElem?]
      constructor
      · rintro ⟨i, hne, hi⟩
        have him : i < m := by
          have := (List.getElem?_eq_some_iff.1 hi).1
          rw [List.length_take] at this
          omega
        rw [List.getElem?_take_of_lt him] at hi
        exact ⟨i, him, hne, hi⟩
      · rintro ⟨i, him, hne, hi⟩
        exact ⟨i, hne, by rw [List.getElem?_take_of_lt him]; exact hi⟩
    obtain ⟨p1, p2, p3⟩ := putAll_spec (fun d => a.eval (.tmp d)) ((all.take m).eraseIdx lo) a0 (fun o ho d hd => by
      obtain ⟨i, him, _, hi⟩ := (hel o).1 ho
      exact hbd i o d (by simpa using hi) hd)
    have e : a = putAll (fun d => a.eval (.tmp d)) ((all.take m).eraseIdx lo) a0 := by
      refine act_ext (hdef.trans p1.symm) (hsz.trans p2.symm) fun x => ?_
      by_cases hx : ∃ o ∈ (all.take m).eraseIdx lo, o.dst = some x
      · exact ((p3 x).1 hx).symm
      · rw [(p3 x).2 hx]
        exact hold x fun i o hi hne ho hd => hx ⟨o, (hel o).2 ⟨i, hi, hne, hops i o ho⟩, hd⟩
    have hl1 : all[m]?.toList ++ all[lo]?.toList ++ all.drop (m + 1) = all.toArray[m] :: (all.toArray[lo]'(by simp; omega)) :: all.toArray.toList.drop (m + 1) := by
      rw [List.getElem?_eq_getElem hsz2, List.getElem?_eq_getElem (by omega)]
      simp
    rw [e, ← hl1]
    refine (hfin _ w hSw).2 (factsAtU_of fun d p hdp hun => ?_)
    rcases hmem d p hdp with h1 | ⟨hlk, k, o, hk, hod⟩
    · cases h1
    · obtain ⟨hkm, hk'⟩ := hback k o hk
      by_cases hkl : k = lo
      · exfalso
        subst hkl
        rw [hops k o hk'] at hun
        simp [hod] at hun
      · refine hfr k o d p hkm hkl hk' hod hlk ?_
        by_cases hc : (all[lo]?.bind (·.dst)) = some d
        · rw [if_pos hc] at hun
          cases hun
        · rw [if_neg hc] at hun
          exact hun
  · simp
  · intro j _ hj
    simp at hj
    simp [hj]
  · refine ⟨by simp, by simpa using h0, fun _ _ _ _ => hE0 _, rfl, rfl, fun i o ho hli => ?_, fun i o d p ho hli => ?_, fun x _ => rfl⟩
    · rw [rep_false] at hli
      cases hli
    · rw [rep_false] at hli
      cases hli

end Go.Proofs.Ytobcefkjoojflaa

namespace Go.Proofs.Ytobcefkjoojflaa

theorem got_extract {P : Program} {K : Value → World → Prop} {ρ : Operand → Value} {o : Oper} {x : Operand} {i : Nat} {w : World} (ho : o.op = .extract x i) (h : got P K ((execOp ρ o).run P w)) : ∃ v, K v w ∧ ∀ w', (execOp ρ o).run P w' = .ok (.value v) w' := by
  unfold execOp at h ⊢
  rw [ho] at h ⊢
  simp only at h ⊢
  cases hx : ρ x with
  | tuple vs =>
    rw [hx] at h
    cases hv : vs[i]? with
    | some v =>
      simp [Instr.extract, hv, go_sem, got] at h ⊢
      exact h
    | none => simp [Instr.extract, hv, go_sem, got] at h
  | _ =>
    rw [hx] at h
    simp [Instr.extract, go_sem, got] at h

def extractB (o : Oper) : Bool := match o.op with
  | .extract _ _ => true
  | _ => false

theorem extractB_of {o : Oper} (h : extractB o = true) : ∃ x i, o.op = .extract x i := by
  unfold extractB at h
  split at h
  · exact ⟨_, _, ‹_›⟩
  · cases h

def sealM (ops : Array Oper) (m : Nat) (los : List Nat) : Bool :=
  (List.range ops.size).all fun i => decide (i < m) || (match ops[i]? with
    | some o => (List.range i).all fun j => los.contains j || (cover ops (List.range i).reverse ((o.after.toList.filter fun e => Region.binds .any e).map (·.on))).contains j
    | none => false)

theorem sealedM {ops : Array Oper} {m : Nat} {los : List Nat} (h : sealM ops m los = true) {listed : Array Bool} (hdown : ∀ (i : Nat) (o : Oper), ops[i]? = some o → listed.getD i false = true → ∀ e ∈ o.after, Region.binds .any e = true → listed.getD e.on false = true)
    {i : Nat} {o : Oper} (ho : ops[i]? = some o) (hi : m ≤ i) (hall : ∀ e ∈ o.after, Region.binds .any e = true → listed.getD e.on false = true) {j : Nat} (hj : j < i) (hne : j ∉ los) : listed.getD j false = true := by
  have hlt := (Array.getElem?_eq_some_iff.1 ho).1
  have h1 := List.all_eq_true.1 h i (List.mem_range.2 hlt)
  simp only [ho, Bool.or_eq_true, decide_eq_true_eq] at h1
  rcases h1 with h1 | h1
  · omega
  · have h2 := List.all_eq_true.1 h1 j (List.mem_range.2 hj)
    simp only [Bool.or_eq_true] at h2
    rcases h2 with h2 | h2
    · exact absurd (List.contains_iff_mem.1 h2) hne
    · refine cover_listed hdown _ _ (fun x hx => ?_) j (by simpa using h2)
      simp only [List.mem_map, List.mem_filter, Array.mem_toList_iff] at hx
      obtain ⟨e, ⟨he, hb⟩, rfl⟩ := hx
      exact hall e he hb

def looseB (ops : Array Oper) (m : Nat) (los : List Nat) : Bool :=
  Region.noSelect ops && los.all fun l => decide (l < m) && (match ops[l]? with
    | some o => extractB o && (o.after.all fun e => !Region.binds .any e || (decide (e.on < m) && !los.contains e.on)) &&
      (List.range ops.size).all (fun j => (j == l) || (decide (j < m) && !los.contains j) || (match ops[j]? with
        | some oj => oj.after.any (fun e => Region.binds .any e && e.on == l) || o.apart ops oj
        | none => true))
    | none => false)

def tidyM (ops : Array Oper) (m : Nat) (los : List Nat) (N : List (List (Tmp × Bool))) : Bool :=
  distB (ops.toList.take m) [] && ((ops.toList.take m).all fun o => o.guard.isNone) && (N.length == m) && decide (m ≤ ops.size) && sealM ops m los && looseB ops m los &&
  ((List.range ops.size).all fun j => match ops[j]? with
    | some o => (o.after.all fun e => !Region.binds .any e || decide (e.on < j)) && (match N[j]? with | some n => tabRowB ops j o n | none => true)
    | _ => false)

theorem tailM {P : Program} {ops : Array Oper} {Q : Exit → Act → World → Prop} {m : Nat} {los : List Nat} (hseal : sealM ops m los = true) (hlos : ∀ l ∈ los, l < m) (hlt : ∀ (i : Nat) (o : Oper), ops[i]? = some o → ∀ e ∈ o.after, Region.binds .any e = true → e.on < i) :
    ∀ (fuel p : Nat) (listed : Array Bool) (a : Act) (w : World), m ≤ p → p + fuel = ops.size → listed.size = ops.size → (∀ j, j < p → listed.getD j false = true) → (∀ j, p ≤ j → j < ops.size → listed.getD j true = false) →
    wpList P ops Q (ops.toList.drop p) a w → wpAny P .any ops Q fuel listed a w
  | 0, p, listed, a, w, _, hp, hs, h1, _, h => by
    have hp' : p = ops.size := by omega
    subst hp'
    have hd : ops.toList.drop ops.size = [] := by simp
    rw [hd] at h
    refine ⟨?_, h⟩
    apply List.eq_nil_iff_forall_not_mem.2
    intro j hj
    obtain ⟨h0, o, ho, _⟩ := mem_ready.1 hj
    have hjlt := (Array.getElem?_eq_some_iff.1 ho).1
    have h3 := h1 j hjlt
    rw [listed_ne hs hjlt h0] at h3
    cases h3
  | fuel + 1, p, listed, a, w, hm, hp, hs, h1, h2, h => by
    have hpl : p < ops.size := by omega
    have hpo : ops[p]? = some ops[p] := by simp [hpl]
    have hd : ops.toList.drop p = ops[p] :: ops.toList.drop (p + 1) := by
      rw [List.drop_eq_getElem_cons (by simpa using hpl)]
      simp
    have hdown : ∀ (i : Nat) (o : Oper), ops[i]? = some o → listed.getD i false = true → ∀ e ∈ o.after, Region.binds .any e = true → listed.getD e.on false = true := fun i o ho hli e he hb => by
      have hip : i < p := by
        rcases Nat.lt_or_ge i p with h' | h'
        · exact h'
        · have hil := (Array.getElem?_eq_some_iff.1 ho).1
          rw [listed_ne hs hil (h2 i h' hil)] at hli
          cases hli
      exact h1 _ (Nat.lt_trans (hlt i o ho e he hb) hip)
    refine ⟨fun hr => ?_, fun j hj => ?_⟩
    · exfalso
      have hmem : p ∈ Region.ready .any ops listed := mem_ready.2 ⟨h2 p (Nat.le_refl _) hpl, _, hpo, fun e he hb => h1 _ (hlt p _ hpo e he hb)⟩
      rw [hr] at hmem
      cases hmem
    · obtain ⟨h0, o, ho, hall⟩ := mem_ready.1 hj
      have hjlt := (Array.getElem?_eq_some_iff.1 ho).1
      have hj2 : j = p := by
        rcases Nat.lt_trichotomy j p with h' | h' | h'
        · have h3 := h1 j h'
          rw [listed_ne hs hjlt h0] at h3
          cases h3
        · exact h'
        · have h3 := sealedM hseal hdown ho (by omega) hall h' (fun hl => by have := hlos _ hl; omega)
          rw [listed_ne hs hpl (h2 p (Nat.le_refl _) hpl)] at h3
          cases h3
      subst hj2
      rw [hd] at h
      refine op_of_list hpo h fun a' w' h' => ?_
      refine tailM hseal hlos hlt fuel (j + 1) _ a' w' (by omega) (by omega) (by simpa using hs) (fun i hi => ?_) (fun i hi hi2 => by rw [getD_set_ne true (by omega)]; exact h2 i (by omega) hi2) h'
      by_cases hij : j = i
      · subst hij
        simp [hs, hjlt]
      · rw [getD_set_ne false hij]
        exact h1 i (by omega)

theorem any_slotsW {P : Program} {E : Option Tmp → World → Prop} {U : Tmp → Option Tmp} {ops : Array Oper} {a0 : Act} {S SF : World → Prop} {SS : Nat → World → Prop} {R : ReachU} {Tf : Facts} {Q : Exit → Act → World → Prop} {m : Nat} {los : List Nat} (hmle : m ≤ ops.size) (hseal : sealM ops m los = true) (hloose : looseB ops m los = true) (hQ : ∀ c a d v w, Q (.panic c) (Act.put a d v) w → Q (.panic c) a w) (hstep : ∀ d f w w', SS (f + 1) w → R d w w' → SS f w') (hSS : ∀ f w, f < ops.size → SS (f + 1) w → S w) (hF : ∀ f w, f ≤ ops.size → SS f w → SF w) (hE : ∀ (j : Nat) (o : Oper), ops[j]? = some o → ∀ (i : Nat) (oi : Oper), ops[i]? = some oi → i ≠ j → (∀ e ∈ o.after, Region.binds .any e = true → e.on ≠ i) → ∀ w w', E oi.dst w → R o.dst w w' → E oi.dst w') (hl : ∀ d p, Tf.lookup d = some p → lastsU U R (some d) p)
    (hbd : ∀ (i : Nat) (o : Oper) (d : Tmp), ops[i]? = some o → o.dst = some d → d < a0.tmps.size) (hg : ∀ (i : Nat) (o : Oper), i < m → ops[i]? = some o → o.guard = none) (hlt : ∀ (i : Nat) (o : Oper), ops[i]? = some o → ∀ e ∈ o.after, Region.binds .any e = true → e.on < i)
    (hobl : ∀ (j : Nat) (o : Oper), j < m → ops[j]? = some o → ∃ n T, tabRowB ops j o n = true ∧ (∀ x, (x, true) ∈ n → ∀ u, U x = some u → ∀ (i : Nat) (o' : Oper), ops[i]? = some o' → o'.dst = some u → i = j) ∧ oblU P a0 S E R n o Tf T ∧ ∀ d, o.dst = some d → Tf.lookup d = some T)
    (hfin : ∀ a w, SF w → a.defers = a0.defers → a.tmps.size = a0.tmps.size → (∀ (i : Nat) (o : Oper) (d : Tmp) p, i < m → ops[i]? = some o → o.dst = some d → Tf.lookup d = some p → U d = none → p (a.eval (.tmp d)) w) → (∀ x, (∀ (i : Nat) (o : Oper), i < m → ops[i]? = some o → o.dst ≠ some x) → a.eval (.tmp x) = a0.eval (.tmp x)) → wpList P ops Q (ops.toList.drop m) a w) :
    ∀ (fuel : Nat) (listed : Array Bool) (a : Act) (w : World), listed.toList.count false = fuel → (∀ j, m ≤ j → j < ops.size → listed.getD j true = false) → InvU E U ops a0 (SS fuel) Tf listed a w → wpAny P .any ops Q fuel listed a w := by
  have hL := hloose
  simp only [looseB, Bool.and_eq_true, List.all_eq_true, decide_eq_true_eq] at hL
  obtain ⟨hsel, hL⟩ := hL
  have hlos : ∀ l ∈ los, l < m := fun l hl => (hL l hl).1
  intro fuel
  induction fuel with
  | zero =>
    intro listed a w hc hm2 hI
    have hno : ∀ i, i < ops.size → listed.getD i false = true := fun i hi => by
      have hi' : i < listed.size := by rw [hI.size]; exact hi
      have : listed[i] ≠ false := fun h => by
        have := List.count_eq_zero.1 hc
        exact this (by rw [← h]; simp)
      simpa [hi'] using this
    have hms : m = ops.size := by
      rcases Nat.lt_or_ge m ops.size with h' | h'
      · have h3 := hno m h'
        rw [listed_ne hI.size h' (hm2 m (Nat.le_refl _) h')] at h3
        cases h3
      · omega
    refine tailM hseal hlos hlt 0 m listed a w (Nat.le_refl _) (by omega) hI.size (fun j hj => hno j (by omega)) hm2 ?_
    exact hfin a w (hF 0 w (Nat.zero_le _) hI.ok) hI.defers hI.len (fun i o d p _ ho hd hp hu => hI.fresh i o d p ho (hno i (Array.getElem?_eq_some_iff.1 ho).1) hd hp (fun u h => by rw [hu] at h; cases h)) (fun x hx => hI.old x fun i o ho _ => hx i o (by rw [hms]; exact (Array.getElem?_eq_some_iff.1 ho).1) ho)
  | succ fuel ih =>
    intro listed a w hc hm2 hI
    have hcl : fuel + 1 ≤ ops.size := by have := List.count_le_length (a := false) (l := listed.toList); rw [hc, Array.length_toList, hI.size] at this; exact this
    have hsz := hI.size
    have hcnt : ∀ j, j < listed.size → listed.getD j true = false → (listed.setIfInBounds j true).toList.count false = fuel := fun j h1 h2 => by
      have := count_set h1 h2
      omega
    have hobs : ∀ (j : Nat) (o : Oper), j < m → ops[j]? = some o → listed.getD j true = false → (∀ e ∈ o.after, Region.binds .any e = true → listed.getD e.on false = true) → ∃ T : Fact, (∀ d, o.dst = some d → Tf.lookup d = some T) ∧ got P (fun v w' => R o.dst w w' ∧ T v w') ((execOp a.eval o).run P w) := by
      intro j o hjm ho h0 hall
      have hjlt := (Array.getElem?_eq_some_iff.1 ho).1
      obtain ⟨n, T, htab, huse, hob, hT⟩ := hobl j o hjm ho
      have hun := listed_ne hI.size hjlt h0
      exact ⟨T, hT, hob a.eval w (plain_eval a) (hSS fuel w (by omega) hI.ok) (hI.ex j o ho hun) (needs_iff.2 (needs_ofU hI ho hun hall n htab (fun x hx u hu i' o' ho' hd' => by rw [huse x hx u hu i' o' ho' hd']; exact hun)))⟩
    have hgo : ∀ (j : Nat) (o : Oper), j < m → ops[j]? = some o → listed.getD j true = false → (∀ e ∈ o.after, Region.binds .any e = true → listed.getD e.on false = true) → wpOp P ops Q j (wpAny P .any ops Q fuel (listed.setIfInBounds j true)) a w := by
      intro j o hjm ho h0 hall
      have hjlt := (Array.getElem?_eq_some_iff.1 ho).1
      obtain ⟨T, hT, hgot⟩ := hobs j o hjm ho h0 hall
      unfold wpOp
      simp only [ho]
      rw [if_pos (by simp [Region.wanted, hg j o hjm ho])]
      refine .inl (upon_of_got (got_mono (fun v w' ⟨hR, hv⟩ => ?_) hgot))
      have hI' := inv_stepV (hstep o.dst fuel) (hE j o ho) hl hbd hI ho hall hT hR hv
      exact ih _ _ _ (hcnt j (by rw [hsz]; exact hjlt) h0) (fun i hi hi2 => by rw [getD_set_ne true (by omega)]; exact hm2 i hi hi2) hI'
    by_cases hdone : ∀ j, j < m → j ∉ los → listed.getD j false = true
    · by_cases hall1 : ∀ j, j < m → listed.getD j false = true
      · have hcount := count_drop hI.size hmle hall1 hm2
        refine tailM hseal hlos hlt (fuel + 1) m listed a w (Nat.le_refl _) (by omega) hI.size hall1 hm2 ?_
        refine hfin a w (hF _ w hcl hI.ok) hI.defers hI.len (fun i o d p hi ho hd hp hu => hI.fresh i o d p ho (hall1 i hi) hd hp (fun u h => by rw [hu] at h; cases h)) (fun x hx => hI.old x fun i o ho hli => ?_)
        refine hx i o ?_ ho
        rcases Nat.lt_or_ge i m with h' | h'
        · exact h'
        · have hil := (Array.getElem?_eq_some_iff.1 ho).1
          rw [listed_ne hI.size hil (hm2 i h' hil)] at hli
          cases hli
      · -- a loose one is taken first
        obtain ⟨l, hlm, hll⟩ : ∃ l, l < m ∧ listed.getD l false = false := by
          apply Classical.byContradiction
          intro hno
          exact hall1 fun j hj => by
            cases hb : listed.getD j false with
            | true => rfl
            | false => exact absurd ⟨j, hj, hb⟩ hno
        have hin : l ∈ los := Classical.byContradiction fun hn => by
          rw [hdone l hlm hn] at hll
          cases hll
        have hlsz : l < ops.size := by omega
        have hlo : ops[l]? = some ops[l] := by simp [hlsz]
        have hlt' : listed.getD l true = false := by
          have : l < listed.size := by rw [hsz]; exact hlsz
          simp [this] at hll ⊢
          exact hll
        obtain ⟨-, hlb⟩ := hL l hin
        rw [hlo] at hlb
        simp only [Bool.and_eq_true] at hlb
        obtain ⟨⟨hex, haf⟩, hap⟩ := hlb
        have hall : ∀ e ∈ ops[l].after, Region.binds .any e = true → listed.getD e.on false = true := fun e he hb => by
          have h1 := Array.all_eq_true'.1 haf e he
          simp only [hb, Bool.not_true, Bool.false_or, Bool.and_eq_true, decide_eq_true_eq, Bool.not_eq_true'] at h1
          exact hdone _ h1.1 fun hc => by
            rw [List.contains_iff_mem.2 hc] at h1
            cases h1.2
        obtain ⟨T, hT, hgot⟩ := hobs l _ hlm hlo hlt' hall
        obtain ⟨x, i, hxi⟩ := extractB_of hex
        obtain ⟨v, ⟨hR, hv⟩, hrun⟩ := got_extract hxi hgot
        refine wpAny_first hlo (Region.noSelect_spec hsel) (fun c a' w' h => hQ c a' _ _ w' h) fuel listed a w (fun j oj hj hne hun hno => ?_) (mem_ready.2 ⟨hlt', _, hlo, hall⟩) (.inl ⟨by simp [Region.wanted, hg l _ hlm hlo], hrun⟩) ?_
        · have hjl := (Array.getElem?_eq_some_iff.1 hj).1
          have h1 := List.all_eq_true.1 hap j (List.mem_range.2 hjl)
          simp only [hj, Bool.or_eq_true, beq_iff_eq, Bool.and_eq_true, decide_eq_true_eq, Bool.not_eq_true'] at h1
          rcases h1 with (h1 | ⟨h1, h2⟩) | h1 | h1
          · exact absurd h1 hne
          · have h3 := hdone j h1 fun hc => by rw [List.contains_iff_mem.2 hc] at h2; cases h2
            rw [listed_ne hsz hjl hun] at h3
            cases h3
          · obtain ⟨e, he, hb⟩ := Array.any_eq_true'.1 h1
            simp only [Bool.and_eq_true, beq_iff_eq] at hb
            exact absurd hb.2 (hno e he hb.1)
          · exact h1
        · have hI' := inv_stepV (hstep ops[l].dst fuel) (hE l _ hlo) hl hbd hI hlo hall hT hR hv
          exact ih _ _ _ (hcnt l (by rw [hsz]; exact hlsz) hlt') (fun i hi hi2 => by rw [getD_set_ne true (by omega)]; exact hm2 i hi hi2) hI'
    · refine ⟨fun hr => absurd ?_ hdone, fun j hj => ?_⟩
      · have hall : ∀ k, k ≤ m → ∀ i, i < k → listed.getD i false = true := by
          intro k
          induction k with
          | zero => intro _ i hi; omega
          | succ k ihk =>
            intro hk i hi
            by_cases hik : i < k
            · exact ihk (by omega) i hik
            · have : i = k := by omega
              subst this
              have hi' : i < ops.size := by omega
              cases hb : listed.getD i true with
              | true =>
                have hi2 : i < listed.size := by rw [hI.size]; exact hi'
                simpa [hi2] using hb
              | false =>
                have hmem : i ∈ Region.ready .any ops listed := mem_ready.2 ⟨hb, ops[i], by simp [hi'], fun e he hbi => ihk (by omega) e.on (hlt i _ (by simp [hi']) e he hbi)⟩
                rw [hr] at hmem
                cases hmem
        exact fun j hj _ => hall m (Nat.le_refl _) j hj
      · obtain ⟨h0, o, ho, hall⟩ := mem_ready.1 hj
        have hjm : j < m := by
          rcases Nat.lt_or_ge j m with h' | h'
          · exact h'
          · exact absurd (fun i hi hne => sealedM hseal hI.down ho h' hall (Nat.lt_of_lt_of_le hi h') hne) hdone
        exact hgo j o hjm ho h0 hall

theorem wp_region_slots_w {P : Program} {id : Nat} {Q : Exit → Act → World → Prop} {a0 : Act} {w0 : World} {all : List Oper} (m : Nat) (los : List Nat) (wt : Tmp × Tmp) (N : List (List (Tmp × Bool))) (S SF : World → Prop) (SS : Nat → World → Prop) (E : Option Tmp → World → Prop) (U : Tmp → Option Tmp) (R : ReachU)
    (hm : P.follows .mixedOrders = true) (hB : tidyM all.toArray m los N = true) (hQ : ∀ c a d v w, Q (.panic c) (Act.put a d v) w → Q (.panic c) a w) (hz : (all.all fun o => match o.dst with | some d => decide (d < a0.tmps.size) | none => true) = true)
    (h0 : SS all.length w0.drew) (hD : distB all [] = true) (hE0 : ∀ d, E d w0.drew) (hEn : ∀ w, E none w) (hW : waitB all wt = true) (hE : ∀ d d', d ≠ d' → ¬ (d = some wt.1 ∧ d' = some wt.2) → ∀ w w', E d' w → R d w w' → E d' w') (hU : ∀ (j : Nat) (n : List (Tmp × Bool)), N[j]? = some n → ∀ x, (x, true) ∈ n → ∀ u, U x = some u → ∀ (i : Nat) (o' : Oper), all[i]? = some o' → o'.dst = some u → i = j) (hstep : ∀ d f w w', SS (f + 1) w → R d w w' → SS f w') (hSS : ∀ f w, f < all.length → SS (f + 1) w → S w) (hF : ∀ f w, f ≤ all.length → SS f w → SF w)
    (h : wpSlotsU P a0 S E U R (fun Ts => ∀ vs w, SF w → factsAtU U vs w Ts → wpList P all.toArray Q (all.drop m) (putAll vs (all.take m) a0) w) N (all.take m) []) : (Code.region id all.toArray true).wp P Q a0 w0 := by
  simp only [tidyM, Bool.and_eq_true, beq_iff_eq, decide_eq_true_eq] at hB
  obtain ⟨⟨⟨⟨⟨⟨hdist, hguard⟩, hlen⟩, hmle⟩, hseal⟩, hloose⟩, htab⟩ := hB
  have hops : ∀ (i : Nat) (o : Oper), all.toArray[i]? = some o → all[i]? = some o := fun i o h => by simpa using h
  have hmemo : ∀ (i : Nat) (o : Oper), all.toArray[i]? = some o → o ∈ all := fun i o h => List.mem_of_getElem? (hops i o h)
  have htk : ∀ (i : Nat) (o : Oper), i < m → all.toArray[i]? = some o → (all.take m)[i]? = some o := fun i o hi h => by rw [List.getElem?_take_of_lt hi]; exact hops i o h
  have hbd : ∀ (i : Nat) (o : Oper) (d : Tmp), all.toArray[i]? = some o → o.dst = some d → d < a0.tmps.size := fun i o d ho hd => by
    have := List.all_eq_true.1 hz o (hmemo i o ho)
    simpa [hd] using this
  obtain ⟨Tf, hfin, _, hmem, hall⟩ := collectU N (all.take m) [] h (by simpa using hdist)
  have hrow : ∀ (j : Nat) (o : Oper), all.toArray[j]? = some o → (∀ e ∈ o.after, Region.binds .any e = true → e.on < j) ∧ (j < m → ∃ n, N[j]? = some n ∧ tabRowB all.toArray j o n = true) := fun j o ho => by
    have hj := (Array.getElem?_eq_some_iff.1 ho).1
    have h1 := List.all_eq_true.1 htab j (List.mem_range.2 hj)
    rw [ho] at h1
    simp only [Bool.and_eq_true] at h1
    refine ⟨fun e he hb => ?_, fun hjm => ?_⟩
    · have h2 := Array.all_eq_true'.1 h1.1 e he
      simpa [hb] using h2
    · have hjN : j < N.length := by rw [hlen]; exact hjm
      have h2 := h1.2
      rw [List.getElem?_eq_getElem hjN] at h2
      exact ⟨_, List.getElem?_eq_getElem hjN, h2⟩
  have hback : ∀ (k : Nat) (o : Oper), (all.take m)[k]? = some o → k < m ∧ all.toArray[k]? = some o := fun k o hk => by
    have hkl := (List.getElem?_eq_some_iff.1 hk).1
    have hkm : k < m := by
      rw [List.length_take] at hkl
      omega
    rw [List.getElem?_take_of_lt hkm] at hk
    exact ⟨hkm, by simpa using hk⟩
  refine wp_region_any hm ?_
  refine any_slotsW (E := E) (U := U) (m := m) (los := los) (Tf := Tf) (a0 := a0) (SS := SS) (S := S) (SF := SF) hmle hseal hloose hQ hstep (fun f w hf => hSS f w (by simpa using hf)) (fun f w hf => hF f w (by simpa using hf)) (fun j o ho i oi hoi hne hnw w w' h1 h2 => ?_) (fun d p hp => ?_) hbd (fun i o hi ho => ?_) (fun i o ho => (hrow i o ho).1) (fun j o hj ho => ?_) (fun a w hSw hdef hsz hfr hold => ?_) _ _ _ _ ?_ ?_ ?_
  · by_cases hd : oi.dst = none
    · rw [hd]
      exact hEn _
    · refine hE o.dst oi.dst (fun e => ?_) (fun ⟨e1, e2⟩ => ?_) _ _ h1 h2
      · obtain ⟨d, hd'⟩ := Option.ne_none_iff_exists'.1 hd
        exact hne (dist_inj all [] hD i j oi o d (hops i oi hoi) (hops j o ho) hd' (e.trans hd'))
      · obtain ⟨ed, he, hb, heq⟩ := waits_for hW (hops j o ho) (hops i oi hoi) e1 e2
        exact hnw ed he hb heq
  · -- each fact lasts
    rcases hmem d p (lookup_mem hp) with h1 | ⟨_, k, o, hk, hod⟩
    · cases h1
    · obtain ⟨hkm, hk'⟩ := hback k o hk
      obtain ⟨n, hn, _⟩ := (hrow k o hk').2 hkm
      obtain ⟨T, hT, _, hT2⟩ := hall k n o hn hk
      obtain rfl := Option.some.inj ((hT2 d hod).symm.trans hp)
      rw [← hod]
      exact hT
  · have := List.all_eq_true.1 hguard o (List.mem_of_getElem? (htk i o hi ho))
    simpa using this
  · obtain ⟨n, hn, h1⟩ := (hrow j o ho).2 hj
    obtain ⟨T, _, hT1, hT2⟩ := hall j n o hn (htk j o hj ho)
    exact ⟨n, T, h1, fun x hx u hu i o' ho' hd' => hU j n hn x hx u hu i o' (hops i o' ho') hd', hT1, hT2⟩
  · obtain ⟨p1, p2, p3⟩ := putAll_spec (fun d => a.eval (.tmp d)) (all.take m) a0 (fun o ho d hd => by
      obtain ⟨i, hi, he⟩ := List.getElem_of_mem ho
      obtain ⟨_, hi'⟩ := hback i o (by rw [List.getElem?_eq_getElem hi, he])
      exact hbd i o d hi' hd)
    have e : a = putAll (fun d => a.eval (.tmp d)) (all.take m) a0 := by
      refine act_ext (hdef.trans p1.symm) (hsz.trans p2.symm) fun x => ?_
      by_cases hx : ∃ o ∈ all.take m, o.dst = some x
      · exact ((p3 x).1 hx).symm
      · rw [(p3 x).2 hx]
        exact hold x fun i o hi ho hd => hx ⟨o, List.mem_of_getElem? (htk i o hi ho), hd⟩
    rw [e]
    refine hfin _ w hSw (factsAtU_of fun d p hdp hun => ?_)
    rcases hmem d p hdp with h1 | ⟨hlk, k, o, hk, hod⟩
    · cases h1
    · obtain ⟨hkm, hk'⟩ := hback k o hk
      exact hfr k o d p hkm hk' hod hlk hun
  · simp
  · intro j _ hj
    simp at hj
    simp [hj]
  · refine ⟨by simp, by simpa using h0, fun _ _ _ _ => hE0 _, rfl, rfl, fun i o ho hli => ?_, fun i o d p ho hli => ?_, fun x _ => rfl⟩
    · rw [rep_false] at hli
      cases hli
    · rw [rep_false] at hli
      cases hli

end Go.Proofs.Ytobcefkjoojflaa
