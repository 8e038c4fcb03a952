import Derived.Test.YtojgahcogpediaaPack7
import Derived.Test.YtojgahcogpediaaPack2
import Derived.Test.YtojgahcogpediaaPack6
import Derived.Test.YtojgahcogpediaaPack3
import Derived.Test.YtojgahcogpediaaPack5
import Derived.Lib.Hide
/- As Slots, where each operation has a reach of its own ('R', by the slot that it fills), and where a fact may last only till one operation has come ('U'): for regions in which an append lies. No Go text in sight. -/
namespace Go.Proofs.Ytojgahcogpediaa

abbrev ReachU := Option Tmp → World → World → Prop

def oblU (P : Program) (a0 : Act) (S : World → Prop) (E : Option Tmp → World → Prop) (R : ReachU) (n : List (Tmp × Bool)) (o : Oper) (Ts : Facts) (T : Fact) : Prop :=
  ∀ ρ w, Plain ρ → S w → E o.dst w → needs Ts a0 ρ w n → got P (fun v w' => R o.dst w w' ∧ T v w') ((execOp ρ o).run P w)

/-- A fact of slot dst lasts, whichever other operation comes, but for the one at which it ends. -/
def lastsU (U : Tmp → Option Tmp) (R : ReachU) (dst : Option Tmp) (T : Fact) : Prop := ∀ d', d' ≠ dst → (∀ d u, dst = some d → U d = some u → d' ≠ some u) → lasts (R d') T

theorem lastsU_eq (U : Tmp → Option Tmp) (R : ReachU) (dst : Option Tmp) (e : Value) : lastsU U R dst (fun v _ => v = e) := fun _ _ _ _ _ _ h _ => h

def wpSlotsU (P : Program) (a0 : Act) (S : World → Prop) (E : Option Tmp → World → Prop) (U : Tmp → Option Tmp) (R : ReachU) (Fin : Facts → Prop) : List (List (Tmp × Bool)) → List Oper → Facts → Prop
  | n :: N, o :: l, Ts => ∃ T : Fact, lastsU U R o.dst T ∧ oblU P a0 S E R n o Ts T ∧ wpSlotsU P a0 S E U R Fin N l (addFact o T Ts)
  | [], [], Ts => Fin Ts
  | _, _, _ => False

theorem collectU {P : Program} {a0 : Act} {S : World → Prop} {E : Option Tmp → World → Prop} {U : Tmp → Option Tmp} {R : ReachU} {Fin : Facts → Prop} : ∀ (N : List (List (Tmp × Bool))) (l : List Oper) (Ts : Facts), wpSlotsU P a0 S E U R Fin N l Ts → distB l (Ts.map (·.1)) = true →
    ∃ Tf, Fin Tf ∧ (∀ x p, Ts.lookup x = some p → Tf.lookup x = some p) ∧ (∀ d p, (d, p) ∈ Tf → (d, p) ∈ Ts ∨ (Tf.lookup d = some p ∧ ∃ (k : Nat) (o : Oper), l[k]? = some o ∧ o.dst = some d)) ∧ ∀ (k : Nat) (n : List (Tmp × Bool)) (o : Oper), N[k]? = some n → l[k]? = some o → ∃ T : Fact, lastsU U R o.dst T ∧ oblU P a0 S E R n o Tf T ∧ ∀ d, o.dst = some d → Tf.lookup d = some T
  | [], [], Ts, h, _ => ⟨Ts, h, fun _ _ h => h, fun _ _ h => .inl h, fun k n o hn _ => by simp at hn⟩
  | [], _ :: _, _, h, _ => h.elim
  | _ :: _, [], _, h, _ => h.elim
  | n :: N, o :: l, Ts, h, hd => by
    obtain ⟨T, hl, ho, hrest⟩ := h
    have hsub : ∀ x p, Ts.lookup x = some p → (addFact o T Ts).lookup x = some p := by
      intro x p hx
      unfold addFact
      cases hod : o.dst with
      | none => exact hx
      | some d =>
        simp only [distB, hod, Bool.and_eq_true, Bool.not_eq_true'] at hd
        have hne : x ≠ d := fun e => by rw [e, lookup_none_of hd.1] at hx; cases hx
        rw [List.lookup_cons, beq_eq_false_iff_ne.2 hne]
        exact hx
    have hd' : distB l ((addFact o T Ts).map (·.1)) = true := by
      unfold addFact
      cases hod : o.dst with
      | none => simpa [distB, hod] using hd
      | some d =>
        simp only [distB, hod, Bool.and_eq_true] at hd
        simpa using hd.2
    obtain ⟨Tf, hfin, hmono, hmem, hall⟩ := collectU N l (addFact o T Ts) hrest hd'
    have hhead : ∀ d, o.dst = some d → Tf.lookup d = some T := fun d hod => hmono d T (by unfold addFact; rw [hod]; simp)
    refine ⟨Tf, hfin, fun x p hx => hmono x p (hsub x p hx), fun d p hdp => ?_, fun k n' o' hn ho' => ?_⟩
    · rcases hmem d p hdp with h1 | ⟨h1, k, o', hk, hod⟩
      · unfold addFact at h1
        cases hod : o.dst with
        | none => rw [hod] at h1; exact .inl h1
        | some d' =>
          rw [hod] at h1
          rcases List.mem_cons.1 h1 with h2 | h2
          · obtain ⟨rfl, rfl⟩ := Prod.mk.inj h2
            exact .inr ⟨hhead _ hod, 0, o, rfl, hod⟩
          · exact .inl h2
      · exact .inr ⟨h1, k + 1, o', by simpa using hk, hod⟩
    cases k with
    | zero =>
      simp only [List.getElem?_cons_zero, Option.some.injEq] at hn ho'
      subst hn ho'
      refine ⟨T, hl, fun ρ w hp hS hE hn => ho ρ w hp hS hE (needs_mono (fun x p hx => hmono x p (hsub x p hx)) hn), hhead⟩
    | succ k =>
      exact hall k n' o' (by simpa using hn) (by simpa using ho')

/-- The facts that stand at the end, by their values. -/
@[simp] def factsAtU (U : Tmp → Option Tmp) (vs : Tmp → Value) (w : World) : Facts → Prop
  | [] => True
  | (d, p) :: r => (U d = none → p (vs d) w) ∧ factsAtU U vs w r

theorem factsAtU_of {U : Tmp → Option Tmp} {vs : Tmp → Value} {w : World} : ∀ {Tf : Facts}, (∀ d p, (d, p) ∈ Tf → U d = none → p (vs d) w) → factsAtU U vs w Tf
  | [], _ => trivial
  | (d, p) :: r, h => ⟨h d p (by simp), factsAtU_of fun d' p' h' => h d' p' (List.mem_cons_of_mem _ h')⟩

/-- The operation at which slot d's fact ends has not come. -/
def Still (U : Tmp → Option Tmp) (ops : Array Oper) (listed : Array Bool) (d : Tmp) : Prop := ∀ u, U d = some u → ∀ (i : Nat) (o : Oper), ops[i]? = some o → o.dst = some u → listed.getD i false = false

structure InvU (E : Option Tmp → World → Prop) (U : Tmp → Option Tmp) (ops : Array Oper) (a0 : Act) (S : World → Prop) (Tf : Facts) (listed : Array Bool) (a : Act) (w : World) : Prop where
  size : listed.size = ops.size
  ok : S w
  ex : ∀ (i : Nat) (o : Oper), ops[i]? = some o → listed.getD i false = false → E o.dst w
  defers : a.defers = a0.defers
  len : a.tmps.size = a0.tmps.size
  down : ∀ i o, ops[i]? = some o → listed.getD i false = true → ∀ e ∈ o.after, Region.binds .any e = true → listed.getD e.on false = true
  fresh : ∀ i o d p, ops[i]? = some o → listed.getD i false = true → o.dst = some d → Tf.lookup d = some p → Still U ops listed d → p (a.eval (.tmp d)) w
  old : ∀ x, (∀ i o, ops[i]? = some o → listed.getD i false = true → o.dst ≠ some x) → a.eval (.tmp x) = a0.eval (.tmp x)

theorem needs_ofU {E : Option Tmp → World → Prop} {U : Tmp → Option Tmp} {ops : Array Oper} {a0 : Act} {S : World → Prop} {Tf : Facts} {listed : Array Bool} {a : Act} {w : World} (hI : InvU E U ops a0 S Tf listed a w) {j : Nat} {o : Oper} (hj : ops[j]? = some o) (hun : listed.getD j false = false)
    (hall : ∀ e ∈ o.after, Region.binds .any e = true → listed.getD e.on false = true) : ∀ (n : List (Tmp × Bool)), tabRowB ops j o n = true → (∀ x, (x, true) ∈ n → Still U ops listed x) → needs0 Tf a0 a.eval w n
  | [], _, _ => trivial
  | (x, true) :: r, h, hst => by
    simp only [tabRowB, Bool.and_eq_true] at h
    refine ⟨?_, needs_ofU hI hj hun hall r h.2 (fun x hx => hst x (List.mem_cons_of_mem _ hx))⟩
    cases hl : Tf.lookup x with
    | none => trivial
    | some p =>
      obtain ⟨e, he, hb⟩ := Array.any_eq_true'.1 h.1
      simp only [Bool.and_eq_true, beq_iff_eq] at hb
      obtain ⟨oi, hoi, hdi⟩ := Option.bind_eq_some_iff.1 hb.2
      exact hI.fresh e.on oi x p hoi (hall e he hb.1) hdi hl (hst x (by simp))
  | (x, false) :: r, h, hst => by
    simp only [tabRowB, Bool.and_eq_true] at h
    refine ⟨hI.old x fun i oi hoi hli hdi => ?_, needs_ofU hI hj hun hall r h.2 (fun x hx => hst x (List.mem_cons_of_mem _ hx))⟩
    have hlt : i < ops.size := (Array.getElem?_eq_some_iff.1 hoi).1
    have h1 := List.all_eq_true.1 h.1 i (List.mem_range.2 hlt)
    simp only [hoi, hdi, beq_self_eq_true, Bool.not_true, Bool.false_or, Bool.or_eq_true, beq_iff_eq] at h1
    rcases h1 with rfl | hw
    · rw [hun] at hli
      cases hli
    · obtain ⟨e, he, hb⟩ := Array.any_eq_true'.1 hw
      simp only [Bool.and_eq_true, beq_iff_eq] at hb
      have := hI.down i oi hoi hli e he hb.1
      rw [hb.2, hun] at this
      cases this

theorem inv_stepU {E : Option Tmp → World → Prop} {U : Tmp → Option Tmp} {ops : Array Oper} {a0 : Act} {S S' : World → Prop} {R : ReachU} {Tf : Facts} {j : Nat} {o : Oper} (hS : ∀ w w', S w → R o.dst w w' → S' w') (hE : ∀ (i : Nat) (oi : Oper), ops[i]? = some oi → i ≠ j → ∀ w w', E oi.dst w → R o.dst w w' → E oi.dst w') (hl : ∀ d p, Tf.lookup d = some p → lastsU U R (some d) p)
    (hbd : ∀ (i : Nat) (o : Oper) (d : Tmp), ops[i]? = some o → o.dst = some d → d < a0.tmps.size) {listed : Array Bool} {a : Act} {w w' : World} (hI : InvU E U ops a0 S Tf listed a w) (hj : ops[j]? = some o)
    (hall : ∀ e ∈ o.after, Region.binds .any e = true → listed.getD e.on false = true) {T : Fact} (hT : ∀ d, o.dst = some d → Tf.lookup d = some T) {v : Value} (hR : R o.dst w w') (hv : T v w') :
    InvU E U ops a0 S' Tf (listed.setIfInBounds j true) (a.put o.dst v) w' where
  size := by simpa using hI.size
  ok := hS _ _ hI.ok hR
  ex := by
    intro i oi hoi hli
    by_cases e : j = i
    · subst e
      have hlt : j < listed.size := by rw [hI.size]; exact (Array.getElem?_eq_some_iff.1 hj).1
      simp [hlt] at hli
    · rw [getD_set_ne false e] at hli
      exact hE i oi hoi (Ne.symm e) _ _ (hI.ex i oi hoi hli) hR
  defers := (put_def _ _ _).trans hI.defers
  len := (putA_len _ _ _).trans hI.len
  down := by
    intro i oi hoi hli e he hb
    by_cases hij : j = i
    · subst hij
      obtain rfl := Option.some.inj (hj.symm.trans hoi)
      exact getD_set_true (hall e he hb)
    · rw [getD_set_ne false hij] at hli
      exact getD_set_true (hI.down i oi hoi hli e he hb)
  fresh := by
    intro i oi d p hoi hli hdi hp hst
    by_cases hd : o.dst = some d
    · rw [hd, put_at _ _ _ (by rw [hI.len]; exact hbd j o d hj hd)]
      obtain rfl := Option.some.inj ((hT d hd).symm.trans hp)
      exact hv
    · have hij : j ≠ i := fun e => by
        subst e
        obtain rfl := Option.some.inj (hj.symm.trans hoi)
        exact hd hdi
      rw [getD_set_ne false hij] at hli
      rw [put_off _ _ _ _ hd]
      have hst' : Still U ops listed d := fun u hu i' o' ho' hd' => by
        have h1 := hst u hu i' o' ho' hd'
        by_cases e : j = i'
        · subst e
          have hlt : j < listed.size := by rw [hI.size]; exact (Array.getElem?_eq_some_iff.1 hj).1
          simp [hlt] at h1
        · rwa [getD_set_ne false e] at h1
      refine hl d p hp o.dst hd (fun d0 u h0 hu => ?_) _ _ _ (hI.fresh i oi d p hoi hli hdi hp hst') hR
      obtain rfl := Option.some.inj h0
      intro e
      have h1 := hst u hu j o hj e
      have hlt : j < listed.size := by rw [hI.size]; exact (Array.getElem?_eq_some_iff.1 hj).1
      simp [hlt] at h1
  old := by
    intro x hx
    have hd : o.dst ≠ some x := hx j o hj (by
      have hlt : j < listed.size := by rw [hI.size]; exact (Array.getElem?_eq_some_iff.1 hj).1
      simp [hlt])
    rw [put_off _ _ _ _ hd]
    exact hI.old x fun i oi hoi hli => hx i oi hoi (getD_set_true hli)

/-- Whatever order is picked. -/
theorem any_slotsU {P : Program} {E : Option Tmp → World → Prop} {U : Tmp → Option Tmp} {ops : Array Oper} {a0 : Act} {S SF : World → Prop} {SS : Nat → World → Prop} {R : ReachU} {Tf : Facts} {Q : Exit → Act → World → Prop} {m : Nat} (hmle : m ≤ ops.size) (hseal : sealB ops m = true) (hstep : ∀ d f w w', SS (f + 1) w → R d w w' → SS f w') (hSS : ∀ f w, f < ops.size → SS (f + 1) w → S w) (hF : ∀ f w, f ≤ ops.size → SS f w → SF w) (hE : ∀ (j : Nat) (o : Oper), ops[j]? = some o → ∀ (i : Nat) (oi : Oper), ops[i]? = some oi → i ≠ j → ∀ w w', E oi.dst w → R o.dst w w' → E oi.dst w') (hl : ∀ d p, Tf.lookup d = some p → lastsU U R (some d) p)
    (hbd : ∀ (i : Nat) (o : Oper) (d : Tmp), ops[i]? = some o → o.dst = some d → d < a0.tmps.size) (hg : ∀ (i : Nat) (o : Oper), i < m → ops[i]? = some o → o.guard = none) (hlt : ∀ (i : Nat) (o : Oper), ops[i]? = some o → ∀ e ∈ o.after, Region.binds .any e = true → e.on < i)
    (hobl : ∀ (j : Nat) (o : Oper), j < m → ops[j]? = some o → ∃ n T, tabRowB ops j o n = true ∧ (∀ x, (x, true) ∈ n → ∀ u, U x = some u → ∀ (i : Nat) (o' : Oper), ops[i]? = some o' → o'.dst = some u → i = j) ∧ oblU P a0 S E R n o Tf T ∧ ∀ d, o.dst = some d → Tf.lookup d = some T)
    (hfin : ∀ a w, SF w → a.defers = a0.defers → a.tmps.size = a0.tmps.size → (∀ (i : Nat) (o : Oper) (d : Tmp) p, i < m → ops[i]? = some o → o.dst = some d → Tf.lookup d = some p → U d = none → p (a.eval (.tmp d)) w) → (∀ x, (∀ (i : Nat) (o : Oper), i < m → ops[i]? = some o → o.dst ≠ some x) → a.eval (.tmp x) = a0.eval (.tmp x)) → wpList P ops Q (ops.toList.drop m) a w) :
    ∀ (fuel : Nat) (listed : Array Bool) (a : Act) (w : World), listed.toList.count false = fuel → (∀ j, m ≤ j → j < ops.size → listed.getD j true = false) → InvU E U ops a0 (SS fuel) Tf listed a w → wpAny P .any ops Q fuel listed a w := by
  intro fuel
  induction fuel with
  | zero =>
    intro listed a w hc hm2 hI
    have hno : ∀ i, i < ops.size → listed.getD i false = true := fun i hi => by
      have hi' : i < listed.size := by rw [hI.size]; exact hi
      have : listed[i] ≠ false := fun h => by
        have := List.count_eq_zero.1 hc
        exact this (by rw [← h]; simp)
      simpa [hi'] using this
    have hms : m = ops.size := by
      rcases Nat.lt_or_ge m ops.size with h' | h'
      · have h3 := hno m h'
        rw [listed_ne hI.size h' (hm2 m (Nat.le_refl _) h')] at h3
        cases h3
      · omega
    refine any_tail hseal hlt 0 m listed a w (Nat.le_refl _) (by omega) hI.size (fun j hj => hno j (by omega)) hm2 ?_
    exact hfin a w (hF 0 w (Nat.zero_le _) hI.ok) hI.defers hI.len (fun i o d p _ ho hd hp hu => hI.fresh i o d p ho (hno i (Array.getElem?_eq_some_iff.1 ho).1) hd hp (fun u h => by rw [hu] at h; cases h)) (fun x hx => hI.old x fun i o ho _ => hx i o (by rw [hms]; exact (Array.getElem?_eq_some_iff.1 ho).1) ho)
  | succ fuel ih =>
    intro listed a w hc hm2 hI
    by_cases hdone : ∀ j, j < m → listed.getD j false = true
    · have hcnt := count_drop hI.size hmle hdone hm2
      refine any_tail hseal hlt (fuel + 1) m listed a w (Nat.le_refl _) (by omega) hI.size hdone hm2 ?_
      refine hfin a w (hF _ w (by have := List.count_le_length (a := false) (l := listed.toList); rw [hc, Array.length_toList, hI.size] at this; exact this) hI.ok) hI.defers hI.len (fun i o d p hi ho hd hp hu => hI.fresh i o d p ho (hdone i hi) hd hp (fun u h => by rw [hu] at h; cases h)) (fun x hx => hI.old x fun i o ho hli => ?_)
      refine hx i o ?_ ho
      rcases Nat.lt_or_ge i m with h' | h'
      · exact h'
      · have hil := (Array.getElem?_eq_some_iff.1 ho).1
        rw [listed_ne hI.size hil (hm2 i h' hil)] at hli
        cases hli
    · refine ⟨fun hr => absurd ?_ hdone, fun j hj => ?_⟩
      · -- the first that has not come up may come up
        have hall : ∀ k, k ≤ m → ∀ i, i < k → listed.getD i false = true := by
          intro k
          induction k with
          | zero => intro _ i hi; omega
          | succ k ihk =>
            intro hk i hi
            by_cases hik : i < k
            · exact ihk (by omega) i hik
            · have : i = k := by omega
              subst this
              have hi' : i < ops.size := by omega
              cases hb : listed.getD i true with
              | true =>
                have hi2 : i < listed.size := by rw [hI.size]; exact hi'
                simpa [hi2] using hb
              | false =>
                have hmem : i ∈ Region.ready .any ops listed := mem_ready.2 ⟨hb, ops[i], by simp [hi'], fun e he hbi => ihk (by omega) e.on (hlt i _ (by simp [hi']) e he hbi)⟩
                rw [hr] at hmem
                cases hmem
        exact hall m (Nat.le_refl _)
      · obtain ⟨h0, o, ho, hall⟩ := mem_ready.1 hj
        have hjlt := (Array.getElem?_eq_some_iff.1 ho).1
        have hjm : j < m := by
          rcases Nat.lt_or_ge j m with h' | h'
          · exact h'
          · exact absurd (fun i hi => sealed hseal hI.down ho h' hall (Nat.lt_of_lt_of_le hi h')) hdone
        obtain ⟨n, T, htab, huse, hob, hT⟩ := hobl j o hjm ho
        have hun := listed_ne hI.size hjlt h0
        have hgot := hob a.eval w (plain_eval a) (hSS fuel w (by have := List.count_le_length (a := false) (l := listed.toList); rw [hc, Array.length_toList, hI.size] at this; exact this) hI.ok) (hI.ex j o ho hun) (needs_iff.2 (needs_ofU hI ho hun hall n htab (fun x hx u hu i' o' ho' hd' => by rw [huse x hx u hu i' o' ho' hd']; exact hun)))
        unfold wpOp
        simp only [ho]
        rw [if_pos (by simp [Region.wanted, hg j o hjm ho])]
        refine .inl (upon_of_got (got_mono (fun v w' ⟨hR, hv⟩ => ?_) hgot))
        have hI' := inv_stepU (hstep o.dst fuel) (hE j o ho) hl hbd hI ho hall hT hR hv
        refine ih _ _ _ ?_ (fun i hi hi2 => by rw [getD_set_ne true (by omega)]; exact hm2 i hi hi2) hI'
        have hcs := count_set (by rw [hI.size]; exact hjlt) h0
        omega

theorem dist_out : ∀ (l : List Oper) (ks : List Tmp), distB l ks = true → ∀ (i : Nat) (o : Oper) (d : Tmp), l[i]? = some o → o.dst = some d → ks.contains d = false
  | [], _, _, i, o, d, h, _ => by simp at h
  | o :: l, ks, h, 0, o', d, ho, hd => by
    simp only [List.getElem?_cons_zero, Option.some.injEq] at ho
    subst ho
    simp only [distB, hd, Bool.and_eq_true, Bool.not_eq_true'] at h
    exact h.1
  | o :: l, ks, h, i + 1, o', d, ho, hd => by
    simp only [List.getElem?_cons_succ] at ho
    cases hod : o.dst with
    | none =>
      simp only [distB, hod] at h
      exact dist_out l ks h i o' d ho hd
    | some e =>
      simp only [distB, hod, Bool.and_eq_true] at h
      have := dist_out l (e :: ks) h.2 i o' d ho hd
      simp only [List.contains_cons, Bool.or_eq_false_iff] at this
      exact this.2

theorem dist_inj : ∀ (l : List Oper) (ks : List Tmp), distB l ks = true → ∀ (i i' : Nat) (o o' : Oper) (d : Tmp), l[i]? = some o → l[i']? = some o' → o.dst = some d → o'.dst = some d → i = i'
  | [], _, _, i, _, o, _, d, h, _, _, _ => by simp at h
  | p :: l, ks, h, 0, 0, o, o', d, _, _, _, _ => rfl
  | p :: l, ks, h, 0, i' + 1, o, o', d, ho, ho', hd, hd' => by
    simp only [List.getElem?_cons_zero, Option.some.injEq, List.getElem?_cons_succ] at ho ho'
    subst ho
    simp only [distB, hd, Bool.and_eq_true] at h
    have := dist_out l _ h.2 i' o' d ho' hd'
    simp at this
  | p :: l, ks, h, i + 1, 0, o, o', d, ho, ho', hd, hd' => by
    simp only [List.getElem?_cons_zero, Option.some.injEq, List.getElem?_cons_succ] at ho ho'
    subst ho'
    simp only [distB, hd', Bool.and_eq_true] at h
    have := dist_out l _ h.2 i o d ho hd
    simp at this
  | p :: l, ks, h, i + 1, i' + 1, o, o', d, ho, ho', hd, hd' => by
    simp only [List.getElem?_cons_succ] at ho ho'
    cases hod : p.dst with
    | none =>
      simp only [distB, hod] at h
      rw [dist_inj l ks h i i' o o' d ho ho' hd hd']
    | some e =>
      simp only [distB, hod, Bool.and_eq_true] at h
      rw [dist_inj l (e :: ks) h.2 i i' o o' d ho ho' hd hd']

/-- THE LAW, with a count of the operations that are still to come: the first operations 'l' in whatever order; those behind them ('r'), each of which waits for all ahead of it, in the order of the text. -/
theorem wp_region_slots_u {P : Program} {id : Nat} {Q : Exit → Act → World → Prop} {a0 : Act} {w0 : World} {all : List Oper} (m : Nat) (N : List (List (Tmp × Bool))) (S SF : World → Prop) (SS : Nat → World → Prop) (E : Option Tmp → World → Prop) (U : Tmp → Option Tmp) (R : ReachU)
    (hm : P.follows .mixedOrders = true) (hB : tidyB all.toArray m N = true) (hz : (all.all fun o => match o.dst with | some d => decide (d < a0.tmps.size) | none => true) = true)
    (h0 : SS all.length w0.drew) (hD : distB all [] = true) (hE0 : ∀ d, E d w0.drew) (hEn : ∀ w, E none w) (hE : ∀ d d', d ≠ d' → ∀ w w', E d' w → R d w w' → E d' w') (hU : ∀ (j : Nat) (n : List (Tmp × Bool)), N[j]? = some n → ∀ x, (x, true) ∈ n → ∀ u, U x = some u → ∀ (i : Nat) (o' : Oper), all[i]? = some o' → o'.dst = some u → i = j) (hstep : ∀ d f w w', SS (f + 1) w → R d w w' → SS f w') (hSS : ∀ f w, f < all.length → SS (f + 1) w → S w) (hF : ∀ f w, f ≤ all.length → SS f w → SF w)
    (h : wpSlotsU P a0 S E U R (fun Ts => ∀ vs w, SF w → factsAtU U vs w Ts → wpList P all.toArray Q (all.drop m) (putAll vs (all.take m) a0) w) N (all.take m) []) : (Code.region id all.toArray true).wp P Q a0 w0 := by
  simp only [tidyB, Bool.and_eq_true, beq_iff_eq, decide_eq_true_eq] at hB
  obtain ⟨⟨⟨⟨⟨hdist, hguard⟩, hlen⟩, hmle⟩, hseal⟩, htab⟩ := hB
  have hops : ∀ (i : Nat) (o : Oper), all.toArray[i]? = some o → all[i]? = some o := fun i o h => by simpa using h
  have hmemo : ∀ (i : Nat) (o : Oper), all.toArray[i]? = some o → o ∈ all := fun i o h => List.mem_of_getElem? (hops i o h)
  have htk : ∀ (i : Nat) (o : Oper), i < m → all.toArray[i]? = some o → (all.take m)[i]? = some o := fun i o hi h => by rw [List.getElem?_take_of_lt hi]; exact hops i o h
  have hbd : ∀ (i : Nat) (o : Oper) (d : Tmp), all.toArray[i]? = some o → o.dst = some d → d < a0.tmps.size := fun i o d ho hd => by
    have := List.all_eq_true.1 hz o (hmemo i o ho)
    simpa [hd] using this
  obtain ⟨Tf, hfin, _, hmem, hall⟩ := collectU N (all.take m) [] h (by simpa using hdist)
  have hrow : ∀ (j : Nat) (o : Oper), all.toArray[j]? = some o → (∀ e ∈ o.after, Region.binds .any e = true → e.on < j) ∧ (j < m → ∃ n, N[j]? = some n ∧ tabRowB all.toArray j o n = true) := fun j o ho => by
    have hj := (Array.getElem?_eq_some_iff.1 ho).1
    have h1 := List.all_eq_true.1 htab j (List.mem_range.2 hj)
    rw [ho] at h1
    simp only [Bool.and_eq_true] at h1
    refine ⟨fun e he hb => ?_, fun hjm => ?_⟩
    · have h2 := Array.all_eq_true'.1 h1.1 e he
      simpa [hb] using h2
    · have hjN : j < N.length := by rw [hlen]; exact hjm
      have h2 := h1.2
      rw [List.getElem?_eq_getElem hjN] at h2
      exact ⟨_, List.getElem?_eq_getElem hjN, h2⟩
  have hback : ∀ (k : Nat) (o : Oper), (all.take m)[k]? = some o → k < m ∧ all.toArray[k]? = some o := fun k o hk => by
    have hkl := (List.getElem?_eq_some_iff.1 hk).1
    have hkm : k < m := by
      rw [List.length_take] at hkl
      omega
    rw [List.getElem?_take_of_lt hkm] at hk
    exact ⟨hkm, by simpa using hk⟩
  refine wp_region_any hm ?_
  refine any_slotsU (E := E) (U := U) (m := m) (Tf := Tf) (a0 := a0) (SS := SS) (S := S) (SF := SF) hmle hseal hstep (fun f w hf => hSS f w (by simpa using hf)) (fun f w hf => hF f w (by simpa using hf)) (fun j o ho i oi hoi hne w w' h1 h2 => ?_) (fun d p hp => ?_) hbd (fun i o hi ho => ?_) (fun i o ho => (hrow i o ho).1) (fun j o hj ho => ?_) (fun a w hSw hdef hsz hfr hold => ?_) _ _ _ _ ?_ ?_ ?_
  · by_cases hd : oi.dst = none
    · rw [hd]
      exact hEn _
    · refine hE o.dst oi.dst (fun e => ?_) _ _ h1 h2
      obtain ⟨d, hd'⟩ := Option.ne_none_iff_exists'.1 hd
      exact hne (dist_inj all [] hD i j oi o d (hops i oi hoi) (hops j o ho) hd' (e.trans hd'))
  · -- each fact lasts
    rcases hmem d p (lookup_mem hp) with h1 | ⟨_, k, o, hk, hod⟩
    · cases h1
    · obtain ⟨hkm, hk'⟩ := hback k o hk
      obtain ⟨n, hn, _⟩ := (hrow k o hk').2 hkm
      obtain ⟨T, hT, _, hT2⟩ := hall k n o hn hk
      obtain rfl := Option.some.inj ((hT2 d hod).symm.trans hp)
      rw [← hod]
      exact hT
  · have := List.all_eq_true.1 hguard o (List.mem_of_getElem? (htk i o hi ho))
    simpa using this
  · obtain ⟨n, hn, h1⟩ := (hrow j o ho).2 hj
    obtain ⟨T, _, hT1, hT2⟩ := hall j n o hn (htk j o hj ho)
    exact ⟨n, T, h1, fun x hx u hu i o' ho' hd' => hU j n hn x hx u hu i o' (hops i o' ho') hd', hT1, hT2⟩
  · obtain ⟨p1, p2, p3⟩ := putAll_spec (fun d => a.eval (.tmp d)) (all.take m) a0 (fun o ho d hd => by
      obtain ⟨i, hi, he⟩ := List.getElem_of_mem ho
      obtain ⟨_, hi'⟩ := hback i o (by rw [List.getElem?_eq_getElem hi, he])
      exact hbd i o d hi' hd)
    have e : a = putAll (fun d => a.eval (.tmp d)) (all.take m) a0 := by
      refine act_ext (hdef.trans p1.symm) (hsz.trans p2.symm) fun x => ?_
      by_cases hx : ∃ o ∈ all.take m, o.dst = some x
      · exact ((p3 x).1 hx).symm
      · rw [(p3 x).2 hx]
        exact hold x fun i o hi ho hd => hx ⟨o, List.mem_of_getElem? (htk i o hi ho), hd⟩
    rw [e]
    refine hfin _ w hSw (factsAtU_of fun d p hdp hun => ?_)
    rcases hmem d p hdp with h1 | ⟨hlk, k, o, hk, hod⟩
    · cases h1
    · obtain ⟨hkm, hk'⟩ := hback k o hk
      exact hfr k o d p hkm hk' hod hlk hun
  · simp
  · intro j _ hj
    simp at hj
    simp [hj]
  · refine ⟨by simp, by simpa using h0, fun _ _ _ _ => hE0 _, rfl, rfl, fun i o ho hli => ?_, fun i o d p ho hli => ?_, fun x _ => rfl⟩
    · rw [rep_false] at hli
      cases hli
    · rw [rep_false] at hli
      cases hli

theorem slotU_eq {P : Program} {a0 : Act} {S : World → Prop} {E : Option Tmp → World → Prop} {U : Tmp → Option Tmp} {R : ReachU} {Fin : Facts → Prop} {n : List (Tmp × Bool)} {N : List (List (Tmp × Bool))} {o : Oper} {l : List Oper} {Ts : Facts} {e : Value}
    (h : oblU P a0 S E R n o Ts (fun v _ => v = e)) (hr : wpSlotsU P a0 S E U R Fin N l (addFact o (fun v _ => v = e) Ts)) : wpSlotsU P a0 S E U R Fin (n :: N) (o :: l) Ts :=
  ⟨_, lastsU_eq _ _ _ _, h, hr⟩

theorem slotU_fact {P : Program} {a0 : Act} {S : World → Prop} {E : Option Tmp → World → Prop} {U : Tmp → Option Tmp} {R : ReachU} {Fin : Facts → Prop} {n : List (Tmp × Bool)} {N : List (List (Tmp × Bool))} {o : Oper} {l : List Oper} {Ts : Facts} (T : Fact) (hT : lastsU U R o.dst T)
    (h : oblU P a0 S E R n o Ts T) (hr : wpSlotsU P a0 S E U R Fin N l (addFact o T Ts)) : wpSlotsU P a0 S E U R Fin (n :: N) (o :: l) Ts :=
  ⟨T, hT, h, hr⟩

theorem slotU_end {P : Program} {a0 : Act} {S : World → Prop} {E : Option Tmp → World → Prop} {U : Tmp → Option Tmp} {R : ReachU} {Fin : Facts → Prop} {Ts : Facts} (h : Fin Ts) : wpSlotsU P a0 S E U R Fin [] [] Ts := h

end Go.Proofs.Ytojgahcogpediaa

/- Rows of dependencies of one's own that grow. -/
namespace Go.Proofs.Ytojgahcogpediaa
open Go.ChangeShapes Go.WideShapes Go.ChangeAt Go.RowKit Go.Joins

def dpVals (d : Dp) : List Value := [.int .i64 d.k, .int .i64 d.c, .int .i64 d.s, .int .i64 d.q]

theorem dps_at : ∀ (ds : List Dp) (i c : Nat), i < ds.length → c < 4 → (ds.flatMap dpVals)[i * 4 + c]? = (dpVals (ds.getD i dz))[c]?
  | [], i, c, hi, _ => by simp at hi
  | e :: r, 0, c, _, hc => by
    rw [List.flatMap_cons, List.getElem?_append_left (by simp [dpVals]; omega)]
    simp
  | e :: r, i + 1, c, hi, hc => by
    rw [List.flatMap_cons, List.getElem?_append_right (by simp [dpVals]; omega)]
    have := dps_at r i c (by simpa using hi) hc
    rw [show (i + 1) * 4 + c - (dpVals e).length = i * 4 + c by simp [dpVals]; omega, this]
    simp

/-- A row of dependencies of one's own, from block number base on; it may be nil. -/
def RowD (w : World) (base : Nat) (v : Value) (ds : List Dp) : Prop := w.ownsRow base 98 4 v ds.length (ds.flatMap dpVals)

theorem RowD.below {w w' : World} {base : Nat} {v : Value} {ds : List Dp} (h : RowD w base v ds) (hb : Below w.heap.size w w') : RowD w' base v ds :=
  World.ownsRow.kept (row := none) h ⟨hb.os, hb.tape, hb.output, hb.size, fun k hk _ => hb.block k hk⟩ (by
    by_cases e : v.ownBlock = none
    · exact .inl e
    · exact .inr e)

theorem RowD.mono {w : World} {base base' : Nat} {v : Value} {ds : List Dp} (h : RowD w base v ds) (hb : base' ≤ base) : RowD w base' v ds := by
  refine ⟨h.1, ?_⟩
  rcases h.2 with h1 | ⟨g, cap, cur, h1, h2, h3⟩
  · exact .inl h1
  · exact .inr ⟨g, cap, cur, h1, Nat.le_trans hb h2, h3⟩

/-- Dependencies of one's own, between two block numbers. -/
def OwnD (w : World) (lo hi : Nat) (a : Option Addr) (ds : List Dp) : Prop :=
  ds = [] ∨ ∃ g, a = some ⟨g, 0, none⟩ ∧ lo ≤ g ∧ g < hi ∧ g < w.heap.size ∧ HoldsDeps w g 0 ds ∧ ∀ o, w.frozen? ⟨g, o, none⟩ = false

theorem OwnD.isDeps {w : World} {lo hi : Nat} {a : Option Addr} {ds : List Dp} (h : OwnD w lo hi a ds) : IsDeps w a ds := by
  rcases h with h | ⟨g, ha, _, _, hlt, hh, _⟩
  · exact .inl h
  · exact .inr ⟨g, 0, ha, hlt, hh⟩

theorem RowD.form {w : World} {base : Nat} {v : Value} {ds : List Dp} (h : RowD w base v ds) : ∃ a cap, v = .slice a ds.length cap ∧ OwnD w base w.heap.size a ds := by
  rcases h.2 with ⟨h1, h2⟩ | ⟨g, cap, cur, h1, h2, h3, _⟩
  · exact ⟨none, 0, by rw [h1, h2], .inl (List.length_eq_zero_iff.1 h2)⟩
  · have hlt : g < w.heap.size := (Array.getElem?_eq_some_iff.1 h3).1
    subst h1
    refine ⟨_, cap, rfl, .inr ⟨g, rfl, h2, hlt, hlt, fun i hi => ?_, fun o => World.ownsRow.frozenAt h o⟩⟩
    rw [Nat.zero_add]
    have c : ∀ c, c < 4 → w.cell? ⟨g, i * 4 + c, none⟩ = (dpVals (ds.getD i dz))[c]? := fun c hc => by rw [World.ownsRow.cellAt h _ (by omega), dps_at ds i c hi hc]
    exact ⟨c 0 (by omega), c 1 (by omega), c 2 (by omega), c 3 (by omega)⟩

theorem oneD_cells (w : World) (t : Nat) (d : Dp) : ∀ j u, (dpVals d)[j]? = some u → (w.alloc (.cells #[.int .i64 d.k, .int .i64 d.c, .int .i64 d.s, .int .i64 d.q] t)).cell? ((⟨w.heap.size, 0, none⟩ : Addr).add j) = some u := by
  intro j u hu
  have e1 : (⟨w.heap.size, 0, none⟩ : Addr).add j = ⟨w.heap.size, j, none⟩ := by
    unfold Addr.add
    split
    · rename_i h
      rw [h]
    · simp
  rw [e1, cell_of_row _ _ j _ t (0, 0) (heap_alloc_new w _), ← hu]
  simp [dpVals]

theorem dp_one (d : Dp) : ∀ u ∈ dpVals d, u.oneCell' = true := by
  intro u hu
  simp only [dpVals, List.mem_cons, List.not_mem_nil, or_false] at hu
  rcases hu with rfl | rfl | rfl | rfl <;> rfl

end Go.Proofs.Ytojgahcogpediaa

/- An append inside a region that draws its order; what its operations may turn. -/
namespace Go.Proofs.Ytojgahcogpediaa
open Go.ChangeShapes Go.WideShapes Go.ChangeAt Go.RowKit Go.Joins

theorem add_block (g j : Nat) : ((⟨g, 0, none⟩ : Addr).add j) = ⟨g, j, none⟩ := by
  unfold Addr.add
  split
  · rename_i h
    rw [h]
  · simp

theorem got_append {P : Program} {K : Value → World → Prop} {o : Oper} {ρ : Operand → Value} {w : World} (s x : Operand) (t : TypeId)
    (ho : o.op = .call { callee := .builtin .append, args := #[s, x], argTypes := #[t, t] })
    (base : Nat) (e : TypeId) (i : TypeInfo) (z : Value) (size bytes : Nat) (ht : P.underlying t = some (.slice e)) (hi : P.info? e = some i) (hz : i.zero = some z)
    (hsize : i.size = size) (hby : i.bytes = bytes) (hzs : z.cells.size = size) (hsz : 0 < size)
    (v : Value) (n : Nat) (xs : List Value) (hs : ρ s = v) (hown : w.ownsRow base e size v n xs)
    (ad : Addr) (m c : Nat) (news : List Value) (hx : ρ x = .slice (some ad) m c) (hl : news.length = m * size) (hnews : ∀ j u, news[j]? = some u → w.cell? (ad.add j) = some u) (h1 : ∀ u ∈ news, u.oneCell' = true)
    (hm : 0 < m) (h63 : n + m ≤ maxLen) (hbytes : (n + m) * bytes ≤ 140737488355328) (hbase : base ≤ w.heap.size) (H : Nat) (hH : w.heap.size = H)
    (h : ∀ g cap w', w'.ownsRow base e size (.slice (some ⟨g, 0, none⟩) (n + m) cap) (n + m) (xs ++ news) → w.grownBy w' v.ownBlock → (v.ownBlock = some g ∨ g = H) → g < w'.heap.size → K (.slice (some ⟨g, 0, none⟩) (n + m) cap) w') : got P K ((execOp ρ o).run P w) := by
  obtain ⟨g, cap, w', hr, h2, h3, h4, h5⟩ := run_append_lies (P := P) w t o.type base e i z size bytes ht hi hz hsize hby hzs hsz v n xs hown ad m c news hl hnews h1 hm h63 hbytes hbase H hH
  unfold execOp
  simp only [ho, resolve, invoke, builtin, Sem.run_bind, Sem.run_pure, Result.andThen_ok, List.map_toArray, List.map_cons, List.map_nil, hs, hx, hr]
  exact h g cap w' h2 h3 h4 h5

/-- What an operation may turn: the append, which fills slot s, the block of its row; all others nothing that was there. -/
def AppS (s : Tmp) (ob : Option Nat) : ReachU := fun d w w' => if d = some s then w.grownBy w' ob else Below w.heap.size w w'

theorem appS_below {s : Tmp} {ob : Option Nat} {d : Option Tmp} {w w' : World} (hd : d ≠ some s) (h : AppS s ob d w w') : Below w.heap.size w w' := by
  unfold AppS at h
  rw [if_neg hd] at h
  exact h

theorem appS_refl {s : Tmp} {ob : Option Nat} {d : Option Tmp} (hd : d ≠ some s) (w : World) : AppS s ob d w w := by
  unfold AppS
  rw [if_neg hd]
  exact Below.refl _ _

theorem appS_alloc {s : Tmp} {ob : Option Nat} {d : Option Tmp} (hd : d ≠ some s) (w : World) (o : Obj) : AppS s ob d w (w.alloc o) := by
  unfold AppS
  rw [if_neg hd]
  exact (Below.refl _ _).alloc (Nat.le_refl _) _

theorem appS_grown {s : Tmp} {ob : Option Nat} {w w' : World} (h : w.grownBy w' ob) : AppS s ob (some s) w w' := by
  unfold AppS
  rw [if_pos rfl]
  exact h

theorem grown_of_below {w w' : World} (h : Below w.heap.size w w') (ob : Option Nat) : w.grownBy w' ob := ⟨h.os, h.tape, h.output, h.size, fun k hk _ => h.block k hk⟩

theorem appS_any {s : Tmp} {ob : Option Nat} {d : Option Tmp} {w w' : World} (h : AppS s ob d w w') : w.grownBy w' ob := by
  by_cases hd : d = some s
  · unfold AppS at h
    rw [if_pos hd] at h
    exact h
  · exact grown_of_below (appS_below hd h) ob

theorem grown_trans {w w' w2 : World} {ob : Option Nat} (h : w.grownBy w' ob) (h' : w'.grownBy w2 ob) : w.grownBy w2 ob :=
  ⟨h'.os.trans h.os, h'.tape.trans h.tape, h'.output.trans h.output, Nat.le_trans h.size h'.size, fun k hk hn => (h'.block k (Nat.lt_of_lt_of_le hk h.size) hn).trans (h.block k hk hn)⟩

theorem grown_set (w : World) (b o : Nat) (v : Value) : w.grownBy (w.setCell ⟨b, o, none⟩ v) (some b) := by
  refine ⟨rfl, rfl, rfl, by simp, fun k hk hne => ?_⟩
  have : b ≠ k := fun e => hne (by rw [e])
  simp [World.setCell, Array.getElem?_modify, this]

end Go.Proofs.Ytojgahcogpediaa

/- Contracts of the registers' put and putAll. -/
namespace Go.Proofs.Ytojgahcogpediaa
open Go.ChangeShapes Go.WideShapes Go.ChangeAt Go.RowKit Go.Joins
attribute [local go_sem ↓] Go.wp_at_zero Go.wp_at_succ

/-- Registers that hold the writes M, whose dependencies lie in the world w0. -/
def RegsW (w0 w : World) (b n : Nat) (M : Int → Option Wr) : Prop :=
  ∃ f, RegsAre w b n f ∧ ∀ k, (M k = none → f k = none) ∧ ∀ x, M k = some x → ∃ ad cp, f k = some (wrOf x ad cp) ∧ IsDeps w0 ad x.xs ∧ x.xs.length ≤ 1048576

set_option maxRecDepth 100000 in
theorem RegsW.of_block {w0 w w' : World} {b n : Nat} {M : Int → Option Wr} (h : RegsW w0 w b n M) (hb : w'.heap[b]? = w.heap[b]?) : RegsW w0 w' b n M := by
  obtain ⟨f, h1, h2⟩ := h
  exact ⟨f, h1.of_block hb, h2⟩

set_option maxRecDepth 100000 in
theorem RegsW.lt {w0 w : World} {b n : Nat} {M : Int → Option Wr} (h : RegsW w0 w b n M) : b < w.heap.size := by
  obtain ⟨f, h1, _⟩ := h
  exact h1.lt

set_option maxRecDepth 100000 in
theorem RegsW.below {w0 w w' : World} {b n : Nat} {M : Int → Option Wr} (h : RegsW w0 w b n M) (hb : Below w.heap.size w w') : RegsW w0 w' b n M := h.of_block (hb.block b h.lt)

set_option maxRecDepth 100000 in
theorem look_none {w0 w : World} {ops : Array Oper} {rest : List Oper} {o : Oper} {a : Act} {Q : Exit → Act → World → Prop} (hg : o.guard = none) (m x : Operand) (hop : o.op = Op.lookup 84 m x true)
    {b n : Nat} {M : Int → Option Wr} (h : RegsW w0 w b n M) (k : Int) (hk : 0 ≤ k ∧ k ≤ 5) (hM : M k = none) (hm : a.eval m = .map (some b)) (hx : a.eval x = slotV k)
    (hK : wpList Try.prog ops Q rest (a.put o.dst (.tuple #[wrV 0 0 0 0 0 false none 0 0, .bool false])) w) : wpList Try.prog ops Q (o :: rest) a w := by
  obtain ⟨f, h1, h2⟩ := h
  refine wpList_look hg m x hop h1 k (by omega) hm hx ?_
  rw [(h2 k).1 hM]
  exact hK

set_option maxRecDepth 100000 in
theorem look_some {w0 w : World} {ops : Array Oper} {rest : List Oper} {o : Oper} {a : Act} {Q : Exit → Act → World → Prop} (hg : o.guard = none) (m x : Operand) (hop : o.op = Op.lookup 84 m x true)
    {b n : Nat} {M : Int → Option Wr} (h : RegsW w0 w b n M) (k : Int) (hk : 0 ≤ k ∧ k ≤ 5) (y : Wr) (hM : M k = some y) (hm : a.eval m = .map (some b)) (hx : a.eval x = slotV k)
    (hK : ∀ ad cp, IsDeps w0 ad y.xs → y.xs.length ≤ 1048576 → wpList Try.prog ops Q rest (a.put o.dst (.tuple #[wrOf y ad cp, .bool true])) w) : wpList Try.prog ops Q (o :: rest) a w := by
  obtain ⟨f, h1, h2⟩ := h
  obtain ⟨ad, cp, h3, h4, h5⟩ := (h2 k).2 y hM
  refine wpList_look hg m x hop h1 k (by omega) hm hx ?_
  rw [h3]
  exact hK ad cp h4 h5

set_option maxRecDepth 100000 in
theorem store_regs {w0 w : World} {ops : Array Oper} {rest : List Oper} {o : Oper} {a : Act} {Q : Exit → Act → World → Prop} (hg : o.guard = none) (m x u : Operand) (hop : o.op = Op.mapUpdate 84 m x u)
    {b n : Nat} {M : Int → Option Wr} (h : RegsW w0 w b n M) (hn : n < maxLen) (k : Int) (hk : 0 ≤ k ∧ k ≤ 5) (y : Wr) (ad : Option Addr) (cp : Nat) (hd : IsDeps w0 ad y.xs) (hl : y.xs.length ≤ 1048576) (hm : a.eval m = .map (some b)) (hx : a.eval x = slotV k) (hu : a.eval u = wrOf y ad cp)
    (hK : ∀ w', RegsW w0 w' b (n + 1) (fun j => if j = k then some y else M j) → w.mapTurned w' b → wpList Try.prog ops Q rest (a.put o.dst undef) w') : wpList Try.prog ops Q (o :: rest) a w := by
  obtain ⟨f, h1, h2⟩ := h
  refine wpList_store hg m x u hop h1 hn k (by omega) _ hm hx hu fun w' h3 h4 => hK w' ⟨_, h3, fun j => ?_⟩ h4
  by_cases e : j = k
  · simp only [if_pos e]
    exact ⟨fun h => (by cases h), fun z hz => by
      injection hz with hz
      subst hz
      exact ⟨ad, cp, rfl, hd, hl⟩⟩
  · show ((if j = k then some y else M j) = none → (if j = k then some (wrOf y ad cp) else f j) = none) ∧ _
    simp only [if_neg e]
    exact h2 j

set_option maxRecDepth 100000 in
theorem regPut_none {M : Int → Option Wr} {x : Wr} (h : M x.k = none) : regPut M x = fun j => if j = x.k then some x else M j := by
  funext j
  unfold regPut
  rw [h]
  rfl

set_option maxRecDepth 100000 in
theorem regPut_later {M : Int → Option Wr} {x y : Wr} (h : M x.k = some y) (hc : 0 < cmpW x y) : regPut M x = fun j => if j = x.k then some x else M j := by
  funext j
  unfold regPut
  rw [h]
  have : cmpW y x < 0 := by
    have := wcmp_neg x.k x.c x.s x.q x.v x.de x.xs y.k y.c y.s y.q y.v y.de y.xs
    unfold cmpW at *
    omega
  simp [laterO, this]

set_option maxRecDepth 100000 in
theorem regPut_same {M : Int → Option Wr} {x y : Wr} (h : M x.k = some y) (hc : ¬ 0 < cmpW x y) : regPut M x = M := by
  funext j
  unfold regPut
  have : ¬ cmpW y x < 0 := by
    have := wcmp_neg x.k x.c x.s x.q x.v x.de x.xs y.k y.c y.s y.q y.v y.de y.xs
    unfold cmpW at *
    omega
  by_cases e : j = x.k
  · rw [if_pos e, h, e, h]
    simp [laterO, this]
  · rw [if_neg e]

set_option maxRecDepth 100000 in
theorem foldl_take {α : Type} (f : α → Wr → α) (ws : List Wr) (s : α) (k : Nat) (h : k < ws.length) : (ws.take (k + 1)).foldl f s = f ((ws.take k).foldl f s) (ws.getD k wz) := by
  have e : ws.take (k + 1) = ws.take k ++ [ws.getD k wz] := by
    rw [List.take_add_one, List.getElem?_eq_getElem h]
    simp [List.getD, h]
  rw [e, List.foldl_append]
  rfl

/-- Registers that hold the writes M, of whose dependencies D is known. -/
def RegsP (D : Option Addr → List Dp → Prop) (w : World) (b n : Nat) (M : Int → Option Wr) : Prop :=
  ∃ f, RegsAre w b n f ∧ ∀ k, (M k = none → f k = none) ∧ ∀ x, M k = some x → ∃ ad cp, f k = some (wrOf x ad cp) ∧ D ad x.xs ∧ x.xs.length ≤ 1048576

set_option maxRecDepth 100000 in
theorem RegsP.of_block {D : Option Addr → List Dp → Prop} {w w' : World} {b n : Nat} {M : Int → Option Wr} (h : RegsP D w b n M) (hb : w'.heap[b]? = w.heap[b]?) : RegsP D w' b n M := by
  obtain ⟨f, h1, h2⟩ := h
  exact ⟨f, h1.of_block hb, h2⟩

set_option maxRecDepth 100000 in
theorem RegsP.lt {D : Option Addr → List Dp → Prop} {w : World} {b n : Nat} {M : Int → Option Wr} (h : RegsP D w b n M) : b < w.heap.size := by
  obtain ⟨f, h1, _⟩ := h
  exact h1.lt

set_option maxRecDepth 100000 in
theorem RegsP.below {D : Option Addr → List Dp → Prop} {w w' : World} {b n : Nat} {M : Int → Option Wr} (h : RegsP D w b n M) (hb : Below w.heap.size w w') : RegsP D w' b n M := h.of_block (hb.block b h.lt)

set_option maxRecDepth 100000 in
theorem look_noneP {D : Option Addr → List Dp → Prop} {w : World} {ops : Array Oper} {rest : List Oper} {o : Oper} {a : Act} {Q : Exit → Act → World → Prop} (hg : o.guard = none) (m x : Operand) (hop : o.op = Op.lookup 84 m x true)
    {b n : Nat} {M : Int → Option Wr} (h : RegsP D w b n M) (k : Int) (hk : 0 ≤ k ∧ k ≤ 5) (hM : M k = none) (hm : a.eval m = .map (some b)) (hx : a.eval x = slotV k)
    (hK : wpList Try.prog ops Q rest (a.put o.dst (.tuple #[wrV 0 0 0 0 0 false none 0 0, .bool false])) w) : wpList Try.prog ops Q (o :: rest) a w := by
  obtain ⟨f, h1, h2⟩ := h
  refine wpList_look hg m x hop h1 k (by omega) hm hx ?_
  rw [(h2 k).1 hM]
  exact hK

set_option maxRecDepth 100000 in
theorem look_someP {D : Option Addr → List Dp → Prop} {w : World} {ops : Array Oper} {rest : List Oper} {o : Oper} {a : Act} {Q : Exit → Act → World → Prop} (hg : o.guard = none) (m x : Operand) (hop : o.op = Op.lookup 84 m x true)
    {b n : Nat} {M : Int → Option Wr} (h : RegsP D w b n M) (k : Int) (hk : 0 ≤ k ∧ k ≤ 5) (y : Wr) (hM : M k = some y) (hm : a.eval m = .map (some b)) (hx : a.eval x = slotV k)
    (hK : ∀ ad cp, D ad y.xs → y.xs.length ≤ 1048576 → wpList Try.prog ops Q rest (a.put o.dst (.tuple #[wrOf y ad cp, .bool true])) w) : wpList Try.prog ops Q (o :: rest) a w := by
  obtain ⟨f, h1, h2⟩ := h
  obtain ⟨ad, cp, h3, h4, h5⟩ := (h2 k).2 y hM
  refine wpList_look hg m x hop h1 k (by omega) hm hx ?_
  rw [h3]
  exact hK ad cp h4 h5

set_option maxRecDepth 100000 in
theorem store_regsP {D : Option Addr → List Dp → Prop} {w : World} {ops : Array Oper} {rest : List Oper} {o : Oper} {a : Act} {Q : Exit → Act → World → Prop} (hg : o.guard = none) (m x u : Operand) (hop : o.op = Op.mapUpdate 84 m x u)
    {b n : Nat} {M : Int → Option Wr} (h : RegsP D w b n M) (hn : n < maxLen) (k : Int) (hk : 0 ≤ k ∧ k ≤ 5) (y : Wr) (ad : Option Addr) (cp : Nat) (hd : D ad y.xs) (hl : y.xs.length ≤ 1048576) (hm : a.eval m = .map (some b)) (hx : a.eval x = slotV k) (hu : a.eval u = wrOf y ad cp)
    (hK : ∀ w', RegsP D w' b (n + 1) (fun j => if j = k then some y else M j) → w.mapTurned w' b → wpList Try.prog ops Q rest (a.put o.dst undef) w') : wpList Try.prog ops Q (o :: rest) a w := by
  obtain ⟨f, h1, h2⟩ := h
  refine wpList_store hg m x u hop h1 hn k (by omega) _ hm hx hu fun w' h3 h4 => hK w' ⟨_, h3, fun j => ?_⟩ h4
  by_cases e : j = k
  · simp only [if_pos e]
    exact ⟨fun h => (by cases h), fun z hz => by
      injection hz with hz
      subst hz
      exact ⟨ad, cp, rfl, hd, hl⟩⟩
  · show ((if j = k then some y else M j) = none → (if j = k then some (wrOf y ad cp) else f j) = none) ∧ _
    simp only [if_neg e]
    exact h2 j

set_option maxRecDepth 100000 in
set_option maxHeartbeats 8000000 in
/-- One write is put: of its key the later one stays. -/
theorem put_p (D : Option Addr → List Dp → Prop) (b m : Nat) (M : Int → Option Wr) (x : Wr) (ad : Option Addr) (cp : Nat) (w : World) (hmm : m ≤ 4611686018427387904) (hxl : x.xs.length ≤ 1048576) (hk : 0 ≤ x.k ∧ x.k ≤ 5) (hd : D ad x.xs)
    (hN : ∀ w', Below w.heap.size w w' → ∀ ad xs, D ad xs → IsDeps w' ad xs) (hr : RegsP D w b m M) :
    Calls Try.prog 53 #[.map (some b), wrOf x ad cp] w fun e w' => e = .returned (.tuple #[]) ∧ RegsP D w' b (m + 1) (regPut M x) ∧ w.grownBy w' (some b) := by
  obtain ⟨xk, xc, xs', xq, xv, xd, xx⟩ := x
  simp only at hxl hk hd
  obtain ⟨k0, k5⟩ := hk
  have HN := Lib.hid hN
  have HR := Lib.hid hr
  have HD := Lib.hid hd
  clear hN hr hd
  have HBA : Hid (Below w.heap.size w (w.alloc (.cells #[.int .i64 xk, .int .i64 xc, .int .i64 xs', .int .i64 xq, .int .i64 xv, .bool xd, .slice ad xx.length cp] 41))) := (Below.refl _ _).alloc (Nat.le_refl _) _
  have HRA := Lib.hid (HR.out.below HBA.out)
  cases hM : M xk with
  | none =>
    have HP : Hid (regPut M ⟨xk, xc, xs', xq, xv, xd, xx⟩ = fun j => if j = xk then some ⟨xk, xc, xs', xq, xv, xd, xx⟩ else M j) := regPut_none hM
    have HM := Lib.hid hM
    clear hM
    have HBB : Hid (Below w.heap.size w ((w.alloc (.cells #[.int .i64 xk, .int .i64 xc, .int .i64 xs', .int .i64 xq, .int .i64 xv, .bool xd, .slice ad xx.length cp] 41)).alloc (.cells #[.int .i64 0, .int .i64 0, .int .i64 0, .int .i64 0, .int .i64 0, .bool false, .slice none 0 0] 41))) := HBA.out.alloc (by simp) _
    have HRB := Lib.hid (HR.out.below HBB.out)
    go_enter Try.func53, Try.ntmps53
    go_wp2_with (first | (at_lookup; refine look_noneP (by rfl) _ _ (by rfl) HRA.out xk ⟨k0, k5⟩ HM.out (by rfl) (by rfl) ?_) | (at_mapUpdate; refine store_regsP (by rfl) _ _ _ (by rfl) HRB.out (by unfold maxLen; omega) xk ⟨k0, k5⟩ ⟨xk, xc, xs', xq, xv, xd, xx⟩ ad cp HD.out hxl (by rfl) (by rfl) (by rfl) ?_; intro w1 hr1 ht1; refine Hid.out ?_))
    refine Lib.hid ?_
    have HR1 : Hid (RegsP D w1 b (m + 1) (regPut M ⟨xk, xc, xs', xq, xv, xd, xx⟩)) := by
      rw [HP.out]
      exact hr1
    have HB1 : Hid (w.grownBy w1 (some b)) := grown_trans (grown_of_below HBB.out (some b)) ht1.grown
    clear hr1 ht1
    go_wp2
    exact bodyPost_end (v := .tuple #[]) (by simp [results, Try.results53]) rfl ⟨rfl, HR1.out, HB1.out⟩
  | some y =>
    have HPL : Hid (0 < cmpW ⟨xk, xc, xs', xq, xv, xd, xx⟩ y → regPut M ⟨xk, xc, xs', xq, xv, xd, xx⟩ = fun j => if j = xk then some ⟨xk, xc, xs', xq, xv, xd, xx⟩ else M j) := fun h => regPut_later hM h
    have HPS : Hid (cmpW ⟨xk, xc, xs', xq, xv, xd, xx⟩ y ≤ 0 → regPut M ⟨xk, xc, xs', xq, xv, xd, xx⟩ = M) := fun h => regPut_same hM (Int.not_lt.2 h)
    have HM := Lib.hid hM
    clear hM
    obtain ⟨yk, yc, ys, yq, yv, yd, yy⟩ := y
    go_enter Try.func53, Try.ntmps53
    go_wp2_with (at_lookup; refine look_someP (by rfl) _ _ (by rfl) HRA.out xk ⟨k0, k5⟩ _ HM.out (by rfl) (by rfl) ?_; intro ad2 cp2 hd2 hl2)
    have HD2 := Lib.hid hd2
    clear hd2
    have HBB : Hid (Below w.heap.size w ((w.alloc (.cells #[.int .i64 xk, .int .i64 xc, .int .i64 xs', .int .i64 xq, .int .i64 xv, .bool xd, .slice ad xx.length cp] 41)).alloc (.cells #[.int .i64 yk, .int .i64 yc, .int .i64 ys, .int .i64 yq, .int .i64 yv, .bool yd, .slice ad2 yy.length cp2] 41))) := HBA.out.alloc (by simp) _
    refine (implWriteCmp_gen xk xc xs' xq xv xd ad xx _ cp yk yc ys yq yv yd ad2 yy _ cp2 _ rfl rfl hxl hl2 (HN.out _ HBB.out _ _ HD.out) (HN.out _ HBB.out _ _ HD2.out)).mono ?_
    rintro e w2 ⟨rfl, hb⟩
    have HX2 : Hid (BoxIn w w2 xk xc xs' xq xv xd ad xx.length cp) := BoxIn.start (t := 41) (below_step ((Below.refl _ _).alloc (Nat.le_refl _) _) (by simp) hb)
    have HB2 := Lib.hid (grown_of_below HX2.out.below (some b))
    have HR2 := Lib.hid (HR.out.below HX2.out.below)
    clear hb HBB HBA HRA
    by_cases hc : 0 < wcmp xk xc xs' xq xv xd xx yk yc ys yq yv yd yy
    · have HP := Lib.hid (HPL.out hc)
      clear HPL HPS
      have b0 := HX2.out.c0
      have b1 := HX2.out.c1
      have b2 := HX2.out.c2
      have b3 := HX2.out.c3
      have b4 := HX2.out.c4
      have b5 := HX2.out.c5
      have b6 := HX2.out.c6
      generalize wcmp xk xc xs' xq xv xd xx yk yc ys yq yv yd yy = z at *
      go_wp2_with (at_mapUpdate; refine store_regsP (by rfl) _ _ _ (by rfl) HR2.out (by unfold maxLen; omega) xk ⟨k0, k5⟩ ⟨xk, xc, xs', xq, xv, xd, xx⟩ ad cp HD.out hxl (by rfl) (by rfl) (by rfl) ?_; intro w3 hr3 ht3; refine Hid.out ?_)
      refine Lib.hid ?_
      have HR3 : Hid (RegsP D w3 b (m + 1) (regPut M ⟨xk, xc, xs', xq, xv, xd, xx⟩)) := by
        rw [HP.out]
        exact hr3
      have HB3 : Hid (w.grownBy w3 (some b)) := grown_trans HB2.out ht3.grown
      clear hr3 ht3
      go_wp2
      exact bodyPost_end (v := .tuple #[]) (by simp [results, Try.results53]) rfl ⟨rfl, HR3.out, HB3.out⟩
    · have HP := Lib.hid (HPS.out (Int.not_lt.1 hc))
      clear HPL HPS
      have HR3 : Hid (RegsP D w2 b (m + 1) (regPut M ⟨xk, xc, xs', xq, xv, xd, xx⟩)) := by
        rw [HP.out]
        obtain ⟨f, h1, h2⟩ := HR2.out
        obtain ⟨E, h3, h4⟩ := h1
        exact ⟨f, ⟨E, h3.mono (by omega), h4⟩, h2⟩
      generalize wcmp xk xc xs' xq xv xd xx yk yc ys yq yv yd yy = z at *
      go_wp2
      exact bodyPost_end (v := .tuple #[]) (by simp [results, Try.results53]) rfl ⟨rfl, HR3.out, HB2.out⟩

set_option maxRecDepth 100000 in
theorem putOne_any (w0 : World) (b m : Nat) (M : Int → Option Wr) (x : Wr) (ad : Option Addr) (cp : Nat) (w : World) (hmm : m ≤ 4611686018427387904) (hxl : x.xs.length ≤ 1048576) (hk : 0 ≤ x.k ∧ x.k ≤ 5) (hd : IsDeps w0 ad x.xs) (hb : Below w0.heap.size w0 w) (hB : w0.heap.size ≤ b) (hr : RegsW w0 w b m M) :
    Calls Try.prog 53 #[.map (some b), wrOf x ad cp] w fun e w' => e = .returned (.tuple #[]) ∧ RegsW w0 w' b (m + 1) (regPut M x) ∧ Below w0.heap.size w0 w' := by
  refine (put_p (IsDeps w0) b m M x ad cp w hmm hxl hk hd (fun w' h ad xs hx => hx.below (below_step hb hb.size h)) hr).mono ?_
  rintro e w' ⟨he, h1, h2⟩
  exact ⟨he, h1, hb.grown h2 hb.size fun j hj => by injection hj with hj; omega⟩

set_option maxRecDepth 100000 in
set_option maxHeartbeats 8000000 in
theorem putAll_any (w0 : World) (b m : Nat) (M : Int → Option Wr) (a : Option Addr) (n cap : Nat) (ws : List Wr) (w : World) (hn : ws.length = n) (hm : n ≤ 1048576) (hmm : m ≤ 1048576) (hx : Few ws) (hk : ∀ i, i < ws.length → 0 ≤ (ws.getD i wz).k ∧ (ws.getD i wz).k ≤ 5)
    (hi : IsWs w0 a ws) (hb : Below w0.heap.size w0 w) (hB : w0.heap.size ≤ b) (hr : RegsW w0 w b m M) :
    Calls Try.prog 52 #[.map (some b), .slice a n cap] w fun e w' => e = .returned (.tuple #[]) ∧ RegsW w0 w' b (m + n) (ws.foldl regPut M) ∧ Below w0.heap.size w0 w' := by
  have HI : Hid (IsWs w0 a ws) := hi
  have HN : Hid (ws.length = n) := hn
  have HX : Hid (Few ws) := hx
  have HKY : Hid (∀ i, i < ws.length → 0 ≤ (ws.getD i wz).k ∧ (ws.getD i wz).k ≤ 5) := hk
  have HR0 : Hid (RegsW w0 w b m M) := hr
  have HB0 : Hid (Below w0.heap.size w0 w) := hb
  clear hi hn hx hk hr hb
  go_enter Try.func52, Try.ntmps52
  go_wp2
  go_loopw [8] (fun i wr => ∃ k : Nat, k ≤ n ∧ i = .int .i64 k ∧ Hid (RegsW w0 wr b (m + k) ((ws.take k).foldl regPut M)) ∧ Hid (Below w0.heap.size w0 wr)) (fun i _ => n - (intOf i).toNat)
  case atStart => exact ⟨0, Nat.zero_le _, rfl, HR0, HB0⟩
  case round =>
    clear HR0 HB0
    obtain ⟨k, hk, rfl, HR, HB⟩ := hrel
    by_cases hk' : k < n
    · obtain ⟨bl, o, ad, cp, rfl, hz, ⟨e0, e1, e2, e3, e4, e5, e6⟩, hd⟩ := HI.out.base HB.out HN.out hk'
      have HD := Lib.hid hd
      have i1 : (0 : Int) ≤ (k : Int) := by omega
      have i2 : (k : Int) < (n : Int) := by omega
      have hkw : k < ws.length := by rw [HN.out]; exact hk'
      have hxl := HX.out k hkw
      have hky := HKY.out k hkw
      have HT : Hid ((ws.take (k + 1)).foldl regPut M = regPut ((ws.take k).foldl regPut M) (ws.getD k wz)) := foldl_take regPut ws M k hkw
      clear hd HI
      generalize ws.getD k wz = x at *
      obtain ⟨xk, xc, xs', xq, xv, xd, xx⟩ := x
      simp only at e0 e1 e2 e3 e4 e5 e6 HD hxl hky
      generalize (ws.take k).foldl regPut M = M1 at *
      have HBA : Hid (Below wr.heap.size wr (wr.alloc (.cells #[.int .i64 xk, .int .i64 xc, .int .i64 xs', .int .i64 xq, .int .i64 xv, .bool xd, .slice ad xx.length cp] 41))) := (Below.refl _ _).alloc (Nat.le_refl _) _
      have HRA := Lib.hid (HR.out.below HBA.out)
      have HB1 := Lib.hid (below_step HB.out HB.out.size HBA.out)
      go_wp2_with fail
      refine (putOne_any w0 b (m + k) M1 ⟨xk, xc, xs', xq, xv, xd, xx⟩ ad cp _ (by omega) hxl hky HD.out HB1.out hB HRA.out).mono ?_
      rintro e w2 ⟨rfl, hr2, hb2⟩
      have HR2 : Hid (RegsW w0 w2 b (m + (k + 1)) ((ws.take (k + 1)).foldl regPut M)) := by
        rw [HT.out]
        exact hr2
      have HB2 := Lib.hid hb2
      clear hr2 hb2
      go_wp2
      exact ⟨⟨k + 1, by omega, by go_num, HR2, HB2⟩, by simp [intOf]; omega⟩
    · have hkk : k = n := by omega
      subst hkk
      have HE : Hid (ws.take k = ws) := List.take_of_length_le (by rw [HN.out]; exact Nat.le_refl _)
      rw [HE.out] at HR
      go_wp2
      exact bodyPost_end (v := .tuple #[]) (by simp [results, Try.results52]) rfl ⟨rfl, HR.out, HB.out⟩

end Go.Proofs.Ytojgahcogpediaa

/- The contract of the registers' told. -/
namespace Go.Proofs.Ytojgahcogpediaa
open Go.ChangeShapes Go.WideShapes Go.ChangeAt Go.RowKit Go.Joins
attribute [local go_sem ↓] Go.wp_at_zero Go.wp_at_succ

def toldTo (M : Int → Option Wr) (k : Nat) : List Wr := (List.range k).filterMap fun (j : Nat) => M (j : Int)

set_option maxRecDepth 100000 in
theorem toldTo_none {M : Int → Option Wr} {k : Nat} (h : M (k : Int) = none) : toldTo M (k + 1) = toldTo M k := by
  unfold toldTo
  rw [List.range_succ, List.filterMap_append]
  simp [h]

set_option maxRecDepth 100000 in
theorem toldTo_some {M : Int → Option Wr} {k : Nat} {x : Wr} (h : M (k : Int) = some x) : toldTo M (k + 1) = toldTo M k ++ [x] := by
  unfold toldTo
  rw [List.range_succ, List.filterMap_append]
  simp [h]

set_option maxRecDepth 100000 in
theorem toldTo_six (M : Int → Option Wr) : toldTo M 6 = toldM M := by
  rfl

set_option maxRecDepth 100000 in
theorem toldTo_len (M : Int → Option Wr) (k : Nat) : (toldTo M k).length ≤ k := by
  unfold toldTo
  have := List.length_filterMap_le (fun j : Nat => M (j : Int)) (List.range k)
  simpa using this

set_option maxRecDepth 100000 in
set_option maxHeartbeats 8000000 in
theorem told_any (w0 : World) (b m : Nat) (M : Int → Option Wr) (w : World) (hb : Below w0.heap.size w0 w) (hr : RegsW w0 w b m M) :
    Calls Try.prog 54 #[.map (some b)] w fun e w' => ∃ v es, e = .returned v ∧ es.map (·.x) = toldM M ∧ RowG w' w.heap.size v es ∧ Below w.heap.size w w' := by
  have HR0 : Hid (RegsW w0 w b m M) := hr
  have HB0 : Hid (Below w0.heap.size w0 w) := hb
  clear hr hb
  obtain ⟨i0, hi0, hx0⟩ := Option.map_eq_some_iff.1 infoWr
  simp only [Prod.mk.injEq] at hx0
  have HI0 := Lib.hid hi0
  have HX0 := Lib.hid hx0
  clear hi0 hx0
  go_enter Try.func54, Try.ntmps54
  go_wp2
  go_loopw [3, 7] (fun t i wr => ∃ (k : Nat) (v : Value) (es : List EnG), k ≤ 6 ∧ i = .int .i64 k ∧ v = t ∧ Hid (es.map (·.x) = toldTo M k) ∧ Hid (RowG wr w.heap.size v es) ∧ Hid (Below w.heap.size w wr)) (fun _ i _ => 6 - (intOf i).toNat)
  case atStart => exact ⟨0, _, [], Nat.zero_le _, rfl, rfl, rfl, rowG_nil _ _, Below.refl _ _⟩
  case round =>
    obtain ⟨k, v, es, hk, rfl, rfl, HE, HR, HB⟩ := hrel
    have hln : es.length ≤ 6 := by
      have h1 := toldTo_len M k
      rw [← HE.out, List.length_map] at h1
      omega
    by_cases hk' : k < 6
    · have i1 : (0 : Int) ≤ (k : Int) := by omega
      have i2 : (k : Int) < 6 := by omega
      have HRW := Lib.hid (HR0.out.below HB.out)
      cases hM : M (k : Int) with
      | none =>
        have HE' : Hid (es.map (·.x) = toldTo M (k + 1)) := by
          rw [toldTo_none hM]
          exact HE
        have HM := Lib.hid hM
        clear hM
        have HBA : Hid (Below w.heap.size w (wr.alloc (.cells #[.int .i64 0, .int .i64 0, .int .i64 0, .int .i64 0, .int .i64 0, .bool false, .slice none 0 0] 41))) := HB.out.alloc HB.out.size _
        have HRA := Lib.hid (HR.out.below ((Below.refl wr.heap.size wr).alloc (Nat.le_refl _) (.cells #[.int .i64 0, .int .i64 0, .int .i64 0, .int .i64 0, .int .i64 0, .bool false, .slice none 0 0] 41)))
        go_wp2_with (at_lookup; refine look_none (by rfl) _ _ (by rfl) HRW.out (k : Int) ⟨i1, by omega⟩ HM.out (by rfl) (by rfl) ?_)
        exact ⟨⟨k + 1, _, es, by omega, by go_num, rfl, HE', HRA, HBA⟩, by simp [intOf]; omega⟩
      | some y =>
        have HE' : Hid (toldTo M (k + 1) = toldTo M k ++ [y]) := toldTo_some hM
        have HM := Lib.hid hM
        clear hM
        obtain ⟨yk, yc, ys, yq, yv, yd, yy⟩ := y
        go_wp2_with (at_lookup; refine look_some (by rfl) _ _ (by rfl) HRW.out (k : Int) ⟨i1, by omega⟩ _ HM.out (by rfl) (by rfl) ?_; intro ad cp hd hl)
        have HBA : Hid (Below wr.heap.size wr (wr.alloc (.cells #[.int .i64 yk, .int .i64 yc, .int .i64 ys, .int .i64 yq, .int .i64 yv, .bool yd, .slice ad yy.length cp] 41))) := (Below.refl _ _).alloc (Nat.le_refl _) _
        have HB1 := Lib.hid (below_step HB.out HB.out.size HBA.out)
        have HD := Lib.hid (hd.below (HB0.out.trans (HB1.out.mono HB0.out.size)))
        clear hd
        refine (icopy_any ⟨yk, yc, ys, yq, yv, yd, yy⟩ ad cp _ hl HD.out).mono ?_
        rintro e w2 ⟨a2, g2, cp2, rfl, hg, hb⟩
        have HB2 : Hid (Below w.heap.size w w2) := below_step HB1.out HB1.out.size hb
        have HG : Hid (FreshDeps wr.heap.size w2 a2 g2 yy) := hg.mono HBA.out.size
        have HR2 : Hid (RowG w2 w.heap.size _ es) := HR.out.below (below_step HBA.out HBA.out.size hb)
        have hwr : w.heap.size ≤ wr.heap.size := HB.out.size
        have HAP : Hid (∀ d ∈ es, 0 < d.x.xs.length → 0 < yy.length → d.g ≠ g2) := fun d hd hp hq => by
          have h1 := ((HR.out.deps d hd).1 hp).2.2.1
          have h2 := (HG.out hq).2.1
          omega
        have HV : Hid (0 < yy.length → v.ownBlock ≠ some g2) := fun hq e => by
          have h1 := (HR.out.own.lt g2 e).2
          have h2 := (HG.out hq).2.1
          omega
        clear hb hg HB1 HBA HD HM HRW
        have HBC : Hid (Below w2.heap.size w2 (w2.alloc (.cells #[.int .i64 yk, .int .i64 yc, .int .i64 ys, .int .i64 yq, .int .i64 yv, .bool yd, .slice a2 yy.length cp2] 41))) := (Below.refl _ _).alloc (Nat.le_refl _) _
        have HRC := Lib.hid (HR2.out.below HBC.out)
        have hsz : w.heap.size ≤ w2.heap.size := HB2.out.size
        go_wp2_with (at_builtin; refine wpList_append_lies _ (by rfl) _ _ _ (by rfl) w.heap.size 41 i0 (wrV 0 0 0 0 0 false none 0 0) 7 72 Try.underlying44 HI0.out HX0.out.1 HX0.out.2.1 HX0.out.2.2 (by rfl) (by omega) v es.length (es.flatMap wrValsG) (by rfl) HRC.out.own ⟨w2.heap.size, 0, none⟩ 1 1 (wrValsG ⟨⟨yk, yc, ys, yq, yv, yd, yy⟩, a2, g2, cp2⟩) (by rfl) (by rfl) (oneG_cells w2 _ ⟨⟨yk, yc, ys, yq, yv, yd, yy⟩, a2, g2, cp2⟩) (by simpa using valsG_one [⟨⟨yk, yc, ys, yq, yv, yd, yy⟩, a2, g2, cp2⟩]) (by omega) (by unfold maxLen; omega) (by omega) (by simp; omega) _ rfl ?_; intro g3 cp3 w5 hown hgrow hg3 _; refine Hid.out ?_)
        refine Lib.hid ?_
        have HB5 : Hid (Below w.heap.size w w5) := (HB2.out.alloc hsz _).grown hgrow (by simp; omega) fun j hj => (HR2.out.own.lt j hj).1
        have HR5 : Hid (RowG w5 w.heap.size (.slice (some ⟨g3, 0, none⟩) (es.length + 1) cp3) (es ++ [⟨⟨yk, yc, ys, yq, yv, yd, yy⟩, a2, g2, cp2⟩])) :=
          HRC.out.more ((HG.out.below HBC.out).mono hwr) HV.out HAP.out hown hgrow hg3
        have HE5 : Hid ((es ++ [(⟨⟨yk, yc, ys, yq, yv, yd, yy⟩, a2, g2, cp2⟩ : EnG)]).map (·.x) = toldTo M (k + 1)) := by
          rw [HE'.out, List.map_append, HE.out]
          exact Lib.hid rfl
        clear hown hgrow HRC HBC
        go_wp2
        exact ⟨⟨k + 1, _, _, by omega, by go_num, rfl, HE5, HR5, HB5⟩, by simp [intOf]; omega⟩
    · have hkk : k = 6 := by omega
      subst hkk
      have HF : Hid (es.map (·.x) = toldM M) := by
        rw [← toldTo_six]
        exact HE
      go_wp2
      go_ret
      exact ⟨_, es, rfl, HF.out, HR.out, HB.out⟩

end Go.Proofs.Ytojgahcogpediaa

/- Contracts of the specification's l02Join, MapJoin, MapPut. -/
namespace Go.Proofs.Ytojgahcogpediaa
open Go.ChangeShapes Go.WideShapes Go.ChangeAt Go.RowKit Go.Joins
attribute [local go_sem ↓] Go.wp_at_zero Go.wp_at_succ

theorem join_few : ∀ (vs us : List Wr), Few us → Few vs → Few (joinW us vs)
  | [], us, h, _ => h
  | x :: r, us, h, h' => by
    rw [few_iff] at h'
    exact join_few r (putW us x) (put_few h (h' x (by simp))) (few_iff.2 fun z hz => h' z (by simp [hz]))

theorem few_take {ws : List Wr} (h : Few ws) (k : Nat) : Few (ws.take k) := by
  rw [few_iff] at *
  exact fun x hx => h x (List.mem_of_mem_take hx)

set_option maxHeartbeats 4000000 in
theorem l02Join_gen (a b : Option Addr) (n m cap cap' : Nat) (us vs : List Wr) (w : World) (hn : us.length = n) (hm : vs.length = m) (hs : n + m ≤ 1048576) (hx : Few us) (hy : Few vs) (hi : IsWs w a us) (hj : IsWs w b vs) :
    Calls Try.prog 50 #[.slice a n cap, .slice b m cap'] w fun e w' => ∃ g cp es L, e = .returned (.slice (some ⟨g, 0, none⟩) L cp) ∧ es.length = L ∧ es.map (·.x) = joinW us vs ∧ RowEs w' w.heap.size g cp es ∧ Below w.heap.size w w' := by
  have HI : Hid (IsWs w a us) := hi
  have HJ : Hid (IsWs w b vs) := hj
  have HN : Hid (us.length = n) := hn
  have HM : Hid (vs.length = m) := hm
  have HX : Hid (Few us) := hx
  have HY : Hid (Few vs) := hy
  clear hi hj hn hm hx hy
  go_enter Try.func50, Try.ntmps50
  go_wp2_with fail
  refine (copies_gen a n cap us _ HN.out (by omega) HX.out HI.out).mono ?_
  rintro e w1 ⟨g0, cp0, es0, rfl, he0, hr0, hb0⟩
  have HE0 := Lib.hid he0
  have HR0 := Lib.hid hr0
  have HB0 := Lib.hid hb0
  clear he0 hr0 hb0
  go_wp2
  go_loopw [5, 6] (fun t i wr => ∃ (k L g cp : Nat) (es : List En), k ≤ m ∧ L ≤ n + k ∧ i = .int .i64 k ∧ t = .slice (some ⟨g, 0, none⟩) L cp ∧ Hid (es.length = L) ∧ Hid (es.map (·.x) = joinW us (vs.take k)) ∧ Hid (RowEs wr w.heap.size g cp es) ∧ Hid (Below w.heap.size w wr)) (fun _ i _ => m - (intOf i).toNat)
  case atStart => exact ⟨0, n, g0, cp0, es0, Nat.zero_le _, Nat.le_refl _, rfl, rfl, by have := congrArg List.length HE0.out; simp at this; exact this.trans HN.out, HE0, HR0, HB0⟩
  case round =>
    clear HE0 HR0 HB0
    obtain ⟨k, L, g, cp, es, hk, hL, rfl, rfl, HL, HE, HR, HB⟩ := hrel
    by_cases hk' : k < m
    · obtain ⟨bb, oo, ad, cq, rfl, hz, ⟨e0, e1, e2, e3, e4, e5, e6⟩, hd⟩ := HJ.out.at HB.out HM.out hk'
      have i1 : (0 : Int) ≤ (k : Int) := by omega
      have i2 : (k : Int) < (m : Int) := by omega
      have hkb : k < vs.length := by rw [HM.out]; exact hk'
      have hxl := HY.out k hkb
      have HD := Lib.hid hd
      have HW : Hid (HoldsWs wr g (joinW us (vs.take k)) (gamma es)) := HR.out.holds HE.out
      have HF : Hid (Few (joinW us (vs.take k))) := join_few _ _ HX.out (few_take HY.out k)
      have HLL : Hid ((joinW us (vs.take k)).length = L) := by
        rw [← HE.out, List.length_map]
        exact HL
      have HT : Hid (joinW us (vs.take (k + 1)) = putW (joinW us (vs.take k)) (vs.getD k wz)) := foldl_take putW vs us k hkb
      clear hd HJ
      generalize vs.getD k wz = x at *
      obtain ⟨xk, xc, xs', xq, xv, xd, xx⟩ := x
      simp only at e0 e1 e2 e3 e4 e5 e6 hxl HD
      generalize joinW us (vs.take k) = ms at *
      go_wp2_with fail
      refine (put_gen _ L cp ms ⟨xk, xc, xs', xq, xv, xd, xx⟩ ad cq _ HLL.out (by omega) HF.out (HW.out.isWs HF.out) hxl HD.out).mono ?_
      rintro e w2 ⟨g2, cp2, es2, L2, rfl, hl2, he2, hr2, hb2⟩
      have hL2 : L2 ≤ L + 1 := by
        have h1 := put_len ms ⟨xk, xc, xs', xq, xv, xd, xx⟩
        rw [← he2, HLL.out, List.length_map, hl2] at h1
        exact h1
      have HL2 := Lib.hid hl2
      have HE2 : Hid (es2.map (·.x) = joinW us (vs.take (k + 1))) := he2.trans HT.out.symm
      have HR2 := Lib.hid (hr2.mono (Nat.le_trans HB.out.size (Nat.le_succ _)))
      have HB2 := Lib.hid (below_step HB.out HB.out.size hb2)
      clear hl2 he2 hr2 hb2
      go_wp2
      exact ⟨⟨k + 1, L2, g2, cp2, es2, by omega, by omega, by go_num, rfl, HL2, HE2, HR2, HB2⟩, by simp [intOf]; omega⟩
    · have hkk : k = m := by omega
      subst hkk
      have HF : Hid (es.map (·.x) = joinW us vs) := by
        have h := HE.out
        rw [List.take_of_length_le (by rw [HM.out]; exact Nat.le_refl _)] at h
        exact h
      go_wp2
      go_ret
      exact ⟨g, cp, es, L, rfl, HL.out, HF.out, HR.out, HB.out⟩

theorem l02Join_any (b c n m cap cap' : Nat) (us vs : List Wr) (γ δ : Nat → Nat) (w : World) (hn : us.length = n) (hm : vs.length = m) (hs : n + m ≤ 1048576) (hx : Few us) (hy : Few vs) (hi : HoldsWs w b us γ) (hj : HoldsWs w c vs δ) :
    Calls Try.prog 50 #[.slice (some ⟨b, 0, none⟩) n cap, .slice (some ⟨c, 0, none⟩) m cap'] w fun e w' => ∃ g cp es L, e = .returned (.slice (some ⟨g, 0, none⟩) L cp) ∧ es.length = L ∧ es.map (·.x) = joinW us vs ∧ RowEs w' w.heap.size g cp es ∧ Below w.heap.size w w' :=
  l02Join_gen _ _ n m cap cap' us vs w hn hm hs hx hy (hi.isWs hx) (hj.isWs hy)

end Go.Proofs.Ytojgahcogpediaa

/- Lists of batches: what a slice of batches leads to; the contracts of eqBatch, eqBatchS; spec.Replay. -/
namespace Go.Proofs.Ytojgahcogpediaa
open Go.ChangeShapes Go.WideShapes Go.ChangeAt Go.RowKit Go.Joins
attribute [local go_sem ↓] Go.wp_at_zero Go.wp_at_succ

/-- What a slice of batches leads to. -/
def IsBs (w : World) (a : Option Addr) (bs : List (List Wr)) : Prop :=
  bs = [] ∨ ∃ b o, a = some ⟨b, o, none⟩ ∧ b < w.heap.size ∧ ∀ i, i < bs.length → ∃ a' cap, w.cell? ⟨b, o + i, none⟩ = some (.slice a' (bs.getD i []).length cap) ∧ IsWs w a' (bs.getD i [])

set_option maxRecDepth 100000 in
theorem IsBs.below {w w' : World} {a : Option Addr} {bs : List (List Wr)} (h : IsBs w a bs) (hb : Below w.heap.size w w') : IsBs w' a bs := by
  rcases h with h | ⟨b, o, ha, hlt, hh⟩
  · exact .inl h
  · refine .inr ⟨b, o, ha, Nat.lt_of_lt_of_le hlt hb.size, fun i hi => ?_⟩
    obtain ⟨a', cap, hc, hw⟩ := hh i hi
    exact ⟨a', cap, (hb.cell (p := ⟨b, o + i, none⟩) hlt).trans hc, hw.below hb⟩

set_option maxRecDepth 100000 in
theorem IsBs.at {w w' : World} {a : Option Addr} {bs : List (List Wr)} (h : IsBs w a bs) (hb : Below w.heap.size w w') {k : Nat} (hk : k < bs.length) : ∃ b o a' cap, a = some ⟨b, o, none⟩ ∧ b < w'.heap.size ∧ w'.cell? ⟨b, o + k, none⟩ = some (.slice a' (bs.getD k []).length cap) ∧ IsWs w' a' (bs.getD k []) := by
  rcases h.below hb with h | ⟨b, o, ha, hlt, hh⟩
  · subst h
    simp at hk
  · obtain ⟨a', cap, hc, hw⟩ := hh k hk
    exact ⟨b, o, a', cap, ha, hlt, hc, hw⟩

/-- All batches have few writes, each with few dependencies. -/
def FewB (bs : List (List Wr)) : Prop := ∀ i, i < bs.length → (bs.getD i []).length ≤ 1048576 ∧ Few (bs.getD i [])

end Go.Proofs.Ytojgahcogpediaa

/- The sizes of batches: the contracts of szBatch and szBatchS. -/
namespace Go.Proofs.Ytojgahcogpediaa
open Go.ChangeShapes Go.WideShapes Go.ChangeAt Go.RowKit Go.Joins
attribute [local go_sem ↓] Go.wp_at_zero Go.wp_at_succ

/-- How much the batches hold. -/
def heftB : List (List Wr) → Nat
  | [] => 0
  | ws :: r => ws.length + bulk ws + heftB r

set_option maxRecDepth 100000 in
theorem heft_take : ∀ (bs : List (List Wr)) (k : Nat), k < bs.length → heftB (bs.take (k + 1)) = heftB (bs.take k) + ((bs.getD k []).length + bulk (bs.getD k []))
  | [], k, h => by simp at h
  | b :: r, 0, _ => by simp [heftB]
  | b :: r, k + 1, h => by
    have ih := heft_take r k (by simpa using h)
    simp only [List.take_succ_cons, heftB, List.getD_cons_succ]
    omega

set_option maxRecDepth 100000 in
theorem heft_one : ∀ (bs : List (List Wr)) (i : Nat), i < bs.length → (bs.getD i []).length + bulk (bs.getD i []) ≤ heftB bs
  | [], i, h => by simp at h
  | b :: r, 0, _ => by simp [heftB]
  | b :: r, i + 1, h => by
    have ih := heft_one r i (by simpa using h)
    simp only [heftB, List.getD_cons_succ]
    omega

set_option maxRecDepth 100000 in
theorem few_heft {bs : List (List Wr)} (h : heftB bs ≤ 1048576) : FewB bs := fun i hi => by
  have := heft_one bs i hi
  exact ⟨by omega, few_of_bulk (by omega)⟩

end Go.Proofs.Ytojgahcogpediaa
