import Derived.Test.YtkgojpmjnehcnaaPack5
import Derived.Test.YtkgojpmjnehcnaaPack2
import Derived.Test.YtkgojpmjnehcnaaPack4
import Derived.Test.YtkgojpmjnehcnaaPack3
import Derived.Lib.Hide
/- As Slots, where each operation has a reach of its own ('R', by the slot that it fills), and where a fact may last only till one operation has come ('U'): for regions in which an append lies. No Go text in sight. -/
namespace Go.Proofs.Ytkgojpmjnehcnaa

abbrev ReachU := Option Tmp → World → World → Prop

def oblU (P : Program) (a0 : Act) (S : World → Prop) (E : Option Tmp → World → Prop) (R : ReachU) (n : List (Tmp × Bool)) (o : Oper) (Ts : Facts) (T : Fact) : Prop :=
  ∀ ρ w, Plain ρ → S w → E o.dst w → needs Ts a0 ρ w n → got P (fun v w' => R o.dst w w' ∧ T v w') ((execOp ρ o).run P w)

/-- A fact of slot dst lasts, whichever other operation comes, but for the one at which it ends. -/
def lastsU (U : Tmp → Option Tmp) (R : ReachU) (dst : Option Tmp) (T : Fact) : Prop := ∀ d', d' ≠ dst → (∀ d u, dst = some d → U d = some u → d' ≠ some u) → lasts (R d') T

theorem lastsU_eq (U : Tmp → Option Tmp) (R : ReachU) (dst : Option Tmp) (e : Value) : lastsU U R dst (fun v _ => v = e) := fun _ _ _ _ _ _ h _ => h

def wpSlotsU (P : Program) (a0 : Act) (S : World → Prop) (E : Option Tmp → World → Prop) (U : Tmp → Option Tmp) (R : ReachU) (Fin : Facts → Prop) : List (List (Tmp × Bool)) → List Oper → Facts → Prop
  | n :: N, o :: l, Ts => ∃ T : Fact, lastsU U R o.dst T ∧ oblU P a0 S E R n o Ts T ∧ wpSlotsU P a0 S E U R Fin N l (addFact o T Ts)
  | [], [], Ts => Fin Ts
  | _, _, _ => False

theorem collectU {P : Program} {a0 : Act} {S : World → Prop} {E : Option Tmp → World → Prop} {U : Tmp → Option Tmp} {R : ReachU} {Fin : Facts → Prop} : ∀ (N : List (List (Tmp × Bool))) (l : List Oper) (Ts : Facts), wpSlotsU P a0 S E U R Fin N l Ts → distB l (Ts.map (·.1)) = true →
    ∃ Tf, Fin Tf ∧ (∀ x p, Ts.lookup x = some p → Tf.lookup x = some p) ∧ (∀ d p, (d, p) ∈ Tf → (d, p) ∈ Ts ∨ (Tf.lookup d = some p ∧ ∃ (k : Nat) (o : Oper), l[k]? = some o ∧ o.dst = some d)) ∧ ∀ (k : Nat) (n : List (Tmp × Bool)) (o : Oper), N[k]? = some n → l[k]? = some o → ∃ T : Fact, lastsU U R o.dst T ∧ oblU P a0 S E R n o Tf T ∧ ∀ d, o.dst = some d → Tf.lookup d = some T
  | [], [], Ts, h, _ => ⟨Ts, h, fun _ _ h => h, fun _ _ h => .inl h, fun k n o hn _ => by simp at hn⟩
  | [], _ :: _, _, h, _ => h.elim
  | _ :: _, [], _, h, _ => h.elim
  | n :: N, o :: l, Ts, h, hd => by
    obtain ⟨T, hl, ho, hrest⟩ := h
    have hsub : ∀ x p, Ts.lookup x = some p → (addFact o T Ts).lookup x = some p := by
      intro x p hx
      unfold addFact
      cases hod : o.dst with
      | none => exact hx
      | some d =>
        simp only [distB, hod, Bool.and_eq_true, Bool.not_eq_true'] at hd
        have hne : x ≠ d := fun e => by rw [e, lookup_none_of hd.1] at hx; cases hx
        rw [List.lookup_cons, beq_eq_false_iff_ne.2 hne]
        exact hx
    have hd' : distB l ((addFact o T Ts).map (·.1)) = true := by
      unfold addFact
      cases hod : o.dst with
      | none => simpa [distB, hod] using hd
      | some d =>
        simp only [distB, hod, Bool.and_eq_true] at hd
        simpa using hd.2
    obtain ⟨Tf, hfin, hmono, hmem, hall⟩ := collectU N l (addFact o T Ts) hrest hd'
    have hhead : ∀ d, o.dst = some d → Tf.lookup d = some T := fun d hod => hmono d T (by unfold addFact; rw [hod]; simp)
    refine ⟨Tf, hfin, fun x p hx => hmono x p (hsub x p hx), fun d p hdp => ?_, fun k n' o' hn ho' => ?_⟩
    · rcases hmem d p hdp with h1 | ⟨h1, k, o', hk, hod⟩
      · unfold addFact at h1
        cases hod : o.dst with
        | none => rw [hod] at h1; exact .inl h1
        | some d' =>
          rw [hod] at h1
          rcases List.mem_cons.1 h1 with h2 | h2
          · obtain ⟨rfl, rfl⟩ := Prod.mk.inj h2
            exact .inr ⟨hhead _ hod, 0, o, rfl, hod⟩
          · exact .inl h2
      · exact .inr ⟨h1, k + 1, o', by simpa using hk, hod⟩
    cases k with
    | zero =>
      simp only [List.getElem?_cons_zero, Option.some.injEq] at hn ho'
      subst hn ho'
      refine ⟨T, hl, fun ρ w hp hS hE hn => ho ρ w hp hS hE (needs_mono (fun x p hx => hmono x p (hsub x p hx)) hn), hhead⟩
    | succ k =>
      exact hall k n' o' (by simpa using hn) (by simpa using ho')

/-- The facts that stand at the end, by their values. -/
@[simp] def factsAtU (U : Tmp → Option Tmp) (vs : Tmp → Value) (w : World) : Facts → Prop
  | [] => True
  | (d, p) :: r => (U d = none → p (vs d) w) ∧ factsAtU U vs w r

theorem factsAtU_of {U : Tmp → Option Tmp} {vs : Tmp → Value} {w : World} : ∀ {Tf : Facts}, (∀ d p, (d, p) ∈ Tf → U d = none → p (vs d) w) → factsAtU U vs w Tf
  | [], _ => trivial
  | (d, p) :: r, h => ⟨h d p (by simp), factsAtU_of fun d' p' h' => h d' p' (List.mem_cons_of_mem _ h')⟩

/-- The operation at which slot d's fact ends has not come. -/
def Still (U : Tmp → Option Tmp) (ops : Array Oper) (listed : Array Bool) (d : Tmp) : Prop := ∀ u, U d = some u → ∀ (i : Nat) (o : Oper), ops[i]? = some o → o.dst = some u → listed.getD i false = false

structure InvU (E : Option Tmp → World → Prop) (U : Tmp → Option Tmp) (ops : Array Oper) (a0 : Act) (S : World → Prop) (Tf : Facts) (listed : Array Bool) (a : Act) (w : World) : Prop where
  size : listed.size = ops.size
  ok : S w
  ex : ∀ (i : Nat) (o : Oper), ops[i]? = some o → listed.getD i false = false → E o.dst w
  defers : a.defers = a0.defers
  len : a.tmps.size = a0.tmps.size
  down : ∀ i o, ops[i]? = some o → listed.getD i false = true → ∀ e ∈ o.after, Region.binds .any e = true → listed.getD e.on false = true
  fresh : ∀ i o d p, ops[i]? = some o → listed.getD i false = true → o.dst = some d → Tf.lookup d = some p → Still U ops listed d → p (a.eval (.tmp d)) w
  old : ∀ x, (∀ i o, ops[i]? = some o → listed.getD i false = true → o.dst ≠ some x) → a.eval (.tmp x) = a0.eval (.tmp x)

theorem needs_ofU {E : Option Tmp → World → Prop} {U : Tmp → Option Tmp} {ops : Array Oper} {a0 : Act} {S : World → Prop} {Tf : Facts} {listed : Array Bool} {a : Act} {w : World} (hI : InvU E U ops a0 S Tf listed a w) {j : Nat} {o : Oper} (hj : ops[j]? = some o) (hun : listed.getD j false = false)
    (hall : ∀ e ∈ o.after, Region.binds .any e = true → listed.getD e.on false = true) : ∀ (n : List (Tmp × Bool)), tabRowB ops j o n = true → (∀ x, (x, true) ∈ n → Still U ops listed x) → needs0 Tf a0 a.eval w n
  | [], _, _ => trivial
  | (x, true) :: r, h, hst => by
    simp only [tabRowB, Bool.and_eq_true] at h
    refine ⟨?_, needs_ofU hI hj hun hall r h.2 (fun x hx => hst x (List.mem_cons_of_mem _ hx))⟩
    cases hl : Tf.lookup x with
    | none => trivial
    | some p =>
      obtain ⟨e, he, hb⟩ := Array.any_eq_true'.1 h.1
      simp only [Bool.and_eq_true, beq_iff_eq] at hb
      obtain ⟨oi, hoi, hdi⟩ := Option.bind_eq_some_iff.1 hb.2
      exact hI.fresh e.on oi x p hoi (hall e he hb.1) hdi hl (hst x (by simp))
  | (x, false) :: r, h, hst => by
    simp only [tabRowB, Bool.and_eq_true] at h
    refine ⟨hI.old x fun i oi hoi hli hdi => ?_, needs_ofU hI hj hun hall r h.2 (fun x hx => hst x (List.mem_cons_of_mem _ hx))⟩
    have hlt : i < ops.size := (Array.getElem?_eq_some_iff.1 hoi).1
    have h1 := List.all_eq_true.1 h.1 i (List.mem_range.2 hlt)
    simp only [hoi, hdi, beq_self_eq_true, Bool.not_true, Bool.false_or, Bool.or_eq_true, beq_iff_eq] at h1
    rcases h1 with rfl | hw
    · rw [hun] at hli
      cases hli
    · obtain ⟨e, he, hb⟩ := Array.any_eq_true'.1 hw
      simp only [Bool.and_eq_true, beq_iff_eq] at hb
      have := hI.down i oi hoi hli e he hb.1
      rw [hb.2, hun] at this
      cases this

theorem inv_stepU {E : Option Tmp → World → Prop} {U : Tmp → Option Tmp} {ops : Array Oper} {a0 : Act} {S S' : World → Prop} {R : ReachU} {Tf : Facts} {j : Nat} {o : Oper} (hS : ∀ w w', S w → R o.dst w w' → S' w') (hE : ∀ (i : Nat) (oi : Oper), ops[i]? = some oi → i ≠ j → ∀ w w', E oi.dst w → R o.dst w w' → E oi.dst w') (hl : ∀ d p, Tf.lookup d = some p → lastsU U R (some d) p)
    (hbd : ∀ (i : Nat) (o : Oper) (d : Tmp), ops[i]? = some o → o.dst = some d → d < a0.tmps.size) {listed : Array Bool} {a : Act} {w w' : World} (hI : InvU E U ops a0 S Tf listed a w) (hj : ops[j]? = some o)
    (hall : ∀ e ∈ o.after, Region.binds .any e = true → listed.getD e.on false = true) {T : Fact} (hT : ∀ d, o.dst = some d → Tf.lookup d = some T) {v : Value} (hR : R o.dst w w') (hv : T v w') :
    InvU E U ops a0 S' Tf (listed.setIfInBounds j true) (a.put o.dst v) w' where
  size := by simpa using hI.size
  ok := hS _ _ hI.ok hR
  ex := by
    intro i oi hoi hli
    by_cases e : j = i
    · subst e
      have hlt : j < listed.size := by rw [hI.size]; exact (Array.getElem?_eq_some_iff.1 hj).1
      simp [hlt] at hli
    · rw [getD_set_ne false e] at hli
      exact hE i oi hoi (Ne.symm e) _ _ (hI.ex i oi hoi hli) hR
  defers := (put_def _ _ _).trans hI.defers
  len := (putA_len _ _ _).trans hI.len
  down := by
    intro i oi hoi hli e he hb
    by_cases hij : j = i
    · subst hij
      obtain rfl := Option.some.inj (hj.symm.trans hoi)
      exact getD_set_true (hall e he hb)
    · rw [getD_set_ne false hij] at hli
      exact getD_set_true (hI.down i oi hoi hli e he hb)
  fresh := by
    intro i oi d p hoi hli hdi hp hst
    by_cases hd : o.dst = some d
    · rw [hd, put_at _ _ _ (by rw [hI.len]; exact hbd j o d hj hd)]
      obtain rfl := Option.some.inj ((hT d hd).symm.trans hp)
      exact hv
    · have hij : j ≠ i := fun e => by
        subst e
        obtain rfl := Option.some.inj (hj.symm.trans hoi)
        exact hd hdi
      rw [getD_set_ne false hij] at hli
      rw [put_off _ _ _ _ hd]
      have hst' : Still U ops listed d := fun u hu i' o' ho' hd' => by
        have h1 := hst u hu i' o' ho' hd'
        by_cases e : j = i'
        · subst e
          have hlt : j < listed.size := by rw [hI.size]; exact (Array.getElem?_eq_some_iff.1 hj).1
          simp [hlt] at h1
        · rwa [getD_set_ne false e] at h1
      refine hl d p hp o.dst hd (fun d0 u h0 hu => ?_) _ _ _ (hI.fresh i oi d p hoi hli hdi hp hst') hR
      obtain rfl := Option.some.inj h0
      intro e
      have h1 := hst u hu j o hj e
      have hlt : j < listed.size := by rw [hI.size]; exact (Array.getElem?_eq_some_iff.1 hj).1
      simp [hlt] at h1
  old := by
    intro x hx
    have hd : o.dst ≠ some x := hx j o hj (by
      have hlt : j < listed.size := by rw [hI.size]; exact (Array.getElem?_eq_some_iff.1 hj).1
      simp [hlt])
    rw [put_off _ _ _ _ hd]
    exact hI.old x fun i oi hoi hli => hx i oi hoi (getD_set_true hli)

/-- Whatever order is picked. -/
theorem any_slotsU {P : Program} {E : Option Tmp → World → Prop} {U : Tmp → Option Tmp} {ops : Array Oper} {a0 : Act} {S SF : World → Prop} {SS : Nat → World → Prop} {R : ReachU} {Tf : Facts} {Q : Exit → Act → World → Prop} {m : Nat} (hmle : m ≤ ops.size) (hseal : sealB ops m = true) (hstep : ∀ d f w w', SS (f + 1) w → R d w w' → SS f w') (hSS : ∀ f w, f < ops.size → SS (f + 1) w → S w) (hF : ∀ f w, f ≤ ops.size → SS f w → SF w) (hE : ∀ (j : Nat) (o : Oper), ops[j]? = some o → ∀ (i : Nat) (oi : Oper), ops[i]? = some oi → i ≠ j → ∀ w w', E oi.dst w → R o.dst w w' → E oi.dst w') (hl : ∀ d p, Tf.lookup d = some p → lastsU U R (some d) p)
    (hbd : ∀ (i : Nat) (o : Oper) (d : Tmp), ops[i]? = some o → o.dst = some d → d < a0.tmps.size) (hg : ∀ (i : Nat) (o : Oper), i < m → ops[i]? = some o → o.guard = none) (hlt : ∀ (i : Nat) (o : Oper), ops[i]? = some o → ∀ e ∈ o.after, Region.binds .any e = true → e.on < i)
    (hobl : ∀ (j : Nat) (o : Oper), j < m → ops[j]? = some o → ∃ n T, tabRowB ops j o n = true ∧ (∀ x, (x, true) ∈ n → ∀ u, U x = some u → ∀ (i : Nat) (o' : Oper), ops[i]? = some o' → o'.dst = some u → i = j) ∧ oblU P a0 S E R n o Tf T ∧ ∀ d, o.dst = some d → Tf.lookup d = some T)
    (hfin : ∀ a w, SF w → a.defers = a0.defers → a.tmps.size = a0.tmps.size → (∀ (i : Nat) (o : Oper) (d : Tmp) p, i < m → ops[i]? = some o → o.dst = some d → Tf.lookup d = some p → U d = none → p (a.eval (.tmp d)) w) → (∀ x, (∀ (i : Nat) (o : Oper), i < m → ops[i]? = some o → o.dst ≠ some x) → a.eval (.tmp x) = a0.eval (.tmp x)) → wpList P ops Q (ops.toList.drop m) a w) :
    ∀ (fuel : Nat) (listed : Array Bool) (a : Act) (w : World), listed.toList.count false = fuel → (∀ j, m ≤ j → j < ops.size → listed.getD j true = false) → InvU E U ops a0 (SS fuel) Tf listed a w → wpAny P .any ops Q fuel listed a w := by
  intro fuel
  induction fuel with
  | zero =>
    intro listed a w hc hm2 hI
    have hno : ∀ i, i < ops.size → listed.getD i false = true := fun i hi => by
      have hi' : i < listed.size := by rw [hI.size]; exact hi
      have : listed[i] ≠ false := fun h => by
        have := List.count_eq_zero.1 hc
        exact this (by rw [← h]; simp)
      simpa [hi'] using this
    have hms : m = ops.size := by
      rcases Nat.lt_or_ge m ops.size with h' | h'
      · have h3 := hno m h'
        rw [listed_ne hI.size h' (hm2 m (Nat.le_refl _) h')] at h3
        cases h3
      · omega
    refine any_tail hseal hlt 0 m listed a w (Nat.le_refl _) (by omega) hI.size (fun j hj => hno j (by omega)) hm2 ?_
    exact hfin a w (hF 0 w (Nat.zero_le _) hI.ok) hI.defers hI.len (fun i o d p _ ho hd hp hu => hI.fresh i o d p ho (hno i (Array.getElem?_eq_some_iff.1 ho).1) hd hp (fun u h => by rw [hu] at h; cases h)) (fun x hx => hI.old x fun i o ho _ => hx i o (by rw [hms]; exact (Array.getElem?_eq_some_iff.1 ho).1) ho)
  | succ fuel ih =>
    intro listed a w hc hm2 hI
    by_cases hdone : ∀ j, j < m → listed.getD j false = true
    · have hcnt := count_drop hI.size hmle hdone hm2
      refine any_tail hseal hlt (fuel + 1) m listed a w (Nat.le_refl _) (by omega) hI.size hdone hm2 ?_
      refine hfin a w (hF _ w (by have := List.count_le_length (a := false) (l := listed.toList); rw [hc, Array.length_toList, hI.size] at this; exact this) hI.ok) hI.defers hI.len (fun i o d p hi ho hd hp hu => hI.fresh i o d p ho (hdone i hi) hd hp (fun u h => by rw [hu] at h; cases h)) (fun x hx => hI.old x fun i o ho hli => ?_)
      refine hx i o ?_ ho
      rcases Nat.lt_or_ge i m with h' | h'
      · exact h'
      · have hil := (Array.getElem?_eq_some_iff.1 ho).1
        rw [listed_ne hI.size hil (hm2 i h' hil)] at hli
        cases hli
    · refine ⟨fun hr => absurd ?_ hdone, fun j hj => ?_⟩
      · -- the first that has not come up may come up
        have hall : ∀ k, k ≤ m → ∀ i, i < k → listed.getD i false = true := by
          intro k
          induction k with
          | zero => intro _ i hi; omega
          | succ k ihk =>
            intro hk i hi
            by_cases hik : i < k
            · exact ihk (by omega) i hik
            · have : i = k := by omega
              subst this
              have hi' : i < ops.size := by omega
              cases hb : listed.getD i true with
              | true =>
                have hi2 : i < listed.size := by rw [hI.size]; exact hi'
                simpa [hi2] using hb
              | false =>
                have hmem : i ∈ Region.ready .any ops listed := mem_ready.2 ⟨hb, ops[i], by simp [hi'], fun e he hbi => ihk (by omega) e.on (hlt i _ (by simp [hi']) e he hbi)⟩
                rw [hr] at hmem
                cases hmem
        exact hall m (Nat.le_refl _)
      · obtain ⟨h0, o, ho, hall⟩ := mem_ready.1 hj
        have hjlt := (Array.getElem?_eq_some_iff.1 ho).1
        have hjm : j < m := by
          rcases Nat.lt_or_ge j m with h' | h'
          · exact h'
          · exact absurd (fun i hi => sealed hseal hI.down ho h' hall (Nat.lt_of_lt_of_le hi h')) hdone
        obtain ⟨n, T, htab, huse, hob, hT⟩ := hobl j o hjm ho
        have hun := listed_ne hI.size hjlt h0
        have hgot := hob a.eval w (plain_eval a) (hSS fuel w (by have := List.count_le_length (a := false) (l := listed.toList); rw [hc, Array.length_toList, hI.size] at this; exact this) hI.ok) (hI.ex j o ho hun) (needs_iff.2 (needs_ofU hI ho hun hall n htab (fun x hx u hu i' o' ho' hd' => by rw [huse x hx u hu i' o' ho' hd']; exact hun)))
        unfold wpOp
        simp only [ho]
        rw [if_pos (by simp [Region.wanted, hg j o hjm ho])]
        refine .inl (upon_of_got (got_mono (fun v w' ⟨hR, hv⟩ => ?_) hgot))
        have hI' := inv_stepU (hstep o.dst fuel) (hE j o ho) hl hbd hI ho hall hT hR hv
        refine ih _ _ _ ?_ (fun i hi hi2 => by rw [getD_set_ne true (by omega)]; exact hm2 i hi hi2) hI'
        have hcs := count_set (by rw [hI.size]; exact hjlt) h0
        omega

theorem dist_out : ∀ (l : List Oper) (ks : List Tmp), distB l ks = true → ∀ (i : Nat) (o : Oper) (d : Tmp), l[i]? = some o → o.dst = some d → ks.contains d = false
  | [], _, _, i, o, d, h, _ => by simp at h
  | o :: l, ks, h, 0, o', d, ho, hd => by
    simp only [List.getElem?_cons_zero, Option.some.injEq] at ho
    subst ho
    simp only [distB, hd, Bool.and_eq_true, Bool.not_eq_true'] at h
    exact h.1
  | o :: l, ks, h, i + 1, o', d, ho, hd => by
    simp only [List.getElem?_cons_succ] at ho
    cases hod : o.dst with
    | none =>
      simp only [distB, hod] at h
      exact dist_out l ks h i o' d ho hd
    | some e =>
      simp only [distB, hod, Bool.and_eq_true] at h
      have := dist_out l (e :: ks) h.2 i o' d ho hd
      simp only [List.contains_cons, Bool.or_eq_false_iff] at this
      exact this.2

theorem dist_inj : ∀ (l : List Oper) (ks : List Tmp), distB l ks = true → ∀ (i i' : Nat) (o o' : Oper) (d : Tmp), l[i]? = some o → l[i']? = some o' → o.dst = some d → o'.dst = some d → i = i'
  | [], _, _, i, _, o, _, d, h, _, _, _ => by simp at h
  | p :: l, ks, h, 0, 0, o, o', d, _, _, _, _ => rfl
  | p :: l, ks, h, 0, i' + 1, o, o', d, ho, ho', hd, hd' => by
    simp only [List.getElem?_cons_zero, Option.some.injEq, List.getElem?_cons_succ] at ho ho'
    subst ho
    simp only [distB, hd, Bool.and_eq_true] at h
    have := dist_out l _ h.2 i' o' d ho' hd'
    simp at this
  | p :: l, ks, h, i + 1, 0, o, o', d, ho, ho', hd, hd' => by
    simp only [List.getElem?_cons_zero, Option.some.injEq, List.getElem?_cons_succ] at ho ho'
    subst ho'
    simp only [distB, hd', Bool.and_eq_true] at h
    have := dist_out l _ h.2 i o d ho hd
    simp at this
  | p :: l, ks, h, i + 1, i' + 1, o, o', d, ho, ho', hd, hd' => by
    simp only [List.getElem?_cons_succ] at ho ho'
    cases hod : p.dst with
    | none =>
      simp only [distB, hod] at h
      rw [dist_inj l ks h i i' o o' d ho ho' hd hd']
    | some e =>
      simp only [distB, hod, Bool.and_eq_true] at h
      rw [dist_inj l (e :: ks) h.2 i i' o o' d ho ho' hd hd']

/-- THE LAW, with a count of the operations that are still to come: the first operations 'l' in whatever order; those behind them ('r'), each of which waits for all ahead of it, in the order of the text. -/
theorem wp_region_slots_u {P : Program} {id : Nat} {Q : Exit → Act → World → Prop} {a0 : Act} {w0 : World} {all : List Oper} (m : Nat) (N : List (List (Tmp × Bool))) (S SF : World → Prop) (SS : Nat → World → Prop) (E : Option Tmp → World → Prop) (U : Tmp → Option Tmp) (R : ReachU)
    (hm : P.follows .mixedOrders = true) (hB : tidyB all.toArray m N = true) (hz : (all.all fun o => match o.dst with | some d => decide (d < a0.tmps.size) | none => true) = true)
    (h0 : SS all.length w0.drew) (hD : distB all [] = true) (hE0 : ∀ d, E d w0.drew) (hEn : ∀ w, E none w) (hE : ∀ d d', d ≠ d' → ∀ w w', E d' w → R d w w' → E d' w') (hU : ∀ (j : Nat) (n : List (Tmp × Bool)), N[j]? = some n → ∀ x, (x, true) ∈ n → ∀ u, U x = some u → ∀ (i : Nat) (o' : Oper), all[i]? = some o' → o'.dst = some u → i = j) (hstep : ∀ d f w w', SS (f + 1) w → R d w w' → SS f w') (hSS : ∀ f w, f < all.length → SS (f + 1) w → S w) (hF : ∀ f w, f ≤ all.length → SS f w → SF w)
    (h : wpSlotsU P a0 S E U R (fun Ts => ∀ vs w, SF w → factsAtU U vs w Ts → wpList P all.toArray Q (all.drop m) (putAll vs (all.take m) a0) w) N (all.take m) []) : (Code.region id all.toArray true).wp P Q a0 w0 := by
  simp only [tidyB, Bool.and_eq_true, beq_iff_eq, decide_eq_true_eq] at hB
  obtain ⟨⟨⟨⟨⟨hdist, hguard⟩, hlen⟩, hmle⟩, hseal⟩, htab⟩ := hB
  have hops : ∀ (i : Nat) (o : Oper), all.toArray[i]? = some o → all[i]? = some o := fun i o h => by simpa using h
  have hmemo : ∀ (i : Nat) (o : Oper), all.toArray[i]? = some o → o ∈ all := fun i o h => List.mem_of_getElem? (hops i o h)
  have htk : ∀ (i : Nat) (o : Oper), i < m → all.toArray[i]? = some o → (all.take m)[i]? = some o := fun i o hi h => by rw [List.getElem?_take_of_lt hi]; exact hops i o h
  have hbd : ∀ (i : Nat) (o : Oper) (d : Tmp), all.toArray[i]? = some o → o.dst = some d → d < a0.tmps.size := fun i o d ho hd => by
    have := List.all_eq_true.1 hz o (hmemo i o ho)
    simpa [hd] using this
  obtain ⟨Tf, hfin, _, hmem, hall⟩ := collectU N (all.take m) [] h (by simpa using hdist)
  have hrow : ∀ (j : Nat) (o : Oper), all.toArray[j]? = some o → (∀ e ∈ o.after, Region.binds .any e = true → e.on < j) ∧ (j < m → ∃ n, N[j]? = some n ∧ tabRowB all.toArray j o n = true) := fun j o ho => by
    have hj := (Array.getElem?_eq_some_iff.1 ho).1
    have h1 := List.all_eq_true.1 htab j (List.mem_range.2 hj)
    rw [ho] at h1
    simp only [Bool.and_eq_true] at h1
    refine ⟨fun e he hb => ?_, fun hjm => ?_⟩
    · have h2 := Array.all_eq_true'.1 h1.1 e he
      simpa [hb] using h2
    · have hjN : j < N.length := by rw [hlen]; exact hjm
      have h2 := h1.2
      rw [List.getElem?_eq_getElem hjN] at h2
      exact ⟨_, List.getElem?_eq_getElem hjN, h2⟩
  have hback : ∀ (k : Nat) (o : Oper), (all.take m)[k]? = some o → k < m ∧ all.toArray[k]? = some o := fun k o hk => by
    have hkl := (List.getElem?_eq_some_iff.1 hk).1
    have hkm : k < m := by
      rw [List.length_take] at hkl
      omega
    rw [List.getElem?_take_of_lt hkm] at hk
    exact ⟨hkm, by simpa using hk⟩
  refine wp_region_any hm ?_
  refine any_slotsU (E := E) (U := U) (m := m) (Tf := Tf) (a0 := a0) (SS := SS) (S := S) (SF := SF) hmle hseal hstep (fun f w hf => hSS f w (by simpa using hf)) (fun f w hf => hF f w (by simpa using hf)) (fun j o ho i oi hoi hne w w' h1 h2 => ?_) (fun d p hp => ?_) hbd (fun i o hi ho => ?_) (fun i o ho => (hrow i o ho).1) (fun j o hj ho => ?_) (fun a w hSw hdef hsz hfr hold => ?_) _ _ _ _ ?_ ?_ ?_
  · by_cases hd : oi.dst = none
    · rw [hd]
      exact hEn _
    · refine hE o.dst oi.dst (fun e => ?_) _ _ h1 h2
      obtain ⟨d, hd'⟩ := Option.ne_none_iff_exists'.1 hd
      exact hne (dist_inj all [] hD i j oi o d (hops i oi hoi) (hops j o ho) hd' (e.trans hd'))
  · -- each fact lasts
    rcases hmem d p (lookup_mem hp) with h1 | ⟨_, k, o, hk, hod⟩
    · cases h1
    · obtain ⟨hkm, hk'⟩ := hback k o hk
      obtain ⟨n, hn, _⟩ := (hrow k o hk').2 hkm
      obtain ⟨T, hT, _, hT2⟩ := hall k n o hn hk
      obtain rfl := Option.some.inj ((hT2 d hod).symm.trans hp)
      rw [← hod]
      exact hT
  · have := List.all_eq_true.1 hguard o (List.mem_of_getElem? (htk i o hi ho))
    simpa using this
  · obtain ⟨n, hn, h1⟩ := (hrow j o ho).2 hj
    obtain ⟨T, _, hT1, hT2⟩ := hall j n o hn (htk j o hj ho)
    exact ⟨n, T, h1, fun x hx u hu i o' ho' hd' => hU j n hn x hx u hu i o' (hops i o' ho') hd', hT1, hT2⟩
  · obtain ⟨p1, p2, p3⟩ := putAll_spec (fun d => a.eval (.tmp d)) (all.take m) a0 (fun o ho d hd => by
      obtain ⟨i, hi, he⟩ := List.getElem_of_mem ho
      obtain ⟨_, hi'⟩ := hback i o (by rw [List.getElem?_eq_getElem hi, he])
      exact hbd i o d hi' hd)
    have e : a = putAll (fun d => a.eval (.tmp d)) (all.take m) a0 := by
      refine act_ext (hdef.trans p1.symm) (hsz.trans p2.symm) fun x => ?_
      by_cases hx : ∃ o ∈ all.take m, o.dst = some x
      · exact ((p3 x).1 hx).symm
      · rw [(p3 x).2 hx]
        exact hold x fun i o hi ho hd => hx ⟨o, List.mem_of_getElem? (htk i o hi ho), hd⟩
    rw [e]
    refine hfin _ w hSw (factsAtU_of fun d p hdp hun => ?_)
    rcases hmem d p hdp with h1 | ⟨hlk, k, o, hk, hod⟩
    · cases h1
    · obtain ⟨hkm, hk'⟩ := hback k o hk
      exact hfr k o d p hkm hk' hod hlk hun
  · simp
  · intro j _ hj
    simp at hj
    simp [hj]
  · refine ⟨by simp, by simpa using h0, fun _ _ _ _ => hE0 _, rfl, rfl, fun i o ho hli => ?_, fun i o d p ho hli => ?_, fun x _ => rfl⟩
    · rw [rep_false] at hli
      cases hli
    · rw [rep_false] at hli
      cases hli

theorem slotU_eq {P : Program} {a0 : Act} {S : World → Prop} {E : Option Tmp → World → Prop} {U : Tmp → Option Tmp} {R : ReachU} {Fin : Facts → Prop} {n : List (Tmp × Bool)} {N : List (List (Tmp × Bool))} {o : Oper} {l : List Oper} {Ts : Facts} {e : Value}
    (h : oblU P a0 S E R n o Ts (fun v _ => v = e)) (hr : wpSlotsU P a0 S E U R Fin N l (addFact o (fun v _ => v = e) Ts)) : wpSlotsU P a0 S E U R Fin (n :: N) (o :: l) Ts :=
  ⟨_, lastsU_eq _ _ _ _, h, hr⟩

theorem slotU_fact {P : Program} {a0 : Act} {S : World → Prop} {E : Option Tmp → World → Prop} {U : Tmp → Option Tmp} {R : ReachU} {Fin : Facts → Prop} {n : List (Tmp × Bool)} {N : List (List (Tmp × Bool))} {o : Oper} {l : List Oper} {Ts : Facts} (T : Fact) (hT : lastsU U R o.dst T)
    (h : oblU P a0 S E R n o Ts T) (hr : wpSlotsU P a0 S E U R Fin N l (addFact o T Ts)) : wpSlotsU P a0 S E U R Fin (n :: N) (o :: l) Ts :=
  ⟨T, hT, h, hr⟩

theorem slotU_end {P : Program} {a0 : Act} {S : World → Prop} {E : Option Tmp → World → Prop} {U : Tmp → Option Tmp} {R : ReachU} {Fin : Facts → Prop} {Ts : Facts} (h : Fin Ts) : wpSlotsU P a0 S E U R Fin [] [] Ts := h

end Go.Proofs.Ytkgojpmjnehcnaa

/- Rows of dependencies of one's own that grow. -/
namespace Go.Proofs.Ytkgojpmjnehcnaa
open Go.ChangeShapes Go.WideShapes Go.ChangeAt Go.RowKit Go.Joins

def dpVals (d : Dp) : List Value := [.int .i64 d.k, .int .i64 d.c, .int .i64 d.s, .int .i64 d.q]

theorem dps_at : ∀ (ds : List Dp) (i c : Nat), i < ds.length → c < 4 → (ds.flatMap dpVals)[i * 4 + c]? = (dpVals (ds.getD i dz))[c]?
  | [], i, c, hi, _ => by simp at hi
  | e :: r, 0, c, _, hc => by
    rw [List.flatMap_cons, List.getElem?_append_left (by simp [dpVals]; omega)]
    simp
  | e :: r, i + 1, c, hi, hc => by
    rw [List.flatMap_cons, List.getElem?_append_right (by simp [dpVals]; omega)]
    have := dps_at r i c (by simpa using hi) hc
    rw [show (i + 1) * 4 + c - (dpVals e).length = i * 4 + c by simp [dpVals]; omega, this]
    simp

/-- A row of dependencies of one's own, from block number base on; it may be nil. -/
def RowD (w : World) (base : Nat) (v : Value) (ds : List Dp) : Prop := w.ownsRow base 71 4 v ds.length (ds.flatMap dpVals)

theorem RowD.below {w w' : World} {base : Nat} {v : Value} {ds : List Dp} (h : RowD w base v ds) (hb : Below w.heap.size w w') : RowD w' base v ds :=
  World.ownsRow.kept (row := none) h ⟨hb.os, hb.tape, hb.output, hb.size, fun k hk _ => hb.block k hk⟩ (by
    by_cases e : v.ownBlock = none
    · exact .inl e
    · exact .inr e)

theorem RowD.mono {w : World} {base base' : Nat} {v : Value} {ds : List Dp} (h : RowD w base v ds) (hb : base' ≤ base) : RowD w base' v ds := by
  refine ⟨h.1, ?_⟩
  rcases h.2 with h1 | ⟨g, cap, cur, h1, h2, h3⟩
  · exact .inl h1
  · exact .inr ⟨g, cap, cur, h1, Nat.le_trans hb h2, h3⟩

/-- Dependencies of one's own, between two block numbers. -/
def OwnD (w : World) (lo hi : Nat) (a : Option Addr) (ds : List Dp) : Prop :=
  ds = [] ∨ ∃ g, a = some ⟨g, 0, none⟩ ∧ lo ≤ g ∧ g < hi ∧ g < w.heap.size ∧ HoldsDeps w g 0 ds ∧ ∀ o, w.frozen? ⟨g, o, none⟩ = false

theorem OwnD.isDeps {w : World} {lo hi : Nat} {a : Option Addr} {ds : List Dp} (h : OwnD w lo hi a ds) : IsDeps w a ds := by
  rcases h with h | ⟨g, ha, _, _, hlt, hh, _⟩
  · exact .inl h
  · exact .inr ⟨g, 0, ha, hlt, hh⟩

theorem RowD.form {w : World} {base : Nat} {v : Value} {ds : List Dp} (h : RowD w base v ds) : ∃ a cap, v = .slice a ds.length cap ∧ OwnD w base w.heap.size a ds := by
  rcases h.2 with ⟨h1, h2⟩ | ⟨g, cap, cur, h1, h2, h3, _⟩
  · exact ⟨none, 0, by rw [h1, h2], .inl (List.length_eq_zero_iff.1 h2)⟩
  · have hlt : g < w.heap.size := (Array.getElem?_eq_some_iff.1 h3).1
    subst h1
    refine ⟨_, cap, rfl, .inr ⟨g, rfl, h2, hlt, hlt, fun i hi => ?_, fun o => World.ownsRow.frozenAt h o⟩⟩
    rw [Nat.zero_add]
    have c : ∀ c, c < 4 → w.cell? ⟨g, i * 4 + c, none⟩ = (dpVals (ds.getD i dz))[c]? := fun c hc => by rw [World.ownsRow.cellAt h _ (by omega), dps_at ds i c hi hc]
    exact ⟨c 0 (by omega), c 1 (by omega), c 2 (by omega), c 3 (by omega)⟩

theorem oneD_cells (w : World) (t : Nat) (d : Dp) : ∀ j u, (dpVals d)[j]? = some u → (w.alloc (.cells #[.int .i64 d.k, .int .i64 d.c, .int .i64 d.s, .int .i64 d.q] t)).cell? ((⟨w.heap.size, 0, none⟩ : Addr).add j) = some u := by
  intro j u hu
  have e1 : (⟨w.heap.size, 0, none⟩ : Addr).add j = ⟨w.heap.size, j, none⟩ := by
    unfold Addr.add
    split
    · rename_i h
      rw [h]
    · simp
  rw [e1, cell_of_row _ _ j _ t (0, 0) (heap_alloc_new w _), ← hu]
  simp [dpVals]

theorem dp_one (d : Dp) : ∀ u ∈ dpVals d, u.oneCell' = true := by
  intro u hu
  simp only [dpVals, List.mem_cons, List.not_mem_nil, or_false] at hu
  rcases hu with rfl | rfl | rfl | rfl <;> rfl

end Go.Proofs.Ytkgojpmjnehcnaa

/- An append inside a region that draws its order; what its operations may turn. -/
namespace Go.Proofs.Ytkgojpmjnehcnaa
open Go.ChangeShapes Go.WideShapes Go.ChangeAt Go.RowKit Go.Joins

theorem add_block (g j : Nat) : ((⟨g, 0, none⟩ : Addr).add j) = ⟨g, j, none⟩ := by
  unfold Addr.add
  split
  · rename_i h
    rw [h]
  · simp

theorem got_append {P : Program} {K : Value → World → Prop} {o : Oper} {ρ : Operand → Value} {w : World} (s x : Operand) (t : TypeId)
    (ho : o.op = .call { callee := .builtin .append, args := #[s, x], argTypes := #[t, t] })
    (base : Nat) (e : TypeId) (i : TypeInfo) (z : Value) (size bytes : Nat) (ht : P.underlying t = some (.slice e)) (hi : P.info? e = some i) (hz : i.zero = some z)
    (hsize : i.size = size) (hby : i.bytes = bytes) (hzs : z.cells.size = size) (hsz : 0 < size)
    (v : Value) (n : Nat) (xs : List Value) (hs : ρ s = v) (hown : w.ownsRow base e size v n xs)
    (ad : Addr) (m c : Nat) (news : List Value) (hx : ρ x = .slice (some ad) m c) (hl : news.length = m * size) (hnews : ∀ j u, news[j]? = some u → w.cell? (ad.add j) = some u) (h1 : ∀ u ∈ news, u.oneCell' = true)
    (hm : 0 < m) (h63 : n + m ≤ maxLen) (hbytes : (n + m) * bytes ≤ 140737488355328) (hbase : base ≤ w.heap.size) (H : Nat) (hH : w.heap.size = H)
    (h : ∀ g cap w', w'.ownsRow base e size (.slice (some ⟨g, 0, none⟩) (n + m) cap) (n + m) (xs ++ news) → w.grownBy w' v.ownBlock → (v.ownBlock = some g ∨ g = H) → g < w'.heap.size → K (.slice (some ⟨g, 0, none⟩) (n + m) cap) w') : got P K ((execOp ρ o).run P w) := by
  obtain ⟨g, cap, w', hr, h2, h3, h4, h5⟩ := run_append_lies (P := P) w t o.type base e i z size bytes ht hi hz hsize hby hzs hsz v n xs hown ad m c news hl hnews h1 hm h63 hbytes hbase H hH
  unfold execOp
  simp only [ho, resolve, invoke, builtin, Sem.run_bind, Sem.run_pure, Result.andThen_ok, List.map_toArray, List.map_cons, List.map_nil, hs, hx, hr]
  exact h g cap w' h2 h3 h4 h5

/-- What an operation may turn: the append, which fills slot s, the block of its row; all others nothing that was there. -/
def AppS (s : Tmp) (ob : Option Nat) : ReachU := fun d w w' => if d = some s then w.grownBy w' ob else Below w.heap.size w w'

theorem appS_below {s : Tmp} {ob : Option Nat} {d : Option Tmp} {w w' : World} (hd : d ≠ some s) (h : AppS s ob d w w') : Below w.heap.size w w' := by
  unfold AppS at h
  rw [if_neg hd] at h
  exact h

theorem appS_refl {s : Tmp} {ob : Option Nat} {d : Option Tmp} (hd : d ≠ some s) (w : World) : AppS s ob d w w := by
  unfold AppS
  rw [if_neg hd]
  exact Below.refl _ _

theorem appS_alloc {s : Tmp} {ob : Option Nat} {d : Option Tmp} (hd : d ≠ some s) (w : World) (o : Obj) : AppS s ob d w (w.alloc o) := by
  unfold AppS
  rw [if_neg hd]
  exact (Below.refl _ _).alloc (Nat.le_refl _) _

theorem appS_grown {s : Tmp} {ob : Option Nat} {w w' : World} (h : w.grownBy w' ob) : AppS s ob (some s) w w' := by
  unfold AppS
  rw [if_pos rfl]
  exact h

theorem grown_of_below {w w' : World} (h : Below w.heap.size w w') (ob : Option Nat) : w.grownBy w' ob := ⟨h.os, h.tape, h.output, h.size, fun k hk _ => h.block k hk⟩

theorem appS_any {s : Tmp} {ob : Option Nat} {d : Option Tmp} {w w' : World} (h : AppS s ob d w w') : w.grownBy w' ob := by
  by_cases hd : d = some s
  · unfold AppS at h
    rw [if_pos hd] at h
    exact h
  · exact grown_of_below (appS_below hd h) ob

theorem grown_trans {w w' w2 : World} {ob : Option Nat} (h : w.grownBy w' ob) (h' : w'.grownBy w2 ob) : w.grownBy w2 ob :=
  ⟨h'.os.trans h.os, h'.tape.trans h.tape, h'.output.trans h.output, Nat.le_trans h.size h'.size, fun k hk hn => (h'.block k (Nat.lt_of_lt_of_le hk h.size) hn).trans (h.block k hk hn)⟩

theorem grown_set (w : World) (b o : Nat) (v : Value) : w.grownBy (w.setCell ⟨b, o, none⟩ v) (some b) := by
  refine ⟨rfl, rfl, rfl, by simp, fun k hk hne => ?_⟩
  have : b ≠ k := fun e => hne (by rw [e])
  simp [World.setCell, Array.getElem?_modify, this]

end Go.Proofs.Ytkgojpmjnehcnaa

/- Contracts of the registers' put and putAll. -/
namespace Go.Proofs.Ytkgojpmjnehcnaa
open Go.ChangeShapes Go.WideShapes Go.ChangeAt Go.RowKit Go.Joins
attribute [local go_sem ↓] Go.wp_at_zero Go.wp_at_succ

set_option maxRecDepth 100000 in
theorem regPut_none {M : Int → Option Wr} {x : Wr} (h : M x.k = none) : regPut M x = fun j => if j = x.k then some x else M j := by
  funext j
  unfold regPut
  rw [h]
  rfl

set_option maxRecDepth 100000 in
theorem regPut_later {M : Int → Option Wr} {x y : Wr} (h : M x.k = some y) (hc : 0 < cmpW x y) : regPut M x = fun j => if j = x.k then some x else M j := by
  funext j
  unfold regPut
  rw [h]
  have : cmpW y x < 0 := by
    have := wcmp_neg x.k x.c x.s x.q x.v x.de x.xs y.k y.c y.s y.q y.v y.de y.xs
    unfold cmpW at *
    omega
  simp [laterO, this]

set_option maxRecDepth 100000 in
theorem regPut_same {M : Int → Option Wr} {x y : Wr} (h : M x.k = some y) (hc : ¬ 0 < cmpW x y) : regPut M x = M := by
  funext j
  unfold regPut
  have : ¬ cmpW y x < 0 := by
    have := wcmp_neg x.k x.c x.s x.q x.v x.de x.xs y.k y.c y.s y.q y.v y.de y.xs
    unfold cmpW at *
    omega
  by_cases e : j = x.k
  · rw [if_pos e, h, e, h]
    simp [laterO, this]
  · rw [if_neg e]

set_option maxRecDepth 100000 in
theorem foldl_take {α : Type} (f : α → Wr → α) (ws : List Wr) (s : α) (k : Nat) (h : k < ws.length) : (ws.take (k + 1)).foldl f s = f ((ws.take k).foldl f s) (ws.getD k wz) := by
  have e : ws.take (k + 1) = ws.take k ++ [ws.getD k wz] := by
    rw [List.take_add_one, List.getElem?_eq_getElem h]
    simp [List.getD, h]
  rw [e, List.foldl_append]
  rfl

end Go.Proofs.Ytkgojpmjnehcnaa

/- The contract of the registers' told. -/
namespace Go.Proofs.Ytkgojpmjnehcnaa
open Go.ChangeShapes Go.WideShapes Go.ChangeAt Go.RowKit Go.Joins
attribute [local go_sem ↓] Go.wp_at_zero Go.wp_at_succ

def toldTo (M : Int → Option Wr) (k : Nat) : List Wr := (List.range k).filterMap fun (j : Nat) => M (j : Int)

set_option maxRecDepth 100000 in
theorem toldTo_none {M : Int → Option Wr} {k : Nat} (h : M (k : Int) = none) : toldTo M (k + 1) = toldTo M k := by
  unfold toldTo
  rw [List.range_succ, List.filterMap_append]
  simp [h]

set_option maxRecDepth 100000 in
theorem toldTo_some {M : Int → Option Wr} {k : Nat} {x : Wr} (h : M (k : Int) = some x) : toldTo M (k + 1) = toldTo M k ++ [x] := by
  unfold toldTo
  rw [List.range_succ, List.filterMap_append]
  simp [h]

set_option maxRecDepth 100000 in
theorem toldTo_six (M : Int → Option Wr) : toldTo M 6 = toldM M := by
  rfl

set_option maxRecDepth 100000 in
theorem toldTo_len (M : Int → Option Wr) (k : Nat) : (toldTo M k).length ≤ k := by
  unfold toldTo
  have := List.length_filterMap_le (fun j : Nat => M (j : Int)) (List.range k)
  simpa using this

end Go.Proofs.Ytkgojpmjnehcnaa

/- Contracts of the specification's l02Join, MapJoin, MapPut. -/
namespace Go.Proofs.Ytkgojpmjnehcnaa
open Go.ChangeShapes Go.WideShapes Go.ChangeAt Go.RowKit Go.Joins
attribute [local go_sem ↓] Go.wp_at_zero Go.wp_at_succ

theorem join_few : ∀ (vs us : List Wr), Few us → Few vs → Few (joinW us vs)
  | [], us, h, _ => h
  | x :: r, us, h, h' => by
    rw [few_iff] at h'
    exact join_few r (putW us x) (put_few h (h' x (by simp))) (few_iff.2 fun z hz => h' z (by simp [hz]))

theorem few_take {ws : List Wr} (h : Few ws) (k : Nat) : Few (ws.take k) := by
  rw [few_iff] at *
  exact fun x hx => h x (List.mem_of_mem_take hx)

end Go.Proofs.Ytkgojpmjnehcnaa

/- Lists of batches: what a slice of batches leads to; the contracts of eqBatch, eqBatchS; spec.Replay. -/
namespace Go.Proofs.Ytkgojpmjnehcnaa
open Go.ChangeShapes Go.WideShapes Go.ChangeAt Go.RowKit Go.Joins
attribute [local go_sem ↓] Go.wp_at_zero Go.wp_at_succ

/-- What a slice of batches leads to. -/
def IsBs (w : World) (a : Option Addr) (bs : List (List Wr)) : Prop :=
  bs = [] ∨ ∃ b o, a = some ⟨b, o, none⟩ ∧ b < w.heap.size ∧ ∀ i, i < bs.length → ∃ a' cap, w.cell? ⟨b, o + i, none⟩ = some (.slice a' (bs.getD i []).length cap) ∧ IsWs w a' (bs.getD i [])

set_option maxRecDepth 100000 in
theorem IsBs.below {w w' : World} {a : Option Addr} {bs : List (List Wr)} (h : IsBs w a bs) (hb : Below w.heap.size w w') : IsBs w' a bs := by
  rcases h with h | ⟨b, o, ha, hlt, hh⟩
  · exact .inl h
  · refine .inr ⟨b, o, ha, Nat.lt_of_lt_of_le hlt hb.size, fun i hi => ?_⟩
    obtain ⟨a', cap, hc, hw⟩ := hh i hi
    exact ⟨a', cap, (hb.cell (p := ⟨b, o + i, none⟩) hlt).trans hc, hw.below hb⟩

set_option maxRecDepth 100000 in
theorem IsBs.at {w w' : World} {a : Option Addr} {bs : List (List Wr)} (h : IsBs w a bs) (hb : Below w.heap.size w w') {k : Nat} (hk : k < bs.length) : ∃ b o a' cap, a = some ⟨b, o, none⟩ ∧ b < w'.heap.size ∧ w'.cell? ⟨b, o + k, none⟩ = some (.slice a' (bs.getD k []).length cap) ∧ IsWs w' a' (bs.getD k []) := by
  rcases h.below hb with h | ⟨b, o, ha, hlt, hh⟩
  · subst h
    simp at hk
  · obtain ⟨a', cap, hc, hw⟩ := hh k hk
    exact ⟨b, o, a', cap, ha, hlt, hc, hw⟩

/-- All batches have few writes, each with few dependencies. -/
def FewB (bs : List (List Wr)) : Prop := ∀ i, i < bs.length → (bs.getD i []).length ≤ 1048576 ∧ Few (bs.getD i [])

end Go.Proofs.Ytkgojpmjnehcnaa

/- The sizes of batches: the contracts of szBatch and szBatchS. -/
namespace Go.Proofs.Ytkgojpmjnehcnaa
open Go.ChangeShapes Go.WideShapes Go.ChangeAt Go.RowKit Go.Joins
attribute [local go_sem ↓] Go.wp_at_zero Go.wp_at_succ

/-- How much the batches hold. -/
def heftB : List (List Wr) → Nat
  | [] => 0
  | ws :: r => ws.length + bulk ws + heftB r

set_option maxRecDepth 100000 in
theorem heft_take : ∀ (bs : List (List Wr)) (k : Nat), k < bs.length → heftB (bs.take (k + 1)) = heftB (bs.take k) + ((bs.getD k []).length + bulk (bs.getD k []))
  | [], k, h => by simp at h
  | b :: r, 0, _ => by simp [heftB]
  | b :: r, k + 1, h => by
    have ih := heft_take r k (by simpa using h)
    simp only [List.take_succ_cons, heftB, List.getD_cons_succ]
    omega

set_option maxRecDepth 100000 in
theorem heft_one : ∀ (bs : List (List Wr)) (i : Nat), i < bs.length → (bs.getD i []).length + bulk (bs.getD i []) ≤ heftB bs
  | [], i, h => by simp at h
  | b :: r, 0, _ => by simp [heftB]
  | b :: r, i + 1, h => by
    have ih := heft_one r i (by simpa using h)
    simp only [heftB, List.getD_cons_succ]
    omega

set_option maxRecDepth 100000 in
theorem few_heft {bs : List (List Wr)} (h : heftB bs ≤ 1048576) : FewB bs := fun i hi => by
  have := heft_one bs i hi
  exact ⟨by omega, few_of_bulk (by omega)⟩

end Go.Proofs.Ytkgojpmjnehcnaa

/- Lists of events: what a slice of events leads to; the contracts of eqEvent, eqEventS. -/
namespace Go.Proofs.Ytkgojpmjnehcnaa
open Go.ChangeShapes Go.WideShapes Go.ChangeAt Go.RowKit Go.Joins
attribute [local go_sem ↓] Go.wp_at_zero Go.wp_at_succ

/-- An event: its site, whether it was shown, its mask, its writes. -/
structure Ev where
  s : Int
  sh : Bool
  m : Int
  ws : List Wr

def evz : Ev := ⟨0, false, 0, []⟩

def evW (es : List Ev) : List (List Wr) := es.map (·.ws)

theorem evW_get (es : List Ev) {i : Nat} (h : i < es.length) : (evW es).getD i [] = (es.getD i evz).ws := by
  simp [evW, List.getD, h]

theorem evW_len (es : List Ev) : (evW es).length = es.length := by simp [evW]

abbrev evV (s : Int) (sh : Bool) (m : Int) (a : Option Addr) (n cap : Nat) : Value := .agg #[.int .i64 s, .bool sh, .int .i64 m, .slice a n cap]

def EvAt (w : World) (b o : Nat) (e : Ev) (a : Option Addr) (cap : Nat) : Prop :=
  w.cell? ⟨b, o, none⟩ = some (.int .i64 e.s) ∧ w.cell? ⟨b, o + 1, none⟩ = some (.bool e.sh) ∧ w.cell? ⟨b, o + 2, none⟩ = some (.int .i64 e.m) ∧ w.cell? ⟨b, o + 3, none⟩ = some (.slice a e.ws.length cap)

theorem EvAt.of_block {w w' : World} {b o : Nat} {e : Ev} {a : Option Addr} {cap : Nat} (h : EvAt w b o e a cap) (hb : w'.heap[b]? = w.heap[b]?) : EvAt w' b o e a cap := by
  have c : ∀ o, w'.cell? ⟨b, o, none⟩ = w.cell? ⟨b, o, none⟩ := fun o => World.cell?_of_block (a := ⟨b, o, none⟩) hb
  exact ⟨(c _).trans h.1, (c _).trans h.2.1, (c _).trans h.2.2.1, (c _).trans h.2.2.2⟩

/-- What a slice of events leads to. -/
def IsEs (w : World) (a : Option Addr) (es : List Ev) : Prop :=
  es = [] ∨ ∃ b o, a = some ⟨b, o, none⟩ ∧ b < w.heap.size ∧ ∀ i, i < es.length → ∃ a' cap, EvAt w b (o + i * 4) (es.getD i evz) a' cap ∧ IsWs w a' (es.getD i evz).ws

set_option maxRecDepth 100000 in
theorem IsEs.below {w w' : World} {a : Option Addr} {es : List Ev} (h : IsEs w a es) (hb : Below w.heap.size w w') : IsEs w' a es := by
  rcases h with h | ⟨b, o, ha, hlt, hh⟩
  · exact .inl h
  · refine .inr ⟨b, o, ha, Nat.lt_of_lt_of_le hlt hb.size, fun i hi => ?_⟩
    obtain ⟨a', cap, hc, hw⟩ := hh i hi
    exact ⟨a', cap, hc.of_block (hb.block b hlt), hw.below hb⟩

set_option maxRecDepth 100000 in
theorem IsEs.at {w w' : World} {a : Option Addr} {es : List Ev} (h : IsEs w a es) (hb : Below w.heap.size w w') {k : Nat} (hk : k < es.length) : ∃ b o a' cap, a = some ⟨b, o, none⟩ ∧ b < w'.heap.size ∧ EvAt w' b (o + k * 4) (es.getD k evz) a' cap ∧ IsWs w' a' (es.getD k evz).ws := by
  rcases h.below hb with h | ⟨b, o, ha, hlt, hh⟩
  · subst h
    simp at hk
  · obtain ⟨a', cap, hc, hw⟩ := hh k hk
    exact ⟨b, o, a', cap, ha, hlt, hc, hw⟩

/-- As at, the writes in the world of the slice. -/
theorem IsEs.base {w w' : World} {a : Option Addr} {es : List Ev} (h : IsEs w a es) (hb : Below w.heap.size w w') {k : Nat} (hk : k < es.length) : ∃ b o a' cap, a = some ⟨b, o, none⟩ ∧ b < w'.heap.size ∧ EvAt w' b (o + k * 4) (es.getD k evz) a' cap ∧ IsWs w a' (es.getD k evz).ws := by
  rcases h with h | ⟨b, o, ha, hlt, hh⟩
  · subst h
    simp at hk
  · obtain ⟨a', cap, hc, hw⟩ := hh k hk
    exact ⟨b, o, a', cap, ha, Nat.lt_of_lt_of_le hlt hb.size, hc.of_block (hb.block b hlt), hw⟩

/-- All events have few writes, each with few dependencies. -/
def FewE (es : List Ev) : Prop := ∀ i, i < es.length → (es.getD i evz).ws.length ≤ 1048576 ∧ Few (es.getD i evz).ws

theorem fewE_heft {es : List Ev} (h : heftB (evW es) ≤ 1048576) : FewE es := fun i hi => by
  have := few_heft h i (by rw [evW_len]; exact hi)
  rwa [evW_get es hi] at this

set_option maxRecDepth 100000 in
set_option maxHeartbeats 2000000 in
theorem eqEvent_same (s : Int) (sh : Bool) (m : Int) (a a' : Option Addr) (n cap cap' : Nat) (ws : List Wr) (w : World) (hn : ws.length = n) (hm : n ≤ 1048576) (hx : Few ws) (h : IsWs w a ws) (h' : IsWs w a' ws) :
    Calls Try.prog 39 #[evV s sh m a n cap, evV s sh m a' n cap'] w fun e w' => e = .returned (.bool true) ∧ Below w.heap.size w w' := by
  have HB : Hid (Below w.heap.size w ((w.alloc (.cells #[.int .i64 s, .bool sh, .int .i64 m, .slice a n cap] 59)).alloc (.cells #[.int .i64 s, .bool sh, .int .i64 m, .slice a' n cap'] 59))) := ((Below.refl _ _).alloc (Nat.le_refl _) _).alloc (by simp) _
  have H := Lib.hid h
  have H' := Lib.hid h'
  have HN := Lib.hid hn
  have HX := Lib.hid hx
  clear h h' hn hx
  go_enter Try.func39, Try.ntmps39
  go_wp2_with fail
  refine (eqWriteS_gen _ _ n _ _ ws _ HN.out hm HX.out (H.out.below HB.out) (H'.out.below HB.out)).mono ?_
  rintro e w1 ⟨rfl, hb⟩
  have HB1 : Hid (Below w.heap.size w w1) := below_step HB.out HB.out.size hb
  clear hb
  go_wp2
  go_ret
  exact ⟨rfl, HB1.out⟩

set_option maxRecDepth 100000 in
set_option maxHeartbeats 2000000 in
theorem eqEventS_same (a a' : Option Addr) (n cap cap' : Nat) (es : List Ev) (w : World) (hn : es.length = n) (hm : n ≤ 1048576) (hx : FewE es) (h : IsEs w a es) (h' : IsEs w a' es) :
    Calls Try.prog 13 #[.slice a n cap, .slice a' n cap'] w fun e w' => e = .returned (.bool true) ∧ Below w.heap.size w w' := by
  have H := Lib.hid h
  have H' := Lib.hid h'
  have HN := Lib.hid hn
  have HX := Lib.hid hx
  clear h h' hn hx
  go_enter Try.func13, Try.ntmps13
  go_wp2
  go_loopw [5] (fun i wr => ∃ k : Nat, k ≤ n ∧ i = .int .i64 k ∧ Hid (Below w.heap.size w wr)) (fun i _ => n - (intOf i).toNat)
  case atStart => exact ⟨0, Nat.zero_le _, rfl, Below.refl _ _⟩
  case round =>
    obtain ⟨k, hk, rfl, HB⟩ := hrel
    by_cases hk' : k < n
    · have hkk : k < es.length := by rw [HN.out]; exact hk'
      have i1 : (0 : Int) ≤ (k : Int) := by omega
      have i2 : (k : Int) < (n : Int) := by omega
      obtain ⟨b, o, ad, cp, rfl, hz, e0, hw⟩ := H.out.at HB.out hkk
      obtain ⟨b', o', ad', cp', rfl, hz', f0, hw'⟩ := H'.out.at HB.out hkk
      obtain ⟨hl, hf⟩ := HX.out k hkk
      have HC : Hid (∀ W, Below wr.heap.size wr W → Calls Try.prog 39 #[evV (es.getD k evz).s (es.getD k evz).sh (es.getD k evz).m ad (es.getD k evz).ws.length cp, evV (es.getD k evz).s (es.getD k evz).sh (es.getD k evz).m ad' (es.getD k evz).ws.length cp'] W fun e w' => e = .returned (.bool true) ∧ Below W.heap.size W w') := fun W hW => eqEvent_same _ _ _ _ _ _ _ _ (es.getD k evz).ws W rfl hl hf (hw.below hW) (hw'.below hW)
      have HE : Hid (∀ W, Below wr.heap.size wr W → EvAt W b (o + k * 4) (es.getD k evz) ad cp ∧ EvAt W b' (o' + k * 4) (es.getD k evz) ad' cp') := fun W hW => ⟨e0.of_block (hW.block b hz), f0.of_block (hW.block b' hz')⟩
      clear hw hw' e0 f0 hf hl
      generalize es.getD k evz = y at *
      obtain ⟨ys, yh, ym, yw⟩ := y
      unfold EvAt at HE
      simp only at HC HE
      generalize yw.length = q at *
      go_wp2_with fail
      refine wp_region_slots 10 [[(0, false)], [(5, false)], [(17, true), (18, true)], [(19, true)], [(1, false)], [(5, false)], [(21, true), (22, true)], [(23, true)], [(20, true), (24, true)], [(25, true)]] (fun w' => Below wr.heap.size wr w') (fun w w' => Below w.heap.size w w') (by kernel_rfl) (by kernel_rfl) (by rfl) ((Below.refl _ _).drew) (fun _ _ h hb => below_step h h.size hb) ?_
      iterate 8 (apply slot_eq; · (intro ρ w' ⟨p1, p2, p3⟩ hbl hn; obtain ⟨⟨c1, c2, c3, c4⟩, ⟨d1, d2, d3, d4⟩⟩ := HE.out w' hbl; simp at hn; go_simp; exact ⟨Below.refl _ _, rfl⟩))
      apply slot_eq
      · intro ρ w' ⟨p1, p2, p3⟩ hbl hn
        simp at hn
        obtain ⟨e1, e2⟩ := hn
        go_simp
        exact got_call (HC.out w' hbl) fun e w'' ⟨he, hb⟩ => ⟨_, he, hb, rfl⟩
      apply slot_eq
      · intro ρ w' ⟨p1, p2, p3⟩ hbl hn
        simp at hn
        go_simp
        exact ⟨Below.refl _ _, rfl⟩
      refine slot_end ?_
      intro vs w3 hS hF
      simp at hF
      obtain ⟨h26, -⟩ := hF
      have HB3 := Lib.hid (below_step HB.out HB.out.size hS)
      clear hS
      simp only [List.take_succ_cons, List.take_zero, List.drop_succ_cons, List.drop_zero, putAll, h26]
      clear h26
      simp only [Act.put, List.setIfInBounds_toArray, List.set_cons_succ, List.set_cons_zero]
      go_wp2
      exact ⟨⟨k + 1, by omega, by go_num, HB3⟩, by simp [intOf]; omega⟩
    · have hkk : k = n := by omega
      subst hkk
      go_wp2
      go_ret
      exact ⟨rfl, HB.out⟩

set_option maxRecDepth 100000 in
set_option maxHeartbeats 1000000 in
theorem szEvent_any (s : Int) (sh : Bool) (m : Int) (a : Option Addr) (n cap : Nat) (left : Int) (ws : List Wr) (w : World) (h0 : 0 ≤ left) (h1 : left ≤ 1048576) (hm : n ≤ maxLen) (hn : ws.length = n) (h : IsWs w a ws) :
    Calls Try.prog 32 #[evV s sh m a n cap, .int .i64 left] w fun e w' => ∃ r : Int, e = .returned (.int .i64 r) ∧ (r = -1 ∨ (0 ≤ r ∧ r = left - n - bulk ws)) ∧ Below w.heap.size w w' := by
  have H := Lib.hid h
  have HN := Lib.hid hn
  clear h hn
  have HB : Hid (Below w.heap.size w (w.alloc (.cells #[.int .i64 s, .bool sh, .int .i64 m, .slice a n cap] 57))) := (Below.refl _ _).alloc (Nat.le_refl _) _
  go_enter Try.func32, Try.ntmps32
  go_wp2_with fail
  refine (szWriteS_any a n cap left ws _ h0 h1 hm HN.out (H.out.below HB.out)).mono ?_
  rintro e w1 ⟨r, rfl, hr, hb⟩
  have HB1 := Lib.hid (below_step HB.out HB.out.size hb)
  clear hb
  rcases hr with rfl | ⟨r0, hr⟩
  · go_wp2
    go_ret
    exact ⟨_, rfl, .inl rfl, HB1.out⟩
  · have HR := Lib.hid hr
    clear hr
    go_wp2
    go_ret
    exact ⟨_, rfl, .inr ⟨r0, HR.out⟩, HB1.out⟩

set_option maxRecDepth 100000 in
set_option maxHeartbeats 2000000 in
theorem szEventS_any (a : Option Addr) (n cap : Nat) (left : Int) (es : List Ev) (w : World) (h0 : 0 ≤ left) (h1 : left ≤ 1048576) (hm : n ≤ maxLen) (hn : es.length = n) (hl : ∀ i, i < es.length → (es.getD i evz).ws.length ≤ maxLen) (h : IsEs w a es) :
    Calls Try.prog 8 #[.slice a n cap, .int .i64 left] w fun e w' => ∃ r : Int, e = .returned (.int .i64 r) ∧ (r = -1 ∨ (0 ≤ r ∧ r = left - n - heftB (evW es))) ∧ Below w.heap.size w w' := by
  have H := Lib.hid h
  have HN := Lib.hid hn
  have HLM := Lib.hid hl
  clear h hn hl
  have hm' : n ≤ 9223372036854775807 := hm
  clear hm
  by_cases hbig : left < (n : Int)
  · go_enter Try.func8, Try.ntmps8
    go_wp2
    go_ret
    exact ⟨_, rfl, .inl rfl, Below.refl _ _⟩
  go_enter Try.func8, Try.ntmps8
  go_wp2
  go_loopw [1, 5] (fun t i wr => ∃ (k : Nat) (z : Int), k ≤ n ∧ i = .int .i64 k ∧ t = .int .i64 z ∧ 0 ≤ z ∧ z ≤ 1048576 ∧ Hid (z = left - n - heftB ((evW es).take k)) ∧ Hid (Below w.heap.size w wr)) (fun _ i _ => n - (intOf i).toNat)
  case atStart => exact ⟨0, left - n, Nat.zero_le _, rfl, rfl, by omega, by omega, by simp [heftB, Hid], Below.refl _ _⟩
  case round =>
    obtain ⟨k, z, hk, rfl, rfl, z0, z1, HZ, HB⟩ := hrel
    by_cases hk' : k < n
    · have hkk : k < es.length := by rw [HN.out]; exact hk'
      have i1 : (0 : Int) ≤ (k : Int) := by omega
      have i2 : (k : Int) < (n : Int) := by omega
      obtain ⟨b, o, ad, cp, rfl, hz, e0, hw⟩ := H.out.at HB.out hkk
      have hlm := HLM.out k hkk
      have HW := Lib.hid hw
      have ht := heft_take (evW es) k (by rw [evW_len]; exact hkk)
      rw [evW_get es hkk] at ht
      have HT := Lib.hid ht
      clear hw ht
      generalize es.getD k evz = y at *
      obtain ⟨ys, yh, ym, ws⟩ := y
      unfold EvAt at e0
      simp only at e0 HT HW hlm
      obtain ⟨c0, c1, c2, c3⟩ := e0
      obtain ⟨q, hq⟩ : ∃ q, ws.length = q := ⟨_, rfl⟩
      rw [hq] at c3 hlm
      have HQ := Lib.hid hq
      clear hq
      go_wp2_with fail
      refine (szEvent_any ys yh ym ad q cp z ws _ z0 z1 hlm HQ.out HW.out).mono ?_
      rintro e w2 ⟨r, rfl, hr, hb⟩
      have HB2 := Lib.hid (below_step HB.out HB.out.size hb)
      clear hb
      rcases hr with rfl | ⟨r0, hr⟩
      · go_wp2
        go_ret
        exact ⟨_, rfl, .inl rfl, HB2.out⟩
      · have HR : Hid (r = left - n - heftB ((evW es).take (k + 1))) := by
          have h1 := HZ.out
          have h2 := HT.out
          have h3 := HQ.out
          show _ = _
          omega
        have r1 : r ≤ 1048576 := by omega
        clear hr
        go_wp2
        exact ⟨⟨k + 1, r, by omega, by go_num, rfl, r0, r1, HR, HB2⟩, by simp [intOf]; omega⟩
    · have hkk : k = n := by omega
      subst hkk
      have HF : Hid (z = left - k - heftB (evW es)) := by
        have h := HZ.out
        rw [List.take_of_length_le (by rw [evW_len, HN.out]; exact Nat.le_refl _)] at h
        exact h
      go_wp2
      go_ret
      exact ⟨z, rfl, .inr ⟨z0, HF.out⟩, HB.out⟩

end Go.Proofs.Ytkgojpmjnehcnaa

/- The last tags: the contracts of impl's latest: lacks, add, isPast. -/
namespace Go.Proofs.Ytkgojpmjnehcnaa
open Go.ChangeShapes Go.WideShapes Go.ChangeAt Go.RowKit Go.Joins Go.Maps
attribute [local go_sem ↓] Go.wp_at_zero Go.wp_at_succ

def tgV (t : Tg) : Value := tagV t.c t.s t.q

/-- Block b is a map that has f's tags. -/
def LatIs (w : World) (b n : Nat) (f : Int → Int → Option Tg) : Prop := MapIs keyS w b n (fun x => (f x.s x.k).map tgV)

theorem LatIs.below {w w' : World} {b n : Nat} {f : Int → Int → Option Tg} (h : LatIs w b n f) (hb : Below w.heap.size w w') : LatIs w' b n f := MapIs.below h hb

theorem latZero (w : World) : (zeroValue 40).run Try.prog w = .ok (tagV 0 0 0) w := by kernel_rfl

set_option maxRecDepth 100000 in
set_option maxHeartbeats 2000000 in
theorem lacks_any (b n : Nat) (f : Int → Int → Option Tg) (s k c ts q : Int) (w : World) (hs : R64 s) (hk : R64 k) (h : LatIs w b n f) :
    Calls Try.prog 54 #[.map (some b), .agg #[.int .i64 s, .int .i64 k], tagV c ts q] w fun e w' => e = .returned (.bool (lacksT f s k ⟨c, ts, q⟩)) ∧ Below w.heap.size w w' := by
  have HH := Lib.hid h
  have HK : Hid (keyS.ok ⟨s, k⟩) := ⟨hs, hk⟩
  clear h hs hk
  have HBA : Hid (Below w.heap.size w ((w.alloc (.cells #[.int .i64 s, .int .i64 k] 87)).alloc (.cells #[.int .i64 c, .int .i64 ts, .int .i64 q] 40))) := ((Below.refl _ _).alloc (Nat.le_refl _) _).alloc (by simp) _
  have HMA := Lib.hid (HH.out.below HBA.out)
  cases hf : f s k with
  | none =>
    have HF : Hid ((f s k).map tgV = none) := by rw [hf]; rfl
    have HR : Hid (lacksT f s k ⟨c, ts, q⟩ = true) := lacksT_none hf _
    clear hf
    go_enter Try.func54, Try.ntmps54
    go_wp2_with (at_lookup; refine wpList_lookG (K := keyS) (by rfl) _ _ 82 40 (by rfl) Try.underlying82 (latZero _) HMA.out ⟨s, k⟩ HK.out (by rfl) (by rfl) ?_; simp only [HF.out, lookAns])
    go_ret
    exact ⟨by rw [HR.out]; rfl, HBA.out.alloc (by simp; omega) _⟩
  | some l =>
    obtain ⟨lc, ls, lq⟩ := l
    have HF : Hid ((f s k).map tgV = some (tagV lc ls lq)) := by rw [hf]; rfl
    have HR : Hid (lacksT f s k ⟨c, ts, q⟩ = decide (tcmp lc ls lq c ts q < 0)) := lacksT_some hf _
    clear hf
    have HBB : Hid (Below w.heap.size w (((w.alloc (.cells #[.int .i64 s, .int .i64 k] 87)).alloc (.cells #[.int .i64 c, .int .i64 ts, .int .i64 q] 40)).alloc (.cells #[.int .i64 lc, .int .i64 ls, .int .i64 lq] 40))) := HBA.out.alloc (by simp; omega) _
    go_enter Try.func54, Try.ntmps54
    go_wp2_with (at_lookup; refine wpList_lookG (K := keyS) (by rfl) _ _ 82 40 (by rfl) Try.underlying82 (latZero _) HMA.out ⟨s, k⟩ HK.out (by rfl) (by rfl) ?_; simp only [HF.out, lookAns])
    refine (implTagCmp_any _ _ _ _ _ _ _).mono ?_
    rintro e w1 ⟨rfl, hb⟩
    have HB1 : Hid (Below w.heap.size w w1) := below_step HBB.out HBB.out.size hb
    clear hb HBB HBA HMA
    generalize tcmp lc ls lq c ts q = z at *
    go_wp2
    go_ret
    exact ⟨by rw [HR.out]; rfl, HB1.out⟩

theorem LatIs.grown {w w' : World} {b n r : Nat} {f : Int → Int → Option Tg} (h : LatIs w b n f) (hg : w.grownBy w' (some r)) (hne : b ≠ r) : LatIs w' b n f := MapIs.of_block h (hg.block b h.lt fun e => hne (by injection e))

theorem addT_lacks {f : Int → Int → Option Tg} {s : Int} {x : Wr} (h : lacksT f s x.k (tgOf x) = true) : addT f s x = putT f s x.k (tgOf x) := if_pos h

theorem addT_has {f : Int → Int → Option Tg} {s : Int} {x : Wr} (h : lacksT f s x.k (tgOf x) = false) : addT f s x = f := if_neg (by rw [h]; simp)

theorem putT_at (f : Int → Int → Option Tg) (s k : Int) (t : Tg) : (putT f s k t s k).map tgV = some (tgV t) := by
  unfold putT
  rw [if_pos ⟨rfl, rfl⟩]
  rfl

theorem putT_off (f : Int → Int → Option Tg) (s k : Int) (t : Tg) {x : SK} (h : x ≠ ⟨s, k⟩) : (putT f s k t x.s x.k).map tgV = (f x.s x.k).map tgV := by
  unfold putT
  rw [if_neg fun e => h (by cases x; simp at e; simp [e])]

set_option maxRecDepth 100000 in
set_option maxHeartbeats 4000000 in
theorem latAdd_any (b n : Nat) (f : Int → Int → Option Tg) (s : Int) (sh : Bool) (m : Int) (a : Option Addr) (q cap : Nat) (ws : List Wr) (w0 w : World) (hs : R64 s) (hn : ws.length = q) (hq : q ≤ 1048576) (hnn : n ≤ 4611686018427387904) (hr : WsR ws) (hi : IsWs w0 a ws) (hb : Below w0.heap.size w0 w) (hB : w0.heap.size ≤ b) (h : LatIs w b n f) :
    Calls Try.prog 52 #[.map (some b), evV s sh m a q cap] w fun e w' => e = .returned (.tuple #[]) ∧ LatIs w' b (n + q) (addAll f s ws) ∧ w.grownBy w' (some b) := by
  have HI := Lib.hid hi
  have HN := Lib.hid hn
  have HR := Lib.hid hr
  have hlt : b < w.heap.size := h.lt
  have hw0 : w0.heap.size ≤ w.heap.size := hb.size
  have HA : Hid (Below w.heap.size w (w.alloc (.cells #[.int .i64 s, .bool sh, .int .i64 m, .slice a q cap] 59))) := (Below.refl _ _).alloc (Nat.le_refl _) _
  have HH := Lib.hid (h.below HA.out)
  have HB0 : Hid (Below w0.heap.size w0 w) := hb
  have HBX : Hid ((w.alloc (.cells #[.int .i64 s, .bool sh, .int .i64 m, .slice a q cap] 59)).heap[w.heap.size]? = some (.cells #[.int .i64 s, .bool sh, .int .i64 m, .slice a q cap] 59 (0, 0))) := heap_alloc_new _ _
  have HSZ : Hid (w.heap.size < (w.alloc (.cells #[.int .i64 s, .bool sh, .int .i64 m, .slice a q cap] 59)).heap.size) := by show _ < _; simp
  have HS := Lib.hid hs
  clear hi hn hr h hb hs
  go_enter Try.func52, Try.ntmps52
  go_wp2
  generalize w.alloc (.cells #[.int .i64 s, .bool sh, .int .i64 m, .slice a q cap] 59) = W0 at *
  go_loopw [10] (fun i wr => ∃ k : Nat, k ≤ q ∧ i = .int .i64 k ∧ Hid (LatIs wr b (n + k) (addAll f s (ws.take k))) ∧ Hid (W0.grownBy wr (some b))) (fun i _ => q - (intOf i).toNat)
  case atStart => exact ⟨0, Nat.zero_le _, rfl, HH, grown_of_below (Below.refl _ _) _⟩
  case round =>
    obtain ⟨k, hk, rfl, HL, HG⟩ := hrel
    by_cases hk' : k < q
    · have HB : Hid (Below w0.heap.size w0 wr) := HB0.out.grown (grown_trans (grown_of_below HA.out (some b)) HG.out) hw0 fun j hj => by injection hj with hj; omega
      obtain ⟨bl, o, ad, cp, rfl, hz, ⟨e0, e1, e2, e3, e4, e5, e6⟩, -⟩ := HI.out.base HB.out HN.out hk'
      have i1 : (0 : Int) ≤ (k : Int) := by omega
      have i2 : (k : Int) < (q : Int) := by omega
      have hkw : k < ws.length := by rw [HN.out]; exact hk'
      have HKO : Hid (R64 (ws.getD k wz).k) := (HR.out k hkw).1
      have HT := Lib.hid (addAll_take f s ws hkw)
      have qb := (HG.out.block w.heap.size HSZ.out fun e => by injection e with e; omega).trans HBX.out
      have d0 := cell_of_row wr w.heap.size 0 _ _ _ qb
      simp at d0
      have hlt2 : w.heap.size < wr.heap.size := Nat.lt_of_lt_of_le HSZ.out HG.out.size
      clear qb HB
      generalize ws.getD k wz = x at *
      generalize addAll f s (ws.take k) = F at *
      obtain ⟨xk, xc, xs', xq, xv, xd, xx⟩ := x
      simp only at e0 e1 e2 e3 e4 e5 e6 HKO
      have HB1 : Hid (Below wr.heap.size wr ((wr.alloc (.cells #[.int .i64 xk, .int .i64 xc, .int .i64 xs', .int .i64 xq, .int .i64 xv, .bool xd, .slice ad xx.length cp] 43)).alloc (.cells #[.int .i64 s, .int .i64 xk] 87))) := ((Below.refl _ _).alloc (Nat.le_refl _) _).alloc (by simp) _
      have HL1 := Lib.hid (HL.out.below HB1.out)
      have HQ5 : Hid (((wr.alloc (.cells #[.int .i64 xk, .int .i64 xc, .int .i64 xs', .int .i64 xq, .int .i64 xv, .bool xd, .slice ad xx.length cp] 43)).alloc (.cells #[.int .i64 s, .int .i64 xk] 87)).heap[wr.heap.size]? = some (.cells #[.int .i64 xk, .int .i64 xc, .int .i64 xs', .int .i64 xq, .int .i64 xv, .bool xd, .slice ad xx.length cp] 43 (0, 0))) := heap_alloc2_old wr _ _
      have HQ6 : Hid (((wr.alloc (.cells #[.int .i64 xk, .int .i64 xc, .int .i64 xs', .int .i64 xq, .int .i64 xv, .bool xd, .slice ad xx.length cp] 43)).alloc (.cells #[.int .i64 s, .int .i64 xk] 87)).heap[wr.heap.size + 1]? = some (.cells #[.int .i64 s, .int .i64 xk] 87 (0, 0))) := heap_alloc2_new wr _ _
      have hs2 : ((wr.alloc (.cells #[.int .i64 xk, .int .i64 xc, .int .i64 xs', .int .i64 xq, .int .i64 xv, .bool xd, .slice ad xx.length cp] 43)).alloc (.cells #[.int .i64 s, .int .i64 xk] 87)).heap.size = wr.heap.size + 2 := by simp
      go_wp2_with fail
      generalize (wr.alloc (.cells #[.int .i64 xk, .int .i64 xc, .int .i64 xs', .int .i64 xq, .int .i64 xv, .bool xd, .slice ad xx.length cp] 43)).alloc (.cells #[.int .i64 s, .int .i64 xk] 87) = W2 at *
      refine (lacks_any b (n + k) F s xk xc xs' xq _ HS.out HKO.out HL1.out).mono ?_
      rintro e w2 ⟨rfl, hb⟩
      have q5 := (hb.block wr.heap.size (by omega)).trans HQ5.out
      have q6 := (hb.block (wr.heap.size + 1) (by omega)).trans HQ6.out
      have c1 := cell_of_row w2 wr.heap.size 1 _ _ _ q5
      have c2 := cell_of_row w2 wr.heap.size 2 _ _ _ q5
      have c3 := cell_of_row w2 wr.heap.size 3 _ _ _ q5
      have g0 := cell_of_row w2 (wr.heap.size + 1) 0 _ _ _ q6
      have g1 := cell_of_row w2 (wr.heap.size + 1) 1 _ _ _ q6
      simp at c1 c2 c3 g0 g1
      have HL2 := Lib.hid (HL1.out.below hb)
      have HG2 : Hid (W0.grownBy w2 (some b)) := grown_trans HG.out (grown_of_below (below_step HB1.out HB1.out.size hb) (some b))
      clear hb q5 q6 HQ5 HQ6 HB1 HL1 HL HG hs2 e0 e1 e2 e3 e4 e5 e6 d0
      cases hla : lacksT F s xk ⟨xc, xs', xq⟩ with
      | false =>
        have HT2 : Hid (addAll f s (ws.take (k + 1)) = F) := HT.out.trans (addT_has hla)
        go_wp2
        exact ⟨⟨k + 1, by omega, by go_num, by rw [HT2.out]; exact Lib.hid (MapIs.mono HL2.out (by omega)), HG2⟩, by simp [intOf]; omega⟩
      | true =>
        have HT2 : Hid (addAll f s (ws.take (k + 1)) = putT F s xk ⟨xc, xs', xq⟩) := HT.out.trans (addT_lacks hla)
        clear hla
        go_wp2_with (at_mapUpdate; refine wpList_putG (K := keyS) (by rfl) _ _ _ 82 40 (by rfl) Try.underlying82 HL2.out (by unfold maxLen; omega) ⟨s, xk⟩ ⟨HS.out, HKO.out⟩ (tagV xc xs' xq) (by rfl) (by rfl) (by rfl) ?_; intro w3 hr3 ht3; refine Hid.out ?_)
        refine Lib.hid ?_
        have HL3 : Hid (LatIs w3 b (n + (k + 1)) (addAll f s (ws.take (k + 1)))) := by
          rw [HT2.out]
          exact hr3 _ (putT_at F s xk ⟨xc, xs', xq⟩) fun j hj => putT_off F s xk ⟨xc, xs', xq⟩ hj
        have HG3 : Hid (W0.grownBy w3 (some b)) := grown_trans HG2.out ht3.grown
        clear hr3 ht3
        go_wp2
        exact ⟨⟨k + 1, by omega, by go_num, HL3, HG3⟩, by simp [intOf]; omega⟩
    · have hkk : k = q := by omega
      subst hkk
      have HE : Hid (ws.take k = ws) := List.take_of_length_le (by rw [HN.out]; exact Nat.le_refl _)
      rw [HE.out] at HL
      go_wp2
      exact bodyPost_end (v := .tuple #[]) (by simp [results, Try.results52]) rfl ⟨rfl, HL.out, grown_trans (grown_of_below HA.out _) HG.out⟩

end Go.Proofs.Ytkgojpmjnehcnaa
