import Derived.Orders
import Derived.Below
import Derived.Maps.AppendAt
import Derived.Deep.AppendLies
import Derived.Test.YtkcbknjmpfgimaaPack1
namespace Go.Proofs.Ytkcbknjmpfgimaa

abbrev Fact := Value → World → Prop

abbrev Facts := List (Tmp × Fact)

def got (P : Program) (K : Value → World → Prop) : Result Next → Prop
  | .ok (.value v) w' => K v w'
  | .ok .skip w' => K undef w'
  | .ok (.enter f args) w' => Calls P f args w' fun e w'' => ∃ v, e = .returned v ∧ K v w''
  | _ => False

@[simp] def factOf (x : Tmp) : Facts → Fact
  | [] => fun _ _ => True
  | (d, p) :: r => if x = d then p else factOf x r

theorem factOf_eq (x : Tmp) (v : Value) (w : World) : ∀ Ts : Facts, factOf x Ts v w ↔ (match Ts.lookup x with | some p => p v w | none => True)
  | [] => Iff.rfl
  | (d, p) :: r => by
    rw [List.lookup_cons]
    by_cases h : x = d
    · subst h
      simp
    · rw [beq_eq_false_iff_ne.2 h]
      simp only [factOf, if_neg h]
      exact factOf_eq x v w r

def needs0 (Ts : Facts) (a0 : Act) (ρ : Operand → Value) (w : World) : List (Tmp × Bool) → Prop
  | [] => True
  | (x, true) :: r => (match Ts.lookup x with | some p => p (ρ (.tmp x)) w | none => True) ∧ needs0 Ts a0 ρ w r
  | (x, false) :: r => ρ (.tmp x) = a0.eval (.tmp x) ∧ needs0 Ts a0 ρ w r

@[simp] def needs (Ts : Facts) (a0 : Act) (ρ : Operand → Value) (w : World) : List (Tmp × Bool) → Prop
  | [] => True
  | (x, true) :: r => factOf x Ts (ρ (.tmp x)) w ∧ needs Ts a0 ρ w r
  | (x, false) :: r => ρ (.tmp x) = a0.tmps.getD x undef ∧ needs Ts a0 ρ w r

theorem needs_iff {Ts : Facts} {a0 : Act} {ρ : Operand → Value} {w : World} : ∀ {n : List (Tmp × Bool)}, needs Ts a0 ρ w n ↔ needs0 Ts a0 ρ w n
  | [] => Iff.rfl
  | (x, true) :: r => and_congr (factOf_eq x _ w Ts) (needs_iff (n := r))
  | (_, false) :: r => and_congr Iff.rfl (needs_iff (n := r))

def Plain (ρ : Operand → Value) : Prop := (∀ v, ρ (.const v) = v) ∧ (∀ g, ρ (.global g) = .pointer (some ⟨g, 0, none⟩)) ∧ ∀ f, ρ (.func f) = .func (.func f) #[] #[]

def obl (P : Program) (a0 : Act) (S : World → Prop) (R : World → World → Prop) (n : List (Tmp × Bool)) (o : Oper) (Ts : Facts) (T : Fact) : Prop :=
  ∀ ρ w, Plain ρ → S w → needs Ts a0 ρ w n → got P (fun v w' => R w w' ∧ T v w') ((execOp ρ o).run P w)

def lasts (R : World → World → Prop) (T : Fact) : Prop := ∀ v w w', T v w → R w w' → T v w'

theorem lasts_eq (R : World → World → Prop) (e : Value) : lasts R (fun v _ => v = e) := fun _ _ _ h _ => h

@[simp] def addFact (o : Oper) (T : Fact) (Ts : Facts) : Facts := match o.dst with | some d => (d, T) :: Ts | none => Ts

def wpSlots (P : Program) (a0 : Act) (S : World → Prop) (R : World → World → Prop) (Fin : Facts → Prop) : List (List (Tmp × Bool)) → List Oper → Facts → Prop
  | n :: N, o :: l, Ts => ∃ T : Fact, lasts R T ∧ obl P a0 S R n o Ts T ∧ wpSlots P a0 S R Fin N l (addFact o T Ts)
  | [], [], Ts => Fin Ts
  | _, _, _ => False

def distB : List Oper → List Tmp → Bool
  | [], _ => true
  | o :: l, ks => match o.dst with | some d => !ks.contains d && distB l (d :: ks) | none => distB l ks

theorem needs0_mono {Ts Tf : Facts} (h : ∀ x p, Ts.lookup x = some p → Tf.lookup x = some p) {a0 : Act} {ρ : Operand → Value} {w : World} : ∀ {n : List (Tmp × Bool)}, needs0 Tf a0 ρ w n → needs0 Ts a0 ρ w n
  | [], _ => trivial
  | (x, true) :: r, hn => by
    refine ⟨?_, needs0_mono h hn.2⟩
    have h1 := hn.1
    cases hl : Ts.lookup x with
    | none => trivial
    | some p => rw [h x p hl] at h1; exact h1
  | (x, false) :: r, hn => ⟨hn.1, needs0_mono h hn.2⟩

theorem needs_mono {Ts Tf : Facts} (h : ∀ x p, Ts.lookup x = some p → Tf.lookup x = some p) {a0 : Act} {ρ : Operand → Value} {w : World} {n : List (Tmp × Bool)} (hn : needs Tf a0 ρ w n) : needs Ts a0 ρ w n :=
  needs_iff.2 (needs0_mono h (needs_iff.1 hn))

theorem lookup_none_of {Ts : Facts} {d : Tmp} (h : (Ts.map (·.1)).contains d = false) : Ts.lookup d = none := by
  induction Ts with
  | nil => rfl
  | cons t r ih =>
    obtain ⟨k, p⟩ := t
    simp only [List.map_cons, List.contains_cons, Bool.or_eq_false_iff, beq_eq_false_iff_ne] at h
    rw [List.lookup_cons, beq_eq_false_iff_ne.2 h.1]
    exact ih h.2

theorem collect {P : Program} {a0 : Act} {S : World → Prop} {R : World → World → Prop} {Fin : Facts → Prop} : ∀ (N : List (List (Tmp × Bool))) (l : List Oper) (Ts : Facts), wpSlots P a0 S R Fin N l Ts → distB l (Ts.map (·.1)) = true →
    ∃ Tf, Fin Tf ∧ (∀ x p, Ts.lookup x = some p → Tf.lookup x = some p) ∧ (∀ d p, (d, p) ∈ Tf → (d, p) ∈ Ts ∨ (Tf.lookup d = some p ∧ ∃ (k : Nat) (o : Oper), l[k]? = some o ∧ o.dst = some d)) ∧ ∀ (k : Nat) (n : List (Tmp × Bool)) (o : Oper), N[k]? = some n → l[k]? = some o → ∃ T : Fact, lasts R T ∧ obl P a0 S R n o Tf T ∧ ∀ d, o.dst = some d → Tf.lookup d = some T
  | [], [], Ts, h, _ => ⟨Ts, h, fun _ _ h => h, fun _ _ h => .inl h, fun k n o hn _ => by simp at hn⟩
  | [], _ :: _, _, h, _ => h.elim
  | _ :: _, [], _, h, _ => h.elim
  | n :: N, o :: l, Ts, h, hd => by
    obtain ⟨T, hl, ho, hrest⟩ := h
    have hsub : ∀ x p, Ts.lookup x = some p → (addFact o T Ts).lookup x = some p := by
      intro x p hx
      unfold addFact
      cases hod : o.dst with
      | none => exact hx
      | some d =>
        simp only [distB, hod, Bool.and_eq_true, Bool.not_eq_true'] at hd
        have hne : x ≠ d := fun e => by rw [e, lookup_none_of hd.1] at hx; cases hx
        rw [List.lookup_cons, beq_eq_false_iff_ne.2 hne]
        exact hx
    have hd' : distB l ((addFact o T Ts).map (·.1)) = true := by
      unfold addFact
      cases hod : o.dst with
      | none => simpa [distB, hod] using hd
      | some d =>
        simp only [distB, hod, Bool.and_eq_true] at hd
        simpa using hd.2
    obtain ⟨Tf, hfin, hmono, hmem, hall⟩ := collect N l (addFact o T Ts) hrest hd'
    have hhead : ∀ d, o.dst = some d → Tf.lookup d = some T := fun d hod => hmono d T (by unfold addFact; rw [hod]; simp)
    refine ⟨Tf, hfin, fun x p hx => hmono x p (hsub x p hx), fun d p hdp => ?_, fun k n' o' hn ho' => ?_⟩
    · rcases hmem d p hdp with h1 | ⟨h1, k, o', hk, hod⟩
      · unfold addFact at h1
        cases hod : o.dst with
        | none => rw [hod] at h1; exact .inl h1
        | some d' =>
          rw [hod] at h1
          rcases List.mem_cons.1 h1 with h2 | h2
          · obtain ⟨rfl, rfl⟩ := Prod.mk.inj h2
            exact .inr ⟨hhead _ hod, 0, o, rfl, hod⟩
          · exact .inl h2
      · exact .inr ⟨h1, k + 1, o', by simpa using hk, hod⟩
    cases k with
    | zero =>
      simp only [List.getElem?_cons_zero, Option.some.injEq] at hn ho'
      subst hn ho'
      refine ⟨T, hl, fun ρ w hp hS hn => ho ρ w hp hS (needs_mono (fun x p hx => hmono x p (hsub x p hx)) hn), hhead⟩
    | succ k =>
      exact hall k n' o' (by simpa using hn) (by simpa using ho')

@[simp] def factsAt (vs : Tmp → Value) (w : World) : Facts → Prop
  | [] => True
  | (d, p) :: r => p (vs d) w ∧ factsAt vs w r

@[simp] def putAll (vs : Tmp → Value) : List Oper → Act → Act
  | [], a => a
  | o :: l, a => putAll vs l (match o.dst with | some d => a.put (some d) (vs d) | none => a)

def waits (o : Oper) (i : Nat) : Bool := o.after.any fun e => Region.binds .any e && e.on == i

def tabRowB (ops : Array Oper) (j : Nat) (o : Oper) : List (Tmp × Bool) → Bool
  | [] => true
  | (x, true) :: r => (o.after.any fun e => Region.binds .any e && ((ops[e.on]?).bind (·.dst) == some x)) && tabRowB ops j o r
  | (x, false) :: r => ((List.range ops.size).all fun i => match ops[i]? with | some oi => !(oi.dst == some x) || i == j || waits oi j | none => true) && tabRowB ops j o r

def cover (ops : Array Oper) : List Nat → List Nat → List Nat
  | [], cov => cov
  | j :: r, cov => cover ops r (if cov.contains j then cov ++ (match ops[j]? with | some o => (o.after.toList.filter fun e => Region.binds .any e).map (·.on) | none => []) else cov)

def sealB (ops : Array Oper) (m : Nat) : Bool :=
  (List.range ops.size).all fun i => decide (i < m) || (match ops[i]? with
    | some o => (List.range i).all fun j => (cover ops (List.range i).reverse ((o.after.toList.filter fun e => Region.binds .any e).map (·.on))).contains j
    | none => false)

def tidyB (ops : Array Oper) (m : Nat) (N : List (List (Tmp × Bool))) : Bool :=
  distB (ops.toList.take m) [] && ((ops.toList.take m).all fun o => o.guard.isNone) && (N.length == m) && decide (m ≤ ops.size) && sealB ops m &&
  ((List.range ops.size).all fun j => match ops[j]? with
    | some o => (o.after.all fun e => !Region.binds .any e || decide (e.on < j)) && (match N[j]? with | some n => tabRowB ops j o n | none => true)
    | _ => false)

structure Inv (ops : Array Oper) (a0 : Act) (S : World → Prop) (Tf : Facts) (listed : Array Bool) (a : Act) (w : World) : Prop where
  size : listed.size = ops.size
  ok : S w
  defers : a.defers = a0.defers
  len : a.tmps.size = a0.tmps.size
  down : ∀ i o, ops[i]? = some o → listed.getD i false = true → ∀ e ∈ o.after, Region.binds .any e = true → listed.getD e.on false = true
  fresh : ∀ i o d p, ops[i]? = some o → listed.getD i false = true → o.dst = some d → Tf.lookup d = some p → p (a.eval (.tmp d)) w
  old : ∀ x, (∀ i o, ops[i]? = some o → listed.getD i false = true → o.dst ≠ some x) → a.eval (.tmp x) = a0.eval (.tmp x)

theorem plain_eval (a : Act) : Plain a.eval := ⟨fun _ => rfl, fun _ => rfl, fun _ => rfl⟩

theorem listed_ne {listed : Array Bool} {n : Nat} (hs : listed.size = n) {i : Nat} (hi : i < n) (h : listed.getD i true = false) : listed.getD i false = false := by
  have hlt : i < listed.size := by omega
  simp [hlt] at h ⊢
  exact h

theorem needs_of {ops : Array Oper} {a0 : Act} {S : World → Prop} {Tf : Facts} {listed : Array Bool} {a : Act} {w : World} (hI : Inv ops a0 S Tf listed a w) {j : Nat} {o : Oper} (hj : ops[j]? = some o) (hun : listed.getD j false = false)
    (hall : ∀ e ∈ o.after, Region.binds .any e = true → listed.getD e.on false = true) : ∀ (n : List (Tmp × Bool)), tabRowB ops j o n = true → needs0 Tf a0 a.eval w n
  | [], _ => trivial
  | (x, true) :: r, h => by
    simp only [tabRowB, Bool.and_eq_true] at h
    refine ⟨?_, needs_of hI hj hun hall r h.2⟩
    cases hl : Tf.lookup x with
    | none => trivial
    | some p =>
      obtain ⟨e, he, hb⟩ := Array.any_eq_true'.1 h.1
      simp only [Bool.and_eq_true, beq_iff_eq] at hb
      obtain ⟨oi, hoi, hdi⟩ := Option.bind_eq_some_iff.1 hb.2
      exact hI.fresh e.on oi x p hoi (hall e he hb.1) hdi hl
  | (x, false) :: r, h => by
    simp only [tabRowB, Bool.and_eq_true] at h
    refine ⟨hI.old x fun i oi hoi hli hdi => ?_, needs_of hI hj hun hall r h.2⟩
    have hlt : i < ops.size := (Array.getElem?_eq_some_iff.1 hoi).1
    have h1 := List.all_eq_true.1 h.1 i (List.mem_range.2 hlt)
    simp only [hoi, hdi, beq_self_eq_true, Bool.not_true, Bool.false_or, Bool.or_eq_true, beq_iff_eq] at h1
    rcases h1 with rfl | hw
    · rw [hun] at hli
      cases hli
    · obtain ⟨e, he, hb⟩ := Array.any_eq_true'.1 hw
      simp only [Bool.and_eq_true, beq_iff_eq] at hb
      have := hI.down i oi hoi hli e he hb.1
      rw [hb.2, hun] at this
      cases this

theorem upon_of_got {P : Program} {o : Oper} {a : Act} {K : Act → World → Prop} {Q : Exit → Act → World → Prop} {r : Result Next} (h : got P (fun v w' => K (a.put o.dst v) w') r) : o.upon P a K Q r := by
  cases r with
  | ok n w' =>
    cases n <;> simp only [got] at h <;> simp only [Oper.upon]
    case value v => exact h
    case skip => exact h
    case enter f args => exact Calls.mono h fun e w'' ⟨v, he, hk⟩ => by subst he; exact hk
  | halt x w' => simp only [got] at h

theorem got_mono {P : Program} {K K' : Value → World → Prop} {r : Result Next} (hk : ∀ v w, K v w → K' v w) (h : got P K r) : got P K' r := by
  cases r with
  | ok n w' =>
    cases n <;> simp only [got] at h ⊢
    case value v => exact hk _ _ h
    case skip => exact hk _ _ h
    case enter f args => exact Calls.mono h fun e w'' ⟨v, he, hv⟩ => ⟨v, he, hk _ _ hv⟩
  | halt x w' => simp only [got] at h

theorem putA_len (a : Act) (d : Option Tmp) (v : Value) : (a.put d v).tmps.size = a.tmps.size := by
  cases d <;> simp [Act.put]

theorem put_def (a : Act) (d : Option Tmp) (v : Value) : (a.put d v).defers = a.defers := by
  cases d <;> simp [Act.put]

theorem put_at (a : Act) (d : Tmp) (v : Value) (h : d < a.tmps.size) : (a.put (some d) v).eval (.tmp d) = v := by
  simp [Act.put, Act.eval, h]

theorem put_off (a : Act) (d : Option Tmp) (x : Tmp) (v : Value) (h : d ≠ some x) : (a.put d v).eval (.tmp x) = a.eval (.tmp x) :=
  Act.eval_put fun d' hd e => h (by injection e with e; rw [hd, e])

theorem inv_step {ops : Array Oper} {a0 : Act} {S S' : World → Prop} {R : World → World → Prop} {Tf : Facts} (hS : ∀ w w', S w → R w w' → S' w') (hl : ∀ d p, Tf.lookup d = some p → lasts R p)
    (hbd : ∀ (i : Nat) (o : Oper) (d : Tmp), ops[i]? = some o → o.dst = some d → d < a0.tmps.size) {listed : Array Bool} {a : Act} {w w' : World} (hI : Inv ops a0 S Tf listed a w) {j : Nat} {o : Oper} (hj : ops[j]? = some o)
    (hall : ∀ e ∈ o.after, Region.binds .any e = true → listed.getD e.on false = true) {T : Fact} (hT : ∀ d, o.dst = some d → Tf.lookup d = some T) {v : Value} (hR : R w w') (hv : T v w') :
    Inv ops a0 S' Tf (listed.setIfInBounds j true) (a.put o.dst v) w' where
  size := by simpa using hI.size
  ok := hS _ _ hI.ok hR
  defers := (put_def _ _ _).trans hI.defers
  len := (putA_len _ _ _).trans hI.len
  down := by
    intro i oi hoi hli e he hb
    by_cases hij : j = i
    · subst hij
      obtain rfl := Option.some.inj (hj.symm.trans hoi)
      exact getD_set_true (hall e he hb)
    · rw [getD_set_ne false hij] at hli
      exact getD_set_true (hI.down i oi hoi hli e he hb)
  fresh := by
    intro i oi d p hoi hli hdi hp
    by_cases hd : o.dst = some d
    · rw [hd, put_at _ _ _ (by rw [hI.len]; exact hbd j o d hj hd)]
      obtain rfl := Option.some.inj ((hT d hd).symm.trans hp)
      exact hv
    · have hij : j ≠ i := fun e => by
        subst e
        obtain rfl := Option.some.inj (hj.symm.trans hoi)
        exact hd hdi
      rw [getD_set_ne false hij] at hli
      rw [put_off _ _ _ _ hd]
      exact hl d p hp _ _ _ (hI.fresh i oi d p hoi hli hdi hp) hR
  old := by
    intro x hx
    have hd : o.dst ≠ some x := hx j o hj (by
      have hlt : j < listed.size := by rw [hI.size]; exact (Array.getElem?_eq_some_iff.1 hj).1
      simp [hlt])
    rw [put_off _ _ _ _ hd]
    exact hI.old x fun i oi hoi hli => hx i oi hoi (getD_set_true hli)

theorem count_set {l : Array Bool} {j : Nat} (hj : j < l.size) (h : l.getD j true = false) : (l.setIfInBounds j true).toList.count false + 1 = l.toList.count false := by
  have hf : l[j] = false := by simpa [hj] using h
  have h1 : (l.setIfInBounds j true).toList = l.toList.set j true := by simp
  have hj' : j < l.toList.length := by simpa using hj
  have hm : l.toList[j] = false := by simpa using hf
  rw [h1, List.count_set hj', hm]
  have : 0 < l.toList.count false := List.count_pos_iff.2 (by rw [← hm]; exact List.getElem_mem hj')
  have e1 : (if ((false : Bool) == false) = true then 1 else 0 : Nat) = 1 := rfl
  have e2 : (if ((true : Bool) == false) = true then 1 else 0 : Nat) = 0 := rfl
  rw [e1, e2]
  omega

theorem cover_listed {ops : Array Oper} {listed : Array Bool} (hdown : ∀ (i : Nat) (o : Oper), ops[i]? = some o → listed.getD i false = true → ∀ e ∈ o.after, Region.binds .any e = true → listed.getD e.on false = true) :
    ∀ (js cov : List Nat), (∀ x ∈ cov, listed.getD x false = true) → ∀ x ∈ cover ops js cov, listed.getD x false = true
  | [], _, h => h
  | j :: r, cov, h => by
    refine cover_listed hdown r _ fun x hx => ?_
    split at hx
    · rename_i hc
      rcases List.mem_append.1 hx with h1 | h1
      · exact h x h1
      · cases ho : ops[j]? with
        | none => rw [ho] at h1; cases h1
        | some o =>
          rw [ho] at h1
          simp only [List.mem_map, List.mem_filter, Array.mem_toList_iff] at h1
          obtain ⟨e, ⟨he, hb⟩, rfl⟩ := h1
          exact hdown j o ho (h j (by simpa using hc)) e he hb
    · exact h x hx

theorem sealed {ops : Array Oper} {m : Nat} (h : sealB ops m = true) {listed : Array Bool} (hdown : ∀ (i : Nat) (o : Oper), ops[i]? = some o → listed.getD i false = true → ∀ e ∈ o.after, Region.binds .any e = true → listed.getD e.on false = true)
    {i : Nat} {o : Oper} (ho : ops[i]? = some o) (hi : m ≤ i) (hall : ∀ e ∈ o.after, Region.binds .any e = true → listed.getD e.on false = true) {j : Nat} (hj : j < i) : listed.getD j false = true := by
  have hlt := (Array.getElem?_eq_some_iff.1 ho).1
  have h1 := List.all_eq_true.1 h i (List.mem_range.2 hlt)
  simp only [ho, Bool.or_eq_true, decide_eq_true_eq] at h1
  rcases h1 with h1 | h1
  · omega
  · have h2 := List.all_eq_true.1 h1 j (List.mem_range.2 hj)
    refine cover_listed hdown _ _ (fun x hx => ?_) j (by simpa using h2)
    simp only [List.mem_map, List.mem_filter, Array.mem_toList_iff] at hx
    obtain ⟨e, ⟨he, hb⟩, rfl⟩ := hx
    exact hall e he hb

theorem count_drop {listed : Array Bool} {p n : Nat} (hs : listed.size = n) (hp : p ≤ n) (h1 : ∀ j, j < p → listed.getD j false = true) (h2 : ∀ j, p ≤ j → j < n → listed.getD j true = false) : listed.toList.count false = n - p := by
  have hl : listed.toList.length = n := by simpa using hs
  have e : listed.toList = List.replicate p true ++ List.replicate (n - p) false := by
    apply List.ext_getElem
    · simp only [hl, List.length_append, List.length_replicate]
      omega
    · intro j hj hj'
      have hjn : j < n := by omega
      have hj2 : j < listed.size := by omega
      by_cases hjp : j < p
      · rw [List.getElem_append_left (by simpa using hjp)]
        have := h1 j hjp
        simpa [hj2] using this
      · rw [List.getElem_append_right (by simpa using hjp)]
        have := h2 j (by omega) hjn
        simpa [hj2] using this
  rw [e, List.count_append, List.count_replicate, List.count_replicate]
  simp

theorem any_tail {P : Program} {ops : Array Oper} {Q : Exit → Act → World → Prop} {m : Nat} (hseal : sealB ops m = true) (hlt : ∀ (i : Nat) (o : Oper), ops[i]? = some o → ∀ e ∈ o.after, Region.binds .any e = true → e.on < i) :
    ∀ (fuel p : Nat) (listed : Array Bool) (a : Act) (w : World), m ≤ p → p + fuel = ops.size → listed.size = ops.size → (∀ j, j < p → listed.getD j false = true) → (∀ j, p ≤ j → j < ops.size → listed.getD j true = false) →
    wpList P ops Q (ops.toList.drop p) a w → wpAny P .any ops Q fuel listed a w
  | 0, p, listed, a, w, _, hp, hs, h1, _, h => by
    have hp' : p = ops.size := by omega
    subst hp'
    have hd : ops.toList.drop ops.size = [] := by simp
    rw [hd] at h
    refine ⟨?_, h⟩
    apply List.eq_nil_iff_forall_not_mem.2
    intro j hj
    obtain ⟨h0, o, ho, _⟩ := mem_ready.1 hj
    have hjlt := (Array.getElem?_eq_some_iff.1 ho).1
    have h3 := h1 j hjlt
    rw [listed_ne hs hjlt h0] at h3
    cases h3
  | fuel + 1, p, listed, a, w, hm, hp, hs, h1, h2, h => by
    have hpl : p < ops.size := by omega
    have hpo : ops[p]? = some ops[p] := by simp [hpl]
    have hd : ops.toList.drop p = ops[p] :: ops.toList.drop (p + 1) := by
      rw [List.drop_eq_getElem_cons (by simpa using hpl)]
      simp
    have hdown : ∀ (i : Nat) (o : Oper), ops[i]? = some o → listed.getD i false = true → ∀ e ∈ o.after, Region.binds .any e = true → listed.getD e.on false = true := fun i o ho hli e he hb => by
      have hip : i < p := by
        rcases Nat.lt_or_ge i p with h' | h'
        · exact h'
        · have hil := (Array.getElem?_eq_some_iff.1 ho).1
          rw [listed_ne hs hil (h2 i h' hil)] at hli
          cases hli
      exact h1 _ (Nat.lt_trans (hlt i o ho e he hb) hip)
    refine ⟨fun hr => ?_, fun j hj => ?_⟩
    · exfalso
      have hmem : p ∈ Region.ready .any ops listed := mem_ready.2 ⟨h2 p (Nat.le_refl _) hpl, _, hpo, fun e he hb => h1 _ (hlt p _ hpo e he hb)⟩
      rw [hr] at hmem
      cases hmem
    · obtain ⟨h0, o, ho, hall⟩ := mem_ready.1 hj
      have hjlt := (Array.getElem?_eq_some_iff.1 ho).1
      have hjp : p ≤ j := by
        rcases Nat.lt_or_ge j p with h' | h'
        · have h3 := h1 j h'
          rw [listed_ne hs hjlt h0] at h3
          cases h3
        · exact h'
      have hj2 : j = p := by
        rcases Nat.lt_or_ge p j with h' | h'
        · have h3 := sealed hseal hdown ho (Nat.le_trans hm hjp) hall h'
          rw [listed_ne hs hpl (h2 p (Nat.le_refl _) hpl)] at h3
          cases h3
        · omega
      subst hj2
      rw [hd] at h
      have key : ∀ a' w', wpList P ops Q (ops.toList.drop (j + 1)) a' w' → wpAny P .any ops Q fuel (listed.setIfInBounds j true) a' w' := fun a' w' h' =>
        any_tail hseal hlt fuel (j + 1) _ a' w' (by omega) (by omega) (by simpa using hs) (fun i hi => by
          by_cases hij : j = i
          · subst hij
            simp [hs, hjlt]
          · rw [getD_set_ne false hij]
            exact h1 i (by omega)) (fun i hi hi2 => by rw [getD_set_ne true (by omega)]; exact h2 i (by omega) hi2) h'
      unfold wpOp
      rw [hpo]
      unfold wpList at h
      split at h
      · rename_i hw
        simp only [hw, if_true]
        exact h.imp (Oper.wp_mono key) id
      · rename_i hw
        simp only [hw]
        exact key _ _ h

theorem any_slots {P : Program} {ops : Array Oper} {a0 : Act} {S SF : World → Prop} {SS : Nat → World → Prop} {R : World → World → Prop} {Tf : Facts} {Q : Exit → Act → World → Prop} {m : Nat} (hmle : m ≤ ops.size) (hseal : sealB ops m = true) (hstep : ∀ f w w', SS (f + 1) w → R w w' → SS f w') (hSS : ∀ f w, f < ops.size → SS (f + 1) w → S w) (hF : ∀ f w, f ≤ ops.size → SS f w → SF w) (hl : ∀ d p, Tf.lookup d = some p → lasts R p)
    (hbd : ∀ (i : Nat) (o : Oper) (d : Tmp), ops[i]? = some o → o.dst = some d → d < a0.tmps.size) (hg : ∀ (i : Nat) (o : Oper), i < m → ops[i]? = some o → o.guard = none) (hlt : ∀ (i : Nat) (o : Oper), ops[i]? = some o → ∀ e ∈ o.after, Region.binds .any e = true → e.on < i)
    (hobl : ∀ (j : Nat) (o : Oper), j < m → ops[j]? = some o → ∃ n T, tabRowB ops j o n = true ∧ obl P a0 S R n o Tf T ∧ ∀ d, o.dst = some d → Tf.lookup d = some T)
    (hfin : ∀ a w, SF w → a.defers = a0.defers → a.tmps.size = a0.tmps.size → (∀ (i : Nat) (o : Oper) (d : Tmp) p, i < m → ops[i]? = some o → o.dst = some d → Tf.lookup d = some p → p (a.eval (.tmp d)) w) → (∀ x, (∀ (i : Nat) (o : Oper), i < m → ops[i]? = some o → o.dst ≠ some x) → a.eval (.tmp x) = a0.eval (.tmp x)) → wpList P ops Q (ops.toList.drop m) a w) :
    ∀ (fuel : Nat) (listed : Array Bool) (a : Act) (w : World), listed.toList.count false = fuel → (∀ j, m ≤ j → j < ops.size → listed.getD j true = false) → Inv ops a0 (SS fuel) Tf listed a w → wpAny P .any ops Q fuel listed a w := by
  intro fuel
  induction fuel with
  | zero =>
    intro listed a w hc hm2 hI
    have hno : ∀ i, i < ops.size → listed.getD i false = true := fun i hi => by
      have hi' : i < listed.size := by rw [hI.size]; exact hi
      have : listed[i] ≠ false := fun h => by
        have := List.count_eq_zero.1 hc
        exact this (by rw [← h]; simp)
      simpa [hi'] using this
    have hms : m = ops.size := by
      rcases Nat.lt_or_ge m ops.size with h' | h'
      · have h3 := hno m h'
        rw [listed_ne hI.size h' (hm2 m (Nat.le_refl _) h')] at h3
        cases h3
      · omega
    refine any_tail hseal hlt 0 m listed a w (Nat.le_refl _) (by omega) hI.size (fun j hj => hno j (by omega)) hm2 ?_
    exact hfin a w (hF 0 w (Nat.zero_le _) hI.ok) hI.defers hI.len (fun i o d p _ ho hd hp => hI.fresh i o d p ho (hno i (Array.getElem?_eq_some_iff.1 ho).1) hd hp) (fun x hx => hI.old x fun i o ho _ => hx i o (by rw [hms]; exact (Array.getElem?_eq_some_iff.1 ho).1) ho)
  | succ fuel ih =>
    intro listed a w hc hm2 hI
    by_cases hdone : ∀ j, j < m → listed.getD j false = true
    · have hcnt := count_drop hI.size hmle hdone hm2
      refine any_tail hseal hlt (fuel + 1) m listed a w (Nat.le_refl _) (by omega) hI.size hdone hm2 ?_
      refine hfin a w (hF _ w (by have := List.count_le_length (a := false) (l := listed.toList); rw [hc, Array.length_toList, hI.size] at this; exact this) hI.ok) hI.defers hI.len (fun i o d p hi ho hd hp => hI.fresh i o d p ho (hdone i hi) hd hp) (fun x hx => hI.old x fun i o ho hli => ?_)
      refine hx i o ?_ ho
      rcases Nat.lt_or_ge i m with h' | h'
      · exact h'
      · have hil := (Array.getElem?_eq_some_iff.1 ho).1
        rw [listed_ne hI.size hil (hm2 i h' hil)] at hli
        cases hli
    · refine ⟨fun hr => absurd ?_ hdone, fun j hj => ?_⟩
      · -- the first that has not come up may come up
        have hall : ∀ k, k ≤ m → ∀ i, i < k → listed.getD i false = true := by
          intro k
          induction k with
          | zero => intro _ i hi; omega
          | succ k ihk =>
            intro hk i hi
            by_cases hik : i < k
            · exact ihk (by omega) i hik
            · have : i = k := by omega
              subst this
              have hi' : i < ops.size := by omega
              cases hb : listed.getD i true with
              | true =>
                have hi2 : i < listed.size := by rw [hI.size]; exact hi'
                simpa [hi2] using hb
              | false =>
                have hmem : i ∈ Region.ready .any ops listed := mem_ready.2 ⟨hb, ops[i], by simp [hi'], fun e he hbi => ihk (by omega) e.on (hlt i _ (by simp [hi']) e he hbi)⟩
                rw [hr] at hmem
                cases hmem
        exact hall m (Nat.le_refl _)
      · obtain ⟨h0, o, ho, hall⟩ := mem_ready.1 hj
        have hjlt := (Array.getElem?_eq_some_iff.1 ho).1
        have hjm : j < m := by
          rcases Nat.lt_or_ge j m with h' | h'
          · exact h'
          · exact absurd (fun i hi => sealed hseal hI.down ho h' hall (Nat.lt_of_lt_of_le hi h')) hdone
        obtain ⟨n, T, htab, hob, hT⟩ := hobl j o hjm ho
        have hun := listed_ne hI.size hjlt h0
        have hgot := hob a.eval w (plain_eval a) (hSS fuel w (by have := List.count_le_length (a := false) (l := listed.toList); rw [hc, Array.length_toList, hI.size] at this; exact this) hI.ok) (needs_iff.2 (needs_of hI ho hun hall n htab))
        unfold wpOp
        simp only [ho]
        rw [if_pos (by simp [Region.wanted, hg j o hjm ho])]
        refine .inl (upon_of_got (got_mono (fun v w' ⟨hR, hv⟩ => ?_) hgot))
        have hI' := inv_step (hstep fuel) hl hbd hI ho hall hT hR hv
        refine ih _ _ _ ?_ (fun i hi hi2 => by rw [getD_set_ne true (by omega)]; exact hm2 i hi hi2) hI'
        have hcs := count_set (by rw [hI.size]; exact hjlt) h0
        omega

theorem lookup_mem {d : Tmp} {p : Fact} : ∀ {Tf : Facts}, Tf.lookup d = some p → (d, p) ∈ Tf
  | [], h => by cases h
  | (k, q) :: r, h => by
    rw [List.lookup_cons] at h
    cases hk : (d == k) with
    | true =>
      rw [hk] at h
      obtain rfl := Option.some.inj h
      rw [beq_iff_eq] at hk
      subst hk
      simp
    | false =>
      rw [hk] at h
      exact List.mem_cons_of_mem _ (lookup_mem h)

theorem rep_false (n i : Nat) : (Array.replicate n false).getD i false = false := by
  by_cases h : i < n <;> simp [h]

theorem factsAt_of {vs : Tmp → Value} {w : World} : ∀ {Tf : Facts}, (∀ d p, (d, p) ∈ Tf → p (vs d) w) → factsAt vs w Tf
  | [], _ => trivial
  | (d, p) :: r, h => ⟨h d p (by simp), factsAt_of fun d' p' h' => h d' p' (List.mem_cons_of_mem _ h')⟩

theorem putAll_spec (vs : Tmp → Value) : ∀ (l : List Oper) (a : Act), (∀ o ∈ l, ∀ d, o.dst = some d → d < a.tmps.size) →
    (putAll vs l a).defers = a.defers ∧ (putAll vs l a).tmps.size = a.tmps.size ∧ ∀ x, ((∃ o ∈ l, o.dst = some x) → (putAll vs l a).eval (.tmp x) = vs x) ∧ ((¬ ∃ o ∈ l, o.dst = some x) → (putAll vs l a).eval (.tmp x) = a.eval (.tmp x))
  | [], a, _ => ⟨rfl, rfl, fun x => ⟨fun h => (by obtain ⟨o, ho, _⟩ := h; cases ho), fun _ => rfl⟩⟩
  | o :: l, a, hb => by
    cases hd : o.dst with
    | none =>
      have e : putAll vs (o :: l) a = putAll vs l a := by simp [putAll, hd]
      obtain ⟨h1, h2, h3⟩ := putAll_spec vs l a (fun o' ho' => hb o' (List.mem_cons_of_mem _ ho'))
      rw [e]
      refine ⟨h1, h2, fun x => ⟨?_, ?_⟩⟩
      · rintro ⟨o', ho', hx⟩
        rcases List.mem_cons.1 ho' with rfl | ho'
        · rw [hd] at hx; cases hx
        · exact (h3 x).1 ⟨o', ho', hx⟩
      · intro hno
        exact (h3 x).2 fun ⟨o', ho', hx⟩ => hno ⟨o', List.mem_cons_of_mem _ ho', hx⟩
    | some d =>
      have e : putAll vs (o :: l) a = putAll vs l (a.put (some d) (vs d)) := by simp [putAll, hd]
      have hdl : d < a.tmps.size := hb o (by simp) d hd
      obtain ⟨h1, h2, h3⟩ := putAll_spec vs l (a.put (some d) (vs d)) (fun o' ho' d' hd' => by rw [putA_len]; exact hb o' (List.mem_cons_of_mem _ ho') d' hd')
      rw [e]
      refine ⟨h1.trans (put_def _ _ _), h2.trans (putA_len _ _ _), fun x => ⟨?_, ?_⟩⟩
      · rintro ⟨o', ho', hx⟩
        by_cases hin : ∃ o ∈ l, o.dst = some x
        · exact (h3 x).1 hin
        · rw [(h3 x).2 hin]
          rcases List.mem_cons.1 ho' with rfl | ho'
          · obtain rfl := Option.some.inj (hd.symm.trans hx)
            exact put_at _ _ _ hdl
          · exact absurd ⟨o', ho', hx⟩ hin
      · intro hno
        rw [(h3 x).2 fun ⟨o', ho', hx⟩ => hno ⟨o', List.mem_cons_of_mem _ ho', hx⟩]
        exact put_off _ _ _ _ fun e => hno ⟨o, by simp, by rw [hd]; exact e⟩

theorem act_ext {a b : Act} (hd : a.defers = b.defers) (hl : a.tmps.size = b.tmps.size) (h : ∀ x, a.eval (.tmp x) = b.eval (.tmp x)) : a = b := by
  obtain ⟨ta, da⟩ := a
  obtain ⟨tb, db⟩ := b
  simp only at hd hl
  subst hd
  congr 1
  refine Array.ext hl fun i h1 h2 => ?_
  have := h i
  simpa [Act.eval, h1, h2] using this

theorem wp_region_slots_n {P : Program} {id : Nat} {Q : Exit → Act → World → Prop} {a0 : Act} {w0 : World} {all : List Oper} (m : Nat) (N : List (List (Tmp × Bool))) (S SF : World → Prop) (SS : Nat → World → Prop) (R : World → World → Prop)
    (hm : P.follows .mixedOrders = true) (hB : tidyB all.toArray m N = true) (hz : (all.all fun o => match o.dst with | some d => decide (d < a0.tmps.size) | none => true) = true)
    (h0 : SS all.length w0.drew) (hstep : ∀ f w w', SS (f + 1) w → R w w' → SS f w') (hSS : ∀ f w, f < all.length → SS (f + 1) w → S w) (hF : ∀ f w, f ≤ all.length → SS f w → SF w)
    (h : wpSlots P a0 S R (fun Ts => ∀ vs w, SF w → factsAt vs w Ts → wpList P all.toArray Q (all.drop m) (putAll vs (all.take m) a0) w) N (all.take m) []) : (Code.region id all.toArray true).wp P Q a0 w0 := by
  simp only [tidyB, Bool.and_eq_true, beq_iff_eq, decide_eq_true_eq] at hB
  obtain ⟨⟨⟨⟨⟨hdist, hguard⟩, hlen⟩, hmle⟩, hseal⟩, htab⟩ := hB
  have hops : ∀ (i : Nat) (o : Oper), all.toArray[i]? = some o → all[i]? = some o := fun i o h => by simpa using h
  have hmemo : ∀ (i : Nat) (o : Oper), all.toArray[i]? = some o → o ∈ all := fun i o h => List.mem_of_getElem? (hops i o h)
  have htk : ∀ (i : Nat) (o : Oper), i < m → all.toArray[i]? = some o → (all.take m)[i]? = some o := fun i o hi h => by rw [List.getElem?_take_of_lt hi]; exact hops i o h
  have hbd : ∀ (i : Nat) (o : Oper) (d : Tmp), all.toArray[i]? = some o → o.dst = some d → d < a0.tmps.size := fun i o d ho hd => by
    have := List.all_eq_true.1 hz o (hmemo i o ho)
    simpa [hd] using this
  obtain ⟨Tf, hfin, _, hmem, hall⟩ := collect N (all.take m) [] h (by simpa using hdist)
  have hrow : ∀ (j : Nat) (o : Oper), all.toArray[j]? = some o → (∀ e ∈ o.after, Region.binds .any e = true → e.on < j) ∧ (j < m → ∃ n, N[j]? = some n ∧ tabRowB all.toArray j o n = true) := fun j o ho => by
    have hj := (Array.getElem?_eq_some_iff.1 ho).1
    have h1 := List.all_eq_true.1 htab j (List.mem_range.2 hj)
    rw [ho] at h1
    simp only [Bool.and_eq_true] at h1
    refine ⟨fun e he hb => ?_, fun hjm => ?_⟩
    · have h2 := Array.all_eq_true'.1 h1.1 e he
      simpa [hb] using h2
    · have hjN : j < N.length := by rw [hlen]; exact hjm
      have h2 := h1.2
      rw [List.getElem?_eq_getElem hjN] at h2
      exact ⟨_, List.getElem?_eq_getElem hjN, h2⟩
  have hback : ∀ (k : Nat) (o : Oper), (all.take m)[k]? = some o → k < m ∧ all.toArray[k]? = some o := fun k o hk => by
    have hkl := (List.getElem?_eq_some_iff.1 hk).1
    have hkm : k < m := by
      rw [List.length_take] at hkl
      omega
    rw [List.getElem?_take_of_lt hkm] at hk
    exact ⟨hkm, by simpa using hk⟩
  refine wp_region_any hm ?_
  refine any_slots (m := m) (Tf := Tf) (a0 := a0) (SS := SS) (S := S) (SF := SF) hmle hseal hstep (fun f w hf => hSS f w (by simpa using hf)) (fun f w hf => hF f w (by simpa using hf)) (fun d p hp => ?_) hbd (fun i o hi ho => ?_) (fun i o ho => (hrow i o ho).1) (fun j o hj ho => ?_) (fun a w hSw hdef hsz hfr hold => ?_) _ _ _ _ ?_ ?_ ?_
  · -- each fact lasts
    rcases hmem d p (lookup_mem hp) with h1 | ⟨_, k, o, hk, hod⟩
    · cases h1
    · obtain ⟨hkm, hk'⟩ := hback k o hk
      obtain ⟨n, hn, _⟩ := (hrow k o hk').2 hkm
      obtain ⟨T, hT, _, hT2⟩ := hall k n o hn hk
      obtain rfl := Option.some.inj ((hT2 d hod).symm.trans hp)
      exact hT
  · have := List.all_eq_true.1 hguard o (List.mem_of_getElem? (htk i o hi ho))
    simpa using this
  · obtain ⟨n, hn, h1⟩ := (hrow j o ho).2 hj
    obtain ⟨T, _, hT1, hT2⟩ := hall j n o hn (htk j o hj ho)
    exact ⟨n, T, h1, hT1, hT2⟩
  · obtain ⟨p1, p2, p3⟩ := putAll_spec (fun d => a.eval (.tmp d)) (all.take m) a0 (fun o ho d hd => by
      obtain ⟨i, hi, he⟩ := List.getElem_of_mem ho
      obtain ⟨_, hi'⟩ := hback i o (by rw [List.getElem?_eq_getElem hi, he])
      exact hbd i o d hi' hd)
    have e : a = putAll (fun d => a.eval (.tmp d)) (all.take m) a0 := by
      refine act_ext (hdef.trans p1.symm) (hsz.trans p2.symm) fun x => ?_
      by_cases hx : ∃ o ∈ all.take m, o.dst = some x
      · exact ((p3 x).1 hx).symm
      · rw [(p3 x).2 hx]
        exact hold x fun i o hi ho hd => hx ⟨o, List.mem_of_getElem? (htk i o hi ho), hd⟩
    rw [e]
    refine hfin _ w hSw (factsAt_of fun d p hdp => ?_)
    rcases hmem d p hdp with h1 | ⟨hlk, k, o, hk, hod⟩
    · cases h1
    · obtain ⟨hkm, hk'⟩ := hback k o hk
      exact hfr k o d p hkm hk' hod hlk
  · simp
  · intro j _ hj
    simp at hj
    simp [hj]
  · refine ⟨by simp, by simpa using h0, rfl, rfl, fun i o ho hli => ?_, fun i o d p ho hli => ?_, fun x _ => rfl⟩
    · rw [rep_false] at hli
      cases hli
    · rw [rep_false] at hli
      cases hli

theorem wp_region_slots {P : Program} {id : Nat} {Q : Exit → Act → World → Prop} {a0 : Act} {w0 : World} {all : List Oper} (m : Nat) (N : List (List (Tmp × Bool))) (S : World → Prop) (R : World → World → Prop)
    (hm : P.follows .mixedOrders = true) (hB : tidyB all.toArray m N = true) (hz : (all.all fun o => match o.dst with | some d => decide (d < a0.tmps.size) | none => true) = true)
    (h0 : S w0.drew) (hS : ∀ w w', S w → R w w' → S w')
    (h : wpSlots P a0 S R (fun Ts => ∀ vs w, S w → factsAt vs w Ts → wpList P all.toArray Q (all.drop m) (putAll vs (all.take m) a0) w) N (all.take m) []) : (Code.region id all.toArray true).wp P Q a0 w0 :=
  wp_region_slots_n m N S S (fun _ => S) R hm hB hz h0 (fun _ => hS) (fun _ _ _ h => h) (fun _ _ _ h => h) h

theorem got_call {P : Program} {K : Value → World → Prop} {f : FuncId} {args : Array Value} {w : World} {T : Ending → World → Prop} (h : Calls P f args w T) (hk : ∀ e w', T e w' → ∃ v, e = .returned v ∧ K v w') : got P K (.ok (.enter f args) w) :=
  h.mono hk

theorem slot_eq {P : Program} {a0 : Act} {S : World → Prop} {R : World → World → Prop} {Fin : Facts → Prop} {n : List (Tmp × Bool)} {N : List (List (Tmp × Bool))} {o : Oper} {l : List Oper} {Ts : Facts} {e : Value}
    (h : obl P a0 S R n o Ts (fun v _ => v = e)) (hr : wpSlots P a0 S R Fin N l (addFact o (fun v _ => v = e) Ts)) : wpSlots P a0 S R Fin (n :: N) (o :: l) Ts :=
  ⟨_, lasts_eq _ _, h, hr⟩

theorem slot_fact {P : Program} {a0 : Act} {S : World → Prop} {R : World → World → Prop} {Fin : Facts → Prop} {n : List (Tmp × Bool)} {N : List (List (Tmp × Bool))} {o : Oper} {l : List Oper} {Ts : Facts} (T : Fact) (hT : lasts R T)
    (h : obl P a0 S R n o Ts T) (hr : wpSlots P a0 S R Fin N l (addFact o T Ts)) : wpSlots P a0 S R Fin (n :: N) (o :: l) Ts :=
  ⟨T, hT, h, hr⟩

theorem slot_end {P : Program} {a0 : Act} {S : World → Prop} {R : World → World → Prop} {Fin : Facts → Prop} {Ts : Facts} (h : Fin Ts) : wpSlots P a0 S R Fin [] [] Ts := h

end Go.Proofs.Ytkcbknjmpfgimaa

namespace Go.Proofs.Ytkcbknjmpfgimaa
open Go.ChangeShapes Go.WideShapes Go.ChangeAt Go.RowKit Go.Joins

structure Flat (α : Type) where
  ty : TypeId
  sl : TypeId
  k : Nat
  by8 : Nat
  vals : α → List Value
  z : α
  zv : Value
  len : ∀ x, (vals x).length = k
  one : ∀ x, ∀ u ∈ vals x, u.oneCell' = true
  pos : 0 < k
  und : Try.prog.underlying sl = some (.slice ty)
  info : (Try.prog.info? ty).map (fun i => (i.zero, i.size, i.bytes)) = some (some zv, k, by8)
  zc : zv.cells.size = k
  low : by8 ≤ 1024

section
variable {α : Type} (F : Flat α)

def Flat.At (w : World) (b o : Nat) (x : α) : Prop := ∀ c u, (F.vals x)[c]? = some u → w.cell? ⟨b, o + c, none⟩ = some u

def Flat.Is (w : World) (a : Option Addr) (xs : List α) : Prop :=
  xs = [] ∨ ∃ b o, a = some ⟨b, o, none⟩ ∧ b < w.heap.size ∧ ∀ i, i < xs.length → F.At w b (o + i * F.k) (xs.getD i F.z)

def Flat.Row (w : World) (base : Nat) (v : Value) (xs : List α) : Prop := w.ownsRow base F.ty F.k v xs.length (xs.flatMap F.vals)

def Flat.Own (w : World) (lo hi : Nat) (a : Option Addr) (xs : List α) : Prop :=
  xs = [] ∨ ∃ g, a = some ⟨g, 0, none⟩ ∧ lo ≤ g ∧ g < hi ∧ g < w.heap.size ∧ (∀ i, i < xs.length → F.At w g (i * F.k) (xs.getD i F.z)) ∧ ∀ o, w.frozen? ⟨g, o, none⟩ = false

variable {F}

theorem Flat.vals_len : ∀ xs : List α, (xs.flatMap F.vals).length = xs.length * F.k
  | [] => by simp
  | x :: r => by
    have h := Flat.vals_len r
    rw [List.flatMap_cons, List.length_append, F.len, h, List.length_cons, Nat.succ_mul]
    omega

theorem Flat.vals_at : ∀ (xs : List α) (i c : Nat), i < xs.length → c < F.k → (xs.flatMap F.vals)[i * F.k + c]? = (F.vals (xs.getD i F.z))[c]?
  | [], i, c, hi, _ => by simp at hi
  | x :: r, 0, c, _, hc => by
    rw [List.flatMap_cons, List.getElem?_append_left (by rw [F.len]; omega)]
    simp
  | x :: r, i + 1, c, hi, hc => by
    have e : (i + 1) * F.k + c = F.k + (i * F.k + c) := by rw [Nat.succ_mul]; omega
    rw [List.flatMap_cons, e, List.getElem?_append_right (by rw [F.len]; omega), F.len, Nat.add_sub_cancel_left, Flat.vals_at r i c (by simpa using hi) hc]
    simp

theorem Flat.vals_one (xs : List α) : ∀ u ∈ xs.flatMap F.vals, u.oneCell' = true := by
  intro u hu
  obtain ⟨x, _, hx⟩ := List.mem_flatMap.1 hu
  exact F.one x u hx

theorem Flat.At.block {w w' : World} {b o : Nat} {x : α} (h : F.At w b o x) (hb : w'.heap[b]? = w.heap[b]?) : F.At w' b o x := fun c u hu => (World.cell?_of_block (a := ⟨b, o + c, none⟩) hb).trans (h c u hu)

theorem Flat.Is.nil {w : World} {a : Option Addr} : F.Is w a [] := .inl rfl

theorem Flat.Is.below {w w' : World} {a : Option Addr} {xs : List α} (h : F.Is w a xs) (hb : Below w.heap.size w w') : F.Is w' a xs := by
  rcases h with h | ⟨b, o, ha, hlt, hh⟩
  · exact .inl h
  · exact .inr ⟨b, o, ha, Nat.lt_of_lt_of_le hlt hb.size, fun i hi => (hh i hi).block (hb.block b hlt)⟩

theorem Flat.Is.at {w w' : World} {a : Option Addr} {xs : List α} (h : F.Is w a xs) (hb : Below w.heap.size w w') {k : Nat} (hk : k < xs.length) : ∃ b o, a = some ⟨b, o, none⟩ ∧ b < w'.heap.size ∧ F.At w' b (o + k * F.k) (xs.getD k F.z) := by
  rcases h.below hb with h | ⟨b, o, ha, hlt, hh⟩
  · subst h
    simp at hk
  · exact ⟨b, o, ha, hlt, hh k hk⟩

theorem Flat.Is.news {w : World} {b o : Nat} {xs : List α} (h : F.Is w (some ⟨b, o, none⟩) xs) : ∀ j u, (xs.flatMap F.vals)[j]? = some u → w.cell? ((⟨b, o, none⟩ : Addr).add j) = some u := by
  intro j u hu
  have hj : j < xs.length * F.k := by
    have := (List.getElem?_eq_some_iff.1 hu).1
    rwa [Flat.vals_len] at this
  have hp := F.pos
  have hi : j / F.k < xs.length := Nat.div_lt_of_lt_mul (by rw [Nat.mul_comm]; exact hj)
  have hc : j % F.k < F.k := Nat.mod_lt _ hp
  have hd : j / F.k * F.k + j % F.k = j := by rw [Nat.mul_comm]; exact Nat.div_add_mod _ _
  have hadd : (⟨b, o, none⟩ : Addr).add j = ⟨b, o + j, none⟩ := by
    unfold Addr.add
    split
    · rename_i h0
      rw [h0]
      rfl
    · rfl
  rcases h with h | ⟨b', o', he, hlt, hh⟩
  · subst h
    simp at hj
  · injection he with he
    injection he with e1 e2
    subst e1 e2
    have h1 := Flat.vals_at xs (j / F.k) (j % F.k) hi hc
    rw [hd, hu] at h1
    have h2 := hh _ hi _ _ h1.symm
    rw [Nat.add_assoc, hd] at h2
    rw [hadd]
    exact h2

theorem Flat.Is.take {w : World} {a : Option Addr} {xs : List α} (h : F.Is w a xs) (n : Nat) : F.Is w a (xs.take n) := by
  rcases h with h | ⟨b, o, ha, hlt, hh⟩
  · exact .inl (by rw [h]; simp)
  · refine .inr ⟨b, o, ha, hlt, fun i hi => ?_⟩
    have h1 : i < n ∧ i < xs.length := by
      rw [List.length_take] at hi
      omega
    have e : (xs.take n).getD i F.z = xs.getD i F.z := by simp [List.getD, h1.1]
    rw [e]
    exact hh i h1.2

theorem Flat.Own.is {w : World} {lo hi : Nat} {a : Option Addr} {xs : List α} (h : F.Own w lo hi a xs) : F.Is w a xs := by
  rcases h with h | ⟨g, ha, _, _, hlt, hh, _⟩
  · exact .inl h
  · exact .inr ⟨g, 0, ha, hlt, fun i hi => by rw [Nat.zero_add]; exact hh i hi⟩

theorem Flat.Own.below {w w' : World} {lo hi : Nat} {a : Option Addr} {xs : List α} (h : F.Own w lo hi a xs) (hb : Below w.heap.size w w') : F.Own w' lo hi a xs := by
  rcases h with h | ⟨g, ha, h1, h2, hlt, hh, hf⟩
  · exact .inl h
  · exact .inr ⟨g, ha, h1, h2, Nat.lt_of_lt_of_le hlt hb.size, fun i hi => (hh i hi).block (hb.block g hlt), fun o => (World.frozen?_of_block (a := ⟨g, o, none⟩) (hb.block g hlt)).trans (hf o)⟩

theorem Flat.Own.wider {w : World} {lo hi lo' hi' : Nat} {a : Option Addr} {xs : List α} (h : F.Own w lo hi a xs) (hl : lo' ≤ lo) (hh : hi ≤ hi') : F.Own w lo' hi' a xs := by
  rcases h with h | ⟨g, ha, h1, h2, h3⟩
  · exact .inl h
  · exact .inr ⟨g, ha, by omega, by omega, h3⟩

theorem Flat.Own.only {w w' : World} {S : Nat → Prop} {lo hi : Nat} {a : Option Addr} {xs : List α} (h : F.Own w lo hi a xs) (ho : Only S w w') (hS : ∀ x, S x → x < lo ∨ hi ≤ x) : F.Own w' lo hi a xs := by
  rcases h with h | ⟨g, ha, h1, h2, hlt, hh, hf⟩
  · exact .inl h
  · have hb := ho.block g fun e => by have := hS g e; omega
    exact .inr ⟨g, ha, h1, h2, by rw [ho.size]; exact hlt, fun i hi => (hh i hi).block hb, fun o => (ho.frozen _).trans (hf o)⟩

theorem Flat.Row.below {w w' : World} {base : Nat} {v : Value} {xs : List α} (h : F.Row w base v xs) (hb : Below w.heap.size w w') : F.Row w' base v xs :=
  World.ownsRow.kept (row := none) h ⟨hb.os, hb.tape, hb.output, hb.size, fun k hk _ => hb.block k hk⟩ (by
    by_cases e : v.ownBlock = none
    · exact .inl e
    · exact .inr e)

theorem Flat.Row.mono {w : World} {base base' : Nat} {v : Value} {xs : List α} (h : F.Row w base v xs) (hb : base' ≤ base) : F.Row w base' v xs := by
  refine ⟨h.1, ?_⟩
  rcases h.2 with h1 | ⟨g, cap, cur, h1, h2, h3⟩
  · exact .inl h1
  · exact .inr ⟨g, cap, cur, h1, Nat.le_trans hb h2, h3⟩

theorem Flat.Row.form {w : World} {base : Nat} {v : Value} {xs : List α} (h : F.Row w base v xs) : ∃ a cap, v = .slice a xs.length cap ∧ F.Own w base w.heap.size a xs := by
  rcases h.2 with ⟨h1, h2⟩ | ⟨g, cap, cur, h1, h2, h3, _⟩
  · exact ⟨none, 0, by rw [h1, h2], .inl (List.length_eq_zero_iff.1 h2)⟩
  · have hlt : g < w.heap.size := (Array.getElem?_eq_some_iff.1 h3).1
    subst h1
    refine ⟨_, cap, rfl, .inr ⟨g, rfl, h2, hlt, hlt, fun i hi c u hu => ?_, fun o => World.ownsRow.frozenAt h o⟩⟩
    have hc : c < F.k := by
      have := (List.getElem?_eq_some_iff.1 hu).1
      rwa [F.len] at this
    have hj : i * F.k + c < xs.length * F.k := by
      have := Nat.mul_le_mul_right F.k (show i + 1 ≤ xs.length by omega)
      rw [Nat.succ_mul] at this
      omega
    rw [World.ownsRow.cellAt h _ hj, Flat.vals_at xs i c hi hc, hu]

theorem Flat.row_nil (w : World) (base : Nat) : F.Row w base (.slice none 0 0) [] := World.ownsRow_nil w base _ _

structure Flat.Grew (F : Flat α) (base : Nat) (v v' : Value) (w w' : World) (xs ys : List α) : Prop where
  row : F.Row w' base v' (xs ++ ys)
  grown : w.grownBy w' v.ownBlock
  place : v'.ownBlock = v.ownBlock ∨ v'.ownBlock = some w.heap.size

theorem Flat.run_app {w : World} {base : Nat} {v : Value} {xs : List α} (ty : TypeId) (row : F.Row w base v xs) (sa : Option Addr) (m c : Nat) (ys : List α) (hm : ys.length = m) (src : F.Is w sa ys) (hb : xs.length + m ≤ 8388608) (hbase : base ≤ w.heap.size) :
    ∃ v' w', (Builtin.append_ #[F.sl, F.sl] ty #[v, .slice sa m c]).run Try.prog w = .ok v' w' ∧ F.Grew base v v' w w' xs ys := by
  obtain ⟨i0, hi0, hx0⟩ := Option.map_eq_some_iff.1 F.info
  simp only [Prod.mk.injEq] at hx0
  subst hm
  have go : ∀ ad : Addr, (∀ j u, (ys.flatMap F.vals)[j]? = some u → w.cell? (ad.add j) = some u) → ∃ v' w', (Builtin.append_ #[F.sl, F.sl] ty #[v, .slice (some ad) ys.length c]).run Try.prog w = .ok v' w' ∧ F.Grew base v v' w w' xs ys := fun ad hn => by
    obtain ⟨v', w', hr, h2, h3, _, h5⟩ := run_append_own_at (P := Try.prog) w base F.sl ty F.ty i0 F.zv F.k F.by8 F.und hi0 hx0.1 hx0.2.1 hx0.2.2 F.zc F.pos v xs.length (xs.flatMap F.vals) row ad ys.length c (ys.flatMap F.vals) (Flat.vals_len ys) hn (Flat.vals_one ys) (by unfold maxLen; omega) (Nat.le_trans (Nat.mul_le_mul hb F.low) (by omega)) hbase
    refine ⟨v', w', hr, ⟨?_, h3, h5⟩⟩
    unfold Flat.Row
    rw [List.length_append, List.flatMap_append]
    exact h2
  by_cases h0 : ys.length = 0
  · have e : ys = [] := List.length_eq_zero_iff.1 h0
    subst e
    cases sa with
    | some ad => exact go ad fun j u hu => by simp at hu
    | none =>
      obtain ⟨v', w', hr, h⟩ := go ⟨0, 0, none⟩ fun j u hu => by simp at hu
      refine ⟨v, w, ?_, ⟨by simpa using row, ⟨rfl, rfl, rfl, Nat.le_refl _, fun _ _ _ => rfl⟩, .inl rfl⟩⟩
      obtain ⟨a, cap, rfl, hown⟩ := row.form
      have hle : xs.length ≤ cap := by
        rcases row.2 with ⟨q1, q2⟩ | ⟨g, cap', cur, q1, _, _, q4, _⟩
        · omega
        · injection q1 with _ _ q1
          omega
      cases a <;> simp [Builtin.append_, run_underlying F.und, sizeOf, typeInfo, hi0, Builtin.lenOf, Builtin.firstCells, hle, storeCells, loadCells]
  · rcases src with h | ⟨b, o, rfl, hlt, hh⟩
    · rw [h] at h0
      simp at h0
    · exact go _ (Flat.Is.news (.inr ⟨b, o, rfl, hlt, hh⟩))

theorem Flat.wp_app {w : World} {ops : Array Oper} {rest : List Oper} {o : Oper} {a : Act} {Q : Exit → Act → World → Prop} (hgd : o.guard = none) (s x : Operand)
    (ho : o.op = .call { callee := .builtin .append, args := #[s, x], argTypes := #[F.sl, F.sl] }) (base : Nat) (v : Value) (xs : List α) (hs : a.eval s = v) (row : F.Row w base v xs)
    (sa : Option Addr) (m c : Nat) (ys : List α) (hm : ys.length = m) (hx : a.eval x = .slice sa m c) (src : F.Is w sa ys) (hb : xs.length + m ≤ 8388608) (hbase : base ≤ w.heap.size)
    (h : ∀ v' w', F.Grew base v v' w w' xs ys → wpList Try.prog ops Q rest (a.put o.dst v') w') : wpList Try.prog ops Q (o :: rest) a w := by
  refine wpList_plain hgd fun K hK => ?_
  obtain ⟨v', w', hr, hg⟩ := Flat.run_app o.type row sa m c ys hm src hb hbase
  unfold Oper.wp execOp
  simp only [ho, resolve, invoke, builtin, Sem.run_bind, Sem.run_pure, Result.andThen_ok, List.map_toArray, List.map_cons, List.map_nil, hs, hx, hr]
  exact hK _ _ (h v' w' hg)

theorem Flat.Grew.below {base B : Nat} {v v' : Value} {w w' : World} {xs ys : List α} (h : F.Grew base v v' w w' xs ys) (hv : ∀ g, v.ownBlock = some g → B ≤ g) (hB : B ≤ w.heap.size) : Below B w w' :=
  ⟨h.grown.os, h.grown.tape, h.grown.output, h.grown.size, fun k hk => h.grown.block k (by omega) (fun e => by have := hv k e.symm; omega)⟩

theorem Flat.Row.block {w : World} {base g : Nat} {v : Value} {xs : List α} (h : F.Row w base v xs) (hv : v.ownBlock = some g) : base ≤ g ∧ g < w.heap.size := by
  rcases h.2 with ⟨h1, _⟩ | ⟨g', cap, cur, h1, h2, h3, _⟩
  · rw [h1] at hv
    simp [Value.ownBlock] at hv
  · rw [h1] at hv
    simp only [Value.ownBlock, Option.some.injEq] at hv
    subst hv
    exact ⟨h2, (Array.getElem?_eq_some_iff.1 h3).1⟩

theorem Flat.Own.far {w : World} {lo hi : Nat} {a : Option Addr} {xs : List α} {p : Addr} (h : F.Own w lo hi a xs) (hp : p.block < lo ∨ hi ≤ p.block) (v : Value) : F.Own (w.setCell p v) lo hi a xs := by
  rcases h with h | ⟨g, ha, h1, h2, hlt, hh, hf⟩
  · exact .inl h
  · refine .inr ⟨g, ha, h1, h2, by simpa using hlt, fun i hi c u hu => (World.cell?_setCell_other _ _ _ _ (fun e => ?_)).trans (hh i hi c u hu), fun o => by rw [World.frozen?_setCell]; exact hf o⟩
    have : p.block = g := by rw [e]
    omega

theorem Flat.vals_head (x : α) : ∃ u r, F.vals x = u :: r := by
  have h := F.len x
  have hp := F.pos
  cases hv : F.vals x with
  | nil =>
    rw [hv] at h
    simp at h
    omega
  | cons u r => exact ⟨u, r, rfl⟩

theorem Flat.Own.off {w : World} {lo hi b : Nat} {a : Option Addr} {xs : List α} (h : F.Own w lo hi a xs) {s t : Value} {ty : TypeId} (hs : ∀ x : α, (F.vals x)[0]? ≠ some s) (hb : w.heap[b]? = some (.cells #[s, t] ty (0, 0))) (i : Nat) (v : Value) : F.Own (w.setCell ⟨b, i, none⟩ v) lo hi a xs := by
  rcases h with h | ⟨g, ha, h1, h2, hlt, hh, hf⟩
  · exact .inl h
  · by_cases hz : xs = []
    · exact .inl hz
    · refine .inr ⟨g, ha, h1, h2, by simpa using hlt, fun j hj c u hu => (World.cell?_setCell_other _ _ _ _ (fun e => ?_)).trans (hh j hj c u hu), fun o => by rw [World.frozen?_setCell]; exact hf o⟩
      have e1 : b = g := by injection e
      subst e1
      obtain ⟨u0, r0, hu0⟩ := F.vals_head (xs.getD 0 F.z)
      have h0 := hh 0 (List.length_pos_iff.2 hz) 0 u0 (by rw [hu0]; rfl)
      rw [Nat.zero_mul, cell_of_row w b _ _ _ (0, 0) hb] at h0
      simp at h0
      exact hs (xs.getD 0 F.z) (by rw [hu0, h0]; rfl)

theorem Flat.Own.range {w : World} {lo hi : Nat} {a : Option Addr} {xs : List α} (h : F.Own w lo hi a xs) : xs.length = 0 ∨ ∃ c, a = some ⟨c, 0, none⟩ ∧ lo ≤ c ∧ c < hi := by
  rcases h with h | ⟨b, ha, h1, h2, -⟩
  · exact .inl (by rw [h]; rfl)
  · exact .inr ⟨b, ha, h1, h2⟩

theorem Flat.Own.marked {S : Nat → Prop} {w w' : World} {o : Obj} {lo hi : Nat} {a : Option Addr} {xs : List α} (ho : Only S (w.alloc o) w') (h : F.Own w lo hi a xs) (hS : ∀ x, S x → x < lo ∨ hi ≤ x) : F.Own w' lo hi a xs :=
  (h.below ((Below.refl _ _).alloc (Nat.le_refl _) o)).only ho hS

variable (F)

def Flat.Marked (w : World) (a : Option Addr) (n : Nat) (k : Int) : Prop := n = 0 ∨ ∃ g, a = some ⟨g, 0, none⟩ ∧ g < w.heap.size ∧ CellsAre w g (n * F.k) (markFn k)

variable {F}

theorem Flat.Marked.below {w w' : World} {a : Option Addr} {n : Nat} {k : Int} (h : F.Marked w a n k) (hb : Below w.heap.size w w') : F.Marked w' a n k := by
  rcases h with h | ⟨g, h1, h2, h3⟩
  · exact .inl h
  · exact .inr ⟨g, h1, Nat.lt_of_lt_of_le h2 hb.size, h3.of_block (hb.block g h2)⟩

theorem Flat.Marked.only {S : Nat → Prop} {w w' : World} {a : Option Addr} {n : Nat} {k : Int} {lo hi : Nat} (h : F.Marked w a n k) (hr : n = 0 ∨ ∃ c, a = some ⟨c, 0, none⟩ ∧ lo ≤ c ∧ c < hi) (ho : Only S w w') (hS : ∀ x, S x → x < lo ∨ hi ≤ x) : F.Marked w' a n k := by
  rcases h with h | ⟨b, hb, hlt, hc⟩
  · exact .inl h
  · rcases hr with hr | ⟨c, he, h1, h2⟩
    · exact .inl hr
    · rw [hb] at he
      injection he with he
      injection he with he
      subst he
      exact .inr ⟨b, hb, by rw [ho.size]; exact hlt, hc.of_block (ho.block b fun e => by have := hS b e; omega)⟩

theorem Flat.Marked.lt {w : World} {a : Option Addr} {n : Nat} {k : Int} (h : F.Marked w a n k) : ∀ c, a = some ⟨c, 0, none⟩ → n ≠ 0 → c < w.heap.size := by
  intro c hc hn
  rcases h with h | ⟨b, hb, hlt, -⟩
  · exact absurd h hn
  · rw [hc] at hb
    injection hb with hb
    injection hb with hb
    rw [hb]
    exact hlt

theorem Flat.Marked.far {w : World} {c B : Nat} {a : Option Addr} {n : Nat} {k : Int} {p : Addr} (h : F.Marked w a n k) (hl : ∀ c, a = some ⟨c, 0, none⟩ → n ≠ 0 → c < B) (hc : B ≤ c) (hp : p.block = c) (v : Value) : F.Marked (w.setCell p v) a n k := by
  rcases h with h | ⟨b, hb, hlt, hcs⟩
  · exact .inl h
  · by_cases hn : n = 0
    · exact .inl hn
    · have := hl b hb hn
      exact .inr ⟨b, hb, by simpa using hlt, hcs.of_block (Below.heap_setCell _ _ _ _ (by show b ≠ p.block; omega))⟩

end

/-! ### Boxes of two cells; what stays while a list is marked -/

def FlR (w w' : World) : Prop := Below w.heap.size w w'

theorem flR_refl (w : World) : FlR w w := Below.refl _ _

theorem fl_cells {w w' : World} {b : Nat} {v : Value} {o : Nat} (hb : Below w.heap.size w w') (hlt : b < w.heap.size) (h : w.cell? ⟨b, o, none⟩ = some v) : w'.cell? ⟨b, o, none⟩ = some v := (hb.cell (p := ⟨b, o, none⟩) hlt).trans h

end Go.Proofs.Ytkcbknjmpfgimaa
