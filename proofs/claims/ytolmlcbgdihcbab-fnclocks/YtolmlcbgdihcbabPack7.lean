import Derived.Test.YtolmlcbgdihcbabPack1
import Derived.Test.YtolmlcbgdihcbabPack4
import Derived.Test.YtolmlcbgdihcbabPack5
/- The laws' same over lists of numbers: whether two lists are one. -/
namespace Go.Proofs.Ytolmlcbgdihcbab
open Go.ChangeShapes Go.WideShapes Go.ChangeAt Go.RowKit Go.Joins
attribute [local go_sem ↓] Go.wp_at_zero Go.wp_at_succ

theorem same_lists {xs ys : List Int} (hl : xs.length = ys.length) (h : ∀ k, k < xs.length → xs.getD k 0 = ys.getD k 0) : xs = ys := by
  apply List.ext_getElem hl
  intro i h1 h2
  have := h i h1
  simpa [List.getD, h1, h2] using this

set_option maxRecDepth 100000 in
set_option maxHeartbeats 2000000 in
theorem same_dec (a a' : Option Addr) (cap cap' : Nat) (xs ys : List Int) (w : World) (hm : xs.length ≤ 1048576) (hm' : ys.length ≤ 1048576) (hh : IsIs w a xs) (hh' : IsIs w a' ys) :
    Calls Try.prog 10 #[.slice a xs.length cap, .slice a' ys.length cap'] w fun e w' => e = .returned (.bool (decide (xs = ys))) ∧ Below w.heap.size w w' := by
  have HH : Hid (IsIs w a xs) := hh
  have HH' : Hid (IsIs w a' ys) := hh'
  clear hh hh'
  obtain ⟨d, hd⟩ : ∃ d, decide (xs = ys) = d := ⟨_, rfl⟩
  rw [hd]
  obtain ⟨n, hn⟩ : ∃ n, xs.length = n := ⟨_, rfl⟩
  obtain ⟨n', hn'⟩ : ∃ n, ys.length = n := ⟨_, rfl⟩
  rw [hn] at hm ⊢
  rw [hn'] at hm' ⊢
  have HN := Lib.hid hn
  have HN' := Lib.hid hn'
  have HD := Lib.hid hd
  clear hn hn' hd
  by_cases hq : n = n'
  · subst hq
    go_enter Try.func10, Try.ntmps10
    go_wp2
    go_loopw [5] (fun i wr => ∃ k : Nat, k ≤ n ∧ i = .int .i64 k ∧ Hid (∀ j, j < k → xs.getD j 0 = ys.getD j 0) ∧ Hid (Below w.heap.size w wr)) (fun i _ => n - (intOf i).toNat)
    case atStart => exact ⟨0, Nat.zero_le _, rfl, fun j hj => absurd hj (Nat.not_lt_zero j), Below.refl _ _⟩
    case round =>
      obtain ⟨k, hk, rfl, HE, HB⟩ := hrel
      by_cases hk' : k < n
      · obtain ⟨b, o, rfl, hz, e0⟩ := HH.out.at HB.out (show k < xs.length by rw [HN.out]; exact hk')
        obtain ⟨b', o', rfl, hz', f0⟩ := HH'.out.at HB.out (show k < ys.length by rw [HN'.out]; exact hk')
        have i1 : (0 : Int) ≤ (k : Int) := by omega
        have i2 : (k : Int) < (n : Int) := by omega
        clear HH HH'
        by_cases hxy : xs.getD k 0 = ys.getD k 0
        · have HE2 : Hid (∀ j, j < k + 1 → xs.getD j 0 = ys.getD j 0) := fun j hj => by
            by_cases h : j < k
            · exact HE.out j h
            · have : j = k := by omega
              rw [this]
              exact hxy
          rw [← hxy] at f0
          clear hxy
          generalize xs.getD k 0 = x at *
          go_wp2_with fail
          have ge0 := aft_cell hz e0
          have gf0 := aft_cell hz' f0
          have ne := aft_some wr
          refine wp_region_aft (by kernel_rfl) (by kernel_rfl) ?_
          repeat (first | go_big_quiet_step (fail))
          refine wpQuiet_nil ?_
          intro wq hq
          have HBQ : Hid (Below w.heap.size w wq) := below_step HB.out HB.out.size hq
          clear hq
          go_wp2
          exact ⟨⟨k + 1, by omega, by go_num, HE2, HBQ⟩, by simp [intOf]; omega⟩
        · have HF : Hid (d = false) := by
            show d = false
            rw [← HD.out]
            exact decide_eq_false fun e => hxy (by rw [e])
          generalize xs.getD k 0 = x at *
          generalize ys.getD k 0 = y at *
          have hb1 : (x == y) = false := by simpa using hxy
          have hb2 : (x != y) = true := by simpa using hxy
          clear hxy
          go_wp2_with fail
          have ge0 := aft_cell hz e0
          have gf0 := aft_cell hz' f0
          have ne := aft_some wr
          refine wp_region_aft (by kernel_rfl) (by kernel_rfl) ?_
          repeat (first | go_big_quiet_step (fail))
          refine wpQuiet_nil ?_
          intro wq hq
          have HBQ : Hid (Below w.heap.size w wq) := below_step HB.out HB.out.size hq
          clear hq
          go_wp2
          go_ret
          exact ⟨by rw [HF.out]; rfl, HBQ.out⟩
      · have hkk : k = n := by omega
        subst hkk
        have HT : Hid (d = true) := by
          show d = true
          rw [← HD.out]
          exact decide_eq_true (same_lists (by rw [HN.out, HN'.out]) (fun j hj => HE.out j (by rw [HN.out] at hj; exact hj)))
        go_wp2
        go_ret
        exact ⟨by rw [HT.out]; rfl, HB.out⟩
  · have HF : Hid (d = false) := by
      show d = false
      rw [← HD.out]
      exact decide_eq_false fun e => hq (by rw [← HN.out, ← HN'.out, e])
    have h1 : ((n : Int) != (n' : Int)) = true := by simp; omega
    go_enter Try.func10, Try.ntmps10
    go_wp2
    go_ret
    exact ⟨by rw [HF.out]; rfl, Below.refl _ _⟩

end Go.Proofs.Ytolmlcbgdihcbab

/- Slots' law where some operations are guarded ('&&', '||'): the guard's slot is a fact that is told; where it does not want the operation, the slot is empty and the world stays. No Go text in sight. -/
namespace Go.Proofs.Ytolmlcbgdihcbab

/-- One operation's word: where its guard does not want it, its slot is empty and the world stays. -/
def oblH (P : Program) (ops : Array Oper) (a0 : Act) (S : World → Prop) (R : World → World → Prop) (n : List (Tmp × Bool)) (o : Oper) (Ts : Facts) (T : Fact) : Prop :=
  ∀ ρ w, Plain ρ → S w → needs Ts a0 ρ w n → match o.guard with
    | none => got P (fun v w' => R w w' ∧ T v w') ((execOp ρ o).run P w)
    | some (gi, b) => ∃ d c, (ops[gi]?).bind (·.dst) = some d ∧ ρ (.tmp d) = .bool c ∧ (if c = b then got P (fun v w' => R w w' ∧ T v w') ((execOp ρ o).run P w) else R w w ∧ T undef w)

def wpSlotsH (P : Program) (ops : Array Oper) (a0 : Act) (S : World → Prop) (R : World → World → Prop) (Fin : Facts → Prop) : List (List (Tmp × Bool)) → List Oper → Facts → Prop
  | n :: N, o :: l, Ts => ∃ T : Fact, lasts R T ∧ oblH P ops a0 S R n o Ts T ∧ wpSlotsH P ops a0 S R Fin N l (addFact o T Ts)
  | [], [], Ts => Fin Ts
  | _, _, _ => False

def tidyH (ops : Array Oper) (m : Nat) (N : List (List (Tmp × Bool))) : Bool :=
  distB (ops.toList.take m) [] && (N.length == m) && decide (m ≤ ops.size) && sealB ops m &&
  ((List.range ops.size).all fun j => match ops[j]? with
    | some o => (o.after.all fun e => !Region.binds .any e || decide (e.on < j)) && (match N[j]? with | some n => tabRowB ops j o n | none => true)
    | _ => false)

theorem wanted_of {ops : Array Oper} {o : Oper} {gi : Nat} {b c : Bool} {d : Tmp} {a : Act} (hg : o.guard = some (gi, b)) (hd : (ops[gi]?).bind (·.dst) = some d) (hv : a.eval (.tmp d) = .bool c) : Region.wanted o (yielded ops a.tmps) = (c == b) := by
  have h1 : a.tmps[d]? = some (.bool c) := by
    have h2 : a.tmps.getD d undef = .bool c := hv
    rcases Nat.lt_or_ge d a.tmps.size with h | h
    · simpa [h] using h2
    · rw [Array.getD_eq_getD_getElem?, Array.getElem?_eq_none h] at h2
      cases h2
  unfold Region.wanted yielded
  rw [hg]
  simp only [hd, Option.bind_some, h1]
  cases c <;> cases b <;> rfl

theorem collectH {P : Program} {ops : Array Oper} {a0 : Act} {S : World → Prop} {R : World → World → Prop} {Fin : Facts → Prop} : ∀ (N : List (List (Tmp × Bool))) (l : List Oper) (Ts : Facts), wpSlotsH P ops a0 S R Fin N l Ts → distB l (Ts.map (·.1)) = true →
    ∃ Tf, Fin Tf ∧ (∀ x p, Ts.lookup x = some p → Tf.lookup x = some p) ∧ (∀ d p, (d, p) ∈ Tf → (d, p) ∈ Ts ∨ (Tf.lookup d = some p ∧ ∃ (k : Nat) (o : Oper), l[k]? = some o ∧ o.dst = some d)) ∧ ∀ (k : Nat) (n : List (Tmp × Bool)) (o : Oper), N[k]? = some n → l[k]? = some o → ∃ T : Fact, lasts R T ∧ oblH P ops a0 S R n o Tf T ∧ ∀ d, o.dst = some d → Tf.lookup d = some T
  | [], [], Ts, h, _ => ⟨Ts, h, fun _ _ h => h, fun _ _ h => .inl h, fun k n o hn _ => by simp at hn⟩
  | [], _ :: _, _, h, _ => h.elim
  | _ :: _, [], _, h, _ => h.elim
  | n :: N, o :: l, Ts, h, hd => by
    obtain ⟨T, hl, ho, hrest⟩ := h
    have hsub : ∀ x p, Ts.lookup x = some p → (addFact o T Ts).lookup x = some p := by
      intro x p hx
      unfold addFact
      cases hod : o.dst with
      | none => exact hx
      | some d =>
        simp only [distB, hod, Bool.and_eq_true, Bool.not_eq_true'] at hd
        have hne : x ≠ d := fun e => by rw [e, lookup_none_of hd.1] at hx; cases hx
        rw [List.lookup_cons, beq_eq_false_iff_ne.2 hne]
        exact hx
    have hd' : distB l ((addFact o T Ts).map (·.1)) = true := by
      unfold addFact
      cases hod : o.dst with
      | none => simpa [distB, hod] using hd
      | some d =>
        simp only [distB, hod, Bool.and_eq_true] at hd
        simpa using hd.2
    obtain ⟨Tf, hfin, hmono, hmem, hall⟩ := collectH N l (addFact o T Ts) hrest hd'
    have hhead : ∀ d, o.dst = some d → Tf.lookup d = some T := fun d hod => hmono d T (by unfold addFact; rw [hod]; simp)
    refine ⟨Tf, hfin, fun x p hx => hmono x p (hsub x p hx), fun d p hdp => ?_, fun k n' o' hn ho' => ?_⟩
    · rcases hmem d p hdp with h1 | ⟨h1, k, o', hk, hod⟩
      · unfold addFact at h1
        cases hod : o.dst with
        | none => rw [hod] at h1; exact .inl h1
        | some d' =>
          rw [hod] at h1
          rcases List.mem_cons.1 h1 with h2 | h2
          · obtain ⟨rfl, rfl⟩ := Prod.mk.inj h2
            exact .inr ⟨hhead _ hod, 0, o, rfl, hod⟩
          · exact .inl h2
      · exact .inr ⟨h1, k + 1, o', by simpa using hk, hod⟩
    cases k with
    | zero =>
      simp only [List.getElem?_cons_zero, Option.some.injEq] at hn ho'
      subst hn ho'
      refine ⟨T, hl, fun ρ w hp hS hn => ho ρ w hp hS (needs_mono (fun x p hx => hmono x p (hsub x p hx)) hn), hhead⟩
    | succ k =>
      exact hall k n' o' (by simpa using hn) (by simpa using ho')

/-- Whatever order is picked. -/
theorem any_slotsH {P : Program} {ops : Array Oper} {a0 : Act} {S SF : World → Prop} {SS : Nat → World → Prop} {R : World → World → Prop} {Tf : Facts} {Q : Exit → Act → World → Prop} {m : Nat} (hmle : m ≤ ops.size) (hseal : sealB ops m = true) (hstep : ∀ f w w', SS (f + 1) w → R w w' → SS f w') (hSS : ∀ f w, f < ops.size → SS (f + 1) w → S w) (hF : ∀ f w, f ≤ ops.size → SS f w → SF w) (hl : ∀ d p, Tf.lookup d = some p → lasts R p)
    (hbd : ∀ (i : Nat) (o : Oper) (d : Tmp), ops[i]? = some o → o.dst = some d → d < a0.tmps.size) (hlt : ∀ (i : Nat) (o : Oper), ops[i]? = some o → ∀ e ∈ o.after, Region.binds .any e = true → e.on < i)
    (hobl : ∀ (j : Nat) (o : Oper), j < m → ops[j]? = some o → ∃ n T, tabRowB ops j o n = true ∧ oblH P ops a0 S R n o Tf T ∧ ∀ d, o.dst = some d → Tf.lookup d = some T)
    (hfin : ∀ a w, SF w → a.defers = a0.defers → a.tmps.size = a0.tmps.size → (∀ (i : Nat) (o : Oper) (d : Tmp) p, i < m → ops[i]? = some o → o.dst = some d → Tf.lookup d = some p → p (a.eval (.tmp d)) w) → (∀ x, (∀ (i : Nat) (o : Oper), i < m → ops[i]? = some o → o.dst ≠ some x) → a.eval (.tmp x) = a0.eval (.tmp x)) → wpList P ops Q (ops.toList.drop m) a w) :
    ∀ (fuel : Nat) (listed : Array Bool) (a : Act) (w : World), listed.toList.count false = fuel → (∀ j, m ≤ j → j < ops.size → listed.getD j true = false) → Inv ops a0 (SS fuel) Tf listed a w → wpAny P .any ops Q fuel listed a w := by
  intro fuel
  induction fuel with
  | zero =>
    intro listed a w hc hm2 hI
    have hno : ∀ i, i < ops.size → listed.getD i false = true := fun i hi => by
      have hi' : i < listed.size := by rw [hI.size]; exact hi
      have : listed[i] ≠ false := fun h => by
        have := List.count_eq_zero.1 hc
        exact this (by rw [← h]; simp)
      simpa [hi'] using this
    have hms : m = ops.size := by
      rcases Nat.lt_or_ge m ops.size with h' | h'
      · have h3 := hno m h'
        rw [listed_ne hI.size h' (hm2 m (Nat.le_refl _) h')] at h3
        cases h3
      · omega
    refine any_tail hseal hlt 0 m listed a w (Nat.le_refl _) (by omega) hI.size (fun j hj => hno j (by omega)) hm2 ?_
    exact hfin a w (hF 0 w (Nat.zero_le _) hI.ok) hI.defers hI.len (fun i o d p _ ho hd hp => hI.fresh i o d p ho (hno i (Array.getElem?_eq_some_iff.1 ho).1) hd hp) (fun x hx => hI.old x fun i o ho _ => hx i o (by rw [hms]; exact (Array.getElem?_eq_some_iff.1 ho).1) ho)
  | succ fuel ih =>
    intro listed a w hc hm2 hI
    by_cases hdone : ∀ j, j < m → listed.getD j false = true
    · have hcnt := count_drop hI.size hmle hdone hm2
      refine any_tail hseal hlt (fuel + 1) m listed a w (Nat.le_refl _) (by omega) hI.size hdone hm2 ?_
      refine hfin a w (hF _ w (by have := List.count_le_length (a := false) (l := listed.toList); rw [hc, Array.length_toList, hI.size] at this; exact this) hI.ok) hI.defers hI.len (fun i o d p hi ho hd hp => hI.fresh i o d p ho (hdone i hi) hd hp) (fun x hx => hI.old x fun i o ho hli => ?_)
      refine hx i o ?_ ho
      rcases Nat.lt_or_ge i m with h' | h'
      · exact h'
      · have hil := (Array.getElem?_eq_some_iff.1 ho).1
        rw [listed_ne hI.size hil (hm2 i h' hil)] at hli
        cases hli
    · refine ⟨fun hr => absurd ?_ hdone, fun j hj => ?_⟩
      · -- the first that has not come up may come up
        have hall : ∀ k, k ≤ m → ∀ i, i < k → listed.getD i false = true := by
          intro k
          induction k with
          | zero => intro _ i hi; omega
          | succ k ihk =>
            intro hk i hi
            by_cases hik : i < k
            · exact ihk (by omega) i hik
            · have : i = k := by omega
              subst this
              have hi' : i < ops.size := by omega
              cases hb : listed.getD i true with
              | true =>
                have hi2 : i < listed.size := by rw [hI.size]; exact hi'
                simpa [hi2] using hb
              | false =>
                have hmem : i ∈ Region.ready .any ops listed := mem_ready.2 ⟨hb, ops[i], by simp [hi'], fun e he hbi => ihk (by omega) e.on (hlt i _ (by simp [hi']) e he hbi)⟩
                rw [hr] at hmem
                cases hmem
        exact hall m (Nat.le_refl _)
      · obtain ⟨h0, o, ho, hall⟩ := mem_ready.1 hj
        have hjlt := (Array.getElem?_eq_some_iff.1 ho).1
        have hjm : j < m := by
          rcases Nat.lt_or_ge j m with h' | h'
          · exact h'
          · exact absurd (fun i hi => sealed hseal hI.down ho h' hall (Nat.lt_of_lt_of_le hi h')) hdone
        obtain ⟨n, T, htab, hob, hT⟩ := hobl j o hjm ho
        have hun := listed_ne hI.size hjlt h0
        have hgot := hob a.eval w (plain_eval a) (hSS fuel w (by have := List.count_le_length (a := false) (l := listed.toList); rw [hc, Array.length_toList, hI.size] at this; exact this) hI.ok) (needs_iff.2 (needs_of hI ho hun hall n htab))
        unfold wpOp
        simp only [ho]
        have hkey : ∀ v w', R w w' ∧ T v w' → wpAny P .any ops Q fuel (listed.setIfInBounds j true) (a.put o.dst v) w' := fun v w' ⟨hR, hv⟩ => by
          have hI' := inv_step (hstep fuel) hl hbd hI ho hall hT hR hv
          refine ih _ _ _ ?_ (fun i hi hi2 => by rw [getD_set_ne true (by omega)]; exact hm2 i hi hi2) hI'
          have hcs := count_set (by rw [hI.size]; exact hjlt) h0
          omega
        cases hgd : o.guard with
        | none =>
          have h2 := hgot
          rw [hgd] at h2
          rw [if_pos (by simp [Region.wanted, hgd])]
          exact .inl (upon_of_got (got_mono hkey h2))
        | some gb =>
          obtain ⟨gi, b⟩ := gb
          have h2 := hgot
          rw [hgd] at h2
          obtain ⟨d, c, hd, hv, h3⟩ := h2
          rw [wanted_of hgd hd hv]
          by_cases hcb : c = b
          · rw [if_pos hcb] at h3
            rw [if_pos (by rw [hcb]; simp)]
            exact .inl (upon_of_got (got_mono hkey h3))
          · rw [if_neg hcb] at h3
            rw [if_neg (by simpa using hcb)]
            exact hkey undef w h3

/-- THE LAW, with a count of the operations that are still to come: the first operations 'l' in whatever order; those behind them ('r'), each of which waits for all ahead of it, in the order of the text. -/
theorem wp_region_slotsH_n {P : Program} {id : Nat} {Q : Exit → Act → World → Prop} {a0 : Act} {w0 : World} {all : List Oper} (m : Nat) (N : List (List (Tmp × Bool))) (S SF : World → Prop) (SS : Nat → World → Prop) (R : World → World → Prop)
    (hm : P.follows .mixedOrders = true) (hB : tidyH all.toArray m N = true) (hz : (all.all fun o => match o.dst with | some d => decide (d < a0.tmps.size) | none => true) = true)
    (h0 : SS all.length w0.drew) (hstep : ∀ f w w', SS (f + 1) w → R w w' → SS f w') (hSS : ∀ f w, f < all.length → SS (f + 1) w → S w) (hF : ∀ f w, f ≤ all.length → SS f w → SF w)
    (h : wpSlotsH P all.toArray a0 S R (fun Ts => ∀ vs w, SF w → factsAt vs w Ts → wpList P all.toArray Q (all.drop m) (putAll vs (all.take m) a0) w) N (all.take m) []) : (Code.region id all.toArray true).wp P Q a0 w0 := by
  simp only [tidyH, Bool.and_eq_true, beq_iff_eq, decide_eq_true_eq] at hB
  obtain ⟨⟨⟨⟨hdist, hlen⟩, hmle⟩, hseal⟩, htab⟩ := hB
  have hops : ∀ (i : Nat) (o : Oper), all.toArray[i]? = some o → all[i]? = some o := fun i o h => by simpa using h
  have hmemo : ∀ (i : Nat) (o : Oper), all.toArray[i]? = some o → o ∈ all := fun i o h => List.mem_of_getElem? (hops i o h)
  have htk : ∀ (i : Nat) (o : Oper), i < m → all.toArray[i]? = some o → (all.take m)[i]? = some o := fun i o hi h => by rw [List.getElem?_take_of_lt hi]; exact hops i o h
  have hbd : ∀ (i : Nat) (o : Oper) (d : Tmp), all.toArray[i]? = some o → o.dst = some d → d < a0.tmps.size := fun i o d ho hd => by
    have := List.all_eq_true.1 hz o (hmemo i o ho)
    simpa [hd] using this
  obtain ⟨Tf, hfin, _, hmem, hall⟩ := collectH N (all.take m) [] h (by simpa using hdist)
  have hrow : ∀ (j : Nat) (o : Oper), all.toArray[j]? = some o → (∀ e ∈ o.after, Region.binds .any e = true → e.on < j) ∧ (j < m → ∃ n, N[j]? = some n ∧ tabRowB all.toArray j o n = true) := fun j o ho => by
    have hj := (Array.getElem?_eq_some_iff.1 ho).1
    have h1 := List.all_eq_true.1 htab j (List.mem_range.2 hj)
    rw [ho] at h1
    simp only [Bool.and_eq_true] at h1
    refine ⟨fun e he hb => ?_, fun hjm => ?_⟩
    · have h2 := Array.all_eq_true'.1 h1.1 e he
      simpa [hb] using h2
    · have hjN : j < N.length := by rw [hlen]; exact hjm
      have h2 := h1.2
      rw [List.getElem?_eq_getElem hjN] at h2
      exact ⟨_, List.getElem?_eq_getElem hjN, h2⟩
  have hback : ∀ (k : Nat) (o : Oper), (all.take m)[k]? = some o → k < m ∧ all.toArray[k]? = some o := fun k o hk => by
    have hkl := (List.getElem?_eq_some_iff.1 hk).1
    have hkm : k < m := by
      rw [List.length_take] at hkl
      omega
    rw [List.getElem?_take_of_lt hkm] at hk
    exact ⟨hkm, by simpa using hk⟩
  refine wp_region_any hm ?_
  refine any_slotsH (m := m) (Tf := Tf) (a0 := a0) (SS := SS) (S := S) (SF := SF) hmle hseal hstep (fun f w hf => hSS f w (by simpa using hf)) (fun f w hf => hF f w (by simpa using hf)) (fun d p hp => ?_) hbd (fun i o ho => (hrow i o ho).1) (fun j o hj ho => ?_) (fun a w hSw hdef hsz hfr hold => ?_) _ _ _ _ ?_ ?_ ?_
  · -- each fact lasts
    rcases hmem d p (lookup_mem hp) with h1 | ⟨_, k, o, hk, hod⟩
    · cases h1
    · obtain ⟨hkm, hk'⟩ := hback k o hk
      obtain ⟨n, hn, _⟩ := (hrow k o hk').2 hkm
      obtain ⟨T, hT, _, hT2⟩ := hall k n o hn hk
      obtain rfl := Option.some.inj ((hT2 d hod).symm.trans hp)
      exact hT
  · obtain ⟨n, hn, h1⟩ := (hrow j o ho).2 hj
    obtain ⟨T, _, hT1, hT2⟩ := hall j n o hn (htk j o hj ho)
    exact ⟨n, T, h1, hT1, hT2⟩
  · obtain ⟨p1, p2, p3⟩ := putAll_spec (fun d => a.eval (.tmp d)) (all.take m) a0 (fun o ho d hd => by
      obtain ⟨i, hi, he⟩ := List.getElem_of_mem ho
      obtain ⟨_, hi'⟩ := hback i o (by rw [List.getElem?_eq_getElem hi, he])
      exact hbd i o d hi' hd)
    have e : a = putAll (fun d => a.eval (.tmp d)) (all.take m) a0 := by
      refine act_ext (hdef.trans p1.symm) (hsz.trans p2.symm) fun x => ?_
      by_cases hx : ∃ o ∈ all.take m, o.dst = some x
      · exact ((p3 x).1 hx).symm
      · rw [(p3 x).2 hx]
        exact hold x fun i o hi ho hd => hx ⟨o, List.mem_of_getElem? (htk i o hi ho), hd⟩
    rw [e]
    refine hfin _ w hSw (factsAt_of fun d p hdp => ?_)
    rcases hmem d p hdp with h1 | ⟨hlk, k, o, hk, hod⟩
    · cases h1
    · obtain ⟨hkm, hk'⟩ := hback k o hk
      exact hfr k o d p hkm hk' hod hlk
  · simp
  · intro j _ hj
    simp at hj
    simp [hj]
  · refine ⟨by simp, by simpa using h0, rfl, rfl, fun i o ho hli => ?_, fun i o d p ho hli => ?_, fun x _ => rfl⟩
    · rw [rep_false] at hli
      cases hli
    · rw [rep_false] at hli
      cases hli

/-- THE LAW: the first operations 'l' in whatever order; those behind them ('r'), each of which waits for all ahead of it, in the order of the text. -/
theorem wp_region_slotsH {P : Program} {id : Nat} {Q : Exit → Act → World → Prop} {a0 : Act} {w0 : World} {all : List Oper} (m : Nat) (N : List (List (Tmp × Bool))) (S : World → Prop) (R : World → World → Prop)
    (hm : P.follows .mixedOrders = true) (hB : tidyH all.toArray m N = true) (hz : (all.all fun o => match o.dst with | some d => decide (d < a0.tmps.size) | none => true) = true)
    (h0 : S w0.drew) (hS : ∀ w w', S w → R w w' → S w')
    (h : wpSlotsH P all.toArray a0 S R (fun Ts => ∀ vs w, S w → factsAt vs w Ts → wpList P all.toArray Q (all.drop m) (putAll vs (all.take m) a0) w) N (all.take m) []) : (Code.region id all.toArray true).wp P Q a0 w0 :=
  wp_region_slotsH_n m N S S (fun _ => S) R hm hB hz h0 (fun _ => hS) (fun _ _ _ h => h) (fun _ _ _ h => h) h

/-- One operation: its value is this one, whatever the world. -/
theorem slot_eq_h {P : Program} {ops : Array Oper} {a0 : Act} {S : World → Prop} {R : World → World → Prop} {Fin : Facts → Prop} {n : List (Tmp × Bool)} {N : List (List (Tmp × Bool))} {o : Oper} {l : List Oper} {Ts : Facts} {e : Value}
    (h : oblH P ops a0 S R n o Ts (fun v _ => v = e)) (hr : wpSlotsH P ops a0 S R Fin N l (addFact o (fun v _ => v = e) Ts)) : wpSlotsH P ops a0 S R Fin (n :: N) (o :: l) Ts :=
  ⟨_, lasts_eq _ _, h, hr⟩

/-- One operation: of its value this fact is told. -/
theorem slot_fact_h {P : Program} {ops : Array Oper} {a0 : Act} {S : World → Prop} {R : World → World → Prop} {Fin : Facts → Prop} {n : List (Tmp × Bool)} {N : List (List (Tmp × Bool))} {o : Oper} {l : List Oper} {Ts : Facts} (T : Fact) (hT : lasts R T)
    (h : oblH P ops a0 S R n o Ts T) (hr : wpSlotsH P ops a0 S R Fin N l (addFact o T Ts)) : wpSlotsH P ops a0 S R Fin (n :: N) (o :: l) Ts :=
  ⟨T, hT, h, hr⟩

theorem slot_end_h {P : Program} {ops : Array Oper} {a0 : Act} {S : World → Prop} {R : World → World → Prop} {Fin : Facts → Prop} {Ts : Facts} (h : Fin Ts) : wpSlotsH P ops a0 S R Fin [] [] Ts := h

end Go.Proofs.Ytolmlcbgdihcbab

/- The specification's VecCmp. -/
namespace Go.Proofs.Ytolmlcbgdihcbab
open Go.ChangeShapes Go.WideShapes Go.ChangeAt Go.RowKit Go.Joins
attribute [local go_sem ↓] Go.wp_at_zero Go.wp_at_succ

theorem IsIs.cell {w w' : World} {a : Option Addr} {zs : List Int} {b o : Nat} (h : IsIs w a zs) (ha : a = some ⟨b, o, none⟩) (hb : Below w.heap.size w w') {k : Nat} (hk : k < zs.length) : w'.cell? ⟨b, o + k, none⟩ = some (.int .i64 (zs.getD k 0)) := by
  subst ha
  exact h.all hb k hk

set_option maxRecDepth 100000 in
set_option maxHeartbeats 4000000 in
theorem specVecCmp_any (a a' : Option Addr) (n n' cap cap' : Nat) (xs ys : List Int) (w : World) (hl : xs.length = n) (hn : n ≤ maxLen) (hh : IsIs w a xs) (hl' : ys.length = n') (hn' : n' ≤ maxLen) (hh' : IsIs w a' ys) :
    Calls Try.prog 12 #[vecV a n cap, vecV a' n' cap'] w fun e w' => e = .returned (.int .i64 (cmpV xs ys)) ∧ Below w.heap.size w w' := by
  have HB0 : Hid (Below w.heap.size w ((w.alloc (.cells #[.slice a n cap] 26)).alloc (.cells #[.slice a' n' cap'] 26))) := ((Below.refl _ _).alloc (Nat.le_refl _) _).alloc (by simp) _
  have HC : Hid (∀ W, Below w.heap.size w W → Calls Try.prog 13 #[vecV a n cap] W fun e w' => e = .returned (.bool (vecB xs)) ∧ Below W.heap.size W w') := fun W hW => specVecOk_any a n cap xs W hl hn (hh.below hW)
  have HC' : Hid (∀ W, Below w.heap.size w W → Calls Try.prog 13 #[vecV a' n' cap'] W fun e w' => e = .returned (.bool (vecB ys)) ∧ Below W.heap.size W w') := fun W hW => specVecOk_any a' n' cap' ys W hl' hn' (hh'.below hW)
  cases hv : vecB xs
  · have HJ : Hid (cmpV xs ys = 3) := cmpV_bad (by rw [hv]; rfl)
    rw [hv] at HC
    clear hv hl hh hl' hh'
    go_enter Try.func12, Try.ntmps12
    go_wp2_with fail
    refine (HC.out _ HB0.out).mono ?_
    rintro e w1 ⟨rfl, hb⟩
    have HB1 := Lib.hid (below_step HB0.out HB0.out.size hb)
    obtain ⟨hc, hf⟩ := bcell hb
    have hz : w.heap.size + 1 < w1.heap.size := by have := hb.size; simp at this; omega
    have hz1 : w.heap.size < w1.heap.size := by omega
    clear hb
    go_wp2
    go_ret
    exact ⟨ret_int HJ.out.symm, HB1.out⟩
  rw [hv] at HC
  cases hv' : vecB ys
  · have HJ : Hid (cmpV xs ys = 3) := cmpV_bad (by rw [hv', Bool.and_false])
    rw [hv'] at HC'
    clear hv hv' hl hh hl' hh'
    go_enter Try.func12, Try.ntmps12
    go_wp2_with fail
    refine (HC.out _ HB0.out).mono ?_
    rintro e w1 ⟨rfl, hb⟩
    have HB1 := Lib.hid (below_step HB0.out HB0.out.size hb)
    obtain ⟨hc, hf⟩ := bcell hb
    have hz : w.heap.size + 1 < w1.heap.size := by have := hb.size; simp at this; omega
    have hz1 : w.heap.size < w1.heap.size := by omega
    clear hb
    go_wp2_with fail
    refine (HC'.out _ HB1.out).mono ?_
    rintro e w2 ⟨rfl, hb⟩
    have HB2 := Lib.hid (below_step HB1.out HB1.out.size hb)
    clear hb
    go_wp2
    go_ret
    exact ⟨ret_int HJ.out.symm, HB2.out⟩
  rw [hv'] at HC'
  have HJ := Lib.hid (cmpV_good hv hv')
  have hx4 : xs.length = 4 := by obtain ⟨x0, x1, x2, x3, rfl, -⟩ := vecB_four hv; rfl
  have hy4 : ys.length = 4 := by obtain ⟨y0, y1, y2, y3, rfl, -⟩ := vecB_four hv'; rfl
  have hn4 : n = 4 := by omega
  have hn4' : n' = 4 := by omega
  subst hn4 hn4'
  obtain ⟨b, o, hA, hbl, -⟩ := hh.at (Below.refl _ _) (show 0 < xs.length by omega)
  obtain ⟨b', o', hA', hbl', -⟩ := hh'.at (Below.refl _ _) (show 0 < ys.length by omega)
  have HH : Hid (∀ W, Below w.heap.size w W → ∀ k, k < 4 → W.cell? ⟨b, o + k, none⟩ = some (.int .i64 (xs.getD k 0))) := fun W hW k hk => hh.cell hA hW (by omega)
  have HH' : Hid (∀ W, Below w.heap.size w W → ∀ k, k < 4 → W.cell? ⟨b', o' + k, none⟩ = some (.int .i64 (ys.getD k 0))) := fun W hW k hk => hh'.cell hA' hW (by omega)
  have HBL : Hid (b < w.heap.size ∧ b' < w.heap.size) := ⟨hbl, hbl'⟩
  subst hA hA'
  clear hv hv' hl hh hl' hh' hx4 hy4 hbl hbl'
  go_enter Try.func12, Try.ntmps12
  go_wp2_with fail
  refine (HC.out _ HB0.out).mono ?_
  rintro e w1 ⟨rfl, hb⟩
  have HB1 := Lib.hid (below_step HB0.out HB0.out.size hb)
  obtain ⟨hc, hf⟩ := bcell hb
  have hz : w.heap.size + 1 < w1.heap.size := by have := hb.size; simp at this; omega
  have hz1 : w.heap.size < w1.heap.size := by omega
  clear hb
  go_wp2_with fail
  refine (HC'.out _ HB1.out).mono ?_
  rintro e w2 ⟨rfl, hb⟩
  have HB2 := Lib.hid (below_step HB1.out HB1.out.size hb)
  obtain ⟨hc2, hf2⟩ := bcell hb
  have hsz := hb.size
  clear hb
  have c0 : w2.cell? ⟨w.heap.size, 0, none⟩ = some (.slice (some ⟨b, o, none⟩) 4 cap) := by rw [hc2 _ _ hz1, hc _ _ (by simp; omega)]; go_simp
  have c1 : w2.cell? ⟨w.heap.size + 1, 0, none⟩ = some (.slice (some ⟨b', o', none⟩) 4 cap') := by rw [hc2 _ _ hz, hc _ _ (by simp)]; go_simp
  have hz2 : w.heap.size + 1 < w2.heap.size := by have := hsz; omega
  have hz3 : w.heap.size < w2.heap.size := by omega
  clear hc hf hc2 hf2 hz hz1 hsz HC HC' HB0 HB1
  go_wp2
  have HC0 := Lib.hid c0
  have HC1 := Lib.hid c1
  clear c0 c1
  go_loopw [5, 6, 7] (fun l m i wr => ∃ k : Nat, k ≤ 4 ∧ i = .int .i64 k ∧ l = .bool (lessV xs ys k) ∧ m = .bool (moreV xs ys k) ∧ Hid (Below w2.heap.size w2 wr)) (fun _ _ i _ => 4 - (intOf i).toNat)
  case atStart => exact ⟨0, Nat.zero_le _, rfl, rfl, rfl, Below.refl _ _⟩
  case round =>
    obtain ⟨k, hk, rfl, rfl, rfl, HB⟩ := hrel
    have c0 := (HB.out.cell (p := ⟨w.heap.size, 0, none⟩) hz3).trans HC0.out
    have c1 := (HB.out.cell (p := ⟨w.heap.size + 1, 0, none⟩) hz2).trans HC1.out
    have HLN := Lib.hid (lessV_next xs ys k)
    have HMN := Lib.hid (moreV_next xs ys k)
    by_cases hk' : k < 4
    · have d0 := HH.out wr (below_step HB2.out HB2.out.size HB.out) k hk'
      have d1 := HH'.out wr (below_step HB2.out HB2.out.size HB.out) k hk'
      have i1 : (0 : Int) ≤ (k : Int) := by omega
      have i2 : (k : Int) < 4 := by omega
      generalize xs.getD k 0 = X at *
      generalize ys.getD k 0 = Y at *
      generalize lessV xs ys k = L at *
      generalize moreV xs ys k = M at *
      have z0wr : w.heap.size < wr.heap.size := Nat.lt_of_lt_of_le hz3 HB.out.size
      have z1wr : w.heap.size + 1 < wr.heap.size := Nat.lt_of_lt_of_le hz2 HB.out.size
      have z2wr : b < wr.heap.size := Nat.lt_trans HBL.out.1 z0wr
      have z3wr : b' < wr.heap.size := Nat.lt_trans HBL.out.2 z0wr
      have c0wr := c0
      have c1wr := c1
      have d0wr := d0
      have d1wr := d1
      clear c0 c1 d0 d1
      clear HH HH'
      cases L <;> cases M
      · go_wp2_with fail
        have g0wa := aft_cell z0wr c0wr
        have g1wa := aft_cell z1wr c1wr
        have g2wa := aft_cell z2wr d0wr
        have g3wa := aft_cell z3wr d1wr
        have newa := aft_some wr
        refine wp_region_aft (by kernel_rfl) (by kernel_rfl) ?_
        repeat (first | go_big_quiet_step (fail))
        refine wpQuiet_nil ?_
        intro wa hqwa
        clear g0wa g1wa g2wa g3wa newa
        have c0wa := (hqwa.cell (p := ⟨w.heap.size, 0, none⟩) z0wr).trans c0wr
        have c1wa := (hqwa.cell (p := ⟨w.heap.size + 1, 0, none⟩) z1wr).trans c1wr
        have d0wa := (hqwa.cell (p := ⟨b, o + k, none⟩) z2wr).trans d0wr
        have d1wa := (hqwa.cell (p := ⟨b', o' + k, none⟩) z3wr).trans d1wr
        have z0wa := Nat.lt_of_lt_of_le z0wr hqwa.size
        have z1wa := Nat.lt_of_lt_of_le z1wr hqwa.size
        have z2wa := Nat.lt_of_lt_of_le z2wr hqwa.size
        have z3wa := Nat.lt_of_lt_of_le z3wr hqwa.size
        have HBA := Lib.hid (below_step HB.out HB.out.size hqwa)
        clear hqwa c0wr c1wr d0wr d1wr
        go_wp2_with fail
        have g0wb := aft_cell z0wa c0wa
        have g1wb := aft_cell z1wa c1wa
        have g2wb := aft_cell z2wa d0wa
        have g3wb := aft_cell z3wa d1wa
        have newb := aft_some wa
        refine wp_region_aft (by kernel_rfl) (by kernel_rfl) ?_
        repeat (first | go_big_quiet_step (fail))
        refine wpQuiet_nil ?_
        intro wb hqwb
        clear g0wb g1wb g2wb g3wb newb
        have HBB := Lib.hid (below_step HBA.out HBA.out.size hqwb)
        clear hqwb c0wa c1wa d0wa d1wa
        go_wp2
        exact ⟨⟨k + 1, by omega, by go_num, by rw [HLN.out]; rfl, by rw [HMN.out]; rfl, HBB⟩, by simp [intOf]; omega⟩
      · go_wp2_with fail
        have g0wa := aft_cell z0wr c0wr
        have g1wa := aft_cell z1wr c1wr
        have g2wa := aft_cell z2wr d0wr
        have g3wa := aft_cell z3wr d1wr
        have newa := aft_some wr
        refine wp_region_aft (by kernel_rfl) (by kernel_rfl) ?_
        repeat (first | go_big_quiet_step (fail))
        refine wpQuiet_nil ?_
        intro wa hqwa
        clear g0wa g1wa g2wa g3wa newa
        have c0wa := (hqwa.cell (p := ⟨w.heap.size, 0, none⟩) z0wr).trans c0wr
        have c1wa := (hqwa.cell (p := ⟨w.heap.size + 1, 0, none⟩) z1wr).trans c1wr
        have d0wa := (hqwa.cell (p := ⟨b, o + k, none⟩) z2wr).trans d0wr
        have d1wa := (hqwa.cell (p := ⟨b', o' + k, none⟩) z3wr).trans d1wr
        have z0wa := Nat.lt_of_lt_of_le z0wr hqwa.size
        have z1wa := Nat.lt_of_lt_of_le z1wr hqwa.size
        have z2wa := Nat.lt_of_lt_of_le z2wr hqwa.size
        have z3wa := Nat.lt_of_lt_of_le z3wr hqwa.size
        have HBA := Lib.hid (below_step HB.out HB.out.size hqwa)
        clear hqwa c0wr c1wr d0wr d1wr
        go_wp2_with fail
        have g0wb := aft_cell z0wa c0wa
        have g1wb := aft_cell z1wa c1wa
        have g2wb := aft_cell z2wa d0wa
        have g3wb := aft_cell z3wa d1wa
        have newb := aft_some wa
        refine wp_region_aft (by kernel_rfl) (by kernel_rfl) ?_
        repeat (first | go_big_quiet_step (fail))
        refine wpQuiet_nil ?_
        intro wb hqwb
        clear g0wb g1wb g2wb g3wb newb
        have HBB := Lib.hid (below_step HBA.out HBA.out.size hqwb)
        clear hqwb c0wa c1wa d0wa d1wa
        go_wp2
        exact ⟨⟨k + 1, by omega, by go_num, by rw [HLN.out]; rfl, by rw [HMN.out]; rfl, HBB⟩, by simp [intOf]; omega⟩
      · go_wp2_with fail
        have g0wa := aft_cell z0wr c0wr
        have g1wa := aft_cell z1wr c1wr
        have g2wa := aft_cell z2wr d0wr
        have g3wa := aft_cell z3wr d1wr
        have newa := aft_some wr
        refine wp_region_aft (by kernel_rfl) (by kernel_rfl) ?_
        repeat (first | go_big_quiet_step (fail))
        refine wpQuiet_nil ?_
        intro wa hqwa
        clear g0wa g1wa g2wa g3wa newa
        have c0wa := (hqwa.cell (p := ⟨w.heap.size, 0, none⟩) z0wr).trans c0wr
        have c1wa := (hqwa.cell (p := ⟨w.heap.size + 1, 0, none⟩) z1wr).trans c1wr
        have d0wa := (hqwa.cell (p := ⟨b, o + k, none⟩) z2wr).trans d0wr
        have d1wa := (hqwa.cell (p := ⟨b', o' + k, none⟩) z3wr).trans d1wr
        have z0wa := Nat.lt_of_lt_of_le z0wr hqwa.size
        have z1wa := Nat.lt_of_lt_of_le z1wr hqwa.size
        have z2wa := Nat.lt_of_lt_of_le z2wr hqwa.size
        have z3wa := Nat.lt_of_lt_of_le z3wr hqwa.size
        have HBA := Lib.hid (below_step HB.out HB.out.size hqwa)
        clear hqwa c0wr c1wr d0wr d1wr
        go_wp2_with fail
        have g0wb := aft_cell z0wa c0wa
        have g1wb := aft_cell z1wa c1wa
        have g2wb := aft_cell z2wa d0wa
        have g3wb := aft_cell z3wa d1wa
        have newb := aft_some wa
        refine wp_region_aft (by kernel_rfl) (by kernel_rfl) ?_
        repeat (first | go_big_quiet_step (fail))
        refine wpQuiet_nil ?_
        intro wb hqwb
        clear g0wb g1wb g2wb g3wb newb
        have HBB := Lib.hid (below_step HBA.out HBA.out.size hqwb)
        clear hqwb c0wa c1wa d0wa d1wa
        go_wp2
        exact ⟨⟨k + 1, by omega, by go_num, by rw [HLN.out]; rfl, by rw [HMN.out]; rfl, HBB⟩, by simp [intOf]; omega⟩
      · go_wp2_with fail
        have g0wa := aft_cell z0wr c0wr
        have g1wa := aft_cell z1wr c1wr
        have g2wa := aft_cell z2wr d0wr
        have g3wa := aft_cell z3wr d1wr
        have newa := aft_some wr
        refine wp_region_aft (by kernel_rfl) (by kernel_rfl) ?_
        repeat (first | go_big_quiet_step (fail))
        refine wpQuiet_nil ?_
        intro wa hqwa
        clear g0wa g1wa g2wa g3wa newa
        have c0wa := (hqwa.cell (p := ⟨w.heap.size, 0, none⟩) z0wr).trans c0wr
        have c1wa := (hqwa.cell (p := ⟨w.heap.size + 1, 0, none⟩) z1wr).trans c1wr
        have d0wa := (hqwa.cell (p := ⟨b, o + k, none⟩) z2wr).trans d0wr
        have d1wa := (hqwa.cell (p := ⟨b', o' + k, none⟩) z3wr).trans d1wr
        have z0wa := Nat.lt_of_lt_of_le z0wr hqwa.size
        have z1wa := Nat.lt_of_lt_of_le z1wr hqwa.size
        have z2wa := Nat.lt_of_lt_of_le z2wr hqwa.size
        have z3wa := Nat.lt_of_lt_of_le z3wr hqwa.size
        have HBA := Lib.hid (below_step HB.out HB.out.size hqwa)
        clear hqwa c0wr c1wr d0wr d1wr
        go_wp2_with fail
        have g0wb := aft_cell z0wa c0wa
        have g1wb := aft_cell z1wa c1wa
        have g2wb := aft_cell z2wa d0wa
        have g3wb := aft_cell z3wa d1wa
        have newb := aft_some wa
        refine wp_region_aft (by kernel_rfl) (by kernel_rfl) ?_
        repeat (first | go_big_quiet_step (fail))
        refine wpQuiet_nil ?_
        intro wb hqwb
        clear g0wb g1wb g2wb g3wb newb
        have HBB := Lib.hid (below_step HBA.out HBA.out.size hqwb)
        clear hqwb c0wa c1wa d0wa d1wa
        go_wp2
        exact ⟨⟨k + 1, by omega, by go_num, by rw [HLN.out]; rfl, by rw [HMN.out]; rfl, HBB⟩, by simp [intOf]; omega⟩
    · have hkk : k = 4 := by omega
      subst hkk
      clear HLN HMN
      generalize lessV xs ys 4 = L at *
      generalize moreV xs ys 4 = M at *
      cases L <;> cases M
      · go_wp2
        go_ret
        exact ⟨ret_int HJ.out.symm, below_step HB2.out HB2.out.size HB.out⟩
      · go_wp2
        go_ret
        exact ⟨ret_int HJ.out.symm, below_step HB2.out HB2.out.size HB.out⟩
      · go_wp2
        go_ret
        exact ⟨ret_int HJ.out.symm, below_step HB2.out HB2.out.size HB.out⟩
      · go_wp2
        go_ret
        exact ⟨ret_int HJ.out.symm, below_step HB2.out HB2.out.size HB.out⟩

end Go.Proofs.Ytolmlcbgdihcbab

/- The specification's MayCome. -/
namespace Go.Proofs.Ytolmlcbgdihcbab
open Go.ChangeShapes Go.WideShapes Go.ChangeAt Go.RowKit Go.Joins
attribute [local go_sem ↓] Go.wp_at_zero Go.wp_at_succ

theorem vecB_rng {xs : List Int} (h : vecB xs = true) {k : Nat} (hk : k < 4) : 0 ≤ xs.getD k 0 ∧ xs.getD k 0 ≤ 1000000 := by
  obtain ⟨x0, x1, x2, x3, rfl, h0, h1, h2, h3⟩ := vecB_four h
  match k, hk with
  | 0, _ => exact h0
  | 1, _ => exact h1
  | 2, _ => exact h2
  | 3, _ => exact h3

theorem mayAt_le (xs ys : List Int) (q : Nat) {k n : Nat} (h : k ≤ n) (hb : mayAt xs ys q k = false) : mayAt xs ys q n = false := by
  unfold mayAt at *
  rw [List.all_eq_false] at *
  obtain ⟨i, hi, hm⟩ := hb
  exact ⟨i, List.mem_range.2 (Nat.lt_of_lt_of_le (List.mem_range.1 hi) h), hm⟩

set_option maxRecDepth 100000 in
set_option maxHeartbeats 4000000 in
theorem specMayCome_any (a a' : Option Addr) (n n' cap cap' : Nat) (f y : Int) (xs ys : List Int) (w : World) (hl : xs.length = n) (hn : n ≤ maxLen) (hh : IsIs w a xs) (hl' : ys.length = n') (hn' : n' ≤ maxLen) (hh' : IsIs w a' ys) :
    Calls Try.prog 33 #[vecV a n cap, postV f a' n' cap' y] w fun e w' => e = .returned (.bool (mayB xs ys f)) ∧ Below w.heap.size w w' := by
  have HB0 : Hid (Below w.heap.size w ((w.alloc (.cells #[.slice a n cap] 26)).alloc (.cells #[.int .i64 f, .slice a' n' cap', .int .i64 y] 43))) := ((Below.refl _ _).alloc (Nat.le_refl _) _).alloc (by simp) _
  have HC : Hid (∀ W, Below w.heap.size w W → Calls Try.prog 13 #[vecV a n cap] W fun e w' => e = .returned (.bool (vecB xs)) ∧ Below W.heap.size W w') := fun W hW => specVecOk_any a n cap xs W hl hn (hh.below hW)
  have HC' : Hid (∀ W, Below w.heap.size w W → Calls Try.prog 13 #[vecV a' n' cap'] W fun e w' => e = .returned (.bool (vecB ys)) ∧ Below W.heap.size W w') := fun W hW => specVecOk_any a' n' cap' ys W hl' hn' (hh'.below hW)
  cases hv : vecB xs
  · have HJ : Hid (mayB xs ys f = false) := mayB_bad (by rw [hv]; rfl)
    rw [hv] at HC
    clear hv hl hh hl' hh'
    go_enter Try.func33, Try.ntmps33
    go_wp2_with fail
    refine (HC.out _ HB0.out).mono ?_
    rintro e w1 ⟨rfl, hb⟩
    have HB1 := Lib.hid (below_step HB0.out HB0.out.size hb)
    obtain ⟨hc, hf⟩ := bcell hb
    have hz : w.heap.size + 1 < w1.heap.size := by have := hb.size; simp at this; omega
    have hz1 : w.heap.size < w1.heap.size := by omega
    clear hb
    go_wp2
    go_ret
    exact ⟨ret_bool HJ.out.symm, HB1.out⟩
  rw [hv] at HC
  cases hv' : vecB ys
  · have HJ : Hid (mayB xs ys f = false) := mayB_bad (by rw [hv', Bool.and_false])
    rw [hv'] at HC'
    clear hv hv' hl hh hl' hh'
    go_enter Try.func33, Try.ntmps33
    go_wp2_with fail
    refine (HC.out _ HB0.out).mono ?_
    rintro e w1 ⟨rfl, hb⟩
    have HB1 := Lib.hid (below_step HB0.out HB0.out.size hb)
    obtain ⟨hc, hf⟩ := bcell hb
    have hz : w.heap.size + 1 < w1.heap.size := by have := hb.size; simp at this; omega
    have hz1 : w.heap.size < w1.heap.size := by omega
    clear hb
    go_wp2_with fail
    refine (HC'.out _ HB1.out).mono ?_
    rintro e w2 ⟨rfl, hb⟩
    have HB2 := Lib.hid (below_step HB1.out HB1.out.size hb)
    obtain ⟨hc2, hf2⟩ := bcell hb
    have hz2 : w.heap.size + 1 < w2.heap.size := by have := hb.size; omega
    have hz3 : w.heap.size < w2.heap.size := by omega
    clear hb
    go_wp2
    go_ret
    exact ⟨ret_bool HJ.out.symm, HB2.out⟩
  rw [hv'] at HC'
  cases hs : btw f 0 3
  · have HJ : Hid (mayB xs ys f = false) := mayB_off hs
    have HS : Hid (∀ W, Calls Try.prog 40 #[.int .i64 f] W fun e w' => e = .returned (.bool false) ∧ w' = W) := fun W => by
      rw [← hs]
      exact specSite_any f W
    clear hv hv' hs hl hh hl' hh'
    go_enter Try.func33, Try.ntmps33
    go_wp2_with fail
    refine (HC.out _ HB0.out).mono ?_
    rintro e w1 ⟨rfl, hb⟩
    have HB1 := Lib.hid (below_step HB0.out HB0.out.size hb)
    obtain ⟨hc, hf⟩ := bcell hb
    have hz : w.heap.size + 1 < w1.heap.size := by have := hb.size; simp at this; omega
    have hz1 : w.heap.size < w1.heap.size := by omega
    clear hb
    go_wp2_with fail
    refine (HC'.out _ HB1.out).mono ?_
    rintro e w2 ⟨rfl, hb⟩
    have HB2 := Lib.hid (below_step HB1.out HB1.out.size hb)
    obtain ⟨hc2, hf2⟩ := bcell hb
    have hz2 : w.heap.size + 1 < w2.heap.size := by have := hb.size; omega
    have hz3 : w.heap.size < w2.heap.size := by omega
    clear hb
    go_wp2_with fail
    refine (HS.out _).mono ?_
    rintro e w3 ⟨rfl, hw⟩
    subst w3
    go_wp2
    go_ret
    exact ⟨ret_bool HJ.out.symm, HB2.out⟩
  obtain ⟨q, hq, rfl⟩ : ∃ q : Nat, q < 4 ∧ f = (q : Int) := ⟨f.toNat, by have := btw_site hs; omega, by have := btw_site hs; omega⟩
  have HS : Hid (∀ W, Calls Try.prog 40 #[.int .i64 (q : Int)] W fun e w' => e = .returned (.bool true) ∧ w' = W) := fun W => by
    rw [← hs]
    exact specSite_any (q : Int) W
  have HJ : Hid (mayB xs ys (q : Int) = mayAt xs ys q 4) := mayB_at hv hv' hs
  have HXR := Lib.hid (fun k hk => vecB_rng hv (k := k) hk)
  have hx4 : xs.length = 4 := by obtain ⟨x0, x1, x2, x3, rfl, -⟩ := vecB_four hv; rfl
  have hy4 : ys.length = 4 := by obtain ⟨y0, y1, y2, y3, rfl, -⟩ := vecB_four hv'; rfl
  have hn4 : n = 4 := by omega
  have hn4' : n' = 4 := by omega
  subst hn4 hn4'
  obtain ⟨b, o, hA, hbl, -⟩ := hh.at (Below.refl _ _) (show 0 < xs.length by omega)
  obtain ⟨b', o', hA', hbl', -⟩ := hh'.at (Below.refl _ _) (show 0 < ys.length by omega)
  have HH : Hid (∀ W, Below w.heap.size w W → ∀ k, k < 4 → W.cell? ⟨b, o + k, none⟩ = some (.int .i64 (xs.getD k 0))) := fun W hW k hk => hh.cell hA hW (by omega)
  have HH' : Hid (∀ W, Below w.heap.size w W → ∀ k, k < 4 → W.cell? ⟨b', o' + k, none⟩ = some (.int .i64 (ys.getD k 0))) := fun W hW k hk => hh'.cell hA' hW (by omega)
  have HBL : Hid (b < w.heap.size ∧ b' < w.heap.size) := ⟨hbl, hbl'⟩
  subst hA hA'
  clear hv hv' hs hl hh hl' hh' hx4 hy4 hbl hbl'
  go_enter Try.func33, Try.ntmps33
  go_wp2_with fail
  refine (HC.out _ HB0.out).mono ?_
  rintro e w1 ⟨rfl, hb⟩
  have HB1 := Lib.hid (below_step HB0.out HB0.out.size hb)
  obtain ⟨hc, hf⟩ := bcell hb
  have hz : w.heap.size + 1 < w1.heap.size := by have := hb.size; simp at this; omega
  have hz1 : w.heap.size < w1.heap.size := by omega
  clear hb
  go_wp2_with fail
  refine (HC'.out _ HB1.out).mono ?_
  rintro e w2 ⟨rfl, hb⟩
  have HB2 := Lib.hid (below_step HB1.out HB1.out.size hb)
  obtain ⟨hc2, hf2⟩ := bcell hb
  have hz2 : w.heap.size + 1 < w2.heap.size := by have := hb.size; omega
  have hz3 : w.heap.size < w2.heap.size := by omega
  clear hb
  have c0 : w2.cell? ⟨w.heap.size, 0, none⟩ = some (.slice (some ⟨b, o, none⟩) 4 cap) := by rw [hc2 _ _ hz1, hc _ _ (by simp; omega)]; go_simp
  have c1 : w2.cell? ⟨w.heap.size + 1, 0, none⟩ = some (.int .i64 (q : Int)) := by rw [hc2 _ _ hz, hc _ _ (by simp)]; go_simp
  have c2 : w2.cell? ⟨w.heap.size + 1, 1, none⟩ = some (.slice (some ⟨b', o', none⟩) 4 cap') := by rw [hc2 _ _ hz, hc _ _ (by simp)]; go_simp
  go_wp2_with fail
  refine (HS.out _).mono ?_
  rintro e w3 ⟨rfl, hw⟩
  subst w3
  clear hc hf hc2 hf2 hz hz1 HC HC' HB0 HB1 HS
  go_wp2
  have HC0 := Lib.hid c0
  have HC1 := Lib.hid c1
  have HC2 := Lib.hid c2
  clear c0 c1 c2
  go_loopw [5] (fun i wr => ∃ k : Nat, k ≤ 4 ∧ i = .int .i64 k ∧ Hid (mayAt xs ys q k = true) ∧ Hid (Below w2.heap.size w2 wr)) (fun i _ => 4 - (intOf i).toNat)
  case atStart => exact ⟨0, Nat.zero_le _, rfl, Lib.hid rfl, Below.refl _ _⟩
  case round =>
    obtain ⟨k, hk, rfl, HM, HB⟩ := hrel
    have c0wr := (HB.out.cell (p := ⟨w.heap.size, 0, none⟩) hz3).trans HC0.out
    have c1wr := (HB.out.cell (p := ⟨w.heap.size + 1, 0, none⟩) hz2).trans HC1.out
    have c2wr := (HB.out.cell (p := ⟨w.heap.size + 1, 1, none⟩) hz2).trans HC2.out
    by_cases hk' : k < 4
    · have d0wr := HH.out wr (below_step HB2.out HB2.out.size HB.out) k hk'
      have d1wr := HH'.out wr (below_step HB2.out HB2.out.size HB.out) k hk'
      have i1 : (0 : Int) ≤ (k : Int) := by omega
      have i2 : (k : Int) < 4 := by omega
      have z0wr : w.heap.size < wr.heap.size := Nat.lt_of_lt_of_le hz3 HB.out.size
      have z1wr : w.heap.size + 1 < wr.heap.size := Nat.lt_of_lt_of_le hz2 HB.out.size
      have z2wr : b < wr.heap.size := Nat.lt_trans HBL.out.1 z0wr
      have z3wr : b' < wr.heap.size := Nat.lt_trans HBL.out.2 z0wr
      obtain ⟨x0, x1⟩ := HXR.out k hk'
      have HN := Lib.hid (mayAt_next xs ys q k)
      have HO : Hid (mayOne xs ys q k = if k = q then decide (ys.getD k 0 = xs.getD k 0 + 1) else decide (ys.getD k 0 ≤ xs.getD k 0)) := Lib.hid rfl
      have HBD : Hid (mayOne xs ys q k = false → mayB xs ys (q : Int) = false) := fun h => by
        rw [HJ.out]
        exact mayAt_le xs ys q (show k + 1 ≤ 4 by omega) (by rw [HN.out, h, Bool.and_false])
      have HGD : Hid (mayOne xs ys q k = true → mayAt xs ys q (k + 1) = true) := fun h => by rw [HN.out, HM.out, h]; rfl
      clear HN HM HXR HH HH'
      generalize xs.getD k 0 = X at *
      generalize ys.getD k 0 = Y at *
      by_cases hkq : k = q
      · subst hkq
        rw [if_pos rfl] at HO
        by_cases hY : Y = X + 1
        · subst hY
          have HG := Lib.hid (HGD.out (by rw [HO.out]; simp))
          clear HBD HGD HO
          go_wp2_with fail
          have g0 := aft_cell z0wr c0wr
          have g1 := aft_cell z1wr c1wr
          have g4 := aft_cell z1wr c2wr
          have g2 := aft_cell z2wr d0wr
          have g3 := aft_cell z3wr d1wr
          have ne := aft_some wr
          refine wp_region_aft (by kernel_rfl) (by kernel_rfl) ?_
          repeat (first | go_big_quiet_step (fail))
          refine wpQuiet_nil ?_
          intro wa hqwa
          clear g0 g1 g2 g3 g4 ne
          have HBA := Lib.hid (below_step HB.out HB.out.size hqwa)
          clear hqwa c0wr c1wr c2wr d0wr d1wr
          go_wp2
          exact ⟨⟨k + 1, by omega, by go_num, HG, HBA⟩, by simp [intOf]; omega⟩
        · have HF := Lib.hid (HBD.out (by rw [HO.out]; simpa using hY))
          have hd : (Y != X + 1) = true := by simpa using hY
          clear HBD HGD HO
          go_wp2_with fail
          have g0 := aft_cell z0wr c0wr
          have g1 := aft_cell z1wr c1wr
          have g4 := aft_cell z1wr c2wr
          have g2 := aft_cell z2wr d0wr
          have g3 := aft_cell z3wr d1wr
          have ne := aft_some wr
          refine wp_region_aft (by kernel_rfl) (by kernel_rfl) ?_
          repeat (first | go_big_quiet_step (fail))
          refine wpQuiet_nil ?_
          intro wa hqwa
          clear g0 g1 g2 g3 g4 ne
          have HBA := Lib.hid (below_step HB.out HB.out.size hqwa)
          clear hqwa c0wr c1wr c2wr d0wr d1wr
          go_wp2
          go_ret
          exact ⟨ret_bool HF.out.symm, below_step HB2.out HB2.out.size HBA.out⟩
      · rw [if_neg hkq] at HO
        have hkd : ((k : Int) == (q : Int)) = false := by simp; omega
        have hkn : ((k : Int) != (q : Int)) = true := by simp; omega
        by_cases hY : X < Y
        · have HF := Lib.hid (HBD.out (by rw [HO.out]; simpa using hY))
          have hd : decide (X < Y) = true := by simpa using hY
          clear HBD HGD HO
          go_wp2_with fail
          have g0 := aft_cell z0wr c0wr
          have g1 := aft_cell z1wr c1wr
          have g4 := aft_cell z1wr c2wr
          have g2 := aft_cell z2wr d0wr
          have g3 := aft_cell z3wr d1wr
          have ne := aft_some wr
          refine wp_region_aft (by kernel_rfl) (by kernel_rfl) ?_
          repeat (first | go_big_quiet_step (fail))
          refine wpQuiet_nil ?_
          intro wa hqwa
          clear g0 g1 g2 g3 g4 ne
          have HBA := Lib.hid (below_step HB.out HB.out.size hqwa)
          clear hqwa c0wr c1wr c2wr d0wr d1wr
          go_wp2
          go_ret
          exact ⟨ret_bool HF.out.symm, below_step HB2.out HB2.out.size HBA.out⟩
        · have HG := Lib.hid (HGD.out (by rw [HO.out]; simpa using hY))
          have hd : decide (X < Y) = false := by simpa using hY
          clear HBD HGD HO
          go_wp2_with fail
          have g0 := aft_cell z0wr c0wr
          have g1 := aft_cell z1wr c1wr
          have g4 := aft_cell z1wr c2wr
          have g2 := aft_cell z2wr d0wr
          have g3 := aft_cell z3wr d1wr
          have ne := aft_some wr
          refine wp_region_aft (by kernel_rfl) (by kernel_rfl) ?_
          repeat (first | go_big_quiet_step (fail))
          refine wpQuiet_nil ?_
          intro wa hqwa
          clear g0 g1 g2 g3 g4 ne
          have HBA := Lib.hid (below_step HB.out HB.out.size hqwa)
          clear hqwa c0wr c1wr c2wr d0wr d1wr
          go_wp2
          exact ⟨⟨k + 1, by omega, by go_num, HG, HBA⟩, by simp [intOf]; omega⟩
    · have hkk : k = 4 := by omega
      subst hkk
      have HF : Hid (mayB xs ys (q : Int) = true) := HJ.out.trans HM.out
      go_wp2
      go_ret
      exact ⟨ret_bool HF.out.symm, below_step HB2.out HB2.out.size HB.out⟩

end Go.Proofs.Ytolmlcbgdihcbab

/- Vectors: what FnClocks says of them, as plain facts. -/
namespace Go.Proofs.Ytolmlcbgdihcbab

theorem joinV_comm (xs ys : List Int) : joinV xs ys = joinV ys xs := by
  unfold joinV
  rw [Bool.and_comm]
  split
  · rename_i h
    rw [Bool.and_eq_true] at h
    obtain ⟨x0, x1, x2, x3, rfl, -⟩ := vecB_four h.2
    obtain ⟨y0, y1, y2, y3, rfl, -⟩ := vecB_four h.1
    simp only [List.zipWith_cons_cons, List.zipWith_nil_right, List.cons.injEq, and_true]
    omega
  · rfl

theorem cmpV_told {xs ys : List Int} (h : vecB xs = true) (h' : vecB ys = true) :
    decide (joinV xs ys = ys) = ((cmpV xs ys == 0) || (cmpV xs ys == -1)) ∧ (cmpV xs ys == -1) = (cmpV ys xs == 1) ∧ (cmpV xs ys == 2) = (cmpV ys xs == 2) := by
  obtain ⟨x0, x1, x2, x3, rfl, -⟩ := vecB_four h
  obtain ⟨y0, y1, y2, y3, rfl, -⟩ := vecB_four h'
  rw [cmpV_four _ _ _ _ _ _ _ _ h h', cmpV_four _ _ _ _ _ _ _ _ h' h, joinV_good h h']
  simp only [List.zipWith_cons_cons, List.zipWith_nil_right, List.cons.injEq, and_true]
  have e0 : decide (y0 = x0 ∧ y1 = x1 ∧ y2 = x2 ∧ y3 = x3) = decide (x0 = y0 ∧ x1 = y1 ∧ x2 = y2 ∧ x3 = y3) := by
    rw [Bool.eq_iff_iff]
    simp
    omega
  have e1 : decide (max y0 x0 = x0 ∧ max y1 x1 = x1 ∧ max y2 x2 = x2 ∧ max y3 x3 = x3) = decide (max x0 y0 = x0 ∧ max x1 y1 = x1 ∧ max x2 y2 = x2 ∧ max x3 y3 = x3) := by
    rw [Bool.eq_iff_iff]
    simp
    omega
  have e2 : decide (max y0 x0 = y0 ∧ max y1 x1 = y1 ∧ max y2 x2 = y2 ∧ max y3 x3 = y3) = decide (max x0 y0 = y0 ∧ max x1 y1 = y1 ∧ max x2 y2 = y2 ∧ max x3 y3 = y3) := by
    rw [Bool.eq_iff_iff]
    simp
    omega
  have e3 : decide (x0 = y0 ∧ x1 = y1 ∧ x2 = y2 ∧ x3 = y3) = (decide (max x0 y0 = x0 ∧ max x1 y1 = x1 ∧ max x2 y2 = x2 ∧ max x3 y3 = x3) && decide (max x0 y0 = y0 ∧ max x1 y1 = y1 ∧ max x2 y2 = y2 ∧ max x3 y3 = y3)) := by
    rw [Bool.eq_iff_iff]
    simp
    omega
  rw [e0, e1, e2, e3]
  generalize decide (max x0 y0 = x0 ∧ max x1 y1 = x1 ∧ max x2 y2 = x2 ∧ max x3 y3 = x3) = a
  generalize decide (max x0 y0 = y0 ∧ max x1 y1 = y1 ∧ max x2 y2 = y2 ∧ max x3 y3 = y3) = b
  cases a <;> cases b <;> decide

theorem joinV_ok {xs ys : List Int} (h : vecB xs = true) (h' : vecB ys = true) : vecB (joinV xs ys) = true := by
  obtain ⟨x0, x1, x2, x3, rfl, hx⟩ := vecB_four h
  obtain ⟨y0, y1, y2, y3, rfl, hy⟩ := vecB_four h'
  rw [joinV_good h h']
  simp only [List.zipWith_cons_cons, List.zipWith_nil_right]
  rw [vecB_is]
  omega

theorem joinV_assoc {xs ys zs : List Int} (h : vecB xs = true) (h' : vecB ys = true) (h2 : vecB zs = true) : joinV (joinV xs ys) zs = joinV xs (joinV ys zs) := by
  rw [joinV_good (joinV_ok h h') h2, joinV_good h (joinV_ok h' h2), joinV_good h h', joinV_good h' h2]
  obtain ⟨x0, x1, x2, x3, rfl, hx⟩ := vecB_four h
  obtain ⟨y0, y1, y2, y3, rfl, hy⟩ := vecB_four h'
  obtain ⟨z0, z1, z2, z3, rfl, hz⟩ := vecB_four h2
  simp only [List.zipWith_cons_cons, List.zipWith_nil_right, List.cons.injEq, and_true]
  omega

theorem tickV_told {xs : List Int} {si : Int} (h : tickOk xs si = true) : ∃ q : Nat, q < 4 ∧ si = (q : Int) ∧ xs.length = 4 ∧ (tickV xs si).length = 4 ∧ (tickV xs si).getD q 0 = xs.getD q 0 + 1 ∧ 0 ≤ xs.getD q 0 ∧ xs.getD q 0 ≤ 1000000 ∧ cmpV xs (tickV xs si) = -1 := by
  rw [tickV_good h]
  unfold tickOk at h
  rw [Bool.and_eq_true, Bool.and_eq_true] at h
  obtain ⟨hv, hs, hm⟩ := h
  obtain ⟨x0, x1, x2, x3, rfl, h0, h1, h2, h3⟩ := vecB_four hv
  obtain rfl | rfl | rfl | rfl := btw_site hs
  · refine ⟨0, by omega, rfl, rfl, rfl, rfl, h0.1, h0.2, ?_⟩
    have hn : x0 ≠ 1000000 := by simpa using hm
    have hv' : vecB [x0 + 1, x1, x2, x3] = true := by
      rw [vecB_is]
      omega
    show cmpV [x0, x1, x2, x3] [x0 + 1, x1, x2, x3] = -1
    rw [cmpV_four _ _ _ _ _ _ _ _ hv hv']
    rw [decide_eq_false (by omega), decide_eq_true (by omega)]
    rfl
  · refine ⟨1, by omega, rfl, rfl, rfl, rfl, h1.1, h1.2, ?_⟩
    have hn : x1 ≠ 1000000 := by simpa using hm
    have hv' : vecB [x0, x1 + 1, x2, x3] = true := by
      rw [vecB_is]
      omega
    show cmpV [x0, x1, x2, x3] [x0, x1 + 1, x2, x3] = -1
    rw [cmpV_four _ _ _ _ _ _ _ _ hv hv']
    rw [decide_eq_false (by omega), decide_eq_true (by omega)]
    rfl
  · refine ⟨2, by omega, rfl, rfl, rfl, rfl, h2.1, h2.2, ?_⟩
    have hn : x2 ≠ 1000000 := by simpa using hm
    have hv' : vecB [x0, x1, x2 + 1, x3] = true := by
      rw [vecB_is]
      omega
    show cmpV [x0, x1, x2, x3] [x0, x1, x2 + 1, x3] = -1
    rw [cmpV_four _ _ _ _ _ _ _ _ hv hv']
    rw [decide_eq_false (by omega), decide_eq_true (by omega)]
    rfl
  · refine ⟨3, by omega, rfl, rfl, rfl, rfl, h3.1, h3.2, ?_⟩
    have hn : x3 ≠ 1000000 := by simpa using hm
    have hv' : vecB [x0, x1, x2, x3 + 1] = true := by
      rw [vecB_is]
      omega
    show cmpV [x0, x1, x2, x3] [x0, x1, x2, x3 + 1] = -1
    rw [cmpV_four _ _ _ _ _ _ _ _ hv hv']
    rw [decide_eq_false (by omega), decide_eq_true (by omega)]
    rfl

theorem joinV_few (xs ys : List Int) : (joinV xs ys).length ≤ 4 := by
  unfold joinV
  split
  · rename_i h
    rw [Bool.and_eq_true] at h
    obtain ⟨x0, x1, x2, x3, rfl, -⟩ := vecB_four h.1
    simp
    omega
  · simp

theorem tickV_few (xs : List Int) (si : Int) : (tickV xs si).length ≤ 4 := by
  unfold tickV tickOk
  split
  · rename_i h
    rw [Bool.and_eq_true] at h
    obtain ⟨x0, x1, x2, x3, rfl, -⟩ := vecB_four h.1
    simp
  · simp

end Go.Proofs.Ytolmlcbgdihcbab
