import Derived.Test.YtaopkoamjfmhhaaPack10
import Derived.Test.YtaopkoamjfmhhaaPack1
/- Counters, as plain facts: joined, in whatever order; what is at most what. And the laws' comparison of two. -/
namespace Go.Proofs.Ytaopkoamjfmhhaa
open Go.ChangeShapes Go.WideShapes Go.ChangeAt Go.RowKit Go.Joins
attribute [local go_sem ↓] Go.wp_at_zero Go.wp_at_succ

theorem zip_comm (xs ys : List Int) : List.zipWith max xs ys = List.zipWith max ys xs := by
  rw [List.zipWith_comm]
  congr 1
  funext a b
  exact Int.max_comm b a

theorem zip_assoc : ∀ (xs ys zs : List Int), List.zipWith max (List.zipWith max xs ys) zs = List.zipWith max xs (List.zipWith max ys zs)
  | [], _, _ => by simp
  | _ :: _, [], _ => by simp
  | _ :: _, _ :: _, [] => by simp
  | x :: xs, y :: ys, z :: zs => by
    simp only [List.zipWith_cons_cons, zip_assoc xs ys zs]
    congr 1
    omega

theorem zip_self : ∀ xs : List Int, List.zipWith max xs xs = xs
  | [] => rfl
  | x :: xs => by
    simp only [List.zipWith_cons_cons, zip_self xs]
    congr 1
    omega

theorem cj_comm (us ds us' ds' : List Int) : cjU us ds us' ds' = cjU us' ds' us ds ∧ cjD us ds us' ds' = cjD us' ds' us ds := by
  unfold cjU cjD
  rw [Bool.and_comm (cntB us ds), zip_comm us us', zip_comm ds ds']
  exact ⟨rfl, rfl⟩

theorem perB_zip {M : Int} {xs ys : List Int} (h : perB M xs = true) (h' : perB M ys = true) : perB M (List.zipWith max xs ys) = true := by
  obtain ⟨x0, x1, x2, x3, rfl, a0, a1, a2, a3⟩ := perB_four h
  obtain ⟨y0, y1, y2, y3, rfl, b0, b1, b2, b3⟩ := perB_four h'
  exact (perB_is _ _ _ _ _).2 ⟨by omega, by omega, by omega, by omega⟩

theorem cj_ok {us ds us' ds' : List Int} (h : cntB us ds = true) (h' : cntB us' ds' = true) : cntB (cjU us ds us' ds') (cjD us ds us' ds') = true := by
  rw [(cj_good h h').1, (cj_good h h').2]
  unfold cntB at h h' ⊢
  rw [Bool.and_eq_true] at h h' ⊢
  exact ⟨perB_zip h.1 h'.1, perB_zip h.2 h'.2⟩

theorem cj_self {us ds : List Int} (h : cntB us ds = true) : cjU us ds us ds = us ∧ cjD us ds us ds = ds := by
  rw [(cj_good h h).1, (cj_good h h).2]
  exact ⟨zip_self _, zip_self _⟩

theorem leq_join {us ds us' ds' : List Int} (h : cntB us ds = true) (h' : cntB us' ds' = true) : leqC us ds (cjU us ds us' ds') (cjD us ds us' ds') = true := by
  unfold leqC
  rw [h, cj_ok h h', (cj_good h h').1, (cj_good h h').2, ← zip_assoc, ← zip_assoc, zip_self, zip_self]
  simp

theorem cj_assoc {us ds us' ds' us2 ds2 : List Int} (h : cntB us ds = true) (h' : cntB us' ds' = true) (h2 : cntB us2 ds2 = true) :
    cjU (cjU us ds us' ds') (cjD us ds us' ds') us2 ds2 = cjU us ds (cjU us' ds' us2 ds2) (cjD us' ds' us2 ds2) ∧ cjD (cjU us ds us' ds') (cjD us ds us' ds') us2 ds2 = cjD us ds (cjU us' ds' us2 ds2) (cjD us' ds' us2 ds2) := by
  rw [(cj_good (cj_ok h h') h2).1, (cj_good (cj_ok h h') h2).2, (cj_good h (cj_ok h' h2)).1, (cj_good h (cj_ok h' h2)).2, (cj_good h h').1, (cj_good h h').2, (cj_good h' h2).1, (cj_good h' h2).2]
  exact ⟨zip_assoc _ _ _, zip_assoc _ _ _⟩

theorem cj_few (us ds us' ds' : List Int) : (cjU us ds us' ds').length ≤ 4 ∧ (cjD us ds us' ds').length ≤ 4 := by
  cases h : (cntB us ds && cntB us' ds')
  · rw [(cj_bad h).1, (cj_bad h).2]
    simp
  · rw [Bool.and_eq_true] at h
    rw [(cj_good h.1 h.2).1, (cj_good h.1 h.2).2]
    obtain ⟨x0, x1, x2, x3, y0, y1, y2, y3, rfl, rfl, -⟩ := cntB_four h.1
    simp
    omega

set_option maxRecDepth 100000 in
theorem sameCounter_dec (a : Option Addr) (cap : Nat) (b : Option Addr) (cb : Nat) (a' : Option Addr) (cap' : Nat) (b' : Option Addr) (cb' : Nat) (us ds us' ds' : List Int) (w : World) (h1 : us.length ≤ 1048576) (h2 : ds.length ≤ 1048576) (h3 : us'.length ≤ 1048576) (h4 : ds'.length ≤ 1048576) (hh : IsC w a b us ds) (hg : IsC w a' b' us' ds') :
    Calls Try.prog 8 #[cntV a us.length cap b ds.length cb, cntV a' us'.length cap' b' ds'.length cb'] w fun e w' => e = .returned (.bool (decide (us = us') && decide (ds = ds'))) ∧ Below w.heap.size w w' := by
  have HB0 : Hid (Below w.heap.size w ((w.alloc (.cells #[.slice a us.length cap, .slice b ds.length cb] 26)).alloc (.cells #[.slice a' us'.length cap', .slice b' ds'.length cb'] 26))) := ((Below.refl _ _).alloc (Nat.le_refl _) _).alloc (by simp) _
  have HH := Lib.hid hh
  have HG := Lib.hid hg
  clear hh hg
  have KD := Lib.hid (fun W h h' => same_dec b b' cb cb' ds ds' W h2 h4 h h')
  have KU := Lib.hid (fun W h h' => same_dec a a' cap cap' us us' W h1 h3 h h')
  have hz : w.heap.size < ((w.alloc (.cells #[.slice a us.length cap, .slice b ds.length cb] 26)).alloc (.cells #[.slice a' us'.length cap', .slice b' ds'.length cb'] 26)).heap.size := by simp; omega
  have hz1 : w.heap.size + 1 < ((w.alloc (.cells #[.slice a us.length cap, .slice b ds.length cb] 26)).alloc (.cells #[.slice a' us'.length cap', .slice b' ds'.length cb'] 26)).heap.size := by simp
  have c1 : ((w.alloc (.cells #[.slice a us.length cap, .slice b ds.length cb] 26)).alloc (.cells #[.slice a' us'.length cap', .slice b' ds'.length cb'] 26)).cell? ⟨w.heap.size, 1, none⟩ = some (.slice b ds.length cb) := by go_simp
  have d1 : ((w.alloc (.cells #[.slice a us.length cap, .slice b ds.length cb] 26)).alloc (.cells #[.slice a' us'.length cap', .slice b' ds'.length cb'] 26)).cell? ⟨w.heap.size + 1, 1, none⟩ = some (.slice b' ds'.length cb') := by go_simp
  go_enter Try.func8, Try.ntmps8
  go_wp2_with fail
  generalize ((w.alloc (.cells #[.slice a us.length cap, .slice b ds.length cb] 26)).alloc (.cells #[.slice a' us'.length cap', .slice b' ds'.length cb'] 26)) = V at *
  refine (KU.out _ (HH.out.below HB0.out).1 (HG.out.below HB0.out).1).mono ?_
  rintro e w1 ⟨rfl, hb⟩
  have HB1 := Lib.hid (below_step HB0.out HB0.out.size hb)
  replace c1 := cells_of hb hz c1
  replace d1 := cells_of hb hz1 d1
  clear hb HB0
  cases hu : decide (us = us')
  · have HU := Lib.hid hu
    clear hu
    go_wp2
    go_ret
    exact ⟨ret_bool (by rw [HU.out]; rfl), HB1.out⟩
  · have HU := Lib.hid hu
    clear hu
    go_wp2_with fail
    refine (KD.out _ (HH.out.below HB1.out).2 (HG.out.below HB1.out).2).mono ?_
    rintro e w2 ⟨rfl, hb⟩
    have HB2 := Lib.hid (below_step HB1.out HB1.out.size hb)
    clear hb
    go_wp2
    go_ret
    exact ⟨ret_bool (by rw [HU.out, Bool.true_and]), HB2.out⟩

end Go.Proofs.Ytaopkoamjfmhhaa

/- Slots' law where some operations are guarded ('&&', '||'): the guard's slot is a fact that is told; where it does not want the operation, the slot is empty and the world stays. No Go text in sight. -/
namespace Go.Proofs.Ytaopkoamjfmhhaa

/-- One operation's word: where its guard does not want it, its slot is empty and the world stays. -/
def oblH (P : Program) (ops : Array Oper) (a0 : Act) (S : World → Prop) (R : World → World → Prop) (n : List (Tmp × Bool)) (o : Oper) (Ts : Facts) (T : Fact) : Prop :=
  ∀ ρ w, Plain ρ → S w → needs Ts a0 ρ w n → match o.guard with
    | none => got P (fun v w' => R w w' ∧ T v w') ((execOp ρ o).run P w)
    | some (gi, b) => ∃ d c, (ops[gi]?).bind (·.dst) = some d ∧ ρ (.tmp d) = .bool c ∧ (if c = b then got P (fun v w' => R w w' ∧ T v w') ((execOp ρ o).run P w) else R w w ∧ T undef w)

def wpSlotsH (P : Program) (ops : Array Oper) (a0 : Act) (S : World → Prop) (R : World → World → Prop) (Fin : Facts → Prop) : List (List (Tmp × Bool)) → List Oper → Facts → Prop
  | n :: N, o :: l, Ts => ∃ T : Fact, lasts R T ∧ oblH P ops a0 S R n o Ts T ∧ wpSlotsH P ops a0 S R Fin N l (addFact o T Ts)
  | [], [], Ts => Fin Ts
  | _, _, _ => False

def tidyH (ops : Array Oper) (m : Nat) (N : List (List (Tmp × Bool))) : Bool :=
  distB (ops.toList.take m) [] && (N.length == m) && decide (m ≤ ops.size) && sealB ops m &&
  ((List.range ops.size).all fun j => match ops[j]? with
    | some o => (o.after.all fun e => !Region.binds .any e || decide (e.on < j)) && (match N[j]? with | some n => tabRowB ops j o n | none => true)
    | _ => false)

theorem wanted_of {ops : Array Oper} {o : Oper} {gi : Nat} {b c : Bool} {d : Tmp} {a : Act} (hg : o.guard = some (gi, b)) (hd : (ops[gi]?).bind (·.dst) = some d) (hv : a.eval (.tmp d) = .bool c) : Region.wanted o (yielded ops a.tmps) = (c == b) := by
  have h1 : a.tmps[d]? = some (.bool c) := by
    have h2 : a.tmps.getD d undef = .bool c := hv
    rcases Nat.lt_or_ge d a.tmps.size with h | h
    · simpa [h] using h2
    · rw [Array.getD_eq_getD_getElem?, Array.getElem?_eq_none h] at h2
      cases h2
  unfold Region.wanted yielded
  rw [hg]
  simp only [hd, Option.bind_some, h1]
  cases c <;> cases b <;> rfl

theorem collectH {P : Program} {ops : Array Oper} {a0 : Act} {S : World → Prop} {R : World → World → Prop} {Fin : Facts → Prop} : ∀ (N : List (List (Tmp × Bool))) (l : List Oper) (Ts : Facts), wpSlotsH P ops a0 S R Fin N l Ts → distB l (Ts.map (·.1)) = true →
    ∃ Tf, Fin Tf ∧ (∀ x p, Ts.lookup x = some p → Tf.lookup x = some p) ∧ (∀ d p, (d, p) ∈ Tf → (d, p) ∈ Ts ∨ (Tf.lookup d = some p ∧ ∃ (k : Nat) (o : Oper), l[k]? = some o ∧ o.dst = some d)) ∧ ∀ (k : Nat) (n : List (Tmp × Bool)) (o : Oper), N[k]? = some n → l[k]? = some o → ∃ T : Fact, lasts R T ∧ oblH P ops a0 S R n o Tf T ∧ ∀ d, o.dst = some d → Tf.lookup d = some T
  | [], [], Ts, h, _ => ⟨Ts, h, fun _ _ h => h, fun _ _ h => .inl h, fun k n o hn _ => by simp at hn⟩
  | [], _ :: _, _, h, _ => h.elim
  | _ :: _, [], _, h, _ => h.elim
  | n :: N, o :: l, Ts, h, hd => by
    obtain ⟨T, hl, ho, hrest⟩ := h
    have hsub : ∀ x p, Ts.lookup x = some p → (addFact o T Ts).lookup x = some p := by
      intro x p hx
      unfold addFact
      cases hod : o.dst with
      | none => exact hx
      | some d =>
        simp only [distB, hod, Bool.and_eq_true, Bool.not_eq_true'] at hd
        have hne : x ≠ d := fun e => by rw [e, lookup_none_of hd.1] at hx; cases hx
        rw [List.lookup_cons, beq_eq_false_iff_ne.2 hne]
        exact hx
    have hd' : distB l ((addFact o T Ts).map (·.1)) = true := by
      unfold addFact
      cases hod : o.dst with
      | none => simpa [distB, hod] using hd
      | some d =>
        simp only [distB, hod, Bool.and_eq_true] at hd
        simpa using hd.2
    obtain ⟨Tf, hfin, hmono, hmem, hall⟩ := collectH N l (addFact o T Ts) hrest hd'
    have hhead : ∀ d, o.dst = some d → Tf.lookup d = some T := fun d hod => hmono d T (by unfold addFact; rw [hod]; simp)
    refine ⟨Tf, hfin, fun x p hx => hmono x p (hsub x p hx), fun d p hdp => ?_, fun k n' o' hn ho' => ?_⟩
    · rcases hmem d p hdp with h1 | ⟨h1, k, o', hk, hod⟩
      · unfold addFact at h1
        cases hod : o.dst with
        | none => rw [hod] at h1; exact .inl h1
        | some d' =>
          rw [hod] at h1
          rcases List.mem_cons.1 h1 with h2 | h2
          · obtain ⟨rfl, rfl⟩ := Prod.mk.inj h2
            exact .inr ⟨hhead _ hod, 0, o, rfl, hod⟩
          · exact .inl h2
      · exact .inr ⟨h1, k + 1, o', by simpa using hk, hod⟩
    cases k with
    | zero =>
      simp only [List.getElem?_cons_zero, Option.some.injEq] at hn ho'
      subst hn ho'
      refine ⟨T, hl, fun ρ w hp hS hn => ho ρ w hp hS (needs_mono (fun x p hx => hmono x p (hsub x p hx)) hn), hhead⟩
    | succ k =>
      exact hall k n' o' (by simpa using hn) (by simpa using ho')

/-- Whatever order is picked. -/
theorem any_slotsH {P : Program} {ops : Array Oper} {a0 : Act} {S SF : World → Prop} {SS : Nat → World → Prop} {R : World → World → Prop} {Tf : Facts} {Q : Exit → Act → World → Prop} {m : Nat} (hmle : m ≤ ops.size) (hseal : sealB ops m = true) (hstep : ∀ f w w', SS (f + 1) w → R w w' → SS f w') (hSS : ∀ f w, f < ops.size → SS (f + 1) w → S w) (hF : ∀ f w, f ≤ ops.size → SS f w → SF w) (hl : ∀ d p, Tf.lookup d = some p → lasts R p)
    (hbd : ∀ (i : Nat) (o : Oper) (d : Tmp), ops[i]? = some o → o.dst = some d → d < a0.tmps.size) (hlt : ∀ (i : Nat) (o : Oper), ops[i]? = some o → ∀ e ∈ o.after, Region.binds .any e = true → e.on < i)
    (hobl : ∀ (j : Nat) (o : Oper), j < m → ops[j]? = some o → ∃ n T, tabRowB ops j o n = true ∧ oblH P ops a0 S R n o Tf T ∧ ∀ d, o.dst = some d → Tf.lookup d = some T)
    (hfin : ∀ a w, SF w → a.defers = a0.defers → a.tmps.size = a0.tmps.size → (∀ (i : Nat) (o : Oper) (d : Tmp) p, i < m → ops[i]? = some o → o.dst = some d → Tf.lookup d = some p → p (a.eval (.tmp d)) w) → (∀ x, (∀ (i : Nat) (o : Oper), i < m → ops[i]? = some o → o.dst ≠ some x) → a.eval (.tmp x) = a0.eval (.tmp x)) → wpList P ops Q (ops.toList.drop m) a w) :
    ∀ (fuel : Nat) (listed : Array Bool) (a : Act) (w : World), listed.toList.count false = fuel → (∀ j, m ≤ j → j < ops.size → listed.getD j true = false) → Inv ops a0 (SS fuel) Tf listed a w → wpAny P .any ops Q fuel listed a w := by
  intro fuel
  induction fuel with
  | zero =>
    intro listed a w hc hm2 hI
    have hno : ∀ i, i < ops.size → listed.getD i false = true := fun i hi => by
      have hi' : i < listed.size := by rw [hI.size]; exact hi
      have : listed[i] ≠ false := fun h => by
        have := List.count_eq_zero.1 hc
        exact this (by rw [← h]; simp)
      simpa [hi'] using this
    have hms : m = ops.size := by
      rcases Nat.lt_or_ge m ops.size with h' | h'
      · have h3 := hno m h'
        rw [listed_ne hI.size h' (hm2 m (Nat.le_refl _) h')] at h3
        cases h3
      · omega
    refine any_tail hseal hlt 0 m listed a w (Nat.le_refl _) (by omega) hI.size (fun j hj => hno j (by omega)) hm2 ?_
    exact hfin a w (hF 0 w (Nat.zero_le _) hI.ok) hI.defers hI.len (fun i o d p _ ho hd hp => hI.fresh i o d p ho (hno i (Array.getElem?_eq_some_iff.1 ho).1) hd hp) (fun x hx => hI.old x fun i o ho _ => hx i o (by rw [hms]; exact (Array.getElem?_eq_some_iff.1 ho).1) ho)
  | succ fuel ih =>
    intro listed a w hc hm2 hI
    by_cases hdone : ∀ j, j < m → listed.getD j false = true
    · have hcnt := count_drop hI.size hmle hdone hm2
      refine any_tail hseal hlt (fuel + 1) m listed a w (Nat.le_refl _) (by omega) hI.size hdone hm2 ?_
      refine hfin a w (hF _ w (by have := List.count_le_length (a := false) (l := listed.toList); rw [hc, Array.length_toList, hI.size] at this; exact this) hI.ok) hI.defers hI.len (fun i o d p hi ho hd hp => hI.fresh i o d p ho (hdone i hi) hd hp) (fun x hx => hI.old x fun i o ho hli => ?_)
      refine hx i o ?_ ho
      rcases Nat.lt_or_ge i m with h' | h'
      · exact h'
      · have hil := (Array.getElem?_eq_some_iff.1 ho).1
        rw [listed_ne hI.size hil (hm2 i h' hil)] at hli
        cases hli
    · refine ⟨fun hr => absurd ?_ hdone, fun j hj => ?_⟩
      · -- the first that has not come up may come up
        have hall : ∀ k, k ≤ m → ∀ i, i < k → listed.getD i false = true := by
          intro k
          induction k with
          | zero => intro _ i hi; omega
          | succ k ihk =>
            intro hk i hi
            by_cases hik : i < k
            · exact ihk (by omega) i hik
            · have : i = k := by omega
              subst this
              have hi' : i < ops.size := by omega
              cases hb : listed.getD i true with
              | true =>
                have hi2 : i < listed.size := by rw [hI.size]; exact hi'
                simpa [hi2] using hb
              | false =>
                have hmem : i ∈ Region.ready .any ops listed := mem_ready.2 ⟨hb, ops[i], by simp [hi'], fun e he hbi => ihk (by omega) e.on (hlt i _ (by simp [hi']) e he hbi)⟩
                rw [hr] at hmem
                cases hmem
        exact hall m (Nat.le_refl _)
      · obtain ⟨h0, o, ho, hall⟩ := mem_ready.1 hj
        have hjlt := (Array.getElem?_eq_some_iff.1 ho).1
        have hjm : j < m := by
          rcases Nat.lt_or_ge j m with h' | h'
          · exact h'
          · exact absurd (fun i hi => sealed hseal hI.down ho h' hall (Nat.lt_of_lt_of_le hi h')) hdone
        obtain ⟨n, T, htab, hob, hT⟩ := hobl j o hjm ho
        have hun := listed_ne hI.size hjlt h0
        have hgot := hob a.eval w (plain_eval a) (hSS fuel w (by have := List.count_le_length (a := false) (l := listed.toList); rw [hc, Array.length_toList, hI.size] at this; exact this) hI.ok) (needs_iff.2 (needs_of hI ho hun hall n htab))
        unfold wpOp
        simp only [ho]
        have hkey : ∀ v w', R w w' ∧ T v w' → wpAny P .any ops Q fuel (listed.setIfInBounds j true) (a.put o.dst v) w' := fun v w' ⟨hR, hv⟩ => by
          have hI' := inv_step (hstep fuel) hl hbd hI ho hall hT hR hv
          refine ih _ _ _ ?_ (fun i hi hi2 => by rw [getD_set_ne true (by omega)]; exact hm2 i hi hi2) hI'
          have hcs := count_set (by rw [hI.size]; exact hjlt) h0
          omega
        cases hgd : o.guard with
        | none =>
          have h2 := hgot
          rw [hgd] at h2
          rw [if_pos (by simp [Region.wanted, hgd])]
          exact .inl (upon_of_got (got_mono hkey h2))
        | some gb =>
          obtain ⟨gi, b⟩ := gb
          have h2 := hgot
          rw [hgd] at h2
          obtain ⟨d, c, hd, hv, h3⟩ := h2
          rw [wanted_of hgd hd hv]
          by_cases hcb : c = b
          · rw [if_pos hcb] at h3
            rw [if_pos (by rw [hcb]; simp)]
            exact .inl (upon_of_got (got_mono hkey h3))
          · rw [if_neg hcb] at h3
            rw [if_neg (by simpa using hcb)]
            exact hkey undef w h3

/-- THE LAW, with a count of the operations that are still to come: the first operations 'l' in whatever order; those behind them ('r'), each of which waits for all ahead of it, in the order of the text. -/
theorem wp_region_slotsH_n {P : Program} {id : Nat} {Q : Exit → Act → World → Prop} {a0 : Act} {w0 : World} {all : List Oper} (m : Nat) (N : List (List (Tmp × Bool))) (S SF : World → Prop) (SS : Nat → World → Prop) (R : World → World → Prop)
    (hm : P.follows .mixedOrders = true) (hB : tidyH all.toArray m N = true) (hz : (all.all fun o => match o.dst with | some d => decide (d < a0.tmps.size) | none => true) = true)
    (h0 : SS all.length w0.drew) (hstep : ∀ f w w', SS (f + 1) w → R w w' → SS f w') (hSS : ∀ f w, f < all.length → SS (f + 1) w → S w) (hF : ∀ f w, f ≤ all.length → SS f w → SF w)
    (h : wpSlotsH P all.toArray a0 S R (fun Ts => ∀ vs w, SF w → factsAt vs w Ts → wpList P all.toArray Q (all.drop m) (putAll vs (all.take m) a0) w) N (all.take m) []) : (Code.region id all.toArray true).wp P Q a0 w0 := by
  simp only [tidyH, Bool.and_eq_true, beq_iff_eq, decide_eq_true_eq] at hB
  obtain ⟨⟨⟨⟨hdist, hlen⟩, hmle⟩, hseal⟩, htab⟩ := hB
  have hops : ∀ (i : Nat) (o : Oper), all.toArray[i]? = some o → all[i]? = some o := fun i o h => by simpa using h
  have hmemo : ∀ (i : Nat) (o : Oper), all.toArray[i]? = some o → o ∈ all := fun i o h => List.mem_of_getElem? (hops i o h)
  have htk : ∀ (i : Nat) (o : Oper), i < m → all.toArray[i]? = some o → (all.take m)[i]? = some o := fun i o hi h => by rw [List.getElem?_take_of_lt hi]; exact hops i o h
  have hbd : ∀ (i : Nat) (o : Oper) (d : Tmp), all.toArray[i]? = some o → o.dst = some d → d < a0.tmps.size := fun i o d ho hd => by
    have := List.all_eq_true.1 hz o (hmemo i o ho)
    simpa [hd] using this
  obtain ⟨Tf, hfin, _, hmem, hall⟩ := collectH N (all.take m) [] h (by simpa using hdist)
  have hrow : ∀ (j : Nat) (o : Oper), all.toArray[j]? = some o → (∀ e ∈ o.after, Region.binds .any e = true → e.on < j) ∧ (j < m → ∃ n, N[j]? = some n ∧ tabRowB all.toArray j o n = true) := fun j o ho => by
    have hj := (Array.getElem?_eq_some_iff.1 ho).1
    have h1 := List.all_eq_true.1 htab j (List.mem_range.2 hj)
    rw [ho] at h1
    simp only [Bool.and_eq_true] at h1
    refine ⟨fun e he hb => ?_, fun hjm => ?_⟩
    · have h2 := Array.all_eq_true'.1 h1.1 e he
      simpa [hb] using h2
    · have hjN : j < N.length := by rw [hlen]; exact hjm
      have h2 := h1.2
      rw [List.getElem?_eq_getElem hjN] at h2
      exact ⟨_, List.getElem?_eq_getElem hjN, h2⟩
  have hback : ∀ (k : Nat) (o : Oper), (all.take m)[k]? = some o → k < m ∧ all.toArray[k]? = some o := fun k o hk => by
    have hkl := (List.getElem?_eq_some_iff.1 hk).1
    have hkm : k < m := by
      rw [List.length_take] at hkl
      omega
    rw [List.getElem?_take_of_lt hkm] at hk
    exact ⟨hkm, by simpa using hk⟩
  refine wp_region_any hm ?_
  refine any_slotsH (m := m) (Tf := Tf) (a0 := a0) (SS := SS) (S := S) (SF := SF) hmle hseal hstep (fun f w hf => hSS f w (by simpa using hf)) (fun f w hf => hF f w (by simpa using hf)) (fun d p hp => ?_) hbd (fun i o ho => (hrow i o ho).1) (fun j o hj ho => ?_) (fun a w hSw hdef hsz hfr hold => ?_) _ _ _ _ ?_ ?_ ?_
  · -- each fact lasts
    rcases hmem d p (lookup_mem hp) with h1 | ⟨_, k, o, hk, hod⟩
    · cases h1
    · obtain ⟨hkm, hk'⟩ := hback k o hk
      obtain ⟨n, hn, _⟩ := (hrow k o hk').2 hkm
      obtain ⟨T, hT, _, hT2⟩ := hall k n o hn hk
      obtain rfl := Option.some.inj ((hT2 d hod).symm.trans hp)
      exact hT
  · obtain ⟨n, hn, h1⟩ := (hrow j o ho).2 hj
    obtain ⟨T, _, hT1, hT2⟩ := hall j n o hn (htk j o hj ho)
    exact ⟨n, T, h1, hT1, hT2⟩
  · obtain ⟨p1, p2, p3⟩ := putAll_spec (fun d => a.eval (.tmp d)) (all.take m) a0 (fun o ho d hd => by
      obtain ⟨i, hi, he⟩ := List.getElem_of_mem ho
      obtain ⟨_, hi'⟩ := hback i o (by rw [List.getElem?_eq_getElem hi, he])
      exact hbd i o d hi' hd)
    have e : a = putAll (fun d => a.eval (.tmp d)) (all.take m) a0 := by
      refine act_ext (hdef.trans p1.symm) (hsz.trans p2.symm) fun x => ?_
      by_cases hx : ∃ o ∈ all.take m, o.dst = some x
      · exact ((p3 x).1 hx).symm
      · rw [(p3 x).2 hx]
        exact hold x fun i o hi ho hd => hx ⟨o, List.mem_of_getElem? (htk i o hi ho), hd⟩
    rw [e]
    refine hfin _ w hSw (factsAt_of fun d p hdp => ?_)
    rcases hmem d p hdp with h1 | ⟨hlk, k, o, hk, hod⟩
    · cases h1
    · obtain ⟨hkm, hk'⟩ := hback k o hk
      exact hfr k o d p hkm hk' hod hlk
  · simp
  · intro j _ hj
    simp at hj
    simp [hj]
  · refine ⟨by simp, by simpa using h0, rfl, rfl, fun i o ho hli => ?_, fun i o d p ho hli => ?_, fun x _ => rfl⟩
    · rw [rep_false] at hli
      cases hli
    · rw [rep_false] at hli
      cases hli

/-- THE LAW: the first operations 'l' in whatever order; those behind them ('r'), each of which waits for all ahead of it, in the order of the text. -/
theorem wp_region_slotsH {P : Program} {id : Nat} {Q : Exit → Act → World → Prop} {a0 : Act} {w0 : World} {all : List Oper} (m : Nat) (N : List (List (Tmp × Bool))) (S : World → Prop) (R : World → World → Prop)
    (hm : P.follows .mixedOrders = true) (hB : tidyH all.toArray m N = true) (hz : (all.all fun o => match o.dst with | some d => decide (d < a0.tmps.size) | none => true) = true)
    (h0 : S w0.drew) (hS : ∀ w w', S w → R w w' → S w')
    (h : wpSlotsH P all.toArray a0 S R (fun Ts => ∀ vs w, S w → factsAt vs w Ts → wpList P all.toArray Q (all.drop m) (putAll vs (all.take m) a0) w) N (all.take m) []) : (Code.region id all.toArray true).wp P Q a0 w0 :=
  wp_region_slotsH_n m N S S (fun _ => S) R hm hB hz h0 (fun _ => hS) (fun _ _ _ h => h) (fun _ _ _ h => h) h

/-- One operation: its value is this one, whatever the world. -/
theorem slot_eq_h {P : Program} {ops : Array Oper} {a0 : Act} {S : World → Prop} {R : World → World → Prop} {Fin : Facts → Prop} {n : List (Tmp × Bool)} {N : List (List (Tmp × Bool))} {o : Oper} {l : List Oper} {Ts : Facts} {e : Value}
    (h : oblH P ops a0 S R n o Ts (fun v _ => v = e)) (hr : wpSlotsH P ops a0 S R Fin N l (addFact o (fun v _ => v = e) Ts)) : wpSlotsH P ops a0 S R Fin (n :: N) (o :: l) Ts :=
  ⟨_, lasts_eq _ _, h, hr⟩

/-- One operation: of its value this fact is told. -/
theorem slot_fact_h {P : Program} {ops : Array Oper} {a0 : Act} {S : World → Prop} {R : World → World → Prop} {Fin : Facts → Prop} {n : List (Tmp × Bool)} {N : List (List (Tmp × Bool))} {o : Oper} {l : List Oper} {Ts : Facts} (T : Fact) (hT : lasts R T)
    (h : oblH P ops a0 S R n o Ts T) (hr : wpSlotsH P ops a0 S R Fin N l (addFact o T Ts)) : wpSlotsH P ops a0 S R Fin (n :: N) (o :: l) Ts :=
  ⟨T, hT, h, hr⟩

theorem slot_end_h {P : Program} {ops : Array Oper} {a0 : Act} {S : World → Prop} {R : World → World → Prop} {Fin : Facts → Prop} {Ts : Facts} (h : Fin Ts) : wpSlotsH P ops a0 S R Fin [] [] Ts := h

end Go.Proofs.Ytaopkoamjfmhhaa
