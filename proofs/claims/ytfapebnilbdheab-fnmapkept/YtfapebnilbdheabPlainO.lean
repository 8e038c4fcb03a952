/- The orders of tags and writes: turned round they are turned round, and they go on. No Go in sight. -/
import Derived.Test.YtfapebnilbdheabPlainW
namespace Go.Proofs.Ytfapebnilbdheab

def lexI (a b : Int) : Int := if a ≠ 0 then a else b

/-- What three answers of one order have to do with one another: of a with b, of b with c, of a with c. -/
structure T3 (x y z : Int) : Prop where
  l : x = 0 → z = y
  r : y = 0 → z = x
  n : x < 0 → y < 0 → z < 0

theorem T3.lex {x y z x' y' z' : Int} (h : T3 x y z) (h' : T3 x' y' z') : T3 (lexI x x') (lexI y y') (lexI z z') := by
  obtain ⟨l, r, n⟩ := h
  obtain ⟨l', r', n'⟩ := h'
  unfold lexI
  by_cases hx : x = 0
  · have hz := l hx
    by_cases hy : y = 0
    · have hz0 : z = 0 := by omega
      simp only [hx, hy, hz0, ne_eq, not_true_eq_false, if_false]
      exact ⟨l', r', n'⟩
    · have hz0 : z ≠ 0 := by omega
      simp only [hx, hy, hz0, ne_eq, not_true_eq_false, not_false_eq_true, if_false, if_true]
      exact ⟨fun _ => hz, fun e => absurd e hy, fun h1 h2 => by omega⟩
  · by_cases hy : y = 0
    · have hz := r hy
      have hz0 : z ≠ 0 := by omega
      simp only [hx, hy, hz0, ne_eq, not_true_eq_false, not_false_eq_true, if_false, if_true]
      exact ⟨fun e => absurd e hx, fun _ => hz, fun h1 h2 => by omega⟩
    · simp only [hx, hy, ne_eq, not_false_eq_true, if_true]
      refine ⟨fun e => absurd e hx, fun e => absurd e hy, fun h1 h2 => ?_⟩
      have := n h1 h2
      rw [if_pos (by omega)]
      exact this

theorem T3.on {x y z : Int} (h : T3 x y z) (hx : x ≤ 0) (hy : y ≤ 0) : z < 0 ∨ (z = 0 ∧ x = 0 ∧ y = 0) := by
  obtain ⟨l, r, n⟩ := h
  by_cases h0 : x = 0
  · have := l h0
    omega
  · by_cases h1 : y = 0
    · have := r h1
      omega
    · have := n (by omega) (by omega)
      omega

theorem lexI_neg (a b : Int) : lexI (-a) (-b) = -lexI a b := by
  unfold lexI
  by_cases h : a = 0
  · simp [h]
  · have h' : -a ≠ 0 := by omega
    simp [h]

theorem sgn_three (a b c : Int) : T3 (sgn a b) (sgn b c) (sgn a c) := by
  refine ⟨fun h => ?_, fun h => ?_, fun h1 h2 => ?_⟩
  · rw [sgn_zero.1 h]
  · rw [sgn_zero.1 h]
  · unfold sgn at *
    by_cases e1 : a < b
    · by_cases e2 : b < c
      · rw [if_pos (by omega)]
        omega
      · rw [if_neg e2] at h2
        split at h2 <;> omega
    · rw [if_neg e1] at h1
      split at h1 <;> omega

theorem tcmp_lex (c s q c' s' q' : Int) : tcmp c s q c' s' q' = lexI (sgn c c') (lexI (sgn s s') (sgn q q')) := by
  unfold tcmp lexI
  simp only [ne_eq, sgn_zero]

theorem tcmp_three (a1 a2 a3 b1 b2 b3 c1 c2 c3 : Int) : T3 (tcmp a1 a2 a3 b1 b2 b3) (tcmp b1 b2 b3 c1 c2 c3) (tcmp a1 a2 a3 c1 c2 c3) := by
  rw [tcmp_lex, tcmp_lex, tcmp_lex]
  exact (sgn_three _ _ _).lex ((sgn_three _ _ _).lex (sgn_three _ _ _))

theorem tcmp_neg (a1 a2 a3 b1 b2 b3 : Int) : tcmp b1 b2 b3 a1 a2 a3 = -tcmp a1 a2 a3 b1 b2 b3 := by
  rw [tcmp_lex, tcmp_lex, ← lexI_neg, ← lexI_neg, sgn_neg a1 b1, sgn_neg a2 b2, sgn_neg a3 b3]

theorem dcmp_lex (d e : Dp) : dcmp d e = lexI (sgn d.k e.k) (tcmp d.c d.s d.q e.c e.s e.q) := by
  unfold dcmp lexI
  simp only [ne_eq, sgn_zero]

theorem dcmp_three (d e f : Dp) : T3 (dcmp d e) (dcmp e f) (dcmp d f) := by
  rw [dcmp_lex, dcmp_lex, dcmp_lex]
  exact (sgn_three _ _ _).lex (tcmp_three _ _ _ _ _ _ _ _ _)

theorem dcmp_neg (d e : Dp) : dcmp e d = -dcmp d e := by
  rw [dcmp_lex, dcmp_lex, ← lexI_neg, sgn_neg d.k e.k, tcmp_neg d.c d.s d.q e.c e.s e.q]

theorem depsCmp_cons (d e : Dp) (r t : List Dp) : depsCmp (d :: r) (e :: t) = lexI (dcmp d e) (depsCmp r t) := rfl

theorem depsCmp_neg : ∀ xs ys : List Dp, depsCmp ys xs = -depsCmp xs ys
  | [], [] => rfl
  | [], _ :: _ => rfl
  | _ :: _, [] => rfl
  | d :: r, e :: t => by rw [depsCmp_cons, depsCmp_cons, dcmp_neg d e, depsCmp_neg r t, lexI_neg]

theorem depsCmp_three : ∀ xs ys zs : List Dp, T3 (depsCmp xs ys) (depsCmp ys zs) (depsCmp xs zs)
  | [], [], [] => ⟨fun _ => rfl, fun _ => rfl, fun h _ => absurd h (by simp [depsCmp])⟩
  | [], [], _ :: _ => ⟨fun _ => rfl, fun h => absurd h (by simp [depsCmp]), fun h _ => absurd h (by simp [depsCmp])⟩
  | [], _ :: _, [] => ⟨fun h => absurd h (by simp [depsCmp]), fun h => absurd h (by simp [depsCmp]), fun _ h => absurd h (by simp [depsCmp])⟩
  | [], _ :: _, _ :: _ => ⟨fun h => absurd h (by simp [depsCmp]), fun _ => rfl, fun _ _ => by simp [depsCmp]⟩
  | _ :: _, [], [] => ⟨fun h => absurd h (by simp [depsCmp]), fun _ => rfl, fun h _ => absurd h (by simp [depsCmp])⟩
  | _ :: _, [], _ :: _ => ⟨fun h => absurd h (by simp [depsCmp]), fun h => absurd h (by simp [depsCmp]), fun h _ => absurd h (by simp [depsCmp])⟩
  | _ :: _, _ :: _, [] => ⟨fun _ => rfl, fun h => absurd h (by simp [depsCmp]), fun _ h => absurd h (by simp [depsCmp])⟩
  | d :: r, e :: t, f :: u => by
    rw [depsCmp_cons, depsCmp_cons, depsCmp_cons]
    exact (dcmp_three d e f).lex (depsCmp_three r t u)

theorem wcmp_lex (k c s q v : Int) (de : Bool) (xs : List Dp) (k' c' s' q' v' : Int) (de' : Bool) (ys : List Dp) :
    wcmp k c s q v de xs k' c' s' q' v' de' ys = lexI (tcmp c s q c' s' q') (lexI (sgn k k') (lexI (sgn v v') (lexI (sgn (bit de) (bit de')) (depsCmp xs ys)))) := by
  unfold wcmp lexI
  simp only [ne_eq, sgn_zero (a := k), sgn_zero (a := v), bit_sgn]

theorem wcmp_three (k c s q v : Int) (de : Bool) (xs : List Dp) (k' c' s' q' v' : Int) (de' : Bool) (ys : List Dp) (k2 c2 s2 q2 v2 : Int) (de2 : Bool) (zs : List Dp) :
    T3 (wcmp k c s q v de xs k' c' s' q' v' de' ys) (wcmp k' c' s' q' v' de' ys k2 c2 s2 q2 v2 de2 zs) (wcmp k c s q v de xs k2 c2 s2 q2 v2 de2 zs) := by
  rw [wcmp_lex, wcmp_lex, wcmp_lex]
  exact (tcmp_three _ _ _ _ _ _ _ _ _).lex ((sgn_three _ _ _).lex ((sgn_three _ _ _).lex ((sgn_three _ _ _).lex (depsCmp_three _ _ _))))

theorem wcmp_neg (k c s q v : Int) (de : Bool) (xs : List Dp) (k' c' s' q' v' : Int) (de' : Bool) (ys : List Dp) :
    wcmp k' c' s' q' v' de' ys k c s q v de xs = -wcmp k c s q v de xs k' c' s' q' v' de' ys := by
  rw [wcmp_lex, wcmp_lex, ← lexI_neg, ← lexI_neg, ← lexI_neg, ← lexI_neg, tcmp_neg c s q, sgn_neg k k', sgn_neg v v', sgn_neg (bit de) (bit de'), depsCmp_neg xs ys]

theorem depsCmp_bd : ∀ xs ys : List Dp, -1 ≤ depsCmp xs ys ∧ depsCmp xs ys ≤ 1
  | [], [] => by simp [depsCmp]
  | [], _ :: _ => by simp [depsCmp]
  | _ :: _, [] => by simp [depsCmp]
  | d :: r, e :: t => by
    have h := depsCmp_bd r t
    have h1 := sgn_bd d.k e.k
    have h2 := tcmp_bd d.c d.s d.q e.c e.s e.q
    rw [depsCmp_cons, dcmp_lex]
    unfold lexI
    by_cases g1 : sgn d.k e.k = 0
    · by_cases g2 : tcmp d.c d.s d.q e.c e.s e.q = 0
      · simpa [g1, g2] using h
      · simpa [g1, g2] using h2
    · simpa [g1] using h1

theorem wcmp_bd (k c s q v : Int) (de : Bool) (xs : List Dp) (k' c' s' q' v' : Int) (de' : Bool) (ys : List Dp) : -1 ≤ wcmp k c s q v de xs k' c' s' q' v' de' ys ∧ wcmp k c s q v de xs k' c' s' q' v' de' ys ≤ 1 := by
  have h1 := tcmp_bd c s q c' s' q'
  have h2 := sgn_bd k k'
  have h3 := sgn_bd v v'
  have h4 := sgn_bd (bit de) (bit de')
  have h5 := depsCmp_bd xs ys
  unfold wcmp
  split
  · exact h1
  · split
    · exact h2
    · split
      · exact h3
      · split
        · exact h4
        · exact h5

end Go.Proofs.Ytfapebnilbdheab
