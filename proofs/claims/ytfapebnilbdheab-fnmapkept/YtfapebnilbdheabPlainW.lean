/- Plain facts on the order of writes: no Go in sight. -/
import Derived.Test.YtfapebnilbdheabDeps
namespace Go.Proofs.Ytfapebnilbdheab

def dcmp (d e : Dp) : Int := if d.k ≠ e.k then sgn d.k e.k else tcmp d.c d.s d.q e.c e.s e.q

def depsCmp : List Dp → List Dp → Int
  | [], [] => 0
  | [], _ :: _ => -1
  | _ :: _, [] => 1
  | d :: r, e :: t => if dcmp d e ≠ 0 then dcmp d e else depsCmp r t

def bit (b : Bool) : Int := if b then 1 else 0

def wcmp (k c s q v : Int) (de : Bool) (xs : List Dp) (k' c' s' q' v' : Int) (de' : Bool) (ys : List Dp) : Int :=
  if tcmp c s q c' s' q' ≠ 0 then tcmp c s q c' s' q' else if k ≠ k' then sgn k k' else if v ≠ v' then sgn v v' else if de ≠ de' then sgn (bit de) (bit de') else depsCmp xs ys

theorem dcmp_or (d e : Dp) : orI [sgn d.k e.k, tcmp d.c d.s d.q e.c e.s e.q] = dcmp d e := by
  unfold dcmp
  by_cases h : d.k = e.k
  · have hs : sgn e.k e.k = 0 := sgn_self _
    simp only [orI, h]
    by_cases ht : tcmp d.c d.s d.q e.c e.s e.q = 0
    · simp [ht, hs]
    · simp [ht, hs]
  · have hs : sgn d.k e.k ≠ 0 := fun e0 => h (sgn_zero.1 e0)
    simp [orI, hs, h]

theorem depsCmp_first : ∀ (xs ys : List Dp) (j : Nat), j < xs.length → j < ys.length → (∀ i, i < j → dcmp (xs.getD i dz) (ys.getD i dz) = 0) → dcmp (xs.getD j dz) (ys.getD j dz) ≠ 0 → depsCmp xs ys = dcmp (xs.getD j dz) (ys.getD j dz)
  | [], _, _, h, _, _, _ => by simp at h
  | _ :: _, [], _, _, h, _, _ => by simp at h
  | d :: r, e :: t, 0, _, _, _, hn => by
    have hn' : dcmp d e ≠ 0 := hn
    simp [depsCmp, hn']
  | d :: r, e :: t, j + 1, h1, h2, hz, hn => by
    have h0 : dcmp d e = 0 := hz 0 (by omega)
    have ih := depsCmp_first r t j (by simpa using h1) (by simpa using h2) (fun i hi => by simpa using hz (i + 1) (by omega)) (by simpa using hn)
    simp only [depsCmp, h0, ne_eq, not_true_eq_false, if_false]
    simpa using ih

theorem depsCmp_none : ∀ (xs ys : List Dp), (∀ i, i < xs.length → i < ys.length → dcmp (xs.getD i dz) (ys.getD i dz) = 0) → depsCmp xs ys = sgn xs.length ys.length
  | [], [], _ => by simp [depsCmp, sgn]
  | [], e :: t, _ => by
    simp only [depsCmp, sgn, List.length_nil, List.length_cons]
    rw [if_pos (by omega)]
  | d :: r, [], _ => by
    simp only [depsCmp, sgn, List.length_nil, List.length_cons]
    rw [if_neg (by omega), if_pos (by omega)]
  | d :: r, e :: t, h => by
    have h0 : dcmp d e = 0 := h 0 (by simp) (by simp)
    have ih := depsCmp_none r t (fun i h1 h2 => by simpa using h (i + 1) (by simpa using h1) (by simpa using h2))
    simp only [depsCmp, h0, ne_eq, not_true_eq_false, if_false, ih, List.length_cons]
    unfold sgn
    by_cases h1 : (r.length : Int) < t.length
    · rw [if_pos h1, if_pos (by omega)]
    · rw [if_neg h1]
      by_cases h2 : (t.length : Int) < r.length
      · rw [if_pos h2, if_neg (by omega), if_pos (by omega)]
      · rw [if_neg h2, if_neg (by omega), if_neg (by omega)]

theorem bit_sgn {a b : Bool} : sgn (bit a) (bit b) = 0 ↔ a = b := by
  rw [sgn_zero]
  cases a <;> cases b <;> simp [bit]

theorem wcmp_or (k c s q v : Int) (de : Bool) (xs : List Dp) (k' c' s' q' v' : Int) (de' : Bool) (ys : List Dp) :
    orI [tcmp c s q c' s' q', sgn k k', sgn v v', sgn (bit de) (bit de'), depsCmp xs ys] = wcmp k c s q v de xs k' c' s' q' v' de' ys := by
  simp only [orI, wcmp, ne_eq, sgn_zero (a := k), sgn_zero (a := v), bit_sgn]
  by_cases h : depsCmp xs ys = 0
  · simp [h]
  · simp [h]

theorem wcmp_tag {k c s q v : Int} {de : Bool} {xs : List Dp} {k' c' s' q' v' : Int} {de' : Bool} {ys : List Dp} (h : ¬ (c = c' ∧ s = s' ∧ q = q')) : wcmp k c s q v de xs k' c' s' q' v' de' ys = tcmp c s q c' s' q' := by
  unfold wcmp
  rw [if_pos]
  intro e
  exact h (tcmp_zero.1 e)

theorem wcmp_key {k c s q v : Int} {de : Bool} {xs : List Dp} {k' v' : Int} {de' : Bool} {ys : List Dp} (h : k ≠ k') : wcmp k c s q v de xs k' c s q v' de' ys = sgn k k' := by
  unfold wcmp
  rw [tcmp_self, if_neg (by simp), if_pos h]

theorem wcmp_val {k c s q v : Int} {de : Bool} {xs : List Dp} {v' : Int} {de' : Bool} {ys : List Dp} (h : v ≠ v') : wcmp k c s q v de xs k c s q v' de' ys = sgn v v' := by
  unfold wcmp
  rw [tcmp_self, if_neg (by simp), if_neg (by simp), if_pos h]

theorem wcmp_dead {k c s q v : Int} {de : Bool} {xs : List Dp} {de' : Bool} {ys : List Dp} (h : de ≠ de') : wcmp k c s q v de xs k c s q v de' ys = sgn (bit de) (bit de') := by
  unfold wcmp
  rw [tcmp_self, if_neg (by simp), if_neg (by simp), if_neg (by simp), if_pos h]

theorem wcmp_deps {k c s q v : Int} {de : Bool} {xs ys : List Dp} : wcmp k c s q v de xs k c s q v de ys = depsCmp xs ys := by
  unfold wcmp
  rw [tcmp_self, if_neg (by simp), if_neg (by simp), if_neg (by simp), if_neg (by simp)]

end Go.Proofs.Ytfapebnilbdheab
