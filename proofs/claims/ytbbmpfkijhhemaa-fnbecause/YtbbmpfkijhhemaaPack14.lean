import Derived.Test.YtbbmpfkijhhemaaPack13
import Derived.Test.YtbbmpfkijhhemaaPack12
import Derived.Test.YtbbmpfkijhhemaaPack1
import Derived.Test.YtbbmpfkijhhemaaPack11
/- Causes: that they are right, covered by a cut, and fewer with fewer keys. No Go in sight. -/
namespace Go.Proofs.Ytbbmpfkijhhemaa
open Go.RowKit

/-- What holds of all that is put holds of all that is there. -/
def InvT (S : Dp → Prop) (ts : List Tg) : Prop := ∀ j, j < ts.length → isZ (ts.getD j tgz) = true ∨ S ⟨(j : Int), (ts.getD j tgz).c, (ts.getD j tgz).s, (ts.getD j tgz).q⟩

theorem inv_put {S : Dp → Prop} {ts : List Tg} (h : InvT S ts) {d : Dp} (hd : S d) (h0 : 0 ≤ d.k) : InvT S (putC ts d) := by
  intro j hj
  rw [putC_len] at hj
  unfold putC
  split
  · by_cases e : j = d.k.toNat
    · have hg : (ts.set d.k.toNat ⟨d.c, d.s, d.q⟩).getD j tgz = ⟨d.c, d.s, d.q⟩ := by
        subst e
        simp [List.getD, hj]
      rw [hg]
      right
      have ek : (j : Int) = d.k := by omega
      simp only
      rw [ek]
      exact hd
    · have hg : (ts.set d.k.toNat ⟨d.c, d.s, d.q⟩).getD j tgz = ts.getD j tgz := by
        simp [List.getD, Ne.symm e]
      rw [hg]
      exact h j hj
  · exact h j hj

theorem inv_puts {S : Dp → Prop} : ∀ (xs : List Dp) {ts : List Tg}, InvT S ts → (∀ d ∈ xs, S d ∧ 0 ≤ d.k) → InvT S (xs.foldl putC ts)
  | [], _, h, _ => h
  | d :: r, ts, h, hs => inv_puts r (inv_put h (hs d (by simp)).1 (hs d (by simp)).2) fun x hx => hs x (by simp [hx])

theorem inv_cau {S : Dp → Prop} (mask : Int) : ∀ (ws : List Wr) {ts : List Tg}, InvT S ts → (∀ x ∈ ws, (S (headD x) ∧ 0 ≤ x.k) ∧ ∀ d ∈ x.xs, S d ∧ 0 ≤ d.k) → InvT S (ws.foldl (cauRun mask) ts)
  | [], _, h, _ => h
  | x :: r, ts, h, hs => by
    have hx := hs x (by simp)
    have h2 : InvT S (cauRun mask ts x) := by
      unfold cauRun
      split
      · exact inv_puts x.xs (inv_put h hx.1.1 hx.1.2) hx.2
      · exact h
    exact inv_cau mask r h2 fun y hy => hs y (by simp [hy])

theorem inv_cz (S : Dp → Prop) : InvT S cz := fun j hj => by
  left
  match j, hj with
  | 0, _ => rfl
  | 1, _ => rfl
  | 2, _ => rfl
  | 3, _ => rfl
  | 4, _ => rfl
  | 5, _ => rfl
  | j + 6, h => exact absurd h (by simp [cz])

theorem tell_mem : ∀ (ts : List Tg) (i : Nat) (d : Dp), d ∈ tellAt i ts → ∃ j, j < ts.length ∧ isZ (ts.getD j tgz) = false ∧ d = ⟨((i + j : Nat) : Int), (ts.getD j tgz).c, (ts.getD j tgz).s, (ts.getD j tgz).q⟩
  | [], i, d, h => by simp [tellAt] at h
  | t :: r, i, d, h => by
    unfold tellAt at h
    rcases List.mem_append.1 h with h | h
    · split at h
      · simp at h
      · rename_i hz
        refine ⟨0, by simp, by simpa using hz, ?_⟩
        simpa using h
    · obtain ⟨j, h1, h2, h3⟩ := tell_mem r (i + 1) d h
      refine ⟨j + 1, by simpa using h1, by simpa using h2, ?_⟩
      rw [h3, show i + 1 + j = i + (j + 1) by omega]
      simp

theorem mem_tell : ∀ (ts : List Tg) (i j : Nat), j < ts.length → isZ (ts.getD j tgz) = false → (⟨((i + j : Nat) : Int), (ts.getD j tgz).c, (ts.getD j tgz).s, (ts.getD j tgz).q⟩ : Dp) ∈ tellAt i ts
  | [], i, j, h, _ => by simp at h
  | t :: r, i, 0, _, hz => by
    unfold tellAt
    have hz' : isZ t = false := by simpa using hz
    rw [if_neg (by simp [hz'])]
    simp
  | t :: r, i, j + 1, h, hz => by
    have := mem_tell r (i + 1) j (by simpa using h) (by simpa using hz)
    unfold tellAt
    refine List.mem_append_right _ ?_
    rw [show i + (j + 1) = i + 1 + j by omega]
    simpa using this

theorem becL_all {S : Dp → Prop} {ws : List Wr} (hok : mapOkB ws = true) (hs : ∀ x ∈ ws, S (headD x) ∧ ∀ d ∈ x.xs, S d) (mask : Int) : ∀ d ∈ becL ws mask, S d := by
  intro d hd
  rw [← cau_tell hok] at hd
  obtain ⟨j, h1, h2, h3⟩ := tell_mem _ 0 d hd
  have hi : InvT S (cauL ws mask) := inv_cau mask ws (inv_cz S) fun x hx => by
    have ho := ((mapOk_iff ws).1 hok).1 x hx
    obtain ⟨hk, _, hdp⟩ := okW_parts ho
    exact ⟨⟨(hs x hx).1, hk.1⟩, fun d hd' => ⟨(hs x hx).2 d hd', (depsOk_each hdp hd').1.1⟩⟩
  rcases hi j h1 with h4 | h4
  · rw [h4] at h2
    exact absurd h2 (by simp)
  · rw [h3]
    simpa using h4

theorem depsOk_rise {xs : List Dp} (hr : RiseD xs) (hd : ∀ d ∈ xs, (0 ≤ d.k ∧ d.k ≤ 5) ∧ tagOkB d.c d.s d.q = true) : depsOkB xs = true := by
  refine depsOk_true fun i hi => ?_
  have hm : xs.getD i dz ∈ xs := by simp [List.getD, hi]
  have h1 := hd _ hm
  unfold depGood
  have hb : btw (xs.getD i dz).k 0 5 = true := by
    generalize xs.getD i dz = d at *
    unfold btw
    simp
    omega
  rw [hb, h1.2]
  simp only [Bool.true_and, decide_eq_true_eq]
  cases i with
  | zero => exact .inl rfl
  | succ i =>
    right
    have hi' : i < xs.length := by omega
    have := List.pairwise_iff_getElem.1 hr i (i + 1) hi' hi (by omega)
    simpa [List.getD, hi, hi'] using this

theorem becL_ok {ws : List Wr} (hok : mapOkB ws = true) (mask : Int) : depsOkB (becL ws mask) = true := by
  refine depsOk_rise ?_ ?_
  · rw [← cau_tell hok]
    exact tellAt_rise _ 0
  · exact becL_all (S := fun d => (0 ≤ d.k ∧ d.k ≤ 5) ∧ tagOkB d.c d.s d.q = true) hok (fun x hx => by
      obtain ⟨hk, ht, hd⟩ := okW_parts (((mapOk_iff ws).1 hok).1 x hx)
      exact ⟨⟨hk, ht⟩, fun d hd' => depsOk_each hd hd'⟩) mask

theorem covB_iff (ws : List Wr) (ds : List Dp) : covB ws ds = true ↔ ∀ d ∈ ds, hasB ws d.k d.c d.s d.q = true := by
  unfold covB lacksL
  rw [beq_iff_eq, List.length_eq_zero_iff, List.filter_eq_nil_iff]
  constructor
  · intro h d hd
    have := h d hd
    unfold lacking at this
    simpa using this
  · intro h d hd
    unfold lacking
    rw [h d hd]
    simp

theorem becL_cov {ws : List Wr} (hc : cutB ws = true) (mask : Int) : covB ws (becL ws mask) = true := by
  obtain ⟨hok, hcov⟩ := cut_parts hc
  have hr := ((mapOk_iff ws).1 hok).2
  rw [covB_iff]
  refine becL_all (S := fun d => hasB ws d.k d.c d.s d.q = true) hok (fun x hx => ⟨?_, fun d hd => (covB_iff ws x.xs).1 (hcov x hx) d hd⟩) mask
  have hf : findW ws x.k = some x := by
    unfold findW
    rw [List.find?_eq_some_iff_getElem]
    obtain ⟨i, hi, rfl⟩ := List.mem_iff_getElem.1 hx
    refine ⟨by simp, i, hi, rfl, fun j hj => ?_⟩
    have := List.pairwise_iff_getElem.1 hr j i (by omega) hi hj
    simp
    omega
  show hasB ws x.k x.c x.s x.q = true
  unfold hasB
  rw [hf]
  have := (tcmp_three x.c x.s x.q x.c x.s x.q x.c x.s x.q)
  have hz := tcmp_neg x.c x.s x.q x.c x.s x.q
  simp
  omega

/-- Place by place no later. -/
def LeT (ts us : List Tg) : Prop := ts.length = us.length ∧ ∀ j, j < ts.length → tcmp (ts.getD j tgz).c (ts.getD j tgz).s (ts.getD j tgz).q (us.getD j tgz).c (us.getD j tgz).s (us.getD j tgz).q ≤ 0

theorem putC_at (ts : List Tg) (d : Dp) (j : Nat) (hj : j < ts.length) (h0 : 0 ≤ d.k) : (putC ts d).getD j tgz = if (j : Int) = d.k ∧ 0 < tcmp d.c d.s d.q (ts.getD j tgz).c (ts.getD j tgz).s (ts.getD j tgz).q then ⟨d.c, d.s, d.q⟩ else ts.getD j tgz := by
  unfold putC
  by_cases e : (j : Int) = d.k
  · have e2 : d.k.toNat = j := by omega
    rw [e2]
    by_cases h : 0 < tcmp d.c d.s d.q (ts.getD j tgz).c (ts.getD j tgz).s (ts.getD j tgz).q
    · rw [if_pos h, if_pos ⟨e, h⟩]
      simp [List.getD, hj]
    · rw [if_neg h, if_neg (fun hh => h hh.2)]
  · have hne : d.k.toNat ≠ j := by omega
    have hr : (if (j : Int) = d.k ∧ 0 < tcmp d.c d.s d.q (ts.getD j tgz).c (ts.getD j tgz).s (ts.getD j tgz).q then (⟨d.c, d.s, d.q⟩ : Tg) else ts.getD j tgz) = ts.getD j tgz := if_neg (fun hh => e hh.1)
    rw [hr]
    clear hr
    split
    · simp [List.getD, hne]
    · rfl

theorem le_trans3 {a1 a2 a3 b1 b2 b3 c1 c2 c3 : Int} (h1 : tcmp a1 a2 a3 b1 b2 b3 ≤ 0) (h2 : tcmp b1 b2 b3 c1 c2 c3 ≤ 0) : tcmp a1 a2 a3 c1 c2 c3 ≤ 0 := by
  have := (tcmp_three a1 a2 a3 b1 b2 b3 c1 c2 c3).on h1 h2
  omega

theorem le_up {ts us : List Tg} (h : LeT ts us) (d : Dp) (h0 : 0 ≤ d.k) : LeT ts (putC us d) := by
  refine ⟨by rw [putC_len]; exact h.1, fun j hj => ?_⟩
  rw [putC_at us d j (by rw [← h.1]; exact hj) h0]
  split
  · rename_i hc
    have h1 := h.2 j hj
    have h2 := tcmp_neg d.c d.s d.q (us.getD j tgz).c (us.getD j tgz).s (us.getD j tgz).q
    exact le_trans3 h1 (by simp only; omega)
  · exact h.2 j hj

theorem le_both {ts us : List Tg} (h : LeT ts us) (d : Dp) (h0 : 0 ≤ d.k) : LeT (putC ts d) (putC us d) := by
  refine ⟨by rw [putC_len, putC_len]; exact h.1, fun j hj => ?_⟩
  rw [putC_len] at hj
  rw [putC_at ts d j hj h0, putC_at us d j (by rw [← h.1]; exact hj) h0]
  have h1 := h.2 j hj
  have hself := tcmp_neg d.c d.s d.q d.c d.s d.q
  have h2 := tcmp_neg d.c d.s d.q (us.getD j tgz).c (us.getD j tgz).s (us.getD j tgz).q
  by_cases e : (j : Int) = d.k
  · by_cases ht : 0 < tcmp d.c d.s d.q (ts.getD j tgz).c (ts.getD j tgz).s (ts.getD j tgz).q
    · rw [if_pos ⟨e, ht⟩]
      split
      · simp only
        omega
      · rename_i hu
        have : ¬ 0 < tcmp d.c d.s d.q (us.getD j tgz).c (us.getD j tgz).s (us.getD j tgz).q := fun hh => hu ⟨e, hh⟩
        simp only
        omega
    · rw [if_neg (fun hh => ht hh.2)]
      split
      · exact le_trans3 h1 (by simp only; omega)
      · exact h1
  · rw [if_neg (fun hh => e hh.1), if_neg (fun hh => e hh.1)]
    exact h1

theorem le_puts : ∀ (xs : List Dp) {ts us : List Tg}, LeT ts us → (∀ d ∈ xs, 0 ≤ d.k) → LeT (xs.foldl putC ts) (xs.foldl putC us)
  | [], _, _, h, _ => h
  | d :: r, _, _, h, hs => le_puts r (le_both h d (hs d (by simp))) fun x hx => hs x (by simp [hx])

theorem le_ups : ∀ (xs : List Dp) {ts us : List Tg}, LeT ts us → (∀ d ∈ xs, 0 ≤ d.k) → LeT ts (xs.foldl putC us)
  | [], _, _, h, _ => h
  | d :: r, _, _, h, hs => le_ups r (le_up h d (hs d (by simp))) fun x hx => hs x (by simp [hx])

theorem le_cau {m1 m2 : Int} : ∀ (ws : List Wr) {ts us : List Tg}, LeT ts us → (∀ x ∈ ws, okW x = true) → (∀ x ∈ ws, bitB m1 x.k = true → bitB m2 x.k = true) → LeT (ws.foldl (cauRun m1) ts) (ws.foldl (cauRun m2) us)
  | [], _, _, h, _, _ => h
  | x :: r, ts, us, h, hs, hb => by
    obtain ⟨hk, _, hd⟩ := okW_parts (hs x (by simp))
    have hxs : ∀ d ∈ x.xs, 0 ≤ d.k := fun d hd' => (depsOk_each hd hd').1.1
    have h2 : LeT (cauRun m1 ts x) (cauRun m2 us x) := by
      unfold cauRun
      by_cases h1 : bitB m1 x.k = true
      · rw [if_pos h1, if_pos (hb x (by simp) h1)]
        exact le_puts x.xs (le_both h (headD x) hk.1) hxs
      · rw [if_neg h1]
        split
        · exact le_ups x.xs (le_up h (headD x) hk.1) hxs
        · exact h
    exact le_cau r h2 (fun y hy => hs y (by simp [hy])) fun y hy => hb y (by simp [hy])

theorem le_len : ∀ (ts us : List Tg) (i : Nat), ts.length = us.length → (∀ j, j < ts.length → isZ (ts.getD j tgz) = false → isZ (us.getD j tgz) = false) → (tellAt i ts).length ≤ (tellAt i us).length
  | [], [], _, _, _ => by simp
  | [], u :: s, _, h, _ => by simp at h
  | t :: r, [], _, h, _ => by simp at h
  | t :: r, u :: s, i, h, hz => by
    have ih := le_len r s (i + 1) (by simpa using h) fun j hj h1 => by
      have := hz (j + 1) (by simpa using hj) (by simpa using h1)
      simpa using this
    have h0 := hz 0 (by simp)
    simp at h0
    unfold tellAt
    cases h1 : isZ t
    · rw [h0 h1]
      simp
      exact ih
    · cases isZ u <;> simp <;> omega

theorem fewer {ws : List Wr} (hok : mapOkB ws = true) {m1 m2 : Int} (hb : ∀ k : Nat, k ≤ 5 → bitB m1 (k : Int) = true → bitB m2 (k : Int) = true) :
    (becL ws m1).length ≤ (becL ws m2).length ∧ ∀ e ∈ becL ws m1, ∃ d ∈ becL ws m2, d.k = e.k ∧ 0 ≤ tcmp d.c d.s d.q e.c e.s e.q := by
  have hall := ((mapOk_iff ws).1 hok).1
  have hle : LeT (cauL ws m1) (cauL ws m2) := le_cau ws (ts := cz) (us := cz) ⟨rfl, fun j _ => by have := tcmp_neg (cz.getD j tgz).c (cz.getD j tgz).s (cz.getD j tgz).q (cz.getD j tgz).c (cz.getD j tgz).s (cz.getD j tgz).q; omega⟩ hall fun x hx h => by
    have hk := okW_key (hall x hx)
    have e : x.k = ((x.k.toNat : Nat) : Int) := by omega
    rw [e] at h ⊢
    exact hb _ (by omega) h
  have hc : InvT (fun d => 1 ≤ d.c) (cauL ws m1) := inv_cau m1 ws (inv_cz _) fun x hx => by
    obtain ⟨hk, ht, hd⟩ := okW_parts (hall x hx)
    exact ⟨⟨tagOk_c ht, hk.1⟩, fun d hd' => ⟨tagOk_c (depsOk_each hd hd').2, (depsOk_each hd hd').1.1⟩⟩
  have hnz : ∀ j, j < (cauL ws m1).length → isZ ((cauL ws m1).getD j tgz) = false → isZ ((cauL ws m2).getD j tgz) = false := fun j hj h1 => by
    have h2 := hle.2 j hj
    rcases hc j hj with h3 | h3
    · rw [h3] at h1
      exact absurd h1 (by simp)
    · simp only at h3
      cases h4 : isZ ((cauL ws m2).getD j tgz)
      · rfl
      · exfalso
        generalize (cauL ws m1).getD j tgz = t at *
        generalize (cauL ws m2).getD j tgz = u at *
        obtain ⟨uc, us, uq⟩ := u
        simp [isZ] at h4
        obtain ⟨rfl, rfl, rfl⟩ := h4
        have h5 : sgn t.c 0 = 1 := by
          unfold sgn
          rw [if_neg (by omega), if_pos (by omega)]
        rw [tcmp_lex, h5] at h2
        unfold lexI at h2
        rw [if_pos (by decide)] at h2
        omega
  constructor
  · rw [← cau_tell hok, ← cau_tell hok]
    exact le_len _ _ 0 hle.1 hnz
  · intro e he
    rw [← cau_tell hok] at he ⊢
    obtain ⟨j, h1, h2, h3⟩ := tell_mem _ 0 e he
    refine ⟨_, mem_tell _ 0 j (by rw [← hle.1]; exact h1) (hnz j h1 h2), by rw [h3], ?_⟩
    have h4 := hle.2 j h1
    have h5 := tcmp_neg ((cauL ws m1).getD j tgz).c ((cauL ws m1).getD j tgz).s ((cauL ws m1).getD j tgz).q ((cauL ws m2).getD j tgz).c ((cauL ws m2).getD j tgz).s ((cauL ws m2).getD j tgz).q
    rw [h3]
    simp only
    omega

/-- A mask with fewer keys. -/
theorem and21 {mask : Int} (h0 : 0 ≤ mask) (h1 : mask ≤ 9223372036854775807) : ∃ m : Nat, bits .and .i64 mask 21 = (m : Int) ∧ m ≤ 21 ∧ ∀ k : Nat, bitB (m : Int) (k : Int) = true → bitB mask (k : Int) = true := by
  obtain ⟨a, rfl⟩ := Int.eq_ofNat_of_zero_le h0
  have hle : a &&& 21 ≤ 21 := Nat.and_le_right
  refine ⟨a &&& 21, ?_, hle, fun k hk => ?_⟩
  · show IntKind.i64.wrap ((BitVec.ofInt 64 ((a : Nat) : Int) &&& BitVec.ofInt 64 (21 : Int)).toNat : Int) = _
    have e1 : (BitVec.ofInt 64 ((a : Nat) : Int)).toNat = a := by
      rw [BitVec.toNat_ofInt]
      omega
    have e2 : (BitVec.ofInt 64 (21 : Int)).toNat = 21 := by decide
    rw [BitVec.toNat_and, e1, e2, IntKind.wrap_i64]
    omega
  · unfold bitB at hk ⊢
    rw [decide_eq_true_iff] at hk ⊢
    have e : ∀ n : Nat, ((n : Int) / 2 ^ ((k : Int)).toNat % 2 = 1) ↔ n.testBit k = true := fun n => by
      rw [Nat.testBit_eq_decide_div_mod_eq, decide_eq_true_iff]
      have h2 : ((2 : Int) ^ ((k : Int)).toNat) = ((2 ^ k : Nat) : Int) := by simp
      rw [h2]
      omega
    rw [e] at hk ⊢
    rw [Nat.testBit_and] at hk
    simp at hk
    exact hk.1

end Go.Proofs.Ytbbmpfkijhhemaa

/- The contracts of the cursor's mask and of the draw of a map and a mask. -/
namespace Go.Proofs.Ytbbmpfkijhhemaa
open Go.ChangeShapes Go.WideShapes Go.ChangeAt Go.RowKit Go.Joins
attribute [local go_sem ↓] Go.wp_at_zero Go.wp_at_succ

theorem raw_list : ∀ i, i < 8 → List.getD [9223372036854775807, -9223372036854775808, 4611686018427387904, 1000, 1001, -1000, 100000, 100001] i (0 : Int) ≤ 9223372036854775807
  | 0, _ => by decide
  | 1, _ => by decide
  | 2, _ => by decide
  | 3, _ => by decide
  | 4, _ => by decide
  | 5, _ => by decide
  | 6, _ => by decide
  | 7, _ => by decide
  | i + 8, h => absurd h (by omega)

set_option maxRecDepth 100000 in
set_option maxHeartbeats 1000000 in
theorem raw_bd (B : Nat) (a : Option Addr) (len cap : Nat) (N : Int) (w : World) (hN : N ≤ 100000) (h : Cur w B a len cap N) :
    Calls Try.prog 46 #[.pointer (some ⟨B, 0, none⟩)] w fun e w' => ∃ r : Int, e = .returned (.int .i64 r) ∧ r ≤ 9223372036854775807 ∧ Cur w' B a len cap (N + 2) ∧ Hole B w w' := by
  have HC : Hid (Cur w B a len cap N) := h
  clear h
  go_enter Try.func46, Try.ntmps46
  go_wp2_with fail
  refine (pick_any B a len cap N 8 _ (by omega) (by omega) (by omega) HC.out).mono ?_
  rintro e w1 ⟨r, rfl, r0, r1, hc1, hh1⟩
  have HC1 : Hid (Cur w1 B a len cap (N + 1)) := hc1
  have HH1 : Hid (Hole B w w1) := hh1
  clear hc1 hh1
  by_cases k0 : r = 0
  · subst k0
    go_wp2_with fail
    refine (pick_any B a len cap (N + 1) 256 _ (by omega) (by omega) (by omega) HC1.out).mono ?_
    rintro e w2 ⟨r2, rfl, q0, q1, hc2, hh2⟩
    have HC2 : Hid (Cur w2 B a len cap (N + 2)) := hc2.more (by omega)
    have HH2 : Hid (Hole B w w2) := HH1.out.trans hh2
    clear hc2 hh2
    go_wp2
    go_ret
    exact ⟨r2 - 128, rfl, by omega, HC2.out, HH2.out⟩
  · by_cases k1 : r = 1
    · subst k1
      go_wp2_with fail
      have HA : Hid (Below w1.heap.size w1 (w1.alloc (.cells ((([9223372036854775807, -9223372036854775808, 4611686018427387904, 1000, 1001, -1000, 100000, 100001] : List Int).map (Value.int .i64)).toArray) 3))) := (Below.refl _ _).alloc (Nat.le_refl _) _
      refine (pick_any B a len cap (N + 1) 8 _ (by omega) (by omega) (by omega) (HC1.out.below HA.out)).mono ?_
      rintro e w2 ⟨r2, rfl, q0, q1, hc2, hh2⟩
      have HC2 : Hid (Cur w2 B a len cap (N + 2)) := hc2.more (by omega)
      have HH2 : Hid (Hole B w w2) := (HH1.out.trans (Hole.of_below HA.out)).trans hh2
      have hcell : w2.cell? ⟨w1.heap.size, r2.toNat, none⟩ = some (.int .i64 _) := (hh2.cell (by simp) (by have := HC1.out.lt; omega)).trans (ints_cell w1 [9223372036854775807, -9223372036854775808, 4611686018427387904, 1000, 1001, -1000, 100000, 100001] _ r2.toNat (by simp; omega))
      have hbd := raw_list r2.toNat (by omega)
      generalize List.getD [9223372036854775807, -9223372036854775808, 4611686018427387904, 1000, 1001, -1000, 100000, 100001] r2.toNat 0 = v at hcell hbd
      clear hc2 hh2 HA
      go_wp2
      go_ret
      exact ⟨_, rfl, hbd, HC2.out, HH2.out⟩
    · have k0' : (r == 0) = false := by simp [k0]
      have k1' : (r == 1) = false := by simp [k1]
      clear k0 k1
      go_wp2_with fail
      refine (pick_any B a len cap (N + 1) 14 _ (by omega) (by omega) (by omega) HC1.out).mono ?_
      rintro e w2 ⟨r2, rfl, q0, q1, hc2, hh2⟩
      have HC2 : Hid (Cur w2 B a len cap (N + 2)) := hc2.more (by omega)
      have HH2 : Hid (Hole B w w2) := HH1.out.trans hh2
      clear hc2 hh2
      go_wp2
      go_ret
      exact ⟨r2 - 3, rfl, by omega, HC2.out, HH2.out⟩

theorem mask_list (p q r : Int) (hp : p < 64) (hq : q < 64) (hr : r ≤ 9223372036854775807) : ∀ i, i < 5 → List.getD [p, q, 0, 63, r] i (0 : Int) ≤ 9223372036854775807
  | 0, _ => by simp; omega
  | 1, _ => by simp; omega
  | 2, _ => by simp
  | 3, _ => by simp
  | 4, _ => by simp; omega
  | i + 5, h => absurd h (by omega)

set_option maxRecDepth 100000 in
set_option maxHeartbeats 2000000 in
theorem mask_any (B : Nat) (a : Option Addr) (len cap : Nat) (N : Int) (w : World) (hN : N ≤ 10000) (h : Cur w B a len cap N) :
    Calls Try.prog 25 #[.pointer (some ⟨B, 0, none⟩)] w fun e w' => ∃ r : Int, e = .returned (.int .i64 r) ∧ r ≤ 9223372036854775807 ∧ Cur w' B a len cap (N + 5) ∧ Hole B w w' := by
  have HC : Hid (Cur w B a len cap N) := h
  clear h
  go_enter Try.func25, Try.ntmps25
  go_wp2_with fail
  refine (pick_any B a len cap N 64 _ (by omega) (by omega) (by omega) HC.out).mono ?_
  rintro e w1 ⟨p, rfl, p0, p1, hc1, hh1⟩
  have HC1 := Lib.hid hc1
  have HH1 := Lib.hid hh1
  clear hc1 hh1 HC
  go_wp2_with fail
  refine (pick_any B a len cap (N + 1) 64 _ (by omega) (by omega) (by omega) HC1.out).mono ?_
  rintro e w2 ⟨q, rfl, q0, q1, hc2, hh2⟩
  have HC2 := Lib.hid hc2
  have HH2 := Lib.hid (HH1.out.trans hh2)
  clear hc2 hh2 HC1 HH1
  go_wp2_with fail
  refine (raw_bd B a len cap (N + 1 + 1) _ (by omega) HC2.out).mono ?_
  rintro e w3 ⟨r, rfl, r1, hc3, hh3⟩
  have HC3 := Lib.hid hc3
  have HH3 := Lib.hid (HH2.out.trans hh3)
  clear hc3 hh3 HC2 HH2
  have HA : Hid (Below w3.heap.size w3 (w3.alloc (.cells ((([p, q, 0, 63, r] : List Int).map (Value.int .i64)).toArray) 3))) := (Below.refl _ _).alloc (Nat.le_refl _) _
  have hz : (w3.alloc (.cells ((([p, q, 0, 63, r] : List Int).map (Value.int .i64)).toArray) 3)).heap.size = w3.heap.size + 1 := by simp
  go_wp2_with fail
  refine (pick_any B a len cap (N + 1 + 1 + 2) 5 _ (by omega) (by omega) (by omega) (HC3.out.below HA.out)).mono ?_
  rintro e w4 ⟨i, rfl, i0, i1, hc4, hh4⟩
  have HC4 : Hid (Cur w4 B a len cap (N + 5)) := hc4.more (by omega)
  have HH4 : Hid (Hole B w w4) := (HH3.out.trans (Hole.of_below HA.out)).trans hh4
  have hcell : w4.cell? ⟨w3.heap.size, i.toNat, none⟩ = some (.int .i64 _) := (hh4.cell (by simp) (by have := HC3.out.lt; omega)).trans (ints_cell w3 [p, q, 0, 63, r] _ i.toNat (by simp; omega))
  have hbd := mask_list p q r p1 q1 r1 i.toNat (by omega)
  generalize List.getD [p, q, 0, 63, r] i.toNat 0 = v at hcell hbd
  clear hc4 hh4 HA
  go_wp2
  go_ret
  exact ⟨_, rfl, hbd, HC4.out, HH4.out⟩

set_option maxRecDepth 100000 in
set_option maxHeartbeats 4000000 in
theorem drawBec_any (a : Option Addr) (len cap : Nat) (w : World) (h : Bytes w a len) (hl : len ≤ 1048576) :
    Calls Try.prog 6 #[.slice a len cap] w fun e w' => ∃ v1 es1 mask, e = .returned (.tuple #[v1, .int .i64 mask]) ∧ DrawnM w' w.heap.size v1 es1 ∧ mask ≤ 9223372036854775807 ∧ Below w.heap.size w w' := by
  have HO := Lib.hid (open_any a len cap w h hl)
  clear h
  go_enter Try.func6, Try.ntmps6
  go_wp2_with fail
  refine HO.out.mono ?_
  rintro e w1 ⟨rfl, hc1, hb1⟩
  have HC1 := Lib.hid hc1
  have HB1 := Lib.hid hb1
  have hlt1 := hc1.lt
  clear hc1 hb1 HO
  go_wp2_with fail
  refine (story_any w.heap.size a len cap 0 _ (by omega) HC1.out).mono ?_
  rintro e w2 ⟨v, es, rfl, hl1, hl2, hf, hr, hc2, hh2⟩
  obtain ⟨ag, cg, hv, -⟩ := hr.form
  subst hv
  have HF := Lib.hid hf
  have HR2 := Lib.hid hr
  have HC2 := Lib.hid hc2
  have HH2 := Lib.hid hh2
  clear hf hr hc2 hh2 HC1
  go_wp2_with fail
  refine (amap_any w.heap.size a len cap _ _ es.length cg w1.heap.size es _ (by omega) HC2.out HR2.out hlt1 rfl hl1 HF.out).mono ?_
  rintro e w3 ⟨g3, cp3, es3, L3, rfl, rfl, hL3, hf3, hr3, hc3, hh3⟩
  have HF3 := Lib.hid hf3
  have HR3 := Lib.hid hr3
  have HC3 := Lib.hid hc3
  have HH3 := Lib.hid (HH2.out.trans hh3)
  have hs3 : w2.heap.size ≤ w3.heap.size := hh3.size
  have hs2 : w1.heap.size ≤ w2.heap.size := HH2.out.size
  clear hf3 hr3 hc3 hh3 HC2 HR2 HH2
  go_wp2_with fail
  refine (mask_any w.heap.size a len cap _ _ (by omega) HC3.out).mono ?_
  rintro e w4 ⟨mk, rfl, hmk, -, hh4⟩
  have HH4 := Lib.hid (HH3.out.trans hh4)
  have HR4 := Lib.hid (HR3.out.hole hh4 (by omega))
  clear hh4 HC3
  have HB4 : Hid (Below w.heap.size w w4) := Hole.below HB1.out HH4.out (Nat.le_refl _) HB1.out.size
  have HR5 := Lib.hid (HR4.out.mono (base' := w.heap.size) (by omega))
  go_wp2
  exact bodyPost_ret (v := .tuple #[.slice (some ⟨g3, 0, none⟩) es3.length cp3, .int .i64 mk]) (by simp [results, Try.results6, go_sem]) rfl ⟨_, es3, mk, rfl, ⟨g3, cp3, rfl, by omega, HF3.out, HR5.out⟩, hmk, HB4.out⟩

end Go.Proofs.Ytbbmpfkijhhemaa

/- The laws' own big; a row's bytes, opened. -/
namespace Go.Proofs.Ytbbmpfkijhhemaa
open Go.ChangeShapes Go.WideShapes Go.ChangeAt Go.RowKit Go.Joins

namespace lawBytes

set_option maxRecDepth 100000 in
theorem big_is (a : Option Addr) (len cap : Nat) (r : Bool) (h : decide (1048576 < len) = r) (hm : len ≤ maxLen) (w : World) :
    Calls Try.prog 5 #[.slice a len cap] w fun e w' => e = .returned (.bool r) ∧ w' = w := by
  unfold maxLen at hm
  cases r
  · have h' : len ≤ 1048576 := by simpa using h
    clear h
    go_enter Try.func5, Try.ntmps5
    go_wp2
    go_ret
    exact ⟨by simp; omega, rfl⟩
  · have h' : 1048576 < len := by simpa using h
    clear h
    go_enter Try.func5, Try.ntmps5
    go_wp2
    go_ret
    exact ⟨by simp; omega, rfl⟩

set_option maxRecDepth 100000 in
theorem open_bytes {H : Type} {enc : TypeId × Value → H} {w : World} {base b0 : Nat} {held : Bool} {r : Go.Reach} {v : Value} {d : DataW H} {p : List MemPlace} (hv : Value.okWide Try.prog w r b0 22 v) (h : DataW.Trod enc Try.prog w base (fun _ => true) held 22 v d p) :
    ∃ (a : Option Addr) (len cap : Nat), v = .slice a len cap ∧ (len ≤ maxLen ∧ Bytes w a len) := by
  obtain ⟨a, len, cap, rfl⟩ := okWide_slice Try.underlying22 hv
  obtain ⟨fuel, hf⟩ := h
  refine ⟨a, len, cap, rfl, ?_⟩
  rcases open_ints Try.underlying22 Try.underlying5 (by kernel_rfl) hf with ⟨hcs, _⟩ | ⟨x, l, c, zs, hcs, _, hl, hm, hz, _, hcell, hwz⟩
  · simp [Value.cells] at hcs
    obtain ⟨rfl, rfl, rfl⟩ := hcs
    exact ⟨Nat.zero_le _, .inl rfl⟩
  · simp [Value.cells] at hcs
    obtain ⟨rfl, rfl, rfl⟩ := hcs
    refine ⟨by omega, ?_⟩
    by_cases h0 : len = 0
    · exact .inl h0
    · have hzl : zs.length = cap := by simpa using hz
      have hx : x = ⟨x.block, x.off, none⟩ := by
        have h1 := hcell 0 (by omega)
        simp [Addr.add] at h1
        cases x with
        | mk b o s =>
          cases s with
          | none => rfl
          | some s =>
            simp only [World.cell?] at h1
            split at h1 <;> simp at h1
      refine .inr ⟨x.block, x.off, by rw [← hx], ?_, fun i hi => ?_⟩
      · have h1 := hcell 0 (by omega)
        have := World.block_lt_of_cell? w _ h1
        simpa [Addr.add] using this
      · have h1 := hcell i (by omega)
        have hw : (Lit.int .u8 (zs.getD i 0)).wf = true := hwz _ (by rw [List.getD_eq_getElem?_getD, List.getElem?_eq_getElem (by omega)]; exact List.getElem_mem _)
        have hb := bounds_u8 hw
        refine ⟨zs.getD i 0, hb.1, hb.2, ?_⟩
        rw [hx] at h1
        have e : (Addr.mk x.block x.off none).add i = ⟨x.block, x.off + i, none⟩ := by
          unfold Addr.add
          split
          · rename_i h
            rw [h]
            rfl
          · rfl
        rw [e] at h1
        exact h1

end lawBytes

end Go.Proofs.Ytbbmpfkijhhemaa

/- The contract of DrawWriteCmp. -/
namespace Go.Proofs.Ytbbmpfkijhhemaa
open Go.ChangeShapes Go.WideShapes Go.ChangeAt Go.RowKit Go.Joins
attribute [local go_sem ↓] Go.wp_at_zero Go.wp_at_succ

theorem two_writes (w : World) (t : Nat) : WBox ((w.alloc (.cells #[.int .i64 0, .int .i64 0, .int .i64 0, .int .i64 0, .int .i64 0, .bool false, .slice none 0 0] t)).alloc (.cells #[.int .i64 0, .int .i64 0, .int .i64 0, .int .i64 0, .int .i64 0, .bool false, .slice none 0 0] t)) w.heap.size 0 0 0 0 0 false none 0 0 ∧ WBox ((w.alloc (.cells #[.int .i64 0, .int .i64 0, .int .i64 0, .int .i64 0, .int .i64 0, .bool false, .slice none 0 0] t)).alloc (.cells #[.int .i64 0, .int .i64 0, .int .i64 0, .int .i64 0, .int .i64 0, .bool false, .slice none 0 0] t)) (w.heap.size + 1) 0 0 0 0 0 false none 0 0 := by
  have h := WBox.start (w.alloc (.cells #[.int .i64 0, .int .i64 0, .int .i64 0, .int .i64 0, .int .i64 0, .bool false, .slice none 0 0] t)) 0 0 0 0 0 false none 0 0 t
  have e : (w.alloc (.cells #[.int .i64 0, .int .i64 0, .int .i64 0, .int .i64 0, .int .i64 0, .bool false, .slice none 0 0] t)).heap.size = w.heap.size + 1 := by simp
  rw [e] at h
  exact ⟨(WBox.start w 0 0 0 0 0 false none 0 0 t).hole (Hole.of_below (B := w.heap.size + 2) ((Below.refl _ _).alloc (Nat.le_refl _) _)) (by omega), h⟩

/-- What is carried through the drawing of two writes. -/
structure DW (w W : World) (B bA bB g g' : Nat) (a : Option Addr) (len cap : Nat) (N : Int) (k c s q v : Int) (de : Bool) (ds : List Dp) (cp : Nat) (k' c' s' q' v' : Int) (de' : Bool) (ds' : List Dp) (cp' : Nat) : Prop where
  cur : Cur W B a len cap N
  below : Below w.heap.size w W
  r1 : WBox W w.heap.size 0 0 0 0 0 false none 0 0
  r2 : WBox W (w.heap.size + 1) 0 0 0 0 0 false none 0 0
  ba : WBox W bA k c s q v de (some ⟨g, 0, none⟩) ds.length cp
  bb : WBox W bB k' c' s' q' v' de' (some ⟨g', 0, none⟩) ds'.length cp'
  d1 : HoldsDeps W g 0 ds
  d2 : HoldsDeps W g' 0 ds'
  l1 : g < W.heap.size
  l2 : g' < W.heap.size
  eB : B = w.heap.size + 1 + 1
  g1 : B < g
  g2 : B < g'
  gA : g < bA
  gB : bA < bB
  gn : g' ≠ bB
  n1 : ds.length ≤ 7
  n2 : ds'.length ≤ 7

theorem DW.step {w W W' : World} {B bA bB g g' : Nat} {a : Option Addr} {len cap : Nat} {N M : Int} {k c s q v : Int} {de : Bool} {ds : List Dp} {cp : Nat} {k' c' s' q' v' : Int} {de' : Bool} {ds' : List Dp} {cp' : Nat} (h : DW w W B bA bB g g' a len cap N k c s q v de ds cp k' c' s' q' v' de' ds' cp') (hc : Cur W' B a len cap M) (hh : Hole B W W') : DW w W' B bA bB g g' a len cap M k c s q v de ds cp k' c' s' q' v' de' ds' cp' :=
  ⟨hc, hh.belowOf h.below (by have := h.eB; omega) h.below.size, h.r1.hole hh (by have := h.eB; omega), h.r2.hole hh (by have := h.eB; omega), h.ba.hole hh (by have := h.g1; have := h.gA; omega), h.bb.hole hh (by have := h.g1; have := h.gA; have := h.gB; omega), h.d1.hole hh h.l1 (by have := h.g1; omega), h.d2.hole hh h.l2 (by have := h.g2; omega), Nat.lt_of_lt_of_le h.l1 hh.size, Nat.lt_of_lt_of_le h.l2 hh.size, h.eB, h.g1, h.g2, h.gA, h.gB, h.gn, h.n1, h.n2⟩

theorem DW.set {w W : World} {B bA bB g g' : Nat} {a : Option Addr} {len cap : Nat} {N : Int} {k c s q v : Int} {de : Bool} {ds : List Dp} {cp : Nat} {k' c' s' q' v' x1 x2 x3 x4 x5 : Int} {de' x6 : Bool} {ds' : List Dp} {cp' : Nat} (h : DW w W B bA bB g g' a len cap N k c s q v de ds cp k' c' s' q' v' de' ds' cp') (o : Nat) (y : Value) (hb : WBox (W.setCell ⟨bB, o, none⟩ y) bB x1 x2 x3 x4 x5 x6 (some ⟨g', 0, none⟩) ds'.length cp') : DW w (W.setCell ⟨bB, o, none⟩ y) B bA bB g g' a len cap N k c s q v de ds cp x1 x2 x3 x4 x5 x6 ds' cp' := by
  have := h.eB
  have := h.g1
  have := h.gA
  have := h.gB
  exact ⟨h.cur.setOther (by omega) o y, h.below.setCell (by show w.heap.size ≤ bB; omega) y, h.r1.other (by omega) o y, h.r2.other (by omega) o y, h.ba.other (by omega) o y, hb, h.d1.set (by show bB ≠ g; omega) y, h.d2.set (Ne.symm h.gn) y, by simpa [World.setCell] using h.l1, by simpa [World.setCell] using h.l2, h.eB, h.g1, h.g2, h.gA, h.gB, h.gn, h.n1, h.n2⟩

abbrev put7 (W : World) (R : Nat) (v0 v1 v2 v3 v4 v5 v6 : Value) : World :=
  ((((((W.setCell ⟨R, 0, none⟩ v0).setCell ⟨R, 1, none⟩ v1).setCell ⟨R, 2, none⟩ v2).setCell ⟨R, 3, none⟩ v3).setCell ⟨R, 4, none⟩ v4).setCell ⟨R, 5, none⟩ v5).setCell ⟨R, 6, none⟩ v6

theorem holds_put7 {W : World} {R g : Nat} {ds : List Dp} (h : HoldsDeps W g 0 ds) (hn : R ≠ g) (v0 v1 v2 v3 v4 v5 v6 : Value) : HoldsDeps (put7 W R v0 v1 v2 v3 v4 v5 v6) g 0 ds := by
  have h0 := h.set (a := ⟨R, 0, none⟩) hn v0
  have h1 := h0.set (a := ⟨R, 1, none⟩) hn v1
  have h2 := h1.set (a := ⟨R, 2, none⟩) hn v2
  have h3 := h2.set (a := ⟨R, 3, none⟩) hn v3
  have h4 := h3.set (a := ⟨R, 4, none⟩) hn v4
  have h5 := h4.set (a := ⟨R, 5, none⟩) hn v5
  exact h5.set (a := ⟨R, 6, none⟩) hn v6

theorem below_put7 {w W : World} {R : Nat} (h : Below w.heap.size w W) (hR : w.heap.size ≤ R) (v0 v1 v2 v3 v4 v5 v6 : Value) : Below w.heap.size w (put7 W R v0 v1 v2 v3 v4 v5 v6) := by
  have h0 := h.setCell (p := ⟨R, 0, none⟩) hR v0
  have h1 := h0.setCell (p := ⟨R, 1, none⟩) hR v1
  have h2 := h1.setCell (p := ⟨R, 2, none⟩) hR v2
  have h3 := h2.setCell (p := ⟨R, 3, none⟩) hR v3
  have h4 := h3.setCell (p := ⟨R, 4, none⟩) hR v4
  have h5 := h4.setCell (p := ⟨R, 5, none⟩) hR v5
  exact h5.setCell (p := ⟨R, 6, none⟩) hR v6

theorem holds_drew {W : World} {g : Nat} {ds : List Dp} (h : HoldsDeps W g 0 ds) : HoldsDeps W.drew g 0 ds := h

theorem draw_end {w W : World} {B bA bB g g' : Nat} {a : Option Addr} {len cap : Nat} {N : Int} {k c s q v : Int} {de : Bool} {ds : List Dp} {cp : Nat} {k' c' s' q' v' : Int} {de' : Bool} {ds' : List Dp} {cp' : Nat} (h : DW w W B bA bB g g' a len cap N k c s q v de ds cp k' c' s' q' v' de' ds' cp') (v0 v1 v2 v3 v4 v5 v6 u0 u1 u2 u3 u4 u5 u6 : Value) :
    g < (put7 (put7 W w.heap.size v0 v1 v2 v3 v4 v5 v6) (w.heap.size + 1) u0 u1 u2 u3 u4 u5 u6).drew.heap.size ∧ g' < (put7 (put7 W w.heap.size v0 v1 v2 v3 v4 v5 v6) (w.heap.size + 1) u0 u1 u2 u3 u4 u5 u6).drew.heap.size ∧ HoldsDeps (put7 (put7 W w.heap.size v0 v1 v2 v3 v4 v5 v6) (w.heap.size + 1) u0 u1 u2 u3 u4 u5 u6).drew g 0 ds ∧ HoldsDeps (put7 (put7 W w.heap.size v0 v1 v2 v3 v4 v5 v6) (w.heap.size + 1) u0 u1 u2 u3 u4 u5 u6).drew g' 0 ds' ∧ Below w.heap.size w (put7 (put7 W w.heap.size v0 v1 v2 v3 v4 v5 v6) (w.heap.size + 1) u0 u1 u2 u3 u4 u5 u6).drew := by
  have := h.eB
  have := h.g1
  have := h.g2
  have a1 : w.heap.size ≠ g := by omega
  have a2 : w.heap.size + 1 ≠ g := by omega
  have b1 : w.heap.size ≠ g' := by omega
  have b2 : w.heap.size + 1 ≠ g' := by omega
  exact ⟨by simpa [World.setCell] using h.l1, by simpa [World.setCell] using h.l2, holds_drew (holds_put7 (holds_put7 h.d1 a1 _ _ _ _ _ _ _) a2 _ _ _ _ _ _ _), holds_drew (holds_put7 (holds_put7 h.d2 b1 _ _ _ _ _ _ _) b2 _ _ _ _ _ _ _), (below_put7 (below_put7 h.below (Nat.le_refl _) _ _ _ _ _ _ _) (by omega) _ _ _ _ _ _ _).drew⟩

theorem cur_put7 {W : World} {B R : Nat} {a : Option Addr} {len cap : Nat} {N : Int} (h : Cur W B a len cap N) (hR : B < R) (v0 v1 v2 v3 v4 v5 v6 : Value) : Cur (put7 W R v0 v1 v2 v3 v4 v5 v6) B a len cap N := by
  have h0 := h.setOther hR 0 v0
  have h1 := h0.setOther hR 1 v1
  have h2 := h1.setOther hR 2 v2
  have h3 := h2.setOther hR 3 v3
  have h4 := h3.setOther hR 4 v4
  have h5 := h4.setOther hR 5 v5
  exact h5.setOther hR 6 v6

theorem box_put7 {W : World} {R b : Nat} {k c s q v : Int} {de : Bool} {x : Option Addr} {len cap : Nat} (h : WBox W b k c s q v de x len cap) (hn : R ≠ b) (v0 v1 v2 v3 v4 v5 v6 : Value) : WBox (put7 W R v0 v1 v2 v3 v4 v5 v6) b k c s q v de x len cap := by
  have h0 := h.other hn 0 v0
  have h1 := h0.other hn 1 v1
  have h2 := h1.other hn 2 v2
  have h3 := h2.other hn 3 v3
  have h4 := h3.other hn 4 v4
  have h5 := h4.other hn 5 v5
  exact h5.other hn 6 v6

theorem box_own7 {W : World} {b : Nat} {k0 c0 s0 q0 v0 : Int} {de0 : Bool} {x0 : Option Addr} {len0 cap0 : Nat} (h : WBox W b k0 c0 s0 q0 v0 de0 x0 len0 cap0) (k c s q v : Int) (de : Bool) (x : Option Addr) (len cap : Nat) : WBox (put7 W b (.int .i64 k) (.int .i64 c) (.int .i64 s) (.int .i64 q) (.int .i64 v) (.bool de) (.slice x len cap)) b k c s q v de x len cap := by
  have h0 := h.set0 k
  have h1 := h0.set1 c
  have h2 : WBox ((((W.setCell ⟨b, 0, none⟩ (.int .i64 k)).setCell ⟨b, 1, none⟩ (.int .i64 c)).setCell ⟨b, 2, none⟩ (.int .i64 s))) b k c s q0 v0 de0 x0 len0 cap0 :=
    ⟨by simpa [World.setCell] using h1.lt, cell_set_off h1.c0 (by omega), cell_set_off h1.c1 (by omega), cell_set_same h1.c2, cell_set_off h1.c3 (by omega), cell_set_off h1.c4 (by omega), cell_set_off h1.c5 (by omega), cell_set_off h1.c6 (by omega), fun o => by rw [World.frozen?_setCell]; exact h1.fz o⟩
  have h3 : WBox (((((W.setCell ⟨b, 0, none⟩ (.int .i64 k)).setCell ⟨b, 1, none⟩ (.int .i64 c)).setCell ⟨b, 2, none⟩ (.int .i64 s))).setCell ⟨b, 3, none⟩ (.int .i64 q)) b k c s q v0 de0 x0 len0 cap0 :=
    ⟨by simpa [World.setCell] using h2.lt, cell_set_off h2.c0 (by omega), cell_set_off h2.c1 (by omega), cell_set_off h2.c2 (by omega), cell_set_same h2.c3, cell_set_off h2.c4 (by omega), cell_set_off h2.c5 (by omega), cell_set_off h2.c6 (by omega), fun o => by rw [World.frozen?_setCell]; exact h2.fz o⟩
  have h4 := h3.set4 v
  have h5 := h4.set5 de
  exact h5.set6 x len cap

end Go.Proofs.Ytbbmpfkijhhemaa
