import Derived.Test.YtpejdhbajejmoaaPack9
import Derived.Test.YtpejdhbajejmoaaPack1
import Derived.Test.YtpejdhbajejmoaaPack3
import Derived.Test.YtpejdhbajejmoaaPack4
import Derived.Lib.Hide
/- InOrder, the program's side: firstToCome. -/
namespace Go.Proofs.Ytpejdhbajejmoaa
open Go.ChangeShapes Go.WideShapes Go.ChangeAt Go.RowKit Go.Joins
attribute [local go_sem ↓] Go.wp_at_zero Go.wp_at_succ

/-- k is the least place below len of which P holds; len where there is none. -/
def LeastN (P : Nat → Prop) (len k : Nat) : Prop := k ≤ len ∧ (k < len → P k) ∧ ∀ i, i < k → ¬ P i

theorem LeastN.congr {P Q : Nat → Prop} {len k : Nat} (h : LeastN P len k) (e : ∀ i, i < len → (Q i ↔ P i)) : LeastN Q len k :=
  ⟨h.1, fun hk => (e k hk).2 (h.2.1 hk), fun i hi hq => h.2.2 i hi ((e i (Nat.lt_of_lt_of_le hi h.1)).1 hq)⟩

theorem LeastN.take {P Q : Nat → Prop} {len k q : Nat} (h : LeastN P len k) (hq : q < k) (hQ : Q q) (e : ∀ i, Q i → P i ∨ i = q) : LeastN Q len q :=
  ⟨Nat.le_trans (Nat.le_of_lt hq) h.1, fun _ => hQ, fun i hi hQi => by
    rcases e i hQi with h1 | h1
    · exact h.2.2 i (Nat.lt_trans hi hq) h1
    · omega⟩

theorem LeastN.keep {P Q : Nat → Prop} {len k : Nat} (h : LeastN P len k) (e : ∀ i, Q i → P i ∨ k ≤ i) (e' : ∀ i, P i → Q i) : LeastN Q len k :=
  ⟨h.1, fun hk => e' k (h.2.1 hk), fun i hi hQ => by
    rcases e i hQ with h1 | h1
    · exact h.2.2 i hi h1
    · omega⟩

def rowsN (ps : List Pst) (m : Nat) (t : TK) : List Nat := (List.range m).filter fun (i : Nat) => isT t (ps.getD i pz)

theorem rowsN_mem {ps : List Pst} {m : Nat} {t : TK} {i : Nat} : i ∈ rowsN ps m t ↔ i < m ∧ isT t (ps.getD i pz) = true := by
  simp [rowsN]

theorem placesE_rows (ps : List Pst) (m : Nat) (t : TK) : placesE ps m t = (rowsN ps m t).map fun (i : Nat) => (i : Int) := rfl

theorem placesE_at {ps : List Pst} {m : Nat} {t : TK} {j : Nat} (h : j < (placesE ps m t).length) : (placesE ps m t).getD j 0 = (((rowsN ps m t).getD j 0 : Nat) : Int) ∧ (rowsN ps m t).getD j 0 < m ∧ isT t (ps.getD ((rowsN ps m t).getD j 0) pz) = true := by
  rw [placesE_rows] at h ⊢
  rw [List.length_map] at h
  refine ⟨by simp [List.getD, h], ?_⟩
  have : (rowsN ps m t).getD j 0 ∈ rowsN ps m t := by simp [List.getD, h]
  exact rowsN_mem.1 this

theorem isT_is {t : TK} {p : Pst} (h : isT t p = true) : vecB p.xs = true ∧ btw p.f 0 3 = true ∧ p.f = t.s ∧ p.xs.getD p.f.toNat 0 = t.k := by
  unfold isT turnB at h
  cases hv : vecB p.xs
  · rw [hv] at h
    simp at h
  · cases hb : btw p.f 0 3
    · rw [hv, hb] at h
      simp at h
    · rw [hv, hb] at h
      simp at h
      exact ⟨rfl, rfl, h.1, h.2⟩

theorem isT_of {t : TK} {p : Pst} (h : vecB p.xs = true) (h' : btw p.f 0 3 = true) (e : p.f = t.s) (e' : p.xs.getD p.f.toNat 0 = t.k) : isT t p = true := by
  unfold isT turnB
  rw [h, h']
  simp at e' ⊢
  exact ⟨e, e'⟩

theorem btw_of {f : Int} (h : 0 ≤ f ∧ f ≤ 3) : btw f 0 3 = true := by
  unfold btw
  simp
  omega

theorem comes_isT {v : List Int} {p : Pst} (h : comesB v p = true) {q : Nat} (hq : p.f = (q : Int)) : isT ⟨(q : Int), v.getD q 0 + 1⟩ p = true := by
  obtain ⟨h1, h2, h3, h4, h5, h6, h7, h8, h9⟩ := comes_join h
  refine isT_of h2 (btw_of h6) hq ?_
  rw [h7, show p.f.toNat = q by omega]

theorem isT_comes {v : List Int} {p : Pst} {q : Nat} {k : Int} (hv : vecB v = true) (h : isT ⟨(q : Int), k⟩ p = true) : comesB v p = mayAt v p.xs q 4 := by
  obtain ⟨h1, h2, h3, h4⟩ := isT_is h
  have h3' : p.f = (q : Int) := h3
  unfold comesB
  rw [mayB_at hv h1 h2, show p.f.toNat = q by omega]

/-- The places of posts of the sites below s that come. -/
def PrS (v : List Int) (ps : List Pst) (s : Nat) (i : Nat) : Prop := comesB v (ps.getD i pz) = true ∧ (ps.getD i pz).f < (s : Int)

/-- And of those of the first j of a row. -/
def PrJ (v : List Int) (ps : List Pst) (s : Nat) (r : List Nat) (j i : Nat) : Prop := PrS v ps s i ∨ (i ∈ r.take j ∧ comesB v (ps.getD i pz) = true)

theorem prS_start (v : List Int) (ps : List Pst) : LeastN (PrS v ps 0) ps.length ps.length :=
  ⟨Nat.le_refl _, fun h => absurd h (Nat.lt_irrefl _), fun i _ h => by
    have := (comes_join h.1).2.2.2.2.2.1
    have := h.2
    omega⟩

theorem prS_end {v : List Int} {ps : List Pst} {k : Nat} (h : LeastN (PrS v ps 4) ps.length k) : firstC v ps = k := by
  have hP : ∀ i, comesB v (ps.getD i pz) = true → PrS v ps 4 i := fun i hc => by
    have := (comes_join hc).2.2.2.2.2.1
    exact ⟨hc, by omega⟩
  have hn : ∀ i, i < k → comesB v (ps.getD i pz) = false := fun i hi => by
    cases hc : comesB v (ps.getD i pz)
    · rfl
    · exact absurd (hP i hc) (h.2.2 i hi)
  by_cases hk : k < ps.length
  · exact firstC_is hk (h.2.1 hk).1 hn
  · have e : k = ps.length := by have := h.1; omega
    subst e
    exact firstC_none hn

theorem prJ_start {v : List Int} {ps : List Pst} {s k len : Nat} (r : List Nat) (h : LeastN (PrS v ps s) len k) : LeastN (PrJ v ps s r 0) len k :=
  h.congr fun i _ => by simp [PrJ]

theorem prJ_end {v : List Int} {ps : List Pst} {s k len j : Nat} (h : LeastN (PrJ v ps s (rowsN ps len ⟨(s : Int), v.getD s 0 + 1⟩) j) len k) (hj : (rowsN ps len ⟨(s : Int), v.getD s 0 + 1⟩).length ≤ j) : LeastN (PrS v ps (s + 1)) len k :=
  h.congr fun i hi => by
    rw [PrJ, List.take_of_length_le hj, rowsN_mem]
    constructor
    · intro h
      by_cases hs : (ps.getD i pz).f < (s : Int)
      · exact .inl ⟨h.1, hs⟩
      · exact .inr ⟨⟨hi, comes_isT h.1 (by have := h.2; omega)⟩, h.1⟩
    · intro h
      rcases h with h | h
      · exact ⟨h.1, by have := h.2; omega⟩
      · have h3 : (ps.getD i pz).f = (s : Int) := (isT_is h.1.2).2.2.1
        exact ⟨h.2, by omega⟩

theorem take_mem {r : List Nat} {j i : Nat} (hj : j < r.length) : i ∈ r.take (j + 1) ↔ i ∈ r.take j ∨ i = r.getD j 0 := by
  rw [List.take_succ_eq_append_getElem hj, List.mem_append, List.mem_singleton, show r.getD j 0 = r[j] by simp [List.getD, hj]]

theorem prJ_yes {v : List Int} {ps : List Pst} {s k len j : Nat} {r : List Nat} (h : LeastN (PrJ v ps s r j) len k) (hj : j < r.length) (hq : r.getD j 0 < k) (hc : comesB v (ps.getD (r.getD j 0) pz) = true) : LeastN (PrJ v ps s r (j + 1)) len (r.getD j 0) :=
  h.take hq (.inr ⟨(take_mem hj).2 (.inr rfl), hc⟩) fun i hi => by
    rcases hi with hi | ⟨hi, hc'⟩
    · exact .inl (.inl hi)
    · rcases (take_mem hj).1 hi with hi | hi
      · exact .inl (.inr ⟨hi, hc'⟩)
      · exact .inr hi

theorem prJ_no {v : List Int} {ps : List Pst} {s k len j : Nat} {r : List Nat} (h : LeastN (PrJ v ps s r j) len k) (hj : j < r.length) (hq : k ≤ r.getD j 0 ∨ comesB v (ps.getD (r.getD j 0) pz) = false) : LeastN (PrJ v ps s r (j + 1)) len k :=
  h.keep (fun i hi => by
    rcases hi with hi | ⟨hi, hc'⟩
    · exact .inl (.inl hi)
    · rcases (take_mem hj).1 hi with hi | hi
      · exact .inl (.inr ⟨hi, hc'⟩)
      · rcases hq with hq | hq
        · exact .inr (by omega)
        · rw [hi, hq] at hc'
          cases hc') fun i hi => by
    rcases hi with hi | ⟨hi, hc'⟩
    · exact .inl hi
    · exact .inr ⟨(take_mem hj).2 (.inl hi), hc'⟩

theorem isIs_cells {w : World} {ad : Option Addr} {y0 y1 y2 y3 : Int} (h : IsIs w ad [y0, y1, y2, y3]) :
    ∃ b o, ad = some ⟨b, o, none⟩ ∧ b < w.heap.size ∧ w.cell? ⟨b, o, none⟩ = some (.int .i64 y0) ∧ w.cell? ⟨b, o + 1, none⟩ = some (.int .i64 y1) ∧ w.cell? ⟨b, o + 2, none⟩ = some (.int .i64 y2) ∧ w.cell? ⟨b, o + 3, none⟩ = some (.int .i64 y3) := by
  obtain ⟨b, o, rfl, hz, e0⟩ := h.at (Below.refl _ _) (k := 0) (by simp)
  obtain ⟨_, _, he, -, e1⟩ := h.at (Below.refl _ _) (k := 1) (by simp)
  injection he with he
  injection he with he1 he2
  subst he1
  subst he2
  obtain ⟨_, _, he, -, e2⟩ := h.at (Below.refl _ _) (k := 2) (by simp)
  injection he with he
  injection he with he1 he2
  subst he1
  subst he2
  obtain ⟨_, _, he, -, e3⟩ := h.at (Below.refl _ _) (k := 3) (by simp)
  injection he with he
  injection he with he1 he2
  subst he1
  subst he2
  simp only [Nat.add_zero, List.getD_cons_zero, List.getD_cons_succ] at e0 e1 e2 e3
  exact ⟨b, o, rfl, hz, e0, e1, e2, e3⟩

theorem run_tkS (x0 x1 x2 x3 : Int) {s : Nat} (hs : s < 4) (w : World) : (Instr.index 44 (tkV x0 x1 x2 x3) (.int .i64 (s : Int))).run Try.prog w = .ok (.int .i64 (([x0, x1, x2, x3] : List Int).getD s 0)) w := by
  refine run_tk [.int .i64 x0, .int .i64 x1, .int .i64 x2, .int .i64 x3] _ rfl ?_ w
  match s, hs with
  | 0, _ | 1, _ | 2, _ | 3, _ => rfl

set_option maxRecDepth 100000 in
set_option maxHeartbeats 4000000 in
theorem firstToCome_any (a : Option Addr) (len cap : Nat) (ps : List Pst) (mb n base : Nat) (V : TK → Option Value) (x0 x1 x2 x3 : Int) (w : World) (hl : ps.length = len) (hn : len ≤ 1048576) (hi : IsPs w a ps) (hM : NumsM w mb n base V (placesE ps len)) (hv : vecB [x0, x1, x2, x3] = true) :
    Calls Try.prog 15 #[.slice a len cap, .map (some mb), tkV x0 x1 x2 x3] w fun e w' => e = .returned (.tuple #[.int .i64 (firstC [x0, x1, x2, x3] ps : Nat), .bool (decide (firstC [x0, x1, x2, x3] ps < len))]) ∧ Below w.heap.size w w' := by
  have HI : Hid (IsPs w a ps) := hi
  have HL : Hid (ps.length = len) := hl
  have HV : Hid (vecB [x0, x1, x2, x3] = true) := hv
  have HM : Hid (NumsM w mb n base V (placesE ps len)) := hM
  obtain ⟨hx0, hx1, hx2, hx3⟩ := (vecB_is _ _ _ _).1 hv
  have HLS : Hid (∀ (q : Nat), q < 4 → ∀ y0 y1 y2 y3 W, Calls Try.prog 22 #[tkV x0 x1 x2 x3, tkV y0 y1 y2 y3, .int .i64 (q : Int)] W fun e w' => e = .returned (.bool (letsB x0 x1 x2 x3 y0 y1 y2 y3 q)) ∧ Below W.heap.size W w') := fun q hq y0 y1 y2 y3 W => tkLets_any x0 x1 x2 x3 y0 y1 y2 y3 q hq hx0 hx1 hx2 hx3 W
  have HXR : Hid (∀ s : Nat, s < 4 → 0 ≤ ([x0, x1, x2, x3] : List Int).getD s 0 ∧ ([x0, x1, x2, x3] : List Int).getD s 0 ≤ 1000000) := by
    intro s hs
    match s, hs with
    | 0, _ => exact hx0
    | 1, _ => exact hx1
    | 2, _ => exact hx2
    | 3, _ => exact hx3
  have HIX : Hid (∀ s : Nat, s < 4 → ∀ W, (Instr.index 44 (tkV x0 x1 x2 x3) (.int .i64 (s : Int))).run Try.prog W = .ok (.int .i64 (([x0, x1, x2, x3] : List Int).getD s 0)) W) := fun s hs W => run_tkS x0 x1 x2 x3 hs W
  have HT4 : Hid (([x0, x1, x2, x3] : List Int).length = 4) := Lib.hid rfl
  have hres : Try.f15.results = #[.tmp 6, .tmp 7] := by kernel_rfl
  clear hi hl hv hM hx0 hx1 hx2 hx3
  have HA : Hid (Below w.heap.size w (w.alloc (.cells #[.int .i64 x0, .int .i64 x1, .int .i64 x2, .int .i64 x3] 44))) := (Below.refl _ _).alloc (Nat.le_refl _) _
  have HAC : Hid ((w.alloc (.cells #[.int .i64 x0, .int .i64 x1, .int .i64 x2, .int .i64 x3] 44)).heap[w.heap.size]? = some (.cells #[.int .i64 x0, .int .i64 x1, .int .i64 x2, .int .i64 x3] 44 (0, 0))) := heap_alloc_new w _
  go_enter Try.func15, Try.ntmps15
  go_upto_region 2 with fail
  generalize w.alloc (.cells #[.int .i64 x0, .int .i64 x1, .int .i64 x2, .int .i64 x3] 44) = WA at *
  have c0 := cell_of_row WA w.heap.size 0 _ _ _ HAC.out
  have c1 := cell_of_row WA w.heap.size 1 _ _ _ HAC.out
  have c2 := cell_of_row WA w.heap.size 2 _ _ _ HAC.out
  have c3 := cell_of_row WA w.heap.size 3 _ _ _ HAC.out
  simp at c0 c1 c2 c3
  go_wp2
  clear c0 c1 c2 c3
  obtain ⟨X, hX⟩ : ∃ X, ([x0, x1, x2, x3] : List Int) = X := ⟨_, rfl⟩
  have HX := Lib.hid hX
  rw [hX] at HV HXR HIX
  clear hX HT4
  go_loopw [8, 16] (fun t8 t16 wr => ∃ (k s : Nat), s ≤ 4 ∧ k ≤ len ∧ t8 = .int .i64 (k : Int) ∧ t16 = .int .i64 (s : Int) ∧ Hid (LeastN (PrS X ps s) len k) ∧ Hid (Below WA.heap.size WA wr)) (fun _ t16 _ => 4 - (intOf t16).toNat)
  case atStart =>
    refine ⟨len, 0, by omega, by omega, rfl, rfl, ?_, Below.refl _ _⟩
    have := prS_start X ps
    rw [HL.out] at this
    exact this
  case round =>
    obtain ⟨k, s, hs, hk, rfl, rfl, HP, HB⟩ := hrel
    by_cases hs' : s < 4
    · have hix := HIX.out s hs'
      obtain ⟨n0, n1⟩ := HXR.out s hs'
      obtain ⟨u, hu⟩ : ∃ u, X.getD s 0 = u := ⟨_, rfl⟩
      have HU := Lib.hid hu
      rw [hu] at hix n0 n1
      clear hu
      have HLW : Hid (∀ W, Below WA.heap.size WA W → Below w.heap.size w W) := fun W hW => below_step HA.out HA.out.size hW
      have HMr : Hid (NumsM wr mb n base V (placesE ps len)) := HM.out.below (HLW.out _ HB.out)
      have HOK : Hid (keyT.ok ⟨(s : Int), u + 1⟩) := by
        show R64 _ ∧ R64 _
        unfold R64
        exact Lib.hid (by simp; omega)
      obtain ⟨ar, cr, hrow, -⟩ := (HMr.out.theRow ⟨(s : Int), u + 1⟩).form
      have HRI : Hid (∀ W, Below WA.heap.size WA W → IsIs W ar (placesE ps len ⟨(s : Int), u + 1⟩)) := fun W hW => by
        have h := (HM.out.below (HLW.out W hW)).theRow ⟨(s : Int), u + 1⟩
        rw [hrow] at h
        obtain ⟨a', c', e, o⟩ := h.form
        injection e with e1
        subst e1
        exact o.isIs
      have hll := placesE_len ps len ⟨(s : Int), u + 1⟩
      have HPA : Hid (∀ j, j < (placesE ps len ⟨(s : Int), u + 1⟩).length → _) := fun j hj => placesE_at hj
      have HRL : Hid ((rowsN ps len ⟨(s : Int), u + 1⟩).length = (placesE ps len ⟨(s : Int), u + 1⟩).length) := by
        rw [placesE_rows, List.length_map]
        exact Lib.hid rfl
      obtain ⟨L, hL⟩ : ∃ L, (placesE ps len ⟨(s : Int), u + 1⟩).length = L := ⟨_, rfl⟩
      unfold rowT at hrow
      rw [hL] at hrow hll HPA HRL
      have HLL := Lib.hid hL
      have HRE : Hid ((rowsN ps len ⟨(s : Int), u + 1⟩).length ≤ L) := by rw [HRL.out]; exact Lib.hid (Nat.le_refl _)
      clear hL
      go_wp2_with (first | (at_lookup; refine wpList_lookG1 (K := keyT) (by rfl) _ _ 41 26 (by rfl) Try.underlying41 (zero_ints _) HMr.out.map ⟨(s : Int), u + 1⟩ HOK.out (by rfl) (by rfl) ?_; rw [hrow]))
      clear hrow HOK HMr
      obtain ⟨W1, rfl⟩ : ∃ W1, W1 = wr := ⟨wr, rfl⟩
      go_loopw [8, 27] (fun t8 t27 wr => ∃ (k j : Nat), j ≤ L ∧ k ≤ len ∧ t8 = .int .i64 (k : Int) ∧ t27 = .int .i64 (j : Int) ∧ Hid (LeastN (PrJ X ps s (rowsN ps len ⟨(s : Int), u + 1⟩) j) len k) ∧ Hid (Below WA.heap.size WA wr)) (fun _ t27 _ => L - (intOf t27).toNat)
      case atStart => exact ⟨k, 0, Nat.zero_le _, hk, rfl, rfl, prJ_start _ HP.out, HB⟩
      case round =>
        clear HP HB hk
        obtain ⟨k, j, hj, hk, rfl, rfl, HP, HB⟩ := hrel
        by_cases hj' : j < L
        · obtain ⟨e0, hil, hiT⟩ := HPA.out j hj'
          have hjr : j < (rowsN ps len ⟨(s : Int), u + 1⟩).length := by rw [HRL.out]; exact hj'
          have HYES : Hid (_ → _ → LeastN (PrJ X ps s (rowsN ps len ⟨(s : Int), u + 1⟩) (j + 1)) len _) := fun h1 h2 => prJ_yes HP.out hjr h1 h2
          have HNO : Hid (_ → LeastN (PrJ X ps s (rowsN ps len ⟨(s : Int), u + 1⟩) (j + 1)) len k) := fun h => prJ_no HP.out hjr h
          obtain ⟨i, hi⟩ : ∃ i, (rowsN ps len ⟨(s : Int), u + 1⟩).getD j 0 = i := ⟨_, rfl⟩
          rw [hi] at e0 hil hiT HYES HNO
          clear hi hjr HP
          obtain ⟨br, orr, rfl, hzr, cr0⟩ := (HRI.out _ HB.out).at (Below.refl _ _) (k := j) (by rw [HLL.out]; exact hj')
          rw [e0] at cr0
          have j1 : (0 : Int) ≤ (j : Int) := by omega
          have j2 : (j : Int) < (L : Int) := by omega
          clear e0
          have HB0 : Hid (wr.heap[w.heap.size]? = some (.cells #[.int .i64 x0, .int .i64 x1, .int .i64 x2, .int .i64 x3] 44 (0, 0))) := (HB.out.block _ (Array.getElem?_eq_some_iff.1 HAC.out).1).trans HAC.out
          by_cases hik : i < k
          · obtain ⟨b, o, ad, cq, rfl, hz, ⟨e0, e1, e2⟩, hmx, hd⟩ := ps_at HI.out (HLW.out _ HB.out) HL.out hil
            have hct := isT_comes HV.out hiT
            obtain ⟨y0, y1, y2, y3, hy, -⟩ := vecB_four (isT_is hiT).1
            have i1 : (0 : Int) ≤ (i : Int) := by omega
            have i2 : (i : Int) < (len : Int) := by omega
            have hxl : (ps.getD i pz).xs.length = 4 := by rw [hy]; rfl
            rw [hy] at hd hct
            rw [hxl] at e1
            rw [← HX.out, ← lets_may x0 x1 x2 x3 y0 y1 y2 y3 s hs', HX.out] at hct
            rw [hct] at HNO HYES
            obtain ⟨by_, oy, rfl, hzy, d0, d1, d2, d3⟩ := isIs_cells hd
            have HLT := HLS.out s hs' y0 y1 y2 y3
            generalize letsB x0 x1 x2 x3 y0 y1 y2 y3 s = z at *
            have hg : decide (i < k) = true := decide_eq_true hik
            have hat : ∀ w, (Instr.arrayAt 44 (.slice (some ⟨by_, oy, none⟩) 4 cq)).run Try.prog w = .ok (.pointer (some ⟨by_, oy, none⟩)) w := fun w => run_arrayAt w 44 _ 4 _ 4 cq Try.underlying44 (Nat.le_refl _)
            have zb : w.heap.size < wr.heap.size := (Array.getElem?_eq_some_iff.1 HB0.out).1
            have c0 := cell_of_row wr w.heap.size 0 _ _ _ HB0.out
            have c1 := cell_of_row wr w.heap.size 1 _ _ _ HB0.out
            have c2 := cell_of_row wr w.heap.size 2 _ _ _ HB0.out
            have c3 := cell_of_row wr w.heap.size 3 _ _ _ HB0.out
            simp at c0 c1 c2 c3
            clear hd hct hy hxl
            go_wp2_with fail
            have g0 := aft_cell zb c0
            have g1 := aft_cell zb c1
            have g2 := aft_cell zb c2
            have g3 := aft_cell zb c3
            have g4 := aft_cell hz e1
            have g5 := aft_cell hzy d0
            have g6 := aft_cell hzy d1
            have g7 := aft_cell hzy d2
            have g8 := aft_cell hzy d3
            have ne := aft_some wr
            clear cr0
            refine wp_region_aft (by kernel_rfl) (by kernel_rfl) ?_
            repeat (first | go_big_quiet_step (first | (go_at_call 22; exact aft_of (HLT _)) | simp only [hat]))
            refine wpQuiet_nil ?_
            intro wa hqwa
            clear g0 g1 g2 g3 g4 g5 g6 g7 g8 ne
            have HBA : Hid (Below WA.heap.size WA wa) := below_step HB.out HB.out.size hqwa
            clear hqwa c0 c1 c2 c3 d0 d1 d2 d3 e0 e1 e2
            cases z
            · have HP2 := Lib.hid (HNO.out (.inr rfl))
              go_wp2
              exact ⟨⟨k, j + 1, by omega, hk, rfl, by go_num, HP2, HBA⟩, by simp [intOf]; omega⟩
            · have HP2 := Lib.hid (HYES.out hik rfl)
              go_wp2
              exact ⟨⟨i, j + 1, by omega, by omega, rfl, by go_num, HP2, HBA⟩, by simp [intOf]; omega⟩
          · have HP2 := Lib.hid (HNO.out (.inl (by omega)))
            have hg : decide (i < k) = false := decide_eq_false hik
            go_wp2_with fail
            have ne := aft_some wr
            clear cr0
            refine wp_region_aft (by kernel_rfl) (by kernel_rfl) ?_
            repeat (first | go_big_quiet_step (fail))
            refine wpQuiet_nil ?_
            intro wa hqwa
            clear ne
            have HBA : Hid (Below WA.heap.size WA wa) := below_step HB.out HB.out.size hqwa
            clear hqwa
            go_wp2
            exact ⟨⟨k, j + 1, by omega, hk, rfl, by go_num, HP2, HBA⟩, by simp [intOf]; omega⟩
        · have hjj : j = L := by omega
          subst hjj
          have HP2 : Hid (LeastN (PrS X ps (s + 1)) len k) := prJ_end (by rw [HU.out]; exact HP.out) (by rw [HU.out]; exact HRE.out)
          go_wp2
          exact ⟨⟨k, s + 1, by omega, hk, rfl, by go_num, HP2, HB⟩, by simp [intOf]; omega⟩
    · have hss : s = 4 := by omega
      subst hss
      have HF : Hid (firstC X ps = k) := prS_end (by rw [HL.out]; exact HP.out)
      go_wp2
      refine bodyPost_ret (v := .tuple #[.int .i64 (k : Int), .bool (decide (k < len))]) (by simp only [results, hres]; go_simp) rfl ⟨by rw [HX.out, HF.out], below_step HA.out HA.out.size HB.out⟩

end Go.Proofs.Ytpejdhbajejmoaa

/- InOrder, the program's side: the contract of impl.InOrder. -/
namespace Go.Proofs.Ytpejdhbajejmoaa
open Go.ChangeShapes Go.WideShapes Go.ChangeAt Go.RowKit Go.Joins
attribute [local go_sem ↓] Go.wp_at_zero Go.wp_at_succ

/-- What lies where; W2: the world behind the places, its size: the block of the vector. -/
structure InX (W2 wr : World) (x0 x1 x2 x3 : Int) (out : List Pst) (v4 : Value) (es : List EnP) : Prop where
  low : Below W2.heap.size W2 wr
  seen : wr.heap[W2.heap.size]? = some (.cells #[.int .i64 x0, .int .i64 x1, .int .i64 x2, .int .i64 x3] 44 (0, 0))
  row : RowP wr (W2.heap.size + 1) v4 es
  ours : es.map (·.x) = out

structure InW (W2 wr : World) (ps : List Pst) (n : Nat) (v4 : Value) (es : List EnP) (x0 x1 x2 x3 : Int) : Prop extends InX W2 wr x0 x1 x2 x3 (outC ps n) v4 es where
  go : GoC ps n
  vec : (runC ps n).2 = [x0, x1, x2, x3]

theorem InX.lt {W2 wr : World} {x0 x1 x2 x3 : Int} {out : List Pst} {v4 : Value} {es : List EnP} (h : InX W2 wr x0 x1 x2 x3 out v4 es) : W2.heap.size < wr.heap.size := (Array.getElem?_eq_some_iff.1 h.seen).1

theorem InX.below {W2 wr w' : World} {x0 x1 x2 x3 : Int} {out : List Pst} {v4 : Value} {es : List EnP} (h : InX W2 wr x0 x1 x2 x3 out v4 es) (hb : Below wr.heap.size wr w') : InX W2 w' x0 x1 x2 x3 out v4 es where
  low := below_step h.low h.low.size hb
  seen := (hb.block _ h.lt).trans h.seen
  row := h.row.below hb
  ours := h.ours

theorem InW.below {W2 wr w' : World} {ps : List Pst} {n : Nat} {x0 x1 x2 x3 : Int} {v4 : Value} {es : List EnP} (h : InW W2 wr ps n v4 es x0 x1 x2 x3) (hb : Below wr.heap.size wr w') : InW W2 w' ps n v4 es x0 x1 x2 x3 := ⟨h.toInX.below hb, h.go, h.vec⟩

/-- One post more. -/
theorem InX.more {W2 wr w5 : World} {x0 x1 x2 x3 : Int} {out : List Pst} {v4 : Value} {es : List EnP} {e : EnP} {g5 cap5 : Nat} (h : InX W2 wr x0 x1 x2 x3 out v4 es) (he : W2.heap.size + 1 ≤ e.g ∧ v4.ownBlock ≠ some e.g ∧ NumsAt wr e.g e.x.xs) (hap : ∀ d ∈ es, d.g ≠ e.g)
    (hown : w5.ownsRow (W2.heap.size + 1) 33 3 (.slice (some ⟨g5, 0, none⟩) (es.length + 1) cap5) (es.length + 1) (es.flatMap psVals ++ psVals e)) (hgrow : wr.grownBy w5 v4.ownBlock) (hg : v4.ownBlock = some g5 ∨ g5 = wr.heap.size) : InX W2 w5 x0 x1 x2 x3 (out ++ [e.x]) (.slice (some ⟨g5, 0, none⟩) (es.length + 1) cap5) (es ++ [e]) where
  low := h.low.grown hgrow h.low.size fun j hj => by
    have := (World.ownsRow.lt h.row.own j hj).1
    omega
  seen := (hgrow.block _ h.lt fun e' => by
    have := (World.ownsRow.lt h.row.own _ e'.symm).1
    omega).trans h.seen
  row := h.row.more he hap hown hgrow hg
  ours := by
    rw [List.map_append, h.ours]
    rfl

abbrev put4 (w : World) (b : Nat) (z0 z1 z2 z3 : Int) : World :=
  (((w.setCell ⟨b, 0, none⟩ (.int .i64 z0)).setCell ⟨b, 1, none⟩ (.int .i64 z1)).setCell ⟨b, 2, none⟩ (.int .i64 z2)).setCell ⟨b, 3, none⟩ (.int .i64 z3)

theorem put4_block {w : World} {b t : Nat} {x0 x1 x2 x3 : Int} (h : w.heap[b]? = some (.cells #[.int .i64 x0, .int .i64 x1, .int .i64 x2, .int .i64 x3] t (0, 0))) (z0 z1 z2 z3 : Int) : (put4 w b z0 z1 z2 z3).heap[b]? = some (.cells #[.int .i64 z0, .int .i64 z1, .int .i64 z2, .int .i64 z3] t (0, 0)) := by
  simp [put4, World.setCell, Array.getElem?_modify, h]

/-- The vector is another. -/
theorem InX.turn {W2 wr : World} {x0 x1 x2 x3 : Int} {out : List Pst} {v4 : Value} {es : List EnP} (h : InX W2 wr x0 x1 x2 x3 out v4 es) (z0 z1 z2 z3 : Int) : InX W2 (put4 wr W2.heap.size z0 z1 z2 z3) z0 z1 z2 z3 out v4 es where
  low := (((h.low.setCell (p := ⟨W2.heap.size, 0, none⟩) (Nat.le_refl _) _).setCell (p := ⟨W2.heap.size, 1, none⟩) (Nat.le_refl _) _).setCell (p := ⟨W2.heap.size, 2, none⟩) (Nat.le_refl _) _).setCell (p := ⟨W2.heap.size, 3, none⟩) (Nat.le_refl _) _
  seen := put4_block h.seen z0 z1 z2 z3
  row := (((h.row.set (p := ⟨W2.heap.size, 0, none⟩) (Nat.lt_succ_self _) _).set (p := ⟨W2.heap.size, 1, none⟩) (Nat.lt_succ_self _) _).set (p := ⟨W2.heap.size, 2, none⟩) (Nat.lt_succ_self _) _).set (p := ⟨W2.heap.size, 3, none⟩) (Nat.lt_succ_self _) _
  ours := h.ours

theorem InW.len {W2 wr : World} {ps : List Pst} {n : Nat} {x0 x1 x2 x3 : Int} {v4 : Value} {es : List EnP} (h : InW W2 wr ps n v4 es x0 x1 x2 x3) : es.length = n := by
  have := congrArg List.length h.ours
  rw [List.length_map, outC_len h.go] at this
  exact this

/-- Numbers of one's own. -/
def ListK (B : Nat) (ys : List Int) : Fact := fun v w => ∃ g, v = .slice (some ⟨g, 0, none⟩) 4 4 ∧ B ≤ g ∧ NumsAt w g ys

def PostK (B : Nat) (f y : Int) (ys : List Int) : Fact := fun v w => ∃ g, v = postV f (some ⟨g, 0, none⟩) 4 4 y ∧ B ≤ g ∧ NumsAt w g ys

def OneK (B : Nat) (f y : Int) (ys : List Int) : Fact := fun v w => ∃ h g, v = .slice (some ⟨h, 0, none⟩) 1 1 ∧ h < w.heap.size ∧ (∀ j u, (psVals ⟨⟨f, ys, y⟩, g, 4⟩)[j]? = some u → w.cell? ((⟨h, 0, none⟩ : Addr).add j) = some u) ∧ B ≤ g ∧ NumsAt w g ys

theorem lasts_listK (B : Nat) (ys : List Int) : lasts (fun w w' => Below w.heap.size w w') (ListK B ys) := fun _ _ _ ⟨g, h1, h2, h3⟩ hb => ⟨g, h1, h2, h3.below hb⟩

theorem lasts_postK (B : Nat) (f y : Int) (ys : List Int) : lasts (fun w w' => Below w.heap.size w w') (PostK B f y ys) := fun _ _ _ ⟨g, h1, h2, h3⟩ hb => ⟨g, h1, h2, h3.below hb⟩

theorem lasts_oneP (B : Nat) (f y : Int) (ys : List Int) : lasts (fun w w' => Below w.heap.size w w') (OneK B f y ys) := fun _ w _ ⟨h, g, h1, h2, h3, h4, h5⟩ hb =>
  ⟨h, g, h1, Nat.lt_of_lt_of_le h2 hb.size, fun j u hu => (World.cell?_of_block (a := (⟨h, 0, none⟩ : Addr).add j) (by rw [add_block]; exact hb.block h h2)).trans (h3 j u hu), h4, h5.below hb⟩

theorem nums4 (w : World) (z0 z1 z2 z3 : Int) (t : Nat) : NumsAt (w.alloc (.cells #[.int .i64 z0, .int .i64 z1, .int .i64 z2, .int .i64 z3] t)) w.heap.size [z0, z1, z2, z3] := by
  refine ⟨by simp, fun i hi => ?_, fun o => by go_simp⟩
  match i, hi with
  | 0, _ | 1, _ | 2, _ | 3, _ => go_simp

set_option maxRecDepth 100000 in
set_option maxHeartbeats 4000000 in
theorem implInOrder_any (a : Option Addr) (len cap : Nat) (ps : List Pst) (w : World) (hl : ps.length = len) (hn : len ≤ 1048576) (hx : ∀ i, i < len → (ps.getD i pz).xs.length ≤ 1048576) (hi : IsPs w a ps) :
    Calls Try.prog 6 #[.slice a len cap] w fun e w' => OrdAns w ps e w' := by
  have HI : Hid (IsPs w a ps) := hi
  have HL : Hid (ps.length = len) := hl
  have HX : Hid (∀ i, i < len → (ps.getD i pz).xs.length ≤ 1048576) := hx
  have hres : Try.f6.results = #[.tmp 2, .cell 3 28] := by kernel_rfl
  have HBA : Hid (Below w.heap.size w (w.alloc (.cells #[.slice none 0 0] 28))) := (Below.refl _ _).alloc (Nat.le_refl _) _
  have H0A : Hid ((w.alloc (.cells #[.slice none 0 0] 28)).heap[w.heap.size]? = some (.cells #[.slice none 0 0] 28 (0, 0))) := heap_alloc_new w _
  clear hi hl hx
  go_enter Try.func6, Try.ntmps6
  go_wp2_with fail
  refine (placesOfTurn_any a len cap ps _ HL.out hn HX.out (HI.out.below HBA.out)).mono ?_
  rintro e w1 ⟨mb, nb, V, rfl, hM, hmb, hb⟩
  have HM : Hid (NumsM w1 mb nb (w.alloc (.cells #[.slice none 0 0] 28)).heap.size V (placesE ps len)) := hM
  have HB1 : Hid (Below w.heap.size w w1) := below_step HBA.out HBA.out.size hb
  have H01 : Hid (w1.heap[w.heap.size]? = some (.cells #[.slice none 0 0] 28 (0, 0))) := (hb.block _ (by simp)).trans H0A.out
  have HZ1 : Hid (w.heap.size < w1.heap.size) := (Array.getElem?_eq_some_iff.1 H01.out).1
  clear hM hmb hb HBA H0A
  have HW0 : Hid (InW w1 (w1.alloc (.cells #[.int .i64 0, .int .i64 0, .int .i64 0, .int .i64 0] 44)) ps 0 (.slice none 0 0) [] 0 0 0 0) :=
    ⟨⟨(Below.refl _ _).alloc (Nat.le_refl _) _, heap_alloc_new w1 _, rowP_nil _ _, rfl⟩, goC_zero ps, rfl⟩
  go_wp2
  obtain ⟨S, hS⟩ : ∃ S, w1.heap.size = S := ⟨_, rfl⟩
  have HS := Lib.hid hS
  generalize w1.alloc (.cells #[.int .i64 0, .int .i64 0, .int .i64 0, .int .i64 0] 44) = W0 at *
  rw [hS]
  clear hS
  go_loopw [6] (fun t6 wr => ∃ (n : Nat) (v4 : Value) (es : List EnP) (x0 x1 x2 x3 : Int), v4 = t6 ∧ Hid (InW w1 wr ps n v4 es x0 x1 x2 x3)) (fun t6 _ => 4000001 - lenV t6)
  case atStart => exact ⟨0, _, [], 0, 0, 0, 0, rfl, HW0⟩
  case round =>
    clear HW0
    obtain ⟨n, v4, es, x0, x1, x2, x3, rfl, HW⟩ := hrel
    obtain ⟨a4, cp4, rfl, -⟩ := HW.out.row.form
    have hel := HW.out.len
    obtain ⟨L, hL⟩ : ∃ L, es.length = L := ⟨_, rfl⟩
    have hLn : L = n := by omega
    subst hLn
    rw [hL] at HW ⊢
    have HLE := Lib.hid hL
    clear hL hel
    have HSE : Hid (wr.heap[S]? = some (.cells #[.int .i64 x0, .int .i64 x1, .int .i64 x2, .int .i64 x3] 44 (0, 0))) := by
      rw [← HS.out]
      exact HW.out.seen
    have c0 := cell_of_row wr S 0 _ _ _ HSE.out
    have c1 := cell_of_row wr S 1 _ _ _ HSE.out
    have c2 := cell_of_row wr S 2 _ _ _ HSE.out
    have c3 := cell_of_row wr S 3 _ _ _ HSE.out
    simp at c0 c1 c2 c3
    have HVB : Hid (vecB [x0, x1, x2, x3] = true) := by
      rw [← HW.out.vec]
      exact (runC_vec HW.out.go).1
    go_wp2_with fail
    refine (firstToCome_any a len cap ps mb nb _ V x0 x1 x2 x3 wr HL.out hn ((HI.out.below HB1.out).below HW.out.low) (HM.out.below HW.out.low) HVB.out).mono ?_
    rintro e w2 ⟨rfl, hb⟩
    have HW2 := Lib.hid (HW.out.below hb)
    clear hb HW HSE c0 c1 c2 c3
    have HSE : Hid (w2.heap[S]? = some (.cells #[.int .i64 x0, .int .i64 x1, .int .i64 x2, .int .i64 x3] 44 (0, 0))) := by
      rw [← HS.out]
      exact HW2.out.seen
    have c0 := cell_of_row w2 S 0 _ _ _ HSE.out
    have c1 := cell_of_row w2 S 1 _ _ _ HSE.out
    have c2 := cell_of_row w2 S 2 _ _ _ HSE.out
    have c3 := cell_of_row w2 S 3 _ _ _ HSE.out
    simp at c0 c1 c2 c3
    obtain ⟨q, hq⟩ : ∃ q, firstC [x0, x1, x2, x3] ps = q := ⟨_, rfl⟩
    have hqle := firstC_le [x0, x1, x2, x3] ps
    rw [HL.out, hq] at hqle
    have HQ : Hid (firstC (runC ps L).2 ps = q) := by
      rw [HW2.out.vec]
      exact hq
    rw [hq]
    clear hq
    by_cases hlt : q < len
    · rw [show decide (q < len) = true from decide_eq_true hlt]
      have HQL : Hid (q < ps.length) := by rw [HL.out]; exact Lib.hid hlt
      have HC : Hid (comesB [x0, x1, x2, x3] (ps.getD q pz) = true) := by
        have h := firstC_comes (v := (runC ps L).2) (ps := ps) (by rw [HQ.out]; exact HQL.out)
        rw [HQ.out, HW2.out.vec] at h
        exact h
      have hgm := HW2.out.go.more (by rw [HQ.out]; exact HQL.out)
      have hLb := hgm.bound
      have HGM := Lib.hid hgm
      have hON := outC_next ps L
      rw [HQ.out] at hON
      have HON := Lib.hid hON
      have HRN : Hid ((runC ps (L + 1)).2 = joinV [x0, x1, x2, x3] (ps.getD q pz).xs) := by
        show joinV (runC ps L).2 (ps.getD (firstC (runC ps L).2 ps) pz).xs = _
        rw [HQ.out, HW2.out.vec]
      clear hON hgm
      obtain ⟨b, o, ad, cq, rfl, hz, ⟨e0, e1, e2⟩, hmx, hd⟩ := ps_at HI.out (below_step HB1.out HB1.out.size HW2.out.low) HL.out hlt
      have hj := comes_join HC.out
      obtain ⟨y0, y1, y2, y3, hy, -⟩ := vecB_four hj.2.1
      have HJN : Hid (joinV [x0, x1, x2, x3] [y0, y1, y2, y3] = [max x0 y0, max x1 y1, max x2 y2, max x3 y3]) := by
        have h1 := hj.1
        have h2 := hj.2.1
        rw [hy] at h2
        exact joinV_good h1 h2
      have hxl : (ps.getD q pz).xs.length = 4 := by rw [hy]; rfl
      rw [hy] at hd HRN
      rw [hxl] at e1
      have HXY : Hid ((ps.getD q pz).xs = [y0, y1, y2, y3]) := hy
      clear hj hy hxl hmx
      generalize hpq : ps.getD q pz = x at *
      obtain ⟨xf, xx, xy⟩ := x
      obtain rfl : xx = [y0, y1, y2, y3] := HXY.out
      simp only at e0 e1 e2
      clear hpq HXY HC
      have i1 : (0 : Int) ≤ (q : Int) := by omega
      have i2 : (q : Int) < (len : Int) := by omega
      go_upto_region 8 with fail
      clear i1 i2 c0 c1 c2 c3 e0 e1 e2 HSE
      have hbP : Below w2.heap.size w2 (w2.alloc (.cells #[.int .i64 xf, .slice ad 4 cq, .int .i64 xy] 33)) := (Below.refl _ _).alloc (Nat.le_refl _) _
      have HWP := Lib.hid (HW2.out.below hbP)
      have HTP : Hid ((w2.alloc (.cells #[.int .i64 xf, .slice ad 4 cq, .int .i64 xy] 33)).heap[w2.heap.size]? = some (.cells #[.int .i64 xf, .slice ad 4 cq, .int .i64 xy] 33 (0, 0))) := heap_alloc_new w2 _
      obtain ⟨by_, oy, rfl, hzy, d0, d1, d2, d3⟩ := isIs_cells (hd.below hbP)
      generalize hP : w2.heap.size = P at *
      generalize w2.alloc (.cells #[.int .i64 xf, .slice (some ⟨by_, oy, none⟩) 4 cq, .int .i64 xy] 33) = wP at *
      clear hP hd hbP HW2
      have t1 := cell_of_row wP P 1 _ _ _ HTP.out
      simp at t1
      have hat : ∀ w, (Instr.arrayAt 44 (.slice (some ⟨by_, oy, none⟩) 4 cq)).run Try.prog w = .ok (.pointer (some ⟨by_, oy, none⟩)) w := fun w => run_arrayAt w 44 _ 4 _ 4 cq Try.underlying44 (Nat.le_refl _)
      go_upto_region 9 with (simp only [hat])
      have HWQ := Lib.hid (HWP.out.below ((Below.refl _ _).alloc (Nat.le_refl _) (.cells #[.int .i64 y0, .int .i64 y1, .int .i64 y2, .int .i64 y3] 44)))
      have HTQ : Hid ((wP.alloc (.cells #[.int .i64 y0, .int .i64 y1, .int .i64 y2, .int .i64 y3] 44)).heap[wP.heap.size]? = some (.cells #[.int .i64 y0, .int .i64 y1, .int .i64 y2, .int .i64 y3] 44 (0, 0))) := heap_alloc_new wP _
      have HTP2 : Hid ((wP.alloc (.cells #[.int .i64 y0, .int .i64 y1, .int .i64 y2, .int .i64 y3] 44)).heap[P]? = some (.cells #[.int .i64 xf, .slice (some ⟨by_, oy, none⟩) 4 cq, .int .i64 xy] 33 (0, 0))) := (Below.heap_alloc _ _ _ (Array.getElem?_eq_some_iff.1 HTP.out).1).trans HTP.out
      have HQO : Hid ((Value.slice a4 L cp4).ownBlock ≠ some wP.heap.size) := (HWP.out.row.old (Nat.le_refl _)).1
      generalize hQ : wP.heap.size = Q at *
      generalize wP.alloc (.cells #[.int .i64 y0, .int .i64 y1, .int .i64 y2, .int .i64 y3] 44) = wQ at *
      clear hQ hat t1 d0 d1 d2 d3 HTP HWP hzy
      have HE : Hid (∀ W, Below wQ.heap.size wQ W → (W.cell? ⟨P, 0, none⟩ = some (.int .i64 xf) ∧ W.cell? ⟨P, 2, none⟩ = some (.int .i64 xy)) ∧ (W.cell? ⟨Q, 0, none⟩ = some (.int .i64 y0) ∧ W.cell? ⟨Q, 1, none⟩ = some (.int .i64 y1) ∧ W.cell? ⟨Q, 2, none⟩ = some (.int .i64 y2) ∧ W.cell? ⟨Q, 3, none⟩ = some (.int .i64 y3))) := fun W hW => by
        have hp := (hW.block P (Array.getElem?_eq_some_iff.1 HTP2.out).1).trans HTP2.out
        have hq := (hW.block Q (Array.getElem?_eq_some_iff.1 HTQ.out).1).trans HTQ.out
        refine ⟨⟨?_, ?_⟩, ?_, ?_, ?_, ?_⟩
        · rw [cell_of_row W P 0 _ _ _ hp]; rfl
        · rw [cell_of_row W P 2 _ _ _ hp]; rfl
        · rw [cell_of_row W Q 0 _ _ _ hq]; rfl
        · rw [cell_of_row W Q 1 _ _ _ hq]; rfl
        · rw [cell_of_row W Q 2 _ _ _ hq]; rfl
        · rw [cell_of_row W Q 3 _ _ _ hq]; rfl
      refine wp_region_slots 9 [[(6, false)], [(9, false)], [(35, true)], [(10, false)], [(37, true)], [(9, false)], [(39, true)], [(36, true), (38, true), (40, true)], [(41, true)]] (fun w' => Below wQ.heap.size wQ w') (fun w w' => Below w.heap.size w w') (by kernel_rfl) (by kernel_rfl) (by rfl) ((Below.refl _ _).drew) (fun _ _ h hb => below_step h h.size hb) ?_
      iterate 4 (apply slot_eq; · (intro ρ w' ⟨p1, p2, p3⟩ hbl hn; obtain ⟨⟨c0, c2⟩, ⟨d0, d1, d2, d3⟩⟩ := HE.out w' hbl; simp at hn; go_simp; exact ⟨Below.refl _ _, rfl⟩))
      refine slot_fact (ListK wQ.heap.size [y0, y1, y2, y3]) (lasts_listK _ _) ?_ ?_
      · intro ρ w' ⟨p1, p2, p3⟩ hbl hn
        simp at hn
        go_simp
        exact got_call (tkList_any y0 y1 y2 y3 w') fun e w'' ⟨he, hw⟩ => by
          subst hw
          exact ⟨_, he, (Below.refl _ _).alloc (Nat.le_refl _) _, _, rfl, hbl.size, nums4 _ _ _ _ _ _⟩
      iterate 2 (apply slot_eq; · (intro ρ w' ⟨p1, p2, p3⟩ hbl hn; obtain ⟨⟨c0, c2⟩, ⟨d0, d1, d2, d3⟩⟩ := HE.out w' hbl; simp at hn; go_simp; exact ⟨Below.refl _ _, rfl⟩))
      refine slot_fact (PostK wQ.heap.size xf xy [y0, y1, y2, y3]) (lasts_postK _ _ _ _) ?_ ?_
      · intro ρ w' ⟨p1, p2, p3⟩ hbl hn
        simp at hn
        obtain ⟨f1, ⟨g, f2, hg, hng⟩, f3⟩ := hn
        go_simp
        exact ⟨Below.refl _ _, g, rfl, hg, hng⟩
      refine slot_fact (OneK wQ.heap.size xf xy [y0, y1, y2, y3]) (lasts_oneP _ _ _ _) ?_ ?_
      · intro ρ w' ⟨p1, p2, p3⟩ hbl hn
        simp at hn
        obtain ⟨g, f1, hg, hng⟩ := hn
        go_simp
        have hbo : Below w'.heap.size w' (w'.alloc (.cells #[.int .i64 xf, .slice (some ⟨g, 0, none⟩) 4 4, .int .i64 xy] 33)) := (Below.refl _ _).alloc (Nat.le_refl _) _
        exact ⟨hbo, _, g, rfl, by simp, oneP_cells w' 33 ⟨⟨xf, [y0, y1, y2, y3], xy⟩, g, 4⟩, hg, hng.below hbo⟩
      refine slot_end ?_
      intro vs w3 hS3 hF
      simp at hF
      obtain ⟨⟨h1, g, f42, hh1, hc1, hg, hng⟩, f41, f40, f39, f38, f37, f36, f35, f34⟩ := hF
      simp only [List.take_succ_cons, List.take_zero, List.drop_succ_cons, List.drop_zero, putAll, f42, f40, f39, f37, f36, f35, f34]
      clear f42 f41 f40 f39 f38 f37 f36 f35 f34
      simp only [Act.put, List.setIfInBounds_toArray, List.set_cons_succ, List.set_cons_zero]
      have HW3 := Lib.hid (HWQ.out.below hS3)
      have HOW : Hid (w3.ownsRow (w1.heap.size + 1) 33 3 (.slice a4 L cp4) L (es.flatMap psVals)) := by
        have h := HW3.out.row.own
        rw [HLE.out] at h
        exact h
      have HGO : Hid (w1.heap.size + 1 ≤ g ∧ (Value.slice a4 L cp4).ownBlock ≠ some g ∧ (∀ d ∈ es, d.g ≠ g)) := by
        obtain ⟨o1, o2⟩ := HWQ.out.row.old hg
        have := HWQ.out.lt
        exact ⟨by omega, o1, o2⟩
      have HNG := Lib.hid hng
      have HCL := Lib.hid hc1
      have HQ3 : Hid (w3.heap[Q]? = some (.cells #[.int .i64 y0, .int .i64 y1, .int .i64 y2, .int .i64 y3] 44 (0, 0))) := (hS3.block Q (Array.getElem?_eq_some_iff.1 HTQ.out).1).trans HTQ.out
      have hsz7 : w1.heap.size + 1 ≤ w3.heap.size := HW3.out.lt
      obtain ⟨ii, hii, hxi⟩ := Option.map_eq_some_iff.1 infoPst
      simp only [Prod.mk.injEq] at hxi
      have HII := Lib.hid hii
      have HXI := Lib.hid hxi
      clear hii hxi hS3 hng hc1 hg hh1 HE HTP2 HTQ HWQ
      go_wp2_with (at_builtin; refine wpList_append_lies _ (by rfl) _ _ _ (by rfl) (w1.heap.size + 1) 33 ii (postV 0 none 0 0 0) 3 40 Try.underlying24 HII.out HXI.out.1 HXI.out.2.1 HXI.out.2.2 (by rfl) (by omega) (.slice a4 L cp4) L (es.flatMap psVals) (by rfl) HOW.out ⟨h1, 0, none⟩ 1 1 (psVals ⟨⟨xf, [y0, y1, y2, y3], xy⟩, g, 4⟩) (by rfl) (by rfl) HCL.out (by simpa using psVals_one [⟨⟨xf, [y0, y1, y2, y3], xy⟩, g, 4⟩]) (by omega) (by unfold maxLen; omega) (by omega) (by simpa using hsz7) _ rfl ?_; intro g8 cp8 w8 hown8 hgrow8 hg8 _; refine Hid.out ?_)
      refine Lib.hid ?_
      have HX8 : Hid (InX w1 w8 x0 x1 x2 x3 (outC ps L ++ [⟨xf, [y0, y1, y2, y3], xy⟩]) (.slice (some ⟨g8, 0, none⟩) (L + 1) cp8) (es ++ [⟨⟨xf, [y0, y1, y2, y3], xy⟩, g, 4⟩])) := by
        have h := HW3.out.toInX.more (e := ⟨⟨xf, [y0, y1, y2, y3], xy⟩, g, 4⟩) (g5 := g8) (cap5 := cp8) (w5 := w8) ⟨HGO.out.1, HGO.out.2.1, HNG.out⟩ HGO.out.2.2 (by rw [HLE.out]; exact hown8) hgrow8 hg8
        rw [HLE.out] at h
        exact h
      have HQ8 : Hid (w8.heap[Q]? = some (.cells #[.int .i64 y0, .int .i64 y1, .int .i64 y2, .int .i64 y3] 44 (0, 0))) := (hgrow8.block Q (Array.getElem?_eq_some_iff.1 HQ3.out).1 fun e => HQO.out e.symm).trans HQ3.out
      have HS8 : Hid (w8.heap[S]? = some (.cells #[.int .i64 x0, .int .i64 x1, .int .i64 x2, .int .i64 x3] 44 (0, 0))) := by
        rw [← HS.out]
        exact HX8.out.seen
      have c0 := cell_of_row w8 S 0 _ _ _ HS8.out
      have c1 := cell_of_row w8 S 1 _ _ _ HS8.out
      have c2 := cell_of_row w8 S 2 _ _ _ HS8.out
      have c3 := cell_of_row w8 S 3 _ _ _ HS8.out
      have d0 := cell_of_row w8 Q 0 _ _ _ HQ8.out
      have d1 := cell_of_row w8 Q 1 _ _ _ HQ8.out
      have d2 := cell_of_row w8 Q 2 _ _ _ HQ8.out
      have d3 := cell_of_row w8 Q 3 _ _ _ HQ8.out
      simp at c0 c1 c2 c3 d0 d1 d2 d3
      clear hown8 hgrow8 hg8 HOW HCL HQ3 HW3 HII HXI HNG HGO hsz7
      go_wp2_with fail
      refine (tkJoin_any x0 x1 x2 x3 y0 y1 y2 y3 _).mono ?_
      rintro e w9 ⟨rfl, hb⟩
      have HX9 := Lib.hid (HX8.out.below hb)
      have HW9 : Hid (InW w1 (put4 w9 S (max x0 y0) (max x1 y1) (max x2 y2) (max x3 y3)) ps (L + 1) (.slice (some ⟨g8, 0, none⟩) (L + 1) cp8) (es ++ [⟨⟨xf, [y0, y1, y2, y3], xy⟩, g, 4⟩]) (max x0 y0) (max x1 y1) (max x2 y2) (max x3 y3)) := by
        refine ⟨?_, HGM.out, by rw [HRN.out, HJN.out]⟩
        rw [HON.out, ← HS.out]
        exact HX9.out.turn _ _ _ _
      have HS9 : Hid (w9.heap[S]? = some (.cells #[.int .i64 x0, .int .i64 x1, .int .i64 x2, .int .i64 x3] 44 (0, 0))) := by
        rw [← HS.out]
        exact HX9.out.seen
      clear hb c0 c1 c2 c3 d0 d1 d2 d3 HX8 HX9 HQ8 HS8
      generalize (max x0 y0) = m0 at *
      generalize (max x1 y1) = m1 at *
      generalize (max x2 y2) = m2 at *
      generalize (max x3 y3) = m3 at *
      have c0 := cell_of_row w9 S 0 _ _ _ HS9.out
      have c1 := cell_of_row w9 S 1 _ _ _ HS9.out
      have c2 := cell_of_row w9 S 2 _ _ _ HS9.out
      have c3 := cell_of_row w9 S 3 _ _ _ HS9.out
      have f0 := frozen_of_row w9 S 0 _ _ HS9.out
      have f1 := frozen_of_row w9 S 1 _ _ HS9.out
      have f2 := frozen_of_row w9 S 2 _ _ HS9.out
      have f3 := frozen_of_row w9 S 3 _ _ HS9.out
      simp at c0 c1 c2 c3
      go_wp2
      exact ⟨⟨L + 1, _, _, m0, m1, m2, m3, rfl, HW9⟩, by simp [lenV]; omega⟩
    · rw [show decide (q < len) = false from decide_eq_false hlt]
      have HE : Hid (firstC (runC ps L).2 ps = ps.length) := by
        rw [HQ.out, HL.out]
        exact Lib.hid (by omega)
      have hb0 : w2.heap[w.heap.size]? = some (.cells #[.slice none 0 0] 28 (0, 0)) := (HW2.out.low.block _ HZ1.out).trans H01.out
      have z0 := (Array.getElem?_eq_some_iff.1 hb0).1
      have q0 := (cells_one hb0).1
      have f0 := (cells_one hb0).2.1
      have HZ0 := Lib.hid z0
      clear hb0
      go_wp2_with fail
      refine (tkList_any _ _ _ _ _).mono ?_
      rintro e w3 ⟨rfl, rfl⟩
      go_wp2
      refine bodyPost_ret (v := .tuple #[.slice a4 L cp4, vecV (some ⟨w2.heap.size, 0, none⟩) 4 4]) (by simp only [results, hres]; go_simp) rfl ?_
      have hlow := below_step HB1.out HB1.out.size HW2.out.low
      have hlt1 := HZ1.out
      obtain ⟨o1, o2⟩ := HW2.out.row.old (Nat.le_refl _)
      have hnm := nums4 (w2.setCell ⟨w.heap.size, 0, none⟩ (.slice (some ⟨w2.heap.size, 0, none⟩) 4 4)) x0 x1 x2 x3 44
      rw [show (w2.setCell ⟨w.heap.size, 0, none⟩ (.slice (some ⟨w2.heap.size, 0, none⟩) 4 4)).heap.size = w2.heap.size by simp] at hnm
      refine ⟨L, _, es, w2.heap.size, 4, HW2.out.go, HE.out, rfl, ?_, HW2.out.ours, by rw [HW2.out.vec]; exact hnm, by omega, o1, o2, ?_⟩
      · exact ((HW2.out.row.set (p := ⟨w.heap.size, 0, none⟩) (by show w.heap.size < w1.heap.size + 1; omega) _).below ((Below.refl _ _).alloc (Nat.le_refl _) _)).mono (by omega)
      · exact (hlow.setCell (p := ⟨w.heap.size, 0, none⟩) (Nat.le_refl _) _).alloc (by have := hlow.size; simpa using this) _

end Go.Proofs.Ytpejdhbajejmoaa

/- The laws' same over lists of numbers: whether two lists are one. -/
namespace Go.Proofs.Ytpejdhbajejmoaa
open Go.ChangeShapes Go.WideShapes Go.ChangeAt Go.RowKit Go.Joins
attribute [local go_sem ↓] Go.wp_at_zero Go.wp_at_succ

theorem same_lists {xs ys : List Int} (hl : xs.length = ys.length) (h : ∀ k, k < xs.length → xs.getD k 0 = ys.getD k 0) : xs = ys := by
  apply List.ext_getElem hl
  intro i h1 h2
  have := h i h1
  simpa [List.getD, h1, h2] using this

set_option maxRecDepth 100000 in
set_option maxHeartbeats 2000000 in
theorem same_dec (a a' : Option Addr) (cap cap' : Nat) (xs ys : List Int) (w : World) (hm : xs.length ≤ 1048576) (hm' : ys.length ≤ 1048576) (hh : IsIs w a xs) (hh' : IsIs w a' ys) :
    Calls Try.prog 8 #[.slice a xs.length cap, .slice a' ys.length cap'] w fun e w' => e = .returned (.bool (decide (xs = ys))) ∧ Below w.heap.size w w' := by
  have HH : Hid (IsIs w a xs) := hh
  have HH' : Hid (IsIs w a' ys) := hh'
  clear hh hh'
  obtain ⟨d, hd⟩ : ∃ d, decide (xs = ys) = d := ⟨_, rfl⟩
  rw [hd]
  obtain ⟨n, hn⟩ : ∃ n, xs.length = n := ⟨_, rfl⟩
  obtain ⟨n', hn'⟩ : ∃ n, ys.length = n := ⟨_, rfl⟩
  rw [hn] at hm ⊢
  rw [hn'] at hm' ⊢
  have HN := Lib.hid hn
  have HN' := Lib.hid hn'
  have HD := Lib.hid hd
  clear hn hn' hd
  by_cases hq : n = n'
  · subst hq
    go_enter Try.func8, Try.ntmps8
    go_wp2
    go_loopw [5] (fun i wr => ∃ k : Nat, k ≤ n ∧ i = .int .i64 k ∧ Hid (∀ j, j < k → xs.getD j 0 = ys.getD j 0) ∧ Hid (Below w.heap.size w wr)) (fun i _ => n - (intOf i).toNat)
    case atStart => exact ⟨0, Nat.zero_le _, rfl, fun j hj => absurd hj (Nat.not_lt_zero j), Below.refl _ _⟩
    case round =>
      obtain ⟨k, hk, rfl, HE, HB⟩ := hrel
      by_cases hk' : k < n
      · obtain ⟨b, o, rfl, hz, e0⟩ := HH.out.at HB.out (show k < xs.length by rw [HN.out]; exact hk')
        obtain ⟨b', o', rfl, hz', f0⟩ := HH'.out.at HB.out (show k < ys.length by rw [HN'.out]; exact hk')
        have i1 : (0 : Int) ≤ (k : Int) := by omega
        have i2 : (k : Int) < (n : Int) := by omega
        clear HH HH'
        by_cases hxy : xs.getD k 0 = ys.getD k 0
        · have HE2 : Hid (∀ j, j < k + 1 → xs.getD j 0 = ys.getD j 0) := fun j hj => by
            by_cases h : j < k
            · exact HE.out j h
            · have : j = k := by omega
              rw [this]
              exact hxy
          rw [← hxy] at f0
          clear hxy
          generalize xs.getD k 0 = x at *
          go_wp2_with fail
          have ge0 := aft_cell hz e0
          have gf0 := aft_cell hz' f0
          have ne := aft_some wr
          refine wp_region_aft (by kernel_rfl) (by kernel_rfl) ?_
          repeat (first | go_big_quiet_step (fail))
          refine wpQuiet_nil ?_
          intro wq hq
          have HBQ : Hid (Below w.heap.size w wq) := below_step HB.out HB.out.size hq
          clear hq
          go_wp2
          exact ⟨⟨k + 1, by omega, by go_num, HE2, HBQ⟩, by simp [intOf]; omega⟩
        · have HF : Hid (d = false) := by
            show d = false
            rw [← HD.out]
            exact decide_eq_false fun e => hxy (by rw [e])
          generalize xs.getD k 0 = x at *
          generalize ys.getD k 0 = y at *
          have hb1 : (x == y) = false := by simpa using hxy
          have hb2 : (x != y) = true := by simpa using hxy
          clear hxy
          go_wp2_with fail
          have ge0 := aft_cell hz e0
          have gf0 := aft_cell hz' f0
          have ne := aft_some wr
          refine wp_region_aft (by kernel_rfl) (by kernel_rfl) ?_
          repeat (first | go_big_quiet_step (fail))
          refine wpQuiet_nil ?_
          intro wq hq
          have HBQ : Hid (Below w.heap.size w wq) := below_step HB.out HB.out.size hq
          clear hq
          go_wp2
          go_ret
          exact ⟨by rw [HF.out]; rfl, HBQ.out⟩
      · have hkk : k = n := by omega
        subst hkk
        have HT : Hid (d = true) := by
          show d = true
          rw [← HD.out]
          exact decide_eq_true (same_lists (by rw [HN.out, HN'.out]) (fun j hj => HE.out j (by rw [HN.out] at hj; exact hj)))
        go_wp2
        go_ret
        exact ⟨by rw [HT.out]; rfl, HB.out⟩
  · have HF : Hid (d = false) := by
      show d = false
      rw [← HD.out]
      exact decide_eq_false fun e => hq (by rw [← HN.out, ← HN'.out, e])
    have h1 : ((n : Int) != (n' : Int)) = true := by simp; omega
    go_enter Try.func8, Try.ntmps8
    go_wp2
    go_ret
    exact ⟨by rw [HF.out]; rfl, Below.refl _ _⟩

end Go.Proofs.Ytpejdhbajejmoaa

/- The laws' own big; a row's bytes, opened. -/
namespace Go.Proofs.Ytpejdhbajejmoaa
open Go.ChangeShapes Go.WideShapes Go.ChangeAt Go.RowKit Go.Joins

namespace lawBytes

set_option maxRecDepth 100000 in
theorem big_is (a : Option Addr) (len cap : Nat) (r : Bool) (h : decide (1048576 < len) = r) (hm : len ≤ maxLen) (w : World) :
    Calls Try.prog 4 #[.slice a len cap] w fun e w' => e = .returned (.bool r) ∧ w' = w := by
  unfold maxLen at hm
  cases r
  · have h' : len ≤ 1048576 := by simpa using h
    clear h
    go_enter Try.func4, Try.ntmps4
    go_wp2
    go_ret
    exact ⟨by simp; omega, rfl⟩
  · have h' : 1048576 < len := by simpa using h
    clear h
    go_enter Try.func4, Try.ntmps4
    go_wp2
    go_ret
    exact ⟨by simp; omega, rfl⟩

set_option maxRecDepth 100000 in
theorem open_bytes {H : Type} {enc : TypeId × Value → H} {w : World} {base b0 : Nat} {held : Bool} {r : Go.Reach} {v : Value} {d : DataW H} {p : List MemPlace} (hv : Value.okWide Try.prog w r b0 22 v) (h : DataW.Trod enc Try.prog w base (fun _ => true) held 22 v d p) :
    ∃ (a : Option Addr) (len cap : Nat), v = .slice a len cap ∧ (len ≤ maxLen ∧ Bytes w a len) := by
  obtain ⟨a, len, cap, rfl⟩ := okWide_slice Try.underlying22 hv
  obtain ⟨fuel, hf⟩ := h
  refine ⟨a, len, cap, rfl, ?_⟩
  rcases open_ints Try.underlying22 Try.underlying5 (by kernel_rfl) hf with ⟨hcs, _⟩ | ⟨x, l, c, zs, hcs, _, hl, hm, hz, _, hcell, hwz⟩
  · simp [Value.cells] at hcs
    obtain ⟨rfl, rfl, rfl⟩ := hcs
    exact ⟨Nat.zero_le _, .inl rfl⟩
  · simp [Value.cells] at hcs
    obtain ⟨rfl, rfl, rfl⟩ := hcs
    refine ⟨by omega, ?_⟩
    by_cases h0 : len = 0
    · exact .inl h0
    · have hzl : zs.length = cap := by simpa using hz
      have hx : x = ⟨x.block, x.off, none⟩ := by
        have h1 := hcell 0 (by omega)
        simp [Addr.add] at h1
        cases x with
        | mk b o s =>
          cases s with
          | none => rfl
          | some s =>
            simp only [World.cell?] at h1
            split at h1 <;> simp at h1
      refine .inr ⟨x.block, x.off, by rw [← hx], ?_, fun i hi => ?_⟩
      · have h1 := hcell 0 (by omega)
        have := World.block_lt_of_cell? w _ h1
        simpa [Addr.add] using this
      · have h1 := hcell i (by omega)
        have hw : (Lit.int .u8 (zs.getD i 0)).wf = true := hwz _ (by rw [List.getD_eq_getElem?_getD, List.getElem?_eq_getElem (by omega)]; exact List.getElem_mem _)
        have hb := bounds_u8 hw
        refine ⟨zs.getD i 0, hb.1, hb.2, ?_⟩
        rw [hx] at h1
        have e : (Addr.mk x.block x.off none).add i = ⟨x.block, x.off + i, none⟩ := by
          unfold Addr.add
          split
          · rename_i h
            rw [h]
            rfl
          · rfl
        rw [e] at h1
        exact h1

end lawBytes

end Go.Proofs.Ytpejdhbajejmoaa

/- The laws' own pick. -/
namespace Go.Proofs.Ytpejdhbajejmoaa
open Go.ChangeShapes Go.WideShapes Go.ChangeAt Go.RowKit Go.Joins

theorem tmodB_nat (a b : Nat) : Int.tmod ((a : Nat) : Int) (b : Int) = ((a % b : Nat) : Int) := rfl

set_option maxRecDepth 100000 in
set_option maxHeartbeats 2000000 in
theorem pickB_any (a : Option Addr) (len cap n : Nat) (w : World) (h : Bytes w a len) (hl : len ≤ 1048576) (hn : n ≤ 100000) :
    Calls Try.prog 11 #[.slice a len cap, .int .i64 1, .int .i64 n] w fun e w' => ∃ k : Nat, e = .returned (.int .i64 (k : Int)) ∧ (1 ≤ n → k < n) ∧ w' = w := by
  have HY := Lib.hid h
  clear h
  go_enter Try.func11, Try.ntmps11
  by_cases h0 : len = 0
  · subst h0
    go_wp2
    go_ret
    exact ⟨0, rfl, fun h => h, rfl⟩
  by_cases h1 : n < 2
  · have e0 : ¬ ((len : Int) = 0) := by omega
    have e1 : (n : Int) < 2 := by omega
    go_wp2
    go_ret
    exact ⟨0, rfl, fun h => h, rfl⟩
  have e0 : ¬ ((len : Int) = 0) := by omega
  have e1 : ¬ ((n : Int) < 2) := by omega
  have e2 : ¬ ((n : Int) = 0) := by omega
  obtain ⟨b, o, rfl, hbl, hby⟩ := HY.out.resolve_left h0
  have HBY := Lib.hid hby
  clear hby HY
  go_wp2
  go_loopw [7, 8] (fun x i wr => ∃ k y : Nat, i = .int .i64 k ∧ x = .int .i64 y ∧ (k = 0 ∧ y = 0 ∨ k = 1 ∧ y ≤ 255 ∨ k = 2 ∧ y ≤ 8160 ∨ k = 3 ∧ y ≤ 253215) ∧ wr = w) (fun _ i _ => 3 - (intOf i).toNat)
  case atStart => exact ⟨0, 0, rfl, rfl, .inl ⟨rfl, rfl⟩, rfl⟩
  case round =>
    obtain ⟨k, y, rfl, rfl, hy, rfl⟩ := hrel
    by_cases hk : k < 3
    · have hlen : 0 < len := by omega
      have hmod : Int.tmod (1 + (k : Int)) (len : Int) = (((1 + k) % len : Nat) : Int) := tmodB_nat (1 + k) len
      obtain ⟨q, hq⟩ : ∃ q, (1 + k) % len = q := ⟨_, rfl⟩
      rw [hq] at hmod
      have hql : q < len := by rw [← hq]; exact Nat.mod_lt _ hlen
      clear hq
      have i1 : (0 : Int) ≤ (q : Int) := by omega
      have i2 : (q : Int) < (len : Int) := by omega
      obtain ⟨z, z0, z1, hz⟩ := HBY.out q hql
      have i3 : (k : Int) < 3 := by omega
      have hwz : wrap64 z = z := by unfold wrap64; omega
      go_wp2
      refine ⟨⟨k + 1, 31 * y + z.toNat, by go_num, ?_, by omega, trivial⟩, by simp [intOf]; omega⟩
      congr 1
      omega
    · have i3 : ¬ ((k : Int) < 3) := by omega
      have hmod : Int.tmod ((y : Int) + 1) (n : Int) = (((y + 1) % n : Nat) : Int) := tmodB_nat (y + 1) n
      have hml : (y + 1) % n < n := Nat.mod_lt _ (by omega)
      go_wp2
      go_ret
      exact ⟨_, rfl, fun _ => hml, rfl⟩

end Go.Proofs.Ytpejdhbajejmoaa
