/- Events of one's own, marked: the contracts of markEventS and heldEventS. -/
import Derived.Test.YtomndnopbpbblaaPack13
namespace Go.Proofs.Ytomndnopbpbblaa
open Go.ChangeShapes Go.WideShapes Go.ChangeAt Go.RowKit Go.Joins
attribute [local go_sem ↓] Go.wp_at_zero Go.wp_at_succ

theorem OwnG.apart {w w' : World} {S : Nat → Prop} {base b : Nat} {ws : List Wr} {γ : Nat → Nat} (h : OwnG w base b ws γ) (ho : Only S w w') (h1 : ¬ S b) (h2 : ∀ i, i < ws.length → 0 < (ws.getD i wz).xs.length → ¬ S (γ i)) : OwnG w' base b ws γ where
  lt := by rw [ho.size]; exact h.lt
  le := h.le
  open_ := fun o => (ho.frozen _).trans (h.open_ o)
  at_ := fun i hi => by
    obtain ⟨a, cap, h3, h4⟩ := h.at_ i hi
    exact ⟨a, cap, h3.of_block (ho.block b h1), h4⟩
  deps := fun i hi hp => by
    obtain ⟨q1, q2, q3, q4, q5⟩ := h.deps i hi hp
    have hb : w'.heap[γ i]? = w.heap[γ i]? := ho.block _ (h2 i hi hp)
    have e' : ∀ o, w'.cell? ⟨γ i, o, none⟩ = w.cell? ⟨γ i, o, none⟩ := fun o => World.cell?_of_block (a := ⟨γ i, o, none⟩) hb
    exact ⟨q1, by rw [ho.size]; exact q2, q3, fun j hj => ⟨(e' _).trans (q4 j hj).1, (e' _).trans (q4 j hj).2.1, (e' _).trans (q4 j hj).2.2.1, (e' _).trans (q4 j hj).2.2.2⟩, fun o => (ho.frozen _).trans (q5 o)⟩
  inj := h.inj

theorem OwnA.apart {w w' : World} {S : Nat → Prop} {lo hi : Nat} {a : Option Addr} {ws : List Wr} {γ : Nat → Nat} (h : OwnA w lo hi a ws γ) (ho : Only S w w') (hS : ∀ x, S x → x < lo ∨ hi ≤ x) : OwnA w' lo hi a ws γ := by
  rcases h with h | ⟨b, h1, h2, h3, h4⟩
  · exact .inl h
  · refine .inr ⟨b, h1, h2.apart ho (fun e => ?_) (fun i hi hp e => ?_), h3, h4⟩
    · have := hS b e
      have := h2.le
      omega
    · have := hS _ e
      have := (h2.deps i hi hp).1
      have := h4 i hi hp
      omega

/-- How far the marks have come behind these events. -/
def markKE (es : List EvB) (k : Int) : Int := es.foldl (fun k e => markK e.b.ws (k + 1 + 1 + 1) e.b.ws.length) k

theorem markKE_take (es : List EvB) (k : Int) {i : Nat} (h : i < es.length) : markKE (es.take (i + 1)) k = markK (es.getD i ebz).b.ws (markKE (es.take i) k + 1 + 1 + 1) (es.getD i ebz).b.ws.length := by
  unfold markKE
  have e : es.take (i + 1) = es.take i ++ [es.getD i ebz] := by
    rw [List.take_add_one, List.getElem?_eq_getElem h]
    simp [List.getD, h]
  rw [e, List.foldl_append]
  rfl

/-- All that is marked stays within bounds. -/
def TameE (es : List EvB) (k : Int) : Prop := (∀ i, i < es.length → (es.getD i ebz).b.ws.length ≤ 1048576 ∧ bulk (es.getD i ebz).b.ws ≤ 1048576) ∧ ∀ i, i ≤ es.length → 0 ≤ markKE (es.take i) k ∧ markKE (es.take i) k ≤ 1073741800

theorem markKE_bd : ∀ (es : List EvB) (k : Int), k ≤ markKE es k ∧ markKE es k ≤ k + 3 * (es.length : Int) + 6 * (heftB (evW (evsOf es)) : Int)
  | [], k => by simp [markKE, evsOf, evW, heftB]
  | e :: r, k => by
    have h1 := markK_bd e.b.ws (k + 1 + 1 + 1)
    have h2 := markKE_bd r (markK e.b.ws (k + 1 + 1 + 1) e.b.ws.length)
    have e1 : markKE (e :: r) k = markKE r (markK e.b.ws (k + 1 + 1 + 1) e.b.ws.length) := rfl
    have e2 : heftB (evW (evsOf (e :: r))) = e.b.ws.length + bulk e.b.ws + heftB (evW (evsOf r)) := rfl
    rw [e1, e2]
    generalize markK e.b.ws (k + 1 + 1 + 1) e.b.ws.length = m at *
    simp only [List.length_cons]
    push_cast at *
    omega

theorem tameE_heft {es : List EvB} {k : Int} (hk : 0 ≤ k) (hk2 : k ≤ 1000000000) (h : heftB (evW (evsOf es)) ≤ 1048576) (hl : es.length ≤ 1048576) : TameE es k := by
  refine ⟨fun i hi => ?_, fun i hi => ?_⟩
  · have h1 := heft_one (evW (evsOf es)) i (by rw [evW_len, evsOf_len]; exact hi)
    rw [evW_get _ (by rw [evsOf_len]; exact hi), evsOf_get es hi] at h1
    simp only [evOf] at h1
    omega
  · have h3 := markKE_bd (es.take i) k
    have h4 : evW (evsOf (es.take i)) = (evW (evsOf es)).take i := by simp [evsOf, evW]
    rw [h4] at h3
    have h5 := heft_part (evW (evsOf es)) i
    have h6 : (es.take i).length ≤ es.length := by simp; omega
    omega

/-- Field c of an event that is marked from k on. -/
def markF (e : EvB) (k : Int) (c : Nat) : Value := if c = 0 then .int .i64 k else if c = 1 then .bool ((k + 1) % 3 == 0) else if c = 2 then .int .i64 (k + 1 + 1) else batV e.b

/-- The row while it is being marked: of its events the first j are. -/
def MarkRow (f : Nat → Value) (es : List EvB) (k : Int) (j : Nat) : Prop := ∀ i, i < es.length → ∀ c, c < 4 → f (i * 4 + c) = if i < j then markF (es.getD i ebz) (markKE (es.take i) k) c else fieldE (es.getD i ebz) c

abbrev mark3 (w : World) (b o : Nat) (m : Int) : World := ((w.setCell ⟨b, o, none⟩ (.int .i64 m)).setCell ⟨b, o + 1, none⟩ (.bool ((m + 1) % 3 == 0))).setCell ⟨b, o + 2, none⟩ (.int .i64 (m + 1 + 1))

theorem MarkRow.step {f g : Nat → Value} {es : List EvB} {k m : Int} {j : Nat} (h : MarkRow f es k j) (hm : markKE (es.take j) k = m) (hg : ∀ o, g o = if o = j * 4 + 2 then .int .i64 (m + 1 + 1) else if o = j * 4 + 1 then .bool ((m + 1) % 3 == 0) else if o = j * 4 then .int .i64 m else f o) : MarkRow g es k (j + 1) := by
  intro i hi c hc
  by_cases hij : i = j
  · subst hij
    rw [if_pos (by omega), hm]
    have h4 : c = 0 ∨ c = 1 ∨ c = 2 ∨ c = 3 := by omega
    rcases h4 with rfl | rfl | rfl | rfl
    · rw [hg, if_neg (by omega), if_neg (by omega), if_pos (by omega)]
      rfl
    · rw [hg, if_neg (by omega), if_pos (by omega)]
      rfl
    · rw [hg, if_pos (by omega)]
      rfl
    · rw [hg, if_neg (by omega), if_neg (by omega), if_neg (by omega), h i hi 3 (by omega), if_neg (by omega)]
      rfl
  · rw [hg, if_neg (by omega), if_neg (by omega), if_neg (by omega), h i hi c hc]
    by_cases hl : i < j
    · rw [if_pos hl, if_pos (by omega)]
    · rw [if_neg hl, if_neg (by omega)]

/-- Events that are marked from k on. -/
def MarkedE (w : World) (a : Option Addr) (es : List EvB) (k : Int) : Prop := es = [] ∨ ∃ b N f, a = some ⟨b, 0, none⟩ ∧ w.rowIs b 59 N f ∧ es.length * 4 ≤ N ∧ MarkRow f es k es.length ∧ ∀ i, i < es.length → MarkedA w (es.getD i ebz).b.a (es.getD i ebz).b.ws (es.getD i ebz).b.γ (markKE (es.take i) k + 1 + 1 + 1)

theorem MarkedE.below {w w' : World} {a : Option Addr} {es : List EvB} {k : Int} (h : MarkedE w a es k) (hb : Below w.heap.size w w') : MarkedE w' a es k := by
  rcases h with h | ⟨b, N, f, h1, h2, h3, h4, h5⟩
  · exact .inl h
  · exact .inr ⟨b, N, f, h1, h2.of_block (hb.block b h2.lt), h3, h4, fun i hi => (h5 i hi).below hb⟩

set_option maxRecDepth 100000 in
set_option maxHeartbeats 4000000 in
theorem markEventS_any (lo hi n cap : Nat) (a : Option Addr) (k : Int) (es : List EvB) (w : World) (hn : es.length = n) (hm : n ≤ 1048576) (ht : TameE es k) (ho : OwnE w lo hi a es) :
    Calls Try.prog 14 #[.slice a n cap, .int .i64 k] w fun e w' => e = .returned (.int .i64 (markKE es k)) ∧ MarkedE w' a es k ∧ Only (Span lo hi) w w' := by
  by_cases hz : n = 0
  · subst hz
    have he : es = [] := List.length_eq_zero_iff.1 hn
    subst he
    clear ho hn ht
    go_enter Try.func14, Try.ntmps14
    go_wp2
    go_loopw [1, 5] (fun l i wr => i = .int .i64 0 ∧ l = .int .i64 k ∧ wr = w) (fun _ _ _ => 0)
    case atStart => exact ⟨rfl, rfl, rfl⟩
    case round =>
      obtain ⟨rfl, rfl, rfl⟩ := hrel
      go_wp2
      go_ret
      exact ⟨rfl, .inl rfl, Only.refl _ _⟩
  · obtain ⟨b, N, f0, rfl, hlo, hhi, hrow, hN, hin, hla, hpw⟩ : ∃ b N f, a = some ⟨b, 0, none⟩ ∧ lo ≤ b ∧ b < hi ∧ w.rowIs b 59 N f ∧ es.length * 4 ≤ N ∧ EvsIn f es ∧ LaidE w lo hi b es := by
      rcases ho with h | h
      · rw [h] at hn
        exact absurd hn.symm hz
      · exact h
    have HROW := Lib.hid hrow
    have HIN : Hid (MarkRow f0 es k 0) := fun i hi c hc => by rw [if_neg (by omega)]; exact hin i hi c hc
    have HOW := Lib.hid hla
    have HPW := Lib.hid hpw
    have HT := Lib.hid ht
    have HN := Lib.hid hn
    clear hin hla hpw ht hn ho hrow
    go_enter Try.func14, Try.ntmps14
    go_wp2
    go_loopw [1, 5] (fun l i wr => ∃ (j : Nat) (f : Nat → Value), j ≤ n ∧ i = .int .i64 j ∧ l = .int .i64 (markKE (es.take j) k) ∧ Hid (wr.rowIs b 59 N f) ∧ Hid (MarkRow f es k j) ∧ Hid (∀ i, i < j → MarkedS wr (es.getD i ebz).b (markKE (es.take i) k + 1 + 1 + 1)) ∧ Hid (∀ i, j ≤ i → i < n → OwnA wr (es.getD i ebz).b.lo (es.getD i ebz).b.hi (es.getD i ebz).b.a (es.getD i ebz).b.ws (es.getD i ebz).b.γ) ∧ Hid (Only (Span lo hi) w wr)) (fun _ i _ => n - (intOf i).toNat)
    case atStart => exact ⟨0, f0, Nat.zero_le _, rfl, rfl, HROW, HIN, fun i h => absurd h (Nat.not_lt_zero i), fun i _ h => (HOW.out i (by rw [HN.out]; exact h)).2.2.2, Only.refl _ _⟩
    case round =>
      obtain ⟨j, f, hj, rfl, rfl, HA, HR, HM, HO, HL⟩ := hrel
      by_cases hj' : j < n
      · have hjj : j < es.length := by rw [HN.out]; exact hj'
        have i1 : (0 : Int) ≤ (j : Int) := by omega
        have i2 : (j : Int) < (n : Int) := by omega
        have hj4 : j * 4 + 3 < N := by omega
        have c0 := HA.out.cell (i := j * 4) (by omega)
        have c1 := HA.out.cell (i := j * 4 + 1) (by omega)
        have c2 := HA.out.cell (i := j * 4 + 2) (by omega)
        have c3 : wr.cell? ⟨b, j * 4 + 3, none⟩ = some (batV (es.getD j ebz).b) := by
          rw [HA.out.cell (i := j * 4 + 3) hj4, HR.out j hjj 3 (by omega), if_neg (by omega)]
          rfl
        have fz := HA.out.frozen
        unfold batV at c3
        obtain ⟨b1, b2⟩ := HT.out.1 j hjj
        obtain ⟨t1, t2⟩ := HT.out.2 j (by omega)
        have HK := Lib.hid (markKE_take es k hjj)
        have HE := Lib.hid (HO.out j (Nat.le_refl _) hj')
        have HI := Lib.hid (HOW.out j hjj)
        obtain ⟨kk, hkk⟩ : ∃ kk, markKE (es.take j) k = kk := ⟨_, rfl⟩
        have HRW : Hid ((mark3 wr b (j * 4) kk).rowIs b 59 N _) := ((HA.out.set (j * 4) _).set (j * 4 + 1) _).set (j * 4 + 2) _
        have HR2 := Lib.hid (HR.out.step hkk fun _ => rfl)
        rw [hkk] at t1 t2 HK ⊢
        have HKK := Lib.hid hkk
        obtain ⟨x, hx⟩ : ∃ x, es.getD j ebz = x := ⟨_, rfl⟩
        rw [hx] at c3 b1 b2 HK HE HI
        have HX := Lib.hid hx
        clear hkk hx HR
        obtain ⟨xs, xsh, xm, xw, xa, xc, xl, xh, xg⟩ := x
        simp only at c3 b1 b2 HK HE HI
        obtain ⟨q, hq⟩ : ∃ q, xw.length = q := ⟨_, rfl⟩
        rw [hq] at c3 b1 HK
        have HQ := Lib.hid hq
        clear hq
        obtain ⟨k3, hk3⟩ : ∃ k3, markK xw (kk + 1 + 1 + 1) q = k3 := ⟨_, rfl⟩
        rw [hk3] at HK
        have HK3 := Lib.hid hk3
        clear hk3
        have HO3 : Hid (Only (fun x => x = b) wr (mark3 wr b (j * 4) kk)) := Only.set (S := fun x => x = b) (Only.set (S := fun x => x = b) (Only.set (S := fun x => x = b) (Only.refl _ wr) rfl _ _) rfl _ _) rfl _ _
        have HE3 : Hid (OwnA (mark3 wr b (j * 4) kk) xl xh xa xw xg) := by
          refine HE.out.apart HO3.out fun x hx => ?_
          have h1 := HI.out.2.2.1
          subst hx
          exact h1
        go_wp2_with fail
        refine (markWriteS_all xl xh q xc xa (kk + 1 + 1 + 1) xw xg _ HQ.out b1 b2 (by omega) (by omega) HE3.out).mono ?_
        rintro e w2 ⟨rfl, hmk, ho⟩
        rw [HK3.out]
        have hnb : ¬ Span xl xh b := fun hx => by have h1 := HI.out.2.2.1; have h2 := hx.1; have h3 := hx.2; omega
        have HA2 := Lib.hid (HRW.out.of_block (ho.block b hnb))
        have HXL : Hid ((es.getD j ebz).b.lo = xl ∧ (es.getD j ebz).b.hi = xh) := by rw [HX.out]; exact ⟨rfl, rfl⟩
        have HM2 : Hid (∀ i, i < j + 1 → MarkedS w2 (es.getD i ebz).b (markKE (es.take i) k + 1 + 1 + 1)) := fun i hi => by
          by_cases hij : i < j
          · exact ((HM.out i hij).only HO3.out fun x hx => by have h1 := (HOW.out i (by omega)).2.2.1; subst hx; exact h1).only ho fun x hx => .inr (by have h1 := HPW.out i j hij hjj; have h2 := hx.1; have h3 := HXL.out.1; omega)
          · obtain rfl : i = j := by omega
            rw [HX.out, HKK.out]
            exact OwnA.marked (e := ⟨xw, xa, xc, xl, xh, xg⟩) HE.out hmk
        have HO2 : Hid (∀ i, j + 1 ≤ i → i < n → OwnA w2 (es.getD i ebz).b.lo (es.getD i ebz).b.hi (es.getD i ebz).b.a (es.getD i ebz).b.ws (es.getD i ebz).b.γ) := fun i h1 h2 => ((HO.out i (by omega) h2).apart HO3.out fun x hx => by have h3 := (HOW.out i (by rw [HN.out]; exact h2)).2.2.1; subst hx; exact h3).only ho fun x hx => by have h3 := HPW.out j i (by omega) (by rw [HN.out]; exact h2); have h4 := hx.2; have h5 := HXL.out.2; omega
        have HL2 : Hid (Only (Span lo hi) w w2) := (HL.out.trans HO3.out fun x hx => by subst hx; exact ⟨hlo, hhi⟩).trans ho fun x hx => ⟨by have := HI.out.1; have := hx.1; omega, by have := HI.out.2.1; have := hx.2; omega⟩
        clear hmk ho HE HE3 HO3 HI HX HXL HM HO HA HL HK3 HQ HKK HRW
        go_wp2
        exact ⟨⟨j + 1, _, by omega, by go_num, by rw [HK.out], HA2, HR2, HM2, HO2, HL2⟩, by simp [intOf]; omega⟩
      · have hjj : j = n := by omega
        subst hjj
        have HF : Hid (es.take j = es) := List.take_of_length_le (by rw [HN.out]; exact Nat.le_refl _)
        rw [HF.out]
        go_wp2
        go_ret
        exact ⟨rfl, .inr ⟨b, N, f, rfl, HA.out, hN, by rw [HN.out]; exact HR.out, fun i hi => (HM.out i (by rw [← HN.out]; exact hi)).1⟩, HL.out⟩

end Go.Proofs.Ytomndnopbpbblaa
