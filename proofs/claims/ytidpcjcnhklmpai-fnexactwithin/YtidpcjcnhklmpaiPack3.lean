import Derived.Test.YtidpcjcnhklmpaiPack2
import Derived.Test.YtidpcjcnhklmpaiPack1
import Derived.Deep.DrawnRows
/- The contracts of the specification's MapAt and MapHas. -/
namespace Go.Proofs.Ytidpcjcnhklmpai
open Go.ChangeShapes Go.WideShapes Go.ChangeAt Go.RowKit Go.Joins
attribute [local go_sem ↓] Go.wp_at_zero Go.wp_at_succ

/-- Number i is the first write of this key. -/
def FirstAt (ws : List Wr) (key : Int) (i : Nat) : Prop := i < ws.length ∧ (ws.getD i wz).k = key ∧ ∀ j, j < i → (ws.getD j wz).k ≠ key
/-- There is none of this key. -/
def NoneAt (ws : List Wr) (key : Int) : Prop := ∀ j, j < ws.length → (ws.getD j wz).k ≠ key

theorem FirstAt.same {ws : List Wr} {key : Int} {i j : Nat} (h : FirstAt ws key i) (h' : FirstAt ws key j) : i = j := by
  by_cases h1 : i < j
  · exact absurd h.2.1 (h'.2.2 i h1)
  · by_cases h2 : j < i
    · exact absurd h'.2.1 (h.2.2 j h2)
    · omega

theorem FirstAt.no {ws : List Wr} {key : Int} {i : Nat} (h : FirstAt ws key i) (h' : NoneAt ws key) : False := h' i h.1 h.2.1

/-- What a look at a map tells: a write of one's own, or nothing. -/
def Told (ws : List Wr) (key : Int) (w w' : World) (v : Value) : Prop :=
  (∃ i g cp, FirstAt ws key i ∧ v = .tuple #[wrOf (ws.getD i wz) (some ⟨g, 0, none⟩) cp, .bool true] ∧ w.heap.size ≤ g ∧ g < w'.heap.size ∧ HoldsDeps w' g 0 (ws.getD i wz).xs) ∨
  (NoneAt ws key ∧ v = .tuple #[wrV 0 0 0 0 0 false none 0 0, .bool false])

set_option maxHeartbeats 2000000 in
theorem specMapAt_gen (a : Option Addr) (n cap : Nat) (key : Int) (ws : List Wr) (w : World) (hn : ws.length = n) (hm : n ≤ 1048576) (hx : Few ws) (hh : IsWs w a ws) :
    Calls Try.prog 14 #[.slice a n cap, .int .i64 key] w fun e w' => ∃ v, e = .returned v ∧ Told ws key w w' v ∧ Below w.heap.size w w' := by
  have HH : Hid (IsWs w a ws) := hh
  have HN : Hid (ws.length = n) := hn
  have HX : Hid (Few ws) := hx
  clear hh hn hx
  go_enter Try.func14, Try.ntmps14
  go_wp2
  have HB0 : Hid (Below w.heap.size w (w.alloc (.cells #[.int .i64 0, .int .i64 0, .int .i64 0, .int .i64 0, .int .i64 0, .bool false, .slice none 0 0] 33))) := (Below.refl _ _).alloc (Nat.le_refl _) _
  go_loopw [6] (fun i wr => ∃ k : Nat, k ≤ n ∧ i = .int .i64 k ∧ wr = w.alloc (.cells #[.int .i64 0, .int .i64 0, .int .i64 0, .int .i64 0, .int .i64 0, .bool false, .slice none 0 0] 33) ∧ Hid (∀ j, j < k → (ws.getD j wz).k ≠ key)) (fun i _ => n - (intOf i).toNat)
  case atStart => exact ⟨0, Nat.zero_le _, rfl, rfl, fun j hj => absurd hj (Nat.not_lt_zero j)⟩
  case round =>
    obtain ⟨k, hk, rfl, rfl, HK⟩ := hrel
    by_cases hk' : k < n
    · obtain ⟨b, o, ad, cp, rfl, hz, ⟨e0, e1, e2, e3, e4, e5, e6⟩, hd⟩ := HH.out.at HB0.out HN.out hk'
      have i1 : (0 : Int) ≤ (k : Int) := by omega
      have i2 : (k : Int) < (n : Int) := by omega
      have hxl := HX.out k (by rw [HN.out]; exact hk')
      have HD : Hid (IsDeps (w.alloc (.cells #[.int .i64 0, .int .i64 0, .int .i64 0, .int .i64 0, .int .i64 0, .bool false, .slice none 0 0] 33)) ad (ws.getD k wz).xs) := hd
      clear hd
      by_cases hy : (ws.getD k wz).k = key
      · have HF : Hid (FirstAt ws key k) := ⟨by rw [HN.out]; exact hk', hy, HK.out⟩
        have HE : Hid (∀ w2 g cp, w.heap.size ≤ g → g < w2.heap.size → HoldsDeps w2 g 0 (ws.getD k wz).xs → Told ws key w w2 (.tuple #[wrOf (ws.getD k wz) (some ⟨g, 0, none⟩) cp, .bool true])) := fun w2 g cp h1 h2 h3 => .inl ⟨k, g, cp, HF.out, rfl, h1, h2, h3⟩
        clear HF HK
        generalize ws.getD k wz = x at *
        obtain ⟨xk, xc, xs', xq, xv, xd, xx⟩ := x
        simp only at e0 e1 e2 e3 e4 e5 e6 hxl HD HE hy
        subst hy
        go_wp2_with fail
        refine (copy_any ⟨xk, xc, xs', xq, xv, xd, xx⟩ _ _ _ hxl HD.out).mono ?_
        rintro e w2 ⟨g, cp2, rfl, hg1, hg2, hg3, hb⟩
        have HB2 : Hid (Below w.heap.size w w2) := below_step HB0.out HB0.out.size hb
        have HG : Hid (HoldsDeps w2 g 0 xx) := hg3
        obtain ⟨hc, hf⟩ := bcell hb
        have hz2 : w.heap.size < w2.heap.size := by have := hb.size; simp at this; omega
        have hg4 : w.heap.size < g := by simp at hg1; omega
        clear hb hg3 hg1
        go_wp2
        refine bodyPost_ret (v := .tuple #[wrV xk xc xs' xq xv xd (some ⟨g, 0, none⟩) xx.length cp2, .bool true]) (by simp [results, Try.results14, go_sem, hc]) rfl ⟨_, rfl, HE.out _ g cp2 (by omega) (by simpa using hg2) ?_, ?_⟩
        · exact ((((((HG.out.set (by simp; omega) _).set (by simp; omega) _).set (by simp; omega) _).set (by simp; omega) _).set (by simp; omega) _).set (by simp; omega) _).set (by simp; omega) _
        · exact ((((((HB2.out.setCell (by simp) _).setCell (by simp) _).setCell (by simp) _).setCell (by simp) _).setCell (by simp) _).setCell (by simp) _).setCell (by simp) _
      · have HK' : Hid (∀ j, j < k + 1 → (ws.getD j wz).k ≠ key) := fun j hj => by
          by_cases h : j < k
          · exact HK.out j h
          · have : j = k := by omega
            rw [this]
            exact hy
        clear HD
        generalize ws.getD k wz = x at *
        obtain ⟨xk, xc, xs', xq, xv, xd, xx⟩ := x
        simp only at e0 hy
        go_wp2
        exact ⟨⟨k + 1, by omega, by go_num, trivial, HK'⟩, by simp [intOf]; omega⟩
    · have hkk : k = n := by omega
      subst hkk
      go_wp2
      exact bodyPost_ret (v := .tuple #[wrV 0 0 0 0 0 false none 0 0, .bool false]) (by simp [results, Try.results14, go_sem]) rfl ⟨_, rfl, .inr ⟨fun j hj => HK.out j (by rw [← HN.out]; exact hj), rfl⟩, HB0.out⟩

theorem specMapAt_any (b n cap : Nat) (key : Int) (ws : List Wr) (γ : Nat → Nat) (w : World) (hn : ws.length = n) (hm : n ≤ 1048576) (hx : Few ws) (hh : HoldsWs w b ws γ) :
    Calls Try.prog 14 #[.slice (some ⟨b, 0, none⟩) n cap, .int .i64 key] w fun e w' => ∃ v, e = .returned v ∧ Told ws key w w' v ∧ Below w.heap.size w w' :=
  specMapAt_gen _ n cap key ws w hn hm hx (hh.isWs hx)

def findW (ws : List Wr) (key : Int) : Option Wr := ws.find? fun x => x.k == key

theorem find_first : ∀ {ws : List Wr} {key : Int} {i : Nat}, FirstAt ws key i → findW ws key = some (ws.getD i wz)
  | [], _, _, h => by simp [FirstAt] at h
  | x :: r, key, 0, h => by
    have hk : x.k = key := h.2.1
    simp [findW, hk]
  | x :: r, key, i + 1, h => by
    have hk : x.k ≠ key := h.2.2 0 (by omega)
    have : FirstAt r key i := ⟨by simpa using h.1, h.2.1, fun j hj => h.2.2 (j + 1) (by omega)⟩
    have := find_first this
    simp only [findW, List.find?_cons, beq_eq_false_iff_ne.2 hk] at this ⊢
    exact this

theorem find_none {ws : List Wr} {key : Int} (h : NoneAt ws key) : findW ws key = none := by
  induction ws with
  | nil => rfl
  | cons x r ih =>
    have hk : x.k ≠ key := h 0 (by simp)
    have := ih fun j hj => h (j + 1) (by simpa using hj)
    simp only [findW, List.find?_cons, beq_eq_false_iff_ne.2 hk] at this ⊢
    exact this

def hasB (ws : List Wr) (key c s q : Int) : Bool := match findW ws key with | some x => decide (0 ≤ tcmp x.c x.s x.q c s q) | none => false

set_option maxHeartbeats 2000000 in
theorem specMapHas_gen (a : Option Addr) (n cap : Nat) (key c s q : Int) (ws : List Wr) (w : World) (hn : ws.length = n) (hm : n ≤ 1048576) (hx : Few ws) (hh : IsWs w a ws) :
    Calls Try.prog 27 #[.slice a n cap, .int .i64 key, tagV c s q] w fun e w' => e = .returned (.bool (hasB ws key c s q)) ∧ Below w.heap.size w w' := by
  have HH : Hid (IsWs w a ws) := hh
  have HX : Hid (Few ws) := hx
  have HN : Hid (ws.length = n) := hn
  clear hh hx hn
  go_enter Try.func27, Try.ntmps27
  go_wp2_with fail
  refine (specMapAt_gen a n cap key ws _ HN.out hm HX.out (HH.out.below ((Below.refl _ _).alloc (Nat.le_refl _) _))).mono ?_
  rintro e w1 ⟨v, rfl, hv, hb⟩
  have HB : Hid (Below w.heap.size w w1) := below_step ((Below.refl _ _).alloc (Nat.le_refl _) _) (by simp) hb
  obtain ⟨hc, hf⟩ := bcell hb
  have hz : w.heap.size < w1.heap.size := by have := hb.size; simp at this; omega
  clear hb
  rcases hv with ⟨i, g, cp, h1, rfl, -, -, -⟩ | ⟨h1, rfl⟩
  · have HF := Lib.hid (find_first h1)
    clear h1
    generalize ws.getD i wz = x at *
    obtain ⟨xk, xc, xs', xq, xv, xd, xx⟩ := x
    go_wp2_with fail
    refine (specTagCmp_any _ _ _ _ _ _ _).mono ?_
    rintro e w2 ⟨rfl, hb2⟩
    have HB2 : Hid (Below w.heap.size w w2) := below_step (HB.out.alloc HB.out.size _) (by simp; have := HB.out.size; omega) hb2
    clear hb2
    have HE : Hid (hasB ws key c s q = decide (0 ≤ tcmp xc xs' xq c s q)) := by simp [hasB, HF.out, Hid]
    generalize tcmp xc xs' xq c s q = z at *
    by_cases hz0 : 0 ≤ z
    · go_wp2
      go_ret
      rw [HE.out]
      exact ⟨by simp [hz0], HB2.out⟩
    · go_wp2
      go_ret
      rw [HE.out]
      exact ⟨by simp, HB2.out⟩
  · have HE : Hid (hasB ws key c s q = false) := by simp [hasB, find_none h1, Hid]
    clear h1
    go_wp2
    go_ret
    rw [HE.out]
    exact ⟨rfl, HB.out.alloc HB.out.size _⟩

theorem specMapHas_any (b n cap : Nat) (key c s q : Int) (ws : List Wr) (γ : Nat → Nat) (w : World) (hn : ws.length = n) (hm : n ≤ 1048576) (hx : Few ws) (hh : HoldsWs w b ws γ) :
    Calls Try.prog 27 #[.slice (some ⟨b, 0, none⟩) n cap, .int .i64 key, tagV c s q] w fun e w' => e = .returned (.bool (hasB ws key c s q)) ∧ Below w.heap.size w w' :=
  specMapHas_gen _ n cap key c s q ws w hn hm hx (hh.isWs hx)

end Go.Proofs.Ytidpcjcnhklmpai

/- The contract of impl.WriteOk. -/
namespace Go.Proofs.Ytidpcjcnhklmpai
open Go.ChangeShapes Go.WideShapes Go.ChangeAt Go.RowKit Go.Joins

set_option maxHeartbeats 1000000 in
theorem implWriteOk_ends (k c s q v : Int) (de : Bool) (a : Option Addr) (xs : List Dp) (cap : Nat) (w : World)
    (hbad : btw k 0 5 = false ∨ tagOkB c s q = false ∨ valOkB v de = false) :
    Calls Try.prog 33 #[wrV k c s q v de a xs.length cap] w fun e w' => e = .returned (.bool (writeOkB k c s q v de xs)) ∧ Below w.heap.size w w' := by
  cases h1 : btw k 0 5
  · rw [wok_key h1]
    clear hbad
    go_enter Try.func33, Try.ntmps33
    go_wp2_with (go_at_call 56; refine (keyOk_is _ false h1 _).mono ?_; rintro e w' ⟨rfl, rfl⟩)
    go_ret
    exact ⟨rfl, (Below.refl _ _).alloc (Nat.le_refl _) _⟩
  cases h2 : tagOkB c s q
  · rw [wok_tag h2]
    clear hbad
    go_enter Try.func33, Try.ntmps33
    go_wp2_with (first | (go_at_call 56; refine (keyOk_is _ true h1 _).mono ?_; rintro e w' ⟨rfl, rfl⟩) | (go_at_call 57; refine (implTagOk_is _ _ _ false h2 _).mono ?_; rintro e w' ⟨rfl, hb⟩))
    go_ret
    exact ⟨rfl, below_step ((Below.refl _ _).alloc (Nat.le_refl _) _) (by simp) hb⟩
  have h3 : valOkB v de = false := by
    rcases hbad with h | h | h
    · rw [h1] at h; cases h
    · rw [h2] at h; cases h
    · exact h
  rw [wok_val h3]
  clear hbad
  go_enter Try.func33, Try.ntmps33
  go_wp2_with fail
  refine (keyOk_is _ true h1 _).mono ?_
  rintro e w1 ⟨rfl, rfl⟩
  go_wp2_with fail
  refine (implTagOk_is _ _ _ true h2 _).mono ?_
  rintro e w2 ⟨rfl, hb⟩
  have HX := BoxIn.start hb
  have b4 := HX.c4
  have b5 := HX.c5
  clear hb
  go_wp2_with (go_at_call 58; refine (valOk_is _ _ false h3 _).mono ?_; rintro e w' ⟨rfl, rfl⟩)
  go_ret
  exact ⟨rfl, HX.below⟩

set_option maxHeartbeats 1000000 in
theorem implWriteOk_deps (k c s q v : Int) (de : Bool) (a : Option Addr) (xs : List Dp) (cap : Nat) (w : World) (hn : xs.length ≤ 1048576) (hh : IsDeps w a xs)
    (h1 : btw k 0 5 = true) (h2 : tagOkB c s q = true) (h3 : valOkB v de = true) (h4 : depsOkB xs = false) :
    Calls Try.prog 33 #[wrV k c s q v de a xs.length cap] w fun e w' => e = .returned (.bool (writeOkB k c s q v de xs)) ∧ Below w.heap.size w w' := by
  rw [wok_deps h4]
  have HH : Hid (IsDeps w a xs) := hh
  clear hh
  go_enter Try.func33, Try.ntmps33
  go_wp2_with fail
  refine (keyOk_is _ true h1 _).mono ?_
  rintro e w1 ⟨rfl, rfl⟩
  go_wp2_with fail
  refine (implTagOk_is _ _ _ true h2 _).mono ?_
  rintro e w2 ⟨rfl, hb⟩
  have HX := BoxIn.start hb
  have b4 := HX.c4
  have b5 := HX.c5
  have b6 := HX.c6
  clear hb
  go_wp2_with fail
  refine (valOk_is _ _ true h3 _).mono ?_
  rintro e w3 ⟨rfl, rfl⟩
  go_wp2_with fail
  refine (implDepsOk_is false _ xs h4 _ _ hn (HH.out.below HX.below)).mono ?_
  rintro e w4 ⟨rfl, hb4⟩
  have HB : Hid (Below w.heap.size w w4) := below_step HX.below HX.below.size hb4
  clear hb4
  go_wp2
  go_ret
  exact ⟨rfl, HB.out⟩

set_option maxHeartbeats 2000000 in
theorem implWriteOk_rest (k c s q v : Int) (de : Bool) (a : Option Addr) (xs : List Dp) (cap : Nat) (w : World) (hn : xs.length ≤ 1048576) (hh : IsDeps w a xs)
    (h1 : btw k 0 5 = true) (h2 : tagOkB c s q = true) (h3 : valOkB v de = true) (h4 : depsOkB xs = true) :
    Calls Try.prog 33 #[wrV k c s q v de a xs.length cap] w fun e w' => e = .returned (.bool (writeOkB k c s q v de xs)) ∧ Below w.heap.size w w' := by
  rw [wok_rest h1 h2 h3 h4]
  have HH : Hid (IsDeps w a xs) := hh
  have HT : Hid (∀ i, i < xs.length → tagOkB (xs.getD i dz).c (xs.getD i dz).s (xs.getD i dz).q = true) := fun i hi => depsOk_tag h4 hi
  clear hh
  go_enter Try.func33, Try.ntmps33
  go_wp2_with fail
  refine (keyOk_is _ true h1 _).mono ?_
  rintro e w1 ⟨rfl, rfl⟩
  go_wp2_with fail
  refine (implTagOk_is _ _ _ true h2 _).mono ?_
  rintro e w2 ⟨rfl, hb⟩
  have HX := BoxIn.start hb
  have b1 := HX.c1
  have b2 := HX.c2
  have b3 := HX.c3
  have b4 := HX.c4
  have b5 := HX.c5
  have b6 := HX.c6
  clear hb
  go_wp2_with fail
  refine (valOk_is _ _ true h3 _).mono ?_
  rintro e w3 ⟨rfl, rfl⟩
  go_wp2_with fail
  refine (implDepsOk_is true _ xs h4 _ _ hn (HH.out.below HX.below)).mono ?_
  rintro e w4 ⟨rfl, hb4⟩
  have HX4 : Hid (BoxIn w w4 k c s q v de a xs.length cap) := HX.step hb4
  clear hb4 HX b1 b2 b3 b4 b5 b6 h4 h3
  have b1 := HX4.out.c1
  have b2 := HX4.out.c2
  have b3 := HX4.out.c3
  have b6 := HX4.out.c6
  go_wp2_with fail
  refine (tagWord_any _ _ _ _ h2).mono ?_
  rintro e w5 ⟨rfl, hb5⟩
  have HX5 : Hid (BoxIn w w5 k c s q v de a xs.length cap) := HX4.out.step hb5
  clear hb5 b1 b2 b3 b6 HX4
  have b6 := HX5.out.c6
  go_wp2
  clear b6
  go_loopw [36] (fun i wr => ∃ j : Nat, j ≤ xs.length ∧ i = .int .i64 j ∧ Hid (∀ l, l < j → ahead xs c s q l = true) ∧ Hid (Below w.heap.size w wr)) (fun i _ => xs.length - (intOf i).toNat)
  case atStart => exact ⟨0, Nat.zero_le _, rfl, fun l hl => by omega, HX5.out.below⟩
  case round =>
    clear HX5
    obtain ⟨j, hj, rfl, HG, HB⟩ := hrel
    by_cases hj' : j < xs.length
    · obtain ⟨g, o, rfl, hz, e0, e1, e2, e3⟩ := HH.out.at HB.out hj'
      have HA : Hid (ahead xs c s q j = decide (tcmp (xs.getD j dz).c (xs.getD j dz).s (xs.getD j dz).q c s q < 0)) := rfl
      have h6 := HT.out j hj'
      have i1 : (0 : Int) ≤ (j : Int) := by omega
      have i2 : (j : Int) < (xs.length : Int) := by omega
      generalize (xs.getD j dz).k = x0 at *
      generalize (xs.getD j dz).c = x1 at *
      generalize (xs.getD j dz).s = x2 at *
      generalize (xs.getD j dz).q = x3 at *
      have HW := word_order h6 h2
      have HBA : Hid (Below w.heap.size w (wr.alloc (.cells #[.int .i64 x0, .int .i64 x1, .int .i64 x2, .int .i64 x3] 71))) := HB.out.alloc HB.out.size _
      by_cases hs : tcmp x1 x2 x3 c s q < 0
      · have HG' : Hid (∀ l, l < j + 1 → ahead xs c s q l = true) := fun l hl => by
          by_cases h : l < j
          · exact HG.out l h
          · have : l = j := by omega
            rw [this, HA.out]
            exact decide_eq_true hs
        have hw : x1 * 4096 + x2 * 1024 + x3 < c * 4096 + s * 1024 + q := by omega
        clear HA HW hs
        go_wp2_with fail
        refine (tagWord_any _ _ _ _ h6).mono ?_
        rintro e wq ⟨rfl, hq⟩
        have HBQ : Hid (Below w.heap.size w wq) := below_step HBA.out HBA.out.size hq
        clear hq
        go_wp2
        exact ⟨⟨j + 1, by omega, by go_num, HG', HBQ⟩, by simp [intOf]; omega⟩
      · have HF : Hid (aheadAll xs c s q = false) := ahead_false hj' (by rw [HA.out]; exact decide_eq_false hs)
        have hw : c * 4096 + s * 1024 + q ≤ x1 * 4096 + x2 * 1024 + x3 := by omega
        clear HA HW hs
        go_wp2_with fail
        refine (tagWord_any _ _ _ _ h6).mono ?_
        rintro e wq ⟨rfl, hq⟩
        have HBQ : Hid (Below w.heap.size w wq) := below_step HBA.out HBA.out.size hq
        clear hq
        go_wp2
        go_ret
        exact ⟨ret_bool HF.out.symm, HBQ.out⟩
    · go_wp2
      go_ret
      exact ⟨ret_bool (ahead_true fun i hi => HG.out i (by omega)).symm, HB.out⟩

theorem implWriteOk_gen (k c s q v : Int) (de : Bool) (a : Option Addr) (xs : List Dp) (len cap : Nat) (w : World) (hl : xs.length = len) (hn : len ≤ 1048576) (hh : IsDeps w a xs) :
    Calls Try.prog 33 #[wrV k c s q v de a len cap] w fun e w' => e = .returned (.bool (writeOkB k c s q v de xs)) ∧ Below w.heap.size w w' := by
  subst hl
  by_cases h : btw k 0 5 = false ∨ tagOkB c s q = false ∨ valOkB v de = false
  · exact implWriteOk_ends k c s q v de a xs cap w h
  · simp only [not_or, Bool.not_eq_false] at h
    obtain ⟨h1, h2, h3⟩ := h
    cases h4 : depsOkB xs
    · exact implWriteOk_deps k c s q v de a xs cap w hn hh h1 h2 h3 h4
    · exact implWriteOk_rest k c s q v de a xs cap w hn hh h1 h2 h3 h4

theorem implWriteOk_any (k c s q v : Int) (de : Bool) (g : Nat) (xs : List Dp) (len cap : Nat) (w : World) (hl : xs.length = len) (hn : len ≤ 1048576) (hlt : g < w.heap.size) (hh : HoldsDeps w g 0 xs) :
    Calls Try.prog 33 #[wrV k c s q v de (some ⟨g, 0, none⟩) len cap] w fun e w' => e = .returned (.bool (writeOkB k c s q v de xs)) ∧ Below w.heap.size w w' :=
  implWriteOk_gen k c s q v de _ xs len cap w hl hn (.inr ⟨g, 0, rfl, hlt, hh⟩)

end Go.Proofs.Ytidpcjcnhklmpai

/- The contract of impl.TagCmp. -/
namespace Go.Proofs.Ytidpcjcnhklmpai
open Go.ChangeShapes Go.WideShapes Go.ChangeAt Go.RowKit
attribute [local go_sem ↓] Go.wp_at_zero Go.wp_at_succ

set_option maxHeartbeats 400000 in
theorem implTagCmp_eq (c s q : Int) (w : World) :
    Calls Try.prog 48 #[tagV c s q, tagV c s q] w fun e w' => e = .returned (.int .i64 0) ∧ Below w.heap.size w w' := by
  go_enter Try.func48, Try.ntmps48
  go_wp2_with fail
  go_ret
  exact ⟨rfl, ((Below.refl _ _).alloc (Nat.le_refl _) _).alloc (by simp) _⟩

theorem three_cells (W : World) (x y z : Int) (t b : Nat) (hb : W.heap.size = b) : ∀ i, i < [x, y, z].length → (W.alloc (Obj.cells #[.int .i64 x, .int .i64 y, .int .i64 z] t)).drew.cell? ⟨b, i, none⟩ = some (.int .i64 ([x, y, z].getD i 0)) := by
  subst hb
  intro i hi
  match i, hi with
  | 0, _ => simp [go_sem]
  | 1, _ => simp [go_sem]
  | 2, _ => simp [go_sem]

set_option maxHeartbeats 1000000 in
theorem implTagCmp_ne1 (c s q c' s' q' : Int) (w : World) (h : ¬ c = c') :
    Calls Try.prog 48 #[tagV c s q, tagV c' s' q'] w fun e w' => e = .returned (.int .i64 (orI [sgn c c', sgn s s', sgn q q'])) ∧ Below w.heap.size w w' := by
  go_enter Try.func48, Try.ntmps48
  go_wp2_with fail
  go_region_held3 (fun w' => w'.cell? ⟨w.heap.size, 0, none⟩ = some (.int .i64 c) ∧ w'.cell? ⟨w.heap.size, 1, none⟩ = some (.int .i64 s) ∧ w'.cell? ⟨w.heap.size, 2, none⟩ = some (.int .i64 q) ∧ w'.cell? ⟨w.heap.size + 1, 0, none⟩ = some (.int .i64 c') ∧ w'.cell? ⟨w.heap.size + 1, 1, none⟩ = some (.int .i64 s') ∧ w'.cell? ⟨w.heap.size + 1, 2, none⟩ = some (.int .i64 q')) (go_keep)
    (first | (go_at_call 70; refine (compare_any _ _ _).mono ?_; rintro e w' ⟨rfl, rfl⟩) | (go_at_call 69; refine (or_any _ [sgn c c', sgn s s', sgn q q'] _ _ (by simp) (by exact three_cells _ _ _ _ _ _ (by simp))).mono ?_; rintro e w' ⟨rfl, rfl⟩))
  all_goals
    go_wp2
    go_ret
    exact ⟨rfl, ((((Below.refl _ _).alloc (Nat.le_refl _) _).alloc (by simp) _).alloc (by simp; omega) _).drew⟩

set_option maxHeartbeats 1000000 in
theorem implTagCmp_ne2 (c s q s' q' : Int) (w : World) (h : ¬ s = s') :
    Calls Try.prog 48 #[tagV c s q, tagV c s' q'] w fun e w' => e = .returned (.int .i64 (orI [sgn c c, sgn s s', sgn q q'])) ∧ Below w.heap.size w w' := by
  go_enter Try.func48, Try.ntmps48
  go_wp2_with fail
  go_region_held3 (fun w' => w'.cell? ⟨w.heap.size, 0, none⟩ = some (.int .i64 c) ∧ w'.cell? ⟨w.heap.size, 1, none⟩ = some (.int .i64 s) ∧ w'.cell? ⟨w.heap.size, 2, none⟩ = some (.int .i64 q) ∧ w'.cell? ⟨w.heap.size + 1, 0, none⟩ = some (.int .i64 c) ∧ w'.cell? ⟨w.heap.size + 1, 1, none⟩ = some (.int .i64 s') ∧ w'.cell? ⟨w.heap.size + 1, 2, none⟩ = some (.int .i64 q')) (go_keep)
    (first | (go_at_call 70; refine (compare_any _ _ _).mono ?_; rintro e w' ⟨rfl, rfl⟩) | (go_at_call 69; refine (or_any _ [sgn c c, sgn s s', sgn q q'] _ _ (by simp) (by exact three_cells _ _ _ _ _ _ (by simp))).mono ?_; rintro e w' ⟨rfl, rfl⟩))
  all_goals
    go_wp2
    go_ret
    exact ⟨rfl, ((((Below.refl _ _).alloc (Nat.le_refl _) _).alloc (by simp) _).alloc (by simp; omega) _).drew⟩

set_option maxHeartbeats 1000000 in
theorem implTagCmp_ne3 (c s q q' : Int) (w : World) (h : ¬ q = q') :
    Calls Try.prog 48 #[tagV c s q, tagV c s q'] w fun e w' => e = .returned (.int .i64 (orI [sgn c c, sgn s s, sgn q q'])) ∧ Below w.heap.size w w' := by
  go_enter Try.func48, Try.ntmps48
  go_wp2_with fail
  go_region_held3 (fun w' => w'.cell? ⟨w.heap.size, 0, none⟩ = some (.int .i64 c) ∧ w'.cell? ⟨w.heap.size, 1, none⟩ = some (.int .i64 s) ∧ w'.cell? ⟨w.heap.size, 2, none⟩ = some (.int .i64 q) ∧ w'.cell? ⟨w.heap.size + 1, 0, none⟩ = some (.int .i64 c) ∧ w'.cell? ⟨w.heap.size + 1, 1, none⟩ = some (.int .i64 s) ∧ w'.cell? ⟨w.heap.size + 1, 2, none⟩ = some (.int .i64 q')) (go_keep)
    (first | (go_at_call 70; refine (compare_any _ _ _).mono ?_; rintro e w' ⟨rfl, rfl⟩) | (go_at_call 69; refine (or_any _ [sgn c c, sgn s s, sgn q q'] _ _ (by simp) (by exact three_cells _ _ _ _ _ _ (by simp))).mono ?_; rintro e w' ⟨rfl, rfl⟩))
  all_goals
    go_wp2
    go_ret
    exact ⟨rfl, ((((Below.refl _ _).alloc (Nat.le_refl _) _).alloc (by simp) _).alloc (by simp; omega) _).drew⟩

theorem implTagCmp_any (c s q c' s' q' : Int) (w : World) :
    Calls Try.prog 48 #[tagV c s q, tagV c' s' q'] w fun e w' => e = .returned (.int .i64 (tcmp c s q c' s' q')) ∧ Below w.heap.size w w' := by
  rw [← orI_three]
  by_cases h1 : c = c'
  · by_cases h2 : s = s'
    · by_cases h3 : q = q'
      · subst h1 h2 h3
        rw [orI_three, tcmp_self]
        exact implTagCmp_eq c s q w
      · subst h1 h2
        exact implTagCmp_ne3 c s q q' w h3
    · subst h1
      exact implTagCmp_ne2 c s q s' q' w h2
  · exact implTagCmp_ne1 c s q c' s' q' w h1

end Go.Proofs.Ytidpcjcnhklmpai

/- Contracts of impl.MapOk, placeOfKey, copyWrite, MapAt, MapHas. -/
namespace Go.Proofs.Ytidpcjcnhklmpai
open Go.ChangeShapes Go.WideShapes Go.ChangeAt Go.RowKit Go.Joins
attribute [local go_sem ↓] Go.wp_at_zero Go.wp_at_succ

def lastW (ws : List Wr) (k : Nat) : Int := if k = 0 then -1 else (ws.getD (k - 1) wz).k

theorem okW_key {x : Wr} (h : okW x = true) : 0 ≤ x.k ∧ x.k ≤ 5 := by
  unfold okW writeOkB btw at h
  simp only [Bool.and_eq_true, decide_eq_true_eq] at h
  exact h.1

theorem wrGood_bad {ws : List Wr} {k : Nat} (h1 : okW (ws.getD k wz) = true) (h : (ws.getD k wz).k ≤ lastW ws k) : wrGood ws k = false := by
  unfold wrGood
  rw [h1, Bool.true_and]
  refine decide_eq_false ?_
  have := okW_key h1
  unfold lastW at h
  by_cases hk : k = 0
  · rw [if_pos hk] at h
    omega
  · rw [if_neg hk] at h
    omega

theorem wrGood_good {ws : List Wr} {k : Nat} (h1 : okW (ws.getD k wz) = true) (h : lastW ws k < (ws.getD k wz).k) : wrGood ws k = true := by
  unfold wrGood
  rw [h1, Bool.true_and]
  refine decide_eq_true ?_
  unfold lastW at h
  by_cases hk : k = 0
  · exact .inl hk
  · rw [if_neg hk] at h
    exact .inr h

theorem wrGood_not {ws : List Wr} {k : Nat} (h1 : okW (ws.getD k wz) = false) : wrGood ws k = false := by
  unfold wrGood
  rw [h1, Bool.false_and]

set_option maxHeartbeats 2000000 in
theorem implMapOk_any (a : Option Addr) (n cap : Nat) (ws : List Wr) (w : World) (hn : ws.length = n) (hm : n ≤ 1048576) (hx : Few ws) (hh : IsWs w a ws) :
    Calls Try.prog 12 #[.slice a n cap] w fun e w' => e = .returned (.bool (mapOkB ws)) ∧ Below w.heap.size w w' := by
  have HH : Hid (IsWs w a ws) := hh
  have HN : Hid (ws.length = n) := hn
  have HX : Hid (Few ws) := hx
  clear hh hn hx
  go_enter Try.func12, Try.ntmps12
  go_wp2
  go_loopw [3, 8] (fun l i wr => ∃ k : Nat, ∃ la : Int, k ≤ n ∧ i = .int .i64 k ∧ l = .int .i64 la ∧ Hid (lastW ws k = la) ∧ Hid (∀ j, j < k → wrGood ws j = true) ∧ Hid (Below w.heap.size w wr)) (fun _ i _ => n - (intOf i).toNat)
  case atStart => exact ⟨0, -1, Nat.zero_le _, rfl, rfl, rfl, fun j hj => by omega, Below.refl _ _⟩
  case round =>
    obtain ⟨k, la, hk, rfl, rfl, HL, HG, HB⟩ := hrel
    by_cases hk' : k < n
    · obtain ⟨b, o, ad, cp, rfl, hz, ⟨e0, e1, e2, e3, e4, e5, e6⟩, hd⟩ := HH.out.at HB.out HN.out hk'
      have i1 : (0 : Int) ≤ (k : Int) := by omega
      have i2 : (k : Int) < (n : Int) := by omega
      have HS : Hid (lastW ws (k + 1) = (ws.getD k wz).k) := by unfold lastW; simp [Hid]
      have HC : Hid (∀ W, Below wr.heap.size wr W → Calls Try.prog 33 #[wrOf (ws.getD k wz) ad cp] W fun e w' => e = .returned (.bool (okW (ws.getD k wz))) ∧ Below W.heap.size W w') := fun W hW =>
        implWriteOk_gen _ _ _ _ _ _ _ (ws.getD k wz).xs _ _ _ rfl (HX.out k (by rw [HN.out]; exact hk')) (hd.below hW)
      clear hd HH
      cases h1 : okW (ws.getD k wz)
      · have HF : Hid (mapOkB ws = false) := mapOk_false (by rw [HN.out]; exact hk') (wrGood_not h1)
        clear HS
        rw [h1] at HC
        clear h1
        generalize ws.getD k wz = x at *
        obtain ⟨xk, xc, xs', xq, xv, xd, xx⟩ := x
        simp only at e0 e1 e2 e3 e4 e5 e6 HC
        go_wp2_with fail
        refine (HC.out _ ((Below.refl _ _).alloc (Nat.le_refl _) _)).mono ?_
        rintro e w2 ⟨rfl, hb⟩
        have HB2 : Hid (Below w.heap.size w w2) := below_step HB.out HB.out.size (BoxIn.start hb).below
        clear hb
        go_wp2
        go_ret
        exact ⟨ret_bool HF.out.symm, HB2.out⟩
      · by_cases h3 : (ws.getD k wz).k ≤ la
        · have HF : Hid (mapOkB ws = false) := mapOk_false (by rw [HN.out]; exact hk') (wrGood_bad h1 (by rw [HL.out]; exact h3))
          clear HS
          rw [h1] at HC
          clear h1
          generalize ws.getD k wz = x at *
          obtain ⟨xk, xc, xs', xq, xv, xd, xx⟩ := x
          simp only at e0 e1 e2 e3 e4 e5 e6 HC h3
          go_wp2_with fail
          refine (HC.out _ ((Below.refl _ _).alloc (Nat.le_refl _) _)).mono ?_
          rintro e w2 ⟨rfl, hb⟩
          have HX2 := Lib.hid (BoxIn.start hb)
          have HB2 : Hid (Below w.heap.size w w2) := below_step HB.out HB.out.size HX2.out.below
          have b0 := HX2.out.c0
          clear hb
          go_wp2
          go_ret
          exact ⟨ret_bool HF.out.symm, HB2.out⟩
        · have HG' : Hid (∀ j, j < k + 1 → wrGood ws j = true) := good_next HG.out (wrGood_good h1 (by rw [HL.out]; omega))
          rw [h1] at HC
          clear h1
          generalize ws.getD k wz = x at *
          obtain ⟨xk, xc, xs', xq, xv, xd, xx⟩ := x
          simp only at e0 e1 e2 e3 e4 e5 e6 HC h3 HS
          go_wp2_with fail
          refine (HC.out _ ((Below.refl _ _).alloc (Nat.le_refl _) _)).mono ?_
          rintro e w2 ⟨rfl, hb⟩
          have HX2 := Lib.hid (BoxIn.start hb)
          have HB2 : Hid (Below w.heap.size w w2) := below_step HB.out HB.out.size HX2.out.below
          have b0 := HX2.out.c0
          clear hb
          go_wp2
          exact ⟨⟨k + 1, xk, by omega, by go_num, rfl, HS, HG', HB2⟩, by simp [intOf]; omega⟩
    · have hkk : k = n := by omega
      subst hkk
      have HF : Hid (mapOkB ws = true) := mapOk_true (fun i hi => HG.out i (by rw [← HN.out]; exact hi))
      go_wp2
      go_ret
      exact ⟨ret_bool HF.out.symm, HB.out⟩

theorem kept_new {W w1 : World} {b t : Nat} {vs : Array Value} (hg : W.grownBy w1 none) (h : W.heap[b]? = some (.cells vs t (0, 0))) : (∀ j v, vs[j]? = some v → w1.cell? ⟨b, j, none⟩ = some v) ∧ ∀ j, w1.frozen? ⟨b, j, none⟩ = false := by
  have hb : b < W.heap.size := (Array.getElem?_eq_some_iff.1 h).1
  have e := hg.block b hb (by simp)
  rw [h] at e
  exact ⟨fun j v hv => by rw [cell_of_row w1 b j vs t (0, 0) e]; exact hv, fun j => frozen_of_row w1 b j vs t e⟩

theorem heap_one (w : World) (o1 o2 : Obj) : ((w.alloc o1).alloc o2).heap[w.heap.size]? = some o1 ∧ ((w.alloc o1).alloc o2).heap[w.heap.size + 1]? = some o2 := by
  constructor
  · rw [Below.heap_alloc _ _ _ (by simp)]
    exact heap_alloc_new w o1
  · have := heap_alloc_new (w.alloc o1) o2
    simpa using this

/-- What stands at a number of the call's own. -/
theorem keyIs_any (x : Wr) (ad : Option Addr) (cp g : Nat) (key : Int) (w : World) (hz : g < w.heap.size) (hc : w.cell? ⟨g, 0, none⟩ = some (.int .i64 key)) :
    Calls Try.prog 62 #[wrOf x ad cp, .pointer (some ⟨g, 0, none⟩)] w fun e w' => e = .returned (.bool (x.k == key)) ∧ Below w.heap.size w w' := by
  obtain ⟨xk, xc, xs', xq, xv, xd, xx⟩ := x
  go_enter Try.func62, Try.ntmps62
  go_wp2
  go_ret
  exact ⟨rfl, (Below.refl _ _).alloc (Nat.le_refl _) _⟩

/-- A place, or none. -/
def PlaceAt (ws : List Wr) (key r : Int) : Prop := (∃ i : Nat, FirstAt ws key i ∧ r = i) ∨ (NoneAt ws key ∧ r = -1)

set_option maxHeartbeats 2000000 in
theorem indexFunc_any (a : Option Addr) (n cap g : Nat) (key : Int) (ws : List Wr) (w : World) (hn : ws.length = n) (hm : n ≤ 1048576) (hh : IsWs w a ws) (hz0 : g < w.heap.size) (hc : w.cell? ⟨g, 0, none⟩ = some (.int .i64 key)) :
    Calls Try.prog 61 #[.slice a n cap, .func (.func 62) #[] #[.pointer (some ⟨g, 0, none⟩)]] w fun e w' => ∃ r, e = .returned (.int .i64 r) ∧ PlaceAt ws key r ∧ Below w.heap.size w w' := by
  have HH : Hid (IsWs w a ws) := hh
  have HN : Hid (ws.length = n) := hn
  have HC : Hid (w.cell? ⟨g, 0, none⟩ = some (.int .i64 key)) := hc
  clear hh hn hc
  go_enter Try.func61, Try.ntmps61
  go_wp2
  go_loopw [8] (fun i wr => ∃ k : Nat, k ≤ n ∧ i = .int .i64 k ∧ Hid (∀ j, j < k → (ws.getD j wz).k ≠ key) ∧ Hid (Below w.heap.size w wr)) (fun i _ => n - (intOf i).toNat)
  case atStart => exact ⟨0, Nat.zero_le _, rfl, fun j hj => absurd hj (Nat.not_lt_zero j), Below.refl _ _⟩
  case round =>
    obtain ⟨k, hk, rfl, HK, HB⟩ := hrel
    by_cases hk' : k < n
    · obtain ⟨b, o, ad, cp, rfl, hz, ⟨e0, e1, e2, e3, e4, e5, e6⟩, -⟩ := HH.out.at HB.out HN.out hk'
      have i1 : (0 : Int) ≤ (k : Int) := by omega
      have i2 : (k : Int) < (n : Int) := by omega
      have hzg : g < wr.heap.size := Nat.lt_of_lt_of_le hz0 HB.out.size
      have hcg : Hid (wr.cell? ⟨g, 0, none⟩ = some (.int .i64 key)) := (HB.out.cell (p := ⟨g, 0, none⟩) hz0).trans HC.out
      have HE : Hid ((ws.getD k wz).k = key → FirstAt ws key k) := fun hy => ⟨by rw [HN.out]; exact hk', hy, HK.out⟩
      have HK' : Hid ((ws.getD k wz).k ≠ key → ∀ j, j < k + 1 → (ws.getD j wz).k ≠ key) := fun hy j hj => by
        by_cases h : j < k
        · exact HK.out j h
        · have : j = k := by omega
          rw [this]
          exact hy
      clear HH
      generalize ws.getD k wz = x at *
      obtain ⟨xk, xc, xs', xq, xv, xd, xx⟩ := x
      simp only at e0 e1 e2 e3 e4 e5 e6 HE HK'
      go_wp2_with fail
      refine (keyIs_any ⟨xk, xc, xs', xq, xv, xd, xx⟩ ad cp g key _ hzg hcg.out).mono ?_
      rintro e w2 ⟨rfl, hb⟩
      have HB2 : Hid (Below w.heap.size w w2) := below_step HB.out HB.out.size hb
      clear hb
      by_cases hy : xk = key
      · have hyb : (xk == key) = true := by simpa using hy
        have HF := Lib.hid (HE.out hy)
        clear hy HE HK'
        go_wp2
        go_ret
        exact ⟨_, rfl, .inl ⟨k, HF.out, rfl⟩, HB2.out⟩
      · have hyb : (xk == key) = false := by simpa using hy
        have HK2 := Lib.hid (HK'.out hy)
        clear hy HE HK'
        go_wp2
        exact ⟨⟨k + 1, by omega, by go_num, HK2, HB2⟩, by simp [intOf]; omega⟩
    · have hkk : k = n := by omega
      subst hkk
      go_wp2
      go_ret
      exact ⟨_, rfl, .inr ⟨fun j hj => HK.out j (by rw [← HN.out]; exact hj), rfl⟩, HB.out⟩

set_option maxHeartbeats 1000000 in
theorem placeOfKey_any (a : Option Addr) (n cap : Nat) (key : Int) (ws : List Wr) (w : World) (hn : ws.length = n) (hm : n ≤ 1048576) (hh : IsWs w a ws) :
    Calls Try.prog 35 #[.slice a n cap, .int .i64 key] w fun e w' => ∃ r, e = .returned (.int .i64 r) ∧ PlaceAt ws key r ∧ Below w.heap.size w w' := by
  have HH : Hid (IsWs (w.alloc (.cells #[.int .i64 key] 3)) a ws) := hh.below ((Below.refl _ _).alloc (Nat.le_refl _) _)
  have HN : Hid (ws.length = n) := hn
  clear hh hn
  go_enter Try.func35, Try.ntmps35
  go_wp2_with fail
  refine (indexFunc_any a n cap w.heap.size key ws _ HN.out hm HH.out (by simp) (by simp [go_sem])).mono ?_
  rintro e w1 ⟨r, rfl, hp, hb⟩
  have HP := Lib.hid hp
  have HB : Hid (Below w.heap.size w w1) := below_step ((Below.refl _ _).alloc (Nat.le_refl _) _) (by simp) hb
  clear hb hp
  go_wp2
  go_ret
  exact ⟨r, rfl, HP.out, HB.out⟩

/-- Dependencies of one's own, from block number B on, where there are some. -/
def FreshDeps (B : Nat) (w : World) (a : Option Addr) (g : Nat) (xs : List Dp) : Prop := 0 < xs.length → a = some ⟨g, 0, none⟩ ∧ B ≤ g ∧ g < w.heap.size ∧ HoldsDeps w g 0 xs ∧ ∀ o, w.frozen? ⟨g, o, none⟩ = false

theorem FreshDeps.below {B : Nat} {w w' : World} {a : Option Addr} {g : Nat} {xs : List Dp} (h : FreshDeps B w a g xs) (hb : Below w.heap.size w w') : FreshDeps B w' a g xs := fun hp => by
  obtain ⟨h1, h2, h3, h4, h5⟩ := h hp
  exact ⟨h1, h2, Nat.lt_of_lt_of_le h3 hb.size, h4.below hb h3, fun o => (hb.frozen (p := ⟨g, o, none⟩) h3).trans (h5 o)⟩

theorem FreshDeps.isDeps {B : Nat} {w : World} {a : Option Addr} {g : Nat} {xs : List Dp} (h : FreshDeps B w a g xs) : IsDeps w a xs := by
  by_cases hp : 0 < xs.length
  · obtain ⟨h1, _, h3, h4, _⟩ := h hp
    exact .inr ⟨g, 0, h1, h3, h4⟩
  · exact .inl (List.length_eq_zero_iff.1 (by omega))

theorem fresh_set {w : World} {g : Nat} {xs : List Dp} {p : Addr} (h : g < w.heap.size ∧ HoldsDeps w g 0 xs ∧ ∀ o, w.frozen? ⟨g, o, none⟩ = false) (hne : p.block ≠ g) (v : Value) : g < (w.setCell p v).heap.size ∧ HoldsDeps (w.setCell p v) g 0 xs ∧ ∀ o, (w.setCell p v).frozen? ⟨g, o, none⟩ = false :=
  ⟨by simpa using h.1, h.2.1.set hne v, fun o => by rw [World.frozen?_setCell]; exact h.2.2 o⟩

set_option maxHeartbeats 2000000 in
theorem icopy_some (x : Wr) (b o cap : Nat) (w : World) (hn : x.xs.length ≤ 1048576) (hp : 0 < x.xs.length) (hlt : b < w.heap.size) (hh : HoldsDeps w b o x.xs) :
    Calls Try.prog 36 #[wrOf x (some ⟨b, o, none⟩) cap] w fun e w' => ∃ a g cp, e = .returned (wrOf x a cp) ∧ FreshDeps w.heap.size w' a g x.xs ∧ Below w.heap.size w w' := by
  obtain ⟨xk, xc, xs', xq, xv, xd, xx⟩ := x
  simp only at hn hp hh ⊢
  have HH : Hid (HoldsDeps w b o xx) := hh
  clear hh
  obtain ⟨i0, hi0, hx0⟩ := Option.map_eq_some_iff.1 infoDep
  simp only [Prod.mk.injEq] at hx0
  have HI0 := Lib.hid hi0
  have HX0 := Lib.hid hx0
  clear hi0 hx0
  go_enter Try.func36, Try.ntmps36
  have HB0 : Hid (Below w.heap.size w ((w.alloc (.cells #[.int .i64 xk, .int .i64 xc, .int .i64 xs', .int .i64 xq, .int .i64 xv, .bool xd, .slice (some ⟨b, o, none⟩) xx.length cap] 33)).alloc (.cells #[.int .i64 0, .int .i64 0, .int .i64 0, .int .i64 0, .int .i64 0, .bool false, .slice none 0 0] 33))) :=
    ((Below.refl _ _).alloc (Nat.le_refl _) _).alloc (by simp) _
  go_wp2_with (at_builtin; refine wpList_append_lies _ (by rfl) _ _ _ (by rfl) (w.heap.size + 1 + 1) 71 i0 (depV 0 0 0 0) 4 32 Try.underlying31 HI0.out HX0.out.1 HX0.out.2.1 HX0.out.2.2 (by rfl) (by omega) (.slice none 0 0) 0 [] (by rfl) (World.ownsRow_nil _ _ _ _) ⟨b, o, none⟩ xx.length cap (depVals xx) (by rfl) (depVals_len xx) (depVals_cells (HH.out.below HB0.out hlt)) (depVals_one xx) hp (by unfold maxLen; omega) (by omega) (by simp) _ rfl ?_; intro g cp w5 hown hgrow _ hg5; refine Hid.out ?_)
  refine Lib.hid ?_
  rw [Nat.zero_add] at hown
  obtain ⟨hg4, -⟩ := (fun h => (hown.lt g h) : _ → _ ∧ _) rfl
  have HD5 : Hid (g < w5.heap.size ∧ HoldsDeps w5 g 0 xx ∧ ∀ o, w5.frozen? ⟨g, o, none⟩ = false) := ⟨hg5, depVals_holds rfl hown, fun o => hown.frozenAt o⟩
  have HB5 : Hid (Below w.heap.size w w5) := HB0.out.grown hgrow HB0.out.size fun k hk => by simp [Value.ownBlock] at hk
  have hk0 := Lib.hid (heap_one w (.cells #[.int .i64 xk, .int .i64 xc, .int .i64 xs', .int .i64 xq, .int .i64 xv, .bool xd, .slice (some ⟨b, o, none⟩) xx.length cap] 33) (.cells #[.int .i64 0, .int .i64 0, .int .i64 0, .int .i64 0, .int .i64 0, .bool false, .slice none 0 0] 33))
  obtain ⟨hb0, hf0⟩ := kept_new hgrow hk0.out.1
  obtain ⟨hb1, hf1⟩ := kept_new hgrow hk0.out.2
  have b0 := hb0 0 _ rfl
  have b1 := hb0 1 _ rfl
  have b2 := hb0 2 _ rfl
  have b3 := hb0 3 _ rfl
  have b4 := hb0 4 _ rfl
  have b5 := hb0 5 _ rfl
  have b6 := hb0 6 _ rfl
  have z0 := hb1 0 _ rfl
  have z1 := hb1 1 _ rfl
  have z2 := hb1 2 _ rfl
  have z3 := hb1 3 _ rfl
  have z4 := hb1 4 _ rfl
  have z5 := hb1 5 _ rfl
  have z6 := hb1 6 _ rfl
  clear hb0 hb1
  have hz5 : w.heap.size + 1 < w5.heap.size := by have := hgrow.size; simp at this; omega
  clear hown hgrow HB0 hk0
  go_wp2
  refine bodyPost_ret (v := wrV xk xc xs' xq xv xd (some ⟨g, 0, none⟩) xx.length cp) (by simp [results, Try.results36, go_sem, z0, z1, z2, z3, z4, z5, z6]) rfl ⟨_, g, cp, rfl, fun _ => ⟨rfl, by omega, ?_⟩, ?_⟩
  · exact fresh_set (fresh_set (fresh_set (fresh_set (fresh_set (fresh_set (fresh_set (fresh_set HD5.out (by simp; omega) _) (by simp; omega) _) (by simp; omega) _) (by simp; omega) _) (by simp; omega) _) (by simp; omega) _) (by simp; omega) _) (by simp; omega) _
  · exact (((((((HB5.out.setCell (by simp) _).setCell (by simp) _).setCell (by simp) _).setCell (by simp) _).setCell (by simp) _).setCell (by simp) _).setCell (by simp) _).setCell (by simp) _

set_option maxHeartbeats 2000000 in
theorem icopy_none (x : Wr) (a : Option Addr) (cap : Nat) (w : World) (hx : x.xs = []) :
    Calls Try.prog 36 #[wrOf x a cap] w fun e w' => ∃ a' g cp, e = .returned (wrOf x a' cp) ∧ FreshDeps w.heap.size w' a' g x.xs ∧ Below w.heap.size w w' := by
  obtain ⟨xk, xc, xs', xq, xv, xd, xx⟩ := x
  simp only at hx
  subst hx
  obtain ⟨i0, hi0, -⟩ := Option.map_eq_some_iff.1 infoDep
  have HI0 := Lib.hid hi0
  clear hi0
  go_enter Try.func36, Try.ntmps36
  go_wp2_with (at_builtin; refine wpList_append_zero (by rfl) _ _ _ (by rfl) 71 i0 Try.underlying31 HI0.out none 0 0 (by omega) (by rfl) a cap (by rfl) ?_)
  exact bodyPost_ret (v := wrV xk xc xs' xq xv xd none 0 0) (by simp [results, Try.results36, go_sem]) rfl ⟨none, 0, 0, rfl, fun h => absurd h (by simp), ((Below.refl _ _).alloc (Nat.le_refl _) _).alloc (by simp) _⟩

theorem icopy_any (x : Wr) (a : Option Addr) (cap : Nat) (w : World) (hn : x.xs.length ≤ 1048576) (h : IsDeps w a x.xs) :
    Calls Try.prog 36 #[wrOf x a cap] w fun e w' => ∃ a' g cp, e = .returned (wrOf x a' cp) ∧ FreshDeps w.heap.size w' a' g x.xs ∧ Below w.heap.size w w' := by
  rcases h with h | ⟨b, o, rfl, hlt, hh⟩
  · exact icopy_none x a cap w h
  · by_cases hp : 0 < x.xs.length
    · exact icopy_some x b o cap w hn hp hlt hh
    · exact icopy_none x _ cap w (List.length_eq_zero_iff.1 (by omega))

end Go.Proofs.Ytidpcjcnhklmpai

/- Contracts of impl.MapAt and impl.MapHas. -/
namespace Go.Proofs.Ytidpcjcnhklmpai
open Go.ChangeShapes Go.WideShapes Go.ChangeAt Go.RowKit Go.Joins
attribute [local go_sem ↓] Go.wp_at_zero Go.wp_at_succ

/-- What a look at a map tells: a write of one's own, or nothing. -/
def ToldG (ws : List Wr) (key : Int) (B : Nat) (w' : World) (v : Value) : Prop :=
  (∃ i a g cp, FirstAt ws key i ∧ v = .tuple #[wrOf (ws.getD i wz) a cp, .bool true] ∧ FreshDeps B w' a g (ws.getD i wz).xs) ∨
  (NoneAt ws key ∧ v = .tuple #[wrV 0 0 0 0 0 false none 0 0, .bool false])

theorem fresh_set7 {B : Nat} {w : World} {g : Nat} {xs : List Dp} {a : Option Addr} (h : FreshDeps B w a g xs) {b : Nat} (hne : b < B) (o0 o1 o2 o3 o4 o5 o6 : Nat) (v0 v1 v2 v3 v4 v5 v6 : Value) :
    FreshDeps B (((((((w.setCell ⟨b, o0, none⟩ v0).setCell ⟨b, o1, none⟩ v1).setCell ⟨b, o2, none⟩ v2).setCell ⟨b, o3, none⟩ v3).setCell ⟨b, o4, none⟩ v4).setCell ⟨b, o5, none⟩ v5).setCell ⟨b, o6, none⟩ v6) a g xs := fun hp => by
  obtain ⟨h1, h2, h3⟩ := h hp
  have hn : b ≠ g := by omega
  exact ⟨h1, h2, fresh_set (fresh_set (fresh_set (fresh_set (fresh_set (fresh_set (fresh_set h3 hn _) hn _) hn _) hn _) hn _) hn _) hn _⟩

theorem FreshDeps.mono {B B' : Nat} {w : World} {a : Option Addr} {g : Nat} {xs : List Dp} (h : FreshDeps B w a g xs) (hb : B' ≤ B) : FreshDeps B' w a g xs := fun hp => by
  obtain ⟨h1, h2, h3⟩ := h hp
  exact ⟨h1, Nat.le_trans hb h2, h3⟩

set_option maxHeartbeats 2000000 in
theorem implMapAt_any (a : Option Addr) (n cap : Nat) (key : Int) (ws : List Wr) (w : World) (hn : ws.length = n) (hm : n ≤ 1048576) (hx : Few ws) (hh : IsWs w a ws) :
    Calls Try.prog 15 #[.slice a n cap, .int .i64 key] w fun e w' => ∃ v, e = .returned v ∧ ToldG ws key w.heap.size w' v ∧ Below w.heap.size w w' := by
  have HH : Hid (IsWs w a ws) := hh
  have HN : Hid (ws.length = n) := hn
  have HX : Hid (Few ws) := hx
  clear hh hn hx
  have HB0 : Hid (Below w.heap.size w (w.alloc (.cells #[.int .i64 0, .int .i64 0, .int .i64 0, .int .i64 0, .int .i64 0, .bool false, .slice none 0 0] 33))) := (Below.refl _ _).alloc (Nat.le_refl _) _
  go_enter Try.func15, Try.ntmps15
  go_wp2_with fail
  refine (placeOfKey_any a n cap key ws _ HN.out hm (HH.out.below HB0.out)).mono ?_
  rintro e w1 ⟨r, rfl, hp, hb⟩
  have HX1 := Lib.hid (BoxIn.start hb)
  have HB1 : Hid (Below w.heap.size w w1) := below_step HB0.out HB0.out.size hb
  have z0 := HX1.out.c0
  have z1 := HX1.out.c1
  have z2 := HX1.out.c2
  have z3 := HX1.out.c3
  have z4 := HX1.out.c4
  have z5 := HX1.out.c5
  have z6 := HX1.out.c6
  have f1 : ∀ o, w1.frozen? ⟨w.heap.size, o, none⟩ = false := fun o => (hb.frozen (p := ⟨w.heap.size, o, none⟩) (by simp)).trans (frozen_of_row _ _ o _ _ (heap_alloc_new w _))
  have hz1 := HX1.out.lt
  clear hb HB0
  rcases hp with ⟨i, hf, rfl⟩ | ⟨hno, rfl⟩
  · have hi : i < n := by rw [← HN.out]; exact hf.1
    obtain ⟨b, o, ad, cp, rfl, hz, ⟨e0, e1, e2, e3, e4, e5, e6⟩, hd⟩ := HH.out.at HB1.out HN.out hi
    have i1 : (0 : Int) ≤ (i : Int) := by omega
    have i2 : (i : Int) < (n : Int) := by omega
    have hxl := HX.out i (by rw [HN.out]; exact hi)
    have HD := Lib.hid hd
    have HE : Hid (∀ w2 a' g cp, FreshDeps w.heap.size w2 a' g (ws.getD i wz).xs → ToldG ws key w.heap.size w2 (.tuple #[wrOf (ws.getD i wz) a' cp, .bool true])) := fun w2 a' g cp h1 => .inl ⟨i, a', g, cp, hf, rfl, h1⟩
    clear hd HH hf
    generalize ws.getD i wz = x at *
    obtain ⟨xk, xc, xs', xq, xv, xd, xx⟩ := x
    simp only at e0 e1 e2 e3 e4 e5 e6 HD HE hxl
    go_wp2_with fail
    refine (icopy_any ⟨xk, xc, xs', xq, xv, xd, xx⟩ ad cp _ hxl HD.out).mono ?_
    rintro e w2 ⟨a', g, cp2, rfl, hg, hb⟩
    have HB2 : Hid (Below w.heap.size w w2) := below_step HB1.out HB1.out.size hb
    have HG := Lib.hid (hg.mono hz1)
    have HX2 := Lib.hid (HX1.out.step hb)
    have y0 := HX2.out.c0
    have y1 := HX2.out.c1
    have y2 := HX2.out.c2
    have y3 := HX2.out.c3
    have y4 := HX2.out.c4
    have y5 := HX2.out.c5
    have y6 := HX2.out.c6
    have f2 : ∀ o, w2.frozen? ⟨w.heap.size, o, none⟩ = false := fun o => (hb.frozen (p := ⟨w.heap.size, o, none⟩) hz1).trans (f1 o)
    have hz2 := HX2.out.lt
    clear hb hg z0 z1 z2 z3 z4 z5 z6 f1 hz1 HX1 HX2 HB1
    go_wp2
    refine bodyPost_ret (v := .tuple #[wrV xk xc xs' xq xv xd a' xx.length cp2, .bool true]) (by simp [results, Try.results15, go_sem, y0, y1, y2, y3, y4, y5, y6]) rfl ⟨_, rfl, HE.out _ a' g cp2 ((fresh_set7 HG.out (Nat.lt_succ_self _) _ _ _ _ _ _ _ _ _ _ _ _ _ _).mono (Nat.le_succ _)), ?_⟩
    exact ((((((HB2.out.setCell (by simp) _).setCell (by simp) _).setCell (by simp) _).setCell (by simp) _).setCell (by simp) _).setCell (by simp) _).setCell (by simp) _
  · have HNo := Lib.hid hno
    clear hno
    go_wp2
    refine bodyPost_ret (v := .tuple #[wrV 0 0 0 0 0 false none 0 0, .bool false]) (by simp [results, Try.results15, go_sem, z0, z1, z2, z3, z4, z5, z6]) rfl ⟨_, rfl, .inr ⟨HNo.out, rfl⟩, ?_⟩
    exact ((((((HB1.out.setCell (by simp) _).setCell (by simp) _).setCell (by simp) _).setCell (by simp) _).setCell (by simp) _).setCell (by simp) _).setCell (by simp) _

set_option maxHeartbeats 2000000 in
theorem implMapHas_any (a : Option Addr) (n cap : Nat) (key c s q : Int) (ws : List Wr) (w : World) (hn : ws.length = n) (hm : n ≤ 1048576) (hh : IsWs w a ws) :
    Calls Try.prog 29 #[.slice a n cap, .int .i64 key, tagV c s q] w fun e w' => e = .returned (.bool (hasB ws key c s q)) ∧ Below w.heap.size w w' := by
  have HH : Hid (IsWs w a ws) := hh
  have HN : Hid (ws.length = n) := hn
  clear hh hn
  have HB0 : Hid (Below w.heap.size w (w.alloc (.cells #[.int .i64 c, .int .i64 s, .int .i64 q] 30))) := (Below.refl _ _).alloc (Nat.le_refl _) _
  go_enter Try.func29, Try.ntmps29
  go_wp2_with fail
  refine (placeOfKey_any a n cap key ws _ HN.out hm (HH.out.below HB0.out)).mono ?_
  rintro e w1 ⟨r, rfl, hp, hb⟩
  have HB1 : Hid (Below w.heap.size w w1) := below_step HB0.out HB0.out.size hb
  have z0 : w1.cell? ⟨w.heap.size, 0, none⟩ = some (.int .i64 c) := box_cells hb 0 (by simp)
  have z1 : w1.cell? ⟨w.heap.size, 1, none⟩ = some (.int .i64 s) := box_cells hb 1 (by simp)
  have z2 : w1.cell? ⟨w.heap.size, 2, none⟩ = some (.int .i64 q) := box_cells hb 2 (by simp)
  have hz1 : w.heap.size < w1.heap.size := by have := hb.size; simp at this; omega
  clear hb HB0
  rcases hp with ⟨i, hf, rfl⟩ | ⟨hno, rfl⟩
  · have hi : i < n := by rw [← HN.out]; exact hf.1
    obtain ⟨b, o, ad, cp, rfl, hz, ⟨e0, e1, e2, e3, e4, e5, e6⟩, -⟩ := HH.out.at HB1.out HN.out hi
    have i1 : (0 : Int) ≤ (i : Int) := by omega
    have i2 : (i : Int) < (n : Int) := by omega
    have HE : Hid (hasB ws key c s q = decide (0 ≤ tcmp (ws.getD i wz).c (ws.getD i wz).s (ws.getD i wz).q c s q)) := by simp [hasB, find_first hf, Hid]
    clear HH hf
    generalize ws.getD i wz = x at *
    obtain ⟨xk, xc, xs', xq, xv, xd, xx⟩ := x
    simp only at e0 e1 e2 e3 e4 e5 e6 HE
    go_wp2_with fail
    have ge1 := aft_cell hz e1
    have ge2 := aft_cell hz e2
    have ge3 := aft_cell hz e3
    have gz0 := aft_cell hz1 z0
    have gz1 := aft_cell hz1 z1
    have gz2 := aft_cell hz1 z2
    have ne := aft_some w1
    refine wp_region_aft (by kernel_rfl) (by kernel_rfl) ?_
    repeat (first | go_big_quiet_step (first | (go_at_call 48; exact aft_of (implTagCmp_any _ _ _ _ _ _ _))))
    refine wpQuiet_nil ?_
    intro wq hq
    have HB2 : Hid (Below w.heap.size w wq) := below_step HB1.out HB1.out.size hq
    clear hq
    go_wp2
    go_ret
    rw [HE.out]
    exact ⟨rfl, HB2.out⟩
  · have HE : Hid (hasB ws key c s q = false) := by simp [hasB, find_none hno, Hid]
    clear hno HH
    go_wp2_with fail
    have gz0 := aft_cell hz1 z0
    have ne := aft_some w1
    refine wp_region_aft (by kernel_rfl) (by kernel_rfl) ?_
    repeat (first | go_big_quiet_step (fail))
    refine wpQuiet_nil ?_
    intro wq hq
    have HB2 : Hid (Below w.heap.size w wq) := below_step HB1.out HB1.out.size hq
    clear hq
    go_wp2
    go_ret
    rw [HE.out]
    exact ⟨rfl, HB2.out⟩

end Go.Proofs.Ytidpcjcnhklmpai

/- Marks: what markDepS writes, heldDepS finds. -/
namespace Go.Proofs.Ytidpcjcnhklmpai
open Go.ChangeShapes Go.WideShapes Go.ChangeAt Go.RowKit Go.Joins
attribute [local go_sem ↓] Go.wp_at_zero Go.wp_at_succ

/-- Of what was there these blocks alone may have been written; nothing was made. -/
structure Only (S : Nat → Prop) (w w' : World) : Prop where
  os : w'.os = w.os
  tape : w'.tape = w.tape
  output : w'.output = w.output
  size : w'.heap.size = w.heap.size
  block : ∀ b, ¬ S b → w'.heap[b]? = w.heap[b]?
  frozen : ∀ a, w'.frozen? a = w.frozen? a

theorem Only.refl (S : Nat → Prop) (w : World) : Only S w w := ⟨rfl, rfl, rfl, rfl, fun _ _ => rfl, fun _ => rfl⟩

theorem Only.set {S : Nat → Prop} {w w' : World} (h : Only S w w') {b : Nat} (hb : S b) (o : Nat) (v : Value) : Only S w (w'.setCell ⟨b, o, none⟩ v) :=
  ⟨h.os, h.tape, h.output, by simpa using h.size, fun c hc => (Below.heap_setCell _ _ _ _ (fun e => hc (by rw [e]; exact hb))).trans (h.block c hc), fun a => by simpa using h.frozen a⟩

theorem Only.trans {S T : Nat → Prop} {w w' w'' : World} (h : Only S w w') (k : Only T w' w'') (hT : ∀ b, T b → S b) : Only S w w'' :=
  ⟨k.os.trans h.os, k.tape.trans h.tape, k.output.trans h.output, k.size.trans h.size, fun b hb => (k.block b (fun e => hb (hT b e))).trans (h.block b hb), fun a => (k.frozen a).trans (h.frozen a)⟩

theorem Only.below {S : Nat → Prop} {w w' : World} {B : Nat} (h : Only S w w') (hS : ∀ b, S b → B ≤ b) : Below B w w' :=
  ⟨h.os, h.tape, h.output, by rw [h.size]; exact Nat.le_refl _, fun b hb => h.block b (fun e => by have := hS b e; omega)⟩

/-- The first m cells of block b. -/
def CellsAre (w : World) (b m : Nat) (f : Nat → Value) : Prop := ∀ o, o < m → w.cell? ⟨b, o, none⟩ = some (f o)

theorem CellsAre.of_block {w w' : World} {b m : Nat} {f : Nat → Value} (h : CellsAre w b m f) (hb : w'.heap[b]? = w.heap[b]?) : CellsAre w' b m f :=
  fun o ho => (World.cell?_of_block (a := ⟨b, o, none⟩) hb).trans (h o ho)

theorem CellsAre.set {w : World} {b m : Nat} {f : Nat → Value} (h : CellsAre w b m f) {o : Nat} (ho : o < m) (v : Value) : CellsAre (w.setCell ⟨b, o, none⟩ v) b m (fun j => if j = o then v else f j) := by
  intro j hj
  by_cases e : j = o
  · subst e
    simp [World.cell?_setCell_same, h j hj]
  · simp only [if_neg e]
    rw [World.cell?_setCell_other _ _ _ _ (by intro h; injection h with _ h _; exact e h.symm)]
    exact h j hj

theorem CellsAre.set_other {w : World} {b m : Nat} {f : Nat → Value} (h : CellsAre w b m f) {g : Nat} (hg : g ≠ b) (o : Nat) (v : Value) : CellsAre (w.setCell ⟨g, o, none⟩ v) b m f :=
  h.of_block (Below.heap_setCell _ _ _ _ (Ne.symm hg))

theorem CellsAre.congr {w : World} {b m : Nat} {f f' : Nat → Value} (h : CellsAre w b m f) (he : ∀ o, o < m → f o = f' o) : CellsAre w b m f' := fun o ho => by rw [h o ho, he o ho]

def markFn (k : Int) (o : Nat) : Value := .int .i64 (k + o)

theorem mark_step (k : Int) (j o : Nat) (f : Nat → Value) :
    (if o = j * 4 + 1 + 2 then Value.int .i64 (k + 4 * j + 1 + 1 + 1) else if o = j * 4 + 1 + 1 then Value.int .i64 (k + 4 * j + 1 + 1) else if o = j * 4 + 1 then Value.int .i64 (k + 4 * j + 1) else if o = j * 4 then Value.int .i64 (k + 4 * j) else if o < j * 4 then markFn k o else f o) = (if o < (j + 1) * 4 then markFn k o else f o) := by
  unfold markFn
  by_cases h3 : o = j * 4 + 1 + 2
  · rw [if_pos h3, if_pos (by omega), h3]
    congr 1
    omega
  rw [if_neg h3]
  by_cases h2 : o = j * 4 + 1 + 1
  · rw [if_pos h2, if_pos (by omega), h2]
    congr 1
    omega
  rw [if_neg h2]
  by_cases h1 : o = j * 4 + 1
  · rw [if_pos h1, if_pos (by omega), h1]
    congr 1
    omega
  rw [if_neg h1]
  by_cases h0 : o = j * 4
  · rw [if_pos h0, if_pos (by omega), h0]
    congr 1
    omega
  rw [if_neg h0]
  by_cases hl : o < j * 4
  · rw [if_pos hl, if_pos (by omega)]
  · rw [if_neg hl, if_neg (by omega)]

set_option maxHeartbeats 2000000 in
theorem markDepS_any (a : Option Addr) (g n cap : Nat) (k : Int) (f : Nat → Value) (w : World) (hn : n ≤ 1048576) (h0 : 0 ≤ k) (h1 : k ≤ 1099511627776) (ha : 0 < n → a = some ⟨g, 0, none⟩) (hc : CellsAre w g (n * 4) f) (hz : 0 < n → ∀ o, w.frozen? ⟨g, o, none⟩ = false) :
    Calls Try.prog 39 #[.slice a n cap, .int .i64 k] w fun e w' => e = .returned (.int .i64 (k + 4 * n)) ∧ CellsAre w' g (n * 4) (markFn k) ∧ Only (fun b => 0 < n ∧ b = g) w w' := by
  have HA : Hid (0 < n → a = some ⟨g, 0, none⟩) := ha
  have HC : Hid (CellsAre w g (n * 4) f) := hc
  have HZ : Hid (0 < n → ∀ o, w.frozen? ⟨g, o, none⟩ = false) := hz
  clear hc hz ha
  go_enter Try.func39, Try.ntmps39
  go_wp2
  go_loopw [1, 5] (fun l i wr => ∃ (j : Nat), j ≤ n ∧ i = .int .i64 j ∧ l = .int .i64 (k + 4 * j) ∧ Hid (CellsAre wr g (n * 4) (fun o => if o < j * 4 then markFn k o else f o)) ∧ Hid (Only (fun b => 0 < n ∧ b = g) w wr)) (fun _ i _ => n - (intOf i).toNat)
  case atStart => exact ⟨0, Nat.zero_le _, rfl, by simp, HC.out.congr (fun o _ => by simp), Only.refl _ _⟩
  case round =>
    obtain ⟨j, hj, rfl, rfl, HR, HO⟩ := hrel
    by_cases hj' : j < n
    · have hn0 : 0 < n := by omega
      obtain rfl := HA.out hn0
      have c0 := HR.out (j * 4) (by omega)
      have c1 := HR.out (j * 4 + 1) (by omega)
      have c2 := HR.out (j * 4 + 2) (by omega)
      have c3 := HR.out (j * 4 + 3) (by omega)
      have fz : ∀ o, wr.frozen? ⟨g, o, none⟩ = false := fun o => (HO.out.frozen _).trans (HZ.out hn0 o)
      have i1 : (0 : Int) ≤ (j : Int) := by omega
      have i2 : (j : Int) < (n : Int) := by omega
      go_wp2
      exact ⟨⟨j + 1, by omega, by go_num, by congr 1; push_cast; omega, ((((HR.out.set (by omega) _).set (by omega) _).set (by omega) _).set (by omega) _).congr (fun o _ => mark_step k j o f), (((HO.out.set ⟨hn0, rfl⟩ _ _).set ⟨hn0, rfl⟩ _ _).set ⟨hn0, rfl⟩ _ _).set ⟨hn0, rfl⟩ _ _⟩, by simp [intOf]; omega⟩
    · have hjj : j = n := by omega
      subst hjj
      go_wp2
      go_ret
      exact ⟨rfl, HR.out.congr (fun o ho => by rw [if_pos ho]), HO.out⟩

set_option maxHeartbeats 2000000 in
theorem heldDepS_any (a : Option Addr) (g n cap : Nat) (k : Int) (w : World) (hn : n ≤ 1048576) (h0 : 0 ≤ k) (h1 : k ≤ 1099511627776) (ha : 0 < n → a = some ⟨g, 0, none⟩) (hc : CellsAre w g (n * 4) (markFn k)) :
    Calls Try.prog 40 #[.slice a n cap, .int .i64 k] w fun e w' => e = .returned (.int .i64 (k + 4 * n)) ∧ w' = w := by
  have HA : Hid (0 < n → a = some ⟨g, 0, none⟩) := ha
  have HC : Hid (CellsAre w g (n * 4) (markFn k)) := hc
  clear hc ha
  go_enter Try.func40, Try.ntmps40
  go_wp2
  go_loopw [1, 5] (fun l i wr => ∃ (j : Nat), j ≤ n ∧ i = .int .i64 j ∧ l = .int .i64 (k + 4 * j) ∧ wr = w) (fun _ i _ => n - (intOf i).toNat)
  case atStart => exact ⟨0, Nat.zero_le _, rfl, by simp, rfl⟩
  case round =>
    obtain ⟨j, hj, rfl, rfl, rfl⟩ := hrel
    by_cases hj' : j < n
    · obtain rfl := HA.out (by omega)
      have c0 := HC.out (j * 4) (by omega)
      have c1 := HC.out (j * 4 + 1) (by omega)
      have c2 := HC.out (j * 4 + 1 + 1) (by omega)
      have c3 := HC.out (j * 4 + 1 + 2) (by omega)
      simp only [markFn] at c0 c1 c2 c3
      rw [show k + ((j * 4 : Nat) : Int) = k + 4 * j by omega] at c0
      rw [show k + ((j * 4 + 1 : Nat) : Int) = k + 4 * j + 1 by omega] at c1
      rw [show k + ((j * 4 + 1 + 1 : Nat) : Int) = k + 4 * j + 1 + 1 by omega] at c2
      rw [show k + ((j * 4 + 1 + 2 : Nat) : Int) = k + 4 * j + 1 + 1 + 1 by omega] at c3
      have i1 : (0 : Int) ≤ (j : Int) := by omega
      have i2 : (j : Int) < (n : Int) := by omega
      go_wp2
      exact ⟨⟨j + 1, by omega, by go_num, by congr 1; push_cast; omega, trivial⟩, by simp [intOf]; omega⟩
    · have hjj : j = n := by omega
      subst hjj
      go_wp2
      go_ret
      exact ⟨rfl, rfl⟩

set_option maxHeartbeats 1000000 in
theorem markWrite_any (xk xc xs' xq xv : Int) (xd : Bool) (a : Option Addr) (g n cap : Nat) (k : Int) (f : Nat → Value) (w : World) (hn : n ≤ 1048576) (h0 : 0 ≤ k) (h1 : k ≤ 1099511627776) (hlt : 0 < n → g < w.heap.size) (ha : 0 < n → a = some ⟨g, 0, none⟩) (hc : CellsAre w g (n * 4) f) (hz : 0 < n → ∀ o, w.frozen? ⟨g, o, none⟩ = false) :
    Calls Try.prog 18 #[wrV xk xc xs' xq xv xd a n cap, .int .i64 k] w fun e w' => ∃ w1, e = .returned (.int .i64 (k + 4 * n)) ∧ CellsAre w' g (n * 4) (markFn k) ∧ Below w.heap.size w w1 ∧ Only (fun b => 0 < n ∧ b = g) w1 w' := by
  have HC : Hid (CellsAre (w.alloc (.cells #[.int .i64 xk, .int .i64 xc, .int .i64 xs', .int .i64 xq, .int .i64 xv, .bool xd, .slice a n cap] 33)) g (n * 4) f) := by
    by_cases h : 0 < n
    · exact hc.of_block (((Below.refl w.heap.size w).alloc (Nat.le_refl _) _).block _ (hlt h))
    · exact fun o ho => by omega
  have HZ : Hid (0 < n → ∀ o, (w.alloc (.cells #[.int .i64 xk, .int .i64 xc, .int .i64 xs', .int .i64 xq, .int .i64 xv, .bool xd, .slice a n cap] 33)).frozen? ⟨g, o, none⟩ = false) := fun h o => (((Below.refl w.heap.size w).alloc (Nat.le_refl _) _).frozen (p := ⟨g, o, none⟩) (hlt h)).trans (hz h o)
  have HA : Hid (0 < n → a = some ⟨g, 0, none⟩) := ha
  clear hc hz ha hlt
  go_enter Try.func18, Try.ntmps18
  go_wp2_with fail
  refine (markDepS_any _ _ _ _ _ _ _ hn h0 h1 HA.out HC.out HZ.out).mono ?_
  rintro e w2 ⟨rfl, h2, h3⟩
  have H2 := Lib.hid h2
  have H3 := Lib.hid h3
  clear h2 h3
  go_wp2
  go_ret
  exact ⟨_, rfl, H2.out, (Below.refl _ _).alloc (Nat.le_refl _) _, H3.out⟩

set_option maxHeartbeats 1000000 in
theorem heldWrite_any (xk xc xs' xq xv : Int) (xd : Bool) (a : Option Addr) (g n cap : Nat) (k : Int) (w : World) (hn : n ≤ 1048576) (h0 : 0 ≤ k) (h1 : k ≤ 1099511627776) (hlt : 0 < n → g < w.heap.size) (ha : 0 < n → a = some ⟨g, 0, none⟩) (hc : CellsAre w g (n * 4) (markFn k)) :
    Calls Try.prog 19 #[wrV xk xc xs' xq xv xd a n cap, .int .i64 k] w fun e w' => e = .returned (.int .i64 (k + 4 * n)) ∧ Below w.heap.size w w' := by
  have HC : Hid (CellsAre (w.alloc (.cells #[.int .i64 xk, .int .i64 xc, .int .i64 xs', .int .i64 xq, .int .i64 xv, .bool xd, .slice a n cap] 33)) g (n * 4) (markFn k)) := by
    by_cases h : 0 < n
    · exact hc.of_block (((Below.refl w.heap.size w).alloc (Nat.le_refl _) _).block _ (hlt h))
    · exact fun o ho => by omega
  have HA : Hid (0 < n → a = some ⟨g, 0, none⟩) := ha
  clear hc ha hlt
  go_enter Try.func19, Try.ntmps19
  go_wp2_with fail
  refine (heldDepS_any _ _ _ _ _ _ hn h0 h1 HA.out HC.out).mono ?_
  rintro e w2 ⟨rfl, rfl⟩
  go_wp2
  go_ret
  exact ⟨rfl, (Below.refl _ _).alloc (Nat.le_refl _) _⟩

end Go.Proofs.Ytidpcjcnhklmpai
