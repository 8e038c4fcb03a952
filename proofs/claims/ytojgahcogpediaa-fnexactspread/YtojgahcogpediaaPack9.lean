import Derived.Test.YtojgahcogpediaaPack8
import Derived.Test.YtojgahcogpediaaPack7
import Derived.Deep.OwnRows
/- Lists of hints: what a slice of hints leads to; the contracts of eqHint, eqHintS, szHint, szHintS. -/
namespace Go.Proofs.Ytojgahcogpediaa
open Go.ChangeShapes Go.WideShapes Go.ChangeAt Go.RowKit Go.Joins
attribute [local go_sem ↓] Go.wp_at_zero Go.wp_at_succ

/-- A hint: for which place it is, and its write. -/
structure Hn where
  f : Int
  x : Wr

def hnz : Hn := ⟨0, wz⟩

abbrev hnV (f k c s q v : Int) (de : Bool) (a : Option Addr) (len cap : Nat) : Value := .agg #[.int .i64 f, .int .i64 k, .int .i64 c, .int .i64 s, .int .i64 q, .int .i64 v, .bool de, .slice a len cap]

def HnAt (w : World) (b o : Nat) (h : Hn) (a : Option Addr) (cap : Nat) : Prop :=
  w.cell? ⟨b, o, none⟩ = some (.int .i64 h.f) ∧ w.cell? ⟨b, o + 1, none⟩ = some (.int .i64 h.x.k) ∧ w.cell? ⟨b, o + 2, none⟩ = some (.int .i64 h.x.c) ∧ w.cell? ⟨b, o + 3, none⟩ = some (.int .i64 h.x.s) ∧ w.cell? ⟨b, o + 4, none⟩ = some (.int .i64 h.x.q) ∧
  w.cell? ⟨b, o + 5, none⟩ = some (.int .i64 h.x.v) ∧ w.cell? ⟨b, o + 6, none⟩ = some (.bool h.x.de) ∧ w.cell? ⟨b, o + 7, none⟩ = some (.slice a h.x.xs.length cap)

theorem HnAt.of_block {w w' : World} {b o : Nat} {h : Hn} {a : Option Addr} {cap : Nat} (hh : HnAt w b o h a cap) (hb : w'.heap[b]? = w.heap[b]?) : HnAt w' b o h a cap := by
  obtain ⟨h0, h1, h2, h3, h4, h5, h6, h7⟩ := hh
  have e : ∀ i, w'.cell? ⟨b, i, none⟩ = w.cell? ⟨b, i, none⟩ := fun i => World.cell?_of_block (a := ⟨b, i, none⟩) hb
  exact ⟨(e _).trans h0, (e _).trans h1, (e _).trans h2, (e _).trans h3, (e _).trans h4, (e _).trans h5, (e _).trans h6, (e _).trans h7⟩

/-- What a slice of hints leads to. -/
def IsHs (w : World) (a : Option Addr) (hs : List Hn) : Prop :=
  hs = [] ∨ ∃ b o, a = some ⟨b, o, none⟩ ∧ b < w.heap.size ∧ ∀ i, i < hs.length → ∃ a' cap, HnAt w b (o + i * 8) (hs.getD i hnz) a' cap ∧ (hs.getD i hnz).x.xs.length ≤ maxLen ∧ IsDeps w a' (hs.getD i hnz).x.xs

theorem IsHs.below {w w' : World} {a : Option Addr} {hs : List Hn} (h : IsHs w a hs) (hb : Below w.heap.size w w') : IsHs w' a hs := by
  rcases h with h | ⟨b, o, ha, hlt, hh⟩
  · exact .inl h
  · refine .inr ⟨b, o, ha, Nat.lt_of_lt_of_le hlt hb.size, fun i hi => ?_⟩
    obtain ⟨a', cap, h1, h2, h3⟩ := hh i hi
    exact ⟨a', cap, h1.of_block (hb.block _ hlt), h2, h3.below hb⟩

theorem IsHs.at {w w' : World} {a : Option Addr} {hs : List Hn} (h : IsHs w a hs) (hb : Below w.heap.size w w') {k : Nat} (hk : k < hs.length) :
    ∃ b o a' cap, a = some ⟨b, o, none⟩ ∧ b < w'.heap.size ∧ HnAt w' b (o + k * 8) (hs.getD k hnz) a' cap ∧ (hs.getD k hnz).x.xs.length ≤ maxLen ∧ IsDeps w' a' (hs.getD k hnz).x.xs := by
  rcases h.below hb with h | ⟨b, o, ha, hlt, hh⟩
  · subst h
    simp at hk
  · obtain ⟨a', cap, h1, h2, h3⟩ := hh k hk
    exact ⟨b, o, a', cap, ha, hlt, h1, h2, h3⟩

/-- The writes of hints. -/
def hnW (hs : List Hn) : List Wr := hs.map (·.x)

theorem hnW_len (hs : List Hn) : (hnW hs).length = hs.length := by simp [hnW]

theorem hnW_get (hs : List Hn) {i : Nat} (h : i < hs.length) : (hnW hs).getD i wz = (hs.getD i hnz).x := by simp [hnW, List.getD, h]

/-- No hint's write has too many dependencies. -/
def FewH (hs : List Hn) : Prop := ∀ i, i < hs.length → (hs.getD i hnz).x.xs.length ≤ 1048576

theorem fewH_bulk {hs : List Hn} (h : bulk (hnW hs) ≤ 1048576) : FewH hs := fun i hi => by
  have := bulk_one (hnW hs) i (by rw [hnW_len]; exact hi)
  rw [hnW_get hs hi] at this
  omega

set_option maxRecDepth 100000 in
set_option maxHeartbeats 2000000 in
theorem eqHint_same (f k c s q v : Int) (de : Bool) (a a' : Option Addr) (len cap cap' : Nat) (xs : List Dp) (w : World) (hn : len ≤ 1048576) (hl : xs.length = len) (h : IsDeps w a xs) (h' : IsDeps w a' xs) :
    Calls Try.prog 83 #[hnV f k c s q v de a len cap, hnV f k c s q v de a' len cap'] w fun e w' => e = .returned (.bool true) ∧ Below w.heap.size w w' := by
  have HB : Hid (Below w.heap.size w ((w.alloc (.cells #[.int .i64 f, .int .i64 k, .int .i64 c, .int .i64 s, .int .i64 q, .int .i64 v, .bool de, .slice a len cap] 65)).alloc (.cells #[.int .i64 f, .int .i64 k, .int .i64 c, .int .i64 s, .int .i64 q, .int .i64 v, .bool de, .slice a' len cap'] 65))) := ((Below.refl _ _).alloc (Nat.le_refl _) _).alloc (by simp) _
  have H := Lib.hid h
  have H' := Lib.hid h'
  have HL := Lib.hid hl
  clear h h' hl
  go_enter Try.func83, Try.ntmps83
  go_wp2_with fail
  refine (eqWrite_gen k c s q v de a a' len cap cap' xs _ hn HL.out (H.out.below HB.out) (H'.out.below HB.out)).mono ?_
  rintro e w1 ⟨rfl, hb⟩
  have HB1 : Hid (Below w.heap.size w w1) := below_step HB.out HB.out.size hb
  clear hb
  go_wp2
  go_ret
  exact ⟨rfl, HB1.out⟩

set_option maxRecDepth 100000 in
set_option maxHeartbeats 2000000 in
theorem eqHintS_same (a a' : Option Addr) (n cap cap' : Nat) (hs : List Hn) (w : World) (hn : hs.length = n) (hm : n ≤ 1048576) (hx : FewH hs) (h : IsHs w a hs) (h' : IsHs w a' hs) :
    Calls Try.prog 41 #[.slice a n cap, .slice a' n cap'] w fun e w' => e = .returned (.bool true) ∧ Below w.heap.size w w' := by
  have H := Lib.hid h
  have H' := Lib.hid h'
  have HN := Lib.hid hn
  have HX := Lib.hid hx
  clear h h' hn hx
  go_enter Try.func41, Try.ntmps41
  go_wp2
  go_loopw [5] (fun i wr => ∃ k : Nat, k ≤ n ∧ i = .int .i64 k ∧ Hid (Below w.heap.size w wr)) (fun i _ => n - (intOf i).toNat)
  case atStart => exact ⟨0, Nat.zero_le _, rfl, Below.refl _ _⟩
  case round =>
    obtain ⟨k, hk, rfl, HB⟩ := hrel
    by_cases hk' : k < n
    · have hkk : k < hs.length := by rw [HN.out]; exact hk'
      have i1 : (0 : Int) ≤ (k : Int) := by omega
      have i2 : (k : Int) < (n : Int) := by omega
      obtain ⟨b, o, ad, cp, rfl, hz, e0, -, hd⟩ := H.out.at HB.out hkk
      obtain ⟨b', o', ad', cp', rfl, hz', f0, -, hd'⟩ := H'.out.at HB.out hkk
      have hl := HX.out k hkk
      have HC : Hid (∀ W, Below wr.heap.size wr W → Calls Try.prog 83 #[hnV (hs.getD k hnz).f (hs.getD k hnz).x.k (hs.getD k hnz).x.c (hs.getD k hnz).x.s (hs.getD k hnz).x.q (hs.getD k hnz).x.v (hs.getD k hnz).x.de ad (hs.getD k hnz).x.xs.length cp, hnV (hs.getD k hnz).f (hs.getD k hnz).x.k (hs.getD k hnz).x.c (hs.getD k hnz).x.s (hs.getD k hnz).x.q (hs.getD k hnz).x.v (hs.getD k hnz).x.de ad' (hs.getD k hnz).x.xs.length cp'] W fun e w' => e = .returned (.bool true) ∧ Below W.heap.size W w') := fun W hW => eqHint_same _ _ _ _ _ _ _ _ _ _ _ _ (hs.getD k hnz).x.xs W hl rfl (hd.below hW) (hd'.below hW)
      have HE : Hid (∀ W, Below wr.heap.size wr W → HnAt W b (o + k * 8) (hs.getD k hnz) ad cp ∧ HnAt W b' (o' + k * 8) (hs.getD k hnz) ad' cp') := fun W hW => ⟨e0.of_block (hW.block b hz), f0.of_block (hW.block b' hz')⟩
      clear hd hd' e0 f0 hl
      generalize hs.getD k hnz = y at *
      obtain ⟨yf, yk, yc, ys, yq, yv, yd, yy⟩ := y
      unfold HnAt at HE
      simp only at HC HE
      generalize yy.length = q at *
      go_wp2_with fail
      refine wp_region_slots 10 [[(0, false)], [(5, false)], [(17, true), (18, true)], [(19, true)], [(1, false)], [(5, false)], [(21, true), (22, true)], [(23, true)], [(20, true), (24, true)], [(25, true)]] (fun w' => Below wr.heap.size wr w') (fun w w' => Below w.heap.size w w') (by kernel_rfl) (by kernel_rfl) (by rfl) ((Below.refl _ _).drew) (fun _ _ h hb => below_step h h.size hb) ?_
      iterate 8 (apply slot_eq; · (intro ρ w' ⟨p1, p2, p3⟩ hbl hn; obtain ⟨⟨c1, c2, c3, c4, c5, c6, c7, c8⟩, ⟨d1, d2, d3, d4, d5, d6, d7, d8⟩⟩ := HE.out w' hbl; simp at hn; go_simp; exact ⟨Below.refl _ _, rfl⟩))
      apply slot_eq
      · intro ρ w' ⟨p1, p2, p3⟩ hbl hn
        simp at hn
        obtain ⟨e1, e2⟩ := hn
        go_simp
        exact got_call (HC.out w' hbl) fun e w'' ⟨he, hb⟩ => ⟨_, he, hb, rfl⟩
      apply slot_eq
      · intro ρ w' ⟨p1, p2, p3⟩ hbl hn
        simp at hn
        go_simp
        exact ⟨Below.refl _ _, rfl⟩
      refine slot_end ?_
      intro vs w3 hS hF
      simp at hF
      obtain ⟨h26, -⟩ := hF
      have HB3 := Lib.hid (below_step HB.out HB.out.size hS)
      clear hS
      simp only [List.take_succ_cons, List.take_zero, List.drop_succ_cons, List.drop_zero, putAll, h26]
      clear h26
      simp only [Act.put, List.setIfInBounds_toArray, List.set_cons_succ, List.set_cons_zero]
      go_wp2
      exact ⟨⟨k + 1, by omega, by go_num, HB3⟩, by simp [intOf]; omega⟩
    · have hkk : k = n := by omega
      subst hkk
      go_wp2
      go_ret
      exact ⟨rfl, HB.out⟩

set_option maxRecDepth 100000 in
set_option maxHeartbeats 1000000 in
theorem szHint_small (f k c s q v : Int) (de : Bool) (a : Option Addr) (len cap : Nat) (left : Int) (w : World) (h0 : 0 ≤ left) (h1 : left ≤ 1048576) (h : (len : Int) ≤ left) :
    Calls Try.prog 71 #[hnV f k c s q v de a len cap, .int .i64 left] w fun e w' => e = .returned (.int .i64 (left - len)) ∧ Below w.heap.size w w' := by
  have HB : Hid (Below w.heap.size w (w.alloc (.cells #[.int .i64 f, .int .i64 k, .int .i64 c, .int .i64 s, .int .i64 q, .int .i64 v, .bool de, .slice a len cap] 107))) := (Below.refl _ _).alloc (Nat.le_refl _) _
  go_enter Try.func71, Try.ntmps71
  go_wp2_with fail
  refine (szWrite_small k c s q v de a len cap left _ h0 h1 h).mono ?_
  rintro e w1 ⟨rfl, hb⟩
  have HB1 := Lib.hid (below_step HB.out HB.out.size hb)
  clear hb
  go_wp2
  go_ret
  exact ⟨rfl, HB1.out⟩

set_option maxRecDepth 100000 in
set_option maxHeartbeats 1000000 in
theorem szHint_big (f k c s q v : Int) (de : Bool) (a : Option Addr) (len cap : Nat) (left : Int) (w : World) (h0 : 0 ≤ left) (h1 : left ≤ 1048576) (h : left < (len : Int)) (hm : len ≤ maxLen) :
    Calls Try.prog 71 #[hnV f k c s q v de a len cap, .int .i64 left] w fun e w' => e = .returned (.int .i64 (-1)) ∧ Below w.heap.size w w' := by
  have HB : Hid (Below w.heap.size w (w.alloc (.cells #[.int .i64 f, .int .i64 k, .int .i64 c, .int .i64 s, .int .i64 q, .int .i64 v, .bool de, .slice a len cap] 107))) := (Below.refl _ _).alloc (Nat.le_refl _) _
  go_enter Try.func71, Try.ntmps71
  go_wp2_with fail
  refine (szWrite_big k c s q v de a len cap left _ h0 h1 h hm).mono ?_
  rintro e w1 ⟨rfl, hb⟩
  have HB1 := Lib.hid (below_step HB.out HB.out.size hb)
  clear hb
  go_wp2
  go_ret
  exact ⟨rfl, HB1.out⟩

set_option maxRecDepth 100000 in
set_option maxHeartbeats 2000000 in
theorem szHintS_any (a : Option Addr) (len cap : Nat) (left : Int) (hs : List Hn) (w : World) (h0 : 0 ≤ left) (h1 : left ≤ 1048576) (hm : len ≤ maxLen) (hl : hs.length = len) (hi : IsHs w a hs) :
    Calls Try.prog 31 #[.slice a len cap, .int .i64 left] w fun e w' => ∃ r : Int, e = .returned (.int .i64 r) ∧ (r = -1 ∨ (0 ≤ r ∧ r = left - len - bulk (hnW hs))) ∧ Below w.heap.size w w' := by
  have HI := Lib.hid hi
  have HL := Lib.hid hl
  clear hi hl
  unfold maxLen at hm
  go_enter Try.func31, Try.ntmps31
  by_cases hbig : left < (len : Int)
  · go_wp2
    go_ret
    exact ⟨_, rfl, .inl rfl, Below.refl _ _⟩
  go_wp2
  go_loopw [1, 5] (fun l i wr => ∃ (k : Nat) (r : Int), k ≤ len ∧ i = .int .i64 k ∧ l = .int .i64 r ∧ 0 ≤ r ∧ r ≤ 1048576 ∧ Hid (r = left - len - bulk ((hnW hs).take k)) ∧ Hid (Below w.heap.size w wr)) (fun _ i _ => len - (intOf i).toNat)
  case atStart => exact ⟨0, left - len, by omega, rfl, rfl, by omega, by omega, by simp [Hid, bulk], Below.refl _ _⟩
  case round =>
    obtain ⟨k, r, hk, rfl, rfl, r0, r1, HR, HB⟩ := hrel
    by_cases hk' : k < len
    · have hkk : k < hs.length := by rw [HL.out]; exact hk'
      obtain ⟨b, o, a', cp, rfl, hz, hw, hmx, -⟩ := HI.out.at HB.out hkk
      obtain ⟨e0, e1, e2, e3, e4, e5, e6, e7⟩ := hw
      have ht := bulk_take (hnW hs) k (by rw [hnW_len]; exact hkk)
      rw [hnW_get hs hkk] at ht
      have HT := Lib.hid ht
      have i1 : (0 : Int) ≤ (k : Int) := by omega
      have i2 : (k : Int) < (len : Int) := by omega
      clear ht
      generalize hs.getD k hnz = y at *
      obtain ⟨yf, yk, yc, ys, yq, yv, yd, yy⟩ := y
      simp only at e0 e1 e2 e3 e4 e5 e6 e7 hmx HT
      by_cases hx : (yy.length : Int) ≤ r
      · go_wp2_with fail
        refine (szHint_small _ _ _ _ _ _ _ _ _ _ _ _ r0 r1 hx).mono ?_
        rintro e w2 ⟨rfl, hb⟩
        have HB2 : Hid (Below w.heap.size w w2) := below_step HB.out HB.out.size hb
        clear hb
        go_wp2
        exact ⟨⟨k + 1, _, by omega, by go_num, rfl, by omega, by omega, by have := HT.out; have := HR.out; exact Lib.hid (by omega), HB2⟩, by simp [intOf]; omega⟩
      · go_wp2_with fail
        refine (szHint_big _ _ _ _ _ _ _ _ _ _ _ _ r0 r1 (by omega) hmx).mono ?_
        rintro e w2 ⟨rfl, hb⟩
        have HB2 : Hid (Below w.heap.size w w2) := below_step HB.out HB.out.size hb
        clear hb
        go_wp2
        go_ret
        exact ⟨_, rfl, .inl rfl, HB2.out⟩
    · have hkk : k = len := by omega
      subst hkk
      go_wp2
      go_ret
      refine ⟨_, rfl, .inr ⟨r0, ?_⟩, HB.out⟩
      have := HR.out
      rw [show (hnW hs).take k = hnW hs from List.take_of_length_le (by rw [hnW_len, HL.out]; exact Nat.le_refl _)] at this
      exact this

end Go.Proofs.Ytojgahcogpediaa

/- Lists of writes that a call answers, or that are handed to one: marks on them, and what marks leave alone. -/
namespace Go.Proofs.Ytojgahcogpediaa
open Go.ChangeShapes Go.WideShapes Go.ChangeAt Go.RowKit Go.Joins
attribute [local go_sem ↓] Go.wp_at_zero Go.wp_at_succ

/-- What was written lies in these blocks. -/
abbrev Span (lo hi : Nat) (x : Nat) : Prop := lo ≤ x ∧ x < hi

/-- A list of writes of one's own, between two block numbers; it may be nil where it is empty. -/
def OwnA (w : World) (lo hi : Nat) (a : Option Addr) (ws : List Wr) (γ : Nat → Nat) : Prop :=
  ws = [] ∨ ∃ b, a = some ⟨b, 0, none⟩ ∧ OwnG w lo b ws γ ∧ b < hi ∧ ∀ i, i < ws.length → 0 < (ws.getD i wz).xs.length → γ i < hi

theorem OwnG.ownA {w : World} {lo b : Nat} {ws : List Wr} {γ : Nat → Nat} (h : OwnG w lo b ws γ) : OwnA w lo w.heap.size (some ⟨b, 0, none⟩) ws γ :=
  .inr ⟨b, rfl, h, h.lt, fun i hi hp => (h.deps i hi hp).2.1⟩

theorem RowG.ownA {w : World} {base : Nat} {v : Value} {es : List EnG} (h : RowG w base v es) {ws : List Wr} (hw : es.map (·.x) = ws) : ∃ a cap n, v = .slice a n cap ∧ ws.length = n ∧ OwnA w base w.heap.size a ws (gammaG es) := by
  obtain ⟨a, cap, h1, h2⟩ := h.form
  subst hw
  refine ⟨a, cap, es.length, h1, by simp, ?_⟩
  rcases h2 with h2 | ⟨b, rfl, h2⟩
  · exact .inl (by simp [h2])
  · exact h2.ownA

theorem OwnA.below {w w' : World} {lo hi : Nat} {a : Option Addr} {ws : List Wr} {γ : Nat → Nat} (h : OwnA w lo hi a ws γ) (hb : Below w.heap.size w w') : OwnA w' lo hi a ws γ := by
  rcases h with h | ⟨b, h1, h2, h3⟩
  · exact .inl h
  · exact .inr ⟨b, h1, h2.below hb, h3⟩

theorem OwnG.only {w w' : World} {S : Nat → Prop} {base b : Nat} {ws : List Wr} {γ : Nat → Nat} (h : OwnG w base b ws γ) (ho : Only S w w') (hS : ∀ x, S x → x < base) : OwnG w' base b ws γ where
  lt := by rw [ho.size]; exact h.lt
  le := h.le
  open_ := fun o => (ho.frozen _).trans (h.open_ o)
  at_ := fun i hi => by
    obtain ⟨a, cap, h1, h2⟩ := h.at_ i hi
    exact ⟨a, cap, h1.of_block (ho.block b fun e => by have := hS b e; have := h.le; omega), h2⟩
  deps := fun i hi hp => by
    obtain ⟨h1, h2, h3, h4, h5⟩ := h.deps i hi hp
    have hb : w'.heap[γ i]? = w.heap[γ i]? := ho.block _ fun e => by have := hS _ e; omega
    have e' : ∀ o, w'.cell? ⟨γ i, o, none⟩ = w.cell? ⟨γ i, o, none⟩ := fun o => World.cell?_of_block (a := ⟨γ i, o, none⟩) hb
    exact ⟨h1, by rw [ho.size]; exact h2, h3, fun j hj => ⟨(e' _).trans (h4 j hj).1, (e' _).trans (h4 j hj).2.1, (e' _).trans (h4 j hj).2.2.1, (e' _).trans (h4 j hj).2.2.2⟩, fun o => (ho.frozen _).trans (h5 o)⟩
  inj := h.inj

theorem OwnA.only {w w' : World} {S : Nat → Prop} {lo hi : Nat} {a : Option Addr} {ws : List Wr} {γ : Nat → Nat} (h : OwnA w lo hi a ws γ) (ho : Only S w w') (hS : ∀ x, S x → x < lo) : OwnA w' lo hi a ws γ := by
  rcases h with h | ⟨b, h1, h2, h3⟩
  · exact .inl h
  · exact .inr ⟨b, h1, h2.only ho hS, h3⟩

theorem OwnA.isWs {w : World} {lo hi : Nat} {a : Option Addr} {ws : List Wr} {γ : Nat → Nat} (h : OwnA w lo hi a ws γ) (hx : Few ws) : IsWs w a ws := by
  rcases h with h | ⟨b, h1, h2, _⟩
  · exact .inl h
  · rw [h1]
    exact h2.isWs hx

/-- A list that is marked. -/
def MarkedA (w : World) (a : Option Addr) (ws : List Wr) (γ : Nat → Nat) (k : Int) : Prop :=
  ws = [] ∨ ∃ b, a = some ⟨b, 0, none⟩ ∧ MarkedWs w b ws γ k ∧ b < w.heap.size ∧ ∀ i, i < ws.length → 0 < (ws.getD i wz).xs.length → γ i < w.heap.size

theorem MarkedA.below {w w' : World} {a : Option Addr} {ws : List Wr} {γ : Nat → Nat} {k : Int} (h : MarkedA w a ws γ k) (hb : Below w.heap.size w w') : MarkedA w' a ws γ k := by
  rcases h with h | ⟨b, h1, h2, h3, h4⟩
  · exact .inl h
  · exact .inr ⟨b, h1, h2.below hb h3 h4, Nat.lt_of_lt_of_le h3 hb.size, fun i hi hp => Nat.lt_of_lt_of_le (h4 i hi hp) hb.size⟩

set_option maxHeartbeats 1000000 in
theorem markWriteS_nil (a : Option Addr) (cap : Nat) (k : Int) (w : World) :
    Calls Try.prog 18 #[.slice a 0 cap, .int .i64 k] w fun e w' => e = .returned (.int .i64 k) ∧ w' = w := by
  go_enter Try.func18, Try.ntmps18
  go_wp2
  go_loopw [1, 5] (fun l i wr => i = .int .i64 0 ∧ l = .int .i64 k ∧ wr = w) (fun _ _ _ => 0)
  case atStart => exact ⟨rfl, rfl, rfl⟩
  case round =>
    obtain ⟨rfl, rfl, rfl⟩ := hrel
    go_wp2
    go_ret
    exact ⟨rfl, rfl⟩

set_option maxHeartbeats 1000000 in
theorem heldWriteS_nil (a : Option Addr) (cap : Nat) (k : Int) (w : World) :
    Calls Try.prog 24 #[.slice a 0 cap, .int .i64 k] w fun e w' => e = .returned (.int .i64 k) ∧ w' = w := by
  go_enter Try.func24, Try.ntmps24
  go_wp2
  go_loopw [1, 5] (fun l i wr => i = .int .i64 0 ∧ l = .int .i64 k ∧ wr = w) (fun _ _ _ => 0)
  case atStart => exact ⟨rfl, rfl, rfl⟩
  case round =>
    obtain ⟨rfl, rfl, rfl⟩ := hrel
    go_wp2
    go_ret
    exact ⟨rfl, rfl⟩

theorem markWriteS_all (lo hi n cap : Nat) (a : Option Addr) (k : Int) (ws : List Wr) (γ : Nat → Nat) (w : World) (hn : ws.length = n) (hm : n ≤ 1048576) (hbk : bulk ws ≤ 1048576) (h0 : 0 ≤ k) (h1 : k ≤ 1073741824) (h : OwnA w lo hi a ws γ) :
    Calls Try.prog 18 #[.slice a n cap, .int .i64 k] w fun e w' => e = .returned (.int .i64 (markK ws k n)) ∧ MarkedA w' a ws γ k ∧ Only (Span lo hi) w w' := by
  rcases h with h | ⟨b, rfl, h2, h3, h4⟩
  · subst h
    have hn0 : n = 0 := by rw [← hn]; rfl
    subst hn0
    refine (markWriteS_nil a cap k w).mono ?_
    rintro e w' ⟨rfl, rfl⟩
    exact ⟨by rw [markK_zero], .inl rfl, Only.refl _ _⟩
  · refine (markWriteS_any lo b n cap k ws γ w hn hm hbk h0 h1 h2).mono ?_
    rintro e w' ⟨rfl, h5, h6⟩
    have hS : ∀ x, TakenUp b ws γ x → Span lo hi x := fun x hx => by
      rcases hx with rfl | ⟨i, hi, hp, rfl⟩
      · exact ⟨h2.le, h3⟩
      · exact ⟨(h2.deps i hi hp).1, h4 i hi hp⟩
    refine ⟨rfl, .inr ⟨b, rfl, h5, by rw [h6.size]; exact h2.lt, fun i hi hp => by rw [h6.size]; exact (h2.deps i hi hp).2.1⟩, ?_⟩
    exact ⟨h6.os, h6.tape, h6.output, h6.size, fun x hx => h6.block x fun e => hx (hS x e), h6.frozen⟩

theorem heldWriteS_all (n cap : Nat) (a : Option Addr) (k : Int) (ws : List Wr) (γ : Nat → Nat) (w : World) (hn : ws.length = n) (hm : n ≤ 1048576) (hbk : bulk ws ≤ 1048576) (h0 : 0 ≤ k) (h1 : k ≤ 1073741824) (h : MarkedA w a ws γ k) :
    Calls Try.prog 24 #[.slice a n cap, .int .i64 k] w fun e w' => e = .returned (.int .i64 (markK ws k n)) ∧ w' = w := by
  rcases h with h | ⟨b, rfl, h2, _⟩
  · subst h
    have hn0 : n = 0 := by rw [← hn]; rfl
    subst hn0
    rw [markK_zero]
    exact heldWriteS_nil a cap k w
  · exact heldWriteS_any b n cap k ws γ w hn hm hbk h0 h1 h2

/-- The keys of dependencies that are right rise from 0 on: there are at most six. -/
theorem depsOk_len {xs : List Dp} (h : depsOkB xs = true) : xs.length ≤ 6 := by
  unfold depsOkB at h
  rw [List.all_eq_true] at h
  have hg : ∀ i, i < xs.length → (i : Int) ≤ (xs.getD i dz).k ∧ (xs.getD i dz).k ≤ 5 := by
    intro i
    induction i with
    | zero =>
      intro hi
      have := h 0 (List.mem_range.2 hi)
      unfold depGood btw at this
      simp only [Bool.and_eq_true, decide_eq_true_eq] at this
      exact ⟨by have := this.1.1; omega, this.1.2⟩
    | succ i ih =>
      intro hi
      have h1 := ih (by omega)
      have := h (i + 1) (List.mem_range.2 hi)
      unfold depGood btw at this
      simp only [Bool.and_eq_true, decide_eq_true_eq] at this
      rcases this.2.2 with h2 | h2
      · omega
      · rw [show i + 1 - 1 = i from rfl] at h2
        exact ⟨by omega, this.1.2⟩
  by_cases h7 : xs.length ≤ 6
  · exact h7
  · have := hg 6 (by omega)
    omega

theorem okW_len {x : Wr} (h : okW x = true) : x.xs.length ≤ 6 := by
  unfold okW writeOkB at h
  simp only [Bool.and_eq_true] at h
  exact depsOk_len h.2.2.2.1

theorem bulk_le {ws : List Wr} {m : Nat} (h : ∀ x ∈ ws, x.xs.length ≤ m) : bulk ws ≤ ws.length * m := by
  induction ws with
  | nil => simp [bulk]
  | cons x r ih =>
    have h1 := h x (by simp)
    have h2 := ih fun y hy => h y (by simp [hy])
    simp only [bulk, List.length_cons]
    rw [Nat.add_mul]
    omega

end Go.Proofs.Ytojgahcogpediaa

/- Contracts of impl.MapJoin and impl.MapPut. -/
namespace Go.Proofs.Ytojgahcogpediaa
open Go.ChangeShapes Go.WideShapes Go.ChangeAt Go.RowKit Go.Joins
attribute [local go_sem ↓] Go.wp_at_zero Go.wp_at_succ

def joinB (us vs : List Wr) : List Wr := if mapOkB us = true ∧ mapOkB vs = true then joinW us vs else []

set_option maxRecDepth 100000 in
theorem joinB_not {us vs : List Wr} (h : mapOkB us = false ∨ mapOkB vs = false) : joinB us vs = [] := by
  unfold joinB
  refine if_neg fun h' => ?_
  rcases h with h | h
  · rw [h'.1] at h; cases h
  · rw [h'.2] at h; cases h

set_option maxRecDepth 100000 in
theorem mapOk_keys {ws : List Wr} (h : mapOkB ws = true) : ∀ x ∈ ws, 0 ≤ x.k ∧ x.k ≤ 5 := fun x hx => okW_key (((mapOk_iff ws).1 h).1 x hx)

set_option maxRecDepth 100000 in
theorem mapOk_keys' {ws : List Wr} (h : mapOkB ws = true) : ∀ i, i < ws.length → 0 ≤ (ws.getD i wz).k ∧ (ws.getD i wz).k ≤ 5 := fun i hi => mapOk_keys h _ (by simp [List.getD, hi])

set_option maxRecDepth 100000 in
theorem joinB_told {us vs : List Wr} (ha : mapOkB us = true) (hb : mapOkB vs = true) : toldM (vs.foldl regPut (us.foldl regPut (fun _ => none))) = joinB us vs := by
  unfold joinB
  rw [if_pos ⟨ha, hb⟩]
  exact told_join ((mapOk_iff us).1 ha).2 (mapOk_keys ha) (mapOk_keys hb)

set_option maxRecDepth 100000 in
theorem implMapOk_is (r : Bool) (a : Option Addr) (n cap : Nat) (ws : List Wr) (h : mapOkB ws = r) (w : World) (hn : ws.length = n) (hm : n ≤ 1048576) (hx : Few ws) (hh : IsWs w a ws) :
    Calls Try.prog 38 #[.slice a n cap] w fun e w' => e = .returned (.bool r) ∧ Below w.heap.size w w' := by
  subst h
  exact implMapOk_any a n cap ws w hn hm hx hh

set_option maxRecDepth 100000 in
theorem mapOk_one (x : Wr) : mapOkB [x] = okW x := by
  simp [mapOkB, wrGood, List.range, List.range.loop]

set_option maxRecDepth 100000 in
theorem joinB_one (ws : List Wr) (x : Wr) : joinB ws [x] = if mapOkB ws = true ∧ okW x = true then putW ws x else [] := by
  unfold joinB
  rw [mapOk_one]
  rfl

end Go.Proofs.Ytojgahcogpediaa

/- Contracts of the specification's MapJoin and MapPut. -/
namespace Go.Proofs.Ytojgahcogpediaa
open Go.ChangeShapes Go.WideShapes Go.ChangeAt Go.RowKit Go.Joins
attribute [local go_sem ↓] Go.wp_at_zero Go.wp_at_succ

theorem specMapOk_is (r : Bool) (a : Option Addr) (n cap : Nat) (ws : List Wr) (h : mapOkB ws = r) (w : World) (hn : ws.length = n) (hm : n ≤ 1048576) (hx : Few ws) (hh : IsWs w a ws) :
    Calls Try.prog 33 #[.slice a n cap] w fun e w' => e = .returned (.bool r) ∧ Below w.heap.size w w' := by
  subst h
  exact specMapOk_gen a n cap ws w hn hm hx hh

/-- What the specification answers: a list of writes of its own. -/
def AnsS (w w' : World) (e : Ending) (ws : List Wr) : Prop := ∃ g cp es L, e = .returned (.slice (some ⟨g, 0, none⟩) L cp) ∧ es.length = L ∧ es.map (·.x) = ws ∧ RowEs w' w.heap.size g cp es ∧ Below w.heap.size w w'

theorem specWriteOk_is (x : Wr) (r : Bool) (h : okW x = r) (a : Option Addr) (cap : Nat) (w : World) (hn : x.xs.length ≤ 1048576) (hh : IsDeps w a x.xs) :
    Calls Try.prog 34 #[wrOf x a cap] w fun e w' => e = .returned (.bool r) ∧ Below w.heap.size w w' := by
  subst h
  exact specWriteOk_gen _ _ _ _ _ _ a x.xs _ cap w rfl hn hh

end Go.Proofs.Ytojgahcogpediaa

/- How much a join is. -/
namespace Go.Proofs.Ytojgahcogpediaa
open Go.ChangeShapes Go.WideShapes Go.ChangeAt Go.RowKit Go.Joins

theorem joinB_ok (us vs : List Wr) : ∀ x ∈ joinB us vs, okW x = true := by
  intro x hx
  unfold joinB at hx
  split at hx
  · rename_i h
    obtain ⟨_, h2, _⟩ := join_spec vs us ((mapOk_iff us).1 h.1).2
    rcases h2 x hx with h3 | h3
    · exact ((mapOk_iff us).1 h.1).1 x h3
    · exact ((mapOk_iff vs).1 h.2).1 x h3
  · simp at hx

theorem joinB_rise (us vs : List Wr) : Rise (joinB us vs) := by
  unfold joinB
  split
  · rename_i h
    exact (join_spec vs us ((mapOk_iff us).1 h.1).2).1
  · exact List.Pairwise.nil

theorem joinB_mapOk (us vs : List Wr) : mapOkB (joinB us vs) = true := (mapOk_iff _).2 ⟨joinB_ok us vs, joinB_rise us vs⟩

theorem mapOk_len {ws : List Wr} (h : mapOkB ws = true) : ws.length ≤ 6 := by
  have e := told_find ((mapOk_iff ws).1 h).2 (mapOk_keys h)
  rw [← e, ← toldTo_six]
  exact toldTo_len _ 6

theorem mapOk_bulk {ws : List Wr} (h : mapOkB ws = true) : bulk ws ≤ 36 := by
  have h1 := bulk_le (m := 6) fun x hx => okW_len (((mapOk_iff ws).1 h).1 x hx)
  have h2 := mapOk_len h
  omega

theorem joinB_bulk (us vs : List Wr) : bulk (joinB us vs) ≤ 36 := mapOk_bulk (joinB_mapOk us vs)

theorem joinB_len (us vs : List Wr) : (joinB us vs).length ≤ 6 := mapOk_len (joinB_mapOk us vs)

theorem joinB_few (us vs : List Wr) : Few (joinB us vs) := few_of_bulk (by have := joinB_bulk us vs; omega)

/-- The specification's answer, as a list. -/
theorem RowEs.isWs {w : World} {base g cap : Nat} {es : List En} (h : RowEs w base g cap es) {ws : List Wr} (hw : es.map (·.x) = ws) (hx : Few ws) : IsWs w (some ⟨g, 0, none⟩) ws := (h.holds hw).isWs hx

end Go.Proofs.Ytojgahcogpediaa

/- Batches of one's own, marked: the contracts of markBatchS and heldBatchS. -/
namespace Go.Proofs.Ytojgahcogpediaa
open Go.ChangeShapes Go.WideShapes Go.ChangeAt Go.RowKit Go.Joins
attribute [local go_sem ↓] Go.wp_at_zero Go.wp_at_succ

/-- A batch: its writes, where they are said to lie, their room, between which block numbers, and where their dependencies lie. -/
structure Bat where
  ws : List Wr
  a : Option Addr
  cap : Nat
  lo : Nat
  hi : Nat
  γ : Nat → Nat

def btz : Bat := ⟨[], none, 0, 0, 0, fun _ => 0⟩

def batV (e : Bat) : Value := .slice e.a e.ws.length e.cap

def BatsAt (w : World) (b : Nat) (es : List Bat) : Prop := ∀ i, i < es.length → w.cell? ⟨b, i, none⟩ = some (batV (es.getD i btz))

/-- Batches of one's own: a row, and each batch's memory apart from the row and from the others'. -/
def OwnB (w : World) (lo hi : Nat) (a : Option Addr) (es : List Bat) : Prop :=
  es = [] ∨ ∃ b, a = some ⟨b, 0, none⟩ ∧ lo ≤ b ∧ b < hi ∧ b < w.heap.size ∧ BatsAt w b es ∧ (∀ i, i < es.length → lo ≤ (es.getD i btz).lo ∧ (es.getD i btz).hi ≤ hi ∧ (b < (es.getD i btz).lo ∨ (es.getD i btz).hi ≤ b) ∧ OwnA w (es.getD i btz).lo (es.getD i btz).hi (es.getD i btz).a (es.getD i btz).ws (es.getD i btz).γ) ∧ ∀ i j, i < j → j < es.length → (es.getD i btz).hi ≤ (es.getD j btz).lo

set_option maxRecDepth 100000 in
theorem BatsAt.of_block {w w' : World} {b : Nat} {es : List Bat} (h : BatsAt w b es) (hb : w'.heap[b]? = w.heap[b]?) : BatsAt w' b es := fun i hi => (World.cell?_of_block (a := ⟨b, i, none⟩) hb).trans (h i hi)

set_option maxRecDepth 100000 in
theorem OwnB.below {w w' : World} {lo hi : Nat} {a : Option Addr} {es : List Bat} (h : OwnB w lo hi a es) (hb : Below w.heap.size w w') : OwnB w' lo hi a es := by
  rcases h with h | ⟨b, h1, h2, h3, h4, h5, h6, h7⟩
  · exact .inl h
  · exact .inr ⟨b, h1, h2, h3, Nat.lt_of_lt_of_le h4 hb.size, h5.of_block (hb.block b h4), fun i hi => ⟨(h6 i hi).1, (h6 i hi).2.1, (h6 i hi).2.2.1, (h6 i hi).2.2.2.below hb⟩, h7⟩

set_option maxRecDepth 100000 in
theorem OwnB.only {w w' : World} {S : Nat → Prop} {lo hi : Nat} {a : Option Addr} {es : List Bat} (h : OwnB w lo hi a es) (ho : Only S w w') (hS : ∀ x, S x → x < lo) : OwnB w' lo hi a es := by
  rcases h with h | ⟨b, h1, h2, h3, h4, h5, h6, h7⟩
  · exact .inl h
  · exact .inr ⟨b, h1, h2, h3, by rw [ho.size]; exact h4, h5.of_block (ho.block b fun e => by have := hS b e; omega), fun i hi => ⟨(h6 i hi).1, (h6 i hi).2.1, (h6 i hi).2.2.1, (h6 i hi).2.2.2.only ho fun x hx => by have := hS x hx; have := (h6 i hi).1; omega⟩, h7⟩

def batsOf (es : List Bat) : List (List Wr) := es.map (·.ws)

set_option maxRecDepth 100000 in
theorem batsOf_get (es : List Bat) {i : Nat} (h : i < es.length) : (batsOf es).getD i [] = (es.getD i btz).ws := by
  simp [batsOf, List.getD, h]

set_option maxRecDepth 100000 in
theorem OwnB.isBs {w : World} {lo hi : Nat} {a : Option Addr} {es : List Bat} (h : OwnB w lo hi a es) (hx : FewB (batsOf es)) : IsBs w a (batsOf es) := by
  rcases h with h | ⟨b, h1, h2, h3, h4, h5, h6, h7⟩
  · exact .inl (by rw [h]; rfl)
  · refine .inr ⟨b, 0, h1, h4, fun i hi => ?_⟩
    have hi' : i < es.length := by simpa [batsOf] using hi
    have hf := (hx i hi).2
    rw [batsOf_get es hi'] at hf ⊢
    exact ⟨_, _, by rw [Nat.zero_add]; exact h5 i hi', (h6 i hi').2.2.2.isWs hf⟩

/-- How far the marks have come behind these batches. -/
def markKB (es : List Bat) (k : Int) : Int := es.foldl (fun k e => markK e.ws k e.ws.length) k

set_option maxRecDepth 100000 in
theorem markKB_take (es : List Bat) (k : Int) {i : Nat} (h : i < es.length) : markKB (es.take (i + 1)) k = markK (es.getD i btz).ws (markKB (es.take i) k) (es.getD i btz).ws.length := by
  unfold markKB
  have e : es.take (i + 1) = es.take i ++ [es.getD i btz] := by
    rw [List.take_add_one, List.getElem?_eq_getElem h]
    simp [List.getD, h]
  rw [e, List.foldl_append]
  rfl

/-- All that is marked stays within bounds. -/
def TameB (es : List Bat) (k : Int) : Prop := (∀ i, i < es.length → (es.getD i btz).ws.length ≤ 1048576 ∧ bulk (es.getD i btz).ws ≤ 1048576) ∧ ∀ i, i ≤ es.length → 0 ≤ markKB (es.take i) k ∧ markKB (es.take i) k ≤ 1073741824

/-- A batch that is marked, its memory between two block numbers. -/
def MarkedS (w : World) (e : Bat) (k : Int) : Prop := MarkedA w e.a e.ws e.γ k ∧ (e.ws = [] ∨ ∃ b, e.a = some ⟨b, 0, none⟩ ∧ e.lo ≤ b ∧ b < e.hi ∧ ∀ i, i < e.ws.length → 0 < (e.ws.getD i wz).xs.length → e.lo ≤ e.γ i ∧ e.γ i < e.hi)

set_option maxRecDepth 100000 in
theorem MarkedWs.of_blocks {w w' : World} {b : Nat} {ws : List Wr} {γ : Nat → Nat} {k : Int} (h : MarkedWs w b ws γ k) (hb : w'.heap[b]? = w.heap[b]?) (h2 : ∀ i, i < ws.length → 0 < (ws.getD i wz).xs.length → w'.heap[γ i]? = w.heap[γ i]?) : MarkedWs w' b ws γ k := by
  intro i hi
  obtain ⟨⟨e0, e1, e2, e3, e4, e5, a, cp, e6, e7⟩, hd⟩ := h i hi
  have c : ∀ o, w'.cell? ⟨b, o, none⟩ = w.cell? ⟨b, o, none⟩ := fun o => World.cell?_of_block (a := ⟨b, o, none⟩) hb
  exact ⟨⟨(c _).trans e0, (c _).trans e1, (c _).trans e2, (c _).trans e3, (c _).trans e4, (c _).trans e5, a, cp, (c _).trans e6, e7⟩, fun hp => (hd hp).of_block (h2 i hi hp)⟩

set_option maxRecDepth 100000 in
theorem MarkedS.only {w w' : World} {S : Nat → Prop} {e : Bat} {k : Int} (h : MarkedS w e k) (ho : Only S w w') (hS : ∀ x, S x → x < e.lo ∨ e.hi ≤ x) : MarkedS w' e k := by
  refine ⟨?_, h.2⟩
  rcases h.1 with h1 | ⟨b, h1, h2, h3, h4⟩
  · exact .inl h1
  · rcases h.2 with g | ⟨b', g1, g2, g3, g4⟩
    · exact .inl g
    · obtain rfl : b = b' := by rw [h1] at g1; simpa using g1
      exact .inr ⟨b, h1, h2.of_blocks (ho.block b fun hx => by have := hS b hx; omega) fun i hi hp => ho.block _ fun hx => by have := hS _ hx; have := g4 i hi hp; omega, by rw [ho.size]; exact h3, fun i hi hp => by rw [ho.size]; exact h4 i hi hp⟩

/-- Batches that are marked. -/
def MarkedB (w : World) (a : Option Addr) (es : List Bat) (k : Int) : Prop := es = [] ∨ ∃ b, a = some ⟨b, 0, none⟩ ∧ b < w.heap.size ∧ BatsAt w b es ∧ ∀ i, i < es.length → MarkedA w (es.getD i btz).a (es.getD i btz).ws (es.getD i btz).γ (markKB (es.take i) k)

set_option maxRecDepth 100000 in
theorem MarkedB.below {w w' : World} {a : Option Addr} {es : List Bat} {k : Int} (h : MarkedB w a es k) (hb : Below w.heap.size w w') : MarkedB w' a es k := by
  rcases h with h | ⟨b, h1, h2, h3, h4⟩
  · exact .inl h
  · exact .inr ⟨b, h1, Nat.lt_of_lt_of_le h2 hb.size, h3.of_block (hb.block b h2), fun i hi => (h4 i hi).below hb⟩

set_option maxRecDepth 100000 in
theorem OwnA.marked {w w' : World} {e : Bat} {k : Int} (h : OwnA w e.lo e.hi e.a e.ws e.γ) (hm : MarkedA w' e.a e.ws e.γ k) : MarkedS w' e k := by
  refine ⟨hm, ?_⟩
  rcases h with h | ⟨b, h1, h2, h3, h4⟩
  · exact .inl h
  · exact .inr ⟨b, h1, h2.le, h3, fun i hi hp => ⟨(h2.deps i hi hp).1, h4 i hi hp⟩⟩

end Go.Proofs.Ytojgahcogpediaa

/- The laws' copies of batches: the contracts of toBatch and toBatchS. -/
namespace Go.Proofs.Ytojgahcogpediaa
open Go.ChangeShapes Go.WideShapes Go.ChangeAt Go.RowKit Go.Joins
attribute [local go_sem ↓] Go.wp_at_zero Go.wp_at_succ

set_option maxRecDepth 100000 in
theorem OwnG.lower {w : World} {base base' b : Nat} {ws : List Wr} {γ : Nat → Nat} (h : OwnG w base b ws γ) (hb : base' ≤ base) : OwnG w base' b ws γ where
  lt := h.lt
  le := Nat.le_trans hb h.le
  open_ := h.open_
  at_ := h.at_
  deps := fun i hi hp => ⟨Nat.le_trans hb (h.deps i hi hp).1, (h.deps i hi hp).2⟩
  inj := h.inj

set_option maxRecDepth 100000 in
theorem OwnA.wider {w : World} {lo lo' hi hi' : Nat} {a : Option Addr} {ws : List Wr} {γ : Nat → Nat} (h : OwnA w lo hi a ws γ) (h1 : lo' ≤ lo) (h2 : hi ≤ hi') : OwnA w lo' hi' a ws γ := by
  rcases h with h | ⟨b, q1, q2, q3, q4⟩
  · exact .inl h
  · exact .inr ⟨b, q1, q2.lower h1, Nat.lt_of_lt_of_le q3 h2, fun i hi hp => Nat.lt_of_lt_of_le (q4 i hi hp) h2⟩

set_option maxRecDepth 100000 in
theorem OwnA.setLow {w : World} {lo hi : Nat} {a : Option Addr} {ws : List Wr} {γ : Nat → Nat} (h : OwnA w lo hi a ws γ) {b : Nat} (hb : b < lo) (o : Nat) (v : Value) : OwnA (w.setCell ⟨b, o, none⟩ v) lo hi a ws γ :=
  h.only (S := fun x => x = b) (Only.set (S := fun x => x = b) (Only.refl _ w) rfl o v) fun x hx => by rw [hx]; exact hb

/-- The row while it is filled in. -/
def fillBat (es : List Bat) (j : Nat) : Value := if j < es.length then batV (es.getD j btz) else .slice none 0 0

set_option maxRecDepth 100000 in
theorem get_old (es : List Bat) (x : Bat) {i : Nat} (h : i < es.length) : (es ++ [x]).getD i btz = es.getD i btz := by
  rw [List.getD_eq_getElem?_getD, List.getD_eq_getElem?_getD, List.getElem?_append_left h]

set_option maxRecDepth 100000 in
theorem fillBat_step (es : List Bat) (x : Bat) (j : Nat) : (if j = es.length then batV x else fillBat es j) = fillBat (es ++ [x]) j := by
  unfold fillBat
  by_cases h : j = es.length
  · rw [if_pos h, if_pos (by simp; omega), h]
    simp [List.getD]
  · rw [if_neg h]
    by_cases hl : j < es.length
    · rw [if_pos hl, if_pos (by simp; omega), get_old es x hl]
    · rw [if_neg hl, if_neg (by simp; omega)]

set_option maxRecDepth 100000 in
theorem rowBat_start (w : World) (t n : Nat) : (w.alloc (.cells (madeCells #[.slice none 0 0] n) t)).rowIs w.heap.size t n (fillBat []) := by
  refine ⟨_, Go.Deep.blk_alloc_new _ _, size_madeCells _ _, fun i hi => ?_⟩
  have e : fillBat [] i = .slice none 0 0 := by unfold fillBat; rw [if_neg (by simp)]
  rw [e]
  have h1 : i % 1 = 0 := by omega
  simp [madeCells, hi, h1]

/-- The batches that are laid so far. -/
def LaidB (w : World) (B : Nat) (es : List Bat) : Prop := (∀ i, i < es.length → B < (es.getD i btz).lo ∧ (es.getD i btz).hi ≤ w.heap.size ∧ OwnA w (es.getD i btz).lo (es.getD i btz).hi (es.getD i btz).a (es.getD i btz).ws (es.getD i btz).γ) ∧ ∀ i j, i < j → j < es.length → (es.getD i btz).hi ≤ (es.getD j btz).lo

set_option maxRecDepth 100000 in
theorem get_new (es : List Bat) (x : Bat) : (es ++ [x]).getD es.length btz = x := by simp [List.getD]

set_option maxRecDepth 100000 in
theorem LaidB.more {w w' : World} {B : Nat} {es : List Bat} (h : LaidB w B es) (hb : Below w.heap.size w w') {x : Bat} (h1 : B < x.lo) (h2 : w.heap.size ≤ x.lo) (h3 : x.hi ≤ w'.heap.size) (h4 : OwnA w' x.lo x.hi x.a x.ws x.γ) : LaidB w' B (es ++ [x]) := by
  constructor
  · intro i hi
    by_cases hl : i < es.length
    · rw [get_old es x hl]
      obtain ⟨q1, q2, q3⟩ := h.1 i hl
      exact ⟨q1, Nat.le_trans q2 hb.size, q3.below hb⟩
    · have hi' : i = es.length := by simp at hi; omega
      rw [hi', get_new]
      exact ⟨h1, h3, h4⟩
  · intro i j hij hj
    by_cases hl : j < es.length
    · rw [get_old es x hl, get_old es x (by omega)]
      exact h.2 i j hij hl
    · have hj' : j = es.length := by simp at hj; omega
      rw [hj', get_new, get_old es x (by omega)]
      exact Nat.le_trans (h.1 i (by omega)).2.1 h2

set_option maxRecDepth 100000 in
theorem LaidB.setRow {w : World} {B : Nat} {es : List Bat} (h : LaidB w B es) (o : Nat) (v : Value) : LaidB (w.setCell ⟨B, o, none⟩ v) B es :=
  ⟨fun i hi => ⟨(h.1 i hi).1, by simpa using (h.1 i hi).2.1, (h.1 i hi).2.2.setLow (h.1 i hi).1 o v⟩, h.2⟩

end Go.Proofs.Ytojgahcogpediaa

/- Hints of one's own: the contracts of toHint and toHintS. -/
namespace Go.Proofs.Ytojgahcogpediaa
open Go.ChangeShapes Go.WideShapes Go.ChangeAt Go.RowKit Go.Joins
attribute [local go_sem ↓] Go.wp_at_zero Go.wp_at_succ

def put8 (w : World) (b o : Nat) (f k c s q v : Int) (de : Bool) (u : Value) : World :=
  (((((((w.setCell ⟨b, o, none⟩ (.int .i64 f)).setCell ⟨b, o + 1, none⟩ (.int .i64 k)).setCell ⟨b, o + 2, none⟩ (.int .i64 c)).setCell ⟨b, o + 3, none⟩ (.int .i64 s)).setCell ⟨b, o + 4, none⟩ (.int .i64 q)).setCell ⟨b, o + 5, none⟩ (.int .i64 v)).setCell ⟨b, o + 6, none⟩ (.bool de)).setCell ⟨b, o + 7, none⟩ u

def put7' (w : World) (b : Nat) (k c s q v : Int) (de : Bool) (u : Value) : World :=
  ((((((w.setCell ⟨b, 1, none⟩ (.int .i64 k)).setCell ⟨b, 2, none⟩ (.int .i64 c)).setCell ⟨b, 3, none⟩ (.int .i64 s)).setCell ⟨b, 4, none⟩ (.int .i64 q)).setCell ⟨b, 5, none⟩ (.int .i64 v)).setCell ⟨b, 6, none⟩ (.bool de)).setCell ⟨b, 7, none⟩ u

theorem Below.put8' {B : Nat} {w w' : World} (h : Below B w w') {b : Nat} (hb : B ≤ b) (o : Nat) (f k c s q v : Int) (de : Bool) (u : Value) : Below B w (put8 w' b o f k c s q v de u) :=
  (((((((h.setCell (p := ⟨b, o, none⟩) hb _).setCell (p := ⟨b, o + 1, none⟩) hb _).setCell (p := ⟨b, o + 2, none⟩) hb _).setCell (p := ⟨b, o + 3, none⟩) hb _).setCell (p := ⟨b, o + 4, none⟩) hb _).setCell (p := ⟨b, o + 5, none⟩) hb _).setCell (p := ⟨b, o + 6, none⟩) hb _).setCell (p := ⟨b, o + 7, none⟩) hb _

theorem Below.put7'' {B : Nat} {w w' : World} (h : Below B w w') {b : Nat} (hb : B ≤ b) (k c s q v : Int) (de : Bool) (u : Value) : Below B w (put7' w' b k c s q v de u) :=
  ((((((h.setCell (p := ⟨b, 1, none⟩) hb _).setCell (p := ⟨b, 2, none⟩) hb _).setCell (p := ⟨b, 3, none⟩) hb _).setCell (p := ⟨b, 4, none⟩) hb _).setCell (p := ⟨b, 5, none⟩) hb _).setCell (p := ⟨b, 6, none⟩) hb _).setCell (p := ⟨b, 7, none⟩) hb _

theorem HoldsDeps.put8' {w : World} {g : Nat} {xs : List Dp} (h : HoldsDeps w g 0 xs) {b : Nat} (hn : b ≠ g) (o : Nat) (f k c s q v : Int) (de : Bool) (u : Value) : HoldsDeps (put8 w b o f k c s q v de u) g 0 xs :=
  (((((((h.set hn _).set hn _).set hn _).set hn _).set hn _).set hn _).set hn _).set hn _

theorem HoldsDeps.put7'' {w : World} {g : Nat} {xs : List Dp} (h : HoldsDeps w g 0 xs) {b : Nat} (hn : b ≠ g) (k c s q v : Int) (de : Bool) (u : Value) : HoldsDeps (put7' w b k c s q v de u) g 0 xs :=
  ((((((h.set hn _).set hn _).set hn _).set hn _).set hn _).set hn _).set hn _

theorem put8_size (w : World) (b o : Nat) (f k c s q v : Int) (de : Bool) (u : Value) : (put8 w b o f k c s q v de u).heap.size = w.heap.size := by simp [put8]

theorem put8_frozen (w : World) (b o : Nat) (f k c s q v : Int) (de : Bool) (u : Value) (p : Addr) : (put8 w b o f k c s q v de u).frozen? p = w.frozen? p := by simp only [put8, World.frozen?_setCell]

set_option maxRecDepth 100000 in
set_option maxHeartbeats 4000000 in
theorem toHint_any (f k c s q v : Int) (de : Bool) (a : Option Addr) (len cap : Nat) (xs : List Dp) (w : World) (hn : len ≤ 1048576) (hl : xs.length = len) (h : IsDeps w a xs) :
    Calls Try.prog 76 #[hnV f k c s q v de a len cap] w fun e w' => ∃ g, e = .returned (hnV f k c s q v de (some ⟨g, 0, none⟩) len len) ∧ w.heap.size ≤ g ∧ g < w'.heap.size ∧ HoldsDeps w' g 0 xs ∧ (∀ i, w'.frozen? ⟨g, i, none⟩ = false) ∧ Below w.heap.size w w' := by
  have H := Lib.hid h
  have HL := Lib.hid hl
  clear h hl
  obtain ⟨O1, hO1⟩ : ∃ O, O = Obj.cells #[.int .i64 f, .int .i64 k, .int .i64 c, .int .i64 s, .int .i64 q, .int .i64 v, .bool de, .slice a len cap] 107 := ⟨_, rfl⟩
  obtain ⟨O2, hO2⟩ : ∃ O, O = Obj.cells #[.int .i64 0, .int .i64 0, .int .i64 0, .int .i64 0, .int .i64 0, .int .i64 0, .bool false, .slice none 0 0] 65 := ⟨_, rfl⟩
  obtain ⟨O3, hO3⟩ : ∃ O, O = Obj.cells #[.int .i64 f, .int .i64 0, .int .i64 0, .int .i64 0, .int .i64 0, .int .i64 0, .bool false, .slice none 0 0] 65 := ⟨_, rfl⟩
  have HB : Hid (Below w.heap.size w (((w.alloc O1).alloc O2).alloc O3)) := (((Below.refl _ _).alloc (Nat.le_refl _) _).alloc (by simp) _).alloc (by simp; omega) _
  have hsz : (((w.alloc O1).alloc O2).alloc O3).heap.size = w.heap.size + 3 := by simp
  have e : (w.alloc O1).heap.size = w.heap.size + 1 := by simp
  have HZ2 : Hid ((((w.alloc O1).alloc O2).alloc O3).heap[w.heap.size + 1]? = some O2) := by
    have := heap_alloc2_old (w.alloc O1) O2 O3
    rwa [e] at this
  have HZ3 : Hid ((((w.alloc O1).alloc O2).alloc O3).heap[w.heap.size + 2]? = some O3) := by
    have := heap_alloc2_new (w.alloc O1) O2 O3
    rwa [e] at this
  clear e
  subst hO1 hO2 hO3
  go_enter Try.func76, Try.ntmps76
  go_wp2_with fail
  generalize ((w.alloc (.cells #[.int .i64 f, .int .i64 k, .int .i64 c, .int .i64 s, .int .i64 q, .int .i64 v, .bool de, .slice a len cap] 107)).alloc (.cells #[.int .i64 0, .int .i64 0, .int .i64 0, .int .i64 0, .int .i64 0, .int .i64 0, .bool false, .slice none 0 0] 65)).alloc (.cells #[.int .i64 f, .int .i64 0, .int .i64 0, .int .i64 0, .int .i64 0, .int .i64 0, .bool false, .slice none 0 0] 65) = W3 at *
  refine (toWrite_own k c s q v de a len cap xs _ hn HL.out (H.out.below HB.out)).mono ?_
  rintro e w4 ⟨g, rfl, hg1, hg2, hg3, hg4, hb⟩
  have HG := Lib.hid hg3
  have HFG := Lib.hid hg4
  have HB4 : Hid (Below w.heap.size w w4) := below_step HB.out HB.out.size hb
  have q2 := (hb.block (w.heap.size + 1) (by omega)).trans HZ2.out
  have q3 := (hb.block (w.heap.size + 2) (by omega)).trans HZ3.out
  have hs4 : W3.heap.size ≤ w4.heap.size := hb.size
  have d0 := cell_of_row w4 (w.heap.size + 1) 0 _ _ _ q2
  have d1 := cell_of_row w4 (w.heap.size + 1) 1 _ _ _ q2
  have d2 := cell_of_row w4 (w.heap.size + 1) 2 _ _ _ q2
  have d3 := cell_of_row w4 (w.heap.size + 1) 3 _ _ _ q2
  have d4 := cell_of_row w4 (w.heap.size + 1) 4 _ _ _ q2
  have d5 := cell_of_row w4 (w.heap.size + 1) 5 _ _ _ q2
  have d6 := cell_of_row w4 (w.heap.size + 1) 6 _ _ _ q2
  have d7 := cell_of_row w4 (w.heap.size + 1) 7 _ _ _ q2
  have c0 := cell_of_row w4 (w.heap.size + 2) 0 _ _ _ q3
  have c1 := cell_of_row w4 (w.heap.size + 2) 1 _ _ _ q3
  have c2 := cell_of_row w4 (w.heap.size + 2) 2 _ _ _ q3
  have c3 := cell_of_row w4 (w.heap.size + 2) 3 _ _ _ q3
  have c4 := cell_of_row w4 (w.heap.size + 2) 4 _ _ _ q3
  have c5 := cell_of_row w4 (w.heap.size + 2) 5 _ _ _ q3
  have c6 := cell_of_row w4 (w.heap.size + 2) 6 _ _ _ q3
  have c7 := cell_of_row w4 (w.heap.size + 2) 7 _ _ _ q3
  have f2 : ∀ o, w4.frozen? ⟨w.heap.size + 1, o, none⟩ = false := fun o => frozen_of_row w4 (w.heap.size + 1) o _ _ q2
  have f3 : ∀ o, w4.frozen? ⟨w.heap.size + 2, o, none⟩ = false := fun o => frozen_of_row w4 (w.heap.size + 2) o _ _ q3
  simp at d0 d1 d2 d3 d4 d5 d6 d7 c0 c1 c2 c3 c4 c5 c6 c7
  clear hb hg3 hg4 HB HZ2 HZ3 q2 q3
  go_wp2
  have hw3 : W3.heap.size = w.heap.size + 3 := hsz
  have hn1 : w.heap.size + 1 + 1 ≠ g := by omega
  have hn2 : w.heap.size + 1 ≠ g := by omega
  refine bodyPost_ret (v := hnV f k c s q v de (some ⟨g, 0, none⟩) len len) (by simp [results, Try.results76, go_sem, d0, d1, d2, d3, d4, d5, d6, d7]) rfl ⟨g, rfl, by omega, ?_, ?_, ?_, ?_⟩
  · simpa [World.setCell] using hg2
  · exact HoldsDeps.put8' (b := w.heap.size + 1) (HoldsDeps.put7'' (b := w.heap.size + 1 + 1) HG.out hn1 k c s q v de _) hn2 0 f k c s q v de _
  · intro i
    simp only [World.frozen?_setCell]
    exact HFG.out i
  · exact Below.put8' (b := w.heap.size + 1) (Below.put7'' (b := w.heap.size + 1 + 1) HB4.out (by omega) k c s q v de _) (by omega) 0 f k c s q v de _

/-- A hint of one's own: the hint, and where its write's dependencies lie. -/
structure HnB where
  h : Hn
  g : Nat

def hbz : HnB := ⟨hnz, 0⟩

def hnsOf (es : List HnB) : List Hn := es.map (·.h)

theorem hnsOf_len (es : List HnB) : (hnsOf es).length = es.length := by simp [hnsOf]

theorem hnsOf_get (es : List HnB) {i : Nat} (h : i < es.length) : (hnsOf es).getD i hnz = (es.getD i hbz).h := by simp [hnsOf, List.getD, h]

/-- Field c of a hint. Of one that is not there yet: nothing. -/
def fieldH (e : HnB) (c : Nat) : Value := if c = 0 then .int .i64 e.h.f else if c = 1 then .int .i64 e.h.x.k else if c = 2 then .int .i64 e.h.x.c else if c = 3 then .int .i64 e.h.x.s else if c = 4 then .int .i64 e.h.x.q else if c = 5 then .int .i64 e.h.x.v else if c = 6 then .bool e.h.x.de else .slice (some ⟨e.g, 0, none⟩) e.h.x.xs.length e.h.x.xs.length

def zeroH (c : Nat) : Value := if c = 6 then .bool false else if c = 7 then .slice none 0 0 else .int .i64 0

/-- The row while it is filled in. -/
def fillH (es : List HnB) (j : Nat) : Value := if j / 8 < es.length then fieldH (es.getD (j / 8) hbz) (j % 8) else zeroH (j % 8)

/-- f has these hints, eight cells each. -/
def HnsIn (f : Nat → Value) (es : List HnB) : Prop := ∀ i, i < es.length → ∀ c, c < 8 → f (i * 8 + c) = fieldH (es.getD i hbz) c

theorem fillH_in (es : List HnB) : HnsIn (fillH es) es := fun i hi c hc => by
  unfold fillH
  rw [show (i * 8 + c) / 8 = i by omega, show (i * 8 + c) % 8 = c by omega, if_pos hi]

/-- The memory of the writes' dependencies, apart from the row and from one another. -/
def LaidH (w : World) (lo hi b : Nat) (es : List HnB) : Prop := (∀ i, i < es.length → lo ≤ (es.getD i hbz).g ∧ (es.getD i hbz).g < hi ∧ (es.getD i hbz).g ≠ b ∧ (es.getD i hbz).g < w.heap.size ∧ HoldsDeps w (es.getD i hbz).g 0 (es.getD i hbz).h.x.xs ∧ ∀ o, w.frozen? ⟨(es.getD i hbz).g, o, none⟩ = false) ∧ ∀ i j, i < j → j < es.length → (es.getD i hbz).g < (es.getD j hbz).g

/-- Hints of one's own: a row, and each one's dependencies apart from the row and from the others'. -/
def OwnH (w : World) (lo hi : Nat) (a : Option Addr) (es : List HnB) : Prop :=
  es = [] ∨ ∃ b N f, a = some ⟨b, 0, none⟩ ∧ lo ≤ b ∧ b < hi ∧ w.rowIs b 65 N f ∧ es.length * 8 ≤ N ∧ HnsIn f es ∧ LaidH w lo hi b es

theorem LaidH.below {w w' : World} {lo hi b : Nat} {es : List HnB} (h : LaidH w lo hi b es) (hb : Below w.heap.size w w') : LaidH w' lo hi b es :=
  ⟨fun i hi => ⟨(h.1 i hi).1, (h.1 i hi).2.1, (h.1 i hi).2.2.1, Nat.lt_of_lt_of_le (h.1 i hi).2.2.2.1 hb.size, (h.1 i hi).2.2.2.2.1.below hb (h.1 i hi).2.2.2.1, fun o => (hb.frozen (p := ⟨_, o, none⟩) (h.1 i hi).2.2.2.1).trans ((h.1 i hi).2.2.2.2.2 o)⟩, h.2⟩

theorem OwnH.below {w w' : World} {lo hi : Nat} {a : Option Addr} {es : List HnB} (h : OwnH w lo hi a es) (hb : Below w.heap.size w w') : OwnH w' lo hi a es := by
  rcases h with h | ⟨b, N, f, h1, h2, h3, h4, h5, h6, h7⟩
  · exact .inl h
  · exact .inr ⟨b, N, f, h1, h2, h3, h4.of_block (hb.block b h4.lt), h5, h6, h7.below hb⟩

theorem HnsIn.at_ {f : Nat → Value} {es : List HnB} (h : HnsIn f es) {w : World} {b t N : Nat} (hr : w.rowIs b t N f) (hN : es.length * 8 ≤ N) {i : Nat} (hi : i < es.length) : HnAt w b (i * 8) (es.getD i hbz).h (some ⟨(es.getD i hbz).g, 0, none⟩) (es.getD i hbz).h.x.xs.length := by
  have c : ∀ c, c < 8 → w.cell? ⟨b, i * 8 + c, none⟩ = some (fieldH (es.getD i hbz) c) := fun c hc => by rw [hr.cell (i := i * 8 + c) (by omega), h i hi c hc]
  exact ⟨c 0 (by omega), c 1 (by omega), c 2 (by omega), c 3 (by omega), c 4 (by omega), c 5 (by omega), c 6 (by omega), c 7 (by omega)⟩

theorem OwnH.isHs {w : World} {lo hi : Nat} {a : Option Addr} {es : List HnB} (h : OwnH w lo hi a es) (hx : FewH (hnsOf es)) : IsHs w a (hnsOf es) := by
  rcases h with h | ⟨b, N, f, h1, h2, h3, h4, h5, h6, h7⟩
  · exact .inl (by rw [h]; rfl)
  · refine .inr ⟨b, 0, h1, h4.lt, fun i hi => ?_⟩
    have hi' : i < es.length := by rwa [hnsOf_len] at hi
    have hf := hx i hi
    rw [hnsOf_get es hi'] at hf ⊢
    exact ⟨_, _, by rw [Nat.zero_add]; exact h6.at_ h4 h5 hi', by unfold maxLen; omega, .inr ⟨_, 0, rfl, (h7.1 i hi').2.2.2.1, (h7.1 i hi').2.2.2.2.1⟩⟩

theorem hb_old (es : List HnB) (x : HnB) {i : Nat} (h : i < es.length) : (es ++ [x]).getD i hbz = es.getD i hbz := by
  rw [List.getD_eq_getElem?_getD, List.getD_eq_getElem?_getD, List.getElem?_append_left h]

theorem hb_new (es : List HnB) (x : HnB) : (es ++ [x]).getD es.length hbz = x := by simp [List.getD]

theorem fillH_step (es : List HnB) (x : HnB) (j : Nat) : (if j = es.length * 8 + 7 then Value.slice (some ⟨x.g, 0, none⟩) x.h.x.xs.length x.h.x.xs.length else if j = es.length * 8 + 6 then .bool x.h.x.de else if j = es.length * 8 + 5 then .int .i64 x.h.x.v else if j = es.length * 8 + 4 then .int .i64 x.h.x.q else if j = es.length * 8 + 3 then .int .i64 x.h.x.s else if j = es.length * 8 + 2 then .int .i64 x.h.x.c else if j = es.length * 8 + 1 then .int .i64 x.h.x.k else if j = es.length * 8 then .int .i64 x.h.f else fillH es j) = fillH (es ++ [x]) j := by
  unfold fillH
  by_cases hl : j / 8 = es.length
  · rw [hl, hb_new, if_pos (by simp : es.length < (es ++ [x]).length)]
    have h8 : j % 8 = 0 ∨ j % 8 = 1 ∨ j % 8 = 2 ∨ j % 8 = 3 ∨ j % 8 = 4 ∨ j % 8 = 5 ∨ j % 8 = 6 ∨ j % 8 = 7 := by omega
    rcases h8 with h | h | h | h | h | h | h | h
    · rw [if_neg (by omega), if_neg (by omega), if_neg (by omega), if_neg (by omega), if_neg (by omega), if_neg (by omega), if_neg (by omega), if_pos (by omega), h]
      rfl
    · rw [if_neg (by omega), if_neg (by omega), if_neg (by omega), if_neg (by omega), if_neg (by omega), if_neg (by omega), if_pos (by omega), h]
      rfl
    · rw [if_neg (by omega), if_neg (by omega), if_neg (by omega), if_neg (by omega), if_neg (by omega), if_pos (by omega), h]
      rfl
    · rw [if_neg (by omega), if_neg (by omega), if_neg (by omega), if_neg (by omega), if_pos (by omega), h]
      rfl
    · rw [if_neg (by omega), if_neg (by omega), if_neg (by omega), if_pos (by omega), h]
      rfl
    · rw [if_neg (by omega), if_neg (by omega), if_pos (by omega), h]
      rfl
    · rw [if_neg (by omega), if_pos (by omega), h]
      rfl
    · rw [if_pos (by omega), h]
      rfl
  · rw [if_neg (by omega), if_neg (by omega), if_neg (by omega), if_neg (by omega), if_neg (by omega), if_neg (by omega), if_neg (by omega), if_neg (by omega)]
    by_cases h1 : j / 8 < es.length
    · rw [if_pos h1, if_pos (by simp; omega), hb_old es x h1]
    · rw [if_neg h1, if_neg (by simp; omega)]

set_option maxRecDepth 100000 in
theorem infoHint : (Try.prog.info? 65).map (fun i => (i.zero, i.size, i.bytes)) = some (some (hnV 0 0 0 0 0 0 false none 0 0), 8, 80) := by kernel_rfl

set_option maxRecDepth 100000 in
theorem run_make_hns (n : Nat) (hn : n ≤ 1048576) (w : World) :
    (Instr.makeSlice 29 (.int .i64 (n : Int)) (.int .i64 (n : Int))).run Try.prog w = .ok (.slice (some ⟨w.heap.size, 0, none⟩) n n) (w.alloc (.cells (madeCells #[.int .i64 0, .int .i64 0, .int .i64 0, .int .i64 0, .int .i64 0, .int .i64 0, .bool false, .slice none 0 0] (n * 8)) 65)) := by
  obtain ⟨i, hi, hzz⟩ := Option.map_eq_some_iff.1 infoHint
  simp only [Prod.mk.injEq] at hzz
  obtain ⟨hz, hs, hb⟩ := hzz
  have hr := run_make (P := Try.prog) w 29 65 i _ Try.underlying29 hi hz .i64 .i64 n n (by omega) (Int.le_refl _) (by rw [hb]; omega) (by omega)
  simp only [Int.toNat_natCast, hs] at hr
  exact hr

theorem rowHn_start (w : World) (t n : Nat) : (w.alloc (.cells (madeCells #[.int .i64 0, .int .i64 0, .int .i64 0, .int .i64 0, .int .i64 0, .int .i64 0, .bool false, .slice none 0 0] (n * 8)) t)).rowIs w.heap.size t (n * 8) (fillH []) := by
  refine ⟨_, Go.Deep.blk_alloc_new _ _, size_madeCells _ _, fun i hi => ?_⟩
  unfold fillH
  rw [if_neg (by simp)]
  have h8 : i % 8 = 0 ∨ i % 8 = 1 ∨ i % 8 = 2 ∨ i % 8 = 3 ∨ i % 8 = 4 ∨ i % 8 = 5 ∨ i % 8 = 6 ∨ i % 8 = 7 := by omega
  rcases h8 with h | h | h | h | h | h | h | h <;> simp [madeCells, hi, h, zeroH]

theorem LaidH.more {w w' : World} {B : Nat} {es : List HnB} (h : LaidH w B w.heap.size B es) (hB : B < w.heap.size) (hb : Below w.heap.size w w') {x : HnB} (h2 : w.heap.size ≤ x.g) (h3 : x.g < w'.heap.size) (h4 : HoldsDeps w' x.g 0 x.h.x.xs) (h5 : ∀ o, w'.frozen? ⟨x.g, o, none⟩ = false) : LaidH w' B w'.heap.size B (es ++ [x]) := by
  have h' := h.below hb
  constructor
  · intro i hi
    by_cases hl : i < es.length
    · rw [hb_old es x hl]
      obtain ⟨q1, q2, q3, q4, q5, q6⟩ := h'.1 i hl
      exact ⟨q1, q4, q3, q4, q5, q6⟩
    · have hi' : i = es.length := by simp at hi; omega
      rw [hi', hb_new]
      exact ⟨by omega, h3, by omega, h3, h4, h5⟩
  · intro i j hij hj
    by_cases hl : j < es.length
    · rw [hb_old es x hl, hb_old es x (by omega)]
      exact h.2 i j hij hl
    · have hj' : j = es.length := by simp at hj; omega
      rw [hj', hb_new, hb_old es x (by omega)]
      have := (h.1 i (by omega)).2.1
      omega

theorem LaidH.setRow {w : World} {B : Nat} {es : List HnB} (h : LaidH w B w.heap.size B es) (o : Nat) (f k c s q v : Int) (de : Bool) (u : Value) : LaidH (put8 w B o f k c s q v de u) B (put8 w B o f k c s q v de u).heap.size B es :=
  ⟨fun i hi => ⟨(h.1 i hi).1, by rw [put8_size]; exact (h.1 i hi).2.1, (h.1 i hi).2.2.1, by rw [put8_size]; exact (h.1 i hi).2.2.2.1, HoldsDeps.put8' (h.1 i hi).2.2.2.2.1 (Ne.symm (h.1 i hi).2.2.1) o f k c s q v de u, fun o' => by rw [put8_frozen]; exact (h.1 i hi).2.2.2.2.2 o'⟩, h.2⟩

set_option maxRecDepth 100000 in
set_option maxHeartbeats 4000000 in
theorem toHintS_any (a : Option Addr) (n cap : Nat) (xs : List Hn) (w : World) (hn : xs.length = n) (hm : n ≤ 1048576) (hx : FewH xs) (h : IsHs w a xs) :
    Calls Try.prog 36 #[.slice a n cap] w fun e w' => ∃ es, e = .returned (.slice (some ⟨w.heap.size, 0, none⟩) n n) ∧ hnsOf es = xs ∧ OwnH w' w.heap.size w'.heap.size (some ⟨w.heap.size, 0, none⟩) es ∧ Below w.heap.size w w' := by
  have H := Lib.hid h
  have HN := Lib.hid hn
  have HX := Lib.hid hx
  clear h hn hx
  have hmk := run_make_hns n hm
  go_enter Try.func36, Try.ntmps36
  go_wp2
  clear hmk
  go_loopw [4] (fun i wr => ∃ (k : Nat) (es : List HnB), k ≤ n ∧ i = .int .i64 k ∧ es.length = k ∧ Hid (hnsOf es = xs.take k) ∧ Hid (wr.rowIs w.heap.size 65 (n * 8) (fillH es)) ∧ Hid (LaidH wr w.heap.size wr.heap.size w.heap.size es) ∧ Hid (Below w.heap.size w wr)) (fun i _ => n - (intOf i).toNat)
  case atStart => exact ⟨0, [], Nat.zero_le _, rfl, rfl, rfl, rowHn_start _ _ _, ⟨fun i hi => by simp at hi, fun i j _ hj => by simp at hj⟩, (Below.refl _ _).alloc (Nat.le_refl _) _⟩
  case round =>
    obtain ⟨k, es, hk, rfl, hel, HE, HR, HL, HB⟩ := hrel
    by_cases hk' : k < n
    · have hkk : k < xs.length := by rw [HN.out]; exact hk'
      have i1 : (0 : Int) ≤ (k : Int) := by omega
      have i2 : (k : Int) < (n : Int) := by omega
      obtain ⟨b, o, ad, cp, rfl, hz, e0, -, hd⟩ := H.out.at HB.out hkk
      have hl := HX.out k hkk
      have HD := Lib.hid hd
      have HT : Hid (xs.take (k + 1) = xs.take k ++ [xs.getD k hnz]) := by
        show _ = _
        rw [List.take_add_one, List.getElem?_eq_getElem hkk]
        simp [List.getD, hkk]
      have hlt : w.heap.size < wr.heap.size := HR.out.lt
      clear hd
      generalize xs.getD k hnz = y at *
      obtain ⟨yf, yk, yc, ys, yq, yv, yd, yy⟩ := y
      unfold HnAt at e0
      simp only at e0 hl HD
      obtain ⟨c0, c1, c2, c3, c4, c5, c6, c7⟩ := e0
      go_wp2_with fail
      refine (toHint_any yf yk yc ys yq yv yd ad yy.length cp yy _ hl rfl HD.out).mono ?_
      rintro e w2 ⟨g, rfl, hg1, hg2, hg3, hg4, hb⟩
      obtain ⟨X, hX⟩ : ∃ X : HnB, X = ⟨⟨yf, ⟨yk, yc, ys, yq, yv, yd, yy⟩⟩, g⟩ := ⟨_, rfl⟩
      have HR2 : Hid (w2.rowIs w.heap.size 65 (n * 8) (fillH es)) := HR.out.of_block (hb.block _ hlt)
      have HL2 : Hid (LaidH w2 w.heap.size w2.heap.size w.heap.size (es ++ [X])) := HL.out.more hlt hb (by rw [hX]; exact hg1) (by rw [hX]; exact hg2) (by rw [hX]; exact hg3) (by rw [hX]; exact hg4)
      have HB2 := Lib.hid (below_step HB.out HB.out.size hb)
      have HE2 : Hid (hnsOf (es ++ [X]) = xs.take (k + 1)) := by
        show _ = _
        unfold hnsOf at *
        rw [HT.out, List.map_append, HE.out, hX]
        rfl
      have d0 := HR2.out.cell (i := k * 8) (by omega)
      have d1 := HR2.out.cell (i := k * 8 + 1) (by omega)
      have d2 := HR2.out.cell (i := k * 8 + 2) (by omega)
      have d3 := HR2.out.cell (i := k * 8 + 3) (by omega)
      have d4 := HR2.out.cell (i := k * 8 + 4) (by omega)
      have d5 := HR2.out.cell (i := k * 8 + 5) (by omega)
      have d6 := HR2.out.cell (i := k * 8 + 6) (by omega)
      have d7 := HR2.out.cell (i := k * 8 + 7) (by omega)
      have fz := HR2.out.frozen
      have HP : Hid ((put8 w2 w.heap.size (k * 8) yf yk yc ys yq yv yd (.slice (some ⟨g, 0, none⟩) yy.length yy.length)).rowIs w.heap.size 65 (n * 8) (fillH (es ++ [X]))) := ((((((((HR2.out.set (k * 8) _).set (k * 8 + 1) _).set (k * 8 + 2) _).set (k * 8 + 3) _).set (k * 8 + 4) _).set (k * 8 + 5) _).set (k * 8 + 6) _).set (k * 8 + 7) _).congr fun j _ => by
        have := fillH_step es X j
        rw [hel] at this
        rw [← this, hX]
      clear hg1 hg2 hg3 hg4 hb HR HL HB HR2
      go_wp2
      exact ⟨⟨k + 1, es ++ [X], by omega, by go_num, by simp [hel], HE2, HP, HL2.out.setRow _ _ _ _ _ _ _ _ _, Below.put8' HB2.out (Nat.le_refl _) _ _ _ _ _ _ _ _ _⟩, by simp [intOf]; omega⟩
    · have hkk : k = n := by omega
      subst hkk
      have HE2 : Hid (hnsOf es = xs) := by
        have h := HE.out
        rw [List.take_of_length_le (by rw [HN.out]; exact Nat.le_refl _)] at h
        exact h
      go_wp2
      go_ret
      exact ⟨es, rfl, HE2.out, .inr ⟨w.heap.size, k * 8, _, rfl, Nat.le_refl _, HR.out.lt, HR.out, by omega, fillH_in es, HL.out⟩, HB.out⟩

end Go.Proofs.Ytojgahcogpediaa

/- Lists of maps: the contracts of eqRep, eqRepS. -/
namespace Go.Proofs.Ytojgahcogpediaa
open Go.ChangeShapes Go.WideShapes Go.ChangeAt Go.RowKit Go.Joins
attribute [local go_sem ↓] Go.wp_at_zero Go.wp_at_succ

set_option maxRecDepth 100000 in
set_option maxHeartbeats 2000000 in
theorem eqRep_same (a a' : Option Addr) (n cap cap' : Nat) (ws : List Wr) (w : World) (hn : ws.length = n) (hm : n ≤ 1048576) (hx : Few ws) (h : IsWs w a ws) (h' : IsWs w a' ws) :
    Calls Try.prog 82 #[.agg #[.slice a n cap], .agg #[.slice a' n cap']] w fun e w' => e = .returned (.bool true) ∧ Below w.heap.size w w' := by
  have HB : Hid (Below w.heap.size w ((w.alloc (.cells #[.slice a n cap] 63)).alloc (.cells #[.slice a' n cap'] 63))) := ((Below.refl _ _).alloc (Nat.le_refl _) _).alloc (by simp) _
  have H := Lib.hid h
  have H' := Lib.hid h'
  have HN := Lib.hid hn
  have HX := Lib.hid hx
  clear h h' hn hx
  go_enter Try.func82, Try.ntmps82
  go_wp2_with fail
  refine (eqWriteS_gen _ _ n _ _ ws _ HN.out hm HX.out (H.out.below HB.out) (H'.out.below HB.out)).mono ?_
  rintro e w1 ⟨rfl, hb⟩
  have HB1 : Hid (Below w.heap.size w w1) := below_step HB.out HB.out.size hb
  clear hb
  go_wp2
  go_ret
  exact ⟨rfl, HB1.out⟩

set_option maxRecDepth 100000 in
set_option maxHeartbeats 2000000 in
theorem eqRepS_same (a a' : Option Addr) (n cap cap' : Nat) (bs : List (List Wr)) (w : World) (hn : bs.length = n) (hm : n ≤ 1048576) (hx : FewB bs) (h : IsBs w a bs) (h' : IsBs w a' bs) :
    Calls Try.prog 40 #[.slice a n cap, .slice a' n cap'] w fun e w' => e = .returned (.bool true) ∧ Below w.heap.size w w' := by
  have H := Lib.hid h
  have H' := Lib.hid h'
  have HN := Lib.hid hn
  have HX := Lib.hid hx
  clear h h' hn hx
  go_enter Try.func40, Try.ntmps40
  go_wp2
  go_loopw [5] (fun i wr => ∃ k : Nat, k ≤ n ∧ i = .int .i64 k ∧ Hid (Below w.heap.size w wr)) (fun i _ => n - (intOf i).toNat)
  case atStart => exact ⟨0, Nat.zero_le _, rfl, Below.refl _ _⟩
  case round =>
    obtain ⟨k, hk, rfl, HB⟩ := hrel
    by_cases hk' : k < n
    · have hkk : k < bs.length := by rw [HN.out]; exact hk'
      have i1 : (0 : Int) ≤ (k : Int) := by omega
      have i2 : (k : Int) < (n : Int) := by omega
      obtain ⟨b, o, ad, cp, rfl, hz, e0, hw⟩ := H.out.at HB.out hkk
      obtain ⟨b', o', ad', cp', rfl, hz', f0, hw'⟩ := H'.out.at HB.out hkk
      obtain ⟨hl, hf⟩ := HX.out k hkk
      have HC : Hid (∀ W, Below wr.heap.size wr W → Calls Try.prog 82 #[.agg #[.slice ad (bs.getD k []).length cp], .agg #[.slice ad' (bs.getD k []).length cp']] W fun e w' => e = .returned (.bool true) ∧ Below W.heap.size W w') := fun W hW => eqRep_same _ _ _ _ _ (bs.getD k []) W rfl hl hf (hw.below hW) (hw'.below hW)
      have HE : Hid (∀ W, Below wr.heap.size wr W → W.cell? ⟨b, o + k, none⟩ = some (.slice ad (bs.getD k []).length cp) ∧ W.cell? ⟨b', o' + k, none⟩ = some (.slice ad' (bs.getD k []).length cp')) := fun W hW => ⟨(hW.cell (p := ⟨b, o + k, none⟩) hz).trans e0, (hW.cell (p := ⟨b', o' + k, none⟩) hz').trans f0⟩
      clear hw hw' e0 f0 hf
      generalize (bs.getD k []).length = q at *
      go_wp2_with fail
      refine wp_region_slots 10 [[(0, false)], [(5, false)], [(17, true), (18, true)], [(19, true)], [(1, false)], [(5, false)], [(21, true), (22, true)], [(23, true)], [(20, true), (24, true)], [(25, true)]] (fun w' => Below wr.heap.size wr w') (fun w w' => Below w.heap.size w w') (by kernel_rfl) (by kernel_rfl) (by rfl) ((Below.refl _ _).drew) (fun _ _ h hb => below_step h h.size hb) ?_
      iterate 8 (apply slot_eq; · (intro ρ w' ⟨p1, p2, p3⟩ hbl hn; obtain ⟨c1, c2⟩ := HE.out w' hbl; simp at hn; go_simp; exact ⟨Below.refl _ _, rfl⟩))
      apply slot_eq
      · intro ρ w' ⟨p1, p2, p3⟩ hbl hn
        simp at hn
        obtain ⟨e1, e2⟩ := hn
        go_simp
        exact got_call (HC.out w' hbl) fun e w'' ⟨he, hb⟩ => ⟨_, he, hb, rfl⟩
      apply slot_eq
      · intro ρ w' ⟨p1, p2, p3⟩ hbl hn
        simp at hn
        go_simp
        exact ⟨Below.refl _ _, rfl⟩
      refine slot_end ?_
      intro vs w3 hS hF
      simp at hF
      obtain ⟨h26, -⟩ := hF
      have HB3 := Lib.hid (below_step HB.out HB.out.size hS)
      clear hS
      simp only [List.take_succ_cons, List.take_zero, List.drop_succ_cons, List.drop_zero, putAll, h26]
      clear h26
      simp only [Act.put, List.setIfInBounds_toArray, List.set_cons_succ, List.set_cons_zero]
      go_wp2
      exact ⟨⟨k + 1, by omega, by go_num, HB3⟩, by simp [intOf]; omega⟩
    · have hkk : k = n := by omega
      subst hkk
      go_wp2
      go_ret
      exact ⟨rfl, HB.out⟩

end Go.Proofs.Ytojgahcogpediaa
