import Derived.Test.YtionfpjjlghanabGreatPack8
import Derived.Test.YtionfpjjlghanabGreatPack10
import Derived.Test.YtionfpjjlghanabGreatPack15
import Derived.Test.YtionfpjjlghanabGreatPack12
import Derived.Test.YtionfpjjlghanabGreatPack2
import Derived.RegionTactic
import Derived.BigRegion
import Derived.Deep.RegionHeld3
import Derived.Deep.DrawnRows
import Derived.WalkSpells
/- The registers' putAll over a list that was made behind the registers. -/
namespace Go.Proofs.YtionfpjjlghanabGreat
open Go.ChangeShapes Go.WideShapes Go.ChangeAt Go.RowKit Go.Joins
attribute [local go_sem ↓] Go.wp_at_zero Go.wp_at_succ

/-- Dependencies that lie in no cell of block b. -/
def IsDepsX (b : Nat) (w : World) (a : Option Addr) (xs : List Dp) : Prop := xs = [] ∨ ∃ g o, a = some ⟨g, o, none⟩ ∧ g ≠ b ∧ g < w.heap.size ∧ HoldsDeps w g o xs

/-- Writes that lie, with their dependencies, in no cell of block b. -/
def IsWsX (b : Nat) (w : World) (a : Option Addr) (ws : List Wr) : Prop :=
  ws = [] ∨ ∃ g o, a = some ⟨g, o, none⟩ ∧ g ≠ b ∧ g < w.heap.size ∧ ∀ i, i < ws.length → ∃ a' cap, WrAt w g (o + i * 7) (ws.getD i wz) a' cap ∧ IsDepsX b w a' (ws.getD i wz).xs

theorem holdsDeps_block {w w' : World} {g o : Nat} {xs : List Dp} (h : HoldsDeps w g o xs) (hb : w'.heap[g]? = w.heap[g]?) : HoldsDeps w' g o xs := fun i hi => by
  have e : ∀ o, w'.cell? ⟨g, o, none⟩ = w.cell? ⟨g, o, none⟩ := fun o => World.cell?_of_block (a := ⟨g, o, none⟩) hb
  obtain ⟨a0, a1, a2, a3⟩ := h i hi
  exact ⟨(e _).trans a0, (e _).trans a1, (e _).trans a2, (e _).trans a3⟩

theorem IsDepsX.now {b : Nat} {w w' : World} {a : Option Addr} {xs : List Dp} (h : IsDepsX b w a xs) (hg : w.grownBy w' (some b)) : IsDeps w' a xs := by
  rcases h with h | ⟨g, o, ha, hne, hlt, hh⟩
  · exact .inl h
  · exact .inr ⟨g, o, ha, Nat.lt_of_lt_of_le hlt hg.size, holdsDeps_block hh (hg.block g hlt (by simpa using hne))⟩

theorem IsDeps.away {b : Nat} {w : World} {a : Option Addr} {xs : List Dp} (h : IsDeps w a xs) {w' : World} (hb : Below w.heap.size w w') (hB : w.heap.size ≤ b) : IsDepsX b w' a xs := by
  rcases h with h | ⟨g, o, ha, hlt, hh⟩
  · exact .inl h
  · exact .inr ⟨g, o, ha, by omega, Nat.lt_of_lt_of_le hlt hb.size, hh.below hb hlt⟩

theorem IsWs.away {b : Nat} {w : World} {a : Option Addr} {ws : List Wr} (h : IsWs w a ws) {w' : World} (hb : Below w.heap.size w w') (hB : w.heap.size ≤ b) : IsWsX b w' a ws := by
  rcases h with h | ⟨g, o, ha, hlt, hh⟩
  · exact .inl h
  · refine .inr ⟨g, o, ha, by omega, Nat.lt_of_lt_of_le hlt hb.size, fun i hi => ?_⟩
    obtain ⟨a', cap, h1, _, h3⟩ := hh i hi
    exact ⟨a', cap, h1.of_block (hb.block _ hlt), h3.away hb hB⟩

/-- One write of a slice, in a later world; its dependencies in the world of the slice. -/
theorem IsWsX.base {b : Nat} {w w' : World} {a : Option Addr} {ws : List Wr} (h : IsWsX b w a ws) (hb : w.grownBy w' (some b)) {k n : Nat} (hn : ws.length = n) (hk : k < n) :
    ∃ g o a' cap, a = some ⟨g, o, none⟩ ∧ g < w'.heap.size ∧ WrAt w' g (o + k * 7) (ws.getD k wz) a' cap ∧ IsDepsX b w a' (ws.getD k wz).xs := by
  rcases h with h | ⟨g, o, ha, hne, hlt, hh⟩
  · subst h
    simp at hn
    omega
  · obtain ⟨a', cap, h1, h3⟩ := hh k (by omega)
    exact ⟨g, o, a', cap, ha, Nat.lt_of_lt_of_le hlt hb.size, h1.of_block (hb.block g hlt (by simpa using hne)), h3⟩

/-- A row of one's own that was made behind block b. -/
theorem RowG.away {b base : Nat} {w : World} {v : Value} {es : List EnG} (h : RowG w base v es) (hB : b < base) {ws : List Wr} (hw : es.map (·.x) = ws) (hl : ∀ x ∈ ws, x.xs.length ≤ 1048576) : ∃ a cap, v = .slice a ws.length cap ∧ IsWsX b w a ws := by
  subst hw
  rcases h.own.2 with ⟨h1, h2⟩ | ⟨g, cap, cur, h1, h2, h3, _⟩
  · have : es = [] := List.length_eq_zero_iff.1 h2
    subst this
    exact ⟨none, 0, h1, .inl rfl⟩
  · subst h1
    have hlt : g < w.heap.size := (h.own.lt g rfl).2
    refine ⟨_, cap, by rw [List.length_map], .inr ⟨g, 0, rfl, by omega, hlt, fun i hi => ?_⟩⟩
    have hi' : i < es.length := by simpa using hi
    have hm : es.getD i ezG ∈ es := by simp [List.getD, hi']
    have hx : (es.map (·.x)).getD i wz = (es.getD i ezG).x := by simp [List.getD, hi']
    rw [hx, Nat.zero_add]
    have c : ∀ c, c < 7 → w.cell? ⟨g, i * 7 + c, none⟩ = (wrValsG (es.getD i ezG))[c]? := fun c hc => by rw [h.own.cellAt _ (by omega), valsG_at es i c hi' hc]
    refine ⟨(es.getD i ezG).a, (es.getD i ezG).cp, ⟨c 0 (by omega), c 1 (by omega), c 2 (by omega), c 3 (by omega), c 4 (by omega), c 5 (by omega), c 6 (by omega)⟩, ?_⟩
    by_cases hp : 0 < (es.getD i ezG).x.xs.length
    · obtain ⟨h4, h5, h6, h7, _⟩ := (h.deps _ hm).1 hp
      exact .inr ⟨_, 0, h4, by omega, h6, h7⟩
    · exact .inl (List.length_eq_zero_iff.1 (by omega))

/-- Registers that hold the writes M, whose dependencies lie in the world w0, off the registers. -/
def RegsX (w0 w : World) (b n : Nat) (M : Int → Option Wr) : Prop :=
  ∃ f, RegsAre w b n f ∧ ∀ k, (M k = none → f k = none) ∧ ∀ x, M k = some x → ∃ ad cp, f k = some (wrOf x ad cp) ∧ IsDepsX b w0 ad x.xs ∧ x.xs.length ≤ 1048576

theorem RegsX.of_block {w0 w w' : World} {b n : Nat} {M : Int → Option Wr} (h : RegsX w0 w b n M) (hb : w'.heap[b]? = w.heap[b]?) : RegsX w0 w' b n M := by
  obtain ⟨f, h1, h2⟩ := h
  exact ⟨f, h1.of_block hb, h2⟩

theorem RegsX.lt {w0 w : World} {b n : Nat} {M : Int → Option Wr} (h : RegsX w0 w b n M) : b < w.heap.size := by
  obtain ⟨f, h1, _⟩ := h
  exact h1.lt

theorem RegsX.below {w0 w w' : World} {b n : Nat} {M : Int → Option Wr} (h : RegsX w0 w b n M) (hb : Below w.heap.size w w') : RegsX w0 w' b n M := h.of_block (hb.block b h.lt)

/-- .. as they lie in a later world. -/
theorem RegsX.now {w0 w : World} {b n : Nat} {M : Int → Option Wr} (h : RegsX w0 w b n M) (hg : w0.grownBy w (some b)) : RegsW w w b n M := by
  obtain ⟨f, h1, h2⟩ := h
  refine ⟨f, h1, fun k => ⟨(h2 k).1, fun x hx => ?_⟩⟩
  obtain ⟨ad, cp, h3, h4, h5⟩ := (h2 k).2 x hx
  exact ⟨ad, cp, h3, h4.now hg, h5⟩

theorem RegsW.away {w0 w : World} {b n : Nat} {M : Int → Option Wr} (h : RegsW w0 w b n M) (hb : Below w0.heap.size w0 w) (hB : w0.heap.size ≤ b) : RegsX w w b n M := by
  obtain ⟨f, h1, h2⟩ := h
  refine ⟨f, h1, fun k => ⟨(h2 k).1, fun x hx => ?_⟩⟩
  obtain ⟨ad, cp, h3, h4, h5⟩ := (h2 k).2 x hx
  exact ⟨ad, cp, h3, h4.away hb hB, h5⟩

/-- .. a later world takes the place of the one in which they lie. -/
theorem RegsX.later {w0 w w' : World} {b n : Nat} {M : Int → Option Wr} (h : RegsX w0 w b n M) (hb : Below w0.heap.size w0 w') (hb' : w'.heap[b]? = w.heap[b]?) : RegsX w' w' b n M := by
  obtain ⟨f, h1, h2⟩ := h
  refine ⟨f, h1.of_block hb', fun k => ⟨(h2 k).1, fun x hx => ?_⟩⟩
  obtain ⟨ad, cp, h3, h4, h5⟩ := (h2 k).2 x hx
  refine ⟨ad, cp, h3, ?_, h5⟩
  rcases h4 with h4 | ⟨g, o, ha, hne, hlt, hh⟩
  · exact .inl h4
  · exact .inr ⟨g, o, ha, hne, Nat.lt_of_lt_of_le hlt hb.size, holdsDeps_block hh (hb.block g hlt)⟩

set_option maxRecDepth 100000 in
theorem look_noneX {w0 w : World} {ops : Array Oper} {rest : List Oper} {o : Oper} {a : Act} {Q : Exit → Act → World → Prop} (hg : o.guard = none) (m x : Operand) (hop : o.op = Op.lookup 42 m x true)
    {b n : Nat} {M : Int → Option Wr} (h : RegsX w0 w b n M) (k : Int) (hk : 0 ≤ k ∧ k ≤ 5) (hM : M k = none) (hm : a.eval m = .map (some b)) (hx : a.eval x = slotV k)
    (hK : wpList Tryz.prog ops Q rest (a.put o.dst (.tuple #[wrV 0 0 0 0 0 false none 0 0, .bool false])) w) : wpList Tryz.prog ops Q (o :: rest) a w := by
  obtain ⟨f, h1, h2⟩ := h
  refine wpList_look hg m x hop h1 k (by omega) hm hx ?_
  rw [(h2 k).1 hM]
  exact hK

set_option maxRecDepth 100000 in
theorem look_someX {w0 w : World} {ops : Array Oper} {rest : List Oper} {o : Oper} {a : Act} {Q : Exit → Act → World → Prop} (hg : o.guard = none) (m x : Operand) (hop : o.op = Op.lookup 42 m x true)
    {b n : Nat} {M : Int → Option Wr} (h : RegsX w0 w b n M) (k : Int) (hk : 0 ≤ k ∧ k ≤ 5) (y : Wr) (hM : M k = some y) (hm : a.eval m = .map (some b)) (hx : a.eval x = slotV k)
    (hK : ∀ ad cp, IsDepsX b w0 ad y.xs → y.xs.length ≤ 1048576 → wpList Tryz.prog ops Q rest (a.put o.dst (.tuple #[wrOf y ad cp, .bool true])) w) : wpList Tryz.prog ops Q (o :: rest) a w := by
  obtain ⟨f, h1, h2⟩ := h
  obtain ⟨ad, cp, h3, h4, h5⟩ := (h2 k).2 y hM
  refine wpList_look hg m x hop h1 k (by omega) hm hx ?_
  rw [h3]
  exact hK ad cp h4 h5

set_option maxRecDepth 100000 in
theorem store_regsX {w0 w : World} {ops : Array Oper} {rest : List Oper} {o : Oper} {a : Act} {Q : Exit → Act → World → Prop} (hg : o.guard = none) (m x u : Operand) (hop : o.op = Op.mapUpdate 42 m x u)
    {b n : Nat} {M : Int → Option Wr} (h : RegsX w0 w b n M) (hn : n < maxLen) (k : Int) (hk : 0 ≤ k ∧ k ≤ 5) (y : Wr) (ad : Option Addr) (cp : Nat) (hd : IsDepsX b w0 ad y.xs) (hl : y.xs.length ≤ 1048576) (hm : a.eval m = .map (some b)) (hx : a.eval x = slotV k) (hu : a.eval u = wrOf y ad cp)
    (hK : ∀ w', RegsX w0 w' b (n + 1) (fun j => if j = k then some y else M j) → w.mapTurned w' b → wpList Tryz.prog ops Q rest (a.put o.dst undef) w') : wpList Tryz.prog ops Q (o :: rest) a w := by
  obtain ⟨f, h1, h2⟩ := h
  refine wpList_store hg m x u hop h1 hn k (by omega) _ hm hx hu fun w' h3 h4 => hK w' ⟨_, h3, fun j => ?_⟩ h4
  by_cases e : j = k
  · simp only [if_pos e]
    exact ⟨fun h => (by cases h), fun z hz => by
      injection hz with hz
      subst hz
      exact ⟨ad, cp, rfl, hd, hl⟩⟩
  · show ((if j = k then some y else M j) = none → (if j = k then some (wrOf y ad cp) else f j) = none) ∧ _
    simp only [if_neg e]
    exact h2 j

set_option maxRecDepth 100000 in
set_option maxHeartbeats 8000000 in
theorem putAll_x (w0 : World) (b m : Nat) (M : Int → Option Wr) (a : Option Addr) (n cap : Nat) (ws : List Wr) (w : World) (hn : ws.length = n) (hm : n ≤ 1048576) (hmm : m ≤ 1048576) (hx : Few ws) (hk : ∀ i, i < ws.length → 0 ≤ (ws.getD i wz).k ∧ (ws.getD i wz).k ≤ 5)
    (hi : IsWsX b w0 a ws) (hb : w0.grownBy w (some b)) (hr : RegsX w0 w b m M) :
    Calls Tryz.prog 23 #[.map (some b), .slice a n cap] w fun e w' => e = .returned (.tuple #[]) ∧ RegsX w0 w' b (m + n) (ws.foldl regPut M) ∧ w0.grownBy w' (some b) := by
  have HI : Hid (IsWsX b w0 a ws) := hi
  have HN : Hid (ws.length = n) := hn
  have HX : Hid (Few ws) := hx
  have HKY : Hid (∀ i, i < ws.length → 0 ≤ (ws.getD i wz).k ∧ (ws.getD i wz).k ≤ 5) := hk
  have HR0 : Hid (RegsX w0 w b m M) := hr
  have HB0 : Hid (w0.grownBy w (some b)) := hb
  clear hi hn hx hk hr hb
  go_enter Tryz.func23, Tryz.ntmps23
  go_wp2
  go_loopw [10] (fun i wr => ∃ k : Nat, k ≤ n ∧ i = .int .i64 k ∧ Hid (RegsX w0 wr b (m + k) ((ws.take k).foldl regPut M)) ∧ Hid (w0.grownBy wr (some b))) (fun i _ => n - (intOf i).toNat)
  case atStart => exact ⟨0, Nat.zero_le _, rfl, HR0, HB0⟩
  case round =>
    clear HR0 HB0
    obtain ⟨k, hk, rfl, HR, HB⟩ := hrel
    by_cases hk' : k < n
    · obtain ⟨bl, o, ad, cp, rfl, hz, ⟨e0, e1, e2, e3, e4, e5, e6⟩, hd⟩ := HI.out.base HB.out HN.out hk'
      have HD := Lib.hid hd
      have i1 : (0 : Int) ≤ (k : Int) := by omega
      have i2 : (k : Int) < (n : Int) := by omega
      have hkw : k < ws.length := by rw [HN.out]; exact hk'
      have hxl := HX.out k hkw
      obtain ⟨k0, k5⟩ := HKY.out k hkw
      have HT : Hid ((ws.take (k + 1)).foldl regPut M = regPut ((ws.take k).foldl regPut M) (ws.getD k wz)) := foldl_take regPut ws M k hkw
      clear hd HI
      generalize ws.getD k wz = x at *
      obtain ⟨xk, xc, xs', xq, xv, xd, xx⟩ := x
      simp only at e0 e1 e2 e3 e4 e5 e6 HD hxl k0 k5
      generalize (ws.take k).foldl regPut M = M1 at *
      have HBA : Hid (Below wr.heap.size wr (wr.alloc (.cells #[.int .i64 xk, .int .i64 xc, .int .i64 xs', .int .i64 xq, .int .i64 xv, .bool xd, .slice ad xx.length cp] 35))) := (Below.refl _ _).alloc (Nat.le_refl _) _
      have HRA := Lib.hid (HR.out.below HBA.out)
      cases hM : M1 xk with
      | none =>
        have HP : Hid ((ws.take (k + 1)).foldl regPut M = fun j => if j = xk then some ⟨xk, xc, xs', xq, xv, xd, xx⟩ else M1 j) := by
          rw [HT.out]
          exact regPut_none hM
        have HM := Lib.hid hM
        clear hM HT
        have HBB : Hid (Below wr.heap.size wr ((wr.alloc (.cells #[.int .i64 xk, .int .i64 xc, .int .i64 xs', .int .i64 xq, .int .i64 xv, .bool xd, .slice ad xx.length cp] 35)).alloc (.cells #[.int .i64 0, .int .i64 0, .int .i64 0, .int .i64 0, .int .i64 0, .bool false, .slice none 0 0] 35))) := HBA.out.alloc (by simp) _
        have HRB := Lib.hid (HR.out.below HBB.out)
        go_wp2_with (first | (at_lookup; refine look_noneX (by rfl) _ _ (by rfl) HRA.out xk ⟨k0, k5⟩ HM.out (by rfl) (by rfl) ?_) | (at_mapUpdate; refine store_regsX (by rfl) _ _ _ (by rfl) HRB.out (by unfold maxLen; omega) xk ⟨k0, k5⟩ ⟨xk, xc, xs', xq, xv, xd, xx⟩ ad cp HD.out hxl (by rfl) (by rfl) (by rfl) ?_; intro w1 hr1 ht1; refine Hid.out ?_))
        refine Lib.hid ?_
        have HR1 : Hid (RegsX w0 w1 b (m + (k + 1)) ((ws.take (k + 1)).foldl regPut M)) := by
          rw [HP.out]
          exact hr1
        have HB1 : Hid (w0.grownBy w1 (some b)) := grown_trans (grown_trans HB.out (grown_of_below HBB.out (some b))) ht1.grown
        clear hr1 ht1
        go_wp2
        exact ⟨⟨k + 1, by omega, by go_num, HR1, HB1⟩, by simp [intOf]; omega⟩
      | some y =>
        have HPL : Hid (0 < cmpW ⟨xk, xc, xs', xq, xv, xd, xx⟩ y → (ws.take (k + 1)).foldl regPut M = fun j => if j = xk then some ⟨xk, xc, xs', xq, xv, xd, xx⟩ else M1 j) := fun h => by
          rw [HT.out]
          exact regPut_later hM h
        have HPS : Hid (cmpW ⟨xk, xc, xs', xq, xv, xd, xx⟩ y ≤ 0 → (ws.take (k + 1)).foldl regPut M = M1) := fun h => by
          rw [HT.out]
          exact regPut_same hM (Int.not_lt.2 h)
        have HM := Lib.hid hM
        clear hM HT
        obtain ⟨yk, yc, ys, yq, yv, yd, yy⟩ := y
        go_wp2_with (at_lookup; refine look_someX (by rfl) _ _ (by rfl) HRA.out xk ⟨k0, k5⟩ _ HM.out (by rfl) (by rfl) ?_; intro ad2 cp2 hd2 hl2)
        have HD2 := Lib.hid hd2
        clear hd2
        have HBB : Hid (Below wr.heap.size wr ((wr.alloc (.cells #[.int .i64 xk, .int .i64 xc, .int .i64 xs', .int .i64 xq, .int .i64 xv, .bool xd, .slice ad xx.length cp] 35)).alloc (.cells #[.int .i64 yk, .int .i64 yc, .int .i64 ys, .int .i64 yq, .int .i64 yv, .bool yd, .slice ad2 yy.length cp2] 35))) := HBA.out.alloc (by simp) _
        have HB0 := Lib.hid (grown_trans HB.out (grown_of_below HBB.out (some b)))
        refine (implWriteCmp_gen xk xc xs' xq xv xd ad xx _ cp yk yc ys yq yv yd ad2 yy _ cp2 _ rfl rfl hxl hl2 (HD.out.now HB0.out) (HD2.out.now HB0.out)).mono ?_
        rintro e w2 ⟨rfl, hb⟩
        have HX2 : Hid (BoxIn wr w2 xk xc xs' xq xv xd ad xx.length cp) := BoxIn.start (t := 35) (below_step ((Below.refl _ _).alloc (Nat.le_refl _) _) (by simp) hb)
        have HB2 := Lib.hid (grown_trans HB.out (grown_of_below HX2.out.below (some b)))
        have HR2 := Lib.hid (HR.out.below HX2.out.below)
        clear hb HB0 HBB HBA HRA
        by_cases hc : 0 < wcmp xk xc xs' xq xv xd xx yk yc ys yq yv yd yy
        · have HP := Lib.hid (HPL.out hc)
          clear HPL HPS
          have b0 := HX2.out.c0
          have b1 := HX2.out.c1
          have b2 := HX2.out.c2
          have b3 := HX2.out.c3
          have b4 := HX2.out.c4
          have b5 := HX2.out.c5
          have b6 := HX2.out.c6
          generalize wcmp xk xc xs' xq xv xd xx yk yc ys yq yv yd yy = z at *
          go_wp2_with (at_mapUpdate; refine store_regsX (by rfl) _ _ _ (by rfl) HR2.out (by unfold maxLen; omega) xk ⟨k0, k5⟩ ⟨xk, xc, xs', xq, xv, xd, xx⟩ ad cp HD.out hxl (by rfl) (by rfl) (by rfl) ?_; intro w3 hr3 ht3; refine Hid.out ?_)
          refine Lib.hid ?_
          have HR3 : Hid (RegsX w0 w3 b (m + (k + 1)) ((ws.take (k + 1)).foldl regPut M)) := by
            rw [HP.out]
            exact hr3
          have HB3 : Hid (w0.grownBy w3 (some b)) := grown_trans HB2.out ht3.grown
          clear hr3 ht3
          go_wp2
          exact ⟨⟨k + 1, by omega, by go_num, HR3, HB3⟩, by simp [intOf]; omega⟩
        · have HP := Lib.hid (HPS.out (Int.not_lt.1 hc))
          clear HPL HPS
          have HR3 : Hid (RegsX w0 w2 b (m + (k + 1)) ((ws.take (k + 1)).foldl regPut M)) := by
            rw [HP.out]
            obtain ⟨f, h1, h2⟩ := HR2.out
            obtain ⟨D, h3, h4⟩ := h1
            exact ⟨f, ⟨D, h3.mono (by omega), h4⟩, h2⟩
          generalize wcmp xk xc xs' xq xv xd xx yk yc ys yq yv yd yy = z at *
          go_wp2
          exact ⟨⟨k + 1, by omega, by go_num, HR3, HB2⟩, by simp [intOf]; omega⟩
    · have hkk : k = n := by omega
      subst hkk
      have HE : Hid (ws.take k = ws) := List.take_of_length_le (by rw [HN.out]; exact Nat.le_refl _)
      rw [HE.out] at HR
      go_wp2
      exact bodyPost_end (v := .tuple #[]) (by simp [results, Tryz.results23]) rfl ⟨rfl, HR.out, HB.out⟩

end Go.Proofs.YtionfpjjlghanabGreat

/- The contract of impl.Widest. -/
namespace Go.Proofs.YtionfpjjlghanabGreat
open Go.ChangeShapes Go.WideShapes Go.ChangeAt Go.RowKit Go.Joins
attribute [local go_sem ↓] Go.wp_at_zero Go.wp_at_succ

set_option maxRecDepth 100000 in
set_option maxHeartbeats 4000000 in
theorem implWidest_any (a b : Option Addr) (n m cap cap' : Nat) (us vs : List Wr) (w : World) (hn : us.length = n) (hm : vs.length = m) (hs : n + m ≤ 1048576) (hx : Few us) (hy : Few vs) (hi : IsWs w a us) (hj : IsWs w b vs) :
    Calls Tryz.prog 6 #[.slice a n cap, .slice b m cap'] w fun e w' => ∃ v es, e = .returned v ∧ es.map (·.x) = widL us vs ∧ RowG w' w.heap.size v es ∧ Below w.heap.size w w' := by
  have HI := Lib.hid hi
  have HJ := Lib.hid hj
  have HN := Lib.hid hn
  have HM := Lib.hid hm
  have HX := Lib.hid hx
  have HY := Lib.hid hy
  have HC := Lib.hid (seen_any a b n m cap cap' us vs w hn hm (by omega) (by omega) hx hy hi hj)
  clear hi hj hn hm hx hy
  cases hr : rightB us vs
  · have HF := Lib.hid (widL_wrong hr)
    rw [hr] at HC
    clear hr
    go_enter Tryz.func6, Tryz.ntmps6
    go_wp2_with fail
    refine HC.out.mono ?_
    rintro e w1 ⟨rfl, hb⟩
    have HB1 := Lib.hid hb
    clear hb HC
    go_wp2
    go_ret
    exact ⟨_, [], rfl, HF.out.symm, rowG_nil _ _, HB1.out⟩
  · have HF := Lib.hid (widL_right hr)
    obtain ⟨hp1, hp2, hp3⟩ := right_parts hr
    have HKU : Hid (∀ i, i < us.length → 0 ≤ (us.getD i wz).k ∧ (us.getD i wz).k ≤ 5) := fun i hi => okW_key (hp2 _ (getV_mem hi))
    have HKF : Hid (∀ i, i < (fitL us vs true).length → 0 ≤ ((fitL us vs true).getD i wz).k ∧ ((fitL us vs true).getD i wz).k ≤ 5) := fun i hi => okW_key (hp3 _ (fitL_mem (getV_mem hi)))
    have HTJ : Hid (toldM ((fitL us vs true).foldl regPut (us.foldl regPut (fun _ => none))) = widL us vs) := by
      rw [HF.out]
      exact Lib.hid (told_join hp1 (fun x hx => okW_key (hp2 x hx)) (fun x hx => okW_key (hp3 x (fitL_mem hx))))
    have HFB : Hid (∀ x ∈ fitL us vs true, x.xs.length ≤ 1048576) := fun x hx => by
      have := okW_len (hp3 x (fitL_mem hx))
      omega
    rw [hr] at HC
    clear hr hp1 hp2 hp3
    have hmm := @run_makeMap Tryz.prog
    go_enter Tryz.func6, Tryz.ntmps6
    go_wp2_with fail
    refine HC.out.mono ?_
    rintro e w1 ⟨rfl, hb⟩
    have HB1 := Lib.hid hb
    clear hb HC
    go_wp2_with fail
    clear hmm
    have HB2 : Hid (Below w.heap.size w (w1.alloc (.map #[] 0))) := HB1.out.alloc HB1.out.size _
    refine (putAll_any w w1.heap.size 0 (fun _ => none) a n cap us _ HN.out (by omega) (by omega) HX.out HKU.out HI.out HB2.out HB1.out.size ⟨_, regs_made w1, fun k => ⟨fun _ => rfl, fun x h => by cases h⟩⟩).mono ?_
    rintro e w2 ⟨rfl, hr2, hb⟩
    have HB3 := Lib.hid hb
    have HR2 := Lib.hid (hr2.away hb HB1.out.size)
    have hlt := hr2.lt
    clear hr2 hb HB2
    go_wp2_with fail
    refine (implFitting_any a b n m cap cap' us vs _ HN.out HM.out hs HX.out HY.out (HI.out.below HB3.out) (HJ.out.below HB3.out)).mono ?_
    rintro e w3 ⟨v, es, rfl, he, hrow, hb⟩
    obtain ⟨fa, fc, rfl, hwx⟩ := hrow.away hlt he HFB.out
    have HWX := Lib.hid hwx
    have HB4 := Lib.hid (below_step HB3.out HB3.out.size hb)
    have HR3 := Lib.hid (HR2.out.later hb (hb.block _ hlt))
    have hfl := fitL_len us vs true
    rw [HM.out] at hfl
    have hw1 : w.heap.size ≤ w1.heap.size := HB1.out.size
    have HFF := Lib.hid (fitL_few (us := us) HY.out true)
    clear hb he hrow hwx HR2 HB3 hlt
    generalize fitL us vs true = fs at *
    go_wp2_with fail
    refine (putAll_x w3 w1.heap.size (0 + n) _ fa fs.length fc fs w3 rfl (by omega) (by omega) HFF.out HKF.out HWX.out ⟨rfl, rfl, rfl, Nat.le_refl _, fun _ _ _ => rfl⟩ HR3.out).mono ?_
    rintro e w4 ⟨rfl, hr4, hg4⟩
    have HR4 := Lib.hid (hr4.now hg4)
    have HB5 : Hid (Below w.heap.size w w4) := HB4.out.grown hg4 HB4.out.size fun j hj => by injection hj with hj; omega
    clear hr4 hg4
    go_wp2_with fail
    refine (told_any w4 w1.heap.size _ _ _ (Below.refl _ _) HR4.out).mono ?_
    rintro e w5 ⟨v, es5, rfl, hes, hrow, hb⟩
    have HES : Hid (es5.map (·.x) = widL us vs) := hes.trans HTJ.out
    have HRW := Lib.hid (hrow.mono HB5.out.size)
    have HB6 : Hid (Below w.heap.size w w5) := below_step HB5.out HB5.out.size hb
    clear hes hrow hb
    go_wp2
    go_ret
    exact ⟨v, es5, rfl, HES.out, HRW.out, HB6.out⟩

end Go.Proofs.YtionfpjjlghanabGreat

/- The contract of the laws' sameWrites. -/
namespace Go.Proofs.YtionfpjjlghanabGreat
open Go.ChangeShapes Go.WideShapes Go.ChangeAt Go.RowKit Go.Joins
attribute [local go_sem ↓] Go.wp_at_zero Go.wp_at_succ

set_option maxHeartbeats 4000000 in
theorem sameWrites_gen (a b : Option Addr) (n m cap cap' : Nat) (us vs : List Wr) (w : World) (hn : us.length = n) (hm : vs.length = m) (hn1 : n ≤ 1048576) (hm1 : m ≤ 1048576) (hx : Few us) (hy : Few vs) (hi : IsWs w a us) (hj : IsWs w b vs) :
    Calls Tryz.prog 9 #[.slice a n cap, .slice b m cap'] w fun e w' => e = .returned (.bool (sameB us vs)) ∧ Below w.heap.size w w' := by
  have HI : Hid (IsWs w a us) := hi
  have HJ : Hid (IsWs w b vs) := hj
  have HN : Hid (us.length = n) := hn
  have HM : Hid (vs.length = m) := hm
  have HX : Hid (Few us) := hx
  have HY : Hid (Few vs) := hy
  clear hi hj hn hm hx hy
  by_cases hnm : n = m
  case neg =>
    have HF : Hid (sameB us vs = false) := same_len (by rw [HN.out, HM.out]; exact hnm)
    have hb : ((n : Int) != (m : Int)) = true := by rw [bne_iff_ne]; omega
    go_enter Tryz.func9, Tryz.ntmps9
    go_wp2
    go_ret
    exact ⟨ret_bool HF.out.symm, Below.refl _ _⟩
  subst hnm
  go_enter Tryz.func9, Tryz.ntmps9
  go_wp2
  go_loopw [5] (fun i wr => ∃ k : Nat, k ≤ n ∧ i = .int .i64 k ∧ Hid (∀ j, j < k → cmpW (us.getD j wz) (vs.getD j wz) = 0) ∧ Hid (Below w.heap.size w wr)) (fun i _ => n - (intOf i).toNat)
  case atStart => exact ⟨0, Nat.zero_le _, rfl, fun j hj => absurd hj (Nat.not_lt_zero j), Below.refl _ _⟩
  case round =>
    obtain ⟨k, hk, rfl, HK, HB⟩ := hrel
    by_cases hk' : k < n
    · obtain ⟨b1, o1, ad, cp, rfl, hz, ⟨e0, e1, e2, e3, e4, e5, e6⟩, hd⟩ := HI.out.at HB.out HN.out hk'
      obtain ⟨b2, o2, ad', cp', rfl, hz', ⟨f0, f1, f2, f3, f4, f5, f6⟩, hd'⟩ := HJ.out.at HB.out HM.out hk'
      have i1 : (0 : Int) ≤ (k : Int) := by omega
      have i2 : (k : Int) < (n : Int) := by omega
      have HC : Hid (∀ p : Aft wr.heap.size wr, Calls Tryz.prog 28 #[wrOf (us.getD k wz) ad cp, wrOf (vs.getD k wz) ad' cp'] p.now fun e w' => e = .returned (.int .i64 (cmpW (us.getD k wz) (vs.getD k wz))) ∧ Below p.now.heap.size p.now w') := fun p =>
        specWriteCmp_gen _ _ _ _ _ _ _ (us.getD k wz).xs _ _ _ _ _ _ _ _ _ (vs.getD k wz).xs _ _ _ rfl rfl (HX.out k (by rw [HN.out]; exact hk')) (HY.out k (by rw [HM.out]; exact hk')) (hd.below p.below) (hd'.below p.below)
      have HE : Hid (cmpW (us.getD k wz) (vs.getD k wz) ≠ 0 → sameB us vs = false) := fun h => same_false (by rw [HN.out]; exact hk') h
      have HK' : Hid (cmpW (us.getD k wz) (vs.getD k wz) = 0 → ∀ j, j < k + 1 → cmpW (us.getD j wz) (vs.getD j wz) = 0) := fun h j hj => by
        by_cases h' : j < k
        · exact HK.out j h'
        · have : j = k := by omega
          rw [this]
          exact h
      clear hd hd' HI HJ
      by_cases hc : cmpW (us.getD k wz) (vs.getD k wz) = 0
      · have HK2 := Lib.hid (HK'.out hc)
        rw [hc] at HC
        clear hc HE HK'
        generalize us.getD k wz = x at *
        generalize vs.getD k wz = y at *
        obtain ⟨xk, xc, xs', xq, xv, xd, xx⟩ := x
        obtain ⟨yk, yc, ys, yq, yv, yd, yy⟩ := y
        simp only at e0 e1 e2 e3 e4 e5 e6 f0 f1 f2 f3 f4 f5 f6 HC
        go_wp2_with fail
        have ge0 := aft_cell hz e0
        have ge1 := aft_cell hz e1
        have ge2 := aft_cell hz e2
        have ge3 := aft_cell hz e3
        have ge4 := aft_cell hz e4
        have ge5 := aft_cell hz e5
        have ge6 := aft_cell hz e6
        have gf0 := aft_cell hz' f0
        have gf1 := aft_cell hz' f1
        have gf2 := aft_cell hz' f2
        have gf3 := aft_cell hz' f3
        have gf4 := aft_cell hz' f4
        have gf5 := aft_cell hz' f5
        have gf6 := aft_cell hz' f6
        have ne := aft_some wr
        refine wp_region_aft (by kernel_rfl) (by kernel_rfl) ?_
        repeat (first | go_big_quiet_step (first | (go_at_call 28; exact aft_of (HC.out _))))
        refine wpQuiet_nil ?_
        intro wq hq
        have HBQ : Hid (Below w.heap.size w wq) := below_step HB.out HB.out.size hq
        clear hq
        go_wp2
        exact ⟨⟨k + 1, by omega, by go_num, HK2, HBQ⟩, by simp [intOf]; omega⟩
      · have HF := Lib.hid (HE.out hc)
        have hcb : (cmpW (us.getD k wz) (vs.getD k wz) != 0) = true := by rw [bne_iff_ne]; exact hc
        clear hc HE HK'
        generalize cmpW (us.getD k wz) (vs.getD k wz) = z at *
        generalize us.getD k wz = x at *
        generalize vs.getD k wz = y at *
        obtain ⟨xk, xc, xs', xq, xv, xd, xx⟩ := x
        obtain ⟨yk, yc, ys, yq, yv, yd, yy⟩ := y
        simp only at e0 e1 e2 e3 e4 e5 e6 f0 f1 f2 f3 f4 f5 f6 HC
        go_wp2_with fail
        have ge0 := aft_cell hz e0
        have ge1 := aft_cell hz e1
        have ge2 := aft_cell hz e2
        have ge3 := aft_cell hz e3
        have ge4 := aft_cell hz e4
        have ge5 := aft_cell hz e5
        have ge6 := aft_cell hz e6
        have gf0 := aft_cell hz' f0
        have gf1 := aft_cell hz' f1
        have gf2 := aft_cell hz' f2
        have gf3 := aft_cell hz' f3
        have gf4 := aft_cell hz' f4
        have gf5 := aft_cell hz' f5
        have gf6 := aft_cell hz' f6
        have ne := aft_some wr
        refine wp_region_aft (by kernel_rfl) (by kernel_rfl) ?_
        repeat (first | go_big_quiet_step (first | (go_at_call 28; exact aft_of (HC.out _))))
        refine wpQuiet_nil ?_
        intro wq hq
        have HBQ : Hid (Below w.heap.size w wq) := below_step HB.out HB.out.size hq
        clear hq
        go_wp2
        go_ret
        exact ⟨ret_bool HF.out.symm, HBQ.out⟩
    · have hkk : k = n := by omega
      subst hkk
      have HF : Hid (sameB us vs = true) := same_true (by rw [HN.out, HM.out]) (fun i hi => HK.out i (by rw [← HN.out]; exact hi))
      go_wp2
      go_ret
      exact ⟨ret_bool HF.out.symm, HB.out⟩

end Go.Proofs.YtionfpjjlghanabGreat

/- The contract of DrawTagCmp. -/
namespace Go.Proofs.YtionfpjjlghanabGreat
open Go.ChangeShapes Go.WideShapes Go.ChangeAt Go.RowKit Go.Joins
attribute [local go_sem ↓] Go.wp_at_zero Go.wp_at_succ

theorem Hole.belowOf {B c : Nat} {w0 w w' : World} (h : Hole B w w') (h0 : Below c w0 w) (hB : c ≤ B) (hc : c ≤ w.heap.size) : Below c w0 w' := Hole.below h0 h hB hc

theorem open_as (a : Option Addr) (len cap B : Nat) (w : World) (hB : w.heap.size = B) (h : Bytes w a len) (hl : len ≤ 1048576) :
    Calls Tryz.prog 18 #[.slice a len cap] w fun e w' => e = .returned (.pointer (some ⟨B, 0, none⟩)) ∧ Cur w' B a len cap 0 ∧ Below w.heap.size w w' := by
  subst hB
  exact open_any a len cap w h hl

theorem two_tags (w : World) (t : Nat) : TagBox ((w.alloc (.cells #[.int .i64 0, .int .i64 0, .int .i64 0] t)).alloc (.cells #[.int .i64 0, .int .i64 0, .int .i64 0] t)) w.heap.size 0 0 0 ∧ TagBox ((w.alloc (.cells #[.int .i64 0, .int .i64 0, .int .i64 0] t)).alloc (.cells #[.int .i64 0, .int .i64 0, .int .i64 0] t)) (w.heap.size + 1) 0 0 0 := by
  have h := TagBox.start (w.alloc (.cells #[.int .i64 0, .int .i64 0, .int .i64 0] t)) 0 0 0 t
  have e : (w.alloc (.cells #[.int .i64 0, .int .i64 0, .int .i64 0] t)).heap.size = w.heap.size + 1 := by simp
  rw [e] at h
  exact ⟨(TagBox.start w 0 0 0 t).hole (Hole.of_below (B := w.heap.size + 2) ((Below.refl _ _).alloc (Nat.le_refl _) _)) (by omega), h⟩

end Go.Proofs.YtionfpjjlghanabGreat

/- The contract of DrawWriteCmp. -/
namespace Go.Proofs.YtionfpjjlghanabGreat
open Go.ChangeShapes Go.WideShapes Go.ChangeAt Go.RowKit Go.Joins
attribute [local go_sem ↓] Go.wp_at_zero Go.wp_at_succ

theorem two_writes (w : World) (t : Nat) : WBox ((w.alloc (.cells #[.int .i64 0, .int .i64 0, .int .i64 0, .int .i64 0, .int .i64 0, .bool false, .slice none 0 0] t)).alloc (.cells #[.int .i64 0, .int .i64 0, .int .i64 0, .int .i64 0, .int .i64 0, .bool false, .slice none 0 0] t)) w.heap.size 0 0 0 0 0 false none 0 0 ∧ WBox ((w.alloc (.cells #[.int .i64 0, .int .i64 0, .int .i64 0, .int .i64 0, .int .i64 0, .bool false, .slice none 0 0] t)).alloc (.cells #[.int .i64 0, .int .i64 0, .int .i64 0, .int .i64 0, .int .i64 0, .bool false, .slice none 0 0] t)) (w.heap.size + 1) 0 0 0 0 0 false none 0 0 := by
  have h := WBox.start (w.alloc (.cells #[.int .i64 0, .int .i64 0, .int .i64 0, .int .i64 0, .int .i64 0, .bool false, .slice none 0 0] t)) 0 0 0 0 0 false none 0 0 t
  have e : (w.alloc (.cells #[.int .i64 0, .int .i64 0, .int .i64 0, .int .i64 0, .int .i64 0, .bool false, .slice none 0 0] t)).heap.size = w.heap.size + 1 := by simp
  rw [e] at h
  exact ⟨(WBox.start w 0 0 0 0 0 false none 0 0 t).hole (Hole.of_below (B := w.heap.size + 2) ((Below.refl _ _).alloc (Nat.le_refl _) _)) (by omega), h⟩

/-- What is carried through the drawing of two writes. -/
structure DW (w W : World) (B bA bB g g' : Nat) (a : Option Addr) (len cap : Nat) (N : Int) (k c s q v : Int) (de : Bool) (ds : List Dp) (cp : Nat) (k' c' s' q' v' : Int) (de' : Bool) (ds' : List Dp) (cp' : Nat) : Prop where
  cur : Cur W B a len cap N
  below : Below w.heap.size w W
  r1 : WBox W w.heap.size 0 0 0 0 0 false none 0 0
  r2 : WBox W (w.heap.size + 1) 0 0 0 0 0 false none 0 0
  ba : WBox W bA k c s q v de (some ⟨g, 0, none⟩) ds.length cp
  bb : WBox W bB k' c' s' q' v' de' (some ⟨g', 0, none⟩) ds'.length cp'
  d1 : HoldsDeps W g 0 ds
  d2 : HoldsDeps W g' 0 ds'
  l1 : g < W.heap.size
  l2 : g' < W.heap.size
  eB : B = w.heap.size + 1 + 1
  g1 : B < g
  g2 : B < g'
  gA : g < bA
  gB : bA < bB
  gn : g' ≠ bB
  n1 : ds.length ≤ 7
  n2 : ds'.length ≤ 7

theorem DW.step {w W W' : World} {B bA bB g g' : Nat} {a : Option Addr} {len cap : Nat} {N M : Int} {k c s q v : Int} {de : Bool} {ds : List Dp} {cp : Nat} {k' c' s' q' v' : Int} {de' : Bool} {ds' : List Dp} {cp' : Nat} (h : DW w W B bA bB g g' a len cap N k c s q v de ds cp k' c' s' q' v' de' ds' cp') (hc : Cur W' B a len cap M) (hh : Hole B W W') : DW w W' B bA bB g g' a len cap M k c s q v de ds cp k' c' s' q' v' de' ds' cp' :=
  ⟨hc, hh.belowOf h.below (by have := h.eB; omega) h.below.size, h.r1.hole hh (by have := h.eB; omega), h.r2.hole hh (by have := h.eB; omega), h.ba.hole hh (by have := h.g1; have := h.gA; omega), h.bb.hole hh (by have := h.g1; have := h.gA; have := h.gB; omega), h.d1.hole hh h.l1 (by have := h.g1; omega), h.d2.hole hh h.l2 (by have := h.g2; omega), Nat.lt_of_lt_of_le h.l1 hh.size, Nat.lt_of_lt_of_le h.l2 hh.size, h.eB, h.g1, h.g2, h.gA, h.gB, h.gn, h.n1, h.n2⟩

theorem DW.set {w W : World} {B bA bB g g' : Nat} {a : Option Addr} {len cap : Nat} {N : Int} {k c s q v : Int} {de : Bool} {ds : List Dp} {cp : Nat} {k' c' s' q' v' x1 x2 x3 x4 x5 : Int} {de' x6 : Bool} {ds' : List Dp} {cp' : Nat} (h : DW w W B bA bB g g' a len cap N k c s q v de ds cp k' c' s' q' v' de' ds' cp') (o : Nat) (y : Value) (hb : WBox (W.setCell ⟨bB, o, none⟩ y) bB x1 x2 x3 x4 x5 x6 (some ⟨g', 0, none⟩) ds'.length cp') : DW w (W.setCell ⟨bB, o, none⟩ y) B bA bB g g' a len cap N k c s q v de ds cp x1 x2 x3 x4 x5 x6 ds' cp' := by
  have := h.eB
  have := h.g1
  have := h.gA
  have := h.gB
  exact ⟨h.cur.setOther (by omega) o y, h.below.setCell (by show w.heap.size ≤ bB; omega) y, h.r1.other (by omega) o y, h.r2.other (by omega) o y, h.ba.other (by omega) o y, hb, h.d1.set (by show bB ≠ g; omega) y, h.d2.set (Ne.symm h.gn) y, by simpa [World.setCell] using h.l1, by simpa [World.setCell] using h.l2, h.eB, h.g1, h.g2, h.gA, h.gB, h.gn, h.n1, h.n2⟩

abbrev put7 (W : World) (R : Nat) (v0 v1 v2 v3 v4 v5 v6 : Value) : World :=
  ((((((W.setCell ⟨R, 0, none⟩ v0).setCell ⟨R, 1, none⟩ v1).setCell ⟨R, 2, none⟩ v2).setCell ⟨R, 3, none⟩ v3).setCell ⟨R, 4, none⟩ v4).setCell ⟨R, 5, none⟩ v5).setCell ⟨R, 6, none⟩ v6

theorem holds_put7 {W : World} {R g : Nat} {ds : List Dp} (h : HoldsDeps W g 0 ds) (hn : R ≠ g) (v0 v1 v2 v3 v4 v5 v6 : Value) : HoldsDeps (put7 W R v0 v1 v2 v3 v4 v5 v6) g 0 ds := by
  have h0 := h.set (a := ⟨R, 0, none⟩) hn v0
  have h1 := h0.set (a := ⟨R, 1, none⟩) hn v1
  have h2 := h1.set (a := ⟨R, 2, none⟩) hn v2
  have h3 := h2.set (a := ⟨R, 3, none⟩) hn v3
  have h4 := h3.set (a := ⟨R, 4, none⟩) hn v4
  have h5 := h4.set (a := ⟨R, 5, none⟩) hn v5
  exact h5.set (a := ⟨R, 6, none⟩) hn v6

theorem below_put7 {w W : World} {R : Nat} (h : Below w.heap.size w W) (hR : w.heap.size ≤ R) (v0 v1 v2 v3 v4 v5 v6 : Value) : Below w.heap.size w (put7 W R v0 v1 v2 v3 v4 v5 v6) := by
  have h0 := h.setCell (p := ⟨R, 0, none⟩) hR v0
  have h1 := h0.setCell (p := ⟨R, 1, none⟩) hR v1
  have h2 := h1.setCell (p := ⟨R, 2, none⟩) hR v2
  have h3 := h2.setCell (p := ⟨R, 3, none⟩) hR v3
  have h4 := h3.setCell (p := ⟨R, 4, none⟩) hR v4
  have h5 := h4.setCell (p := ⟨R, 5, none⟩) hR v5
  exact h5.setCell (p := ⟨R, 6, none⟩) hR v6

theorem holds_drew {W : World} {g : Nat} {ds : List Dp} (h : HoldsDeps W g 0 ds) : HoldsDeps W.drew g 0 ds := h

theorem draw_end {w W : World} {B bA bB g g' : Nat} {a : Option Addr} {len cap : Nat} {N : Int} {k c s q v : Int} {de : Bool} {ds : List Dp} {cp : Nat} {k' c' s' q' v' : Int} {de' : Bool} {ds' : List Dp} {cp' : Nat} (h : DW w W B bA bB g g' a len cap N k c s q v de ds cp k' c' s' q' v' de' ds' cp') (v0 v1 v2 v3 v4 v5 v6 u0 u1 u2 u3 u4 u5 u6 : Value) :
    g < (put7 (put7 W w.heap.size v0 v1 v2 v3 v4 v5 v6) (w.heap.size + 1) u0 u1 u2 u3 u4 u5 u6).drew.heap.size ∧ g' < (put7 (put7 W w.heap.size v0 v1 v2 v3 v4 v5 v6) (w.heap.size + 1) u0 u1 u2 u3 u4 u5 u6).drew.heap.size ∧ HoldsDeps (put7 (put7 W w.heap.size v0 v1 v2 v3 v4 v5 v6) (w.heap.size + 1) u0 u1 u2 u3 u4 u5 u6).drew g 0 ds ∧ HoldsDeps (put7 (put7 W w.heap.size v0 v1 v2 v3 v4 v5 v6) (w.heap.size + 1) u0 u1 u2 u3 u4 u5 u6).drew g' 0 ds' ∧ Below w.heap.size w (put7 (put7 W w.heap.size v0 v1 v2 v3 v4 v5 v6) (w.heap.size + 1) u0 u1 u2 u3 u4 u5 u6).drew := by
  have := h.eB
  have := h.g1
  have := h.g2
  have a1 : w.heap.size ≠ g := by omega
  have a2 : w.heap.size + 1 ≠ g := by omega
  have b1 : w.heap.size ≠ g' := by omega
  have b2 : w.heap.size + 1 ≠ g' := by omega
  exact ⟨by simpa [World.setCell] using h.l1, by simpa [World.setCell] using h.l2, holds_drew (holds_put7 (holds_put7 h.d1 a1 _ _ _ _ _ _ _) a2 _ _ _ _ _ _ _), holds_drew (holds_put7 (holds_put7 h.d2 b1 _ _ _ _ _ _ _) b2 _ _ _ _ _ _ _), (below_put7 (below_put7 h.below (Nat.le_refl _) _ _ _ _ _ _ _) (by omega) _ _ _ _ _ _ _).drew⟩

theorem cur_put7 {W : World} {B R : Nat} {a : Option Addr} {len cap : Nat} {N : Int} (h : Cur W B a len cap N) (hR : B < R) (v0 v1 v2 v3 v4 v5 v6 : Value) : Cur (put7 W R v0 v1 v2 v3 v4 v5 v6) B a len cap N := by
  have h0 := h.setOther hR 0 v0
  have h1 := h0.setOther hR 1 v1
  have h2 := h1.setOther hR 2 v2
  have h3 := h2.setOther hR 3 v3
  have h4 := h3.setOther hR 4 v4
  have h5 := h4.setOther hR 5 v5
  exact h5.setOther hR 6 v6

theorem box_put7 {W : World} {R b : Nat} {k c s q v : Int} {de : Bool} {x : Option Addr} {len cap : Nat} (h : WBox W b k c s q v de x len cap) (hn : R ≠ b) (v0 v1 v2 v3 v4 v5 v6 : Value) : WBox (put7 W R v0 v1 v2 v3 v4 v5 v6) b k c s q v de x len cap := by
  have h0 := h.other hn 0 v0
  have h1 := h0.other hn 1 v1
  have h2 := h1.other hn 2 v2
  have h3 := h2.other hn 3 v3
  have h4 := h3.other hn 4 v4
  have h5 := h4.other hn 5 v5
  exact h5.other hn 6 v6

theorem box_own7 {W : World} {b : Nat} {k0 c0 s0 q0 v0 : Int} {de0 : Bool} {x0 : Option Addr} {len0 cap0 : Nat} (h : WBox W b k0 c0 s0 q0 v0 de0 x0 len0 cap0) (k c s q v : Int) (de : Bool) (x : Option Addr) (len cap : Nat) : WBox (put7 W b (.int .i64 k) (.int .i64 c) (.int .i64 s) (.int .i64 q) (.int .i64 v) (.bool de) (.slice x len cap)) b k c s q v de x len cap := by
  have h0 := h.set0 k
  have h1 := h0.set1 c
  have h2 : WBox ((((W.setCell ⟨b, 0, none⟩ (.int .i64 k)).setCell ⟨b, 1, none⟩ (.int .i64 c)).setCell ⟨b, 2, none⟩ (.int .i64 s))) b k c s q0 v0 de0 x0 len0 cap0 :=
    ⟨by simpa [World.setCell] using h1.lt, cell_set_off h1.c0 (by omega), cell_set_off h1.c1 (by omega), cell_set_same h1.c2, cell_set_off h1.c3 (by omega), cell_set_off h1.c4 (by omega), cell_set_off h1.c5 (by omega), cell_set_off h1.c6 (by omega), fun o => by rw [World.frozen?_setCell]; exact h1.fz o⟩
  have h3 : WBox (((((W.setCell ⟨b, 0, none⟩ (.int .i64 k)).setCell ⟨b, 1, none⟩ (.int .i64 c)).setCell ⟨b, 2, none⟩ (.int .i64 s))).setCell ⟨b, 3, none⟩ (.int .i64 q)) b k c s q v0 de0 x0 len0 cap0 :=
    ⟨by simpa [World.setCell] using h2.lt, cell_set_off h2.c0 (by omega), cell_set_off h2.c1 (by omega), cell_set_off h2.c2 (by omega), cell_set_same h2.c3, cell_set_off h2.c4 (by omega), cell_set_off h2.c5 (by omega), cell_set_off h2.c6 (by omega), fun o => by rw [World.frozen?_setCell]; exact h2.fz o⟩
  have h4 := h3.set4 v
  have h5 := h4.set5 de
  exact h5.set6 x len cap

end Go.Proofs.YtionfpjjlghanabGreat
