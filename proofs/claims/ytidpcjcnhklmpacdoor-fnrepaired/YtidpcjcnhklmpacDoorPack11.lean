import Derived.Test.YtidpcjcnhklmpacDoorPack10
import Derived.Test.YtidpcjcnhklmpacDoorPack7
import Derived.Test.YtidpcjcnhklmpacDoorPack6
import Derived.Deep.MidRow
/- Contracts of the registers' put and putAll. -/
namespace Go.Proofs.YtidpcjcnhklmpacDoor
open Go.ChangeShapes Go.WideShapes Go.ChangeAt Go.RowKit Go.Joins
attribute [local go_sem ↓] Go.wp_at_zero Go.wp_at_succ

/-- Registers that hold the writes M, whose dependencies lie in the world w0. -/
def RegsW (w0 w : World) (b n : Nat) (M : Int → Option Wr) : Prop :=
  ∃ f, RegsAre w b n f ∧ ∀ k, (M k = none → f k = none) ∧ ∀ x, M k = some x → ∃ ad cp, f k = some (wrOf x ad cp) ∧ IsDeps w0 ad x.xs ∧ x.xs.length ≤ 1048576

set_option maxRecDepth 100000 in
theorem RegsW.of_block {w0 w w' : World} {b n : Nat} {M : Int → Option Wr} (h : RegsW w0 w b n M) (hb : w'.heap[b]? = w.heap[b]?) : RegsW w0 w' b n M := by
  obtain ⟨f, h1, h2⟩ := h
  exact ⟨f, h1.of_block hb, h2⟩

set_option maxRecDepth 100000 in
theorem RegsW.lt {w0 w : World} {b n : Nat} {M : Int → Option Wr} (h : RegsW w0 w b n M) : b < w.heap.size := by
  obtain ⟨f, h1, _⟩ := h
  exact h1.lt

set_option maxRecDepth 100000 in
theorem RegsW.below {w0 w w' : World} {b n : Nat} {M : Int → Option Wr} (h : RegsW w0 w b n M) (hb : Below w.heap.size w w') : RegsW w0 w' b n M := h.of_block (hb.block b h.lt)

set_option maxRecDepth 100000 in
theorem look_none {w0 w : World} {ops : Array Oper} {rest : List Oper} {o : Oper} {a : Act} {Q : Exit → Act → World → Prop} (hg : o.guard = none) (m x : Operand) (hop : o.op = Op.lookup 91 m x true)
    {b n : Nat} {M : Int → Option Wr} (h : RegsW w0 w b n M) (k : Int) (hk : 0 ≤ k ∧ k ≤ 5) (hM : M k = none) (hm : a.eval m = .map (some b)) (hx : a.eval x = slotV k)
    (hK : wpList Tryd.prog ops Q rest (a.put o.dst (.tuple #[wrV 0 0 0 0 0 false none 0 0, .bool false])) w) : wpList Tryd.prog ops Q (o :: rest) a w := by
  obtain ⟨f, h1, h2⟩ := h
  refine wpList_look hg m x hop h1 k (by omega) hm hx ?_
  rw [(h2 k).1 hM]
  exact hK

set_option maxRecDepth 100000 in
theorem look_some {w0 w : World} {ops : Array Oper} {rest : List Oper} {o : Oper} {a : Act} {Q : Exit → Act → World → Prop} (hg : o.guard = none) (m x : Operand) (hop : o.op = Op.lookup 91 m x true)
    {b n : Nat} {M : Int → Option Wr} (h : RegsW w0 w b n M) (k : Int) (hk : 0 ≤ k ∧ k ≤ 5) (y : Wr) (hM : M k = some y) (hm : a.eval m = .map (some b)) (hx : a.eval x = slotV k)
    (hK : ∀ ad cp, IsDeps w0 ad y.xs → y.xs.length ≤ 1048576 → wpList Tryd.prog ops Q rest (a.put o.dst (.tuple #[wrOf y ad cp, .bool true])) w) : wpList Tryd.prog ops Q (o :: rest) a w := by
  obtain ⟨f, h1, h2⟩ := h
  obtain ⟨ad, cp, h3, h4, h5⟩ := (h2 k).2 y hM
  refine wpList_look hg m x hop h1 k (by omega) hm hx ?_
  rw [h3]
  exact hK ad cp h4 h5

set_option maxRecDepth 100000 in
theorem store_regs {w0 w : World} {ops : Array Oper} {rest : List Oper} {o : Oper} {a : Act} {Q : Exit → Act → World → Prop} (hg : o.guard = none) (m x u : Operand) (hop : o.op = Op.mapUpdate 91 m x u)
    {b n : Nat} {M : Int → Option Wr} (h : RegsW w0 w b n M) (hn : n < maxLen) (k : Int) (hk : 0 ≤ k ∧ k ≤ 5) (y : Wr) (ad : Option Addr) (cp : Nat) (hd : IsDeps w0 ad y.xs) (hl : y.xs.length ≤ 1048576) (hm : a.eval m = .map (some b)) (hx : a.eval x = slotV k) (hu : a.eval u = wrOf y ad cp)
    (hK : ∀ w', RegsW w0 w' b (n + 1) (fun j => if j = k then some y else M j) → w.mapTurned w' b → wpList Tryd.prog ops Q rest (a.put o.dst undef) w') : wpList Tryd.prog ops Q (o :: rest) a w := by
  obtain ⟨f, h1, h2⟩ := h
  refine wpList_store hg m x u hop h1 hn k (by omega) _ hm hx hu fun w' h3 h4 => hK w' ⟨_, h3, fun j => ?_⟩ h4
  by_cases e : j = k
  · simp only [if_pos e]
    exact ⟨fun h => (by cases h), fun z hz => by
      injection hz with hz
      subst hz
      exact ⟨ad, cp, rfl, hd, hl⟩⟩
  · show ((if j = k then some y else M j) = none → (if j = k then some (wrOf y ad cp) else f j) = none) ∧ _
    simp only [if_neg e]
    exact h2 j

set_option maxRecDepth 100000 in
theorem regPut_none {M : Int → Option Wr} {x : Wr} (h : M x.k = none) : regPut M x = fun j => if j = x.k then some x else M j := by
  funext j
  unfold regPut
  rw [h]
  rfl

set_option maxRecDepth 100000 in
theorem regPut_later {M : Int → Option Wr} {x y : Wr} (h : M x.k = some y) (hc : 0 < cmpW x y) : regPut M x = fun j => if j = x.k then some x else M j := by
  funext j
  unfold regPut
  rw [h]
  have : cmpW y x < 0 := by
    have := wcmp_neg x.k x.c x.s x.q x.v x.de x.xs y.k y.c y.s y.q y.v y.de y.xs
    unfold cmpW at *
    omega
  simp [laterO, this]

set_option maxRecDepth 100000 in
theorem regPut_same {M : Int → Option Wr} {x y : Wr} (h : M x.k = some y) (hc : ¬ 0 < cmpW x y) : regPut M x = M := by
  funext j
  unfold regPut
  have : ¬ cmpW y x < 0 := by
    have := wcmp_neg x.k x.c x.s x.q x.v x.de x.xs y.k y.c y.s y.q y.v y.de y.xs
    unfold cmpW at *
    omega
  by_cases e : j = x.k
  · rw [if_pos e, h, e, h]
    simp [laterO, this]
  · rw [if_neg e]

set_option maxRecDepth 100000 in
theorem foldl_take {α : Type} (f : α → Wr → α) (ws : List Wr) (s : α) (k : Nat) (h : k < ws.length) : (ws.take (k + 1)).foldl f s = f ((ws.take k).foldl f s) (ws.getD k wz) := by
  have e : ws.take (k + 1) = ws.take k ++ [ws.getD k wz] := by
    rw [List.take_add_one, List.getElem?_eq_getElem h]
    simp [List.getD, h]
  rw [e, List.foldl_append]
  rfl

/-- Registers that hold the writes M, of whose dependencies D is known. -/
def RegsP (D : Option Addr → List Dp → Prop) (w : World) (b n : Nat) (M : Int → Option Wr) : Prop :=
  ∃ f, RegsAre w b n f ∧ ∀ k, (M k = none → f k = none) ∧ ∀ x, M k = some x → ∃ ad cp, f k = some (wrOf x ad cp) ∧ D ad x.xs ∧ x.xs.length ≤ 1048576

set_option maxRecDepth 100000 in
theorem RegsP.of_block {D : Option Addr → List Dp → Prop} {w w' : World} {b n : Nat} {M : Int → Option Wr} (h : RegsP D w b n M) (hb : w'.heap[b]? = w.heap[b]?) : RegsP D w' b n M := by
  obtain ⟨f, h1, h2⟩ := h
  exact ⟨f, h1.of_block hb, h2⟩

set_option maxRecDepth 100000 in
theorem RegsP.lt {D : Option Addr → List Dp → Prop} {w : World} {b n : Nat} {M : Int → Option Wr} (h : RegsP D w b n M) : b < w.heap.size := by
  obtain ⟨f, h1, _⟩ := h
  exact h1.lt

set_option maxRecDepth 100000 in
theorem RegsP.below {D : Option Addr → List Dp → Prop} {w w' : World} {b n : Nat} {M : Int → Option Wr} (h : RegsP D w b n M) (hb : Below w.heap.size w w') : RegsP D w' b n M := h.of_block (hb.block b h.lt)

set_option maxRecDepth 100000 in
theorem look_noneP {D : Option Addr → List Dp → Prop} {w : World} {ops : Array Oper} {rest : List Oper} {o : Oper} {a : Act} {Q : Exit → Act → World → Prop} (hg : o.guard = none) (m x : Operand) (hop : o.op = Op.lookup 91 m x true)
    {b n : Nat} {M : Int → Option Wr} (h : RegsP D w b n M) (k : Int) (hk : 0 ≤ k ∧ k ≤ 5) (hM : M k = none) (hm : a.eval m = .map (some b)) (hx : a.eval x = slotV k)
    (hK : wpList Tryd.prog ops Q rest (a.put o.dst (.tuple #[wrV 0 0 0 0 0 false none 0 0, .bool false])) w) : wpList Tryd.prog ops Q (o :: rest) a w := by
  obtain ⟨f, h1, h2⟩ := h
  refine wpList_look hg m x hop h1 k (by omega) hm hx ?_
  rw [(h2 k).1 hM]
  exact hK

set_option maxRecDepth 100000 in
theorem look_someP {D : Option Addr → List Dp → Prop} {w : World} {ops : Array Oper} {rest : List Oper} {o : Oper} {a : Act} {Q : Exit → Act → World → Prop} (hg : o.guard = none) (m x : Operand) (hop : o.op = Op.lookup 91 m x true)
    {b n : Nat} {M : Int → Option Wr} (h : RegsP D w b n M) (k : Int) (hk : 0 ≤ k ∧ k ≤ 5) (y : Wr) (hM : M k = some y) (hm : a.eval m = .map (some b)) (hx : a.eval x = slotV k)
    (hK : ∀ ad cp, D ad y.xs → y.xs.length ≤ 1048576 → wpList Tryd.prog ops Q rest (a.put o.dst (.tuple #[wrOf y ad cp, .bool true])) w) : wpList Tryd.prog ops Q (o :: rest) a w := by
  obtain ⟨f, h1, h2⟩ := h
  obtain ⟨ad, cp, h3, h4, h5⟩ := (h2 k).2 y hM
  refine wpList_look hg m x hop h1 k (by omega) hm hx ?_
  rw [h3]
  exact hK ad cp h4 h5

set_option maxRecDepth 100000 in
theorem store_regsP {D : Option Addr → List Dp → Prop} {w : World} {ops : Array Oper} {rest : List Oper} {o : Oper} {a : Act} {Q : Exit → Act → World → Prop} (hg : o.guard = none) (m x u : Operand) (hop : o.op = Op.mapUpdate 91 m x u)
    {b n : Nat} {M : Int → Option Wr} (h : RegsP D w b n M) (hn : n < maxLen) (k : Int) (hk : 0 ≤ k ∧ k ≤ 5) (y : Wr) (ad : Option Addr) (cp : Nat) (hd : D ad y.xs) (hl : y.xs.length ≤ 1048576) (hm : a.eval m = .map (some b)) (hx : a.eval x = slotV k) (hu : a.eval u = wrOf y ad cp)
    (hK : ∀ w', RegsP D w' b (n + 1) (fun j => if j = k then some y else M j) → w.mapTurned w' b → wpList Tryd.prog ops Q rest (a.put o.dst undef) w') : wpList Tryd.prog ops Q (o :: rest) a w := by
  obtain ⟨f, h1, h2⟩ := h
  refine wpList_store hg m x u hop h1 hn k (by omega) _ hm hx hu fun w' h3 h4 => hK w' ⟨_, h3, fun j => ?_⟩ h4
  by_cases e : j = k
  · simp only [if_pos e]
    exact ⟨fun h => (by cases h), fun z hz => by
      injection hz with hz
      subst hz
      exact ⟨ad, cp, rfl, hd, hl⟩⟩
  · show ((if j = k then some y else M j) = none → (if j = k then some (wrOf y ad cp) else f j) = none) ∧ _
    simp only [if_neg e]
    exact h2 j

set_option maxRecDepth 100000 in
set_option maxHeartbeats 8000000 in
/-- One write is put: of its key the later one stays. -/
theorem put_p (D : Option Addr → List Dp → Prop) (b m : Nat) (M : Int → Option Wr) (x : Wr) (ad : Option Addr) (cp : Nat) (w : World) (hmm : m ≤ 4611686018427387904) (hxl : x.xs.length ≤ 1048576) (hk : 0 ≤ x.k ∧ x.k ≤ 5) (hd : D ad x.xs)
    (hN : ∀ w', Below w.heap.size w w' → ∀ ad xs, D ad xs → IsDeps w' ad xs) (hr : RegsP D w b m M) :
    Calls Tryd.prog 84 #[.map (some b), wrOf x ad cp] w fun e w' => e = .returned (.tuple #[]) ∧ RegsP D w' b (m + 1) (regPut M x) ∧ w.grownBy w' (some b) := by
  obtain ⟨xk, xc, xs', xq, xv, xd, xx⟩ := x
  simp only at hxl hk hd
  obtain ⟨k0, k5⟩ := hk
  have HN := Lib.hid hN
  have HR := Lib.hid hr
  have HD := Lib.hid hd
  clear hN hr hd
  have HBA : Hid (Below w.heap.size w (w.alloc (.cells #[.int .i64 xk, .int .i64 xc, .int .i64 xs', .int .i64 xq, .int .i64 xv, .bool xd, .slice ad xx.length cp] 81))) := (Below.refl _ _).alloc (Nat.le_refl _) _
  have HRA := Lib.hid (HR.out.below HBA.out)
  cases hM : M xk with
  | none =>
    have HP : Hid (regPut M ⟨xk, xc, xs', xq, xv, xd, xx⟩ = fun j => if j = xk then some ⟨xk, xc, xs', xq, xv, xd, xx⟩ else M j) := regPut_none hM
    have HM := Lib.hid hM
    clear hM
    have HBB : Hid (Below w.heap.size w ((w.alloc (.cells #[.int .i64 xk, .int .i64 xc, .int .i64 xs', .int .i64 xq, .int .i64 xv, .bool xd, .slice ad xx.length cp] 81)).alloc (.cells #[.int .i64 0, .int .i64 0, .int .i64 0, .int .i64 0, .int .i64 0, .bool false, .slice none 0 0] 81))) := HBA.out.alloc (by simp) _
    have HRB := Lib.hid (HR.out.below HBB.out)
    go_enter Tryd.func84, Tryd.ntmps84
    go_wp2_with (first | (at_lookup; refine look_noneP (by rfl) _ _ (by rfl) HRA.out xk ⟨k0, k5⟩ HM.out (by rfl) (by rfl) ?_) | (at_mapUpdate; refine store_regsP (by rfl) _ _ _ (by rfl) HRB.out (by unfold maxLen; omega) xk ⟨k0, k5⟩ ⟨xk, xc, xs', xq, xv, xd, xx⟩ ad cp HD.out hxl (by rfl) (by rfl) (by rfl) ?_; intro w1 hr1 ht1; refine Hid.out ?_))
    refine Lib.hid ?_
    have HR1 : Hid (RegsP D w1 b (m + 1) (regPut M ⟨xk, xc, xs', xq, xv, xd, xx⟩)) := by
      rw [HP.out]
      exact hr1
    have HB1 : Hid (w.grownBy w1 (some b)) := grown_trans (grown_of_below HBB.out (some b)) ht1.grown
    clear hr1 ht1
    go_wp2
    exact bodyPost_end (v := .tuple #[]) (by simp [results, Tryd.results84]) rfl ⟨rfl, HR1.out, HB1.out⟩
  | some y =>
    have HPL : Hid (0 < cmpW ⟨xk, xc, xs', xq, xv, xd, xx⟩ y → regPut M ⟨xk, xc, xs', xq, xv, xd, xx⟩ = fun j => if j = xk then some ⟨xk, xc, xs', xq, xv, xd, xx⟩ else M j) := fun h => regPut_later hM h
    have HPS : Hid (cmpW ⟨xk, xc, xs', xq, xv, xd, xx⟩ y ≤ 0 → regPut M ⟨xk, xc, xs', xq, xv, xd, xx⟩ = M) := fun h => regPut_same hM (Int.not_lt.2 h)
    have HM := Lib.hid hM
    clear hM
    obtain ⟨yk, yc, ys, yq, yv, yd, yy⟩ := y
    go_enter Tryd.func84, Tryd.ntmps84
    go_wp2_with (at_lookup; refine look_someP (by rfl) _ _ (by rfl) HRA.out xk ⟨k0, k5⟩ _ HM.out (by rfl) (by rfl) ?_; intro ad2 cp2 hd2 hl2)
    have HD2 := Lib.hid hd2
    clear hd2
    have HBB : Hid (Below w.heap.size w ((w.alloc (.cells #[.int .i64 xk, .int .i64 xc, .int .i64 xs', .int .i64 xq, .int .i64 xv, .bool xd, .slice ad xx.length cp] 81)).alloc (.cells #[.int .i64 yk, .int .i64 yc, .int .i64 ys, .int .i64 yq, .int .i64 yv, .bool yd, .slice ad2 yy.length cp2] 81))) := HBA.out.alloc (by simp) _
    refine (implWriteCmp_gen xk xc xs' xq xv xd ad xx _ cp yk yc ys yq yv yd ad2 yy _ cp2 _ rfl rfl hxl hl2 (HN.out _ HBB.out _ _ HD.out) (HN.out _ HBB.out _ _ HD2.out)).mono ?_
    rintro e w2 ⟨rfl, hb⟩
    have HX2 : Hid (BoxIn w w2 xk xc xs' xq xv xd ad xx.length cp) := BoxIn.start (t := 81) (below_step ((Below.refl _ _).alloc (Nat.le_refl _) _) (by simp) hb)
    have HB2 := Lib.hid (grown_of_below HX2.out.below (some b))
    have HR2 := Lib.hid (HR.out.below HX2.out.below)
    clear hb HBB HBA HRA
    by_cases hc : 0 < wcmp xk xc xs' xq xv xd xx yk yc ys yq yv yd yy
    · have HP := Lib.hid (HPL.out hc)
      clear HPL HPS
      have b0 := HX2.out.c0
      have b1 := HX2.out.c1
      have b2 := HX2.out.c2
      have b3 := HX2.out.c3
      have b4 := HX2.out.c4
      have b5 := HX2.out.c5
      have b6 := HX2.out.c6
      generalize wcmp xk xc xs' xq xv xd xx yk yc ys yq yv yd yy = z at *
      go_wp2_with (at_mapUpdate; refine store_regsP (by rfl) _ _ _ (by rfl) HR2.out (by unfold maxLen; omega) xk ⟨k0, k5⟩ ⟨xk, xc, xs', xq, xv, xd, xx⟩ ad cp HD.out hxl (by rfl) (by rfl) (by rfl) ?_; intro w3 hr3 ht3; refine Hid.out ?_)
      refine Lib.hid ?_
      have HR3 : Hid (RegsP D w3 b (m + 1) (regPut M ⟨xk, xc, xs', xq, xv, xd, xx⟩)) := by
        rw [HP.out]
        exact hr3
      have HB3 : Hid (w.grownBy w3 (some b)) := grown_trans HB2.out ht3.grown
      clear hr3 ht3
      go_wp2
      exact bodyPost_end (v := .tuple #[]) (by simp [results, Tryd.results84]) rfl ⟨rfl, HR3.out, HB3.out⟩
    · have HP := Lib.hid (HPS.out (Int.not_lt.1 hc))
      clear HPL HPS
      have HR3 : Hid (RegsP D w2 b (m + 1) (regPut M ⟨xk, xc, xs', xq, xv, xd, xx⟩)) := by
        rw [HP.out]
        obtain ⟨f, h1, h2⟩ := HR2.out
        obtain ⟨E, h3, h4⟩ := h1
        exact ⟨f, ⟨E, h3.mono (by omega), h4⟩, h2⟩
      generalize wcmp xk xc xs' xq xv xd xx yk yc ys yq yv yd yy = z at *
      go_wp2
      exact bodyPost_end (v := .tuple #[]) (by simp [results, Tryd.results84]) rfl ⟨rfl, HR3.out, HB2.out⟩

set_option maxRecDepth 100000 in
theorem putOne_any (w0 : World) (b m : Nat) (M : Int → Option Wr) (x : Wr) (ad : Option Addr) (cp : Nat) (w : World) (hmm : m ≤ 4611686018427387904) (hxl : x.xs.length ≤ 1048576) (hk : 0 ≤ x.k ∧ x.k ≤ 5) (hd : IsDeps w0 ad x.xs) (hb : Below w0.heap.size w0 w) (hB : w0.heap.size ≤ b) (hr : RegsW w0 w b m M) :
    Calls Tryd.prog 84 #[.map (some b), wrOf x ad cp] w fun e w' => e = .returned (.tuple #[]) ∧ RegsW w0 w' b (m + 1) (regPut M x) ∧ Below w0.heap.size w0 w' := by
  refine (put_p (IsDeps w0) b m M x ad cp w hmm hxl hk hd (fun w' h ad xs hx => hx.below (below_step hb hb.size h)) hr).mono ?_
  rintro e w' ⟨he, h1, h2⟩
  exact ⟨he, h1, hb.grown h2 hb.size fun j hj => by injection hj with hj; omega⟩

set_option maxRecDepth 100000 in
set_option maxHeartbeats 8000000 in
theorem putAll_any (w0 : World) (b m : Nat) (M : Int → Option Wr) (a : Option Addr) (n cap : Nat) (ws : List Wr) (w : World) (hn : ws.length = n) (hm : n ≤ 1048576) (hmm : m ≤ 1048576) (hx : Few ws) (hk : ∀ i, i < ws.length → 0 ≤ (ws.getD i wz).k ∧ (ws.getD i wz).k ≤ 5)
    (hi : IsWs w0 a ws) (hb : Below w0.heap.size w0 w) (hB : w0.heap.size ≤ b) (hr : RegsW w0 w b m M) :
    Calls Tryd.prog 58 #[.map (some b), .slice a n cap] w fun e w' => e = .returned (.tuple #[]) ∧ RegsW w0 w' b (m + n) (ws.foldl regPut M) ∧ Below w0.heap.size w0 w' := by
  have HI : Hid (IsWs w0 a ws) := hi
  have HN : Hid (ws.length = n) := hn
  have HX : Hid (Few ws) := hx
  have HKY : Hid (∀ i, i < ws.length → 0 ≤ (ws.getD i wz).k ∧ (ws.getD i wz).k ≤ 5) := hk
  have HR0 : Hid (RegsW w0 w b m M) := hr
  have HB0 : Hid (Below w0.heap.size w0 w) := hb
  clear hi hn hx hk hr hb
  go_enter Tryd.func58, Tryd.ntmps58
  go_wp2
  go_loopw [8] (fun i wr => ∃ k : Nat, k ≤ n ∧ i = .int .i64 k ∧ Hid (RegsW w0 wr b (m + k) ((ws.take k).foldl regPut M)) ∧ Hid (Below w0.heap.size w0 wr)) (fun i _ => n - (intOf i).toNat)
  case atStart => exact ⟨0, Nat.zero_le _, rfl, HR0, HB0⟩
  case round =>
    clear HR0 HB0
    obtain ⟨k, hk, rfl, HR, HB⟩ := hrel
    by_cases hk' : k < n
    · obtain ⟨bl, o, ad, cp, rfl, hz, ⟨e0, e1, e2, e3, e4, e5, e6⟩, hd⟩ := HI.out.base HB.out HN.out hk'
      have HD := Lib.hid hd
      have i1 : (0 : Int) ≤ (k : Int) := by omega
      have i2 : (k : Int) < (n : Int) := by omega
      have hkw : k < ws.length := by rw [HN.out]; exact hk'
      have hxl := HX.out k hkw
      have hky := HKY.out k hkw
      have HT : Hid ((ws.take (k + 1)).foldl regPut M = regPut ((ws.take k).foldl regPut M) (ws.getD k wz)) := foldl_take regPut ws M k hkw
      clear hd HI
      generalize ws.getD k wz = x at *
      obtain ⟨xk, xc, xs', xq, xv, xd, xx⟩ := x
      simp only at e0 e1 e2 e3 e4 e5 e6 HD hxl hky
      generalize (ws.take k).foldl regPut M = M1 at *
      have HBA : Hid (Below wr.heap.size wr (wr.alloc (.cells #[.int .i64 xk, .int .i64 xc, .int .i64 xs', .int .i64 xq, .int .i64 xv, .bool xd, .slice ad xx.length cp] 81))) := (Below.refl _ _).alloc (Nat.le_refl _) _
      have HRA := Lib.hid (HR.out.below HBA.out)
      have HB1 := Lib.hid (below_step HB.out HB.out.size HBA.out)
      go_wp2_with fail
      refine (putOne_any w0 b (m + k) M1 ⟨xk, xc, xs', xq, xv, xd, xx⟩ ad cp _ (by omega) hxl hky HD.out HB1.out hB HRA.out).mono ?_
      rintro e w2 ⟨rfl, hr2, hb2⟩
      have HR2 : Hid (RegsW w0 w2 b (m + (k + 1)) ((ws.take (k + 1)).foldl regPut M)) := by
        rw [HT.out]
        exact hr2
      have HB2 := Lib.hid hb2
      clear hr2 hb2
      go_wp2
      exact ⟨⟨k + 1, by omega, by go_num, HR2, HB2⟩, by simp [intOf]; omega⟩
    · have hkk : k = n := by omega
      subst hkk
      have HE : Hid (ws.take k = ws) := List.take_of_length_le (by rw [HN.out]; exact Nat.le_refl _)
      rw [HE.out] at HR
      go_wp2
      exact bodyPost_end (v := .tuple #[]) (by simp [results, Tryd.results58]) rfl ⟨rfl, HR.out, HB.out⟩

end Go.Proofs.YtidpcjcnhklmpacDoor

/- The contract of the registers' told. -/
namespace Go.Proofs.YtidpcjcnhklmpacDoor
open Go.ChangeShapes Go.WideShapes Go.ChangeAt Go.RowKit Go.Joins
attribute [local go_sem ↓] Go.wp_at_zero Go.wp_at_succ

def toldTo (M : Int → Option Wr) (k : Nat) : List Wr := (List.range k).filterMap fun (j : Nat) => M (j : Int)

set_option maxRecDepth 100000 in
theorem toldTo_none {M : Int → Option Wr} {k : Nat} (h : M (k : Int) = none) : toldTo M (k + 1) = toldTo M k := by
  unfold toldTo
  rw [List.range_succ, List.filterMap_append]
  simp [h]

set_option maxRecDepth 100000 in
theorem toldTo_some {M : Int → Option Wr} {k : Nat} {x : Wr} (h : M (k : Int) = some x) : toldTo M (k + 1) = toldTo M k ++ [x] := by
  unfold toldTo
  rw [List.range_succ, List.filterMap_append]
  simp [h]

set_option maxRecDepth 100000 in
theorem toldTo_six (M : Int → Option Wr) : toldTo M 6 = toldM M := by
  rfl

set_option maxRecDepth 100000 in
theorem toldTo_len (M : Int → Option Wr) (k : Nat) : (toldTo M k).length ≤ k := by
  unfold toldTo
  have := List.length_filterMap_le (fun j : Nat => M (j : Int)) (List.range k)
  simpa using this

set_option maxRecDepth 100000 in
set_option maxHeartbeats 8000000 in
theorem told_any (w0 : World) (b m : Nat) (M : Int → Option Wr) (w : World) (hb : Below w0.heap.size w0 w) (hr : RegsW w0 w b m M) :
    Calls Tryd.prog 59 #[.map (some b)] w fun e w' => ∃ v es, e = .returned v ∧ es.map (·.x) = toldM M ∧ RowG w' w.heap.size v es ∧ Below w.heap.size w w' := by
  have HR0 : Hid (RegsW w0 w b m M) := hr
  have HB0 : Hid (Below w0.heap.size w0 w) := hb
  clear hr hb
  obtain ⟨i0, hi0, hx0⟩ := Option.map_eq_some_iff.1 infoWr
  simp only [Prod.mk.injEq] at hx0
  have HI0 := Lib.hid hi0
  have HX0 := Lib.hid hx0
  clear hi0 hx0
  go_enter Tryd.func59, Tryd.ntmps59
  go_wp2
  go_loopw [3, 7] (fun t i wr => ∃ (k : Nat) (v : Value) (es : List EnG), k ≤ 6 ∧ i = .int .i64 k ∧ v = t ∧ Hid (es.map (·.x) = toldTo M k) ∧ Hid (RowG wr w.heap.size v es) ∧ Hid (Below w.heap.size w wr)) (fun _ i _ => 6 - (intOf i).toNat)
  case atStart => exact ⟨0, _, [], Nat.zero_le _, rfl, rfl, rfl, rowG_nil _ _, Below.refl _ _⟩
  case round =>
    obtain ⟨k, v, es, hk, rfl, rfl, HE, HR, HB⟩ := hrel
    have hln : es.length ≤ 6 := by
      have h1 := toldTo_len M k
      rw [← HE.out, List.length_map] at h1
      omega
    by_cases hk' : k < 6
    · have i1 : (0 : Int) ≤ (k : Int) := by omega
      have i2 : (k : Int) < 6 := by omega
      have HRW := Lib.hid (HR0.out.below HB.out)
      cases hM : M (k : Int) with
      | none =>
        have HE' : Hid (es.map (·.x) = toldTo M (k + 1)) := by
          rw [toldTo_none hM]
          exact HE
        have HM := Lib.hid hM
        clear hM
        have HBA : Hid (Below w.heap.size w (wr.alloc (.cells #[.int .i64 0, .int .i64 0, .int .i64 0, .int .i64 0, .int .i64 0, .bool false, .slice none 0 0] 81))) := HB.out.alloc HB.out.size _
        have HRA := Lib.hid (HR.out.below ((Below.refl wr.heap.size wr).alloc (Nat.le_refl _) (.cells #[.int .i64 0, .int .i64 0, .int .i64 0, .int .i64 0, .int .i64 0, .bool false, .slice none 0 0] 81)))
        go_wp2_with (at_lookup; refine look_none (by rfl) _ _ (by rfl) HRW.out (k : Int) ⟨i1, by omega⟩ HM.out (by rfl) (by rfl) ?_)
        exact ⟨⟨k + 1, _, es, by omega, by go_num, rfl, HE', HRA, HBA⟩, by simp [intOf]; omega⟩
      | some y =>
        have HE' : Hid (toldTo M (k + 1) = toldTo M k ++ [y]) := toldTo_some hM
        have HM := Lib.hid hM
        clear hM
        obtain ⟨yk, yc, ys, yq, yv, yd, yy⟩ := y
        go_wp2_with (at_lookup; refine look_some (by rfl) _ _ (by rfl) HRW.out (k : Int) ⟨i1, by omega⟩ _ HM.out (by rfl) (by rfl) ?_; intro ad cp hd hl)
        have HBA : Hid (Below wr.heap.size wr (wr.alloc (.cells #[.int .i64 yk, .int .i64 yc, .int .i64 ys, .int .i64 yq, .int .i64 yv, .bool yd, .slice ad yy.length cp] 81))) := (Below.refl _ _).alloc (Nat.le_refl _) _
        have HB1 := Lib.hid (below_step HB.out HB.out.size HBA.out)
        have HD := Lib.hid (hd.below (HB0.out.trans (HB1.out.mono HB0.out.size)))
        clear hd
        refine (icopy_any ⟨yk, yc, ys, yq, yv, yd, yy⟩ ad cp _ hl HD.out).mono ?_
        rintro e w2 ⟨a2, g2, cp2, rfl, hg, hb⟩
        have HB2 : Hid (Below w.heap.size w w2) := below_step HB1.out HB1.out.size hb
        have HG : Hid (FreshDeps wr.heap.size w2 a2 g2 yy) := hg.mono HBA.out.size
        have HR2 : Hid (RowG w2 w.heap.size _ es) := HR.out.below (below_step HBA.out HBA.out.size hb)
        have hwr : w.heap.size ≤ wr.heap.size := HB.out.size
        have HAP : Hid (∀ d ∈ es, 0 < d.x.xs.length → 0 < yy.length → d.g ≠ g2) := fun d hd hp hq => by
          have h1 := ((HR.out.deps d hd).1 hp).2.2.1
          have h2 := (HG.out hq).2.1
          omega
        have HV : Hid (0 < yy.length → v.ownBlock ≠ some g2) := fun hq e => by
          have h1 := (HR.out.own.lt g2 e).2
          have h2 := (HG.out hq).2.1
          omega
        clear hb hg HB1 HBA HD HM HRW
        have HBC : Hid (Below w2.heap.size w2 (w2.alloc (.cells #[.int .i64 yk, .int .i64 yc, .int .i64 ys, .int .i64 yq, .int .i64 yv, .bool yd, .slice a2 yy.length cp2] 81))) := (Below.refl _ _).alloc (Nat.le_refl _) _
        have HRC := Lib.hid (HR2.out.below HBC.out)
        have hsz : w.heap.size ≤ w2.heap.size := HB2.out.size
        go_wp2_with (at_builtin; refine wpList_append_lies _ (by rfl) _ _ _ (by rfl) w.heap.size 81 i0 (wrV 0 0 0 0 0 false none 0 0) 7 72 Tryd.underlying37 HI0.out HX0.out.1 HX0.out.2.1 HX0.out.2.2 (by rfl) (by omega) v es.length (es.flatMap wrValsG) (by rfl) HRC.out.own ⟨w2.heap.size, 0, none⟩ 1 1 (wrValsG ⟨⟨yk, yc, ys, yq, yv, yd, yy⟩, a2, g2, cp2⟩) (by rfl) (by rfl) (oneG_cells w2 _ ⟨⟨yk, yc, ys, yq, yv, yd, yy⟩, a2, g2, cp2⟩) (by simpa using valsG_one [⟨⟨yk, yc, ys, yq, yv, yd, yy⟩, a2, g2, cp2⟩]) (by omega) (by unfold maxLen; omega) (by omega) (by simp; omega) _ rfl ?_; intro g3 cp3 w5 hown hgrow hg3 _; refine Hid.out ?_)
        refine Lib.hid ?_
        have HB5 : Hid (Below w.heap.size w w5) := (HB2.out.alloc hsz _).grown hgrow (by simp; omega) fun j hj => (HR2.out.own.lt j hj).1
        have HR5 : Hid (RowG w5 w.heap.size (.slice (some ⟨g3, 0, none⟩) (es.length + 1) cp3) (es ++ [⟨⟨yk, yc, ys, yq, yv, yd, yy⟩, a2, g2, cp2⟩])) :=
          HRC.out.more ((HG.out.below HBC.out).mono hwr) HV.out HAP.out hown hgrow hg3
        have HE5 : Hid ((es ++ [(⟨⟨yk, yc, ys, yq, yv, yd, yy⟩, a2, g2, cp2⟩ : EnG)]).map (·.x) = toldTo M (k + 1)) := by
          rw [HE'.out, List.map_append, HE.out]
          exact Lib.hid rfl
        clear hown hgrow HRC HBC
        go_wp2
        exact ⟨⟨k + 1, _, _, by omega, by go_num, rfl, HE5, HR5, HB5⟩, by simp [intOf]; omega⟩
    · have hkk : k = 6 := by omega
      subst hkk
      have HF : Hid (es.map (·.x) = toldM M) := by
        rw [← toldTo_six]
        exact HE
      go_wp2
      go_ret
      exact ⟨_, es, rfl, HF.out, HR.out, HB.out⟩

end Go.Proofs.YtidpcjcnhklmpacDoor

/- Contracts of the specification's l02Join, MapJoin, MapPut. -/
namespace Go.Proofs.YtidpcjcnhklmpacDoor
open Go.ChangeShapes Go.WideShapes Go.ChangeAt Go.RowKit Go.Joins
attribute [local go_sem ↓] Go.wp_at_zero Go.wp_at_succ

theorem join_few : ∀ (vs us : List Wr), Few us → Few vs → Few (joinW us vs)
  | [], us, h, _ => h
  | x :: r, us, h, h' => by
    rw [few_iff] at h'
    exact join_few r (putW us x) (put_few h (h' x (by simp))) (few_iff.2 fun z hz => h' z (by simp [hz]))

theorem few_take {ws : List Wr} (h : Few ws) (k : Nat) : Few (ws.take k) := by
  rw [few_iff] at *
  exact fun x hx => h x (List.mem_of_mem_take hx)

end Go.Proofs.YtidpcjcnhklmpacDoor

/- Contracts of impl.MapJoin and impl.MapPut. -/
namespace Go.Proofs.YtidpcjcnhklmpacDoor
open Go.ChangeShapes Go.WideShapes Go.ChangeAt Go.RowKit Go.Joins
attribute [local go_sem ↓] Go.wp_at_zero Go.wp_at_succ

def joinB (us vs : List Wr) : List Wr := if mapOkB us = true ∧ mapOkB vs = true then joinW us vs else []

set_option maxRecDepth 100000 in
theorem joinB_not {us vs : List Wr} (h : mapOkB us = false ∨ mapOkB vs = false) : joinB us vs = [] := by
  unfold joinB
  refine if_neg fun h' => ?_
  rcases h with h | h
  · rw [h'.1] at h; cases h
  · rw [h'.2] at h; cases h

set_option maxRecDepth 100000 in
theorem mapOk_keys {ws : List Wr} (h : mapOkB ws = true) : ∀ x ∈ ws, 0 ≤ x.k ∧ x.k ≤ 5 := fun x hx => okW_key (((mapOk_iff ws).1 h).1 x hx)

set_option maxRecDepth 100000 in
theorem mapOk_keys' {ws : List Wr} (h : mapOkB ws = true) : ∀ i, i < ws.length → 0 ≤ (ws.getD i wz).k ∧ (ws.getD i wz).k ≤ 5 := fun i hi => mapOk_keys h _ (by simp [List.getD, hi])

set_option maxRecDepth 100000 in
theorem joinB_told {us vs : List Wr} (ha : mapOkB us = true) (hb : mapOkB vs = true) : toldM (vs.foldl regPut (us.foldl regPut (fun _ => none))) = joinB us vs := by
  unfold joinB
  rw [if_pos ⟨ha, hb⟩]
  exact told_join ((mapOk_iff us).1 ha).2 (mapOk_keys ha) (mapOk_keys hb)

set_option maxRecDepth 100000 in
theorem implMapOk_is (r : Bool) (a : Option Addr) (n cap : Nat) (ws : List Wr) (h : mapOkB ws = r) (w : World) (hn : ws.length = n) (hm : n ≤ 1048576) (hx : Few ws) (hh : IsWs w a ws) :
    Calls Tryd.prog 43 #[.slice a n cap] w fun e w' => e = .returned (.bool r) ∧ Below w.heap.size w w' := by
  subst h
  exact implMapOk_any a n cap ws w hn hm hx hh

set_option maxRecDepth 100000 in
set_option maxHeartbeats 4000000 in
theorem implMapJoin_any (a b : Option Addr) (n m cap cap' : Nat) (us vs : List Wr) (w : World) (hn : us.length = n) (hm : vs.length = m) (hn1 : n ≤ 1048576) (hm1 : m ≤ 1048576) (hx : Few us) (hy : Few vs) (hi : IsWs w a us) (hj : IsWs w b vs) :
    Calls Tryd.prog 23 #[.slice a n cap, .slice b m cap'] w fun e w' => ∃ v es, e = .returned v ∧ es.map (·.x) = joinB us vs ∧ RowG w' w.heap.size v es ∧ Below w.heap.size w w' := by
  have HI : Hid (IsWs w a us) := hi
  have HJ : Hid (IsWs w b vs) := hj
  have HN : Hid (us.length = n) := hn
  have HM : Hid (vs.length = m) := hm
  have HX : Hid (Few us) := hx
  have HY : Hid (Few vs) := hy
  clear hi hj hn hm hx hy
  cases ha : mapOkB us
  · have HE : Hid (joinB us vs = []) := joinB_not (.inl ha)
    go_enter Tryd.func23, Tryd.ntmps23
    go_wp2_with fail
    refine (implMapOk_is false a n cap us ha _ HN.out hn1 HX.out HI.out).mono ?_
    rintro e w1 ⟨rfl, hb⟩
    have HB1 := Lib.hid hb
    clear hb
    go_wp2
    go_ret
    exact ⟨_, [], rfl, HE.out.symm, rowG_nil _ _, HB1.out⟩
  cases hb : mapOkB vs
  · have HE : Hid (joinB us vs = []) := joinB_not (.inr hb)
    go_enter Tryd.func23, Tryd.ntmps23
    go_wp2_with fail
    refine (implMapOk_is true a n cap us ha _ HN.out hn1 HX.out HI.out).mono ?_
    rintro e w1 ⟨rfl, hb1⟩
    have HB1 := Lib.hid hb1
    clear hb1
    go_wp2_with fail
    refine (implMapOk_is false b m cap' vs hb _ HM.out hm1 HY.out (HJ.out.below HB1.out)).mono ?_
    rintro e w2 ⟨rfl, hb2⟩
    have HB2 : Hid (Below w.heap.size w w2) := below_step HB1.out HB1.out.size hb2
    clear hb2
    go_wp2
    go_ret
    exact ⟨_, [], rfl, HE.out.symm, rowG_nil _ _, HB2.out⟩
  have HE : Hid (toldM (vs.foldl regPut (us.foldl regPut (fun _ => none))) = joinB us vs) := joinB_told ha hb
  have HKA : Hid (∀ i, i < us.length → 0 ≤ (us.getD i wz).k ∧ (us.getD i wz).k ≤ 5) := mapOk_keys' ha
  have HKB : Hid (∀ i, i < vs.length → 0 ≤ (vs.getD i wz).k ∧ (vs.getD i wz).k ≤ 5) := mapOk_keys' hb
  have hmm := @run_makeMap Tryd.prog
  go_enter Tryd.func23, Tryd.ntmps23
  go_wp2_with fail
  refine (implMapOk_is true a n cap us ha _ HN.out hn1 HX.out HI.out).mono ?_
  rintro e w1 ⟨rfl, hb1⟩
  have HB1 := Lib.hid hb1
  clear hb1
  go_wp2_with fail
  refine (implMapOk_is true b m cap' vs hb _ HM.out hm1 HY.out (HJ.out.below HB1.out)).mono ?_
  rintro e w2 ⟨rfl, hb2⟩
  have HB2 : Hid (Below w.heap.size w w2) := below_step HB1.out HB1.out.size hb2
  clear hb2 HB1
  go_wp2_with fail
  clear hmm
  have HB3 : Hid (Below w.heap.size w (w2.alloc (.map #[] 0))) := HB2.out.alloc HB2.out.size _
  refine (putAll_any w w2.heap.size 0 (fun _ => none) a n cap us _ HN.out hn1 (by omega) HX.out HKA.out HI.out HB3.out HB2.out.size ⟨_, regs_made w2, fun k => ⟨fun _ => rfl, fun x h => by cases h⟩⟩).mono ?_
  rintro e w4 ⟨rfl, hr4, hb4⟩
  have HR4 := Lib.hid hr4
  have HB4 := Lib.hid hb4
  clear hr4 hb4
  go_wp2_with fail
  refine (putAll_any w w2.heap.size (0 + n) _ b m cap' vs _ HM.out hm1 (by omega) HY.out HKB.out HJ.out HB4.out HB2.out.size HR4.out).mono ?_
  rintro e w5 ⟨rfl, hr5, hb5⟩
  have HR5 := Lib.hid hr5
  have HB5 := Lib.hid hb5
  clear hr5 hb5
  go_wp2_with fail
  refine (told_any w w2.heap.size _ _ _ HB5.out HR5.out).mono ?_
  rintro e w6 ⟨v, es, rfl, hes, hrow, hb6⟩
  have HES : Hid (es.map (·.x) = joinB us vs) := hes.trans HE.out
  have HRW := Lib.hid (hrow.mono HB5.out.size)
  have HB6 : Hid (Below w.heap.size w w6) := below_step HB5.out HB5.out.size hb6
  clear hes hrow hb6
  go_wp2
  go_ret
  exact ⟨v, es, rfl, HES.out, HRW.out, HB6.out⟩

set_option maxRecDepth 100000 in
theorem mapOk_one (x : Wr) : mapOkB [x] = okW x := by
  simp [mapOkB, wrGood, List.range, List.range.loop]

set_option maxRecDepth 100000 in
theorem joinB_one (ws : List Wr) (x : Wr) : joinB ws [x] = if mapOkB ws = true ∧ okW x = true then putW ws x else [] := by
  unfold joinB
  rw [mapOk_one]
  rfl

end Go.Proofs.YtidpcjcnhklmpacDoor

/- Contracts of the specification's MapJoin and MapPut. -/
namespace Go.Proofs.YtidpcjcnhklmpacDoor
open Go.ChangeShapes Go.WideShapes Go.ChangeAt Go.RowKit Go.Joins
attribute [local go_sem ↓] Go.wp_at_zero Go.wp_at_succ

theorem specMapOk_is (r : Bool) (a : Option Addr) (n cap : Nat) (ws : List Wr) (h : mapOkB ws = r) (w : World) (hn : ws.length = n) (hm : n ≤ 1048576) (hx : Few ws) (hh : IsWs w a ws) :
    Calls Tryd.prog 18 #[.slice a n cap] w fun e w' => e = .returned (.bool r) ∧ Below w.heap.size w w' := by
  subst h
  exact specMapOk_gen a n cap ws w hn hm hx hh

/-- What the specification answers: a list of writes of its own. -/
def AnsS (w w' : World) (e : Ending) (ws : List Wr) : Prop := ∃ g cp es L, e = .returned (.slice (some ⟨g, 0, none⟩) L cp) ∧ es.length = L ∧ es.map (·.x) = ws ∧ RowEs w' w.heap.size g cp es ∧ Below w.heap.size w w'

theorem specWriteOk_is (x : Wr) (r : Bool) (h : okW x = r) (a : Option Addr) (cap : Nat) (w : World) (hn : x.xs.length ≤ 1048576) (hh : IsDeps w a x.xs) :
    Calls Tryd.prog 53 #[wrOf x a cap] w fun e w' => e = .returned (.bool r) ∧ Below w.heap.size w w' := by
  subst h
  exact specWriteOk_gen _ _ _ _ _ _ a x.xs _ cap w rfl hn hh

end Go.Proofs.YtidpcjcnhklmpacDoor

/- How much a join is. -/
namespace Go.Proofs.YtidpcjcnhklmpacDoor
open Go.ChangeShapes Go.WideShapes Go.ChangeAt Go.RowKit Go.Joins

theorem joinB_ok (us vs : List Wr) : ∀ x ∈ joinB us vs, okW x = true := by
  intro x hx
  unfold joinB at hx
  split at hx
  · rename_i h
    obtain ⟨_, h2, _⟩ := join_spec vs us ((mapOk_iff us).1 h.1).2
    rcases h2 x hx with h3 | h3
    · exact ((mapOk_iff us).1 h.1).1 x h3
    · exact ((mapOk_iff vs).1 h.2).1 x h3
  · simp at hx

theorem joinB_rise (us vs : List Wr) : Rise (joinB us vs) := by
  unfold joinB
  split
  · rename_i h
    exact (join_spec vs us ((mapOk_iff us).1 h.1).2).1
  · exact List.Pairwise.nil

theorem joinB_mapOk (us vs : List Wr) : mapOkB (joinB us vs) = true := (mapOk_iff _).2 ⟨joinB_ok us vs, joinB_rise us vs⟩

theorem mapOk_len {ws : List Wr} (h : mapOkB ws = true) : ws.length ≤ 6 := by
  have e := told_find ((mapOk_iff ws).1 h).2 (mapOk_keys h)
  rw [← e, ← toldTo_six]
  exact toldTo_len _ 6

theorem mapOk_bulk {ws : List Wr} (h : mapOkB ws = true) : bulk ws ≤ 36 := by
  have h1 := bulk_le (m := 6) fun x hx => okW_len (((mapOk_iff ws).1 h).1 x hx)
  have h2 := mapOk_len h
  omega

theorem joinB_bulk (us vs : List Wr) : bulk (joinB us vs) ≤ 36 := mapOk_bulk (joinB_mapOk us vs)

theorem joinB_len (us vs : List Wr) : (joinB us vs).length ≤ 6 := mapOk_len (joinB_mapOk us vs)

theorem joinB_few (us vs : List Wr) : Few (joinB us vs) := few_of_bulk (by have := joinB_bulk us vs; omega)

/-- The specification's answer, as a list. -/
theorem RowEs.isWs {w : World} {base g cap : Nat} {es : List En} (h : RowEs w base g cap es) {ws : List Wr} (hw : es.map (·.x) = ws) (hx : Few ws) : IsWs w (some ⟨g, 0, none⟩) ws := (h.holds hw).isWs hx

end Go.Proofs.YtidpcjcnhklmpacDoor

/- What a map has of some keys; what is repaired: plain facts. -/
namespace Go.Proofs.YtidpcjcnhklmpacDoor
open Go.ChangeShapes Go.WideShapes Go.ChangeAt Go.RowKit Go.Joins

/-- What the map has of these keys, in their order. -/
def pickK (vs : List Wr) (ks : List Int) : List Wr := ks.filterMap (findW vs)

set_option maxRecDepth 100000 in
theorem take_more (ks : List Int) {k : Nat} (h : k < ks.length) : ks.take (k + 1) = ks.take k ++ [ks.getD k 0] := by
  rw [List.take_add_one, List.getElem?_eq_getElem h]
  simp [List.getD, h]

set_option maxRecDepth 100000 in
theorem pickK_yes {vs : List Wr} {ks : List Int} {k : Nat} {x : Wr} (h : k < ks.length) (hf : findW vs (ks.getD k 0) = some x) : pickK vs (ks.take (k + 1)) = pickK vs (ks.take k) ++ [x] := by
  unfold pickK
  rw [take_more ks h, List.filterMap_append]
  simp only [List.filterMap_cons, List.filterMap_nil, hf]

set_option maxRecDepth 100000 in
theorem pickK_no {vs : List Wr} {ks : List Int} {k : Nat} (h : k < ks.length) (hf : findW vs (ks.getD k 0) = none) : pickK vs (ks.take (k + 1)) = pickK vs (ks.take k) := by
  unfold pickK
  rw [take_more ks h, List.filterMap_append]
  simp only [List.filterMap_cons, List.filterMap_nil, hf, List.append_nil]

set_option maxRecDepth 100000 in
theorem pickK_mem {vs : List Wr} {ks : List Int} {x : Wr} (h : x ∈ pickK vs ks) : x ∈ vs ∧ x.k ∈ ks := by
  obtain ⟨k, hk, hf⟩ := List.mem_filterMap.1 h
  exact ⟨findW_mem hf, by rw [findW_key hf]; exact hk⟩

set_option maxRecDepth 100000 in
theorem pickK_few {vs : List Wr} (h : Few vs) (ks : List Int) : Few (pickK vs ks) := by
  rw [few_iff] at *
  exact fun x hx => h x (pickK_mem hx).1

set_option maxRecDepth 100000 in
theorem pickK_len (vs : List Wr) (ks : List Int) (k : Nat) : (pickK vs (ks.take k)).length ≤ k := by
  unfold pickK
  have h1 := List.length_filterMap_le (findW vs) (ks.take k)
  have h2 : (ks.take k).length ≤ k := by simp; omega
  omega

set_option maxRecDepth 100000 in
theorem pickK_rise (vs : List Wr) : ∀ {ks : List Int}, ks.Pairwise (· < ·) → Rise (pickK vs ks)
  | [], _ => List.Pairwise.nil
  | k :: r, h => by
    obtain ⟨h1, h2⟩ := List.pairwise_cons.1 h
    have ih := pickK_rise vs h2
    unfold pickK at ih ⊢
    rw [List.filterMap_cons]
    cases hf : findW vs k with
    | none => exact ih
    | some x =>
      refine List.pairwise_cons.2 ⟨fun y hy => ?_, ih⟩
      have h3 := (pickK_mem (vs := vs) (ks := r) hy).2
      rw [findW_key hf]
      exact h1 _ h3

set_option maxRecDepth 100000 in
theorem pickK_ok {vs : List Wr} {ks : List Int} (hv : mapOkB vs = true) (hk : ks.Pairwise (· < ·)) : mapOkB (pickK vs ks) = true :=
  (mapOk_iff _).2 ⟨fun _ hx => ((mapOk_iff vs).1 hv).1 _ (pickK_mem hx).1, pickK_rise vs hk⟩

set_option maxRecDepth 100000 in
theorem join_snoc (us l : List Wr) (x : Wr) : joinW us (l ++ [x]) = putW (joinW us l) x := by
  unfold joinW
  rw [List.foldl_append]
  rfl

/-- The keys that two maps are told to differ in. -/
def repKeys (us vs : List Wr) : List Int := diffB (treeB us) (treeB vs)

def repB (us vs : List Wr) : List Wr := if mapOkB us = true ∧ mapOkB vs = true then joinW us (pickK vs (repKeys us vs)) else []

set_option maxRecDepth 100000 in
theorem repKeys_len (us vs : List Wr) : (repKeys us vs).length ≤ 8 := diffB_len _ _

set_option maxRecDepth 100000 in
theorem repKeys_rise (us vs : List Wr) : (repKeys us vs).Pairwise (· < ·) := diffB_rise _ _

set_option maxRecDepth 100000 in
theorem repB_not {us vs : List Wr} (h : mapOkB us = false ∨ mapOkB vs = false) : repB us vs = [] := by
  unfold repB
  rw [if_neg]
  rintro ⟨h1, h2⟩
  rcases h with h | h
  · rw [h] at h1
    cases h1
  · rw [h] at h2
    cases h2

set_option maxRecDepth 100000 in
theorem repKeys_not {us vs : List Wr} (h : mapOkB us = false ∨ mapOkB vs = false) : repKeys us vs = [] := by
  unfold repKeys diffB
  rw [if_neg]
  rintro ⟨h1, h2⟩
  unfold treeB at h1 h2
  rcases h with h | h
  · rw [h] at h1
    cases h1
  · rw [h] at h2
    cases h2

set_option maxRecDepth 100000 in
theorem repB_ok {us vs : List Wr} (h : mapOkB us = true) (h' : mapOkB vs = true) : repB us vs = joinW us (pickK vs (repKeys us vs)) := by
  unfold repB
  rw [if_pos ⟨h, h'⟩]

set_option maxRecDepth 100000 in
theorem repB_join {us vs : List Wr} (h : mapOkB us = true) (h' : mapOkB vs = true) : repB us vs = joinB us (pickK vs (repKeys us vs)) := by
  rw [repB_ok h h']
  unfold joinB
  rw [if_pos ⟨h, pickK_ok h' (repKeys_rise us vs)⟩]

set_option maxRecDepth 100000 in
theorem repB_mapOk (us vs : List Wr) : mapOkB (repB us vs) = true := by
  by_cases h : mapOkB us = true ∧ mapOkB vs = true
  · rw [repB_join h.1 h.2]
    exact joinB_mapOk _ _
  · unfold repB
    rw [if_neg h]
    rfl

set_option maxRecDepth 100000 in
theorem repKeys_ok {us vs : List Wr} (h : mapOkB us = true) (h' : mapOkB vs = true) : repKeys us vs = diffL (treeW us) (treeW vs) := by
  unfold repKeys treeB
  rw [if_pos h, if_pos h']
  unfold diffB
  rw [if_pos ⟨treeL_len _, treeL_len _⟩]

end Go.Proofs.YtidpcjcnhklmpacDoor

/- The contract of impl.writesOf. -/
namespace Go.Proofs.YtidpcjcnhklmpacDoor
open Go.ChangeShapes Go.WideShapes Go.ChangeAt Go.RowKit Go.Joins
attribute [local go_sem ↓] Go.wp_at_zero Go.wp_at_succ

set_option maxRecDepth 100000 in
set_option maxHeartbeats 8000000 in
theorem writesOf_any (a ak : Option Addr) (n m cap capk : Nat) (vs : List Wr) (ks : List Int) (w : World) (hn : vs.length = n) (hm : ks.length = m) (hn1 : n ≤ 1048576) (hm1 : m ≤ 8) (hx : Few vs) (hh : IsWs w a vs) (hk : IsInts w ak ks) :
    Calls Tryd.prog 46 #[.slice a n cap, .slice ak m capk] w fun e w' => ∃ v es, e = .returned v ∧ es.map (·.x) = pickK vs ks ∧ RowG w' w.heap.size v es ∧ Below w.heap.size w w' := by
  have HH := Lib.hid hh
  have HK := Lib.hid hk
  have HN := Lib.hid hn
  have HM := Lib.hid hm
  have HX := Lib.hid hx
  clear hh hk hn hm hx
  obtain ⟨i0, hi0, hx0⟩ := Option.map_eq_some_iff.1 infoWr
  simp only [Prod.mk.injEq] at hx0
  have HI0 := Lib.hid hi0
  have HX0 := Lib.hid hx0
  clear hi0 hx0
  go_enter Tryd.func46, Tryd.ntmps46
  go_wp2
  go_loopw [5, 12] (fun t i wr => ∃ (k : Nat) (v : Value) (es : List EnG), k ≤ m ∧ i = .int .i64 k ∧ v = t ∧ Hid (es.map (·.x) = pickK vs (ks.take k)) ∧ Hid (RowG wr w.heap.size v es) ∧ Hid (Below w.heap.size w wr)) (fun _ i _ => m - (intOf i).toNat)
  case atStart => exact ⟨0, _, [], Nat.zero_le _, rfl, rfl, rfl, rowG_nil _ _, Below.refl _ _⟩
  case round =>
    obtain ⟨k, v, es, hk, rfl, rfl, HE, HR, HB⟩ := hrel
    have hln : es.length ≤ 8 := by
      have h1 := pickK_len vs ks k
      rw [← HE.out, List.length_map] at h1
      omega
    by_cases hk' : k < m
    · have i1 : (0 : Int) ≤ (k : Int) := by omega
      have i2 : (k : Int) < (m : Int) := by omega
      have hkl : k < ks.length := by rw [HM.out]; exact hk'
      obtain ⟨b, rfl, hz, e0⟩ := HK.out.at HB.out hkl
      have HPY : Hid (∀ x, findW vs (ks.getD k 0) = some x → pickK vs (ks.take (k + 1)) = pickK vs (ks.take k) ++ [x]) := fun x h => pickK_yes hkl h
      have HPN : Hid (findW vs (ks.getD k 0) = none → pickK vs (ks.take (k + 1)) = pickK vs (ks.take k)) := fun h => pickK_no hkl h
      generalize ks.getD k 0 = key at *
      go_wp2_with fail
      refine (implMapAt_any a n cap key vs _ HN.out hn1 HX.out (HH.out.below HB.out)).mono ?_
      rintro e w2 ⟨u, rfl, hu, hb⟩
      have HB2 := Lib.hid (below_step HB.out HB.out.size hb)
      have HR2 := Lib.hid (HR.out.below hb)
      have hwr : w.heap.size ≤ wr.heap.size := HB.out.size
      have hw2 : wr.heap.size ≤ w2.heap.size := hb.size
      clear hb
      rcases hu with ⟨i, a2, g2, cp2, h1, rfl, hg⟩ | ⟨h1, rfl⟩
      · have HE' := Lib.hid (HPY.out _ (find_first h1))
        have HG : Hid (FreshDeps wr.heap.size w2 a2 g2 (vs.getD i wz).xs) := hg
        clear h1 hg HPY HPN
        generalize vs.getD i wz = y at *
        obtain ⟨yk, yc, ys, yq, yv, yd, yy⟩ := y
        simp only at HG
        have HAP : Hid (∀ d ∈ es, 0 < d.x.xs.length → 0 < yy.length → d.g ≠ g2) := fun d hd hp hq => by
          have h1 := ((HR.out.deps d hd).1 hp).2.2.1
          have h2 := (HG.out hq).2.1
          omega
        have HV : Hid (0 < yy.length → v.ownBlock ≠ some g2) := fun hq e => by
          have h1 := (HR.out.own.lt g2 e).2
          have h2 := (HG.out hq).2.1
          omega
        clear HR HB
        have HBA : Hid (Below w2.heap.size w2 (w2.alloc (.cells #[.int .i64 yk, .int .i64 yc, .int .i64 ys, .int .i64 yq, .int .i64 yv, .bool yd, .slice a2 yy.length cp2] 81))) := (Below.refl _ _).alloc (Nat.le_refl _) _
        have HB3 := Lib.hid (below_step HB2.out HB2.out.size HBA.out)
        have HR3 := Lib.hid (HR2.out.below HBA.out)
        have HG3 := Lib.hid (HG.out.below HBA.out)
        have hs3 : w2.heap.size + 1 = (w2.alloc (.cells #[.int .i64 yk, .int .i64 yc, .int .i64 ys, .int .i64 yq, .int .i64 yv, .bool yd, .slice a2 yy.length cp2] 81)).heap.size := by simp
        have HOC := Lib.hid (oneG_cells (w2.alloc (.cells #[.int .i64 yk, .int .i64 yc, .int .i64 ys, .int .i64 yq, .int .i64 yv, .bool yd, .slice a2 yy.length cp2] 81)) 81 ⟨⟨yk, yc, ys, yq, yv, yd, yy⟩, a2, g2, cp2⟩)
        have HBC : Hid (Below (w2.heap.size + 1) (w2.alloc (.cells #[.int .i64 yk, .int .i64 yc, .int .i64 ys, .int .i64 yq, .int .i64 yv, .bool yd, .slice a2 yy.length cp2] 81)) ((w2.alloc (.cells #[.int .i64 yk, .int .i64 yc, .int .i64 ys, .int .i64 yq, .int .i64 yv, .bool yd, .slice a2 yy.length cp2] 81)).alloc (.cells #[.int .i64 yk, .int .i64 yc, .int .i64 ys, .int .i64 yq, .int .i64 yv, .bool yd, .slice a2 yy.length cp2] 81))) := (Below.refl _ _).alloc (by simp) _
        have HRC := Lib.hid (HR3.out.below (hs3 ▸ HBC.out))
        have HGC := Lib.hid (HG3.out.below (hs3 ▸ HBC.out))
        have HBD := Lib.hid (below_step HB3.out HB3.out.size (hs3 ▸ HBC.out))
        have hsz : w.heap.size ≤ w2.heap.size := HB2.out.size
        clear hs3 HBC HR3 HG3 HB3 HBA
        go_wp2_with (at_builtin; refine wpList_append_lies _ (by rfl) _ _ _ (by rfl) w.heap.size 81 i0 (wrV 0 0 0 0 0 false none 0 0) 7 72 Tryd.underlying37 HI0.out HX0.out.1 HX0.out.2.1 HX0.out.2.2 (by rfl) (by omega) v es.length (es.flatMap wrValsG) (by rfl) HRC.out.own ⟨w2.heap.size + 1, 0, none⟩ 1 1 (wrValsG ⟨⟨yk, yc, ys, yq, yv, yd, yy⟩, a2, g2, cp2⟩) (by rfl) (by rfl) (by simpa using HOC.out) (by simpa using valsG_one [⟨⟨yk, yc, ys, yq, yv, yd, yy⟩, a2, g2, cp2⟩]) (by omega) (by unfold maxLen; omega) (by omega) (by simp; omega) _ rfl ?_; intro g3 cp3 w5 hown hgrow hg3 _; refine Hid.out ?_)
        refine Lib.hid ?_
        have HB5 : Hid (Below w.heap.size w w5) := HBD.out.grown hgrow HBD.out.size fun j hj => (HR2.out.own.lt j hj).1
        have HR5 : Hid (RowG w5 w.heap.size (.slice (some ⟨g3, 0, none⟩) (es.length + 1) cp3) (es ++ [⟨⟨yk, yc, ys, yq, yv, yd, yy⟩, a2, g2, cp2⟩])) :=
          HRC.out.more (HGC.out.mono hwr) HV.out HAP.out hown hgrow hg3
        have HE5 : Hid ((es ++ [(⟨⟨yk, yc, ys, yq, yv, yd, yy⟩, a2, g2, cp2⟩ : EnG)]).map (·.x) = pickK vs (ks.take (k + 1))) := by
          rw [HE'.out, List.map_append, HE.out]
          exact Lib.hid rfl
        clear hown hgrow HRC
        go_wp2
        exact ⟨⟨k + 1, _, _, by omega, by go_num, rfl, HE5, HR5, HB5⟩, by simp [intOf]; omega⟩
      · have HE' : Hid (es.map (·.x) = pickK vs (ks.take (k + 1))) := HE.out.trans (HPN.out (find_none h1)).symm
        clear h1 HPY HPN
        have HBA : Hid (Below w2.heap.size w2 (w2.alloc (.cells #[.int .i64 0, .int .i64 0, .int .i64 0, .int .i64 0, .int .i64 0, .bool false, .slice none 0 0] 81))) := (Below.refl _ _).alloc (Nat.le_refl _) _
        have HB3 := Lib.hid (below_step HB2.out HB2.out.size HBA.out)
        have HR3 := Lib.hid (HR2.out.below HBA.out)
        go_wp2
        exact ⟨⟨k + 1, _, es, by omega, by go_num, rfl, HE', HR3, HB3⟩, by simp [intOf]; omega⟩
    · have hkk : k = m := by omega
      subst hkk
      have HF : Hid (es.map (·.x) = pickK vs ks) := by
        have h := HE.out
        rw [List.take_of_length_le (by rw [HM.out]; exact Nat.le_refl _)] at h
        exact h
      go_wp2
      go_ret
      exact ⟨_, es, rfl, HF.out, HR.out, HB.out⟩

end Go.Proofs.YtidpcjcnhklmpacDoor

/- Arrays of fixed size of the program: loads, the comparison of two as a whole, and where two trees are apart: contracts of impl.apartUpFrom and impl.leavesApart. -/
namespace Go.Proofs.YtidpcjcnhklmpacDoor
open Go.ChangeShapes Go.WideShapes Go.ChangeAt Go.RowKit Go.Joins
attribute [local go_sem ↓] Go.wp_at_zero Go.wp_at_succ

/-- The cells of an array of fifteen numbers. -/
def IsArr (cs : Array Value) (zs : List Int) : Prop := cs = (zs.map intV).toArray ∧ zs.length = 15

set_option maxRecDepth 100000 in
theorem IsArr.get {cs : Array Value} {zs : List Int} (h : IsArr cs zs) {i : Nat} (hi : i < 15) : cs[i]? = some (.int .i64 (zs.getD i 0)) := by
  obtain ⟨rfl, hl⟩ := h
  have hi' : i < zs.length := by omega
  simp [intV, List.getD, hi']

set_option maxRecDepth 100000 in
theorem IsArr.size {cs : Array Value} {zs : List Int} (h : IsArr cs zs) : cs.size = 15 := by
  obtain ⟨rfl, hl⟩ := h
  simp [hl]

set_option maxRecDepth 100000 in
theorem infoTree : (Tryd.prog.info? 74).map (·.size) = some 15 := by kernel_rfl

set_option maxRecDepth 100000 in
theorem under_tree : Tryd.prog.underlying 74 = some (.array 15 3) := by kernel_rfl

def sameAt (xs ys : List Int) (i : Nat) : Bool := decide (xs.getD i 0 = ys.getD i 0)

set_option maxRecDepth 100000 in
theorem eq_from {P : Program} (xs ys : List Int) (F : Nat → Option Bool × PUnit → Sem (ForInStep (Option Bool × PUnit))) (hF : ∀ i, i < 15 → ∀ s w, (F i s).run P w = .ok (if sameAt xs ys i = true then .yield (none, ()) else .done (some false, ())) w) (w : World) :
    ∀ (n k : Nat), k + n = 15 → (forIn (List.range' k n) ((none, ()) : Option Bool × PUnit) F).run P w = .ok (if (List.range' k n).all (sameAt xs ys) = true then (none, ()) else (some false, ())) w
  | 0, k, h => rfl
  | n + 1, k, h => by
    rw [List.range'_succ, List.forIn_cons, Sem.run_bind, hF k (by omega), List.all_cons]
    cases he : sameAt xs ys k
    · rfl
    · simp only [if_true, Result.andThen_ok, Bool.true_and]
      exact eq_from xs ys F hF w n (k + 1) (by omega)

set_option maxRecDepth 100000 in
theorem same_from {xs ys : List Int} (hx : xs.length = 15) (hy : ys.length = 15) : (List.range' 0 15).all (sameAt xs ys) = decide (xs = ys) := by
  rw [Bool.eq_iff_iff, List.all_eq_true, decide_eq_true_iff]
  constructor
  · intro h
    apply List.ext_getElem (by omega)
    intro i h1 h2
    have := h i (by simp; omega)
    simpa [sameAt, List.getD, h1, h2] using this
  · rintro rfl
    exact fun _ _ => by simp [sameAt]

set_option maxRecDepth 100000 in
theorem eql_arr (d : Nat) (w : World) {cs ds : Array Value} {xs ys : List Int} (h : IsArr cs xs) (h' : IsArr ds ys) : (Op.equalIn (d + 2) 74 (.agg cs) (.agg ds)).run Tryd.prog w = .ok (decide (xs = ys)) w := by
  have hp : ∀ (es : Array Value) (zs : List Int), IsArr es zs → ∀ i, i < 15 → ∀ w, (part 3 es (i * 1)).run Tryd.prog w = .ok (.int .i64 (zs.getD i 0)) w := fun es zs he i hi w => by
    have e := he.get hi
    simp [part, Tryd.isAgg3, e, Sem.run_bind]
  have hq : ∀ x y w, (Op.equalIn (d + 1) 3 (.int .i64 x) (.int .i64 y)).run Tryd.prog w = .ok (x == y) w := fun x y w => run_equalIn_int w d 3 .i64 .i64 x y Tryd.underlying3
  rw [Op.equalIn]
  simp only [Sem.run_bind, run_underlying under_tree, Result.andThen_ok, Tryd.sizeOf3]
  rw [Std.Legacy.Range.forIn_eq_forIn_range']
  have he := eq_from (P := Tryd.prog) xs ys (fun i _ => do
      let a ← part 3 cs (i * 1)
      let b ← part 3 ds (i * 1)
      let r ← Op.equalIn (d + 1) 3 a b
      if (!r) = true then pure (ForInStep.done (some false, ())) else pure (ForInStep.yield (none, ()))) (fun i hi s w => by
    simp only [Sem.run_bind, hp cs xs h i hi, hp ds ys h' i hi, hq, Result.andThen_ok]
    have hz : (xs.getD i 0 == ys.getD i 0) = sameAt xs ys i := by rw [Bool.eq_iff_iff]; simp [sameAt]
    rw [hz]
    cases sameAt xs ys i <;> rfl) w 15 0 rfl
  rw [same_from h.2 h'.2] at he
  have hr : List.range' [:15].start [:15].size [:15].step = List.range' 0 15 := rfl
  rw [hr, he]
  by_cases hx : xs = ys
  · simp [hx]
  · simp [hx]

end Go.Proofs.YtidpcjcnhklmpacDoor

/- Where two trees are apart: contracts of impl.apartUpFrom and impl.leavesApart. -/
namespace Go.Proofs.YtidpcjcnhklmpacDoor
open Go.ChangeShapes Go.WideShapes Go.ChangeAt Go.RowKit Go.Joins
attribute [local go_sem ↓] Go.wp_at_zero Go.wp_at_succ

set_option maxRecDepth 100000 in
theorem arr_cell {W : World} {b : Nat} {cs : Array Value} {t : Nat} {zs : List Int} (hg : W.heap[b]? = some (.cells cs t (0, 0))) (h : IsArr cs zs) {i : Nat} (hi : i < 15) : W.cell? ⟨b, i, none⟩ = some (.int .i64 (zs.getD i 0)) := by
  rw [cell_of_row W b i cs t (0, 0) hg]
  exact h.get hi

set_option maxRecDepth 100000 in
theorem cells_row {P : Program} (w : World) (g : Nat) (t : TypeId) (c : Array Value) (fr : Nat × Nat) (hg : w.heap[g]? = some (.cells c t fr)) (n : Nat) (hn : c.size = n) :
    (loadCellsFrom ⟨g, 0, none⟩ 0 n #[]).run P w = .ok c w := by
  subst hn
  have := run_loadCells_list (P := P) w ⟨g, 0, none⟩ c.toList (fun j v hv => by
    have hadd : (⟨g, 0, none⟩ : Addr).add j = ⟨g, j, none⟩ := by unfold Addr.add; split <;> simp_all
    rw [hadd, cell_of_row _ _ j c t fr hg]
    simpa using hv)
  simpa [loadCells] using this

set_option maxRecDepth 100000 in
set_option maxHeartbeats 1000000 in
theorem apartUp_any (cs ds : Array Value) (xs ys : List Int) (i : Nat) (w : World) (hi : i < 15) (h : IsArr cs xs) (h' : IsArr ds ys) :
    Calls Tryd.prog 70 #[.agg cs, .agg ds, .int .i64 i] w fun e w' => e = .returned (.bool (ap (unlike xs ys) i)) ∧ Below w.heap.size w w' := by
  have H := Lib.hid h
  have H' := Lib.hid h'
  clear h h'
  have HG : Hid (((w.alloc (.cells cs 74)).alloc (.cells ds 74)).heap[w.heap.size]? = some (.cells cs 74 (0, 0))) := heap_alloc2_old w _ _
  have HG' : Hid (((w.alloc (.cells cs 74)).alloc (.cells ds 74)).heap[w.heap.size + 1]? = some (.cells ds 74 (0, 0))) := heap_alloc2_new w _ _
  have HB : Hid (Below w.heap.size w ((w.alloc (.cells cs 74)).alloc (.cells ds 74))) := ((Below.refl _ _).alloc (Nat.le_refl _) _).alloc (by simp) _
  go_enter Tryd.func70, Tryd.ntmps70
  go_wp2
  go_loopw [2] (fun t wr => ∃ j : Nat, j < 15 ∧ t = .int .i64 j ∧ Hid (ap (unlike xs ys) j = ap (unlike xs ys) i) ∧ Hid (wr.heap[w.heap.size]? = some (.cells cs 74 (0, 0))) ∧ Hid (wr.heap[w.heap.size + 1]? = some (.cells ds 74 (0, 0))) ∧ Hid (Below w.heap.size w wr)) (fun t _ => (intOf t).toNat)
  case atStart => exact ⟨i, hi, rfl, Lib.hid rfl, HG, HG', HB⟩
  case round =>
    clear HG HG' HB
    obtain ⟨j, hj, rfl, HA, HG, HG', HB⟩ := hrel
    have e0 := arr_cell HG.out H.out hj
    have f0 := arr_cell HG'.out H'.out hj
    have i1 : (0 : Int) ≤ (j : Int) := by omega
    have i2 : (j : Int) < 15 := by omega
    have hz : w.heap.size < wr.heap.size := (Array.getElem?_eq_some_iff.1 HG.out).1
    have hz' : w.heap.size + 1 < wr.heap.size := (Array.getElem?_eq_some_iff.1 HG'.out).1
    have HU : Hid (unlike xs ys j = decide (xs.getD j 0 ≠ ys.getD j 0)) := rfl
    generalize xs.getD j 0 = x at *
    generalize ys.getD j 0 = y at *
    go_wp2_with fail
    have ge0 := aft_cell hz e0
    have gf0 := aft_cell hz' f0
    have ne := aft_some wr
    refine wp_region_aft (by kernel_rfl) (by kernel_rfl) ?_
    repeat (first | go_big_quiet_step (fail))
    refine wpQuiet_nil ?_
    intro wq hq
    have HGq : Hid (wq.heap[w.heap.size]? = some (.cells cs 74 (0, 0))) := (hq.block _ hz).trans HG.out
    have HGq' : Hid (wq.heap[w.heap.size + 1]? = some (.cells ds 74 (0, 0))) := (hq.block _ hz').trans HG'.out
    have HBq : Hid (Below w.heap.size w wq) := below_step HB.out HB.out.size hq
    clear hq ge0 gf0 ne e0 f0 HG HG' HB
    by_cases hxy : x = y
    · have HR : Hid (ap (unlike xs ys) i = false) := by
        show _ = _
        rw [← HA.out]
        exact ap_not (by rw [HU.out]; simp [hxy])
      subst hxy
      go_wp2
      go_ret
      exact ⟨by rw [HR.out]; rfl, HBq.out⟩
    · have HP : Hid (unlike xs ys j = true) := by
        show _ = _
        rw [HU.out]
        simpa using hxy
      by_cases hj0 : j = 0
      · subst hj0
        have HR : Hid (ap (unlike xs ys) i = true) := by
          show _ = _
          rw [← HA.out, ap_zero]
          exact HP.out
        go_wp2
        go_ret
        exact ⟨by rw [HR.out]; rfl, HBq.out⟩
      · have HR : Hid (ap (unlike xs ys) ((j - 1) / 2) = ap (unlike xs ys) i) := by
          show _ = _
          rw [← HA.out, ap_step (i := j) _ (by omega), HP.out, Bool.true_and]
        have hne : ¬ (j : Int) = 0 := by omega
        have e1 : ((j : Int) - 1).tdiv 2 = (((j - 1) / 2 : Nat) : Int) := by
          rw [Int.tdiv_eq_ediv_of_nonneg (by omega)]
          omega
        have b1 : -9223372036854775808 ≤ (j : Int) - 1 := by omega
        have b2 : (j : Int) - 1 ≤ 9223372036854775807 := by omega
        go_wp2
        exact ⟨⟨(j - 1) / 2, by omega, by simp, HR, HGq, HGq', HBq⟩, by simp [intOf]; omega⟩

set_option maxRecDepth 100000 in
set_option maxHeartbeats 1000000 in
theorem leavesApart_any (cs ds : Array Value) (xs ys : List Int) (w : World) (h : IsArr cs xs) (h' : IsArr ds ys) :
    Calls Tryd.prog 44 #[.agg cs, .agg ds] w fun e w' => ∃ v, e = .returned v ∧ RowI w' w.heap.size v (diffL xs ys) ∧ Below w.heap.size w w' := by
  have H := Lib.hid h
  have H' := Lib.hid h'
  have HC : Hid (∀ W, ∀ i : Nat, i < 15 → Calls Tryd.prog 70 #[.agg cs, .agg ds, .int .i64 i] W fun e w' => e = .returned (.bool (ap (unlike xs ys) i)) ∧ Below W.heap.size W w') := fun W i hi => apartUp_any cs ds xs ys i W hi h h'
  clear h h'
  obtain ⟨i0, hi0, hx0⟩ := Option.map_eq_some_iff.1 infoInt
  simp only [Prod.mk.injEq] at hx0
  have HI0 := Lib.hid hi0
  have HX0 := Lib.hid hx0
  clear hi0 hx0
  have hg : ((w.alloc (.cells cs 74)).alloc (.cells ds 74)).heap[w.heap.size]? = some (.cells cs 74 (0, 0)) := heap_alloc2_old w _ _
  have hg' : ((w.alloc (.cells cs 74)).alloc (.cells ds 74)).heap[w.heap.size + 1]? = some (.cells ds 74 (0, 0)) := heap_alloc2_new w _ _
  have s0 : (Tryd.prog.info? 74).map (·.size) = some cs.size := by rw [infoTree, H.out.size]
  have s1 : (Tryd.prog.info? 74).map (·.size) = some ds.size := by rw [infoTree, H'.out.size]
  have HB : Hid (Below w.heap.size w ((w.alloc (.cells cs 74)).alloc (.cells ds 74))) := ((Below.refl _ _).alloc (Nat.le_refl _) _).alloc (by simp) _
  have heq : ∀ w, (Op.equalIn 10000 74 (.agg cs) (.agg ds)).run Tryd.prog w = .ok (decide (xs = ys)) w := fun w => eql_arr 9998 w H.out H'.out
  have H8 : Hid (leavesTo xs ys 8 = diffL xs ys) := rfl
  by_cases hxy : xs = ys
  · have HD : Hid (diffL xs ys = []) := by rw [hxy]; exact diffL_same ys
    rw [decide_eq_true hxy] at heq
    clear hxy
    go_enter Tryd.func44, Tryd.ntmps44
    go_wp2_with (first | refine wpList_load_row rfl 74 _ rfl w.heap.size rfl _ cs _ _ hg under_tree rfl s0 ?_ | refine wpList_load_row rfl 74 _ rfl (w.heap.size + 1) rfl _ ds _ _ hg' under_tree rfl s1 ?_)
    go_ret
    exact ⟨_, rfl, by rw [HD.out]; exact World.ownsRow_nil _ _ _ _, HB.out⟩
  rw [decide_eq_false hxy] at heq
  clear hxy
  go_enter Tryd.func44, Tryd.ntmps44
  go_wp2_with (first | refine wpList_load_row rfl 74 _ rfl w.heap.size rfl _ cs _ _ hg under_tree rfl s0 ?_ | refine wpList_load_row rfl 74 _ rfl (w.heap.size + 1) rfl _ ds _ _ hg' under_tree rfl s1 ?_)
  clear heq
  go_loopw [5, 10] (fun t i wr => ∃ (k : Nat) (v : Value), k ≤ 8 ∧ i = .int .i64 k ∧ v = t ∧ Hid (RowI wr (w.heap.size + 2) v (leavesTo xs ys k)) ∧ Hid (wr.heap[w.heap.size]? = some (.cells cs 74 (0, 0))) ∧ Hid (wr.heap[w.heap.size + 1]? = some (.cells ds 74 (0, 0))) ∧ Hid (Below w.heap.size w wr)) (fun _ i _ => 8 - (intOf i).toNat)
  case atStart => exact ⟨0, _, Nat.zero_le _, rfl, rfl, World.ownsRow_nil _ _ _ _, hg, hg', HB⟩
  case round =>
    clear hg hg' HB
    obtain ⟨k, v, hk, rfl, rfl, HR, HG, HG', HB⟩ := hrel
    by_cases hk' : k < 8
    · have i1 : (0 : Int) ≤ (k : Int) := by omega
      have i2 : (k : Int) < 8 := by omega
      have hg := HG.out
      have hg' := HG'.out
      have HK : Hid (∀ W, Calls Tryd.prog 70 #[.agg cs, .agg ds, .int .i64 (7 + (k : Int))] W fun e w' => e = .returned (.bool (ap (unlike xs ys) (7 + k))) ∧ Below W.heap.size W w') := fun W => by
        have := HC.out W (7 + k) (by omega)
        rwa [Int.natCast_add] at this
      have hlen := leavesTo_len xs ys k
      have hz : w.heap.size < wr.heap.size := (Array.getElem?_eq_some_iff.1 HG.out).1
      have hz' : w.heap.size + 1 < wr.heap.size := (Array.getElem?_eq_some_iff.1 HG'.out).1
      go_wp2_with (first | refine wpList_load_row rfl 74 _ rfl w.heap.size rfl _ cs _ _ hg under_tree rfl s0 ?_ | refine wpList_load_row rfl 74 _ rfl (w.heap.size + 1) rfl _ ds _ _ hg' under_tree rfl s1 ?_)
      refine (HK.out _).mono ?_
      rintro e w2 ⟨rfl, hb⟩
      have HG2 : Hid (w2.heap[w.heap.size]? = some (.cells cs 74 (0, 0))) := (hb.block _ hz).trans HG.out
      have HG2' : Hid (w2.heap[w.heap.size + 1]? = some (.cells ds 74 (0, 0))) := (hb.block _ hz').trans HG'.out
      have HB2 : Hid (Below w.heap.size w w2) := below_step HB.out HB.out.size hb
      have HR2 := Lib.hid (HR.out.below hb)
      have hz2 : w.heap.size < w2.heap.size := Nat.lt_of_lt_of_le hz hb.size
      have hz2' : w.heap.size + 1 < w2.heap.size := Nat.lt_of_lt_of_le hz' hb.size
      clear hb hg hg' HG HG' HB HR HK
      cases hap : ap (unlike xs ys) (7 + k)
      · have HE2 : Hid (RowI w2 (w.heap.size + 2) v (leavesTo xs ys (k + 1))) := by rw [leavesTo_no hap]; exact HR2
        clear hap
        go_wp2
        exact ⟨⟨k + 1, _, by omega, by go_num, rfl, HE2, HG2, HG2', HB2⟩, by simp [intOf]; omega⟩
      · have HE2 := Lib.hid (leavesTo_yes hap)
        clear hap
        generalize leavesTo xs ys k = zs at *
        have HBA : Hid (Below w2.heap.size w2 (w2.alloc (.cells #[.int .i64 (k : Int)] 3))) := (Below.refl _ _).alloc (Nat.le_refl _) _
        have HRC := Lib.hid (HR2.out.below HBA.out)
        have HCC := Lib.hid (oneI_cells w2 3 (k : Int))
        have HBD := Lib.hid (below_step HB2.out HB2.out.size HBA.out)
        go_wp2_with (at_builtin; refine wpList_append_lies _ (by rfl) _ _ _ (by rfl) (w.heap.size + 2) 3 i0 (.int .i64 0) 1 8 Tryd.underlying24 HI0.out HX0.out.1 HX0.out.2.1 HX0.out.2.2 (by rfl) (by omega) v zs.length (zs.map intV) (by rfl) HRC.out ⟨w2.heap.size, 0, none⟩ 1 1 [intV (k : Int)] (by rfl) (by rfl) (by simpa using HCC.out) (intV_one [(k : Int)]) (by omega) (by unfold maxLen; omega) (by omega) (by simp; omega) _ rfl ?_; intro g3 cp3 w5 hown hgrow hg3 _; refine Hid.out ?_)
        refine Lib.hid ?_
        have hown3 := World.ownsRow.lt HRC.out
        have HB5 : Hid (Below w.heap.size w w5) := HBD.out.grown hgrow HBD.out.size fun j hj => by have := (hown3 j hj).1; omega
        have HG5 : Hid (w5.heap[w.heap.size]? = some (.cells cs 74 (0, 0))) := (hgrow.block _ (by simp; omega) (fun e => by have := (hown3 _ e.symm).1; omega)).trans ((HBA.out.block _ hz2).trans HG2.out)
        have HG5' : Hid (w5.heap[w.heap.size + 1]? = some (.cells ds 74 (0, 0))) := (hgrow.block _ (by simp; omega) (fun e => by have := (hown3 _ e.symm).1; omega)).trans ((HBA.out.block _ hz2').trans HG2'.out)
        have HR5 : Hid (RowI w5 (w.heap.size + 2) (.slice (some ⟨g3, 0, none⟩) (zs.length + 1) cp3) (leavesTo xs ys (k + 1))) := by
          rw [HE2.out]
          unfold RowI
          rw [List.length_append, List.map_append]
          exact hown
        clear hown hgrow hown3
        go_wp2
        exact ⟨⟨k + 1, _, by omega, by go_num, rfl, HR5, HG5, HG5', HB5⟩, by simp [intOf]; omega⟩
    · have hkk : k = 8 := by omega
      subst hkk
      have HF : Hid (RowI wr w.heap.size v (diffL xs ys)) := HR.out.mono (by omega)
      go_wp2
      go_ret
      exact ⟨_, rfl, HF.out, HB.out⟩

end Go.Proofs.YtidpcjcnhklmpacDoor
