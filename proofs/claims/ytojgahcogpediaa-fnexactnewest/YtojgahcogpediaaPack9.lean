import Derived.Test.YtojgahcogpediaaPack8
import Derived.Test.YtojgahcogpediaaPack7
import Derived.Test.YtojgahcogpediaaPack3
import Derived.Test.YtojgahcogpediaaPack1
import Derived.Deep.Slices
import Derived.Deep.Strs
import Derived.Test.YtojgahcogpediaaPack2
/- An append inside a region that draws its order; what its operations may turn. -/
namespace Go.Proofs.Ytojgahcogpediaa
open Go.ChangeShapes Go.WideShapes Go.ChangeAt Go.RowKit Go.Joins

theorem add_block (g j : Nat) : ((⟨g, 0, none⟩ : Addr).add j) = ⟨g, j, none⟩ := by
  unfold Addr.add
  split
  · rename_i h
    rw [h]
  · simp

theorem got_append {P : Program} {K : Value → World → Prop} {o : Oper} {ρ : Operand → Value} {w : World} (s x : Operand) (t : TypeId)
    (ho : o.op = .call { callee := .builtin .append, args := #[s, x], argTypes := #[t, t] })
    (base : Nat) (e : TypeId) (i : TypeInfo) (z : Value) (size bytes : Nat) (ht : P.underlying t = some (.slice e)) (hi : P.info? e = some i) (hz : i.zero = some z)
    (hsize : i.size = size) (hby : i.bytes = bytes) (hzs : z.cells.size = size) (hsz : 0 < size)
    (v : Value) (n : Nat) (xs : List Value) (hs : ρ s = v) (hown : w.ownsRow base e size v n xs)
    (ad : Addr) (m c : Nat) (news : List Value) (hx : ρ x = .slice (some ad) m c) (hl : news.length = m * size) (hnews : ∀ j u, news[j]? = some u → w.cell? (ad.add j) = some u) (h1 : ∀ u ∈ news, u.oneCell' = true)
    (hm : 0 < m) (h63 : n + m ≤ maxLen) (hbytes : (n + m) * bytes ≤ 140737488355328) (hbase : base ≤ w.heap.size) (H : Nat) (hH : w.heap.size = H)
    (h : ∀ g cap w', w'.ownsRow base e size (.slice (some ⟨g, 0, none⟩) (n + m) cap) (n + m) (xs ++ news) → w.grownBy w' v.ownBlock → (v.ownBlock = some g ∨ g = H) → g < w'.heap.size → K (.slice (some ⟨g, 0, none⟩) (n + m) cap) w') : got P K ((execOp ρ o).run P w) := by
  obtain ⟨g, cap, w', hr, h2, h3, h4, h5⟩ := run_append_lies (P := P) w t o.type base e i z size bytes ht hi hz hsize hby hzs hsz v n xs hown ad m c news hl hnews h1 hm h63 hbytes hbase H hH
  unfold execOp
  simp only [ho, resolve, invoke, builtin, Sem.run_bind, Sem.run_pure, Result.andThen_ok, List.map_toArray, List.map_cons, List.map_nil, hs, hx, hr]
  exact h g cap w' h2 h3 h4 h5

/-- What an operation may turn: the append, which fills slot s, the block of its row; all others nothing that was there. -/
def AppS (s : Tmp) (ob : Option Nat) : ReachU := fun d w w' => if d = some s then w.grownBy w' ob else Below w.heap.size w w'

theorem appS_below {s : Tmp} {ob : Option Nat} {d : Option Tmp} {w w' : World} (hd : d ≠ some s) (h : AppS s ob d w w') : Below w.heap.size w w' := by
  unfold AppS at h
  rw [if_neg hd] at h
  exact h

theorem appS_refl {s : Tmp} {ob : Option Nat} {d : Option Tmp} (hd : d ≠ some s) (w : World) : AppS s ob d w w := by
  unfold AppS
  rw [if_neg hd]
  exact Below.refl _ _

theorem appS_alloc {s : Tmp} {ob : Option Nat} {d : Option Tmp} (hd : d ≠ some s) (w : World) (o : Obj) : AppS s ob d w (w.alloc o) := by
  unfold AppS
  rw [if_neg hd]
  exact (Below.refl _ _).alloc (Nat.le_refl _) _

theorem appS_grown {s : Tmp} {ob : Option Nat} {w w' : World} (h : w.grownBy w' ob) : AppS s ob (some s) w w' := by
  unfold AppS
  rw [if_pos rfl]
  exact h

theorem grown_of_below {w w' : World} (h : Below w.heap.size w w') (ob : Option Nat) : w.grownBy w' ob := ⟨h.os, h.tape, h.output, h.size, fun k hk _ => h.block k hk⟩

theorem appS_any {s : Tmp} {ob : Option Nat} {d : Option Tmp} {w w' : World} (h : AppS s ob d w w') : w.grownBy w' ob := by
  by_cases hd : d = some s
  · unfold AppS at h
    rw [if_pos hd] at h
    exact h
  · exact grown_of_below (appS_below hd h) ob

theorem grown_trans {w w' w2 : World} {ob : Option Nat} (h : w.grownBy w' ob) (h' : w'.grownBy w2 ob) : w.grownBy w2 ob :=
  ⟨h'.os.trans h.os, h'.tape.trans h.tape, h'.output.trans h.output, Nat.le_trans h.size h'.size, fun k hk hn => (h'.block k (Nat.lt_of_lt_of_le hk h.size) hn).trans (h.block k hk hn)⟩

theorem grown_set (w : World) (b o : Nat) (v : Value) : w.grownBy (w.setCell ⟨b, o, none⟩ v) (some b) := by
  refine ⟨rfl, rfl, rfl, by simp, fun k hk hne => ?_⟩
  have : b ≠ k := fun e => hne (by rw [e])
  simp [World.setCell, Array.getElem?_modify, this]

end Go.Proofs.Ytojgahcogpediaa

/- Contracts of the registers' put and putAll. -/
namespace Go.Proofs.Ytojgahcogpediaa
open Go.ChangeShapes Go.WideShapes Go.ChangeAt Go.RowKit Go.Joins
attribute [local go_sem ↓] Go.wp_at_zero Go.wp_at_succ

/-- Registers that hold the writes M, whose dependencies lie in the world w0. -/
def RegsW (w0 w : World) (b n : Nat) (M : Int → Option Wr) : Prop :=
  ∃ f, RegsAre w b n f ∧ ∀ k, (M k = none → f k = none) ∧ ∀ x, M k = some x → ∃ ad cp, f k = some (wrOf x ad cp) ∧ IsDeps w0 ad x.xs ∧ x.xs.length ≤ 1048576

set_option maxRecDepth 100000 in
theorem RegsW.of_block {w0 w w' : World} {b n : Nat} {M : Int → Option Wr} (h : RegsW w0 w b n M) (hb : w'.heap[b]? = w.heap[b]?) : RegsW w0 w' b n M := by
  obtain ⟨f, h1, h2⟩ := h
  exact ⟨f, h1.of_block hb, h2⟩

set_option maxRecDepth 100000 in
theorem RegsW.lt {w0 w : World} {b n : Nat} {M : Int → Option Wr} (h : RegsW w0 w b n M) : b < w.heap.size := by
  obtain ⟨f, h1, _⟩ := h
  exact h1.lt

set_option maxRecDepth 100000 in
theorem RegsW.below {w0 w w' : World} {b n : Nat} {M : Int → Option Wr} (h : RegsW w0 w b n M) (hb : Below w.heap.size w w') : RegsW w0 w' b n M := h.of_block (hb.block b h.lt)

set_option maxRecDepth 100000 in
theorem look_none {w0 w : World} {ops : Array Oper} {rest : List Oper} {o : Oper} {a : Act} {Q : Exit → Act → World → Prop} (hg : o.guard = none) (m x : Operand) (hop : o.op = Op.lookup 84 m x true)
    {b n : Nat} {M : Int → Option Wr} (h : RegsW w0 w b n M) (k : Int) (hk : 0 ≤ k ∧ k ≤ 5) (hM : M k = none) (hm : a.eval m = .map (some b)) (hx : a.eval x = slotV k)
    (hK : wpList Try.prog ops Q rest (a.put o.dst (.tuple #[wrV 0 0 0 0 0 false none 0 0, .bool false])) w) : wpList Try.prog ops Q (o :: rest) a w := by
  obtain ⟨f, h1, h2⟩ := h
  refine wpList_look hg m x hop h1 k (by omega) hm hx ?_
  rw [(h2 k).1 hM]
  exact hK

set_option maxRecDepth 100000 in
theorem look_some {w0 w : World} {ops : Array Oper} {rest : List Oper} {o : Oper} {a : Act} {Q : Exit → Act → World → Prop} (hg : o.guard = none) (m x : Operand) (hop : o.op = Op.lookup 84 m x true)
    {b n : Nat} {M : Int → Option Wr} (h : RegsW w0 w b n M) (k : Int) (hk : 0 ≤ k ∧ k ≤ 5) (y : Wr) (hM : M k = some y) (hm : a.eval m = .map (some b)) (hx : a.eval x = slotV k)
    (hK : ∀ ad cp, IsDeps w0 ad y.xs → y.xs.length ≤ 1048576 → wpList Try.prog ops Q rest (a.put o.dst (.tuple #[wrOf y ad cp, .bool true])) w) : wpList Try.prog ops Q (o :: rest) a w := by
  obtain ⟨f, h1, h2⟩ := h
  obtain ⟨ad, cp, h3, h4, h5⟩ := (h2 k).2 y hM
  refine wpList_look hg m x hop h1 k (by omega) hm hx ?_
  rw [h3]
  exact hK ad cp h4 h5

set_option maxRecDepth 100000 in
theorem store_regs {w0 w : World} {ops : Array Oper} {rest : List Oper} {o : Oper} {a : Act} {Q : Exit → Act → World → Prop} (hg : o.guard = none) (m x u : Operand) (hop : o.op = Op.mapUpdate 84 m x u)
    {b n : Nat} {M : Int → Option Wr} (h : RegsW w0 w b n M) (hn : n < maxLen) (k : Int) (hk : 0 ≤ k ∧ k ≤ 5) (y : Wr) (ad : Option Addr) (cp : Nat) (hd : IsDeps w0 ad y.xs) (hl : y.xs.length ≤ 1048576) (hm : a.eval m = .map (some b)) (hx : a.eval x = slotV k) (hu : a.eval u = wrOf y ad cp)
    (hK : ∀ w', RegsW w0 w' b (n + 1) (fun j => if j = k then some y else M j) → w.mapTurned w' b → wpList Try.prog ops Q rest (a.put o.dst undef) w') : wpList Try.prog ops Q (o :: rest) a w := by
  obtain ⟨f, h1, h2⟩ := h
  refine wpList_store hg m x u hop h1 hn k (by omega) _ hm hx hu fun w' h3 h4 => hK w' ⟨_, h3, fun j => ?_⟩ h4
  by_cases e : j = k
  · simp only [if_pos e]
    exact ⟨fun h => (by cases h), fun z hz => by
      injection hz with hz
      subst hz
      exact ⟨ad, cp, rfl, hd, hl⟩⟩
  · show ((if j = k then some y else M j) = none → (if j = k then some (wrOf y ad cp) else f j) = none) ∧ _
    simp only [if_neg e]
    exact h2 j

set_option maxRecDepth 100000 in
theorem regPut_none {M : Int → Option Wr} {x : Wr} (h : M x.k = none) : regPut M x = fun j => if j = x.k then some x else M j := by
  funext j
  unfold regPut
  rw [h]
  rfl

set_option maxRecDepth 100000 in
theorem regPut_later {M : Int → Option Wr} {x y : Wr} (h : M x.k = some y) (hc : 0 < cmpW x y) : regPut M x = fun j => if j = x.k then some x else M j := by
  funext j
  unfold regPut
  rw [h]
  have : cmpW y x < 0 := by
    have := wcmp_neg x.k x.c x.s x.q x.v x.de x.xs y.k y.c y.s y.q y.v y.de y.xs
    unfold cmpW at *
    omega
  simp [laterO, this]

set_option maxRecDepth 100000 in
theorem regPut_same {M : Int → Option Wr} {x y : Wr} (h : M x.k = some y) (hc : ¬ 0 < cmpW x y) : regPut M x = M := by
  funext j
  unfold regPut
  have : ¬ cmpW y x < 0 := by
    have := wcmp_neg x.k x.c x.s x.q x.v x.de x.xs y.k y.c y.s y.q y.v y.de y.xs
    unfold cmpW at *
    omega
  by_cases e : j = x.k
  · rw [if_pos e, h, e, h]
    simp [laterO, this]
  · rw [if_neg e]

set_option maxRecDepth 100000 in
theorem foldl_take {α : Type} (f : α → Wr → α) (ws : List Wr) (s : α) (k : Nat) (h : k < ws.length) : (ws.take (k + 1)).foldl f s = f ((ws.take k).foldl f s) (ws.getD k wz) := by
  have e : ws.take (k + 1) = ws.take k ++ [ws.getD k wz] := by
    rw [List.take_add_one, List.getElem?_eq_getElem h]
    simp [List.getD, h]
  rw [e, List.foldl_append]
  rfl

/-- Registers that hold the writes M, of whose dependencies D is known. -/
def RegsP (D : Option Addr → List Dp → Prop) (w : World) (b n : Nat) (M : Int → Option Wr) : Prop :=
  ∃ f, RegsAre w b n f ∧ ∀ k, (M k = none → f k = none) ∧ ∀ x, M k = some x → ∃ ad cp, f k = some (wrOf x ad cp) ∧ D ad x.xs ∧ x.xs.length ≤ 1048576

set_option maxRecDepth 100000 in
theorem RegsP.of_block {D : Option Addr → List Dp → Prop} {w w' : World} {b n : Nat} {M : Int → Option Wr} (h : RegsP D w b n M) (hb : w'.heap[b]? = w.heap[b]?) : RegsP D w' b n M := by
  obtain ⟨f, h1, h2⟩ := h
  exact ⟨f, h1.of_block hb, h2⟩

set_option maxRecDepth 100000 in
theorem RegsP.lt {D : Option Addr → List Dp → Prop} {w : World} {b n : Nat} {M : Int → Option Wr} (h : RegsP D w b n M) : b < w.heap.size := by
  obtain ⟨f, h1, _⟩ := h
  exact h1.lt

set_option maxRecDepth 100000 in
theorem RegsP.below {D : Option Addr → List Dp → Prop} {w w' : World} {b n : Nat} {M : Int → Option Wr} (h : RegsP D w b n M) (hb : Below w.heap.size w w') : RegsP D w' b n M := h.of_block (hb.block b h.lt)

set_option maxRecDepth 100000 in
theorem look_noneP {D : Option Addr → List Dp → Prop} {w : World} {ops : Array Oper} {rest : List Oper} {o : Oper} {a : Act} {Q : Exit → Act → World → Prop} (hg : o.guard = none) (m x : Operand) (hop : o.op = Op.lookup 84 m x true)
    {b n : Nat} {M : Int → Option Wr} (h : RegsP D w b n M) (k : Int) (hk : 0 ≤ k ∧ k ≤ 5) (hM : M k = none) (hm : a.eval m = .map (some b)) (hx : a.eval x = slotV k)
    (hK : wpList Try.prog ops Q rest (a.put o.dst (.tuple #[wrV 0 0 0 0 0 false none 0 0, .bool false])) w) : wpList Try.prog ops Q (o :: rest) a w := by
  obtain ⟨f, h1, h2⟩ := h
  refine wpList_look hg m x hop h1 k (by omega) hm hx ?_
  rw [(h2 k).1 hM]
  exact hK

set_option maxRecDepth 100000 in
theorem look_someP {D : Option Addr → List Dp → Prop} {w : World} {ops : Array Oper} {rest : List Oper} {o : Oper} {a : Act} {Q : Exit → Act → World → Prop} (hg : o.guard = none) (m x : Operand) (hop : o.op = Op.lookup 84 m x true)
    {b n : Nat} {M : Int → Option Wr} (h : RegsP D w b n M) (k : Int) (hk : 0 ≤ k ∧ k ≤ 5) (y : Wr) (hM : M k = some y) (hm : a.eval m = .map (some b)) (hx : a.eval x = slotV k)
    (hK : ∀ ad cp, D ad y.xs → y.xs.length ≤ 1048576 → wpList Try.prog ops Q rest (a.put o.dst (.tuple #[wrOf y ad cp, .bool true])) w) : wpList Try.prog ops Q (o :: rest) a w := by
  obtain ⟨f, h1, h2⟩ := h
  obtain ⟨ad, cp, h3, h4, h5⟩ := (h2 k).2 y hM
  refine wpList_look hg m x hop h1 k (by omega) hm hx ?_
  rw [h3]
  exact hK ad cp h4 h5

set_option maxRecDepth 100000 in
theorem store_regsP {D : Option Addr → List Dp → Prop} {w : World} {ops : Array Oper} {rest : List Oper} {o : Oper} {a : Act} {Q : Exit → Act → World → Prop} (hg : o.guard = none) (m x u : Operand) (hop : o.op = Op.mapUpdate 84 m x u)
    {b n : Nat} {M : Int → Option Wr} (h : RegsP D w b n M) (hn : n < maxLen) (k : Int) (hk : 0 ≤ k ∧ k ≤ 5) (y : Wr) (ad : Option Addr) (cp : Nat) (hd : D ad y.xs) (hl : y.xs.length ≤ 1048576) (hm : a.eval m = .map (some b)) (hx : a.eval x = slotV k) (hu : a.eval u = wrOf y ad cp)
    (hK : ∀ w', RegsP D w' b (n + 1) (fun j => if j = k then some y else M j) → w.mapTurned w' b → wpList Try.prog ops Q rest (a.put o.dst undef) w') : wpList Try.prog ops Q (o :: rest) a w := by
  obtain ⟨f, h1, h2⟩ := h
  refine wpList_store hg m x u hop h1 hn k (by omega) _ hm hx hu fun w' h3 h4 => hK w' ⟨_, h3, fun j => ?_⟩ h4
  by_cases e : j = k
  · simp only [if_pos e]
    exact ⟨fun h => (by cases h), fun z hz => by
      injection hz with hz
      subst hz
      exact ⟨ad, cp, rfl, hd, hl⟩⟩
  · show ((if j = k then some y else M j) = none → (if j = k then some (wrOf y ad cp) else f j) = none) ∧ _
    simp only [if_neg e]
    exact h2 j

set_option maxRecDepth 100000 in
set_option maxHeartbeats 8000000 in
/-- One write is put: of its key the later one stays. -/
theorem put_p (D : Option Addr → List Dp → Prop) (b m : Nat) (M : Int → Option Wr) (x : Wr) (ad : Option Addr) (cp : Nat) (w : World) (hmm : m ≤ 4611686018427387904) (hxl : x.xs.length ≤ 1048576) (hk : 0 ≤ x.k ∧ x.k ≤ 5) (hd : D ad x.xs)
    (hN : ∀ w', Below w.heap.size w w' → ∀ ad xs, D ad xs → IsDeps w' ad xs) (hr : RegsP D w b m M) :
    Calls Try.prog 53 #[.map (some b), wrOf x ad cp] w fun e w' => e = .returned (.tuple #[]) ∧ RegsP D w' b (m + 1) (regPut M x) ∧ w.grownBy w' (some b) := by
  obtain ⟨xk, xc, xs', xq, xv, xd, xx⟩ := x
  simp only at hxl hk hd
  obtain ⟨k0, k5⟩ := hk
  have HN := Lib.hid hN
  have HR := Lib.hid hr
  have HD := Lib.hid hd
  clear hN hr hd
  have HBA : Hid (Below w.heap.size w (w.alloc (.cells #[.int .i64 xk, .int .i64 xc, .int .i64 xs', .int .i64 xq, .int .i64 xv, .bool xd, .slice ad xx.length cp] 41))) := (Below.refl _ _).alloc (Nat.le_refl _) _
  have HRA := Lib.hid (HR.out.below HBA.out)
  cases hM : M xk with
  | none =>
    have HP : Hid (regPut M ⟨xk, xc, xs', xq, xv, xd, xx⟩ = fun j => if j = xk then some ⟨xk, xc, xs', xq, xv, xd, xx⟩ else M j) := regPut_none hM
    have HM := Lib.hid hM
    clear hM
    have HBB : Hid (Below w.heap.size w ((w.alloc (.cells #[.int .i64 xk, .int .i64 xc, .int .i64 xs', .int .i64 xq, .int .i64 xv, .bool xd, .slice ad xx.length cp] 41)).alloc (.cells #[.int .i64 0, .int .i64 0, .int .i64 0, .int .i64 0, .int .i64 0, .bool false, .slice none 0 0] 41))) := HBA.out.alloc (by simp) _
    have HRB := Lib.hid (HR.out.below HBB.out)
    go_enter Try.func53, Try.ntmps53
    go_wp2_with (first | (at_lookup; refine look_noneP (by rfl) _ _ (by rfl) HRA.out xk ⟨k0, k5⟩ HM.out (by rfl) (by rfl) ?_) | (at_mapUpdate; refine store_regsP (by rfl) _ _ _ (by rfl) HRB.out (by unfold maxLen; omega) xk ⟨k0, k5⟩ ⟨xk, xc, xs', xq, xv, xd, xx⟩ ad cp HD.out hxl (by rfl) (by rfl) (by rfl) ?_; intro w1 hr1 ht1; refine Hid.out ?_))
    refine Lib.hid ?_
    have HR1 : Hid (RegsP D w1 b (m + 1) (regPut M ⟨xk, xc, xs', xq, xv, xd, xx⟩)) := by
      rw [HP.out]
      exact hr1
    have HB1 : Hid (w.grownBy w1 (some b)) := grown_trans (grown_of_below HBB.out (some b)) ht1.grown
    clear hr1 ht1
    go_wp2
    exact bodyPost_end (v := .tuple #[]) (by simp [results, Try.results53]) rfl ⟨rfl, HR1.out, HB1.out⟩
  | some y =>
    have HPL : Hid (0 < cmpW ⟨xk, xc, xs', xq, xv, xd, xx⟩ y → regPut M ⟨xk, xc, xs', xq, xv, xd, xx⟩ = fun j => if j = xk then some ⟨xk, xc, xs', xq, xv, xd, xx⟩ else M j) := fun h => regPut_later hM h
    have HPS : Hid (cmpW ⟨xk, xc, xs', xq, xv, xd, xx⟩ y ≤ 0 → regPut M ⟨xk, xc, xs', xq, xv, xd, xx⟩ = M) := fun h => regPut_same hM (Int.not_lt.2 h)
    have HM := Lib.hid hM
    clear hM
    obtain ⟨yk, yc, ys, yq, yv, yd, yy⟩ := y
    go_enter Try.func53, Try.ntmps53
    go_wp2_with (at_lookup; refine look_someP (by rfl) _ _ (by rfl) HRA.out xk ⟨k0, k5⟩ _ HM.out (by rfl) (by rfl) ?_; intro ad2 cp2 hd2 hl2)
    have HD2 := Lib.hid hd2
    clear hd2
    have HBB : Hid (Below w.heap.size w ((w.alloc (.cells #[.int .i64 xk, .int .i64 xc, .int .i64 xs', .int .i64 xq, .int .i64 xv, .bool xd, .slice ad xx.length cp] 41)).alloc (.cells #[.int .i64 yk, .int .i64 yc, .int .i64 ys, .int .i64 yq, .int .i64 yv, .bool yd, .slice ad2 yy.length cp2] 41))) := HBA.out.alloc (by simp) _
    refine (implWriteCmp_gen xk xc xs' xq xv xd ad xx _ cp yk yc ys yq yv yd ad2 yy _ cp2 _ rfl rfl hxl hl2 (HN.out _ HBB.out _ _ HD.out) (HN.out _ HBB.out _ _ HD2.out)).mono ?_
    rintro e w2 ⟨rfl, hb⟩
    have HX2 : Hid (BoxIn w w2 xk xc xs' xq xv xd ad xx.length cp) := BoxIn.start (t := 41) (below_step ((Below.refl _ _).alloc (Nat.le_refl _) _) (by simp) hb)
    have HB2 := Lib.hid (grown_of_below HX2.out.below (some b))
    have HR2 := Lib.hid (HR.out.below HX2.out.below)
    clear hb HBB HBA HRA
    by_cases hc : 0 < wcmp xk xc xs' xq xv xd xx yk yc ys yq yv yd yy
    · have HP := Lib.hid (HPL.out hc)
      clear HPL HPS
      have b0 := HX2.out.c0
      have b1 := HX2.out.c1
      have b2 := HX2.out.c2
      have b3 := HX2.out.c3
      have b4 := HX2.out.c4
      have b5 := HX2.out.c5
      have b6 := HX2.out.c6
      generalize wcmp xk xc xs' xq xv xd xx yk yc ys yq yv yd yy = z at *
      go_wp2_with (at_mapUpdate; refine store_regsP (by rfl) _ _ _ (by rfl) HR2.out (by unfold maxLen; omega) xk ⟨k0, k5⟩ ⟨xk, xc, xs', xq, xv, xd, xx⟩ ad cp HD.out hxl (by rfl) (by rfl) (by rfl) ?_; intro w3 hr3 ht3; refine Hid.out ?_)
      refine Lib.hid ?_
      have HR3 : Hid (RegsP D w3 b (m + 1) (regPut M ⟨xk, xc, xs', xq, xv, xd, xx⟩)) := by
        rw [HP.out]
        exact hr3
      have HB3 : Hid (w.grownBy w3 (some b)) := grown_trans HB2.out ht3.grown
      clear hr3 ht3
      go_wp2
      exact bodyPost_end (v := .tuple #[]) (by simp [results, Try.results53]) rfl ⟨rfl, HR3.out, HB3.out⟩
    · have HP := Lib.hid (HPS.out (Int.not_lt.1 hc))
      clear HPL HPS
      have HR3 : Hid (RegsP D w2 b (m + 1) (regPut M ⟨xk, xc, xs', xq, xv, xd, xx⟩)) := by
        rw [HP.out]
        obtain ⟨f, h1, h2⟩ := HR2.out
        obtain ⟨E, h3, h4⟩ := h1
        exact ⟨f, ⟨E, h3.mono (by omega), h4⟩, h2⟩
      generalize wcmp xk xc xs' xq xv xd xx yk yc ys yq yv yd yy = z at *
      go_wp2
      exact bodyPost_end (v := .tuple #[]) (by simp [results, Try.results53]) rfl ⟨rfl, HR3.out, HB2.out⟩

set_option maxRecDepth 100000 in
theorem putOne_any (w0 : World) (b m : Nat) (M : Int → Option Wr) (x : Wr) (ad : Option Addr) (cp : Nat) (w : World) (hmm : m ≤ 4611686018427387904) (hxl : x.xs.length ≤ 1048576) (hk : 0 ≤ x.k ∧ x.k ≤ 5) (hd : IsDeps w0 ad x.xs) (hb : Below w0.heap.size w0 w) (hB : w0.heap.size ≤ b) (hr : RegsW w0 w b m M) :
    Calls Try.prog 53 #[.map (some b), wrOf x ad cp] w fun e w' => e = .returned (.tuple #[]) ∧ RegsW w0 w' b (m + 1) (regPut M x) ∧ Below w0.heap.size w0 w' := by
  refine (put_p (IsDeps w0) b m M x ad cp w hmm hxl hk hd (fun w' h ad xs hx => hx.below (below_step hb hb.size h)) hr).mono ?_
  rintro e w' ⟨he, h1, h2⟩
  exact ⟨he, h1, hb.grown h2 hb.size fun j hj => by injection hj with hj; omega⟩

set_option maxRecDepth 100000 in
set_option maxHeartbeats 8000000 in
theorem putAll_any (w0 : World) (b m : Nat) (M : Int → Option Wr) (a : Option Addr) (n cap : Nat) (ws : List Wr) (w : World) (hn : ws.length = n) (hm : n ≤ 1048576) (hmm : m ≤ 1048576) (hx : Few ws) (hk : ∀ i, i < ws.length → 0 ≤ (ws.getD i wz).k ∧ (ws.getD i wz).k ≤ 5)
    (hi : IsWs w0 a ws) (hb : Below w0.heap.size w0 w) (hB : w0.heap.size ≤ b) (hr : RegsW w0 w b m M) :
    Calls Try.prog 52 #[.map (some b), .slice a n cap] w fun e w' => e = .returned (.tuple #[]) ∧ RegsW w0 w' b (m + n) (ws.foldl regPut M) ∧ Below w0.heap.size w0 w' := by
  have HI : Hid (IsWs w0 a ws) := hi
  have HN : Hid (ws.length = n) := hn
  have HX : Hid (Few ws) := hx
  have HKY : Hid (∀ i, i < ws.length → 0 ≤ (ws.getD i wz).k ∧ (ws.getD i wz).k ≤ 5) := hk
  have HR0 : Hid (RegsW w0 w b m M) := hr
  have HB0 : Hid (Below w0.heap.size w0 w) := hb
  clear hi hn hx hk hr hb
  go_enter Try.func52, Try.ntmps52
  go_wp2
  go_loopw [8] (fun i wr => ∃ k : Nat, k ≤ n ∧ i = .int .i64 k ∧ Hid (RegsW w0 wr b (m + k) ((ws.take k).foldl regPut M)) ∧ Hid (Below w0.heap.size w0 wr)) (fun i _ => n - (intOf i).toNat)
  case atStart => exact ⟨0, Nat.zero_le _, rfl, HR0, HB0⟩
  case round =>
    clear HR0 HB0
    obtain ⟨k, hk, rfl, HR, HB⟩ := hrel
    by_cases hk' : k < n
    · obtain ⟨bl, o, ad, cp, rfl, hz, ⟨e0, e1, e2, e3, e4, e5, e6⟩, hd⟩ := HI.out.base HB.out HN.out hk'
      have HD := Lib.hid hd
      have i1 : (0 : Int) ≤ (k : Int) := by omega
      have i2 : (k : Int) < (n : Int) := by omega
      have hkw : k < ws.length := by rw [HN.out]; exact hk'
      have hxl := HX.out k hkw
      have hky := HKY.out k hkw
      have HT : Hid ((ws.take (k + 1)).foldl regPut M = regPut ((ws.take k).foldl regPut M) (ws.getD k wz)) := foldl_take regPut ws M k hkw
      clear hd HI
      generalize ws.getD k wz = x at *
      obtain ⟨xk, xc, xs', xq, xv, xd, xx⟩ := x
      simp only at e0 e1 e2 e3 e4 e5 e6 HD hxl hky
      generalize (ws.take k).foldl regPut M = M1 at *
      have HBA : Hid (Below wr.heap.size wr (wr.alloc (.cells #[.int .i64 xk, .int .i64 xc, .int .i64 xs', .int .i64 xq, .int .i64 xv, .bool xd, .slice ad xx.length cp] 41))) := (Below.refl _ _).alloc (Nat.le_refl _) _
      have HRA := Lib.hid (HR.out.below HBA.out)
      have HB1 := Lib.hid (below_step HB.out HB.out.size HBA.out)
      go_wp2_with fail
      refine (putOne_any w0 b (m + k) M1 ⟨xk, xc, xs', xq, xv, xd, xx⟩ ad cp _ (by omega) hxl hky HD.out HB1.out hB HRA.out).mono ?_
      rintro e w2 ⟨rfl, hr2, hb2⟩
      have HR2 : Hid (RegsW w0 w2 b (m + (k + 1)) ((ws.take (k + 1)).foldl regPut M)) := by
        rw [HT.out]
        exact hr2
      have HB2 := Lib.hid hb2
      clear hr2 hb2
      go_wp2
      exact ⟨⟨k + 1, by omega, by go_num, HR2, HB2⟩, by simp [intOf]; omega⟩
    · have hkk : k = n := by omega
      subst hkk
      have HE : Hid (ws.take k = ws) := List.take_of_length_le (by rw [HN.out]; exact Nat.le_refl _)
      rw [HE.out] at HR
      go_wp2
      exact bodyPost_end (v := .tuple #[]) (by simp [results, Try.results52]) rfl ⟨rfl, HR.out, HB.out⟩

end Go.Proofs.Ytojgahcogpediaa

/- The contract of the registers' told. -/
namespace Go.Proofs.Ytojgahcogpediaa
open Go.ChangeShapes Go.WideShapes Go.ChangeAt Go.RowKit Go.Joins
attribute [local go_sem ↓] Go.wp_at_zero Go.wp_at_succ

def toldTo (M : Int → Option Wr) (k : Nat) : List Wr := (List.range k).filterMap fun (j : Nat) => M (j : Int)

set_option maxRecDepth 100000 in
theorem toldTo_none {M : Int → Option Wr} {k : Nat} (h : M (k : Int) = none) : toldTo M (k + 1) = toldTo M k := by
  unfold toldTo
  rw [List.range_succ, List.filterMap_append]
  simp [h]

set_option maxRecDepth 100000 in
theorem toldTo_some {M : Int → Option Wr} {k : Nat} {x : Wr} (h : M (k : Int) = some x) : toldTo M (k + 1) = toldTo M k ++ [x] := by
  unfold toldTo
  rw [List.range_succ, List.filterMap_append]
  simp [h]

set_option maxRecDepth 100000 in
theorem toldTo_six (M : Int → Option Wr) : toldTo M 6 = toldM M := by
  rfl

set_option maxRecDepth 100000 in
theorem toldTo_len (M : Int → Option Wr) (k : Nat) : (toldTo M k).length ≤ k := by
  unfold toldTo
  have := List.length_filterMap_le (fun j : Nat => M (j : Int)) (List.range k)
  simpa using this

set_option maxRecDepth 100000 in
set_option maxHeartbeats 8000000 in
theorem told_any (w0 : World) (b m : Nat) (M : Int → Option Wr) (w : World) (hb : Below w0.heap.size w0 w) (hr : RegsW w0 w b m M) :
    Calls Try.prog 54 #[.map (some b)] w fun e w' => ∃ v es, e = .returned v ∧ es.map (·.x) = toldM M ∧ RowG w' w.heap.size v es ∧ Below w.heap.size w w' := by
  have HR0 : Hid (RegsW w0 w b m M) := hr
  have HB0 : Hid (Below w0.heap.size w0 w) := hb
  clear hr hb
  obtain ⟨i0, hi0, hx0⟩ := Option.map_eq_some_iff.1 infoWr
  simp only [Prod.mk.injEq] at hx0
  have HI0 := Lib.hid hi0
  have HX0 := Lib.hid hx0
  clear hi0 hx0
  go_enter Try.func54, Try.ntmps54
  go_wp2
  go_loopw [3, 7] (fun t i wr => ∃ (k : Nat) (v : Value) (es : List EnG), k ≤ 6 ∧ i = .int .i64 k ∧ v = t ∧ Hid (es.map (·.x) = toldTo M k) ∧ Hid (RowG wr w.heap.size v es) ∧ Hid (Below w.heap.size w wr)) (fun _ i _ => 6 - (intOf i).toNat)
  case atStart => exact ⟨0, _, [], Nat.zero_le _, rfl, rfl, rfl, rowG_nil _ _, Below.refl _ _⟩
  case round =>
    obtain ⟨k, v, es, hk, rfl, rfl, HE, HR, HB⟩ := hrel
    have hln : es.length ≤ 6 := by
      have h1 := toldTo_len M k
      rw [← HE.out, List.length_map] at h1
      omega
    by_cases hk' : k < 6
    · have i1 : (0 : Int) ≤ (k : Int) := by omega
      have i2 : (k : Int) < 6 := by omega
      have HRW := Lib.hid (HR0.out.below HB.out)
      cases hM : M (k : Int) with
      | none =>
        have HE' : Hid (es.map (·.x) = toldTo M (k + 1)) := by
          rw [toldTo_none hM]
          exact HE
        have HM := Lib.hid hM
        clear hM
        have HBA : Hid (Below w.heap.size w (wr.alloc (.cells #[.int .i64 0, .int .i64 0, .int .i64 0, .int .i64 0, .int .i64 0, .bool false, .slice none 0 0] 41))) := HB.out.alloc HB.out.size _
        have HRA := Lib.hid (HR.out.below ((Below.refl wr.heap.size wr).alloc (Nat.le_refl _) (.cells #[.int .i64 0, .int .i64 0, .int .i64 0, .int .i64 0, .int .i64 0, .bool false, .slice none 0 0] 41)))
        go_wp2_with (at_lookup; refine look_none (by rfl) _ _ (by rfl) HRW.out (k : Int) ⟨i1, by omega⟩ HM.out (by rfl) (by rfl) ?_)
        exact ⟨⟨k + 1, _, es, by omega, by go_num, rfl, HE', HRA, HBA⟩, by simp [intOf]; omega⟩
      | some y =>
        have HE' : Hid (toldTo M (k + 1) = toldTo M k ++ [y]) := toldTo_some hM
        have HM := Lib.hid hM
        clear hM
        obtain ⟨yk, yc, ys, yq, yv, yd, yy⟩ := y
        go_wp2_with (at_lookup; refine look_some (by rfl) _ _ (by rfl) HRW.out (k : Int) ⟨i1, by omega⟩ _ HM.out (by rfl) (by rfl) ?_; intro ad cp hd hl)
        have HBA : Hid (Below wr.heap.size wr (wr.alloc (.cells #[.int .i64 yk, .int .i64 yc, .int .i64 ys, .int .i64 yq, .int .i64 yv, .bool yd, .slice ad yy.length cp] 41))) := (Below.refl _ _).alloc (Nat.le_refl _) _
        have HB1 := Lib.hid (below_step HB.out HB.out.size HBA.out)
        have HD := Lib.hid (hd.below (HB0.out.trans (HB1.out.mono HB0.out.size)))
        clear hd
        refine (icopy_any ⟨yk, yc, ys, yq, yv, yd, yy⟩ ad cp _ hl HD.out).mono ?_
        rintro e w2 ⟨a2, g2, cp2, rfl, hg, hb⟩
        have HB2 : Hid (Below w.heap.size w w2) := below_step HB1.out HB1.out.size hb
        have HG : Hid (FreshDeps wr.heap.size w2 a2 g2 yy) := hg.mono HBA.out.size
        have HR2 : Hid (RowG w2 w.heap.size _ es) := HR.out.below (below_step HBA.out HBA.out.size hb)
        have hwr : w.heap.size ≤ wr.heap.size := HB.out.size
        have HAP : Hid (∀ d ∈ es, 0 < d.x.xs.length → 0 < yy.length → d.g ≠ g2) := fun d hd hp hq => by
          have h1 := ((HR.out.deps d hd).1 hp).2.2.1
          have h2 := (HG.out hq).2.1
          omega
        have HV : Hid (0 < yy.length → v.ownBlock ≠ some g2) := fun hq e => by
          have h1 := (HR.out.own.lt g2 e).2
          have h2 := (HG.out hq).2.1
          omega
        clear hb hg HB1 HBA HD HM HRW
        have HBC : Hid (Below w2.heap.size w2 (w2.alloc (.cells #[.int .i64 yk, .int .i64 yc, .int .i64 ys, .int .i64 yq, .int .i64 yv, .bool yd, .slice a2 yy.length cp2] 41))) := (Below.refl _ _).alloc (Nat.le_refl _) _
        have HRC := Lib.hid (HR2.out.below HBC.out)
        have hsz : w.heap.size ≤ w2.heap.size := HB2.out.size
        go_wp2_with (at_builtin; refine wpList_append_lies _ (by rfl) _ _ _ (by rfl) w.heap.size 41 i0 (wrV 0 0 0 0 0 false none 0 0) 7 72 Try.underlying44 HI0.out HX0.out.1 HX0.out.2.1 HX0.out.2.2 (by rfl) (by omega) v es.length (es.flatMap wrValsG) (by rfl) HRC.out.own ⟨w2.heap.size, 0, none⟩ 1 1 (wrValsG ⟨⟨yk, yc, ys, yq, yv, yd, yy⟩, a2, g2, cp2⟩) (by rfl) (by rfl) (oneG_cells w2 _ ⟨⟨yk, yc, ys, yq, yv, yd, yy⟩, a2, g2, cp2⟩) (by simpa using valsG_one [⟨⟨yk, yc, ys, yq, yv, yd, yy⟩, a2, g2, cp2⟩]) (by omega) (by unfold maxLen; omega) (by omega) (by simp; omega) _ rfl ?_; intro g3 cp3 w5 hown hgrow hg3 _; refine Hid.out ?_)
        refine Lib.hid ?_
        have HB5 : Hid (Below w.heap.size w w5) := (HB2.out.alloc hsz _).grown hgrow (by simp; omega) fun j hj => (HR2.out.own.lt j hj).1
        have HR5 : Hid (RowG w5 w.heap.size (.slice (some ⟨g3, 0, none⟩) (es.length + 1) cp3) (es ++ [⟨⟨yk, yc, ys, yq, yv, yd, yy⟩, a2, g2, cp2⟩])) :=
          HRC.out.more ((HG.out.below HBC.out).mono hwr) HV.out HAP.out hown hgrow hg3
        have HE5 : Hid ((es ++ [(⟨⟨yk, yc, ys, yq, yv, yd, yy⟩, a2, g2, cp2⟩ : EnG)]).map (·.x) = toldTo M (k + 1)) := by
          rw [HE'.out, List.map_append, HE.out]
          exact Lib.hid rfl
        clear hown hgrow HRC HBC
        go_wp2
        exact ⟨⟨k + 1, _, _, by omega, by go_num, rfl, HE5, HR5, HB5⟩, by simp [intOf]; omega⟩
    · have hkk : k = 6 := by omega
      subst hkk
      have HF : Hid (es.map (·.x) = toldM M) := by
        rw [← toldTo_six]
        exact HE
      go_wp2
      go_ret
      exact ⟨_, es, rfl, HF.out, HR.out, HB.out⟩

end Go.Proofs.Ytojgahcogpediaa

/- Contracts of the specification's l02Join, MapJoin, MapPut. -/
namespace Go.Proofs.Ytojgahcogpediaa
open Go.ChangeShapes Go.WideShapes Go.ChangeAt Go.RowKit Go.Joins
attribute [local go_sem ↓] Go.wp_at_zero Go.wp_at_succ

theorem join_few : ∀ (vs us : List Wr), Few us → Few vs → Few (joinW us vs)
  | [], us, h, _ => h
  | x :: r, us, h, h' => by
    rw [few_iff] at h'
    exact join_few r (putW us x) (put_few h (h' x (by simp))) (few_iff.2 fun z hz => h' z (by simp [hz]))

theorem few_take {ws : List Wr} (h : Few ws) (k : Nat) : Few (ws.take k) := by
  rw [few_iff] at *
  exact fun x hx => h x (List.mem_of_mem_take hx)

set_option maxHeartbeats 4000000 in
theorem l02Join_gen (a b : Option Addr) (n m cap cap' : Nat) (us vs : List Wr) (w : World) (hn : us.length = n) (hm : vs.length = m) (hs : n + m ≤ 1048576) (hx : Few us) (hy : Few vs) (hi : IsWs w a us) (hj : IsWs w b vs) :
    Calls Try.prog 50 #[.slice a n cap, .slice b m cap'] w fun e w' => ∃ g cp es L, e = .returned (.slice (some ⟨g, 0, none⟩) L cp) ∧ es.length = L ∧ es.map (·.x) = joinW us vs ∧ RowEs w' w.heap.size g cp es ∧ Below w.heap.size w w' := by
  have HI : Hid (IsWs w a us) := hi
  have HJ : Hid (IsWs w b vs) := hj
  have HN : Hid (us.length = n) := hn
  have HM : Hid (vs.length = m) := hm
  have HX : Hid (Few us) := hx
  have HY : Hid (Few vs) := hy
  clear hi hj hn hm hx hy
  go_enter Try.func50, Try.ntmps50
  go_wp2_with fail
  refine (copies_gen a n cap us _ HN.out (by omega) HX.out HI.out).mono ?_
  rintro e w1 ⟨g0, cp0, es0, rfl, he0, hr0, hb0⟩
  have HE0 := Lib.hid he0
  have HR0 := Lib.hid hr0
  have HB0 := Lib.hid hb0
  clear he0 hr0 hb0
  go_wp2
  go_loopw [5, 6] (fun t i wr => ∃ (k L g cp : Nat) (es : List En), k ≤ m ∧ L ≤ n + k ∧ i = .int .i64 k ∧ t = .slice (some ⟨g, 0, none⟩) L cp ∧ Hid (es.length = L) ∧ Hid (es.map (·.x) = joinW us (vs.take k)) ∧ Hid (RowEs wr w.heap.size g cp es) ∧ Hid (Below w.heap.size w wr)) (fun _ i _ => m - (intOf i).toNat)
  case atStart => exact ⟨0, n, g0, cp0, es0, Nat.zero_le _, Nat.le_refl _, rfl, rfl, by have := congrArg List.length HE0.out; simp at this; exact this.trans HN.out, HE0, HR0, HB0⟩
  case round =>
    clear HE0 HR0 HB0
    obtain ⟨k, L, g, cp, es, hk, hL, rfl, rfl, HL, HE, HR, HB⟩ := hrel
    by_cases hk' : k < m
    · obtain ⟨bb, oo, ad, cq, rfl, hz, ⟨e0, e1, e2, e3, e4, e5, e6⟩, hd⟩ := HJ.out.at HB.out HM.out hk'
      have i1 : (0 : Int) ≤ (k : Int) := by omega
      have i2 : (k : Int) < (m : Int) := by omega
      have hkb : k < vs.length := by rw [HM.out]; exact hk'
      have hxl := HY.out k hkb
      have HD := Lib.hid hd
      have HW : Hid (HoldsWs wr g (joinW us (vs.take k)) (gamma es)) := HR.out.holds HE.out
      have HF : Hid (Few (joinW us (vs.take k))) := join_few _ _ HX.out (few_take HY.out k)
      have HLL : Hid ((joinW us (vs.take k)).length = L) := by
        rw [← HE.out, List.length_map]
        exact HL
      have HT : Hid (joinW us (vs.take (k + 1)) = putW (joinW us (vs.take k)) (vs.getD k wz)) := foldl_take putW vs us k hkb
      clear hd HJ
      generalize vs.getD k wz = x at *
      obtain ⟨xk, xc, xs', xq, xv, xd, xx⟩ := x
      simp only at e0 e1 e2 e3 e4 e5 e6 hxl HD
      generalize joinW us (vs.take k) = ms at *
      go_wp2_with fail
      refine (put_gen _ L cp ms ⟨xk, xc, xs', xq, xv, xd, xx⟩ ad cq _ HLL.out (by omega) HF.out (HW.out.isWs HF.out) hxl HD.out).mono ?_
      rintro e w2 ⟨g2, cp2, es2, L2, rfl, hl2, he2, hr2, hb2⟩
      have hL2 : L2 ≤ L + 1 := by
        have h1 := put_len ms ⟨xk, xc, xs', xq, xv, xd, xx⟩
        rw [← he2, HLL.out, List.length_map, hl2] at h1
        exact h1
      have HL2 := Lib.hid hl2
      have HE2 : Hid (es2.map (·.x) = joinW us (vs.take (k + 1))) := he2.trans HT.out.symm
      have HR2 := Lib.hid (hr2.mono (Nat.le_trans HB.out.size (Nat.le_succ _)))
      have HB2 := Lib.hid (below_step HB.out HB.out.size hb2)
      clear hl2 he2 hr2 hb2
      go_wp2
      exact ⟨⟨k + 1, L2, g2, cp2, es2, by omega, by omega, by go_num, rfl, HL2, HE2, HR2, HB2⟩, by simp [intOf]; omega⟩
    · have hkk : k = m := by omega
      subst hkk
      have HF : Hid (es.map (·.x) = joinW us vs) := by
        have h := HE.out
        rw [List.take_of_length_le (by rw [HM.out]; exact Nat.le_refl _)] at h
        exact h
      go_wp2
      go_ret
      exact ⟨g, cp, es, L, rfl, HL.out, HF.out, HR.out, HB.out⟩

theorem l02Join_any (b c n m cap cap' : Nat) (us vs : List Wr) (γ δ : Nat → Nat) (w : World) (hn : us.length = n) (hm : vs.length = m) (hs : n + m ≤ 1048576) (hx : Few us) (hy : Few vs) (hi : HoldsWs w b us γ) (hj : HoldsWs w c vs δ) :
    Calls Try.prog 50 #[.slice (some ⟨b, 0, none⟩) n cap, .slice (some ⟨c, 0, none⟩) m cap'] w fun e w' => ∃ g cp es L, e = .returned (.slice (some ⟨g, 0, none⟩) L cp) ∧ es.length = L ∧ es.map (·.x) = joinW us vs ∧ RowEs w' w.heap.size g cp es ∧ Below w.heap.size w w' :=
  l02Join_gen _ _ n m cap cap' us vs w hn hm hs hx hy (hi.isWs hx) (hj.isWs hy)

end Go.Proofs.Ytojgahcogpediaa

/- Contracts of impl.MapJoin and impl.MapPut. -/
namespace Go.Proofs.Ytojgahcogpediaa
open Go.ChangeShapes Go.WideShapes Go.ChangeAt Go.RowKit Go.Joins
attribute [local go_sem ↓] Go.wp_at_zero Go.wp_at_succ

def joinB (us vs : List Wr) : List Wr := if mapOkB us = true ∧ mapOkB vs = true then joinW us vs else []

set_option maxRecDepth 100000 in
theorem joinB_not {us vs : List Wr} (h : mapOkB us = false ∨ mapOkB vs = false) : joinB us vs = [] := by
  unfold joinB
  refine if_neg fun h' => ?_
  rcases h with h | h
  · rw [h'.1] at h; cases h
  · rw [h'.2] at h; cases h

set_option maxRecDepth 100000 in
theorem mapOk_keys {ws : List Wr} (h : mapOkB ws = true) : ∀ x ∈ ws, 0 ≤ x.k ∧ x.k ≤ 5 := fun x hx => okW_key (((mapOk_iff ws).1 h).1 x hx)

set_option maxRecDepth 100000 in
theorem mapOk_keys' {ws : List Wr} (h : mapOkB ws = true) : ∀ i, i < ws.length → 0 ≤ (ws.getD i wz).k ∧ (ws.getD i wz).k ≤ 5 := fun i hi => mapOk_keys h _ (by simp [List.getD, hi])

set_option maxRecDepth 100000 in
theorem joinB_told {us vs : List Wr} (ha : mapOkB us = true) (hb : mapOkB vs = true) : toldM (vs.foldl regPut (us.foldl regPut (fun _ => none))) = joinB us vs := by
  unfold joinB
  rw [if_pos ⟨ha, hb⟩]
  exact told_join ((mapOk_iff us).1 ha).2 (mapOk_keys ha) (mapOk_keys hb)

set_option maxRecDepth 100000 in
theorem implMapOk_is (r : Bool) (a : Option Addr) (n cap : Nat) (ws : List Wr) (h : mapOkB ws = r) (w : World) (hn : ws.length = n) (hm : n ≤ 1048576) (hx : Few ws) (hh : IsWs w a ws) :
    Calls Try.prog 38 #[.slice a n cap] w fun e w' => e = .returned (.bool r) ∧ Below w.heap.size w w' := by
  subst h
  exact implMapOk_any a n cap ws w hn hm hx hh

set_option maxRecDepth 100000 in
theorem mapOk_one (x : Wr) : mapOkB [x] = okW x := by
  simp [mapOkB, wrGood, List.range, List.range.loop]

set_option maxRecDepth 100000 in
theorem joinB_one (ws : List Wr) (x : Wr) : joinB ws [x] = if mapOkB ws = true ∧ okW x = true then putW ws x else [] := by
  unfold joinB
  rw [mapOk_one]
  rfl

end Go.Proofs.Ytojgahcogpediaa

/- Contracts of the specification's MapJoin and MapPut. -/
namespace Go.Proofs.Ytojgahcogpediaa
open Go.ChangeShapes Go.WideShapes Go.ChangeAt Go.RowKit Go.Joins
attribute [local go_sem ↓] Go.wp_at_zero Go.wp_at_succ

theorem specMapOk_is (r : Bool) (a : Option Addr) (n cap : Nat) (ws : List Wr) (h : mapOkB ws = r) (w : World) (hn : ws.length = n) (hm : n ≤ 1048576) (hx : Few ws) (hh : IsWs w a ws) :
    Calls Try.prog 33 #[.slice a n cap] w fun e w' => e = .returned (.bool r) ∧ Below w.heap.size w w' := by
  subst h
  exact specMapOk_gen a n cap ws w hn hm hx hh

/-- What the specification answers: a list of writes of its own. -/
def AnsS (w w' : World) (e : Ending) (ws : List Wr) : Prop := ∃ g cp es L, e = .returned (.slice (some ⟨g, 0, none⟩) L cp) ∧ es.length = L ∧ es.map (·.x) = ws ∧ RowEs w' w.heap.size g cp es ∧ Below w.heap.size w w'

theorem specWriteOk_is (x : Wr) (r : Bool) (h : okW x = r) (a : Option Addr) (cap : Nat) (w : World) (hn : x.xs.length ≤ 1048576) (hh : IsDeps w a x.xs) :
    Calls Try.prog 34 #[wrOf x a cap] w fun e w' => e = .returned (.bool r) ∧ Below w.heap.size w w' := by
  subst h
  exact specWriteOk_gen _ _ _ _ _ _ a x.xs _ cap w rfl hn hh

end Go.Proofs.Ytojgahcogpediaa

/- How much a join is. -/
namespace Go.Proofs.Ytojgahcogpediaa
open Go.ChangeShapes Go.WideShapes Go.ChangeAt Go.RowKit Go.Joins

theorem joinB_ok (us vs : List Wr) : ∀ x ∈ joinB us vs, okW x = true := by
  intro x hx
  unfold joinB at hx
  split at hx
  · rename_i h
    obtain ⟨_, h2, _⟩ := join_spec vs us ((mapOk_iff us).1 h.1).2
    rcases h2 x hx with h3 | h3
    · exact ((mapOk_iff us).1 h.1).1 x h3
    · exact ((mapOk_iff vs).1 h.2).1 x h3
  · simp at hx

theorem joinB_rise (us vs : List Wr) : Rise (joinB us vs) := by
  unfold joinB
  split
  · rename_i h
    exact (join_spec vs us ((mapOk_iff us).1 h.1).2).1
  · exact List.Pairwise.nil

theorem joinB_mapOk (us vs : List Wr) : mapOkB (joinB us vs) = true := (mapOk_iff _).2 ⟨joinB_ok us vs, joinB_rise us vs⟩

theorem mapOk_len {ws : List Wr} (h : mapOkB ws = true) : ws.length ≤ 6 := by
  have e := told_find ((mapOk_iff ws).1 h).2 (mapOk_keys h)
  rw [← e, ← toldTo_six]
  exact toldTo_len _ 6

theorem mapOk_bulk {ws : List Wr} (h : mapOkB ws = true) : bulk ws ≤ 36 := by
  have h1 := bulk_le (m := 6) fun x hx => okW_len (((mapOk_iff ws).1 h).1 x hx)
  have h2 := mapOk_len h
  omega

theorem joinB_bulk (us vs : List Wr) : bulk (joinB us vs) ≤ 36 := mapOk_bulk (joinB_mapOk us vs)

theorem joinB_len (us vs : List Wr) : (joinB us vs).length ≤ 6 := mapOk_len (joinB_mapOk us vs)

theorem joinB_few (us vs : List Wr) : Few (joinB us vs) := few_of_bulk (by have := joinB_bulk us vs; omega)

/-- The specification's answer, as a list. -/
theorem RowEs.isWs {w : World} {base g cap : Nat} {es : List En} (h : RowEs w base g cap es) {ws : List Wr} (hw : es.map (·.x) = ws) (hx : Few ws) : IsWs w (some ⟨g, 0, none⟩) ws := (h.holds hw).isWs hx

end Go.Proofs.Ytojgahcogpediaa

/- What comes in, opened: tags, dependencies, slices of them, writes. -/
namespace Go.Proofs.Ytojgahcogpediaa
open Go.ChangeShapes Go.WideShapes Go.ChangeAt Go.RowKit Go.Joins Go.Deep
set_option maxRecDepth 100000

theorem cellsInt : Try.prog.cellsOf 3 = 1 := by kernel_rfl

theorem cellsTag : Try.prog.cellsOf 72 = 3 := by kernel_rfl

theorem cellsDep : Try.prog.cellsOf 131 = 4 := by kernel_rfl

section
variable {H : Type} {enc : TypeId × Value → H} {w : World} {base : Nat} {spare : Nat → Bool} {held : Bool}

theorem tag_cells {fuel : Nat} {cs : List Value} {x : DataW H × List MemPlace} (h : DataW.trod enc Try.prog w base spare held fuel 72 cs = some x) : ∃ c s q : Int, cs = [.int .i64 c, .int .i64 s, .int .i64 q] := by
  obtain ⟨y0, y1, y2, n, _, hl, h0, h1, h2⟩ := trod_struct3 Try.underlying72 h
  rw [cellsTag] at hl
  match cs, hl with
  | [v0, v1, v2], _ =>
    obtain ⟨a0, e0, _, _⟩ := DataW.trod_int Try.underlying3 h0
    obtain ⟨a1, e1, _, _⟩ := DataW.trod_int Try.underlying3 h1
    obtain ⟨a2, e2, _, _⟩ := DataW.trod_int Try.underlying3 h2
    simp [cellsInt] at e0 e1 e2
    subst e0 e1 e2
    exact ⟨a0, a1, a2, rfl⟩

theorem dep_cells {fuel : Nat} {cs : List Value} {x : DataW H × List MemPlace} (h : DataW.trod enc Try.prog w base spare held fuel 131 cs = some x) : ∃ d : Dp, cs = [.int .i64 d.k, .int .i64 d.c, .int .i64 d.s, .int .i64 d.q] := by
  obtain ⟨y0, y1, n, _, hl, h0, h1⟩ := trod_struct2 Try.underlying131 h
  rw [cellsDep] at hl
  match cs, hl with
  | [v0, v1, v2, v3], _ =>
    obtain ⟨a0, e0, _, _⟩ := DataW.trod_int Try.underlying3 h0
    obtain ⟨c, s, q, e1⟩ := tag_cells h1
    simp [cellsInt] at e0
    simp [cellsTag] at e1
    obtain ⟨e1, e2, e3⟩ := e1
    subst e0 e1 e2 e3
    exact ⟨⟨a0, c, s, q⟩, rfl⟩

theorem add_form {a : Addr} {v : Value} (h : w.cell? a = some v) : a = ⟨a.block, a.off, none⟩ := by
  cases a with
  | mk b o s =>
    cases s with
    | none => rfl
    | some s =>
      simp only [World.cell?] at h
      split at h <;> simp at h

theorem add_plain (b o i : Nat) : (Addr.mk b o none).add i = ⟨b, o + i, none⟩ := by
  unfold Addr.add
  split
  · rename_i h
    rw [h]
    rfl
  · rfl

theorem deps_cells {fuel : Nat} {a : Option Addr} {len cap : Nat} {x : DataW H × List MemPlace} (h : DataW.trod enc Try.prog w base spare held fuel 73 [.slice a len cap] = some x) :
    ∃ xs : List Dp, xs.length = len ∧ len ≤ maxLen ∧ IsDeps w a xs := by
  rcases open_slice Try.underlying73 h with ⟨hcs, _⟩ | ⟨a', len', cap', m, n, D, Pl, hcs, _, hl, hm, hmm, _, hel⟩
  · simp at hcs
    obtain ⟨rfl, rfl, rfl⟩ := hcs
    exact ⟨[], rfl, Nat.zero_le _, .inl rfl⟩
  · simp at hcs
    obtain ⟨rfl, rfl, rfl⟩ := hcs
    have hml : len ≤ m := by rw [hmm]; split <;> omega
    have hd : ∀ i, i < len → ∃ d : Dp, w.cell? (a'.add (i * 4)) = some (.int .i64 d.k) ∧ w.cell? (a'.add (i * 4 + 1)) = some (.int .i64 d.c) ∧ w.cell? (a'.add (i * 4 + 2)) = some (.int .i64 d.s) ∧ w.cell? (a'.add (i * 4 + 3)) = some (.int .i64 d.q) := by
      intro i hi
      obtain ⟨cs', h1, h2⟩ := hel i (by omega)
      rw [cellsDep] at h1
      obtain ⟨_, _, hc⟩ := World.cells?_some h1
      obtain ⟨d, hdd⟩ := dep_cells h2
      rw [hdd] at hc
      have c0 := hc 0 (by omega)
      have c1 := hc 1 (by omega)
      have c2 := hc 2 (by omega)
      have c3 := hc 3 (by omega)
      rw [add_add] at c0 c1 c2 c3
      exact ⟨d, by simpa using c0, by simpa using c1, by simpa using c2, by simpa using c3⟩
    by_cases h0 : len = 0
    · subst h0
      exact ⟨[], rfl, Nat.zero_le _, .inl rfl⟩
    have : Inhabited Dp := ⟨dz⟩
    obtain ⟨f, hf⟩ := choose_lt hd
    have ha : a' = ⟨a'.block, a'.off, none⟩ := by
      have h1 := (hf 0 (by omega)).1
      simp [Addr.add] at h1
      exact add_form h1
    refine ⟨(List.range len).map f, by simp, by omega, .inr ⟨a'.block, a'.off, by rw [← ha], ?_, ?_⟩⟩
    · obtain ⟨cs', h1, _⟩ := hel 0 (by omega)
      rw [cellsDep] at h1
      have h2 := World.cells?_block h1 (by omega)
      simpa [Addr.add] using h2
    · intro i hi
      have hi' : i < len := by simpa using hi
      have hg : ((List.range len).map f).getD i dz = f i := by simp [List.getD, hi']
      rw [hg]
      obtain ⟨h1, h2, h3, h4⟩ := hf i hi'
      rw [ha] at h1 h2 h3 h4
      rw [add_plain] at h1 h2 h3 h4
      exact ⟨h1, h2, h3, h4⟩

theorem open_deps {b0 : Nat} {r : Reach} {v : Value} {d : DataW H} {p : List MemPlace} (hv : Value.okWide Try.prog w r b0 73 v) (h : DataW.Trod enc Try.prog w base (fun _ => true) held 73 v d p) :
    ∃ (a : Option Addr) (len cap : Nat) (xs : List Dp), v = .slice a len cap ∧ (xs.length = len ∧ len ≤ maxLen ∧ IsDeps w a xs) := by
  obtain ⟨a, len, cap, rfl⟩ := okWide_slice Try.underlying73 hv
  obtain ⟨fuel, hf⟩ := h
  obtain ⟨xs, hx⟩ := deps_cells (by simpa [Value.cells] using hf)
  exact ⟨a, len, cap, xs, rfl, hx⟩

theorem cellsBool : Try.prog.cellsOf 4 = 1 := by kernel_rfl

theorem cellsDepS : Try.prog.cellsOf 73 = 1 := by kernel_rfl

theorem cellsWrite : Try.prog.cellsOf 75 = 7 := by kernel_rfl

theorem slice_cells {fuel : Nat} {v : Value} {x : DataW H × List MemPlace} (h : DataW.trod enc Try.prog w base spare held fuel 73 [v] = some x) : ∃ a len cap, v = .slice a len cap := by
  rcases open_slice Try.underlying73 h with ⟨hcs, _⟩ | ⟨a', len', cap', m, n, D, Pl, hcs, _⟩
  · simp at hcs
    exact ⟨_, _, _, hcs⟩
  · simp at hcs
    exact ⟨_, _, _, hcs⟩

theorem open_write {b0 : Nat} {r : Reach} {v : Value} {d : DataW H} {p : List MemPlace} (hv : Value.okWide Try.prog w r b0 75 v) (h : DataW.Trod enc Try.prog w base (fun _ => true) held 75 v d p) :
    ∃ (k c s q va : Int) (de : Bool) (a : Option Addr) (len cap : Nat) (xs : List Dp), v = .agg #[.int .i64 k, .int .i64 c, .int .i64 s, .int .i64 q, .int .i64 va, .bool de, .slice a len cap] ∧ (xs.length = len ∧ len ≤ maxLen ∧ IsDeps w a xs) := by
  obtain ⟨cs, rfl, hsz⟩ := okWide_struct Try.underlying75 hv
  rw [cellsWrite] at hsz
  obtain ⟨fuel, hf⟩ := h
  obtain ⟨xs', n, _, _, _, hlen, hfd⟩ := DataW.trod_struct Try.underlying75 hf
  cases cs with
  | mk l =>
    have hl : l.length = 7 := by simpa using hsz
    match l, hl, xs', hlen with
    | [v0, v1, v2, v3, v4, v5, v6], _, [y0, y1, y2, y3, y4], _ =>
      have g0 := hfd 0 _ rfl
      have g1 := hfd 1 _ rfl
      have g2 := hfd 2 _ rfl
      have g3 := hfd 3 _ rfl
      have g4 := hfd 4 _ rfl
      simp [Value.cells, cellsInt, cellsTag, cellsBool, cellsDepS] at g0 g1 g2 g3 g4
      obtain ⟨k, e0, _, _⟩ := DataW.trod_int Try.underlying3 g0
      obtain ⟨c, s, q, e1⟩ := tag_cells g1
      obtain ⟨va, e2, _, _⟩ := DataW.trod_int Try.underlying3 g2
      obtain ⟨de, e3, _⟩ := DataW.trod_bool Try.underlying4 g3
      obtain ⟨a, len, cap, e4⟩ := slice_cells g4
      simp at e0 e1 e2 e3
      obtain ⟨e1, e1', e1''⟩ := e1
      subst e0 e1 e1' e1'' e2 e3 e4
      obtain ⟨xs, hx⟩ := deps_cells g4
      exact ⟨k, c, s, q, va, de, a, len, cap, xs, rfl, hx⟩

end
end Go.Proofs.Ytojgahcogpediaa

/- What comes in, opened: slices of writes. -/
namespace Go.Proofs.Ytojgahcogpediaa
open Go.ChangeShapes Go.WideShapes Go.ChangeAt Go.RowKit Go.Joins Go.Deep
set_option maxRecDepth 100000

section
variable {H : Type} {enc : TypeId × Value → H} {w : World} {base : Nat} {spare : Nat → Bool} {held : Bool}

theorem write_cells {fuel : Nat} {cs : List Value} {x : DataW H × List MemPlace} (h : DataW.trod enc Try.prog w base spare held fuel 75 cs = some x) :
    ∃ (y : Wr) (a : Option Addr) (cap : Nat), cs = [.int .i64 y.k, .int .i64 y.c, .int .i64 y.s, .int .i64 y.q, .int .i64 y.v, .bool y.de, .slice a y.xs.length cap] ∧ y.xs.length ≤ maxLen ∧ IsDeps w a y.xs := by
  obtain ⟨xs', n, hl0, _, _, hlen, hfd⟩ := DataW.trod_struct Try.underlying75 h
  have hl : cs.length = 7 := by rw [cellsWrite] at *; assumption
  match cs, hl, xs', hlen with
  | [v0, v1, v2, v3, v4, v5, v6], _, [y0, y1, y2, y3, y4], _ =>
    have g0 := hfd 0 _ rfl
    have g1 := hfd 1 _ rfl
    have g2 := hfd 2 _ rfl
    have g3 := hfd 3 _ rfl
    have g4 := hfd 4 _ rfl
    simp [cellsInt, cellsTag, cellsBool, cellsDepS] at g0 g1 g2 g3 g4
    obtain ⟨k, e0, _, _⟩ := DataW.trod_int Try.underlying3 g0
    obtain ⟨c, s, q, e1⟩ := tag_cells g1
    obtain ⟨va, e2, _, _⟩ := DataW.trod_int Try.underlying3 g2
    obtain ⟨de, e3, _⟩ := DataW.trod_bool Try.underlying4 g3
    obtain ⟨a, len, cap, e4⟩ := slice_cells g4
    simp at e0 e1 e2 e3
    obtain ⟨e1, e1', e1''⟩ := e1
    subst e0 e1 e1' e1'' e2 e3 e4
    obtain ⟨xs, hx1, hx2, hx3⟩ := deps_cells g4
    subst hx1
    exact ⟨⟨k, c, s, q, va, de, xs⟩, a, cap, rfl, hx2, hx3⟩

theorem ws_cells {fuel : Nat} {a : Option Addr} {len cap : Nat} {x : DataW H × List MemPlace} (h : DataW.trod enc Try.prog w base spare held fuel 35 [.slice a len cap] = some x) :
    ∃ ws : List Wr, ws.length = len ∧ len ≤ maxLen ∧ IsWs w a ws := by
  rcases open_slice Try.underlying35 h with ⟨hcs, _⟩ | ⟨a', len', cap', m, n, D, Pl, hcs, _, hl, hm, hmm, _, hel⟩
  · simp at hcs
    obtain ⟨rfl, rfl, rfl⟩ := hcs
    exact ⟨[], rfl, Nat.zero_le _, .inl rfl⟩
  · simp at hcs
    obtain ⟨rfl, rfl, rfl⟩ := hcs
    have hml : len ≤ m := by rw [hmm]; split <;> omega
    have hd : ∀ i, i < len → ∃ y : Wr, ∃ (ad : Option Addr) (cp : Nat), w.cell? (a'.add (i * 7)) = some (.int .i64 y.k) ∧ w.cell? (a'.add (i * 7 + 1)) = some (.int .i64 y.c) ∧ w.cell? (a'.add (i * 7 + 2)) = some (.int .i64 y.s) ∧ w.cell? (a'.add (i * 7 + 3)) = some (.int .i64 y.q) ∧ w.cell? (a'.add (i * 7 + 4)) = some (.int .i64 y.v) ∧ w.cell? (a'.add (i * 7 + 5)) = some (.bool y.de) ∧ w.cell? (a'.add (i * 7 + 6)) = some (.slice ad y.xs.length cp) ∧ y.xs.length ≤ maxLen ∧ IsDeps w ad y.xs := by
      intro i hi
      obtain ⟨cs', h1, h2⟩ := hel i (by omega)
      rw [cellsWrite] at h1
      obtain ⟨_, _, hc⟩ := World.cells?_some h1
      obtain ⟨y, ad, cp, hdd, hy1, hy2⟩ := write_cells h2
      rw [hdd] at hc
      have c0 := hc 0 (by omega)
      have c1 := hc 1 (by omega)
      have c2 := hc 2 (by omega)
      have c3 := hc 3 (by omega)
      have c4 := hc 4 (by omega)
      have c5 := hc 5 (by omega)
      have c6 := hc 6 (by omega)
      rw [add_add] at c0 c1 c2 c3 c4 c5 c6
      exact ⟨y, ad, cp, by simpa using c0, by simpa using c1, by simpa using c2, by simpa using c3, by simpa using c4, by simpa using c5, by simpa using c6, hy1, hy2⟩
    by_cases h0 : len = 0
    · subst h0
      exact ⟨[], rfl, Nat.zero_le _, .inl rfl⟩
    have : Inhabited Wr := ⟨wz⟩
    obtain ⟨f, hf⟩ := choose_lt hd
    have ha : a' = ⟨a'.block, a'.off, none⟩ := by
      obtain ⟨_, _, h1, _⟩ := hf 0 (by omega)
      simp [Addr.add] at h1
      exact add_form h1
    refine ⟨(List.range len).map f, by simp, by omega, .inr ⟨a'.block, a'.off, by rw [← ha], ?_, ?_⟩⟩
    · obtain ⟨cs', h1, _⟩ := hel 0 (by omega)
      rw [cellsWrite] at h1
      have h2 := World.cells?_block h1 (by omega)
      simpa [Addr.add] using h2
    · intro i hi
      have hi' : i < len := by simpa using hi
      have hg : ((List.range len).map f).getD i wz = f i := by simp [List.getD, hi']
      rw [hg]
      obtain ⟨ad, cp, h1, h2, h3, h4, h5, h6, h7, h8, h9⟩ := hf i hi'
      rw [ha] at h1 h2 h3 h4 h5 h6 h7
      rw [add_plain] at h1 h2 h3 h4 h5 h6 h7
      exact ⟨ad, cp, ⟨h1, h2, h3, h4, h5, h6, h7⟩, h8, h9⟩

theorem open_ws {b0 : Nat} {r : Reach} {v : Value} {d : DataW H} {p : List MemPlace} (hv : Value.okWide Try.prog w r b0 35 v) (h : DataW.Trod enc Try.prog w base (fun _ => true) held 35 v d p) :
    ∃ (a : Option Addr) (len cap : Nat) (ws : List Wr), v = .slice a len cap ∧ (ws.length = len ∧ len ≤ maxLen ∧ IsWs w a ws) := by
  obtain ⟨a, len, cap, rfl⟩ := okWide_slice Try.underlying35 hv
  obtain ⟨fuel, hf⟩ := h
  obtain ⟨ws, hx⟩ := ws_cells (by simpa [Value.cells] using hf)
  exact ⟨a, len, cap, ws, rfl, hx⟩

end
end Go.Proofs.Ytojgahcogpediaa

/- Boxes of writes: one, and two of them, in every later world. -/
namespace Go.Proofs.Ytojgahcogpediaa
open Go.ChangeShapes Go.WideShapes Go.ChangeAt Go.RowKit Go.Joins

structure BoxAt (b : Nat) (w : World) (k c s q v : Int) (de : Bool) (a : Option Addr) (len cap : Nat) : Prop where
  lt : b < w.heap.size
  c0 : w.cell? ⟨b, 0, none⟩ = some (.int .i64 k)
  c1 : w.cell? ⟨b, 1, none⟩ = some (.int .i64 c)
  c2 : w.cell? ⟨b, 2, none⟩ = some (.int .i64 s)
  c3 : w.cell? ⟨b, 3, none⟩ = some (.int .i64 q)
  c4 : w.cell? ⟨b, 4, none⟩ = some (.int .i64 v)
  c5 : w.cell? ⟨b, 5, none⟩ = some (.bool de)
  c6 : w.cell? ⟨b, 6, none⟩ = some (.slice a len cap)

theorem BoxAt.step {b : Nat} {w w1 : World} {k c s q v : Int} {de : Bool} {a : Option Addr} {len cap : Nat} (h : BoxAt b w k c s q v de a len cap) (hb : Below w.heap.size w w1) : BoxAt b w1 k c s q v de a len cap where
  lt := Nat.lt_of_lt_of_le h.lt hb.size
  c0 := held_cell hb h.c0 h.lt
  c1 := held_cell hb h.c1 h.lt
  c2 := held_cell hb h.c2 h.lt
  c3 := held_cell hb h.c3 h.lt
  c4 := held_cell hb h.c4 h.lt
  c5 := held_cell hb h.c5 h.lt
  c6 := held_cell hb h.c6 h.lt

theorem BoxAt.start {w w1 : World} {k c s q v : Int} {de : Bool} {a : Option Addr} {len cap t : Nat} (hb : Below (w.alloc (.cells #[.int .i64 k, .int .i64 c, .int .i64 s, .int .i64 q, .int .i64 v, .bool de, .slice a len cap] t)).heap.size (w.alloc (.cells #[.int .i64 k, .int .i64 c, .int .i64 s, .int .i64 q, .int .i64 v, .bool de, .slice a len cap] t)) w1) : BoxAt w.heap.size w1 k c s q v de a len cap where
  lt := by have := hb.size; simp at this; omega
  c0 := box_cells hb 0 (by simp)
  c1 := box_cells hb 1 (by simp)
  c2 := box_cells hb 2 (by simp)
  c3 := box_cells hb 3 (by simp)
  c4 := box_cells hb 4 (by simp)
  c5 := box_cells hb 5 (by simp)
  c6 := box_cells hb 6 (by simp)

abbrev PairIn (W0 : World) (b b2 : Nat) (k c s q v : Int) (de : Bool) (a : Option Addr) (len cap : Nat) (k' c' s' q' v' : Int) (de' : Bool) (a' : Option Addr) (len' cap' : Nat) (W : World) : Prop :=
  W.cell? ⟨b, 0, none⟩ = some (.int .i64 k) ∧ W.cell? ⟨b, 1, none⟩ = some (.int .i64 c) ∧ W.cell? ⟨b, 2, none⟩ = some (.int .i64 s) ∧ W.cell? ⟨b, 3, none⟩ = some (.int .i64 q) ∧ W.cell? ⟨b, 4, none⟩ = some (.int .i64 v) ∧ W.cell? ⟨b, 5, none⟩ = some (.bool de) ∧ W.cell? ⟨b, 6, none⟩ = some (.slice a len cap) ∧ W.cell? ⟨b2, 0, none⟩ = some (.int .i64 k') ∧ W.cell? ⟨b2, 1, none⟩ = some (.int .i64 c') ∧ W.cell? ⟨b2, 2, none⟩ = some (.int .i64 s') ∧ W.cell? ⟨b2, 3, none⟩ = some (.int .i64 q') ∧ W.cell? ⟨b2, 4, none⟩ = some (.int .i64 v') ∧ W.cell? ⟨b2, 5, none⟩ = some (.bool de') ∧ W.cell? ⟨b2, 6, none⟩ = some (.slice a' len' cap') ∧ b < W.heap.size ∧ b2 < W.heap.size ∧ Below W0.heap.size W0 W

theorem pair_start {W : World} {b b2 : Nat} {k c s q v : Int} {de : Bool} {a : Option Addr} {len cap : Nat} {k' c' s' q' v' : Int} {de' : Bool} {a' : Option Addr} {len' cap' : Nat} (h : BoxAt b W k c s q v de a len cap) (h2 : BoxAt b2 W k' c' s' q' v' de' a' len' cap') : PairIn W b b2 k c s q v de a len cap k' c' s' q' v' de' a' len' cap' W.drew :=
  ⟨h.c0, h.c1, h.c2, h.c3, h.c4, h.c5, h.c6, h2.c0, h2.c1, h2.c2, h2.c3, h2.c4, h2.c5, h2.c6, h.lt, h2.lt, (Below.refl _ _).drew⟩

theorem pair_step {W0 W w1 : World} {b b2 : Nat} {k c s q v : Int} {de : Bool} {a : Option Addr} {len cap : Nat} {k' c' s' q' v' : Int} {de' : Bool} {a' : Option Addr} {len' cap' : Nat} (h : PairIn W0 b b2 k c s q v de a len cap k' c' s' q' v' de' a' len' cap' W) (hb : Below W.heap.size W w1) : PairIn W0 b b2 k c s q v de a len cap k' c' s' q' v' de' a' len' cap' w1 := by
  obtain ⟨e0, e1, e2, e3, e4, e5, e6, f0, f1, f2, f3, f4, f5, f6, hz, hz2, hB⟩ := h
  exact ⟨held_cell hb e0 hz, held_cell hb e1 hz, held_cell hb e2 hz, held_cell hb e3 hz, held_cell hb e4 hz, held_cell hb e5 hz, held_cell hb e6 hz, held_cell hb f0 hz2, held_cell hb f1 hz2, held_cell hb f2 hz2, held_cell hb f3 hz2, held_cell hb f4 hz2, held_cell hb f5 hz2, held_cell hb f6 hz2, Nat.lt_of_lt_of_le hz hb.size, Nat.lt_of_lt_of_le hz2 hb.size, below_step hB hB.size hb⟩

end Go.Proofs.Ytojgahcogpediaa
