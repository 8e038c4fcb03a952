import Derived.Test.YtolmlcbgdihcbaaPack4
import Derived.Test.YtolmlcbgdihcbaaPack3
import Derived.OneCell
import Derived.Test.YtolmlcbgdihcbaaPack2
/- An append inside a region that draws its order; what its operations may turn. -/
namespace Go.Proofs.Ytolmlcbgdihcbaa
open Go.ChangeShapes Go.WideShapes Go.ChangeAt Go.RowKit Go.Joins

theorem add_block (g j : Nat) : ((⟨g, 0, none⟩ : Addr).add j) = ⟨g, j, none⟩ := by
  unfold Addr.add
  split
  · rename_i h
    rw [h]
  · simp

theorem got_append {P : Program} {K : Value → World → Prop} {o : Oper} {ρ : Operand → Value} {w : World} (s x : Operand) (t : TypeId)
    (ho : o.op = .call { callee := .builtin .append, args := #[s, x], argTypes := #[t, t] })
    (base : Nat) (e : TypeId) (i : TypeInfo) (z : Value) (size bytes : Nat) (ht : P.underlying t = some (.slice e)) (hi : P.info? e = some i) (hz : i.zero = some z)
    (hsize : i.size = size) (hby : i.bytes = bytes) (hzs : z.cells.size = size) (hsz : 0 < size)
    (v : Value) (n : Nat) (xs : List Value) (hs : ρ s = v) (hown : w.ownsRow base e size v n xs)
    (ad : Addr) (m c : Nat) (news : List Value) (hx : ρ x = .slice (some ad) m c) (hl : news.length = m * size) (hnews : ∀ j u, news[j]? = some u → w.cell? (ad.add j) = some u) (h1 : ∀ u ∈ news, u.oneCell' = true)
    (hm : 0 < m) (h63 : n + m ≤ maxLen) (hbytes : (n + m) * bytes ≤ 140737488355328) (hbase : base ≤ w.heap.size) (H : Nat) (hH : w.heap.size = H)
    (h : ∀ g cap w', w'.ownsRow base e size (.slice (some ⟨g, 0, none⟩) (n + m) cap) (n + m) (xs ++ news) → w.grownBy w' v.ownBlock → (v.ownBlock = some g ∨ g = H) → g < w'.heap.size → K (.slice (some ⟨g, 0, none⟩) (n + m) cap) w') : got P K ((execOp ρ o).run P w) := by
  obtain ⟨g, cap, w', hr, h2, h3, h4, h5⟩ := run_append_lies (P := P) w t o.type base e i z size bytes ht hi hz hsize hby hzs hsz v n xs hown ad m c news hl hnews h1 hm h63 hbytes hbase H hH
  unfold execOp
  simp only [ho, resolve, invoke, builtin, Sem.run_bind, Sem.run_pure, Result.andThen_ok, List.map_toArray, List.map_cons, List.map_nil, hs, hx, hr]
  exact h g cap w' h2 h3 h4 h5

/-- What an operation may turn: the append, which fills slot s, the block of its row; all others nothing that was there. -/
def AppS (s : Tmp) (ob : Option Nat) : ReachU := fun d w w' => if d = some s then w.grownBy w' ob else Below w.heap.size w w'

theorem appS_below {s : Tmp} {ob : Option Nat} {d : Option Tmp} {w w' : World} (hd : d ≠ some s) (h : AppS s ob d w w') : Below w.heap.size w w' := by
  unfold AppS at h
  rw [if_neg hd] at h
  exact h

theorem appS_refl {s : Tmp} {ob : Option Nat} {d : Option Tmp} (hd : d ≠ some s) (w : World) : AppS s ob d w w := by
  unfold AppS
  rw [if_neg hd]
  exact Below.refl _ _

theorem appS_alloc {s : Tmp} {ob : Option Nat} {d : Option Tmp} (hd : d ≠ some s) (w : World) (o : Obj) : AppS s ob d w (w.alloc o) := by
  unfold AppS
  rw [if_neg hd]
  exact (Below.refl _ _).alloc (Nat.le_refl _) _

theorem appS_grown {s : Tmp} {ob : Option Nat} {w w' : World} (h : w.grownBy w' ob) : AppS s ob (some s) w w' := by
  unfold AppS
  rw [if_pos rfl]
  exact h

theorem grown_of_below {w w' : World} (h : Below w.heap.size w w') (ob : Option Nat) : w.grownBy w' ob := ⟨h.os, h.tape, h.output, h.size, fun k hk _ => h.block k hk⟩

theorem appS_any {s : Tmp} {ob : Option Nat} {d : Option Tmp} {w w' : World} (h : AppS s ob d w w') : w.grownBy w' ob := by
  by_cases hd : d = some s
  · unfold AppS at h
    rw [if_pos hd] at h
    exact h
  · exact grown_of_below (appS_below hd h) ob

theorem grown_trans {w w' w2 : World} {ob : Option Nat} (h : w.grownBy w' ob) (h' : w'.grownBy w2 ob) : w.grownBy w2 ob :=
  ⟨h'.os.trans h.os, h'.tape.trans h.tape, h'.output.trans h.output, Nat.le_trans h.size h'.size, fun k hk hn => (h'.block k (Nat.lt_of_lt_of_le hk h.size) hn).trans (h.block k hk hn)⟩

theorem grown_set (w : World) (b o : Nat) (v : Value) : w.grownBy (w.setCell ⟨b, o, none⟩ v) (some b) := by
  refine ⟨rfl, rfl, rfl, by simp, fun k hk hne => ?_⟩
  have : b ≠ k := fun e => hne (by rw [e])
  simp [World.setCell, Array.getElem?_modify, this]

end Go.Proofs.Ytolmlcbgdihcbaa

/- The specification's VecJoin. -/
namespace Go.Proofs.Ytolmlcbgdihcbaa
open Go.ChangeShapes Go.WideShapes Go.ChangeAt Go.RowKit Go.Joins
attribute [local go_sem ↓] Go.wp_at_zero Go.wp_at_succ

/-- What lies where in a round of the specification's VecJoin. -/
structure JoinS (w wr : World) (a a' : Option Addr) (cap cap' : Nat) (x : Option Addr) (k cpd : Nat) (zs : List Int) : Prop where
  low : Below w.heap.size w wr
  b0 : wr.heap[w.heap.size]? = some (.cells #[.slice a 4 cap] 27 (0, 0))
  b1 : wr.heap[w.heap.size + 1]? = some (.cells #[.slice a' 4 cap'] 27 (0, 0))
  b2 : wr.heap[w.heap.size + 1 + 1]? = some (.cells #[.slice none 0 0] 27 (0, 0))
  b3 : wr.heap[w.heap.size + 1 + 1 + 1]? = some (.cells #[.slice x k cpd] 27 (0, 0))
  row : RowI wr (w.heap.size + 1 + 1 + 1 + 1) (.slice x k cpd) zs
  len : zs.length = k

theorem JoinS.lt {w wr : World} {a a' : Option Addr} {cap cap' : Nat} {x : Option Addr} {k cpd : Nat} {zs : List Int} (h : JoinS w wr a a' cap cap' x k cpd zs) : w.heap.size + 1 + 1 + 1 < wr.heap.size := (Array.getElem?_eq_some_iff.1 h.b3).1

/-- The cells that stay while the row grows. -/
theorem JoinS.cells {w wr w' : World} {a a' : Option Addr} {cap cap' : Nat} {x : Option Addr} {k cpd : Nat} {zs : List Int} (h : JoinS w wr a a' cap cap' x k cpd zs) (hG : wr.grownBy w' (Value.slice x k cpd).ownBlock) :
    (w'.heap[w.heap.size]? = some (.cells #[.slice a 4 cap] 27 (0, 0)) ∧ w'.heap[w.heap.size + 1]? = some (.cells #[.slice a' 4 cap'] 27 (0, 0)) ∧ w'.heap[w.heap.size + 1 + 1]? = some (.cells #[.slice none 0 0] 27 (0, 0)) ∧ w'.heap[w.heap.size + 1 + 1 + 1]? = some (.cells #[.slice x k cpd] 27 (0, 0))) ∧ Below w.heap.size w w' := by
  have hl := h.lt
  have hb : ∀ j, j < w.heap.size + 1 + 1 + 1 + 1 → w'.heap[j]? = wr.heap[j]? := fun j hj => hG.block j (by omega) fun e => by
    have := World.ownsRow.lt h.row j e.symm
    omega
  exact ⟨⟨(hb _ (by omega)).trans h.b0, (hb _ (by omega)).trans h.b1, (hb _ (by omega)).trans h.b2, (hb _ (by omega)).trans h.b3⟩, h.low.grown hG h.low.size fun j hj => by
    have := World.ownsRow.lt h.row j hj
    omega⟩

theorem cells_one {w : World} {b t : Nat} {v : Value} (h : w.heap[b]? = some (.cells #[v] t (0, 0))) : w.cell? ⟨b, 0, none⟩ = some v ∧ (∀ o, w.frozen? ⟨b, o, none⟩ = false) ∧ b < w.heap.size :=
  ⟨by rw [cell_of_row w b 0 _ t (0, 0) h]; rfl, fun o => frozen_of_row w b o _ t h, (Array.getElem?_eq_some_iff.1 h).1⟩

theorem zip_take (xs ys : List Int) (k : Nat) (hx : k < xs.length) (hy : k < ys.length) : (List.zipWith max xs ys).take (k + 1) = (List.zipWith max xs ys).take k ++ [max (xs.getD k 0) (ys.getD k 0)] := by
  rw [List.take_add_one, List.getElem?_eq_getElem (by simp; omega)]
  simp [List.getD, hx, hy]

/-- The box behind an append: the row is one longer. -/
theorem JoinS.next {w wr w' : World} {a a' : Option Addr} {cap cap' : Nat} {x : Option Addr} {k cpd g c : Nat} {zs : List Int} {z : Int} (h : JoinS w wr a a' cap cap' x k cpd zs) (hG : wr.grownBy w' (Value.slice x k cpd).ownBlock)
    (hr : RowI w' (w.heap.size + 1 + 1 + 1 + 1) (.slice (some ⟨g, 0, none⟩) (k + 1) c) (zs ++ [z])) :
    JoinS w (w'.setCell ⟨w.heap.size + 1 + 1 + 1, 0, none⟩ (.slice (some ⟨g, 0, none⟩) (k + 1) c)) a a' cap cap' (some ⟨g, 0, none⟩) (k + 1) c (zs ++ [z]) := by
  obtain ⟨⟨c0, c1, c2, c3⟩, hlow⟩ := h.cells hG
  refine ⟨hlow.setCell (p := ⟨w.heap.size + 1 + 1 + 1, 0, none⟩) (by show w.heap.size ≤ w.heap.size + 1 + 1 + 1; omega) _, ?_, ?_, ?_, ?_, ?_, by simp [h.len]⟩
  · exact (Below.heap_setCell _ _ _ _ (by show w.heap.size ≠ w.heap.size + 1 + 1 + 1; omega)).trans c0
  · exact (Below.heap_setCell _ _ _ _ (by show w.heap.size + 1 ≠ w.heap.size + 1 + 1 + 1; omega)).trans c1
  · exact (Below.heap_setCell _ _ _ _ (by show w.heap.size + 1 + 1 ≠ w.heap.size + 1 + 1 + 1; omega)).trans c2
  · exact one_setCell c3
  · exact ownsRow_setCell_below (a := ⟨w.heap.size + 1 + 1 + 1, 0, none⟩) hr (Nat.lt_succ_self _) _

theorem heap_four (w : World) (o1 o2 o3 o4 : Obj) : ((((w.alloc o1).alloc o2).alloc o3).alloc o4).heap[w.heap.size]? = some o1 ∧ ((((w.alloc o1).alloc o2).alloc o3).alloc o4).heap[w.heap.size + 1]? = some o2 ∧ ((((w.alloc o1).alloc o2).alloc o3).alloc o4).heap[w.heap.size + 1 + 1]? = some o3 ∧ ((((w.alloc o1).alloc o2).alloc o3).alloc o4).heap[w.heap.size + 1 + 1 + 1]? = some o4 := by
  refine ⟨?_, ?_, ?_, ?_⟩
  · rw [Below.heap_alloc _ _ _ (by simp; omega), Below.heap_alloc _ _ _ (by simp; omega), Below.heap_alloc _ _ _ (by simp)]
    exact heap_alloc_new w o1
  · rw [Below.heap_alloc _ _ _ (by simp), Below.heap_alloc _ _ _ (by simp)]
    have := heap_alloc_new (w.alloc o1) o2
    simpa using this
  · rw [Below.heap_alloc _ _ _ (by simp)]
    have := heap_alloc_new ((w.alloc o1).alloc o2) o3
    simpa using this
  · have := heap_alloc_new (((w.alloc o1).alloc o2).alloc o3) o4
    simpa using this

/-- A new number of one's own. -/
def OneI (ob : Option Nat) (z : Int) : Fact := fun v w => ∃ g', v = .slice (some ⟨g', 0, none⟩) 1 1 ∧ g' < w.heap.size ∧ ob ≠ some g' ∧ ∀ j u, ([intV z] : List Value)[j]? = some u → w.cell? ((⟨g', 0, none⟩ : Addr).add j) = some u

theorem lasts_oneI (z : Tmp) (U : Tmp → Option Tmp) (dst : Option Tmp) (ob : Option Nat) (d : Int) : lastsU U (AppS z ob) dst (OneI ob d) := by
  rintro d' _ _ v w w' ⟨g', h1, h2, h3, h4⟩ hr
  have hG := appS_any hr
  have hb : w'.heap[g']? = w.heap[g']? := hG.block g' h2 fun e => h3 e.symm
  exact ⟨g', h1, Nat.lt_of_lt_of_le h2 hG.size, h3, fun j u hu => (World.cell?_of_block (a := (⟨g', 0, none⟩ : Addr).add j) (by rw [add_block]; exact hb)).trans (h4 j u hu)⟩

/-- A row of numbers that has grown by one. -/
def RowF (base k : Nat) (zs : List Int) : Fact := fun v w => ∃ g c, v = .slice (some ⟨g, 0, none⟩) (k + 1) c ∧ RowI w base (.slice (some ⟨g, 0, none⟩) (k + 1) c) zs

theorem lasts_rowF (z : Tmp) (U : Tmp → Option Tmp) (ob : Option Nat) (base k : Nat) (zs : List Int) : lastsU U (AppS z ob) (some z) (RowF base k zs) := by
  rintro d' hd _ v w w' ⟨g3, cp3, h1, h2⟩ hr
  exact ⟨g3, cp3, h1, h2.below (appS_below hd hr)⟩

set_option maxRecDepth 100000 in
set_option maxHeartbeats 4000000 in
theorem specVecJoin_any (a a' : Option Addr) (n n' cap cap' : Nat) (xs ys : List Int) (w : World) (hl : xs.length = n) (hn : n ≤ maxLen) (hh : IsIs w a xs) (hl' : ys.length = n') (hn' : n' ≤ maxLen) (hh' : IsIs w a' ys) :
    Calls Try.prog 14 #[vecV a n cap, vecV a' n' cap'] w fun e w' => ∃ g cp, e = .returned (vecV g (joinV xs ys).length cp) ∧ OwnI w' w.heap.size w'.heap.size g (joinV xs ys) ∧ Below w.heap.size w w' := by
  have hres : Try.f14.results = #[.cell 4 27] := by kernel_rfl
  have HB0 : Hid (Below w.heap.size w ((((w.alloc (.cells #[.slice a n cap] 27)).alloc (.cells #[.slice a' n' cap'] 27)).alloc (.cells #[.slice none 0 0] 27)).alloc (.cells #[.slice none 0 0] 27))) := ((((Below.refl _ _).alloc (Nat.le_refl _) _).alloc (by simp) _).alloc (by simp; omega) _).alloc (by simp; omega) _
  have HC : Hid (∀ W, Below w.heap.size w W → Calls Try.prog 10 #[vecV a n cap] W fun e w' => e = .returned (.bool (vecB xs)) ∧ Below W.heap.size W w') := fun W hW => specVecOk_any a n cap xs W hl hn (hh.below hW)
  have HC' : Hid (∀ W, Below w.heap.size w W → Calls Try.prog 10 #[vecV a' n' cap'] W fun e w' => e = .returned (.bool (vecB ys)) ∧ Below W.heap.size W w') := fun W hW => specVecOk_any a' n' cap' ys W hl' hn' (hh'.below hW)
  have HZ : Hid (((((w.alloc (.cells #[.slice a n cap] 27)).alloc (.cells #[.slice a' n' cap'] 27)).alloc (.cells #[.slice none 0 0] 27)).alloc (.cells #[.slice none 0 0] 27)).heap.size = w.heap.size + 1 + 1 + 1 + 1) := by show _ = _; simp
  cases hv : vecB xs
  · have HJ : Hid (joinV xs ys = []) := joinV_bad (by rw [hv]; rfl)
    rw [hv] at HC
    clear hv hl hh hl' hh'
    go_enter Try.func14, Try.ntmps14
    go_wp2_with fail
    refine (HC.out _ HB0.out).mono ?_
    rintro e w1 ⟨rfl, hb⟩
    have HB1 := Lib.hid (below_step HB0.out HB0.out.size hb)
    obtain ⟨hc, hf⟩ := bcell hb
    have hz : w.heap.size + 1 + 1 + 1 < w1.heap.size := by have := hb.size; rw [HZ.out] at this; omega
    have hz1 : w.heap.size + 1 + 1 < w1.heap.size := by omega
    clear hb
    go_wp2
    refine bodyPost_ret (v := vecV none 0 0) (by simp only [results, hres]; go_simp) rfl ⟨none, 0, by rw [HJ.out]; rfl, by rw [HJ.out]; exact .inl rfl, ?_⟩
    exact HB1.out.setCell (p := ⟨w.heap.size + 1 + 1, 0, none⟩) (Nat.le_add_right _ 2) _
  rw [hv] at HC
  cases hv' : vecB ys
  · have HJ : Hid (joinV xs ys = []) := joinV_bad (by rw [hv', Bool.and_false])
    rw [hv'] at HC'
    clear hv hv' hl hh hl' hh'
    go_enter Try.func14, Try.ntmps14
    go_wp2_with fail
    refine (HC.out _ HB0.out).mono ?_
    rintro e w1 ⟨rfl, hb⟩
    have HB1 := Lib.hid (below_step HB0.out HB0.out.size hb)
    obtain ⟨hc, hf⟩ := bcell hb
    have hz : w.heap.size + 1 + 1 + 1 < w1.heap.size := by have := hb.size; rw [HZ.out] at this; omega
    have hz1 : w.heap.size + 1 + 1 < w1.heap.size := by omega
    have hz2 : w.heap.size + 1 < w1.heap.size := by omega
    clear hb
    go_wp2_with fail
    refine (HC'.out _ HB1.out).mono ?_
    rintro e w2 ⟨rfl, hb⟩
    have HB2 := Lib.hid (below_step HB1.out HB1.out.size hb)
    obtain ⟨hc2, hf2⟩ := bcell hb
    clear hb
    go_wp2
    refine bodyPost_ret (v := vecV none 0 0) (by simp only [results, hres]; go_simp) rfl ⟨none, 0, by rw [HJ.out]; rfl, by rw [HJ.out]; exact .inl rfl, ?_⟩
    exact HB2.out.setCell (p := ⟨w.heap.size + 1 + 1, 0, none⟩) (Nat.le_add_right _ 2) _
  rw [hv'] at HC'
  have HJ : Hid (joinV xs ys = List.zipWith max xs ys) := joinV_good hv hv'
  have hx4 : xs.length = 4 := by obtain ⟨x0, x1, x2, x3, rfl, -⟩ := vecB_four hv; rfl
  have hy4 : ys.length = 4 := by obtain ⟨y0, y1, y2, y3, rfl, -⟩ := vecB_four hv'; rfl
  have hn4 : n = 4 := by omega
  have hn4' : n' = 4 := by omega
  subst hn4 hn4'
  have HH : Hid (IsIs w a xs) := hh
  have HN : Hid (xs.length = 4) := hl
  have HH' : Hid (IsIs w a' ys) := hh'
  have HN' : Hid (ys.length = 4) := hl'
  have HRZ : Hid (Below w.heap.size w ((((w.alloc (.cells #[.slice a 4 cap] 27)).alloc (.cells #[.slice a' 4 cap'] 27)).alloc (.cells #[.slice none 0 0] 27)).alloc (.cells #[.slice none 0 0] 27)) ∧ ((((w.alloc (.cells #[.slice a 4 cap] 27)).alloc (.cells #[.slice a' 4 cap'] 27)).alloc (.cells #[.slice none 0 0] 27)).alloc (.cells #[.slice none 0 0] 27)).heap[w.heap.size]? = some (.cells #[.slice a 4 cap] 27 (0, 0)) ∧ ((((w.alloc (.cells #[.slice a 4 cap] 27)).alloc (.cells #[.slice a' 4 cap'] 27)).alloc (.cells #[.slice none 0 0] 27)).alloc (.cells #[.slice none 0 0] 27)).heap[w.heap.size + 1]? = some (.cells #[.slice a' 4 cap'] 27 (0, 0)) ∧ ((((w.alloc (.cells #[.slice a 4 cap] 27)).alloc (.cells #[.slice a' 4 cap'] 27)).alloc (.cells #[.slice none 0 0] 27)).alloc (.cells #[.slice none 0 0] 27)).heap[w.heap.size + 1 + 1]? = some (.cells #[.slice none 0 0] 27 (0, 0)) ∧ ((((w.alloc (.cells #[.slice a 4 cap] 27)).alloc (.cells #[.slice a' 4 cap'] 27)).alloc (.cells #[.slice none 0 0] 27)).alloc (.cells #[.slice none 0 0] 27)).heap[w.heap.size + 1 + 1 + 1]? = some (.cells #[.slice none 0 0] 27 (0, 0))) := by
    exact ⟨HB0.out, heap_four _ _ _ _ _⟩
  clear hv hv' hl hh hl' hh' hx4 hy4
  go_enter Try.func14, Try.ntmps14
  go_wp2_with fail
  refine (HC.out _ HB0.out).mono ?_
  rintro e w1 ⟨rfl, hb⟩
  have HB1 := Lib.hid (below_step HB0.out HB0.out.size hb)
  obtain ⟨hc, hf⟩ := bcell hb
  have hz : w.heap.size + 1 + 1 + 1 < w1.heap.size := by have := hb.size; rw [HZ.out] at this; omega
  have hz2 : w.heap.size + 1 < w1.heap.size := by omega
  have HS1 := Lib.hid hb
  clear hb
  go_wp2_with fail
  refine (HC'.out _ HB1.out).mono ?_
  rintro e w2 ⟨rfl, hb⟩
  have HB2 := Lib.hid (below_step HB1.out HB1.out.size hb)
  have HS2 : Hid (Below (w.heap.size + 1 + 1 + 1 + 1) ((((w.alloc (.cells #[.slice a 4 cap] 27)).alloc (.cells #[.slice a' 4 cap'] 27)).alloc (.cells #[.slice none 0 0] 27)).alloc (.cells #[.slice none 0 0] 27)) w2) := by
    rw [← HZ.out]
    exact below_step HS1.out HS1.out.size hb
  clear hb hc hf hz hz2 HS1 HC HC'
  have HJS : Hid (JoinS w w2 a a' cap cap' none 0 0 ((List.zipWith max xs ys).take 0)) := ⟨HB2.out, (HS2.out.block _ (by omega)).trans HRZ.out.2.1, (HS2.out.block _ (by omega)).trans HRZ.out.2.2.1, (HS2.out.block _ (by omega)).trans HRZ.out.2.2.2.1, (HS2.out.block _ (by omega)).trans HRZ.out.2.2.2.2, World.ownsRow_nil _ _ _ _, rfl⟩
  clear HS2 HRZ HB2 HB1 HB0 HZ
  go_wp2
  go_loopw [6] (fun i wr => ∃ (k : Nat) (x : Option Addr) (cpd : Nat), k ≤ 4 ∧ i = .int .i64 k ∧ Hid (JoinS w wr a a' cap cap' x k cpd ((List.zipWith max xs ys).take k))) (fun i _ => 4 - (intOf i).toNat)
  case atStart => exact ⟨0, none, 0, Nat.zero_le _, rfl, HJS⟩
  case round =>
    clear HJS
    obtain ⟨k, x, cpd, hk, rfl, HS⟩ := hrel
    obtain ⟨c0, f0, h0⟩ := cells_one HS.out.b0
    obtain ⟨c1, f1, h1⟩ := cells_one HS.out.b1
    obtain ⟨c2, f2, h2⟩ := cells_one HS.out.b2
    obtain ⟨c3, f3, h3⟩ := cells_one HS.out.b3
    by_cases hk' : k < 4
    · have hkx : k < xs.length := by rw [HN.out]; exact hk'
      have hky : k < ys.length := by rw [HN'.out]; exact hk'
      obtain ⟨b, o, rfl, hbl, -⟩ := HH.out.at HS.out.low hkx
      obtain ⟨b', o', rfl, hbl', -⟩ := HH'.out.at HS.out.low hky
      have i1 : (0 : Int) ≤ (k : Int) := by omega
      have i2 : (k : Int) < 4 := by omega
      have HT := Lib.hid (zip_take xs ys k hkx hky)
      have HCL : Hid (∀ w', wr.grownBy w' (Value.slice x k cpd).ownBlock → w'.cell? ⟨w.heap.size, 0, none⟩ = some (.slice (some ⟨b, o, none⟩) 4 cap) ∧ w'.cell? ⟨w.heap.size + 1, 0, none⟩ = some (.slice (some ⟨b', o', none⟩) 4 cap') ∧ w'.cell? ⟨w.heap.size + 1 + 1 + 1, 0, none⟩ = some (.slice x k cpd) ∧ w'.cell? ⟨b, o + k, none⟩ = some (.int .i64 (xs.getD k 0)) ∧ w'.cell? ⟨b', o' + k, none⟩ = some (.int .i64 (ys.getD k 0))) := fun w' hG => by
        obtain ⟨⟨q0, q1, q2, q3⟩, hlow⟩ := HS.out.cells hG
        obtain ⟨_, _, he, -, p0⟩ := HH.out.at hlow hkx
        injection he with he
        injection he with he1 he2
        subst he1 he2
        obtain ⟨_, _, he, -, p1⟩ := HH'.out.at hlow hky
        injection he with he
        injection he with he1 he2
        subst he1 he2
        exact ⟨(cells_one q0).1, (cells_one q1).1, (cells_one q3).1, p0, p1⟩
      have HOB : Hid (∀ g, (Value.slice x k cpd).ownBlock = some g → g < wr.heap.size) := fun g hg => (World.ownsRow.lt HS.out.row g hg).2
      clear c0 f0 h0 c1 f1 h1 c2 f2 h2 c3 f3 h3 hbl hbl' HH HH'
      have c0 := HCL.out wr (grown_of_below (Below.refl _ _) _) |>.1
      generalize xs.getD k 0 = X at *
      generalize ys.getD k 0 = Y at *
      obtain ⟨ob, hob⟩ : ∃ ob, (Value.slice x k cpd).ownBlock = ob := ⟨_, rfl⟩
      rw [hob] at HCL HOB
      have HOE := Lib.hid hob
      clear hob
      go_wp2_with fail
      refine wp_region_slots_u 15 [[(5, false)], [(24, true)], [(2, false)], [(26, true)], [(6, false)], [(27, true), (28, true)], [(29, true)], [(3, false)], [(31, true)], [(6, false)], [(32, true), (33, true)], [(34, true)], [(30, true), (35, true)], [(36, true)], [(25, true), (37, true)]] (fun w' => wr.grownBy w' ob) (fun w' => wr.grownBy w' ob) (fun _ w' => wr.grownBy w' ob) (fun d w' => d = some 38 → RowI w' (w.heap.size + 1 + 1 + 1 + 1) (.slice x k cpd) ((List.zipWith max xs ys).take k)) (fun _ => none) (AppS 38 ob) (by kernel_rfl) (by kernel_rfl) (by rfl) ⟨rfl, rfl, rfl, Nat.le_refl _, fun _ _ _ => rfl⟩ (by kernel_rfl) (fun _ _ => HS.out.row.below (Below.refl _ _).drew) (fun _ h => by cases h) (fun d d' hd w w' h1 h2 h3 => (h1 h3).below (appS_below (h3 ▸ hd) h2)) (fun _ _ _ _ _ _ h => by cases h) (fun d _ w w' h1 h2 => grown_trans h1 (appS_any h2)) (fun _ _ _ h => h) (fun _ _ _ h => h) ?_
      have HRF : Hid (∀ (d : Option Tmp) (w : World), d ≠ some 38 → AppS 38 ob d w w) := fun d w hd => appS_refl hd w
      iterate 13 (apply slotU_eq; · (intro ρ w' ⟨p1, p2, p3⟩ hG hEE hn; obtain ⟨c0, c1, c3, d0, d1⟩ := HCL.out w' hG; simp at hn; go_simp; exact ⟨HRF.out _ _ (by simp), rfl⟩))
      refine slotU_fact (OneI ob (max X Y)) (lasts_oneI _ _ _ _ _) ?_ ?_
      · intro ρ w' ⟨p1, p2, p3⟩ hG hEE hn
        simp at hn
        go_simp
        exact ⟨appS_alloc (by simp) _ _, _, rfl, by simp, fun e => by have h1 := HOB.out _ e; have h2 := hG.size; omega, oneI_cells _ _ _⟩
      refine slotU_fact (RowF (w.heap.size + 1 + 1 + 1 + 1) k ((List.zipWith max xs ys).take k ++ [max X Y])) (lasts_rowF _ _ _ _ _ _) ?_ ?_
      · intro ρ w' ⟨p1, p2, p3⟩ hG hEE hn
        simp at hn
        obtain ⟨f25, g', f37, hg3, hg4, hg5⟩ := hn
        have hown := hEE rfl
        have hlt := HS.out.lt
        have hsz := hG.size
        have hlen := HS.out.len
        unfold RowI at hown
        rw [hlen] at hown
        obtain ⟨i0, hi0, hx0⟩ := Option.map_eq_some_iff.1 infoInt
        simp only [Prod.mk.injEq] at hx0
        refine got_append (.tmp 25) (.tmp 37) _ rfl (w.heap.size + 1 + 1 + 1 + 1) 3 i0 (.int .i64 0) 1 8 Try.underlying22 hi0 hx0.1 hx0.2.1 hx0.2.2 (by rfl) (by omega) (.slice x k cpd) k (((List.zipWith max xs ys).take k).map intV) f25 hown ⟨g', 0, none⟩ 1 1 [intV (max X Y)] f37 (by rfl) hg5 (intV_one [max X Y]) (by omega) (by unfold maxLen; omega) (by omega) (by omega) _ rfl ?_
        intro g3 cp3 w5 h1 h2 h3 h4
        rw [HOE.out] at h2
        refine ⟨appS_grown h2, g3, cp3, rfl, ?_⟩
        unfold RowI
        rw [List.length_append, List.map_append, hlen]
        simpa using h1
      refine slotU_end ?_
      rintro vs w4 hG hF
      simp at hF
      obtain ⟨⟨g3, cp3, f38, hrow⟩, ⟨g', f37, -, -, -⟩, f36, f35, f34, f33, f32, f31, f30, f29, f28, f27, f26, f25, f24⟩ := hF
      have hG' := hG
      rw [← HOE.out] at hG'
      have HN5 := Lib.hid (HS.out.next hG' hrow)
      rw [← HT.out] at HN5
      obtain ⟨⟨-, -, -, q3⟩, -⟩ := HS.out.cells hG'
      obtain ⟨c3, f3, h3⟩ := cells_one q3
      clear hrow hG hG' HRF HS HT HCL HOB q3 c0
      simp only [List.take_succ_cons, List.take_zero, List.drop_succ_cons, List.drop_zero, putAll, f38, f37, f36, f35, f34, f33, f32, f31, f30, f29, f28, f27, f26, f25, f24]
      clear f38 f37 f36 f35 f34 f33 f32 f31 f30 f29 f28 f27 f26 f25 f24
      simp only [Act.put, List.setIfInBounds_toArray, List.set_cons_succ, List.set_cons_zero]
      go_wp2
      exact ⟨⟨k + 1, _, _, by omega, by go_num, HN5⟩, by simp [intOf]; omega⟩
    · have hkk : k = 4 := by omega
      subst hkk
      have hlt := HS.out.lt
      have hz := HN.out
      have hz' := HN'.out
      have hall : (List.zipWith max xs ys).take 4 = joinV xs ys := by
        rw [HJ.out, List.take_of_length_le (by simp; omega)]
      have HR := HS.out.row
      have HL := HS.out.len
      rw [hall] at HR HL
      obtain ⟨ax, cx, hv, ho⟩ := HR.form
      rw [HL] at hv
      injection hv with hv1 hv2 hv3
      subst hv1
      have HO2 := Lib.hid (ho.aside (p := ⟨w.heap.size + 1 + 1, 0, none⟩) (by show w.heap.size + 1 + 1 < w.heap.size + 1 + 1 + 1 + 1; omega) (.slice x 4 cpd))
      have HL2 := Lib.hid HL
      have HB5 := Lib.hid (HS.out.low.setCell (p := ⟨w.heap.size + 1 + 1, 0, none⟩) (Nat.le_add_right _ 2) (.slice x 4 cpd))
      clear hall HR HL ho hv2 hv3 hz hz' HJ
      go_wp2
      refine bodyPost_ret (v := vecV x 4 cpd) (by simp only [results, hres]; go_simp) rfl ⟨x, cpd, by rw [HL2.out], HO2.out.wider (by omega) (by simp), HB5.out⟩

end Go.Proofs.Ytolmlcbgdihcbaa

/- The specification's VecTick. -/
namespace Go.Proofs.Ytolmlcbgdihcbaa
open Go.ChangeShapes Go.WideShapes Go.ChangeAt Go.RowKit Go.Joins
attribute [local go_sem ↓] Go.wp_at_zero Go.wp_at_succ

theorem add_at (b o j : Nat) : ((⟨b, o, none⟩ : Addr).add j) = ⟨b, o + j, none⟩ := by
  unfold Addr.add
  split
  · rename_i h
    rw [h]
    rfl
  · rfl

theorem isIs_row {w : World} {b o : Nat} {ys : List Int} (hh : ∀ i, i < ys.length → w.cell? ⟨b, o + i, none⟩ = some (.int .i64 (ys.getD i 0))) : ∀ j u, (ys.map intV)[j]? = some u → w.cell? ((⟨b, o, none⟩ : Addr).add j) = some u := by
  intro j u hu
  have hj : j < ys.length := by
    have := (List.getElem?_eq_some_iff.1 hu).1
    simpa using this
  rw [add_at, hh j hj, ← hu]
  simp [intV, List.getD, hj]

theorem IsIs.all {w w' : World} {b o : Nat} {zs : List Int} (h : IsIs w (some ⟨b, o, none⟩) zs) (hb : Below w.heap.size w w') : ∀ i, i < zs.length → w'.cell? ⟨b, o + i, none⟩ = some (.int .i64 (zs.getD i 0)) := by
  intro i hi
  obtain ⟨_, _, he, -, e⟩ := h.at hb hi
  injection he with he
  injection he with he1 he2
  subst he1 he2
  exact e

/-- A row of one's own in which one number is set. -/
theorem RowI.set {w : World} {base g n cap : Nat} {zs : List Int} (h : RowI w base (.slice (some ⟨g, 0, none⟩) n cap) zs) (hl : zs.length = n) (q : Nat) (z : Int) : OwnI (w.setCell ⟨g, q, none⟩ (.int .i64 z)) base (w.setCell ⟨g, q, none⟩ (.int .i64 z)).heap.size (some ⟨g, 0, none⟩) (zs.set q z) := by
  obtain ⟨a', c', e, ho⟩ := h.form
  injection e with e1 e2 e3
  subst e1
  rcases ho with h0 | ⟨b, hb, h1, h2, h3, h4, h5⟩
  · subst h0
    exact .inl (by simp)
  · injection hb with hb
    injection hb with hb
    subst hb
    refine .inr ⟨g, rfl, h1, by simpa using h2, by simpa using h3, fun i hi => ?_, fun o => by rw [World.frozen?_setCell]; exact h5 o⟩
    rw [List.length_set] at hi
    by_cases hq : i = q
    · subst hq
      rw [World.cell?_setCell_same _ _ _ (h4 i hi)]
      simp [List.getD, hi]
    · rw [World.cell?_setCell_other _ _ _ _ (by intro e; injection e with e1 e2; exact hq e2.symm), h4 i hi]
      simp [List.getD, Ne.symm hq]

set_option maxRecDepth 100000 in
set_option maxHeartbeats 4000000 in
theorem specVecTick_any (a : Option Addr) (n cap : Nat) (xs : List Int) (si : Int) (w : World) (hl : xs.length = n) (hn : n ≤ maxLen) (hh : IsIs w a xs) :
    Calls Try.prog 20 #[vecV a n cap, .int .i64 si] w fun e w' => ∃ g cp, e = .returned (.tuple #[vecV g (tickV xs si).length cp, .bool (tickOk xs si)]) ∧ OwnI w' w.heap.size w'.heap.size g (tickV xs si) ∧ Below w.heap.size w w' := by
  have hres : Try.f20.results = #[.cell 4 27, .tmp 5] := by kernel_rfl
  have HB0 : Hid (Below w.heap.size w ((w.alloc (.cells #[.slice a n cap] 27)).alloc (.cells #[.slice none 0 0] 27))) := ((Below.refl _ _).alloc (Nat.le_refl _) _).alloc (by simp) _
  have HC : Hid (∀ W, Below w.heap.size w W → Calls Try.prog 10 #[vecV a n cap] W fun e w' => e = .returned (.bool (vecB xs)) ∧ Below W.heap.size W w') := fun W hW => specVecOk_any a n cap xs W hl hn (hh.below hW)
  cases hv : vecB xs
  · have HJ : Hid (tickOk xs si = false) := tickOk_bad hv
    rw [hv] at HC
    clear hv hl hh
    go_enter Try.func20, Try.ntmps20
    go_wp2_with fail
    refine (HC.out _ HB0.out).mono ?_
    rintro e w1 ⟨rfl, hb⟩
    have HB1 := Lib.hid (below_step HB0.out HB0.out.size hb)
    obtain ⟨hc, hf⟩ := bcell hb
    have hz : w.heap.size + 1 < w1.heap.size := by have := hb.size; simp at this; omega
    have hz1 : w.heap.size < w1.heap.size := by omega
    clear hb
    go_wp2
    refine bodyPost_ret (v := .tuple #[vecV none 0 0, .bool false]) (by simp only [results, hres]; go_simp) rfl ⟨none, 0, by rw [HJ.out, tickV_bad HJ.out]; rfl, by rw [tickV_bad HJ.out]; exact .inl rfl, ?_⟩
    exact HB1.out.setCell (p := ⟨w.heap.size + 1, 0, none⟩) (Nat.le_add_right _ 1) _
  rw [hv] at HC
  cases hs : btw si 0 3
  · have HJ : Hid (tickOk xs si = false) := tickOk_off hs
    have HS : Hid (∀ W, Calls Try.prog 43 #[.int .i64 si] W fun e w' => e = .returned (.bool false) ∧ w' = W) := fun W => by
      rw [← hs]
      exact specSite_any si W
    clear hv hs hl hh
    go_enter Try.func20, Try.ntmps20
    go_wp2_with fail
    refine (HC.out _ HB0.out).mono ?_
    rintro e w1 ⟨rfl, hb⟩
    have HB1 := Lib.hid (below_step HB0.out HB0.out.size hb)
    obtain ⟨hc, hf⟩ := bcell hb
    have hz : w.heap.size + 1 < w1.heap.size := by have := hb.size; simp at this; omega
    have hz1 : w.heap.size < w1.heap.size := by omega
    clear hb
    go_wp2_with fail
    refine (HS.out _).mono ?_
    rintro e w2 ⟨rfl, hw⟩
    subst w2
    go_wp2
    refine bodyPost_ret (v := .tuple #[vecV none 0 0, .bool false]) (by simp only [results, hres]; go_simp) rfl ⟨none, 0, by rw [HJ.out, tickV_bad HJ.out]; rfl, by rw [tickV_bad HJ.out]; exact .inl rfl, ?_⟩
    exact HB1.out.setCell (p := ⟨w.heap.size + 1, 0, none⟩) (Nat.le_add_right _ 1) _
  obtain ⟨q, hq, rfl⟩ : ∃ q : Nat, q < 4 ∧ si = (q : Int) := ⟨si.toNat, by have := btw_site hs; omega, by have := btw_site hs; omega⟩
  have HS : Hid (∀ W, Calls Try.prog 43 #[.int .i64 (q : Int)] W fun e w' => e = .returned (.bool true) ∧ w' = W) := fun W => by
    rw [← hs]
    exact specSite_any (q : Int) W
  have hj := tickOk_at (si := (q : Int)) hv hs
  have hx4 : xs.length = 4 := by obtain ⟨x0, x1, x2, x3, rfl, -⟩ := vecB_four hv; rfl
  have hrange : 0 ≤ xs.getD q 0 ∧ xs.getD q 0 ≤ 1000000 := by
    obtain ⟨x0, x1, x2, x3, rfl, h0, h1, h2, h3⟩ := vecB_four hv
    match q, hq with
    | 0, _ => exact h0
    | 1, _ => exact h1
    | 2, _ => exact h2
    | 3, _ => exact h3
  obtain ⟨hr0, hr1⟩ := hrange
  have hn4 : n = 4 := by omega
  subst hn4
  have HH : Hid (IsIs w a xs) := hh
  have HN : Hid (xs.length = 4) := hl
  have hqx : q < xs.length := by omega
  have i1 : (0 : Int) ≤ (q : Int) := by omega
  have i2 : (q : Int) < 4 := by omega
  simp only [Int.toNat_natCast] at hj
  obtain ⟨b, o, rfl, hbl, -⟩ := hh.at (Below.refl _ _) hqx
  clear hl hh hv hs hx4
  by_cases hx : xs.getD q 0 = 1000000
  · have HJ : Hid (tickOk xs (q : Int) = false) := hj.trans (by rw [hx]; rfl)
    have HX := Lib.hid hx
    clear hj hr0 hr1 hx
    go_enter Try.func20, Try.ntmps20
    go_wp2_with fail
    refine (HC.out _ HB0.out).mono ?_
    rintro e w1 ⟨rfl, hb⟩
    have HB1 := Lib.hid (below_step HB0.out HB0.out.size hb)
    obtain ⟨hc, hf⟩ := bcell hb
    have hz : w.heap.size + 1 < w1.heap.size := by have := hb.size; simp at this; omega
    have hz1 : w.heap.size < w1.heap.size := by omega
    clear hb
    have e0 : w1.cell? ⟨b, o + q, none⟩ = some (.int .i64 1000000) := by
      rw [← HX.out]
      exact HH.out.all HB1.out q hqx
    go_wp2_with fail
    refine (HS.out _).mono ?_
    rintro e w2 ⟨rfl, hw⟩
    subst w2
    go_wp2
    refine bodyPost_ret (v := .tuple #[vecV none 0 0, .bool false]) (by simp only [results, hres]; go_simp) rfl ⟨none, 0, by rw [HJ.out, tickV_bad HJ.out]; rfl, by rw [tickV_bad HJ.out]; exact .inl rfl, ?_⟩
    exact HB1.out.setCell (p := ⟨w.heap.size + 1, 0, none⟩) (Nat.le_add_right _ 1) _
  · have HJ : Hid (tickOk xs (q : Int) = true) := hj.trans (by simp only [beq_eq_false_iff_ne.2 hx]; rfl)
    have HL : Hid (tickV xs (q : Int) = xs.set q (xs.getD q 0 + 1)) := tickV_good HJ.out
    obtain ⟨i0, hi0, hx0⟩ := Option.map_eq_some_iff.1 infoInt
    simp only [Prod.mk.injEq] at hx0
    have HI0 := Lib.hid hi0
    have HX0 := Lib.hid hx0
    have HXS : Hid (∃ z, xs.getD q 0 = z ∧ 0 ≤ z ∧ z ≤ 1000000 ∧ z ≠ 1000000) := ⟨_, rfl, hr0, hr1, hx⟩
    clear hj hi0 hx0 hr0 hr1 hx
    go_enter Try.func20, Try.ntmps20
    go_wp2_with fail
    refine (HC.out _ HB0.out).mono ?_
    rintro e w1 ⟨rfl, hb⟩
    have HB1 := Lib.hid (below_step HB0.out HB0.out.size hb)
    obtain ⟨hc, hf⟩ := bcell hb
    have hz : w.heap.size + 1 < w1.heap.size := by have := hb.size; simp at this; omega
    have hz1 : w.heap.size < w1.heap.size := by omega
    clear hb
    have HA1 : Hid (Below w.heap.size w (w1.alloc (.cells #[] 3))) := HB1.out.alloc HB1.out.size _
    have HO0 : Hid ((w1.alloc (.cells #[] 3)).ownsRow w1.heap.size 3 1 (.slice (some ⟨w1.heap.size, 0, none⟩) 0 0) 0 []) := World.ownsRow_made w1 #[] 0 (Nat.le_refl _) (by simp [maxLen]) (by simp)
    have HRC := Lib.hid (isIs_row (HH.out.all HA1.out))
    have e0 := HH.out.all HB1.out q hqx
    obtain ⟨z, hzx, hz0, hz1', hz2'⟩ := HXS.out
    rw [hzx] at e0 HL
    have HZX := Lib.hid hzx
    clear hzx HXS
    go_wp2_with fail
    refine (HS.out _).mono ?_
    rintro e w2 ⟨rfl, hw⟩
    subst w2
    have hlen : (xs.map intV).length = 4 * 1 := by
      rw [List.length_map, HN.out]
    have HLEN := Lib.hid hlen
    clear hlen
    go_wp2_with (at_builtin; refine wpList_append_lies _ (by rfl) _ _ _ (by rfl) w1.heap.size 3 i0 (.int .i64 0) 1 8 Try.underlying22 HI0.out HX0.out.1 HX0.out.2.1 HX0.out.2.2 (by rfl) (by omega) (.slice (some ⟨w1.heap.size, 0, none⟩) 0 0) 0 [] (by rfl) HO0.out ⟨b, o, none⟩ 4 cap (xs.map intV) (by rfl) HLEN.out HRC.out (intV_one xs) (by omega) (by unfold maxLen; omega) (by omega) (by simp) _ rfl ?_; intro g cp w5 hown hgrow hgd hg5; refine Hid.out ?_)
    refine Lib.hid ?_
    have hH5 : Below w1.heap.size w1 w5 := ((Below.refl _ _).alloc (Nat.le_refl _) _).grown hgrow (by simp) fun j hj => by
      simp only [Value.ownBlock, Option.some.injEq] at hj
      omega
    have HB5 := Lib.hid (below_step HB1.out HB1.out.size hH5)
    have HR5 : Hid (RowI w5 w1.heap.size (.slice (some ⟨g, 0, none⟩) 4 cp) xs) := by
      show RowI _ _ _ _
      unfold RowI
      rw [HN.out]
      simpa using hown
    obtain ⟨hc5, hf5⟩ := bcell hH5
    obtain ⟨hgl, -⟩ := World.ownsRow.lt hown g rfl
    have hcg : w5.cell? ⟨g, q, none⟩ = some (.int .i64 z) := by
      rw [World.ownsRow.cellAt hown q (by omega), ← HZX.out]
      simp [intV, List.getD, hqx]
    have hfg : ∀ o, w5.frozen? ⟨g, o, none⟩ = false := fun o => World.ownsRow.frozenAt hown o
    have hzw : w1.heap.size < w5.heap.size := by omega
    have hne : ¬ w.heap.size + 1 = g := by omega
    have hne' : ¬ g = w.heap.size + 1 := by omega
    have hz5 : w.heap.size + 1 < w5.heap.size := by omega
    have hz6 : g < w5.heap.size := hg5
    clear hgd hown hgrow hH5 HO0 HRC HI0 HX0 HLEN HA1
    have HO6 := Lib.hid (((HR5.out.set HN.out q (z + 1)).aside (p := ⟨w.heap.size + 1, 0, none⟩) hz (.slice (some ⟨g, 0, none⟩) 4 cp)).below ((Below.refl _ _).alloc (Nat.le_refl _) (.cells #[.slice (some ⟨g, 0, none⟩) 4 cp] 27)))
    have HB6 := Lib.hid (((HB5.out.setCell (p := ⟨g, q, none⟩) (by show w.heap.size ≤ g; omega) (.int .i64 (z + 1))).setCell (p := ⟨w.heap.size + 1, 0, none⟩) (Nat.le_add_right _ 1) (.slice (some ⟨g, 0, none⟩) 4 cp)).alloc (by have := HB5.out.size; simpa using this) (.cells #[.slice (some ⟨g, 0, none⟩) 4 cp] 27))
    go_wp2
    refine bodyPost_ret (v := .tuple #[vecV (some ⟨g, 0, none⟩) 4 cp, .bool true]) (by simp only [results, hres]; go_simp) rfl ⟨some ⟨g, 0, none⟩, cp, by rw [HJ.out, HL.out, List.length_set, HN.out], ?_, HB6.out⟩
    rw [HL.out]
    exact HO6.out.wider (by omega) (by simp)

end Go.Proofs.Ytolmlcbgdihcbaa

/- The specification's VecCmp. -/
namespace Go.Proofs.Ytolmlcbgdihcbaa
open Go.ChangeShapes Go.WideShapes Go.ChangeAt Go.RowKit Go.Joins
attribute [local go_sem ↓] Go.wp_at_zero Go.wp_at_succ

theorem IsIs.cell {w w' : World} {a : Option Addr} {zs : List Int} {b o : Nat} (h : IsIs w a zs) (ha : a = some ⟨b, o, none⟩) (hb : Below w.heap.size w w') {k : Nat} (hk : k < zs.length) : w'.cell? ⟨b, o + k, none⟩ = some (.int .i64 (zs.getD k 0)) := by
  subst ha
  exact h.all hb k hk

set_option maxRecDepth 100000 in
set_option maxHeartbeats 4000000 in
theorem specVecCmp_any (a a' : Option Addr) (n n' cap cap' : Nat) (xs ys : List Int) (w : World) (hl : xs.length = n) (hn : n ≤ maxLen) (hh : IsIs w a xs) (hl' : ys.length = n') (hn' : n' ≤ maxLen) (hh' : IsIs w a' ys) :
    Calls Try.prog 18 #[vecV a n cap, vecV a' n' cap'] w fun e w' => e = .returned (.int .i64 (cmpV xs ys)) ∧ Below w.heap.size w w' := by
  have HB0 : Hid (Below w.heap.size w ((w.alloc (.cells #[.slice a n cap] 27)).alloc (.cells #[.slice a' n' cap'] 27))) := ((Below.refl _ _).alloc (Nat.le_refl _) _).alloc (by simp) _
  have HC : Hid (∀ W, Below w.heap.size w W → Calls Try.prog 10 #[vecV a n cap] W fun e w' => e = .returned (.bool (vecB xs)) ∧ Below W.heap.size W w') := fun W hW => specVecOk_any a n cap xs W hl hn (hh.below hW)
  have HC' : Hid (∀ W, Below w.heap.size w W → Calls Try.prog 10 #[vecV a' n' cap'] W fun e w' => e = .returned (.bool (vecB ys)) ∧ Below W.heap.size W w') := fun W hW => specVecOk_any a' n' cap' ys W hl' hn' (hh'.below hW)
  cases hv : vecB xs
  · have HJ : Hid (cmpV xs ys = 3) := cmpV_bad (by rw [hv]; rfl)
    rw [hv] at HC
    clear hv hl hh hl' hh'
    go_enter Try.func18, Try.ntmps18
    go_wp2_with fail
    refine (HC.out _ HB0.out).mono ?_
    rintro e w1 ⟨rfl, hb⟩
    have HB1 := Lib.hid (below_step HB0.out HB0.out.size hb)
    obtain ⟨hc, hf⟩ := bcell hb
    have hz : w.heap.size + 1 < w1.heap.size := by have := hb.size; simp at this; omega
    have hz1 : w.heap.size < w1.heap.size := by omega
    clear hb
    go_wp2
    go_ret
    exact ⟨ret_int HJ.out.symm, HB1.out⟩
  rw [hv] at HC
  cases hv' : vecB ys
  · have HJ : Hid (cmpV xs ys = 3) := cmpV_bad (by rw [hv', Bool.and_false])
    rw [hv'] at HC'
    clear hv hv' hl hh hl' hh'
    go_enter Try.func18, Try.ntmps18
    go_wp2_with fail
    refine (HC.out _ HB0.out).mono ?_
    rintro e w1 ⟨rfl, hb⟩
    have HB1 := Lib.hid (below_step HB0.out HB0.out.size hb)
    obtain ⟨hc, hf⟩ := bcell hb
    have hz : w.heap.size + 1 < w1.heap.size := by have := hb.size; simp at this; omega
    have hz1 : w.heap.size < w1.heap.size := by omega
    clear hb
    go_wp2_with fail
    refine (HC'.out _ HB1.out).mono ?_
    rintro e w2 ⟨rfl, hb⟩
    have HB2 := Lib.hid (below_step HB1.out HB1.out.size hb)
    clear hb
    go_wp2
    go_ret
    exact ⟨ret_int HJ.out.symm, HB2.out⟩
  rw [hv'] at HC'
  have HJ := Lib.hid (cmpV_good hv hv')
  have hx4 : xs.length = 4 := by obtain ⟨x0, x1, x2, x3, rfl, -⟩ := vecB_four hv; rfl
  have hy4 : ys.length = 4 := by obtain ⟨y0, y1, y2, y3, rfl, -⟩ := vecB_four hv'; rfl
  have hn4 : n = 4 := by omega
  have hn4' : n' = 4 := by omega
  subst hn4 hn4'
  obtain ⟨b, o, hA, hbl, -⟩ := hh.at (Below.refl _ _) (show 0 < xs.length by omega)
  obtain ⟨b', o', hA', hbl', -⟩ := hh'.at (Below.refl _ _) (show 0 < ys.length by omega)
  have HH : Hid (∀ W, Below w.heap.size w W → ∀ k, k < 4 → W.cell? ⟨b, o + k, none⟩ = some (.int .i64 (xs.getD k 0))) := fun W hW k hk => hh.cell hA hW (by omega)
  have HH' : Hid (∀ W, Below w.heap.size w W → ∀ k, k < 4 → W.cell? ⟨b', o' + k, none⟩ = some (.int .i64 (ys.getD k 0))) := fun W hW k hk => hh'.cell hA' hW (by omega)
  have HBL : Hid (b < w.heap.size ∧ b' < w.heap.size) := ⟨hbl, hbl'⟩
  subst hA hA'
  clear hv hv' hl hh hl' hh' hx4 hy4 hbl hbl'
  go_enter Try.func18, Try.ntmps18
  go_wp2_with fail
  refine (HC.out _ HB0.out).mono ?_
  rintro e w1 ⟨rfl, hb⟩
  have HB1 := Lib.hid (below_step HB0.out HB0.out.size hb)
  obtain ⟨hc, hf⟩ := bcell hb
  have hz : w.heap.size + 1 < w1.heap.size := by have := hb.size; simp at this; omega
  have hz1 : w.heap.size < w1.heap.size := by omega
  clear hb
  go_wp2_with fail
  refine (HC'.out _ HB1.out).mono ?_
  rintro e w2 ⟨rfl, hb⟩
  have HB2 := Lib.hid (below_step HB1.out HB1.out.size hb)
  obtain ⟨hc2, hf2⟩ := bcell hb
  have hsz := hb.size
  clear hb
  have c0 : w2.cell? ⟨w.heap.size, 0, none⟩ = some (.slice (some ⟨b, o, none⟩) 4 cap) := by rw [hc2 _ _ hz1, hc _ _ (by simp; omega)]; go_simp
  have c1 : w2.cell? ⟨w.heap.size + 1, 0, none⟩ = some (.slice (some ⟨b', o', none⟩) 4 cap') := by rw [hc2 _ _ hz, hc _ _ (by simp)]; go_simp
  have hz2 : w.heap.size + 1 < w2.heap.size := by have := hsz; omega
  have hz3 : w.heap.size < w2.heap.size := by omega
  clear hc hf hc2 hf2 hz hz1 hsz HC HC' HB0 HB1
  go_wp2
  have HC0 := Lib.hid c0
  have HC1 := Lib.hid c1
  clear c0 c1
  go_loopw [5, 6, 7] (fun l m i wr => ∃ k : Nat, k ≤ 4 ∧ i = .int .i64 k ∧ l = .bool (lessV xs ys k) ∧ m = .bool (moreV xs ys k) ∧ Hid (Below w2.heap.size w2 wr)) (fun _ _ i _ => 4 - (intOf i).toNat)
  case atStart => exact ⟨0, Nat.zero_le _, rfl, rfl, rfl, Below.refl _ _⟩
  case round =>
    obtain ⟨k, hk, rfl, rfl, rfl, HB⟩ := hrel
    have c0 := (HB.out.cell (p := ⟨w.heap.size, 0, none⟩) hz3).trans HC0.out
    have c1 := (HB.out.cell (p := ⟨w.heap.size + 1, 0, none⟩) hz2).trans HC1.out
    have HLN := Lib.hid (lessV_next xs ys k)
    have HMN := Lib.hid (moreV_next xs ys k)
    by_cases hk' : k < 4
    · have d0 := HH.out wr (below_step HB2.out HB2.out.size HB.out) k hk'
      have d1 := HH'.out wr (below_step HB2.out HB2.out.size HB.out) k hk'
      have i1 : (0 : Int) ≤ (k : Int) := by omega
      have i2 : (k : Int) < 4 := by omega
      generalize xs.getD k 0 = X at *
      generalize ys.getD k 0 = Y at *
      generalize lessV xs ys k = L at *
      generalize moreV xs ys k = M at *
      have z0wr : w.heap.size < wr.heap.size := Nat.lt_of_lt_of_le hz3 HB.out.size
      have z1wr : w.heap.size + 1 < wr.heap.size := Nat.lt_of_lt_of_le hz2 HB.out.size
      have z2wr : b < wr.heap.size := Nat.lt_trans HBL.out.1 z0wr
      have z3wr : b' < wr.heap.size := Nat.lt_trans HBL.out.2 z0wr
      have c0wr := c0
      have c1wr := c1
      have d0wr := d0
      have d1wr := d1
      clear c0 c1 d0 d1
      clear HH HH'
      cases L <;> cases M
      · go_wp2_with fail
        have g0wa := aft_cell z0wr c0wr
        have g1wa := aft_cell z1wr c1wr
        have g2wa := aft_cell z2wr d0wr
        have g3wa := aft_cell z3wr d1wr
        have newa := aft_some wr
        refine wp_region_aft (by kernel_rfl) (by kernel_rfl) ?_
        repeat (first | go_big_quiet_step (fail))
        refine wpQuiet_nil ?_
        intro wa hqwa
        clear g0wa g1wa g2wa g3wa newa
        have c0wa := (hqwa.cell (p := ⟨w.heap.size, 0, none⟩) z0wr).trans c0wr
        have c1wa := (hqwa.cell (p := ⟨w.heap.size + 1, 0, none⟩) z1wr).trans c1wr
        have d0wa := (hqwa.cell (p := ⟨b, o + k, none⟩) z2wr).trans d0wr
        have d1wa := (hqwa.cell (p := ⟨b', o' + k, none⟩) z3wr).trans d1wr
        have z0wa := Nat.lt_of_lt_of_le z0wr hqwa.size
        have z1wa := Nat.lt_of_lt_of_le z1wr hqwa.size
        have z2wa := Nat.lt_of_lt_of_le z2wr hqwa.size
        have z3wa := Nat.lt_of_lt_of_le z3wr hqwa.size
        have HBA := Lib.hid (below_step HB.out HB.out.size hqwa)
        clear hqwa c0wr c1wr d0wr d1wr
        go_wp2_with fail
        have g0wb := aft_cell z0wa c0wa
        have g1wb := aft_cell z1wa c1wa
        have g2wb := aft_cell z2wa d0wa
        have g3wb := aft_cell z3wa d1wa
        have newb := aft_some wa
        refine wp_region_aft (by kernel_rfl) (by kernel_rfl) ?_
        repeat (first | go_big_quiet_step (fail))
        refine wpQuiet_nil ?_
        intro wb hqwb
        clear g0wb g1wb g2wb g3wb newb
        have HBB := Lib.hid (below_step HBA.out HBA.out.size hqwb)
        clear hqwb c0wa c1wa d0wa d1wa
        go_wp2
        exact ⟨⟨k + 1, by omega, by go_num, by rw [HLN.out]; rfl, by rw [HMN.out]; rfl, HBB⟩, by simp [intOf]; omega⟩
      · go_wp2_with fail
        have g0wa := aft_cell z0wr c0wr
        have g1wa := aft_cell z1wr c1wr
        have g2wa := aft_cell z2wr d0wr
        have g3wa := aft_cell z3wr d1wr
        have newa := aft_some wr
        refine wp_region_aft (by kernel_rfl) (by kernel_rfl) ?_
        repeat (first | go_big_quiet_step (fail))
        refine wpQuiet_nil ?_
        intro wa hqwa
        clear g0wa g1wa g2wa g3wa newa
        have c0wa := (hqwa.cell (p := ⟨w.heap.size, 0, none⟩) z0wr).trans c0wr
        have c1wa := (hqwa.cell (p := ⟨w.heap.size + 1, 0, none⟩) z1wr).trans c1wr
        have d0wa := (hqwa.cell (p := ⟨b, o + k, none⟩) z2wr).trans d0wr
        have d1wa := (hqwa.cell (p := ⟨b', o' + k, none⟩) z3wr).trans d1wr
        have z0wa := Nat.lt_of_lt_of_le z0wr hqwa.size
        have z1wa := Nat.lt_of_lt_of_le z1wr hqwa.size
        have z2wa := Nat.lt_of_lt_of_le z2wr hqwa.size
        have z3wa := Nat.lt_of_lt_of_le z3wr hqwa.size
        have HBA := Lib.hid (below_step HB.out HB.out.size hqwa)
        clear hqwa c0wr c1wr d0wr d1wr
        go_wp2_with fail
        have g0wb := aft_cell z0wa c0wa
        have g1wb := aft_cell z1wa c1wa
        have g2wb := aft_cell z2wa d0wa
        have g3wb := aft_cell z3wa d1wa
        have newb := aft_some wa
        refine wp_region_aft (by kernel_rfl) (by kernel_rfl) ?_
        repeat (first | go_big_quiet_step (fail))
        refine wpQuiet_nil ?_
        intro wb hqwb
        clear g0wb g1wb g2wb g3wb newb
        have HBB := Lib.hid (below_step HBA.out HBA.out.size hqwb)
        clear hqwb c0wa c1wa d0wa d1wa
        go_wp2
        exact ⟨⟨k + 1, by omega, by go_num, by rw [HLN.out]; rfl, by rw [HMN.out]; rfl, HBB⟩, by simp [intOf]; omega⟩
      · go_wp2_with fail
        have g0wa := aft_cell z0wr c0wr
        have g1wa := aft_cell z1wr c1wr
        have g2wa := aft_cell z2wr d0wr
        have g3wa := aft_cell z3wr d1wr
        have newa := aft_some wr
        refine wp_region_aft (by kernel_rfl) (by kernel_rfl) ?_
        repeat (first | go_big_quiet_step (fail))
        refine wpQuiet_nil ?_
        intro wa hqwa
        clear g0wa g1wa g2wa g3wa newa
        have c0wa := (hqwa.cell (p := ⟨w.heap.size, 0, none⟩) z0wr).trans c0wr
        have c1wa := (hqwa.cell (p := ⟨w.heap.size + 1, 0, none⟩) z1wr).trans c1wr
        have d0wa := (hqwa.cell (p := ⟨b, o + k, none⟩) z2wr).trans d0wr
        have d1wa := (hqwa.cell (p := ⟨b', o' + k, none⟩) z3wr).trans d1wr
        have z0wa := Nat.lt_of_lt_of_le z0wr hqwa.size
        have z1wa := Nat.lt_of_lt_of_le z1wr hqwa.size
        have z2wa := Nat.lt_of_lt_of_le z2wr hqwa.size
        have z3wa := Nat.lt_of_lt_of_le z3wr hqwa.size
        have HBA := Lib.hid (below_step HB.out HB.out.size hqwa)
        clear hqwa c0wr c1wr d0wr d1wr
        go_wp2_with fail
        have g0wb := aft_cell z0wa c0wa
        have g1wb := aft_cell z1wa c1wa
        have g2wb := aft_cell z2wa d0wa
        have g3wb := aft_cell z3wa d1wa
        have newb := aft_some wa
        refine wp_region_aft (by kernel_rfl) (by kernel_rfl) ?_
        repeat (first | go_big_quiet_step (fail))
        refine wpQuiet_nil ?_
        intro wb hqwb
        clear g0wb g1wb g2wb g3wb newb
        have HBB := Lib.hid (below_step HBA.out HBA.out.size hqwb)
        clear hqwb c0wa c1wa d0wa d1wa
        go_wp2
        exact ⟨⟨k + 1, by omega, by go_num, by rw [HLN.out]; rfl, by rw [HMN.out]; rfl, HBB⟩, by simp [intOf]; omega⟩
      · go_wp2_with fail
        have g0wa := aft_cell z0wr c0wr
        have g1wa := aft_cell z1wr c1wr
        have g2wa := aft_cell z2wr d0wr
        have g3wa := aft_cell z3wr d1wr
        have newa := aft_some wr
        refine wp_region_aft (by kernel_rfl) (by kernel_rfl) ?_
        repeat (first | go_big_quiet_step (fail))
        refine wpQuiet_nil ?_
        intro wa hqwa
        clear g0wa g1wa g2wa g3wa newa
        have c0wa := (hqwa.cell (p := ⟨w.heap.size, 0, none⟩) z0wr).trans c0wr
        have c1wa := (hqwa.cell (p := ⟨w.heap.size + 1, 0, none⟩) z1wr).trans c1wr
        have d0wa := (hqwa.cell (p := ⟨b, o + k, none⟩) z2wr).trans d0wr
        have d1wa := (hqwa.cell (p := ⟨b', o' + k, none⟩) z3wr).trans d1wr
        have z0wa := Nat.lt_of_lt_of_le z0wr hqwa.size
        have z1wa := Nat.lt_of_lt_of_le z1wr hqwa.size
        have z2wa := Nat.lt_of_lt_of_le z2wr hqwa.size
        have z3wa := Nat.lt_of_lt_of_le z3wr hqwa.size
        have HBA := Lib.hid (below_step HB.out HB.out.size hqwa)
        clear hqwa c0wr c1wr d0wr d1wr
        go_wp2_with fail
        have g0wb := aft_cell z0wa c0wa
        have g1wb := aft_cell z1wa c1wa
        have g2wb := aft_cell z2wa d0wa
        have g3wb := aft_cell z3wa d1wa
        have newb := aft_some wa
        refine wp_region_aft (by kernel_rfl) (by kernel_rfl) ?_
        repeat (first | go_big_quiet_step (fail))
        refine wpQuiet_nil ?_
        intro wb hqwb
        clear g0wb g1wb g2wb g3wb newb
        have HBB := Lib.hid (below_step HBA.out HBA.out.size hqwb)
        clear hqwb c0wa c1wa d0wa d1wa
        go_wp2
        exact ⟨⟨k + 1, by omega, by go_num, by rw [HLN.out]; rfl, by rw [HMN.out]; rfl, HBB⟩, by simp [intOf]; omega⟩
    · have hkk : k = 4 := by omega
      subst hkk
      clear HLN HMN
      generalize lessV xs ys 4 = L at *
      generalize moreV xs ys 4 = M at *
      cases L <;> cases M
      · go_wp2
        go_ret
        exact ⟨ret_int HJ.out.symm, below_step HB2.out HB2.out.size HB.out⟩
      · go_wp2
        go_ret
        exact ⟨ret_int HJ.out.symm, below_step HB2.out HB2.out.size HB.out⟩
      · go_wp2
        go_ret
        exact ⟨ret_int HJ.out.symm, below_step HB2.out HB2.out.size HB.out⟩
      · go_wp2
        go_ret
        exact ⟨ret_int HJ.out.symm, below_step HB2.out HB2.out.size HB.out⟩

end Go.Proofs.Ytolmlcbgdihcbaa

/- The specification's MayCome. -/
namespace Go.Proofs.Ytolmlcbgdihcbaa
open Go.ChangeShapes Go.WideShapes Go.ChangeAt Go.RowKit Go.Joins
attribute [local go_sem ↓] Go.wp_at_zero Go.wp_at_succ

theorem vecB_rng {xs : List Int} (h : vecB xs = true) {k : Nat} (hk : k < 4) : 0 ≤ xs.getD k 0 ∧ xs.getD k 0 ≤ 1000000 := by
  obtain ⟨x0, x1, x2, x3, rfl, h0, h1, h2, h3⟩ := vecB_four h
  match k, hk with
  | 0, _ => exact h0
  | 1, _ => exact h1
  | 2, _ => exact h2
  | 3, _ => exact h3

theorem mayAt_le (xs ys : List Int) (q : Nat) {k n : Nat} (h : k ≤ n) (hb : mayAt xs ys q k = false) : mayAt xs ys q n = false := by
  unfold mayAt at *
  rw [List.all_eq_false] at *
  obtain ⟨i, hi, hm⟩ := hb
  exact ⟨i, List.mem_range.2 (Nat.lt_of_lt_of_le (List.mem_range.1 hi) h), hm⟩

set_option maxRecDepth 100000 in
set_option maxHeartbeats 4000000 in
theorem specMayCome_any (a a' : Option Addr) (n n' cap cap' : Nat) (f y : Int) (xs ys : List Int) (w : World) (hl : xs.length = n) (hn : n ≤ maxLen) (hh : IsIs w a xs) (hl' : ys.length = n') (hn' : n' ≤ maxLen) (hh' : IsIs w a' ys) :
    Calls Try.prog 23 #[vecV a n cap, postV f a' n' cap' y] w fun e w' => e = .returned (.bool (mayB xs ys f)) ∧ Below w.heap.size w w' := by
  have HB0 : Hid (Below w.heap.size w ((w.alloc (.cells #[.slice a n cap] 27)).alloc (.cells #[.int .i64 f, .slice a' n' cap', .int .i64 y] 42))) := ((Below.refl _ _).alloc (Nat.le_refl _) _).alloc (by simp) _
  have HC : Hid (∀ W, Below w.heap.size w W → Calls Try.prog 10 #[vecV a n cap] W fun e w' => e = .returned (.bool (vecB xs)) ∧ Below W.heap.size W w') := fun W hW => specVecOk_any a n cap xs W hl hn (hh.below hW)
  have HC' : Hid (∀ W, Below w.heap.size w W → Calls Try.prog 10 #[vecV a' n' cap'] W fun e w' => e = .returned (.bool (vecB ys)) ∧ Below W.heap.size W w') := fun W hW => specVecOk_any a' n' cap' ys W hl' hn' (hh'.below hW)
  cases hv : vecB xs
  · have HJ : Hid (mayB xs ys f = false) := mayB_bad (by rw [hv]; rfl)
    rw [hv] at HC
    clear hv hl hh hl' hh'
    go_enter Try.func23, Try.ntmps23
    go_wp2_with fail
    refine (HC.out _ HB0.out).mono ?_
    rintro e w1 ⟨rfl, hb⟩
    have HB1 := Lib.hid (below_step HB0.out HB0.out.size hb)
    obtain ⟨hc, hf⟩ := bcell hb
    have hz : w.heap.size + 1 < w1.heap.size := by have := hb.size; simp at this; omega
    have hz1 : w.heap.size < w1.heap.size := by omega
    clear hb
    go_wp2
    go_ret
    exact ⟨ret_bool HJ.out.symm, HB1.out⟩
  rw [hv] at HC
  cases hv' : vecB ys
  · have HJ : Hid (mayB xs ys f = false) := mayB_bad (by rw [hv', Bool.and_false])
    rw [hv'] at HC'
    clear hv hv' hl hh hl' hh'
    go_enter Try.func23, Try.ntmps23
    go_wp2_with fail
    refine (HC.out _ HB0.out).mono ?_
    rintro e w1 ⟨rfl, hb⟩
    have HB1 := Lib.hid (below_step HB0.out HB0.out.size hb)
    obtain ⟨hc, hf⟩ := bcell hb
    have hz : w.heap.size + 1 < w1.heap.size := by have := hb.size; simp at this; omega
    have hz1 : w.heap.size < w1.heap.size := by omega
    clear hb
    go_wp2_with fail
    refine (HC'.out _ HB1.out).mono ?_
    rintro e w2 ⟨rfl, hb⟩
    have HB2 := Lib.hid (below_step HB1.out HB1.out.size hb)
    obtain ⟨hc2, hf2⟩ := bcell hb
    have hz2 : w.heap.size + 1 < w2.heap.size := by have := hb.size; omega
    have hz3 : w.heap.size < w2.heap.size := by omega
    clear hb
    go_wp2
    go_ret
    exact ⟨ret_bool HJ.out.symm, HB2.out⟩
  rw [hv'] at HC'
  cases hs : btw f 0 3
  · have HJ : Hid (mayB xs ys f = false) := mayB_off hs
    have HS : Hid (∀ W, Calls Try.prog 43 #[.int .i64 f] W fun e w' => e = .returned (.bool false) ∧ w' = W) := fun W => by
      rw [← hs]
      exact specSite_any f W
    clear hv hv' hs hl hh hl' hh'
    go_enter Try.func23, Try.ntmps23
    go_wp2_with fail
    refine (HC.out _ HB0.out).mono ?_
    rintro e w1 ⟨rfl, hb⟩
    have HB1 := Lib.hid (below_step HB0.out HB0.out.size hb)
    obtain ⟨hc, hf⟩ := bcell hb
    have hz : w.heap.size + 1 < w1.heap.size := by have := hb.size; simp at this; omega
    have hz1 : w.heap.size < w1.heap.size := by omega
    clear hb
    go_wp2_with fail
    refine (HC'.out _ HB1.out).mono ?_
    rintro e w2 ⟨rfl, hb⟩
    have HB2 := Lib.hid (below_step HB1.out HB1.out.size hb)
    obtain ⟨hc2, hf2⟩ := bcell hb
    have hz2 : w.heap.size + 1 < w2.heap.size := by have := hb.size; omega
    have hz3 : w.heap.size < w2.heap.size := by omega
    clear hb
    go_wp2_with fail
    refine (HS.out _).mono ?_
    rintro e w3 ⟨rfl, hw⟩
    subst w3
    go_wp2
    go_ret
    exact ⟨ret_bool HJ.out.symm, HB2.out⟩
  obtain ⟨q, hq, rfl⟩ : ∃ q : Nat, q < 4 ∧ f = (q : Int) := ⟨f.toNat, by have := btw_site hs; omega, by have := btw_site hs; omega⟩
  have HS : Hid (∀ W, Calls Try.prog 43 #[.int .i64 (q : Int)] W fun e w' => e = .returned (.bool true) ∧ w' = W) := fun W => by
    rw [← hs]
    exact specSite_any (q : Int) W
  have HJ : Hid (mayB xs ys (q : Int) = mayAt xs ys q 4) := mayB_at hv hv' hs
  have HXR := Lib.hid (fun k hk => vecB_rng hv (k := k) hk)
  have hx4 : xs.length = 4 := by obtain ⟨x0, x1, x2, x3, rfl, -⟩ := vecB_four hv; rfl
  have hy4 : ys.length = 4 := by obtain ⟨y0, y1, y2, y3, rfl, -⟩ := vecB_four hv'; rfl
  have hn4 : n = 4 := by omega
  have hn4' : n' = 4 := by omega
  subst hn4 hn4'
  obtain ⟨b, o, hA, hbl, -⟩ := hh.at (Below.refl _ _) (show 0 < xs.length by omega)
  obtain ⟨b', o', hA', hbl', -⟩ := hh'.at (Below.refl _ _) (show 0 < ys.length by omega)
  have HH : Hid (∀ W, Below w.heap.size w W → ∀ k, k < 4 → W.cell? ⟨b, o + k, none⟩ = some (.int .i64 (xs.getD k 0))) := fun W hW k hk => hh.cell hA hW (by omega)
  have HH' : Hid (∀ W, Below w.heap.size w W → ∀ k, k < 4 → W.cell? ⟨b', o' + k, none⟩ = some (.int .i64 (ys.getD k 0))) := fun W hW k hk => hh'.cell hA' hW (by omega)
  have HBL : Hid (b < w.heap.size ∧ b' < w.heap.size) := ⟨hbl, hbl'⟩
  subst hA hA'
  clear hv hv' hs hl hh hl' hh' hx4 hy4 hbl hbl'
  go_enter Try.func23, Try.ntmps23
  go_wp2_with fail
  refine (HC.out _ HB0.out).mono ?_
  rintro e w1 ⟨rfl, hb⟩
  have HB1 := Lib.hid (below_step HB0.out HB0.out.size hb)
  obtain ⟨hc, hf⟩ := bcell hb
  have hz : w.heap.size + 1 < w1.heap.size := by have := hb.size; simp at this; omega
  have hz1 : w.heap.size < w1.heap.size := by omega
  clear hb
  go_wp2_with fail
  refine (HC'.out _ HB1.out).mono ?_
  rintro e w2 ⟨rfl, hb⟩
  have HB2 := Lib.hid (below_step HB1.out HB1.out.size hb)
  obtain ⟨hc2, hf2⟩ := bcell hb
  have hz2 : w.heap.size + 1 < w2.heap.size := by have := hb.size; omega
  have hz3 : w.heap.size < w2.heap.size := by omega
  clear hb
  have c0 : w2.cell? ⟨w.heap.size, 0, none⟩ = some (.slice (some ⟨b, o, none⟩) 4 cap) := by rw [hc2 _ _ hz1, hc _ _ (by simp; omega)]; go_simp
  have c1 : w2.cell? ⟨w.heap.size + 1, 0, none⟩ = some (.int .i64 (q : Int)) := by rw [hc2 _ _ hz, hc _ _ (by simp)]; go_simp
  have c2 : w2.cell? ⟨w.heap.size + 1, 1, none⟩ = some (.slice (some ⟨b', o', none⟩) 4 cap') := by rw [hc2 _ _ hz, hc _ _ (by simp)]; go_simp
  go_wp2_with fail
  refine (HS.out _).mono ?_
  rintro e w3 ⟨rfl, hw⟩
  subst w3
  clear hc hf hc2 hf2 hz hz1 HC HC' HB0 HB1 HS
  go_wp2
  have HC0 := Lib.hid c0
  have HC1 := Lib.hid c1
  have HC2 := Lib.hid c2
  clear c0 c1 c2
  go_loopw [5] (fun i wr => ∃ k : Nat, k ≤ 4 ∧ i = .int .i64 k ∧ Hid (mayAt xs ys q k = true) ∧ Hid (Below w2.heap.size w2 wr)) (fun i _ => 4 - (intOf i).toNat)
  case atStart => exact ⟨0, Nat.zero_le _, rfl, Lib.hid rfl, Below.refl _ _⟩
  case round =>
    obtain ⟨k, hk, rfl, HM, HB⟩ := hrel
    have c0wr := (HB.out.cell (p := ⟨w.heap.size, 0, none⟩) hz3).trans HC0.out
    have c1wr := (HB.out.cell (p := ⟨w.heap.size + 1, 0, none⟩) hz2).trans HC1.out
    have c2wr := (HB.out.cell (p := ⟨w.heap.size + 1, 1, none⟩) hz2).trans HC2.out
    by_cases hk' : k < 4
    · have d0wr := HH.out wr (below_step HB2.out HB2.out.size HB.out) k hk'
      have d1wr := HH'.out wr (below_step HB2.out HB2.out.size HB.out) k hk'
      have i1 : (0 : Int) ≤ (k : Int) := by omega
      have i2 : (k : Int) < 4 := by omega
      have z0wr : w.heap.size < wr.heap.size := Nat.lt_of_lt_of_le hz3 HB.out.size
      have z1wr : w.heap.size + 1 < wr.heap.size := Nat.lt_of_lt_of_le hz2 HB.out.size
      have z2wr : b < wr.heap.size := Nat.lt_trans HBL.out.1 z0wr
      have z3wr : b' < wr.heap.size := Nat.lt_trans HBL.out.2 z0wr
      obtain ⟨x0, x1⟩ := HXR.out k hk'
      have HN := Lib.hid (mayAt_next xs ys q k)
      have HO : Hid (mayOne xs ys q k = if k = q then decide (ys.getD k 0 = xs.getD k 0 + 1) else decide (ys.getD k 0 ≤ xs.getD k 0)) := Lib.hid rfl
      have HBD : Hid (mayOne xs ys q k = false → mayB xs ys (q : Int) = false) := fun h => by
        rw [HJ.out]
        exact mayAt_le xs ys q (show k + 1 ≤ 4 by omega) (by rw [HN.out, h, Bool.and_false])
      have HGD : Hid (mayOne xs ys q k = true → mayAt xs ys q (k + 1) = true) := fun h => by rw [HN.out, HM.out, h]; rfl
      clear HN HM HXR HH HH'
      generalize xs.getD k 0 = X at *
      generalize ys.getD k 0 = Y at *
      by_cases hkq : k = q
      · subst hkq
        rw [if_pos rfl] at HO
        by_cases hY : Y = X + 1
        · subst hY
          have HG := Lib.hid (HGD.out (by rw [HO.out]; simp))
          clear HBD HGD HO
          go_wp2_with fail
          have g0 := aft_cell z0wr c0wr
          have g1 := aft_cell z1wr c1wr
          have g4 := aft_cell z1wr c2wr
          have g2 := aft_cell z2wr d0wr
          have g3 := aft_cell z3wr d1wr
          have ne := aft_some wr
          refine wp_region_aft (by kernel_rfl) (by kernel_rfl) ?_
          repeat (first | go_big_quiet_step (fail))
          refine wpQuiet_nil ?_
          intro wa hqwa
          clear g0 g1 g2 g3 g4 ne
          have HBA := Lib.hid (below_step HB.out HB.out.size hqwa)
          clear hqwa c0wr c1wr c2wr d0wr d1wr
          go_wp2
          exact ⟨⟨k + 1, by omega, by go_num, HG, HBA⟩, by simp [intOf]; omega⟩
        · have HF := Lib.hid (HBD.out (by rw [HO.out]; simpa using hY))
          have hd : (Y != X + 1) = true := by simpa using hY
          clear HBD HGD HO
          go_wp2_with fail
          have g0 := aft_cell z0wr c0wr
          have g1 := aft_cell z1wr c1wr
          have g4 := aft_cell z1wr c2wr
          have g2 := aft_cell z2wr d0wr
          have g3 := aft_cell z3wr d1wr
          have ne := aft_some wr
          refine wp_region_aft (by kernel_rfl) (by kernel_rfl) ?_
          repeat (first | go_big_quiet_step (fail))
          refine wpQuiet_nil ?_
          intro wa hqwa
          clear g0 g1 g2 g3 g4 ne
          have HBA := Lib.hid (below_step HB.out HB.out.size hqwa)
          clear hqwa c0wr c1wr c2wr d0wr d1wr
          go_wp2
          go_ret
          exact ⟨ret_bool HF.out.symm, below_step HB2.out HB2.out.size HBA.out⟩
      · rw [if_neg hkq] at HO
        have hkd : ((k : Int) == (q : Int)) = false := by simp; omega
        have hkn : ((k : Int) != (q : Int)) = true := by simp; omega
        by_cases hY : X < Y
        · have HF := Lib.hid (HBD.out (by rw [HO.out]; simpa using hY))
          have hd : decide (X < Y) = true := by simpa using hY
          clear HBD HGD HO
          go_wp2_with fail
          have g0 := aft_cell z0wr c0wr
          have g1 := aft_cell z1wr c1wr
          have g4 := aft_cell z1wr c2wr
          have g2 := aft_cell z2wr d0wr
          have g3 := aft_cell z3wr d1wr
          have ne := aft_some wr
          refine wp_region_aft (by kernel_rfl) (by kernel_rfl) ?_
          repeat (first | go_big_quiet_step (fail))
          refine wpQuiet_nil ?_
          intro wa hqwa
          clear g0 g1 g2 g3 g4 ne
          have HBA := Lib.hid (below_step HB.out HB.out.size hqwa)
          clear hqwa c0wr c1wr c2wr d0wr d1wr
          go_wp2
          go_ret
          exact ⟨ret_bool HF.out.symm, below_step HB2.out HB2.out.size HBA.out⟩
        · have HG := Lib.hid (HGD.out (by rw [HO.out]; simpa using hY))
          have hd : decide (X < Y) = false := by simpa using hY
          clear HBD HGD HO
          go_wp2_with fail
          have g0 := aft_cell z0wr c0wr
          have g1 := aft_cell z1wr c1wr
          have g4 := aft_cell z1wr c2wr
          have g2 := aft_cell z2wr d0wr
          have g3 := aft_cell z3wr d1wr
          have ne := aft_some wr
          refine wp_region_aft (by kernel_rfl) (by kernel_rfl) ?_
          repeat (first | go_big_quiet_step (fail))
          refine wpQuiet_nil ?_
          intro wa hqwa
          clear g0 g1 g2 g3 g4 ne
          have HBA := Lib.hid (below_step HB.out HB.out.size hqwa)
          clear hqwa c0wr c1wr c2wr d0wr d1wr
          go_wp2
          exact ⟨⟨k + 1, by omega, by go_num, HG, HBA⟩, by simp [intOf]; omega⟩
    · have hkk : k = 4 := by omega
      subst hkk
      have HF : Hid (mayB xs ys (q : Int) = true) := HJ.out.trans HM.out
      go_wp2
      go_ret
      exact ⟨ret_bool HF.out.symm, below_step HB2.out HB2.out.size HB.out⟩

end Go.Proofs.Ytolmlcbgdihcbaa

/- What the laws' walks over vectors carry: facts of slots in regions that draw their order, and what stays while a list is marked. -/
namespace Go.Proofs.Ytolmlcbgdihcbaa
open Go.ChangeShapes Go.WideShapes Go.ChangeAt Go.RowKit Go.Joins

def LowR (w w' : World) : Prop := Below w.heap.size w w'

theorem lowR_refl (w : World) : LowR w w := Below.refl _ _

/-- A vector of one's own. -/
def VecF (B n : Nat) (zs : List Int) : Fact := fun v w => ∃ g, v = vecV (some ⟨g, 0, none⟩) n n ∧ OwnI w B w.heap.size (some ⟨g, 0, none⟩) zs

theorem lasts_vecF (B n : Nat) (zs : List Int) : lasts LowR (VecF B n zs) := by
  rintro v w w' ⟨g, h1, h2⟩ hr
  exact ⟨g, h1, (h2.below hr).wider (Nat.le_refl _) hr.size⟩

/-- A vector that is answered. -/
def AnsF (B : Nat) (zs : List Int) : Fact := fun v w => ∃ g cp, v = vecV g zs.length cp ∧ OwnI w B w.heap.size g zs

theorem lasts_ansF (B : Nat) (zs : List Int) : lasts LowR (AnsF B zs) := by
  rintro v w w' ⟨g, cp, h1, h2⟩ hr
  exact ⟨g, cp, h1, (h2.below hr).wider (Nat.le_refl _) hr.size⟩

/-- A new box of a vector. -/
def BoxF (B : Nat) : Fact := fun v w => ∃ b, v = .pointer (some ⟨b, 0, none⟩) ∧ B ≤ b ∧ w.heap[b]? = some (.cells #[.slice none 0 0] 27 (0, 0))

theorem lasts_boxF (B : Nat) : lasts LowR (BoxF B) := by
  rintro v w w' ⟨b, h1, h2, h3⟩ hr
  exact ⟨b, h1, h2, (hr.block b (Array.getElem?_eq_some_iff.1 h3).1).trans h3⟩

/-- A list of numbers doesn't lie where a box of a vector does. -/
theorem OwnI.off {w : World} {lo hi b : Nat} {g : Option Addr} {zs : List Int} (h : OwnI w lo hi g zs) (hb : w.heap[b]? = some (.cells #[.slice none 0 0] 27 (0, 0))) (v : Value) : OwnI (w.setCell ⟨b, 0, none⟩ v) lo hi g zs := by
  rcases h with h | ⟨c, ha, h1, h2, hlt, hh, hf⟩
  · exact .inl h
  · refine .inr ⟨c, ha, h1, h2, by simpa using hlt, fun i hi => ?_, fun o => by rw [World.frozen?_setCell]; exact hf o⟩
    refine (World.cell?_setCell_other _ _ _ _ (fun e => ?_)).trans (hh i hi)
    have e1 : b = c := by injection e
    have e2 : 0 = i := by injection e
    subst e1 e2
    have := hh 0 hi
    rw [cell_of_row w b 0 _ _ (0, 0) hb] at this
    simp at this

theorem cell_marked {S : Nat → Prop} {w w' : World} {o : Obj} {b j : Nat} {v : Value} (ho : Only S (w.alloc o) w') (hb : b < w.heap.size) (hS : ¬ S b) (h : w.cell? ⟨b, j, none⟩ = some v) : w'.cell? ⟨b, j, none⟩ = some v := by
  have h1 : (w.alloc o).cell? ⟨b, j, none⟩ = some v := (((Below.refl _ _).alloc (Nat.le_refl _) o).cell (p := ⟨b, j, none⟩) hb).trans h
  exact (World.cell?_of_block (a := ⟨b, j, none⟩) (ho.block b hS)).trans h1

theorem lt_marked {S : Nat → Prop} {w w' : World} {o : Obj} (ho : Only S (w.alloc o) w') : w.heap.size < w'.heap.size := by
  rw [ho.size]
  simp

theorem low_marked {S : Nat → Prop} {w w' : World} {o : Obj} {B : Nat} (ho : Only S (w.alloc o) w') (hB : B ≤ w.heap.size) (hS : ∀ x, S x → B ≤ x) : Below B w w' :=
  ((Below.refl _ _).alloc hB o).trans (ho.below hS)

theorem own_marked {S : Nat → Prop} {w w' : World} {o : Obj} {lo hi : Nat} {a : Option Addr} {zs : List Int} (ho : Only S (w.alloc o) w') (h : OwnI w lo hi a zs) (hS : ∀ x, S x → x < lo ∨ hi ≤ x) : OwnI w' lo hi a zs := by
  rcases h.below ((Below.refl _ _).alloc (Nat.le_refl _) o) with h | ⟨b, ha, h1, h2, hlt, hh, hf⟩
  · exact .inl h
  · have hb : w'.heap[b]? = (w.alloc o).heap[b]? := ho.block b fun e => by have := hS b e; omega
    exact .inr ⟨b, ha, h1, h2, by rw [ho.size]; exact hlt, fun i hi => (World.cell?_of_block (a := ⟨b, i, none⟩) hb).trans (hh i hi), fun o => (ho.frozen _).trans (hf o)⟩

theorem own_out {w : World} {lo hi b : Nat} {a : Option Addr} {zs : List Int} (h : OwnI w lo hi a zs) (hb : b < lo ∨ hi ≤ b) (v : Value) : OwnI (w.setCell ⟨b, 0, none⟩ v) lo hi a zs := by
  rcases h with h | ⟨c, ha, h1, h2, hlt, hh, hf⟩
  · exact .inl h
  · refine .inr ⟨c, ha, h1, h2, by simpa using hlt, fun i hi => (World.cell?_setCell_other _ _ _ _ (fun e => ?_)).trans (hh i hi), fun o => by rw [World.frozen?_setCell]; exact hf o⟩
    have : b = c := by injection e
    omega

theorem mk_lt {w : World} {a : Option Addr} {n : Nat} {k : Int} (h : MarkedI w a n k) : ∀ c, a = some ⟨c, 0, none⟩ → n ≠ 0 → c < w.heap.size := by
  intro c hc hn
  rcases h with h | ⟨b, hb, hlt, -⟩
  · exact absurd h hn
  · rw [hc] at hb
    injection hb with hb
    injection hb with hb
    rw [hb]
    exact hlt

theorem mk_out {w : World} {b B : Nat} {a : Option Addr} {n : Nat} {k : Int} (h : MarkedI w a n k) (hl : ∀ c, a = some ⟨c, 0, none⟩ → n ≠ 0 → c < B) (hb : B ≤ b) (v : Value) : MarkedI (w.setCell ⟨b, 0, none⟩ v) a n k := by
  rcases h with h | ⟨c, hc, hlt, hcs⟩
  · exact .inl h
  · by_cases hn : n = 0
    · exact .inl hn
    · have := hl c hc hn
      exact .inr ⟨c, hc, by simpa using hlt, hcs.of_block (Below.heap_setCell _ _ _ _ (by show c ≠ b; omega))⟩

theorem low_drop {w w' : World} {B b : Nat} (h : Below B w w') (hb : B ≤ b) (v : Value) : Below B w (w'.setCell ⟨b, 0, none⟩ v) := h.setCell (p := ⟨b, 0, none⟩) hb v

theorem joinV_len (xs ys : List Int) : (joinV xs ys).length ≤ 4 := by
  unfold joinV
  split
  · rename_i h
    rw [Bool.and_eq_true] at h
    obtain ⟨x0, x1, x2, x3, rfl, -⟩ := vecB_four h.1
    simp
    omega
  · simp

theorem tickV_len (xs : List Int) (si : Int) : (tickV xs si).length ≤ 4 := by
  unfold tickV tickOk
  split
  · rename_i h
    rw [Bool.and_eq_true] at h
    obtain ⟨x0, x1, x2, x3, rfl, -⟩ := vecB_four h.1
    simp
  · simp

end Go.Proofs.Ytolmlcbgdihcbaa
