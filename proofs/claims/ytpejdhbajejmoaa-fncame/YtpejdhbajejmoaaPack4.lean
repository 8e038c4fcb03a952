import Derived.Test.YtpejdhbajejmoaaPack3
import Derived.Test.YtpejdhbajejmoaaPack2
import Derived.OneCell
import Derived.Test.YtpejdhbajejmoaaPack1
import Derived.BigQuiet
import Derived.Deep.QuietTactic
import Derived.WalkSmall
/- An append inside a region that draws its order; what its operations may turn. -/
namespace Go.Proofs.Ytpejdhbajejmoaa
open Go.ChangeShapes Go.WideShapes Go.ChangeAt Go.RowKit Go.Joins

theorem add_block (g j : Nat) : ((⟨g, 0, none⟩ : Addr).add j) = ⟨g, j, none⟩ := by
  unfold Addr.add
  split
  · rename_i h
    rw [h]
  · simp

theorem got_append {P : Program} {K : Value → World → Prop} {o : Oper} {ρ : Operand → Value} {w : World} (s x : Operand) (t : TypeId)
    (ho : o.op = .call { callee := .builtin .append, args := #[s, x], argTypes := #[t, t] })
    (base : Nat) (e : TypeId) (i : TypeInfo) (z : Value) (size bytes : Nat) (ht : P.underlying t = some (.slice e)) (hi : P.info? e = some i) (hz : i.zero = some z)
    (hsize : i.size = size) (hby : i.bytes = bytes) (hzs : z.cells.size = size) (hsz : 0 < size)
    (v : Value) (n : Nat) (xs : List Value) (hs : ρ s = v) (hown : w.ownsRow base e size v n xs)
    (ad : Addr) (m c : Nat) (news : List Value) (hx : ρ x = .slice (some ad) m c) (hl : news.length = m * size) (hnews : ∀ j u, news[j]? = some u → w.cell? (ad.add j) = some u) (h1 : ∀ u ∈ news, u.oneCell' = true)
    (hm : 0 < m) (h63 : n + m ≤ maxLen) (hbytes : (n + m) * bytes ≤ 140737488355328) (hbase : base ≤ w.heap.size) (H : Nat) (hH : w.heap.size = H)
    (h : ∀ g cap w', w'.ownsRow base e size (.slice (some ⟨g, 0, none⟩) (n + m) cap) (n + m) (xs ++ news) → w.grownBy w' v.ownBlock → (v.ownBlock = some g ∨ g = H) → g < w'.heap.size → K (.slice (some ⟨g, 0, none⟩) (n + m) cap) w') : got P K ((execOp ρ o).run P w) := by
  obtain ⟨g, cap, w', hr, h2, h3, h4, h5⟩ := run_append_lies (P := P) w t o.type base e i z size bytes ht hi hz hsize hby hzs hsz v n xs hown ad m c news hl hnews h1 hm h63 hbytes hbase H hH
  unfold execOp
  simp only [ho, resolve, invoke, builtin, Sem.run_bind, Sem.run_pure, Result.andThen_ok, List.map_toArray, List.map_cons, List.map_nil, hs, hx, hr]
  exact h g cap w' h2 h3 h4 h5

/-- What an operation may turn: the append, which fills slot s, the block of its row; all others nothing that was there. -/
def AppS (s : Tmp) (ob : Option Nat) : ReachU := fun d w w' => if d = some s then w.grownBy w' ob else Below w.heap.size w w'

theorem appS_below {s : Tmp} {ob : Option Nat} {d : Option Tmp} {w w' : World} (hd : d ≠ some s) (h : AppS s ob d w w') : Below w.heap.size w w' := by
  unfold AppS at h
  rw [if_neg hd] at h
  exact h

theorem appS_refl {s : Tmp} {ob : Option Nat} {d : Option Tmp} (hd : d ≠ some s) (w : World) : AppS s ob d w w := by
  unfold AppS
  rw [if_neg hd]
  exact Below.refl _ _

theorem appS_alloc {s : Tmp} {ob : Option Nat} {d : Option Tmp} (hd : d ≠ some s) (w : World) (o : Obj) : AppS s ob d w (w.alloc o) := by
  unfold AppS
  rw [if_neg hd]
  exact (Below.refl _ _).alloc (Nat.le_refl _) _

theorem appS_grown {s : Tmp} {ob : Option Nat} {w w' : World} (h : w.grownBy w' ob) : AppS s ob (some s) w w' := by
  unfold AppS
  rw [if_pos rfl]
  exact h

theorem grown_of_below {w w' : World} (h : Below w.heap.size w w') (ob : Option Nat) : w.grownBy w' ob := ⟨h.os, h.tape, h.output, h.size, fun k hk _ => h.block k hk⟩

theorem appS_any {s : Tmp} {ob : Option Nat} {d : Option Tmp} {w w' : World} (h : AppS s ob d w w') : w.grownBy w' ob := by
  by_cases hd : d = some s
  · unfold AppS at h
    rw [if_pos hd] at h
    exact h
  · exact grown_of_below (appS_below hd h) ob

theorem grown_trans {w w' w2 : World} {ob : Option Nat} (h : w.grownBy w' ob) (h' : w'.grownBy w2 ob) : w.grownBy w2 ob :=
  ⟨h'.os.trans h.os, h'.tape.trans h.tape, h'.output.trans h.output, Nat.le_trans h.size h'.size, fun k hk hn => (h'.block k (Nat.lt_of_lt_of_le hk h.size) hn).trans (h.block k hk hn)⟩

theorem grown_set (w : World) (b o : Nat) (v : Value) : w.grownBy (w.setCell ⟨b, o, none⟩ v) (some b) := by
  refine ⟨rfl, rfl, rfl, by simp, fun k hk hne => ?_⟩
  have : b ≠ k := fun e => hne (by rw [e])
  simp [World.setCell, Array.getElem?_modify, this]

end Go.Proofs.Ytpejdhbajejmoaa

/- The specification's VecJoin. -/
namespace Go.Proofs.Ytpejdhbajejmoaa
open Go.ChangeShapes Go.WideShapes Go.ChangeAt Go.RowKit Go.Joins
attribute [local go_sem ↓] Go.wp_at_zero Go.wp_at_succ

/-- What lies where in a round of the specification's VecJoin. -/
structure JoinS (w wr : World) (a a' : Option Addr) (cap cap' : Nat) (x : Option Addr) (k cpd : Nat) (zs : List Int) : Prop where
  low : Below w.heap.size w wr
  b0 : wr.heap[w.heap.size]? = some (.cells #[.slice a 4 cap] 28 (0, 0))
  b1 : wr.heap[w.heap.size + 1]? = some (.cells #[.slice a' 4 cap'] 28 (0, 0))
  b2 : wr.heap[w.heap.size + 1 + 1]? = some (.cells #[.slice none 0 0] 28 (0, 0))
  b3 : wr.heap[w.heap.size + 1 + 1 + 1]? = some (.cells #[.slice x k cpd] 28 (0, 0))
  row : RowI wr (w.heap.size + 1 + 1 + 1 + 1) (.slice x k cpd) zs
  len : zs.length = k

theorem JoinS.lt {w wr : World} {a a' : Option Addr} {cap cap' : Nat} {x : Option Addr} {k cpd : Nat} {zs : List Int} (h : JoinS w wr a a' cap cap' x k cpd zs) : w.heap.size + 1 + 1 + 1 < wr.heap.size := (Array.getElem?_eq_some_iff.1 h.b3).1

/-- The cells that stay while the row grows. -/
theorem JoinS.cells {w wr w' : World} {a a' : Option Addr} {cap cap' : Nat} {x : Option Addr} {k cpd : Nat} {zs : List Int} (h : JoinS w wr a a' cap cap' x k cpd zs) (hG : wr.grownBy w' (Value.slice x k cpd).ownBlock) :
    (w'.heap[w.heap.size]? = some (.cells #[.slice a 4 cap] 28 (0, 0)) ∧ w'.heap[w.heap.size + 1]? = some (.cells #[.slice a' 4 cap'] 28 (0, 0)) ∧ w'.heap[w.heap.size + 1 + 1]? = some (.cells #[.slice none 0 0] 28 (0, 0)) ∧ w'.heap[w.heap.size + 1 + 1 + 1]? = some (.cells #[.slice x k cpd] 28 (0, 0))) ∧ Below w.heap.size w w' := by
  have hl := h.lt
  have hb : ∀ j, j < w.heap.size + 1 + 1 + 1 + 1 → w'.heap[j]? = wr.heap[j]? := fun j hj => hG.block j (by omega) fun e => by
    have := World.ownsRow.lt h.row j e.symm
    omega
  exact ⟨⟨(hb _ (by omega)).trans h.b0, (hb _ (by omega)).trans h.b1, (hb _ (by omega)).trans h.b2, (hb _ (by omega)).trans h.b3⟩, h.low.grown hG h.low.size fun j hj => by
    have := World.ownsRow.lt h.row j hj
    omega⟩

theorem cells_one {w : World} {b t : Nat} {v : Value} (h : w.heap[b]? = some (.cells #[v] t (0, 0))) : w.cell? ⟨b, 0, none⟩ = some v ∧ (∀ o, w.frozen? ⟨b, o, none⟩ = false) ∧ b < w.heap.size :=
  ⟨by rw [cell_of_row w b 0 _ t (0, 0) h]; rfl, fun o => frozen_of_row w b o _ t h, (Array.getElem?_eq_some_iff.1 h).1⟩

theorem zip_take (xs ys : List Int) (k : Nat) (hx : k < xs.length) (hy : k < ys.length) : (List.zipWith max xs ys).take (k + 1) = (List.zipWith max xs ys).take k ++ [max (xs.getD k 0) (ys.getD k 0)] := by
  rw [List.take_add_one, List.getElem?_eq_getElem (by simp; omega)]
  simp [List.getD, hx, hy]

/-- The box behind an append: the row is one longer. -/
theorem JoinS.next {w wr w' : World} {a a' : Option Addr} {cap cap' : Nat} {x : Option Addr} {k cpd g c : Nat} {zs : List Int} {z : Int} (h : JoinS w wr a a' cap cap' x k cpd zs) (hG : wr.grownBy w' (Value.slice x k cpd).ownBlock)
    (hr : RowI w' (w.heap.size + 1 + 1 + 1 + 1) (.slice (some ⟨g, 0, none⟩) (k + 1) c) (zs ++ [z])) :
    JoinS w (w'.setCell ⟨w.heap.size + 1 + 1 + 1, 0, none⟩ (.slice (some ⟨g, 0, none⟩) (k + 1) c)) a a' cap cap' (some ⟨g, 0, none⟩) (k + 1) c (zs ++ [z]) := by
  obtain ⟨⟨c0, c1, c2, c3⟩, hlow⟩ := h.cells hG
  refine ⟨hlow.setCell (p := ⟨w.heap.size + 1 + 1 + 1, 0, none⟩) (by show w.heap.size ≤ w.heap.size + 1 + 1 + 1; omega) _, ?_, ?_, ?_, ?_, ?_, by simp [h.len]⟩
  · exact (Below.heap_setCell _ _ _ _ (by show w.heap.size ≠ w.heap.size + 1 + 1 + 1; omega)).trans c0
  · exact (Below.heap_setCell _ _ _ _ (by show w.heap.size + 1 ≠ w.heap.size + 1 + 1 + 1; omega)).trans c1
  · exact (Below.heap_setCell _ _ _ _ (by show w.heap.size + 1 + 1 ≠ w.heap.size + 1 + 1 + 1; omega)).trans c2
  · exact one_setCell c3
  · exact ownsRow_setCell_below (a := ⟨w.heap.size + 1 + 1 + 1, 0, none⟩) hr (Nat.lt_succ_self _) _

theorem heap_four (w : World) (o1 o2 o3 o4 : Obj) : ((((w.alloc o1).alloc o2).alloc o3).alloc o4).heap[w.heap.size]? = some o1 ∧ ((((w.alloc o1).alloc o2).alloc o3).alloc o4).heap[w.heap.size + 1]? = some o2 ∧ ((((w.alloc o1).alloc o2).alloc o3).alloc o4).heap[w.heap.size + 1 + 1]? = some o3 ∧ ((((w.alloc o1).alloc o2).alloc o3).alloc o4).heap[w.heap.size + 1 + 1 + 1]? = some o4 := by
  refine ⟨?_, ?_, ?_, ?_⟩
  · rw [Below.heap_alloc _ _ _ (by simp; omega), Below.heap_alloc _ _ _ (by simp; omega), Below.heap_alloc _ _ _ (by simp)]
    exact heap_alloc_new w o1
  · rw [Below.heap_alloc _ _ _ (by simp), Below.heap_alloc _ _ _ (by simp)]
    have := heap_alloc_new (w.alloc o1) o2
    simpa using this
  · rw [Below.heap_alloc _ _ _ (by simp)]
    have := heap_alloc_new ((w.alloc o1).alloc o2) o3
    simpa using this
  · have := heap_alloc_new (((w.alloc o1).alloc o2).alloc o3) o4
    simpa using this

/-- A new number of one's own. -/
def OneI (ob : Option Nat) (z : Int) : Fact := fun v w => ∃ g', v = .slice (some ⟨g', 0, none⟩) 1 1 ∧ g' < w.heap.size ∧ ob ≠ some g' ∧ ∀ j u, ([intV z] : List Value)[j]? = some u → w.cell? ((⟨g', 0, none⟩ : Addr).add j) = some u

theorem lasts_oneI (z : Tmp) (U : Tmp → Option Tmp) (dst : Option Tmp) (ob : Option Nat) (d : Int) : lastsU U (AppS z ob) dst (OneI ob d) := by
  rintro d' _ _ v w w' ⟨g', h1, h2, h3, h4⟩ hr
  have hG := appS_any hr
  have hb : w'.heap[g']? = w.heap[g']? := hG.block g' h2 fun e => h3 e.symm
  exact ⟨g', h1, Nat.lt_of_lt_of_le h2 hG.size, h3, fun j u hu => (World.cell?_of_block (a := (⟨g', 0, none⟩ : Addr).add j) (by rw [add_block]; exact hb)).trans (h4 j u hu)⟩

/-- A row of numbers that has grown by one. -/
def RowF (base k : Nat) (zs : List Int) : Fact := fun v w => ∃ g c, v = .slice (some ⟨g, 0, none⟩) (k + 1) c ∧ RowI w base (.slice (some ⟨g, 0, none⟩) (k + 1) c) zs

theorem lasts_rowF (z : Tmp) (U : Tmp → Option Tmp) (ob : Option Nat) (base k : Nat) (zs : List Int) : lastsU U (AppS z ob) (some z) (RowF base k zs) := by
  rintro d' hd _ v w w' ⟨g3, cp3, h1, h2⟩ hr
  exact ⟨g3, cp3, h1, h2.below (appS_below hd hr)⟩

set_option maxRecDepth 100000 in
set_option maxHeartbeats 4000000 in
theorem specVecJoin_any (a a' : Option Addr) (n n' cap cap' : Nat) (xs ys : List Int) (w : World) (hl : xs.length = n) (hn : n ≤ maxLen) (hh : IsIs w a xs) (hl' : ys.length = n') (hn' : n' ≤ maxLen) (hh' : IsIs w a' ys) :
    Calls Try.prog 19 #[vecV a n cap, vecV a' n' cap'] w fun e w' => ∃ g cp, e = .returned (vecV g (joinV xs ys).length cp) ∧ OwnI w' w.heap.size w'.heap.size g (joinV xs ys) ∧ Below w.heap.size w w' := by
  have hres : Try.f19.results = #[.cell 4 28] := by kernel_rfl
  have HB0 : Hid (Below w.heap.size w ((((w.alloc (.cells #[.slice a n cap] 28)).alloc (.cells #[.slice a' n' cap'] 28)).alloc (.cells #[.slice none 0 0] 28)).alloc (.cells #[.slice none 0 0] 28))) := ((((Below.refl _ _).alloc (Nat.le_refl _) _).alloc (by simp) _).alloc (by simp; omega) _).alloc (by simp; omega) _
  have HC : Hid (∀ W, Below w.heap.size w W → Calls Try.prog 29 #[vecV a n cap] W fun e w' => e = .returned (.bool (vecB xs)) ∧ Below W.heap.size W w') := fun W hW => specVecOk_any a n cap xs W hl hn (hh.below hW)
  have HC' : Hid (∀ W, Below w.heap.size w W → Calls Try.prog 29 #[vecV a' n' cap'] W fun e w' => e = .returned (.bool (vecB ys)) ∧ Below W.heap.size W w') := fun W hW => specVecOk_any a' n' cap' ys W hl' hn' (hh'.below hW)
  have HZ : Hid (((((w.alloc (.cells #[.slice a n cap] 28)).alloc (.cells #[.slice a' n' cap'] 28)).alloc (.cells #[.slice none 0 0] 28)).alloc (.cells #[.slice none 0 0] 28)).heap.size = w.heap.size + 1 + 1 + 1 + 1) := by show _ = _; simp
  cases hv : vecB xs
  · have HJ : Hid (joinV xs ys = []) := joinV_bad (by rw [hv]; rfl)
    rw [hv] at HC
    clear hv hl hh hl' hh'
    go_enter Try.func19, Try.ntmps19
    go_wp2_with fail
    refine (HC.out _ HB0.out).mono ?_
    rintro e w1 ⟨rfl, hb⟩
    have HB1 := Lib.hid (below_step HB0.out HB0.out.size hb)
    obtain ⟨hc, hf⟩ := bcell hb
    have hz : w.heap.size + 1 + 1 + 1 < w1.heap.size := by have := hb.size; rw [HZ.out] at this; omega
    have hz1 : w.heap.size + 1 + 1 < w1.heap.size := by omega
    clear hb
    go_wp2
    refine bodyPost_ret (v := vecV none 0 0) (by simp only [results, hres]; go_simp) rfl ⟨none, 0, by rw [HJ.out]; rfl, by rw [HJ.out]; exact .inl rfl, ?_⟩
    exact HB1.out.setCell (p := ⟨w.heap.size + 1 + 1, 0, none⟩) (Nat.le_add_right _ 2) _
  rw [hv] at HC
  cases hv' : vecB ys
  · have HJ : Hid (joinV xs ys = []) := joinV_bad (by rw [hv', Bool.and_false])
    rw [hv'] at HC'
    clear hv hv' hl hh hl' hh'
    go_enter Try.func19, Try.ntmps19
    go_wp2_with fail
    refine (HC.out _ HB0.out).mono ?_
    rintro e w1 ⟨rfl, hb⟩
    have HB1 := Lib.hid (below_step HB0.out HB0.out.size hb)
    obtain ⟨hc, hf⟩ := bcell hb
    have hz : w.heap.size + 1 + 1 + 1 < w1.heap.size := by have := hb.size; rw [HZ.out] at this; omega
    have hz1 : w.heap.size + 1 + 1 < w1.heap.size := by omega
    have hz2 : w.heap.size + 1 < w1.heap.size := by omega
    clear hb
    go_wp2_with fail
    refine (HC'.out _ HB1.out).mono ?_
    rintro e w2 ⟨rfl, hb⟩
    have HB2 := Lib.hid (below_step HB1.out HB1.out.size hb)
    obtain ⟨hc2, hf2⟩ := bcell hb
    clear hb
    go_wp2
    refine bodyPost_ret (v := vecV none 0 0) (by simp only [results, hres]; go_simp) rfl ⟨none, 0, by rw [HJ.out]; rfl, by rw [HJ.out]; exact .inl rfl, ?_⟩
    exact HB2.out.setCell (p := ⟨w.heap.size + 1 + 1, 0, none⟩) (Nat.le_add_right _ 2) _
  rw [hv'] at HC'
  have HJ : Hid (joinV xs ys = List.zipWith max xs ys) := joinV_good hv hv'
  have hx4 : xs.length = 4 := by obtain ⟨x0, x1, x2, x3, rfl, -⟩ := vecB_four hv; rfl
  have hy4 : ys.length = 4 := by obtain ⟨y0, y1, y2, y3, rfl, -⟩ := vecB_four hv'; rfl
  have hn4 : n = 4 := by omega
  have hn4' : n' = 4 := by omega
  subst hn4 hn4'
  have HH : Hid (IsIs w a xs) := hh
  have HN : Hid (xs.length = 4) := hl
  have HH' : Hid (IsIs w a' ys) := hh'
  have HN' : Hid (ys.length = 4) := hl'
  have HRZ : Hid (Below w.heap.size w ((((w.alloc (.cells #[.slice a 4 cap] 28)).alloc (.cells #[.slice a' 4 cap'] 28)).alloc (.cells #[.slice none 0 0] 28)).alloc (.cells #[.slice none 0 0] 28)) ∧ ((((w.alloc (.cells #[.slice a 4 cap] 28)).alloc (.cells #[.slice a' 4 cap'] 28)).alloc (.cells #[.slice none 0 0] 28)).alloc (.cells #[.slice none 0 0] 28)).heap[w.heap.size]? = some (.cells #[.slice a 4 cap] 28 (0, 0)) ∧ ((((w.alloc (.cells #[.slice a 4 cap] 28)).alloc (.cells #[.slice a' 4 cap'] 28)).alloc (.cells #[.slice none 0 0] 28)).alloc (.cells #[.slice none 0 0] 28)).heap[w.heap.size + 1]? = some (.cells #[.slice a' 4 cap'] 28 (0, 0)) ∧ ((((w.alloc (.cells #[.slice a 4 cap] 28)).alloc (.cells #[.slice a' 4 cap'] 28)).alloc (.cells #[.slice none 0 0] 28)).alloc (.cells #[.slice none 0 0] 28)).heap[w.heap.size + 1 + 1]? = some (.cells #[.slice none 0 0] 28 (0, 0)) ∧ ((((w.alloc (.cells #[.slice a 4 cap] 28)).alloc (.cells #[.slice a' 4 cap'] 28)).alloc (.cells #[.slice none 0 0] 28)).alloc (.cells #[.slice none 0 0] 28)).heap[w.heap.size + 1 + 1 + 1]? = some (.cells #[.slice none 0 0] 28 (0, 0))) := by
    exact ⟨HB0.out, heap_four _ _ _ _ _⟩
  clear hv hv' hl hh hl' hh' hx4 hy4
  go_enter Try.func19, Try.ntmps19
  go_wp2_with fail
  refine (HC.out _ HB0.out).mono ?_
  rintro e w1 ⟨rfl, hb⟩
  have HB1 := Lib.hid (below_step HB0.out HB0.out.size hb)
  obtain ⟨hc, hf⟩ := bcell hb
  have hz : w.heap.size + 1 + 1 + 1 < w1.heap.size := by have := hb.size; rw [HZ.out] at this; omega
  have hz2 : w.heap.size + 1 < w1.heap.size := by omega
  have HS1 := Lib.hid hb
  clear hb
  go_wp2_with fail
  refine (HC'.out _ HB1.out).mono ?_
  rintro e w2 ⟨rfl, hb⟩
  have HB2 := Lib.hid (below_step HB1.out HB1.out.size hb)
  have HS2 : Hid (Below (w.heap.size + 1 + 1 + 1 + 1) ((((w.alloc (.cells #[.slice a 4 cap] 28)).alloc (.cells #[.slice a' 4 cap'] 28)).alloc (.cells #[.slice none 0 0] 28)).alloc (.cells #[.slice none 0 0] 28)) w2) := by
    rw [← HZ.out]
    exact below_step HS1.out HS1.out.size hb
  clear hb hc hf hz hz2 HS1 HC HC'
  have HJS : Hid (JoinS w w2 a a' cap cap' none 0 0 ((List.zipWith max xs ys).take 0)) := ⟨HB2.out, (HS2.out.block _ (by omega)).trans HRZ.out.2.1, (HS2.out.block _ (by omega)).trans HRZ.out.2.2.1, (HS2.out.block _ (by omega)).trans HRZ.out.2.2.2.1, (HS2.out.block _ (by omega)).trans HRZ.out.2.2.2.2, World.ownsRow_nil _ _ _ _, rfl⟩
  clear HS2 HRZ HB2 HB1 HB0 HZ
  go_wp2
  go_loopw [6] (fun i wr => ∃ (k : Nat) (x : Option Addr) (cpd : Nat), k ≤ 4 ∧ i = .int .i64 k ∧ Hid (JoinS w wr a a' cap cap' x k cpd ((List.zipWith max xs ys).take k))) (fun i _ => 4 - (intOf i).toNat)
  case atStart => exact ⟨0, none, 0, Nat.zero_le _, rfl, HJS⟩
  case round =>
    clear HJS
    obtain ⟨k, x, cpd, hk, rfl, HS⟩ := hrel
    obtain ⟨c0, f0, h0⟩ := cells_one HS.out.b0
    obtain ⟨c1, f1, h1⟩ := cells_one HS.out.b1
    obtain ⟨c2, f2, h2⟩ := cells_one HS.out.b2
    obtain ⟨c3, f3, h3⟩ := cells_one HS.out.b3
    by_cases hk' : k < 4
    · have hkx : k < xs.length := by rw [HN.out]; exact hk'
      have hky : k < ys.length := by rw [HN'.out]; exact hk'
      obtain ⟨b, o, rfl, hbl, -⟩ := HH.out.at HS.out.low hkx
      obtain ⟨b', o', rfl, hbl', -⟩ := HH'.out.at HS.out.low hky
      have i1 : (0 : Int) ≤ (k : Int) := by omega
      have i2 : (k : Int) < 4 := by omega
      have HT := Lib.hid (zip_take xs ys k hkx hky)
      have HCL : Hid (∀ w', wr.grownBy w' (Value.slice x k cpd).ownBlock → w'.cell? ⟨w.heap.size, 0, none⟩ = some (.slice (some ⟨b, o, none⟩) 4 cap) ∧ w'.cell? ⟨w.heap.size + 1, 0, none⟩ = some (.slice (some ⟨b', o', none⟩) 4 cap') ∧ w'.cell? ⟨w.heap.size + 1 + 1 + 1, 0, none⟩ = some (.slice x k cpd) ∧ w'.cell? ⟨b, o + k, none⟩ = some (.int .i64 (xs.getD k 0)) ∧ w'.cell? ⟨b', o' + k, none⟩ = some (.int .i64 (ys.getD k 0))) := fun w' hG => by
        obtain ⟨⟨q0, q1, q2, q3⟩, hlow⟩ := HS.out.cells hG
        obtain ⟨_, _, he, -, p0⟩ := HH.out.at hlow hkx
        injection he with he
        injection he with he1 he2
        subst he1 he2
        obtain ⟨_, _, he, -, p1⟩ := HH'.out.at hlow hky
        injection he with he
        injection he with he1 he2
        subst he1 he2
        exact ⟨(cells_one q0).1, (cells_one q1).1, (cells_one q3).1, p0, p1⟩
      have HOB : Hid (∀ g, (Value.slice x k cpd).ownBlock = some g → g < wr.heap.size) := fun g hg => (World.ownsRow.lt HS.out.row g hg).2
      clear c0 f0 h0 c1 f1 h1 c2 f2 h2 c3 f3 h3 hbl hbl' HH HH'
      have c0 := HCL.out wr (grown_of_below (Below.refl _ _) _) |>.1
      generalize xs.getD k 0 = X at *
      generalize ys.getD k 0 = Y at *
      obtain ⟨ob, hob⟩ : ∃ ob, (Value.slice x k cpd).ownBlock = ob := ⟨_, rfl⟩
      rw [hob] at HCL HOB
      have HOE := Lib.hid hob
      clear hob
      go_wp2_with fail
      refine wp_region_slots_u 15 [[(5, false)], [(24, true)], [(2, false)], [(26, true)], [(6, false)], [(27, true), (28, true)], [(29, true)], [(3, false)], [(31, true)], [(6, false)], [(32, true), (33, true)], [(34, true)], [(30, true), (35, true)], [(36, true)], [(25, true), (37, true)]] (fun w' => wr.grownBy w' ob) (fun w' => wr.grownBy w' ob) (fun _ w' => wr.grownBy w' ob) (fun d w' => d = some 38 → RowI w' (w.heap.size + 1 + 1 + 1 + 1) (.slice x k cpd) ((List.zipWith max xs ys).take k)) (fun _ => none) (AppS 38 ob) (by kernel_rfl) (by kernel_rfl) (by rfl) ⟨rfl, rfl, rfl, Nat.le_refl _, fun _ _ _ => rfl⟩ (by kernel_rfl) (fun _ _ => HS.out.row.below (Below.refl _ _).drew) (fun _ h => by cases h) (fun d d' hd w w' h1 h2 h3 => (h1 h3).below (appS_below (h3 ▸ hd) h2)) (fun _ _ _ _ _ _ h => by cases h) (fun d _ w w' h1 h2 => grown_trans h1 (appS_any h2)) (fun _ _ _ h => h) (fun _ _ _ h => h) ?_
      have HRF : Hid (∀ (d : Option Tmp) (w : World), d ≠ some 38 → AppS 38 ob d w w) := fun d w hd => appS_refl hd w
      iterate 13 (apply slotU_eq; · (intro ρ w' ⟨p1, p2, p3⟩ hG hEE hn; obtain ⟨c0, c1, c3, d0, d1⟩ := HCL.out w' hG; simp at hn; go_simp; exact ⟨HRF.out _ _ (by simp), rfl⟩))
      refine slotU_fact (OneI ob (max X Y)) (lasts_oneI _ _ _ _ _) ?_ ?_
      · intro ρ w' ⟨p1, p2, p3⟩ hG hEE hn
        simp at hn
        go_simp
        exact ⟨appS_alloc (by simp) _ _, _, rfl, by simp, fun e => by have h1 := HOB.out _ e; have h2 := hG.size; omega, oneI_cells _ _ _⟩
      refine slotU_fact (RowF (w.heap.size + 1 + 1 + 1 + 1) k ((List.zipWith max xs ys).take k ++ [max X Y])) (lasts_rowF _ _ _ _ _ _) ?_ ?_
      · intro ρ w' ⟨p1, p2, p3⟩ hG hEE hn
        simp at hn
        obtain ⟨f25, g', f37, hg3, hg4, hg5⟩ := hn
        have hown := hEE rfl
        have hlt := HS.out.lt
        have hsz := hG.size
        have hlen := HS.out.len
        unfold RowI at hown
        rw [hlen] at hown
        obtain ⟨i0, hi0, hx0⟩ := Option.map_eq_some_iff.1 infoInt
        simp only [Prod.mk.injEq] at hx0
        refine got_append (.tmp 25) (.tmp 37) _ rfl (w.heap.size + 1 + 1 + 1 + 1) 3 i0 (.int .i64 0) 1 8 Try.underlying26 hi0 hx0.1 hx0.2.1 hx0.2.2 (by rfl) (by omega) (.slice x k cpd) k (((List.zipWith max xs ys).take k).map intV) f25 hown ⟨g', 0, none⟩ 1 1 [intV (max X Y)] f37 (by rfl) hg5 (intV_one [max X Y]) (by omega) (by unfold maxLen; omega) (by omega) (by omega) _ rfl ?_
        intro g3 cp3 w5 h1 h2 h3 h4
        rw [HOE.out] at h2
        refine ⟨appS_grown h2, g3, cp3, rfl, ?_⟩
        unfold RowI
        rw [List.length_append, List.map_append, hlen]
        simpa using h1
      refine slotU_end ?_
      rintro vs w4 hG hF
      simp at hF
      obtain ⟨⟨g3, cp3, f38, hrow⟩, ⟨g', f37, -, -, -⟩, f36, f35, f34, f33, f32, f31, f30, f29, f28, f27, f26, f25, f24⟩ := hF
      have hG' := hG
      rw [← HOE.out] at hG'
      have HN5 := Lib.hid (HS.out.next hG' hrow)
      rw [← HT.out] at HN5
      obtain ⟨⟨-, -, -, q3⟩, -⟩ := HS.out.cells hG'
      obtain ⟨c3, f3, h3⟩ := cells_one q3
      clear hrow hG hG' HRF HS HT HCL HOB q3 c0
      simp only [List.take_succ_cons, List.take_zero, List.drop_succ_cons, List.drop_zero, putAll, f38, f37, f36, f35, f34, f33, f32, f31, f30, f29, f28, f27, f26, f25, f24]
      clear f38 f37 f36 f35 f34 f33 f32 f31 f30 f29 f28 f27 f26 f25 f24
      simp only [Act.put, List.setIfInBounds_toArray, List.set_cons_succ, List.set_cons_zero]
      go_wp2
      exact ⟨⟨k + 1, _, _, by omega, by go_num, HN5⟩, by simp [intOf]; omega⟩
    · have hkk : k = 4 := by omega
      subst hkk
      have hlt := HS.out.lt
      have hz := HN.out
      have hz' := HN'.out
      have hall : (List.zipWith max xs ys).take 4 = joinV xs ys := by
        rw [HJ.out, List.take_of_length_le (by simp; omega)]
      have HR := HS.out.row
      have HL := HS.out.len
      rw [hall] at HR HL
      obtain ⟨ax, cx, hv, ho⟩ := HR.form
      rw [HL] at hv
      injection hv with hv1 hv2 hv3
      subst hv1
      have HO2 := Lib.hid (ho.aside (p := ⟨w.heap.size + 1 + 1, 0, none⟩) (by show w.heap.size + 1 + 1 < w.heap.size + 1 + 1 + 1 + 1; omega) (.slice x 4 cpd))
      have HL2 := Lib.hid HL
      have HB5 := Lib.hid (HS.out.low.setCell (p := ⟨w.heap.size + 1 + 1, 0, none⟩) (Nat.le_add_right _ 2) (.slice x 4 cpd))
      clear hall HR HL ho hv2 hv3 hz hz' HJ
      go_wp2
      refine bodyPost_ret (v := vecV x 4 cpd) (by simp only [results, hres]; go_simp) rfl ⟨x, cpd, by rw [HL2.out], HO2.out.wider (by omega) (by simp), HB5.out⟩

end Go.Proofs.Ytpejdhbajejmoaa

/- The specification's VecTick. -/
namespace Go.Proofs.Ytpejdhbajejmoaa
open Go.ChangeShapes Go.WideShapes Go.ChangeAt Go.RowKit Go.Joins
attribute [local go_sem ↓] Go.wp_at_zero Go.wp_at_succ

theorem add_at (b o j : Nat) : ((⟨b, o, none⟩ : Addr).add j) = ⟨b, o + j, none⟩ := by
  unfold Addr.add
  split
  · rename_i h
    rw [h]
    rfl
  · rfl

theorem isIs_row {w : World} {b o : Nat} {ys : List Int} (hh : ∀ i, i < ys.length → w.cell? ⟨b, o + i, none⟩ = some (.int .i64 (ys.getD i 0))) : ∀ j u, (ys.map intV)[j]? = some u → w.cell? ((⟨b, o, none⟩ : Addr).add j) = some u := by
  intro j u hu
  have hj : j < ys.length := by
    have := (List.getElem?_eq_some_iff.1 hu).1
    simpa using this
  rw [add_at, hh j hj, ← hu]
  simp [intV, List.getD, hj]

theorem IsIs.all {w w' : World} {b o : Nat} {zs : List Int} (h : IsIs w (some ⟨b, o, none⟩) zs) (hb : Below w.heap.size w w') : ∀ i, i < zs.length → w'.cell? ⟨b, o + i, none⟩ = some (.int .i64 (zs.getD i 0)) := by
  intro i hi
  obtain ⟨_, _, he, -, e⟩ := h.at hb hi
  injection he with he
  injection he with he1 he2
  subst he1 he2
  exact e

/-- A row of one's own in which one number is set. -/
theorem RowI.set {w : World} {base g n cap : Nat} {zs : List Int} (h : RowI w base (.slice (some ⟨g, 0, none⟩) n cap) zs) (hl : zs.length = n) (q : Nat) (z : Int) : OwnI (w.setCell ⟨g, q, none⟩ (.int .i64 z)) base (w.setCell ⟨g, q, none⟩ (.int .i64 z)).heap.size (some ⟨g, 0, none⟩) (zs.set q z) := by
  obtain ⟨a', c', e, ho⟩ := h.form
  injection e with e1 e2 e3
  subst e1
  rcases ho with h0 | ⟨b, hb, h1, h2, h3, h4, h5⟩
  · subst h0
    exact .inl (by simp)
  · injection hb with hb
    injection hb with hb
    subst hb
    refine .inr ⟨g, rfl, h1, by simpa using h2, by simpa using h3, fun i hi => ?_, fun o => by rw [World.frozen?_setCell]; exact h5 o⟩
    rw [List.length_set] at hi
    by_cases hq : i = q
    · subst hq
      rw [World.cell?_setCell_same _ _ _ (h4 i hi)]
      simp [List.getD, hi]
    · rw [World.cell?_setCell_other _ _ _ _ (by intro e; injection e with e1 e2; exact hq e2.symm), h4 i hi]
      simp [List.getD, Ne.symm hq]

set_option maxRecDepth 100000 in
set_option maxHeartbeats 4000000 in
theorem specVecTick_any (a : Option Addr) (n cap : Nat) (xs : List Int) (si : Int) (w : World) (hl : xs.length = n) (hn : n ≤ maxLen) (hh : IsIs w a xs) :
    Calls Try.prog 25 #[vecV a n cap, .int .i64 si] w fun e w' => ∃ g cp, e = .returned (.tuple #[vecV g (tickV xs si).length cp, .bool (tickOk xs si)]) ∧ OwnI w' w.heap.size w'.heap.size g (tickV xs si) ∧ Below w.heap.size w w' := by
  have hres : Try.f25.results = #[.cell 4 28, .tmp 5] := by kernel_rfl
  have HB0 : Hid (Below w.heap.size w ((w.alloc (.cells #[.slice a n cap] 28)).alloc (.cells #[.slice none 0 0] 28))) := ((Below.refl _ _).alloc (Nat.le_refl _) _).alloc (by simp) _
  have HC : Hid (∀ W, Below w.heap.size w W → Calls Try.prog 29 #[vecV a n cap] W fun e w' => e = .returned (.bool (vecB xs)) ∧ Below W.heap.size W w') := fun W hW => specVecOk_any a n cap xs W hl hn (hh.below hW)
  cases hv : vecB xs
  · have HJ : Hid (tickOk xs si = false) := tickOk_bad hv
    rw [hv] at HC
    clear hv hl hh
    go_enter Try.func25, Try.ntmps25
    go_wp2_with fail
    refine (HC.out _ HB0.out).mono ?_
    rintro e w1 ⟨rfl, hb⟩
    have HB1 := Lib.hid (below_step HB0.out HB0.out.size hb)
    obtain ⟨hc, hf⟩ := bcell hb
    have hz : w.heap.size + 1 < w1.heap.size := by have := hb.size; simp at this; omega
    have hz1 : w.heap.size < w1.heap.size := by omega
    clear hb
    go_wp2
    refine bodyPost_ret (v := .tuple #[vecV none 0 0, .bool false]) (by simp only [results, hres]; go_simp) rfl ⟨none, 0, by rw [HJ.out, tickV_bad HJ.out]; rfl, by rw [tickV_bad HJ.out]; exact .inl rfl, ?_⟩
    exact HB1.out.setCell (p := ⟨w.heap.size + 1, 0, none⟩) (Nat.le_add_right _ 1) _
  rw [hv] at HC
  cases hs : btw si 0 3
  · have HJ : Hid (tickOk xs si = false) := tickOk_off hs
    have HS : Hid (∀ W, Calls Try.prog 30 #[.int .i64 si] W fun e w' => e = .returned (.bool false) ∧ w' = W) := fun W => by
      rw [← hs]
      exact specSite_any si W
    clear hv hs hl hh
    go_enter Try.func25, Try.ntmps25
    go_wp2_with fail
    refine (HC.out _ HB0.out).mono ?_
    rintro e w1 ⟨rfl, hb⟩
    have HB1 := Lib.hid (below_step HB0.out HB0.out.size hb)
    obtain ⟨hc, hf⟩ := bcell hb
    have hz : w.heap.size + 1 < w1.heap.size := by have := hb.size; simp at this; omega
    have hz1 : w.heap.size < w1.heap.size := by omega
    clear hb
    go_wp2_with fail
    refine (HS.out _).mono ?_
    rintro e w2 ⟨rfl, hw⟩
    subst w2
    go_wp2
    refine bodyPost_ret (v := .tuple #[vecV none 0 0, .bool false]) (by simp only [results, hres]; go_simp) rfl ⟨none, 0, by rw [HJ.out, tickV_bad HJ.out]; rfl, by rw [tickV_bad HJ.out]; exact .inl rfl, ?_⟩
    exact HB1.out.setCell (p := ⟨w.heap.size + 1, 0, none⟩) (Nat.le_add_right _ 1) _
  obtain ⟨q, hq, rfl⟩ : ∃ q : Nat, q < 4 ∧ si = (q : Int) := ⟨si.toNat, by have := btw_site hs; omega, by have := btw_site hs; omega⟩
  have HS : Hid (∀ W, Calls Try.prog 30 #[.int .i64 (q : Int)] W fun e w' => e = .returned (.bool true) ∧ w' = W) := fun W => by
    rw [← hs]
    exact specSite_any (q : Int) W
  have hj := tickOk_at (si := (q : Int)) hv hs
  have hx4 : xs.length = 4 := by obtain ⟨x0, x1, x2, x3, rfl, -⟩ := vecB_four hv; rfl
  have hrange : 0 ≤ xs.getD q 0 ∧ xs.getD q 0 ≤ 1000000 := by
    obtain ⟨x0, x1, x2, x3, rfl, h0, h1, h2, h3⟩ := vecB_four hv
    match q, hq with
    | 0, _ => exact h0
    | 1, _ => exact h1
    | 2, _ => exact h2
    | 3, _ => exact h3
  obtain ⟨hr0, hr1⟩ := hrange
  have hn4 : n = 4 := by omega
  subst hn4
  have HH : Hid (IsIs w a xs) := hh
  have HN : Hid (xs.length = 4) := hl
  have hqx : q < xs.length := by omega
  have i1 : (0 : Int) ≤ (q : Int) := by omega
  have i2 : (q : Int) < 4 := by omega
  simp only [Int.toNat_natCast] at hj
  obtain ⟨b, o, rfl, hbl, -⟩ := hh.at (Below.refl _ _) hqx
  clear hl hh hv hs hx4
  by_cases hx : xs.getD q 0 = 1000000
  · have HJ : Hid (tickOk xs (q : Int) = false) := hj.trans (by rw [hx]; rfl)
    have HX := Lib.hid hx
    clear hj hr0 hr1 hx
    go_enter Try.func25, Try.ntmps25
    go_wp2_with fail
    refine (HC.out _ HB0.out).mono ?_
    rintro e w1 ⟨rfl, hb⟩
    have HB1 := Lib.hid (below_step HB0.out HB0.out.size hb)
    obtain ⟨hc, hf⟩ := bcell hb
    have hz : w.heap.size + 1 < w1.heap.size := by have := hb.size; simp at this; omega
    have hz1 : w.heap.size < w1.heap.size := by omega
    clear hb
    have e0 : w1.cell? ⟨b, o + q, none⟩ = some (.int .i64 1000000) := by
      rw [← HX.out]
      exact HH.out.all HB1.out q hqx
    go_wp2_with fail
    refine (HS.out _).mono ?_
    rintro e w2 ⟨rfl, hw⟩
    subst w2
    go_wp2
    refine bodyPost_ret (v := .tuple #[vecV none 0 0, .bool false]) (by simp only [results, hres]; go_simp) rfl ⟨none, 0, by rw [HJ.out, tickV_bad HJ.out]; rfl, by rw [tickV_bad HJ.out]; exact .inl rfl, ?_⟩
    exact HB1.out.setCell (p := ⟨w.heap.size + 1, 0, none⟩) (Nat.le_add_right _ 1) _
  · have HJ : Hid (tickOk xs (q : Int) = true) := hj.trans (by simp only [beq_eq_false_iff_ne.2 hx]; rfl)
    have HL : Hid (tickV xs (q : Int) = xs.set q (xs.getD q 0 + 1)) := tickV_good HJ.out
    obtain ⟨i0, hi0, hx0⟩ := Option.map_eq_some_iff.1 infoInt
    simp only [Prod.mk.injEq] at hx0
    have HI0 := Lib.hid hi0
    have HX0 := Lib.hid hx0
    have HXS : Hid (∃ z, xs.getD q 0 = z ∧ 0 ≤ z ∧ z ≤ 1000000 ∧ z ≠ 1000000) := ⟨_, rfl, hr0, hr1, hx⟩
    clear hj hi0 hx0 hr0 hr1 hx
    go_enter Try.func25, Try.ntmps25
    go_wp2_with fail
    refine (HC.out _ HB0.out).mono ?_
    rintro e w1 ⟨rfl, hb⟩
    have HB1 := Lib.hid (below_step HB0.out HB0.out.size hb)
    obtain ⟨hc, hf⟩ := bcell hb
    have hz : w.heap.size + 1 < w1.heap.size := by have := hb.size; simp at this; omega
    have hz1 : w.heap.size < w1.heap.size := by omega
    clear hb
    have HA1 : Hid (Below w.heap.size w (w1.alloc (.cells #[] 3))) := HB1.out.alloc HB1.out.size _
    have HO0 : Hid ((w1.alloc (.cells #[] 3)).ownsRow w1.heap.size 3 1 (.slice (some ⟨w1.heap.size, 0, none⟩) 0 0) 0 []) := World.ownsRow_made w1 #[] 0 (Nat.le_refl _) (by simp [maxLen]) (by simp)
    have HRC := Lib.hid (isIs_row (HH.out.all HA1.out))
    have e0 := HH.out.all HB1.out q hqx
    obtain ⟨z, hzx, hz0, hz1', hz2'⟩ := HXS.out
    rw [hzx] at e0 HL
    have HZX := Lib.hid hzx
    clear hzx HXS
    go_wp2_with fail
    refine (HS.out _).mono ?_
    rintro e w2 ⟨rfl, hw⟩
    subst w2
    have hlen : (xs.map intV).length = 4 * 1 := by
      rw [List.length_map, HN.out]
    have HLEN := Lib.hid hlen
    clear hlen
    go_wp2_with (at_builtin; refine wpList_append_lies _ (by rfl) _ _ _ (by rfl) w1.heap.size 3 i0 (.int .i64 0) 1 8 Try.underlying26 HI0.out HX0.out.1 HX0.out.2.1 HX0.out.2.2 (by rfl) (by omega) (.slice (some ⟨w1.heap.size, 0, none⟩) 0 0) 0 [] (by rfl) HO0.out ⟨b, o, none⟩ 4 cap (xs.map intV) (by rfl) HLEN.out HRC.out (intV_one xs) (by omega) (by unfold maxLen; omega) (by omega) (by simp) _ rfl ?_; intro g cp w5 hown hgrow hgd hg5; refine Hid.out ?_)
    refine Lib.hid ?_
    have hH5 : Below w1.heap.size w1 w5 := ((Below.refl _ _).alloc (Nat.le_refl _) _).grown hgrow (by simp) fun j hj => by
      simp only [Value.ownBlock, Option.some.injEq] at hj
      omega
    have HB5 := Lib.hid (below_step HB1.out HB1.out.size hH5)
    have HR5 : Hid (RowI w5 w1.heap.size (.slice (some ⟨g, 0, none⟩) 4 cp) xs) := by
      show RowI _ _ _ _
      unfold RowI
      rw [HN.out]
      simpa using hown
    obtain ⟨hc5, hf5⟩ := bcell hH5
    obtain ⟨hgl, -⟩ := World.ownsRow.lt hown g rfl
    have hcg : w5.cell? ⟨g, q, none⟩ = some (.int .i64 z) := by
      rw [World.ownsRow.cellAt hown q (by omega), ← HZX.out]
      simp [intV, List.getD, hqx]
    have hfg : ∀ o, w5.frozen? ⟨g, o, none⟩ = false := fun o => World.ownsRow.frozenAt hown o
    have hzw : w1.heap.size < w5.heap.size := by omega
    have hne : ¬ w.heap.size + 1 = g := by omega
    have hne' : ¬ g = w.heap.size + 1 := by omega
    have hz5 : w.heap.size + 1 < w5.heap.size := by omega
    have hz6 : g < w5.heap.size := hg5
    clear hgd hown hgrow hH5 HO0 HRC HI0 HX0 HLEN HA1
    have HO6 := Lib.hid (((HR5.out.set HN.out q (z + 1)).aside (p := ⟨w.heap.size + 1, 0, none⟩) hz (.slice (some ⟨g, 0, none⟩) 4 cp)).below ((Below.refl _ _).alloc (Nat.le_refl _) (.cells #[.slice (some ⟨g, 0, none⟩) 4 cp] 28)))
    have HB6 := Lib.hid (((HB5.out.setCell (p := ⟨g, q, none⟩) (by show w.heap.size ≤ g; omega) (.int .i64 (z + 1))).setCell (p := ⟨w.heap.size + 1, 0, none⟩) (Nat.le_add_right _ 1) (.slice (some ⟨g, 0, none⟩) 4 cp)).alloc (by have := HB5.out.size; simpa using this) (.cells #[.slice (some ⟨g, 0, none⟩) 4 cp] 28))
    go_wp2
    refine bodyPost_ret (v := .tuple #[vecV (some ⟨g, 0, none⟩) 4 cp, .bool true]) (by simp only [results, hres]; go_simp) rfl ⟨some ⟨g, 0, none⟩, cp, by rw [HJ.out, HL.out, List.length_set, HN.out], ?_, HB6.out⟩
    rw [HL.out]
    exact HO6.out.wider (by omega) (by simp)

end Go.Proofs.Ytpejdhbajejmoaa

/- The cursor of the drawn inputs: its place in memory, and the contracts of l01Open, pick, once. -/
namespace Go.Proofs.Ytpejdhbajejmoaa
open Go.ChangeShapes Go.WideShapes Go.ChangeAt Go.RowKit Go.Joins

/-- Nothing that was there has turned, but for the one block B. -/
structure Hole (B : Nat) (w w' : World) : Prop where
  os : w'.os = w.os
  tape : w'.tape = w.tape
  output : w'.output = w.output
  size : w.heap.size ≤ w'.heap.size
  block : ∀ k, k < w.heap.size → k ≠ B → w'.heap[k]? = w.heap[k]?

theorem Hole.refl (B : Nat) (w : World) : Hole B w w := ⟨rfl, rfl, rfl, Nat.le_refl _, fun _ _ _ => rfl⟩

theorem Hole.trans {B : Nat} {a b c : World} (h : Hole B a b) (k : Hole B b c) : Hole B a c :=
  ⟨k.os.trans h.os, k.tape.trans h.tape, k.output.trans h.output, Nat.le_trans h.size k.size, fun i hi hn => (k.block i (Nat.lt_of_lt_of_le hi h.size) hn).trans (h.block i hi hn)⟩

theorem Hole.of_below {B : Nat} {w w' : World} (h : Below w.heap.size w w') : Hole B w w' := ⟨h.os, h.tape, h.output, h.size, fun k hk _ => h.block k hk⟩

theorem Hole.drew {B : Nat} {w w' : World} (h : Hole B w w') : Hole B w w'.drew := ⟨h.os, h.tape, h.output, h.size, h.block⟩

theorem Hole.drewN {B : Nat} {w w' : World} (h : Hole B w w') (n : Nat) : Hole B w (w'.drewN n) := h.trans (Hole.of_below (below_drewN (Below.refl _ _) n))

theorem Hole.alloc {B : Nat} {w w' : World} (h : Hole B w w') (o : Obj) : Hole B w (w'.alloc o) := h.trans (Hole.of_below ((Below.refl _ _).alloc (Nat.le_refl _) o))

theorem Hole.set {B : Nat} {w w' : World} (h : Hole B w w') (o : Nat) (v : Value) : Hole B w (w'.setCell ⟨B, o, none⟩ v) :=
  h.trans ⟨rfl, rfl, rfl, by simp [World.setCell], fun k _ hn => Below.heap_setCell _ _ _ _ hn⟩

theorem Hole.cell {B : Nat} {w w' : World} (h : Hole B w w') {b o : Nat} (hb : b < w.heap.size) (hn : b ≠ B) : w'.cell? ⟨b, o, none⟩ = w.cell? ⟨b, o, none⟩ := World.cell?_of_block (w := w) (h.block b hb hn)

theorem Hole.frozen {B : Nat} {w w' : World} (h : Hole B w w') {b o : Nat} (hb : b < w.heap.size) (hn : b ≠ B) : w'.frozen? ⟨b, o, none⟩ = w.frozen? ⟨b, o, none⟩ := World.frozen?_of_block (w := w) (h.block b hb hn)

theorem Hole.below {B c : Nat} {w0 w w' : World} (h0 : Below c w0 w) (h : Hole B w w') (hB : c ≤ B) (hc : c ≤ w.heap.size) : Below c w0 w' :=
  h0.trans ⟨h.os, h.tape, h.output, h.size, fun k hk => h.block k (by omega) (by omega)⟩

structure CurAt (w : World) (B : Nat) (a : Option Addr) (len cap : Nat) (at_ seed : Int) : Prop where
  lt : B < w.heap.size
  c0 : w.cell? ⟨B, 0, none⟩ = some (.slice a len cap)
  c1 : w.cell? ⟨B, 1, none⟩ = some (.int .i64 at_)
  c2 : w.cell? ⟨B, 2, none⟩ = some (.int .i64 seed)
  fz : ∀ o, w.frozen? ⟨B, o, none⟩ = false
  p0 : 0 ≤ at_
  s0 : 0 ≤ seed
  s1 : seed ≤ 65520

/-- The code's bytes, in a block that is not the cursor's. -/
def CodeAt (w : World) (B : Nat) (a : Option Addr) (len : Nat) : Prop :=
  len = 0 ∨ ∃ b o, a = some ⟨b, o, none⟩ ∧ b < B ∧ ∀ i, i < len → ∃ z : Int, 0 ≤ z ∧ z ≤ 255 ∧ w.cell? ⟨b, o + i, none⟩ = some (.int .u8 z)

theorem CodeAt.hole {w w' : World} {B : Nat} {a : Option Addr} {len : Nat} (h : CodeAt w B a len) (hB : B < w.heap.size) (hh : Hole B w w') : CodeAt w' B a len := by
  rcases h with h | ⟨b, o, ha, hb, hz⟩
  · exact .inl h
  · refine .inr ⟨b, o, ha, hb, fun i hi => ?_⟩
    obtain ⟨z, z0, z1, hc⟩ := hz i hi
    exact ⟨z, z0, z1, (hh.cell (by omega) (by omega)).trans hc⟩

/-- The cursor stands at most N bytes on. -/
def Cur (w : World) (B : Nat) (a : Option Addr) (len cap : Nat) (N : Int) : Prop := ∃ at_ seed, CurAt w B a len cap at_ seed ∧ at_ ≤ N ∧ CodeAt w B a len ∧ len ≤ 1048576

theorem Cur.below {w w' : World} {B : Nat} {a : Option Addr} {len cap : Nat} {N : Int} (h : Cur w B a len cap N) (hb : Below w.heap.size w w') : Cur w' B a len cap N := by
  obtain ⟨at_, seed, hc, hN, hk, hl⟩ := h
  refine ⟨at_, seed, ⟨Nat.lt_of_lt_of_le hc.lt hb.size, held_cell hb hc.c0 hc.lt, held_cell hb hc.c1 hc.lt, held_cell hb hc.c2 hc.lt, fun o => (hb.frozen (p := ⟨B, o, none⟩) hc.lt).trans (hc.fz o), hc.p0, hc.s0, hc.s1⟩, hN, hk.hole hc.lt (Hole.of_below hb), hl⟩

theorem Cur.more {w : World} {B : Nat} {a : Option Addr} {len cap : Nat} {N M : Int} (h : Cur w B a len cap N) (hM : N ≤ M) : Cur w B a len cap M := by
  obtain ⟨at_, seed, hc, hN, hk⟩ := h
  exact ⟨at_, seed, hc, Int.le_trans hN hM, hk⟩

theorem Cur.lt {w : World} {B : Nat} {a : Option Addr} {len cap : Nat} {N : Int} (h : Cur w B a len cap N) : B < w.heap.size := by
  obtain ⟨_, _, hc, _⟩ := h
  exact hc.lt

theorem mod_lt {x n : Int} (hn : 2 ≤ n) : 0 ≤ x % n ∧ x % n < n := ⟨Int.emod_nonneg _ (by omega), Int.emod_lt_of_pos _ (by omega)⟩

set_option maxHeartbeats 1000000 in
theorem pick_in (B : Nat) (b o len cap : Nat) (at_ n z : Int) (w : World) (c0 : w.cell? ⟨B, 0, none⟩ = some (.slice (some ⟨b, o, none⟩) len cap)) (c1 : w.cell? ⟨B, 1, none⟩ = some (.int .i64 at_)) (fz : ∀ o, w.frozen? ⟨B, o, none⟩ = false)
    (hz : w.cell? ⟨b, o + at_.toNat, none⟩ = some (.int .u8 z)) (z0 : 0 ≤ z) (z1 : z ≤ 255) (p0 : 0 ≤ at_) (p1 : at_ < len) (hl : len ≤ 1048576) (hn : 2 ≤ n) (hn' : n ≤ 100000) :
    Calls Try.prog 24 #[.pointer (some ⟨B, 0, none⟩), .int .i64 n] w fun e w' => e = .returned (.int .i64 (z % n)) ∧ ∃ m, w' = (w.drewN m).setCell ⟨B, 1, none⟩ (.int .i64 (at_ + 1)) := by
  go_enter Try.func24, Try.ntmps24
  go_wp2_with fail
  go_quiet (fail)
  go_wp2_with fail
  go_quiet (fail)
  go_wp2
  go_ret
  exact ⟨rfl, _, rfl⟩

set_option maxHeartbeats 1000000 in
theorem pick_out (B : Nat) (b o len cap : Nat) (at_ seed n z : Int) (w : World) (hne : b ≠ B) (c0 : w.cell? ⟨B, 0, none⟩ = some (.slice (some ⟨b, o, none⟩) len cap)) (c1 : w.cell? ⟨B, 1, none⟩ = some (.int .i64 at_)) (c2 : w.cell? ⟨B, 2, none⟩ = some (.int .i64 seed)) (fz : ∀ o, w.frozen? ⟨B, o, none⟩ = false)
    (hz : w.cell? ⟨b, o + (at_ % len).toNat, none⟩ = some (.int .u8 z)) (z0 : 0 ≤ z) (z1 : z ≤ 255) (p0 : 0 ≤ at_) (p2 : at_ ≤ 1000000) (p1 : (len : Int) ≤ at_) (s0 : 0 ≤ seed) (s1 : seed ≤ 65520) (hl0 : (0 : Int) < len) (hl : len ≤ 1048576) (hn : 2 ≤ n) (hn' : n ≤ 100000) :
    Calls Try.prog 24 #[.pointer (some ⟨B, 0, none⟩), .int .i64 n] w fun e w' => e = .returned (.int .i64 (((seed * 1103 + 12345) % 65521 / 7 + z) % n)) ∧ ∃ m m', w' = ((((w.drewN m).setCell ⟨B, 2, none⟩ (.int .i64 ((seed * 1103 + 12345) % 65521))).drewN m').setCell ⟨B, 1, none⟩ (.int .i64 (at_ + 1))) := by
  have i1 : (0 : Int) ≤ at_ % len := Int.emod_nonneg _ (by omega)
  have i2 : at_ % len < (len : Int) := Int.emod_lt_of_pos _ hl0
  go_enter Try.func24, Try.ntmps24
  go_wp2_with fail
  go_quiet (fail)
  go_wp2_with fail
  go_quiet (fail)
  go_wp2
  go_ret
  exact ⟨rfl, _, _, rfl⟩

set_option maxHeartbeats 1000000 in
theorem pick_nil (B : Nat) (a : Option Addr) (cap : Nat) (at_ seed n : Int) (w : World) (c0 : w.cell? ⟨B, 0, none⟩ = some (.slice a 0 cap)) (c1 : w.cell? ⟨B, 1, none⟩ = some (.int .i64 at_)) (c2 : w.cell? ⟨B, 2, none⟩ = some (.int .i64 seed)) (fz : ∀ o, w.frozen? ⟨B, o, none⟩ = false)
    (p0 : 0 ≤ at_) (p2 : at_ ≤ 1000000) (s0 : 0 ≤ seed) (s1 : seed ≤ 65520) (hn : 2 ≤ n) (hn' : n ≤ 100000) :
    Calls Try.prog 24 #[.pointer (some ⟨B, 0, none⟩), .int .i64 n] w fun e w' => e = .returned (.int .i64 (0 % n)) ∧ ∃ m m', w' = ((((w.drewN m).setCell ⟨B, 2, none⟩ (.int .i64 ((seed * 1103 + 12345) % 65521))).drewN m').setCell ⟨B, 1, none⟩ (.int .i64 (at_ + 1))) := by
  go_enter Try.func24, Try.ntmps24
  go_wp2_with fail
  go_quiet (fail)
  go_wp2
  go_ret
  exact ⟨by simp, _, 0, rfl⟩

theorem cell_set_same {w : World} {B o : Nat} {u v : Value} (h : w.cell? ⟨B, o, none⟩ = some u) : (w.setCell ⟨B, o, none⟩ v).cell? ⟨B, o, none⟩ = some v := World.cell?_setCell_same _ _ _ h

theorem cell_set_off {w : World} {B o o' : Nat} {u v : Value} (h : w.cell? ⟨B, o', none⟩ = some u) (hn : o ≠ o') : (w.setCell ⟨B, o, none⟩ v).cell? ⟨B, o', none⟩ = some u :=
  (World.cell?_setCell_other _ _ _ _ (fun e => hn (by injection e))).trans h

theorem cur_set1 {w : World} {B : Nat} {a : Option Addr} {len cap : Nat} {at_ seed p : Int} (h : CurAt w B a len cap at_ seed) (hp : 0 ≤ p) : CurAt (w.setCell ⟨B, 1, none⟩ (.int .i64 p)) B a len cap p seed :=
  ⟨by simpa [World.setCell] using h.lt, cell_set_off h.c0 (by omega), cell_set_same h.c1, cell_set_off h.c2 (by omega), fun o => by rw [World.frozen?_setCell]; exact h.fz o, hp, h.s0, h.s1⟩

theorem cur_set2 {w : World} {B : Nat} {a : Option Addr} {len cap : Nat} {at_ seed p : Int} (h : CurAt w B a len cap at_ seed) (hp : 0 ≤ p) (hq : p ≤ 65520) : CurAt (w.setCell ⟨B, 2, none⟩ (.int .i64 p)) B a len cap at_ p :=
  ⟨by simpa [World.setCell] using h.lt, cell_set_off h.c0 (by omega), cell_set_off h.c1 (by omega), cell_set_same h.c2, fun o => by rw [World.frozen?_setCell]; exact h.fz o, h.p0, hp, hq⟩

theorem cur_drewN {w : World} {B : Nat} {a : Option Addr} {len cap : Nat} {at_ seed : Int} (h : CurAt w B a len cap at_ seed) (n : Nat) : CurAt (w.drewN n) B a len cap at_ seed := by
  have hb : Below w.heap.size w (w.drewN n) := below_drewN (Below.refl _ _) n
  exact ⟨Nat.lt_of_lt_of_le h.lt hb.size, held_cell hb h.c0 h.lt, held_cell hb h.c1 h.lt, held_cell hb h.c2 h.lt, fun o => (hb.frozen (p := ⟨B, o, none⟩) h.lt).trans (h.fz o), h.p0, h.s0, h.s1⟩

theorem pick_any (B : Nat) (a : Option Addr) (len cap : Nat) (N n : Int) (w : World) (hN : N ≤ 1000000) (hn : 2 ≤ n) (hn' : n ≤ 100000) (h : Cur w B a len cap N) :
    Calls Try.prog 24 #[.pointer (some ⟨B, 0, none⟩), .int .i64 n] w fun e w' => ∃ r : Int, e = .returned (.int .i64 r) ∧ 0 ≤ r ∧ r < n ∧ Cur w' B a len cap (N + 1) ∧ Hole B w w' := by
  obtain ⟨at_, seed, hc, hN', hk, hl⟩ := h
  have hs : 0 ≤ (seed * 1103 + 12345) % 65521 ∧ (seed * 1103 + 12345) % 65521 ≤ 65520 := by
    have := hc.s0
    have := hc.s1
    omega
  have hp := hc.p0
  rcases hk with h0 | ⟨b, o, rfl, hb, hz⟩
  · subst h0
    refine (pick_nil B a cap at_ seed n w hc.c0 hc.c1 hc.c2 hc.fz hc.p0 (by omega) hc.s0 hc.s1 hn hn').mono ?_
    rintro e w' ⟨rfl, m, m', rfl⟩
    exact ⟨_, rfl, (mod_lt hn).1, (mod_lt hn).2, ⟨at_ + 1, _, cur_set1 (cur_drewN (cur_set2 (cur_drewN hc m) hs.1 hs.2) m') (by omega), by omega, .inl rfl, hl⟩, ((((Hole.refl B w).drewN m).set 2 _).drewN m').set 1 _⟩
  · by_cases hlt : at_ < len
    · obtain ⟨z, z0, z1, hzc⟩ := hz at_.toNat (by omega)
      refine (pick_in B b o len cap at_ n z w hc.c0 hc.c1 hc.fz hzc z0 z1 hc.p0 hlt hl hn hn').mono ?_
      rintro e w' ⟨rfl, m, rfl⟩
      have hh : Hole B w ((w.drewN m).setCell ⟨B, 1, none⟩ (.int .i64 (at_ + 1))) := ((Hole.refl B w).drewN m).set 1 _
      exact ⟨_, rfl, (mod_lt hn).1, (mod_lt hn).2, ⟨at_ + 1, seed, cur_set1 (cur_drewN hc m) (by omega), by omega, (CodeAt.hole (.inr ⟨b, o, rfl, hb, hz⟩) hc.lt hh), hl⟩, hh⟩
    · by_cases h0 : len = 0
      · subst h0
        refine (pick_nil B _ cap at_ seed n w hc.c0 hc.c1 hc.c2 hc.fz hc.p0 (by omega) hc.s0 hc.s1 hn hn').mono ?_
        rintro e w' ⟨rfl, m, m', rfl⟩
        exact ⟨_, rfl, (mod_lt hn).1, (mod_lt hn).2, ⟨at_ + 1, _, cur_set1 (cur_drewN (cur_set2 (cur_drewN hc m) hs.1 hs.2) m') (by omega), by omega, .inl rfl, hl⟩, ((((Hole.refl B w).drewN m).set 2 _).drewN m').set 1 _⟩
      · have hl0 : (0 : Int) < len := by omega
        have i1 : (0 : Int) ≤ at_ % len := Int.emod_nonneg _ (by omega)
        have i2 : at_ % len < (len : Int) := Int.emod_lt_of_pos _ hl0
        obtain ⟨z, z0, z1, hzc⟩ := hz (at_ % len).toNat (by omega)
        refine (pick_out B b o len cap at_ seed n z w (by omega) hc.c0 hc.c1 hc.c2 hc.fz hzc z0 z1 hc.p0 (by omega) (by omega) hc.s0 hc.s1 hl0 hl hn hn').mono ?_
        rintro e w' ⟨rfl, m, m', rfl⟩
        have hh : Hole B w ((((w.drewN m).setCell ⟨B, 2, none⟩ (.int .i64 ((seed * 1103 + 12345) % 65521))).drewN m').setCell ⟨B, 1, none⟩ (.int .i64 (at_ + 1))) := ((((Hole.refl B w).drewN m).set 2 _).drewN m').set 1 _
        exact ⟨_, rfl, (mod_lt hn).1, (mod_lt hn).2, ⟨at_ + 1, _, cur_set1 (cur_drewN (cur_set2 (cur_drewN hc m) hs.1 hs.2) m') (by omega), by omega, (CodeAt.hole (.inr ⟨b, o, rfl, hb, hz⟩) hc.lt hh), hl⟩, hh⟩

set_option maxHeartbeats 400000 in
theorem once_any (B : Nat) (a : Option Addr) (len cap : Nat) (N n : Int) (w : World) (hN : N ≤ 1000000) (hn : 2 ≤ n) (hn' : n ≤ 100000) (h : Cur w B a len cap N) :
    Calls Try.prog 26 #[.pointer (some ⟨B, 0, none⟩), .int .i64 n] w fun e w' => ∃ r : Bool, e = .returned (.bool r) ∧ Cur w' B a len cap (N + 1) ∧ Hole B w w' := by
  have HC : Hid (Cur w B a len cap N) := h
  clear h
  go_enter Try.func26, Try.ntmps26
  go_wp2_with fail
  refine (pick_any B a len cap N n _ hN hn hn' HC.out).mono ?_
  rintro e w1 ⟨r, rfl, r0, r1, hc1, hh1⟩
  have HC1 : Hid (Cur w1 B a len cap (N + 1)) := hc1
  have HH1 : Hid (Hole B w w1) := hh1
  clear hc1 hh1
  go_wp2
  go_ret
  exact ⟨_, rfl, HC1.out, HH1.out⟩

theorem Hole.setNew {B R : Nat} {w w' : World} (h : Hole B w w') (hR : w.heap.size ≤ R) (o : Nat) (v : Value) : Hole B w (w'.setCell ⟨R, o, none⟩ v) :=
  ⟨h.os, h.tape, h.output, by simpa [World.setCell] using h.size, fun k hk hn => (Below.heap_setCell _ _ _ _ (by show k ≠ R; omega)).trans (h.block k hk hn)⟩

theorem Cur.setOther {w : World} {B R : Nat} {a : Option Addr} {len cap : Nat} {N : Int} (h : Cur w B a len cap N) (hR : B < R) (o : Nat) (v : Value) : Cur (w.setCell ⟨R, o, none⟩ v) B a len cap N := by
  obtain ⟨at_, seed, hc, hN, hk, hl⟩ := h
  have hne : ∀ b o', b < R → (Addr.mk R o none) ≠ ⟨b, o', none⟩ := fun b o' hb e => by
    have : R = b := by injection e
    omega
  refine ⟨at_, seed, ⟨by simpa [World.setCell] using hc.lt, (World.cell?_setCell_other _ _ _ _ (hne _ _ hR)).trans hc.c0, (World.cell?_setCell_other _ _ _ _ (hne _ _ hR)).trans hc.c1, (World.cell?_setCell_other _ _ _ _ (hne _ _ hR)).trans hc.c2, fun o => by rw [World.frozen?_setCell]; exact hc.fz o, hc.p0, hc.s0, hc.s1⟩, hN, ?_, hl⟩
  rcases hk with h0 | ⟨b, o', ha, hb, hz⟩
  · exact .inl h0
  · refine .inr ⟨b, o', ha, hb, fun i hi => ?_⟩
    obtain ⟨z, z0, z1, hcz⟩ := hz i hi
    exact ⟨z, z0, z1, (World.cell?_setCell_other _ _ _ _ (hne _ _ (by omega))).trans hcz⟩

/-- A tag in a block of its own. -/
structure TagBox (w : World) (b : Nat) (c s q : Int) : Prop where
  lt : b < w.heap.size
  c0 : w.cell? ⟨b, 0, none⟩ = some (.int .i64 c)
  c1 : w.cell? ⟨b, 1, none⟩ = some (.int .i64 s)
  c2 : w.cell? ⟨b, 2, none⟩ = some (.int .i64 q)
  fz : ∀ o, w.frozen? ⟨b, o, none⟩ = false

theorem TagBox.start (w : World) (c s q : Int) (t : Nat) : TagBox (w.alloc (.cells #[.int .i64 c, .int .i64 s, .int .i64 q] t)) w.heap.size c s q :=
  ⟨by simp, by simp [go_sem], by simp [go_sem], by simp [go_sem], fun o => by simp [go_sem]⟩

theorem TagBox.hole {w w' : World} {B b : Nat} {c s q : Int} (h : TagBox w b c s q) (hh : Hole B w w') (hn : b ≠ B) : TagBox w' b c s q :=
  ⟨Nat.lt_of_lt_of_le h.lt hh.size, (hh.cell h.lt hn).trans h.c0, (hh.cell h.lt hn).trans h.c1, (hh.cell h.lt hn).trans h.c2, fun o => (hh.frozen h.lt hn).trans (h.fz o)⟩

theorem ints_cell (w : World) (l : List Int) (t i : Nat) (hi : i < l.length) : (w.alloc (.cells (l.map (Value.int .i64)).toArray t)).cell? ⟨w.heap.size, i, none⟩ = some (.int .i64 (l.getD i 0)) := by
  simp [go_sem, List.getD, hi]

set_option maxHeartbeats 1000000 in
theorem raw_any (B : Nat) (a : Option Addr) (len cap : Nat) (N : Int) (w : World) (hN : N ≤ 100000) (h : Cur w B a len cap N) :
    Calls Try.prog 27 #[.pointer (some ⟨B, 0, none⟩)] w fun e w' => ∃ r : Int, e = .returned (.int .i64 r) ∧ Cur w' B a len cap (N + 2) ∧ Hole B w w' := by
  have HC : Hid (Cur w B a len cap N) := h
  clear h
  go_enter Try.func27, Try.ntmps27
  go_wp2_with fail
  refine (pick_any B a len cap N 8 _ (by omega) (by omega) (by omega) HC.out).mono ?_
  rintro e w1 ⟨r, rfl, r0, r1, hc1, hh1⟩
  have HC1 : Hid (Cur w1 B a len cap (N + 1)) := hc1
  have HH1 : Hid (Hole B w w1) := hh1
  clear hc1 hh1
  by_cases k0 : r = 0
  · subst k0
    go_wp2_with fail
    refine (pick_any B a len cap (N + 1) 256 _ (by omega) (by omega) (by omega) HC1.out).mono ?_
    rintro e w2 ⟨r2, rfl, q0, q1, hc2, hh2⟩
    have HC2 : Hid (Cur w2 B a len cap (N + 2)) := hc2.more (by omega)
    have HH2 : Hid (Hole B w w2) := HH1.out.trans hh2
    clear hc2 hh2
    go_wp2
    go_ret
    exact ⟨_, rfl, HC2.out, HH2.out⟩
  · by_cases k1 : r = 1
    · subst k1
      go_wp2_with fail
      have HA : Hid (Below w1.heap.size w1 (w1.alloc (.cells ((([9223372036854775807, -9223372036854775808, 4611686018427387904, 1000, 1001, -1000, 100000, 100001] : List Int).map (Value.int .i64)).toArray) 3))) := (Below.refl _ _).alloc (Nat.le_refl _) _
      refine (pick_any B a len cap (N + 1) 8 _ (by omega) (by omega) (by omega) (HC1.out.below HA.out)).mono ?_
      rintro e w2 ⟨r2, rfl, q0, q1, hc2, hh2⟩
      have HC2 : Hid (Cur w2 B a len cap (N + 2)) := hc2.more (by omega)
      have HH2 : Hid (Hole B w w2) := (HH1.out.trans (Hole.of_below HA.out)).trans hh2
      have hcell : w2.cell? ⟨w1.heap.size, r2.toNat, none⟩ = some (.int .i64 _) := (hh2.cell (by simp) (by have := HC1.out.lt; omega)).trans (ints_cell w1 [9223372036854775807, -9223372036854775808, 4611686018427387904, 1000, 1001, -1000, 100000, 100001] _ r2.toNat (by simp; omega))
      generalize List.getD [9223372036854775807, -9223372036854775808, 4611686018427387904, 1000, 1001, -1000, 100000, 100001] r2.toNat 0 = v at hcell
      clear hc2 hh2 HA
      go_wp2
      go_ret
      exact ⟨_, rfl, HC2.out, HH2.out⟩
    · have k0' : (r == 0) = false := by simp [k0]
      have k1' : (r == 1) = false := by simp [k1]
      clear k0 k1
      go_wp2_with fail
      refine (pick_any B a len cap (N + 1) 14 _ (by omega) (by omega) (by omega) HC1.out).mono ?_
      rintro e w2 ⟨r2, rfl, q0, q1, hc2, hh2⟩
      have HC2 : Hid (Cur w2 B a len cap (N + 2)) := hc2.more (by omega)
      have HH2 : Hid (Hole B w w2) := HH1.out.trans hh2
      clear hc2 hh2
      go_wp2
      go_ret
      exact ⟨_, rfl, HC2.out, HH2.out⟩

end Go.Proofs.Ytpejdhbajejmoaa

/- The contracts of l01Open and of the cursor's tag. -/
namespace Go.Proofs.Ytpejdhbajejmoaa
open Go.ChangeShapes Go.WideShapes Go.ChangeAt Go.RowKit Go.Joins

/-- What a code that came in is: bytes in a block that was there. -/
def Bytes (w : World) (a : Option Addr) (len : Nat) : Prop :=
  len = 0 ∨ ∃ b o, a = some ⟨b, o, none⟩ ∧ b < w.heap.size ∧ ∀ i, i < len → ∃ z : Int, 0 ≤ z ∧ z ≤ 255 ∧ w.cell? ⟨b, o + i, none⟩ = some (.int .u8 z)

theorem Bytes.below {w w' : World} {a : Option Addr} {len : Nat} (h : Bytes w a len) (hb : Below w.heap.size w w') : Bytes w' a len := by
  rcases h with h | ⟨b, o, ha, hlt, hz⟩
  · exact .inl h
  · refine .inr ⟨b, o, ha, Nat.lt_of_lt_of_le hlt hb.size, fun i hi => ?_⟩
    obtain ⟨z, z0, z1, hc⟩ := hz i hi
    exact ⟨z, z0, z1, held_cell hb hc hlt⟩

theorem cur_start {w : World} {a : Option Addr} {len cap : Nat} (sd : Int) (t : Nat) (h : Bytes w a len) (hl : len ≤ 1048576) (s0 : 0 ≤ sd) (s1 : sd ≤ 65520) :
    Cur (w.alloc (.cells #[.slice a len cap, .int .i64 0, .int .i64 sd] t)) w.heap.size a len cap 0 := by
  refine ⟨0, sd, ⟨by simp, by simp [go_sem], by simp [go_sem], by simp [go_sem], fun o => by simp [go_sem], by omega, s0, s1⟩, by omega, ?_, hl⟩
  rcases h with h | ⟨b, o, ha, hlt, hz⟩
  · exact .inl h
  · refine .inr ⟨b, o, ha, hlt, fun i hi => ?_⟩
    obtain ⟨z, z0, z1, hc⟩ := hz i hi
    exact ⟨z, z0, z1, held_cell ((Below.refl _ _).alloc (Nat.le_refl _) _) hc hlt⟩

set_option maxHeartbeats 400000 in
theorem open_any (a : Option Addr) (len cap : Nat) (w : World) (h : Bytes w a len) (hl : len ≤ 1048576) :
    Calls Try.prog 12 #[.slice a len cap] w fun e w' => e = .returned (.pointer (some ⟨w.heap.size, 0, none⟩)) ∧ Cur w' w.heap.size a len cap 0 ∧ Below w.heap.size w w' := by
  have HB : Hid (Bytes w a len) := h
  clear h
  go_enter Try.func12, Try.ntmps12
  go_wp2
  go_ret
  exact ⟨rfl, cur_start _ _ HB.out hl (by omega) (by omega), (Below.refl _ _).alloc (Nat.le_refl _) _⟩

theorem TagBox.set0 {w : World} {b : Nat} {c s q : Int} (h : TagBox w b c s q) (x : Int) : TagBox (w.setCell ⟨b, 0, none⟩ (.int .i64 x)) b x s q :=
  ⟨by simpa [World.setCell] using h.lt, cell_set_same h.c0, cell_set_off h.c1 (by omega), cell_set_off h.c2 (by omega), fun o => by rw [World.frozen?_setCell]; exact h.fz o⟩

theorem TagBox.set1 {w : World} {b : Nat} {c s q : Int} (h : TagBox w b c s q) (x : Int) : TagBox (w.setCell ⟨b, 1, none⟩ (.int .i64 x)) b c x q :=
  ⟨by simpa [World.setCell] using h.lt, cell_set_off h.c0 (by omega), cell_set_same h.c1, cell_set_off h.c2 (by omega), fun o => by rw [World.frozen?_setCell]; exact h.fz o⟩

theorem TagBox.set2 {w : World} {b : Nat} {c s q : Int} (h : TagBox w b c s q) (x : Int) : TagBox (w.setCell ⟨b, 2, none⟩ (.int .i64 x)) b c s x :=
  ⟨by simpa [World.setCell] using h.lt, cell_set_off h.c0 (by omega), cell_set_off h.c1 (by omega), cell_set_same h.c2, fun o => by rw [World.frozen?_setCell]; exact h.fz o⟩

/-- How a tag's drawing ends, out of any world in which both boxes stand. -/
theorem tag_end {B R : Nat} {a : Option Addr} {len cap : Nat} {N : Int} {w w' : World} {c s q : Int} (hR : w.heap.size ≤ R) (hB : B < w.heap.size) (hc : Cur w' B a len cap N) (hh : Hole B w w') :
    Cur (((w'.setCell ⟨R, 0, none⟩ (.int .i64 c)).setCell ⟨R, 1, none⟩ (.int .i64 s)).setCell ⟨R, 2, none⟩ (.int .i64 q)) B a len cap N ∧ Hole B w (((w'.setCell ⟨R, 0, none⟩ (.int .i64 c)).setCell ⟨R, 1, none⟩ (.int .i64 s)).setCell ⟨R, 2, none⟩ (.int .i64 q)) :=
  ⟨((hc.setOther (by omega) 0 _).setOther (by omega) 1 _).setOther (by omega) 2 _, ((hh.setNew hR 0 _).setNew hR 1 _).setNew hR 2 _⟩

end Go.Proofs.Ytpejdhbajejmoaa
