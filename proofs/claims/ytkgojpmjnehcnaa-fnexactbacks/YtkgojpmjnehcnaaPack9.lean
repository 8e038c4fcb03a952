import Derived.Test.YtkgojpmjnehcnaaPack5
import Derived.Test.YtkgojpmjnehcnaaPack6
import Derived.Deep.AppendLies
import Derived.Laws.CopyRow
import Derived.Laws.NewBlocks
import Derived.OwnWalk
import Derived.Lib.Overlaps
import Derived.Lib.AppendZerosOnto
import Derived.Laws.Externs
import Derived.Lib.AppendZeros
import Derived.Deep.DeepAppendWide
import Derived.Test.YtkgojpmjnehcnaaPack8
import Derived.Test.YtkgojpmjnehcnaaPack2
import Derived.Test.YtkgojpmjnehcnaaPack7
/- slices.Insert at rows of writes, one write put in: rows whose dependencies lie elsewhere. -/
namespace Go.Proofs.Ytkgojpmjnehcnaa
open Go.ChangeShapes Go.WideShapes Go.ChangeAt Go.RowKit Go.Joins

theorem addr_addW (b o j : Nat) : (⟨b, o, none⟩ : Addr).add j = ⟨b, o + j, none⟩ := by
  unfold Addr.add
  split
  · rename_i h
    rw [h]
    rfl
  · rfl

/-- The block of v' is that of v, or new. -/
def NewOr (w : World) (v v' : Value) : Prop := ∀ g, v'.ownBlock = some g → v.ownBlock = some g ∨ w.heap.size ≤ g

theorem newOr_app {w : World} {v : Value} {g : Nat} (h : v.ownBlock = some g ∨ g = w.heap.size) (n c : Nat) : NewOr w v (.slice (some ⟨g, 0, none⟩) n c) := fun g' hg => by
  have e : g = g' := by simpa [Value.ownBlock] using hg
  subst e
  rcases h with h | h
  · exact .inl h
  · exact .inr (by omega)

/-- A row of writes that grows; their dependencies are not its own. -/
def RowSh (w : World) (base : Nat) (v : Value) (ps : List EnG) : Prop := w.ownsRow base 43 7 v ps.length (ps.flatMap wrValsG)

theorem RowSh.form {w : World} {base : Nat} {v : Value} {ps : List EnG} (h : RowSh w base v ps) : ∃ a cap, v = .slice a ps.length cap := by
  rcases h.2 with ⟨h1, h2⟩ | ⟨g, cap, cur, h1, _⟩
  · exact ⟨none, 0, by rw [h1, h2]⟩
  · exact ⟨_, cap, h1⟩

set_option maxRecDepth 100000 in
/-- A copy, whatever the elements' size: the target is a row that is told as a whole. -/
theorem run_copy_wide {P : Program} (w : World) (dT sT ty elem : TypeId) (size : Nat) (g o dLen dCap : Nat) (a : Addr) (sLen sCap : Nat) (cur : Array Value) (t : TypeId) (cs : List Value)
    (hu : P.underlying dT = some (.slice elem)) (hs : (P.info? elem).map (·.size) = some size)
    (hg : w.heap[g]? = some (.cells cur t (0, 0))) (hn : cs.length = Nat.min sLen dLen * size)
    (hsrc : ∀ j v, cs[j]? = some v → w.cell? (a.add j) = some v) (hfit : o + cs.length ≤ cur.size) (h1 : ∀ v ∈ cs, v.oneCell' = true) :
    (Builtin.copy_ #[dT, sT] ty #[.slice (some ⟨g, o, none⟩) dLen dCap, .slice (some a) sLen sCap]).run P w =
      .ok (goInt (Nat.min sLen dLen)) (w.setRow g (cur.toList.take o ++ cs ++ cur.toList.drop (o + cs.length)).toArray) := by
  have hl := run_loadCells_list (P := P) w a cs hsrc
  have hst := run_storeCells_at P g o t cs 0 cur w hg (by simpa using hfit) h1
  cases hq : P.info? elem with
  | none => simp [hq] at hs
  | some i =>
    have hi : i.size = size := by simpa [hq] using hs
    simp only [Builtin.copy_, Builtin.lenOf, Builtin.firstCells, sizeOf, typeInfo]
    rw [hn] at hl
    simp [run_underlying hu, hq, hi, hl, hst]

set_option maxRecDepth 100000 in
/-- The operation copy, where its run is known. -/
theorem wpList_copy_wide {P : Program} (w : World) {ops : Array Oper} {rest : List Oper} {o : Oper} {a : Act} {Q : Exit → Act → World → Prop} (hgd : o.guard = none) (d s : Operand) (t t' : TypeId)
    (ho : o.op = .call { callee := .builtin .copy, args := #[d, s], argTypes := #[t, t'] }) (v u : Value) (hd : a.eval d = v) (hs : a.eval s = u) {v' : Value} {w' : World}
    (hr : (Builtin.copy_ #[t, t'] o.type #[v, u]).run P w = .ok v' w') (h : wpList P ops Q rest (a.put o.dst v') w') : wpList P ops Q (o :: rest) a w := by
  refine wpList_plain hgd fun K hK => ?_
  unfold Oper.wp
  simp [execOp, ho, resolve, invoke, builtin, hd, hs, hr, Result.andThen]
  exact hK _ _ h

set_option maxRecDepth 100000 in
theorem grown_setRow (w : World) (g : Nat) (cs : Array Value) : w.grownBy (w.setRow g cs) (some g) :=
  ⟨rfl, rfl, rfl, by simp [World.setRow], fun k _ hk => by
    have hne : g ≠ k := fun e => hk (by rw [e])
    simp [World.setRow, Array.getElem?_modify, hne]⟩

set_option maxRecDepth 100000 in
theorem grown_drew (w : World) (row : Option Nat) : w.grownBy w.drew row := ⟨rfl, rfl, rfl, Nat.le_refl _, fun _ _ _ => rfl⟩

set_option maxRecDepth 100000 in
theorem valsG_takeW : ∀ (ps : List EnG) (i : Nat), (ps.flatMap wrValsG).take (i * 7) = (ps.take i).flatMap wrValsG
  | _, 0 => by simp
  | [], _ + 1 => by simp
  | p :: ps, i + 1 => by
    rw [List.take_succ_cons, List.flatMap_cons, List.flatMap_cons, List.take_append, ← valsG_takeW ps i]
    have e1 : (wrValsG p).take ((i + 1) * 7) = wrValsG p := List.take_of_length_le (by simp [wrValsG]; omega)
    rw [e1]
    congr 2
    simp [wrValsG]
    omega

set_option maxRecDepth 100000 in
theorem valsG_dropW : ∀ (ps : List EnG) (i : Nat), (ps.flatMap wrValsG).drop (i * 7) = (ps.drop i).flatMap wrValsG
  | _, 0 => by simp
  | [], _ + 1 => by simp
  | p :: ps, i + 1 => by
    rw [List.drop_succ_cons, List.flatMap_cons, List.drop_append, ← valsG_dropW ps i]
    have e1 : (wrValsG p).drop ((i + 1) * 7) = [] := List.drop_eq_nil_of_le (by simp [wrValsG]; omega)
    rw [e1, List.nil_append]
    congr 1
    simp [wrValsG]
    omega


set_option maxRecDepth 100000 in
theorem oneWr_cells {w : World} {vb : Nat} {p : EnG} {t : TypeId} (hvb : w.heap[vb]? = some (.cells #[.int .i64 p.x.k, .int .i64 p.x.c, .int .i64 p.x.s, .int .i64 p.x.q, .int .i64 p.x.v, .bool p.x.de, .slice p.a p.x.xs.length p.cp] t (0, 0))) : ∀ j u, (wrValsG p)[j]? = some u → w.cell? ((⟨vb, 0, none⟩ : Addr).add j) = some u := by
  intro j u hu
  rw [addr_addW, Nat.zero_add, cell_of_row _ _ j _ t (0, 0) hvb, ← hu]
  simp [wrValsG]

def putAtW (ps : List EnG) (i : Nat) (p : EnG) : List EnG := ps.take i ++ p :: ps.drop i

set_option maxRecDepth 100000 in
theorem putAtW_end (ps : List EnG) (p : EnG) : putAtW ps ps.length p = ps ++ [p] := by simp [putAtW]

set_option maxRecDepth 100000 in
theorem putAtW_len {ps : List EnG} {i : Nat} (h : i ≤ ps.length) (p : EnG) : (putAtW ps i p).length = ps.length + 1 := by
  simp [putAtW]
  omega

set_option maxRecDepth 100000 in
theorem putAtW_vals (ps : List EnG) (i : Nat) (p : EnG) : (putAtW ps i p).flatMap wrValsG = (ps.flatMap wrValsG).take (i * 7) ++ wrValsG p ++ (ps.flatMap wrValsG).drop (i * 7) := by
  unfold putAtW
  rw [List.flatMap_append, List.flatMap_cons, ← List.append_assoc, valsG_takeW, valsG_dropW]

set_option maxRecDepth 100000 in
set_option maxHeartbeats 4000000 in
theorem insW_end (v : Value) (ps : List EnG) (vb : Nat) (p : EnG) (base : Nat) (w : World) (hn : ps.length ≤ 1048576) (hrow : RowSh w base v ps) (hvb : w.heap[vb]? = some (.cells #[.int .i64 p.x.k, .int .i64 p.x.c, .int .i64 p.x.s, .int .i64 p.x.q, .int .i64 p.x.v, .bool p.x.de, .slice p.a p.x.xs.length p.cp] 43 (0, 0))) (hb : base ≤ w.heap.size) :
    Calls Try.prog 66 #[v, .int .i64 (ps.length : Int), .slice (some ⟨vb, 0, none⟩) 1 1] w fun e w' => ∃ v', e = .returned v' ∧ RowSh w' base v' (putAtW ps ps.length p) ∧ w.grownBy w' v.ownBlock ∧ NewOr w v v' := by
  obtain ⟨i0, hi0, hx0⟩ := Option.map_eq_some_iff.1 infoWr
  simp only [Prod.mk.injEq] at hx0
  have HI0 := Lib.hid hi0
  have HX0 := Lib.hid hx0
  have HR := Lib.hid hrow
  have HC := Lib.hid (oneWr_cells hvb)
  have HE : Hid ((putAtW ps ps.length p) = ps ++ [p]) := putAtW_end ps p
  have hlv : (ps.flatMap wrValsG).length = ps.length * 7 := valsG_len ps
  obtain ⟨a, cap, rfl⟩ := RowSh.form hrow
  clear hi0 hx0 hrow hvb
  have hcap : ps.length ≤ cap := by
    rcases HR.out.2 with ⟨h1, _⟩ | ⟨g, cap', cur, h1, _, _, h2, _⟩
    · injection h1 with _ h1 h2
      omega
    · injection h1 with _ _ h1
      omega
  have hnil : a = none → ps.length = 0 := fun e => by
    subst e
    rcases HR.out.2 with ⟨_, h1⟩ | ⟨g, cap', cur, h1, _⟩
    · exact h1
    · injection h1 with h1
      cases h1
  have HP : Hid (∀ u ∈ wrValsG p, u.oneCell' = true) := fun u hu => valsG_one [p] u (by simpa using hu)
  obtain ⟨n, hnn⟩ : ∃ n, ps.length = n := ⟨_, rfl⟩
  have HL := Lib.hid hnn
  unfold RowSh at HR
  rw [hnn] at HR HE hn hcap hnil hlv ⊢
  clear hnn hlv
  cases a with
  | none =>
    obtain rfl := hnil rfl
    have hc0 : cap = 0 := by
      rcases HR.out.2 with ⟨h1, _⟩ | ⟨g, cap', cur, h1, _⟩
      · injection h1 with _ _ h1
      · injection h1 with h1
        cases h1
    subst hc0
    clear hnil hcap
    go_enter Try.func66, Try.ntmps66
    go_wp2_with (at_builtin; refine wpList_append_lies _ (by rfl) _ _ _ (by rfl) base 43 i0 (wrV 0 0 0 0 0 false none 0 0) 7 72 Try.underlying24 HI0.out HX0.out.1 HX0.out.2.1 HX0.out.2.2 (by rfl) (by omega) (.slice none 0 0) 0 (ps.flatMap wrValsG) (by rfl) HR.out ⟨vb, 0, none⟩ 1 1 (wrValsG p) (by rfl) (by rfl) HC.out HP.out (by omega) (by unfold maxLen; omega) (by omega) (by omega) _ rfl ?_; intro g3 cp3 w5 hown hgrow hg3 _; refine Hid.out ?_)
    refine Lib.hid ?_
    have HR5 : Hid (RowSh w5 base (.slice (some ⟨g3, 0, none⟩) (0 + 1) cp3) (ps ++ [p])) := by
      unfold RowSh
      rw [List.length_append, List.flatMap_append, HL.out]
      refine Lib.hid ?_
      simpa using hown
    have HG5 := Lib.hid hgrow
    have HN5 := Lib.hid (newOr_app hg3 (0 + 1) cp3)
    clear hown hgrow
    go_wp2
    go_ret
    exact ⟨_, rfl, by rw [HE.out]; exact HR5.out, HG5.out, HN5.out⟩
  | some a =>
    clear hnil
    by_cases hcn : cap = n
    · subst hcn
      clear hcap
      go_enter Try.func66, Try.ntmps66
      go_wp2_with (at_builtin; refine wpList_append_lies _ (by rfl) _ _ _ (by rfl) base 43 i0 (wrV 0 0 0 0 0 false none 0 0) 7 72 Try.underlying24 HI0.out HX0.out.1 HX0.out.2.1 HX0.out.2.2 (by rfl) (by omega) (.slice (some a) cap cap) cap (ps.flatMap wrValsG) (by rfl) HR.out ⟨vb, 0, none⟩ 1 1 (wrValsG p) (by rfl) (by rfl) HC.out HP.out (by omega) (by unfold maxLen; omega) (by omega) (by omega) _ rfl ?_; intro g3 cp3 w5 hown hgrow hg3 _; refine Hid.out ?_)
      refine Lib.hid ?_
      have HR5 : Hid (RowSh w5 base (.slice (some ⟨g3, 0, none⟩) (cap + 1) cp3) (ps ++ [p])) := by
        unfold RowSh
        rw [List.length_append, List.flatMap_append, HL.out]
        refine Lib.hid ?_
        simpa using hown
      have HG5 := Lib.hid hgrow
      have HN5 := Lib.hid (newOr_app hg3 (cap + 1) cp3)
      clear hown hgrow
      go_wp2
      go_ret
      exact ⟨_, rfl, by rw [HE.out]; exact HR5.out, HG5.out, HN5.out⟩
    · go_enter Try.func66, Try.ntmps66
      go_wp2_with (at_builtin; refine wpList_append_lies _ (by rfl) _ _ _ (by rfl) base 43 i0 (wrV 0 0 0 0 0 false none 0 0) 7 72 Try.underlying24 HI0.out HX0.out.1 HX0.out.2.1 HX0.out.2.2 (by rfl) (by omega) (.slice (some a) n cap) n (ps.flatMap wrValsG) (by rfl) HR.out ⟨vb, 0, none⟩ 1 1 (wrValsG p) (by rfl) (by rfl) HC.out HP.out (by omega) (by unfold maxLen; omega) (by omega) (by omega) _ rfl ?_; intro g3 cp3 w5 hown hgrow hg3 _; refine Hid.out ?_)
      refine Lib.hid ?_
      have HR5 : Hid (RowSh w5 base (.slice (some ⟨g3, 0, none⟩) (n + 1) cp3) (ps ++ [p])) := by
        unfold RowSh
        rw [List.length_append, List.flatMap_append, HL.out]
        refine Lib.hid ?_
        simpa using hown
      have HG5 := Lib.hid hgrow
      have HN5 := Lib.hid (newOr_app hg3 (n + 1) cp3)
      clear hown hgrow
      go_wp2
      go_ret
      exact ⟨_, rfl, by rw [HE.out]; exact HR5.out, HG5.out, HN5.out⟩

set_option maxRecDepth 100000 in
theorem shift_listW {cur xs pv : List Value} {I N : Nat} (hx : cur.take N = xs) (hI : I ≤ N) (hl : N + 7 ≤ cur.length) (hp : pv.length = 7) :
    ((cur.take (I + 7) ++ xs.drop I ++ cur.drop (I + 7 + (xs.drop I).length)).take I ++ pv ++ (cur.take (I + 7) ++ xs.drop I ++ cur.drop (I + 7 + (xs.drop I).length)).drop (I + pv.length)).take (N + 7) = xs.take I ++ pv ++ xs.drop I ∧
    ((cur.take (I + 7) ++ xs.drop I ++ cur.drop (I + 7 + (xs.drop I).length)).take I ++ pv ++ (cur.take (I + 7) ++ xs.drop I ++ cur.drop (I + 7 + (xs.drop I).length)).drop (I + pv.length)).length = cur.length := by
  have hxl : xs.length = N := by rw [← hx, List.length_take]; omega
  have e1 : (cur.take (I + 7) ++ xs.drop I ++ cur.drop (I + 7 + (xs.drop I).length)).take I = xs.take I := by
    rw [List.append_assoc, List.take_append_of_le_length (by rw [List.length_take]; omega), List.take_take, ← hx, List.take_take]
    congr 1
    omega
  have e2 : (cur.take (I + 7) ++ xs.drop I ++ cur.drop (I + 7 + (xs.drop I).length)).drop (I + pv.length) = xs.drop I ++ cur.drop (I + 7 + (xs.drop I).length) := by
    rw [hp, List.append_assoc, List.drop_append, List.drop_eq_nil_of_le (by rw [List.length_take]; omega), List.nil_append, List.length_take, show I + 7 - min (I + 7) cur.length = 0 by omega, List.drop_zero]
  rw [e1, e2]
  have hdl : (xs.drop I).length = N - I := by rw [List.length_drop, hxl]
  constructor
  · rw [← List.append_assoc, List.take_append_of_le_length (by simp [hp, hxl]; omega), List.take_of_length_le (by simp [hp, hxl]; omega)]
  · simp [hp, hxl]
    omega

set_option maxRecDepth 100000 in
set_option maxHeartbeats 4000000 in
theorem insW_shift (g n c i vb : Nat) (ps : List EnG) (p : EnG) (cur : Array Value) (base : Nat) (w : World) (hi : i < n) (hn : n ≤ 1048576) (hroom : n + 1 ≤ c) (hc63 : c ≤ 9223372036854775807) (hpl : ps.length = n) (hg : w.heap[g]? = some (.cells cur 43 (0, 0))) (hcz : cur.size = c * 7) (hx : cur.toList.take (n * 7) = ps.flatMap wrValsG) (hbg : base ≤ g)
    (hvb : w.heap[vb]? = some (.cells #[.int .i64 p.x.k, .int .i64 p.x.c, .int .i64 p.x.s, .int .i64 p.x.q, .int .i64 p.x.v, .bool p.x.de, .slice p.a p.x.xs.length p.cp] 43 (0, 0))) (hne : vb ≠ g) :
    Calls Try.prog 66 #[.slice (some ⟨g, 0, none⟩) n c, .int .i64 (i : Int), .slice (some ⟨vb, 0, none⟩) 1 1] w fun e w' => ∃ v', e = .returned v' ∧ RowSh w' base v' (putAtW ps i p) ∧ w.grownBy w' (some g) ∧ NewOr w (.slice (some ⟨g, 0, none⟩) n c) v' := by
  have hz2 : ¬ ((i : Int) = (n : Int)) := by omega
  have hsz : (Try.prog.info? 43).map (·.size) = some 7 := by
    obtain ⟨i0, hi0, hx0⟩ := Option.map_eq_some_iff.1 infoWr
    simp only [Prod.mk.injEq] at hx0
    rw [hi0]
    simp [hx0.2.1]
  have hov : ∀ lb cb, (callFunc 82 #[.slice (some ⟨vb, 0, none⟩) 1 1, .slice (some ⟨g, (i + 1) * 7, none⟩) lb cb]).run Try.prog w = .ok (.value (.bool false)) w := fun lb cb => by
    rw [run_callFunc_extern Try.func82 (by kernel_rfl) (by kernel_rfl) (by kernel_rfl) (e := Extern.SlicesOverlaps.overlaps #[24, 24] #[4]) (by kernel_rfl),
      Lib.run_overlaps_apart w 24 4 43 Try.underlying24 7 (fun _ => by kernel_rfl) ⟨vb, 0, none⟩ ⟨g, (i + 1) * 7, none⟩ 1 1 lb cb hne 43 43 7 (c * 7) (by simp [World.shape?, hvb]) (by simp [World.shape?, hg, hcz]) (by omega) (by simp [World.frozen?, hvb]) (by simp [World.frozen?, hvb])]
    rfl
  have hb2 : ¬ (c = i + 1) := by omega
  have hb3 : (i : Int) ≤ (n : Int) + 1 := by omega
  have hb4 : ¬ (c = i) := by omega
  have hin : i ≤ n := by omega
  have HG := Lib.hid hg
  have HV := Lib.hid hvb
  go_enter Try.func66, Try.ntmps66
  go_wp2_with (simp only [hov])
  have hwi : IntKind.i64.wrap ((i : Int) + 1) = (i : Int) + 1 := by rw [IntKind.wrap_i64]; omega
  refine wp_region_slots 8 [[(0, false)], [(1, false)], [(7, false)], [(70, true), (71, true)], [(69, true), (72, true)], [(0, false)], [(1, false)], [(74, true), (75, true)]] (fun w' => w' = w.drew) (fun w w' => w' = w) (by kernel_rfl) (by kernel_rfl) (by rfl) rfl (fun w w' h1 h2 => h2.trans h1) ?_
  iterate 8 (apply slot_eq; · (rintro ρ w' ⟨p1, p2, p3⟩ rfl hn; simp at hn; go_simp; exact ⟨rfl, rfl⟩))
  refine slot_end ?_
  rintro tv w4 rfl hF
  simp at hF
  obtain ⟨f76, f75, f74, f73, f72, f71, f70, f69⟩ := hF
  have hxl : (ps.flatMap wrValsG).length = n * 7 := by rw [valsG_len, hpl]
  have hdl : ((ps.flatMap wrValsG).drop (i * 7)).length = (n - i) * 7 := by rw [List.length_drop, hxl]; omega
  have hcp1 : ∀ ty, (Builtin.copy_ #[24, 24] ty #[.slice (some ⟨g, (i + 1) * 7, none⟩) (n - i) (c - (i + 1)), .slice (some ⟨g, i * 7, none⟩) (n + 1 - i) (c - i)]).run Try.prog w.drew = .ok (goInt (Nat.min (n + 1 - i) (n - i))) (w.drew.setRow g (cur.toList.take ((i + 1) * 7) ++ (ps.flatMap wrValsG).drop (i * 7) ++ cur.toList.drop ((i + 1) * 7 + ((ps.flatMap wrValsG).drop (i * 7)).length)).toArray) := fun ty =>
    run_copy_wide w.drew _ _ ty 43 7 g ((i + 1) * 7) (n - i) _ ⟨g, i * 7, none⟩ (n + 1 - i) _ cur 43 ((ps.flatMap wrValsG).drop (i * 7)) Try.underlying24 hsz HG.out
      (by rw [hdl, show Nat.min (n + 1 - i) (n - i) = n - i from Nat.min_eq_right (by omega)])
      (fun j v hj => by
        rw [addr_addW]
        refine (cell_of_row _ _ (i * 7 + j) _ 43 (0, 0) HG.out).trans ?_
        rw [List.getElem?_drop, ← hx, List.getElem?_take] at hj
        split at hj
        · rw [← hj]
          simp
        · cases hj)
      (by rw [hdl]; omega) (fun v hv => valsG_one ps v (List.mem_of_mem_drop hv))
  obtain ⟨A1, hA1⟩ : ∃ A1, (cur.toList.take ((i + 1) * 7) ++ (ps.flatMap wrValsG).drop (i * 7) ++ cur.toList.drop ((i + 1) * 7 + ((ps.flatMap wrValsG).drop (i * 7)).length)) = A1 := ⟨_, rfl⟩
  have hA1l : A1.length = c * 7 := by
    rw [← hA1]
    simp only [List.length_append, List.length_take, List.length_drop, hxl, Array.length_toList, hcz]
    omega
  rw [hA1] at hcp1
  obtain ⟨W1, hW1⟩ : ∃ W1, w.drew.setRow g A1.toArray = W1 := ⟨_, rfl⟩
  have hg1 : W1.heap[g]? = some (.cells A1.toArray 43 (0, 0)) := by rw [← hW1]; exact setRow_heap w.drew g cur _ _ _ HG.out
  have hgr1 : w.grownBy W1 (some g) := by rw [← hW1]; exact grown_trans (grown_drew w _) (grown_setRow _ _ _)
  have hv1 : W1.heap[vb]? = some (.cells #[.int .i64 p.x.k, .int .i64 p.x.c, .int .i64 p.x.s, .int .i64 p.x.q, .int .i64 p.x.v, .bool p.x.de, .slice p.a p.x.xs.length p.cp] 43 (0, 0)) := (hgr1.block vb (Array.getElem?_eq_some_iff.1 HV.out).1 (fun e => hne (by injection e))).trans HV.out
  rw [hW1] at hcp1
  have hcp2 : ∀ ty, (Builtin.copy_ #[24, 24] ty #[.slice (some ⟨g, i * 7, none⟩) (n + 1 - i) (c - i), .slice (some ⟨vb, 0, none⟩) 1 1]).run Try.prog W1 = .ok (goInt (Nat.min 1 (n + 1 - i))) (W1.setRow g (A1.take (i * 7) ++ wrValsG p ++ A1.drop (i * 7 + (wrValsG p).length)).toArray) := fun ty =>
    run_copy_wide W1 _ _ ty 43 7 g (i * 7) (n + 1 - i) _ ⟨vb, 0, none⟩ 1 1 A1.toArray 43 (wrValsG p) Try.underlying24 hsz hg1
      (by rw [show Nat.min 1 (n + 1 - i) = 1 from Nat.min_eq_left (by omega)]; rfl)
      (oneWr_cells hv1) (by simp [wrValsG, hA1l]; omega) (fun u hu => valsG_one [p] u (by simpa using hu))
  obtain ⟨A2, hA2⟩ : ∃ A2, (A1.take (i * 7) ++ wrValsG p ++ A1.drop (i * 7 + (wrValsG p).length)) = A2 := ⟨_, rfl⟩
  have hS := shift_listW (cur := cur.toList) (xs := ps.flatMap wrValsG) (pv := wrValsG p) (I := i * 7) (N := n * 7) hx (by omega) (by simp [hcz]; omega) rfl
  have hcl : cur.toList.length = c * 7 := by simpa using hcz
  rw [show i * 7 + 7 = (i + 1) * 7 by omega, hA1, hA2, hcl] at hS
  rw [hA2] at hcp2
  have HF : Hid (RowSh (W1.setRow g A2.toArray) base (.slice (some ⟨g, 0, none⟩) (n + 1) c) (putAtW ps i p)) := by
    refine ⟨?_, .inr ⟨g, c, A2.toArray, ?_, hbg, setRow_heap W1 g _ _ _ _ hg1, ?_, hc63, ?_, ?_⟩⟩
    · rw [valsG_len]
    · rw [putAtW_len (by omega), hpl]
    · rw [putAtW_len (by omega), hpl]
      exact hroom
    · simp [hS.2]
    · rw [putAtW_len (by omega), hpl, putAtW_vals, show (n + 1) * 7 = n * 7 + 7 by omega]
      exact hS.1
  have HNW : Hid (NewOr w (.slice (some ⟨g, 0, none⟩) n c) (.slice (some ⟨g, 0, none⟩) (n + 1) c)) := newOr_app (.inl rfl) _ _
  have HG2 : Hid (w.grownBy (W1.setRow g A2.toArray) (some g)) := grown_trans hgr1 (grown_setRow _ _ _)
  clear hS hA1 hA2 hA1l hg1 hgr1 hv1 hW1 hxl hdl hx hcz hg hvb
  simp only [List.take_succ_cons, List.take_zero, List.drop_succ_cons, List.drop_zero, putAll, f76, f75, f74, f73, f72, f71, f70, f69]
  clear f76 f75 f74 f73 f72 f71 f70 f69
  simp only [Act.put, List.setIfInBounds_toArray, List.set_cons_succ, List.set_cons_zero]
  refine wpList_copy_wide _ rfl _ _ _ _ rfl _ _ rfl rfl (hcp1 _) ?_
  simp only [Act.put, List.setIfInBounds_toArray, List.set_cons_succ, List.set_cons_zero]
  go_wp2_with (at_builtin; refine wpList_copy_wide _ rfl _ _ _ _ rfl _ _ rfl rfl (hcp2 _) ?_)
  go_ret
  exact ⟨_, rfl, HF.out, HG2.out, HNW.out⟩


set_option maxRecDepth 100000 in
theorem grow_listW {R ys ds pv : List Value} {I N : Nat} (hR : R.take I = ys) (hyl : ys.length = I) (hdl : ds.length = N - I) (hI : I ≤ N) (hl : N + 7 ≤ R.length) (hp : pv.length = 7) :
    ((R.take I ++ pv ++ R.drop (I + pv.length)).take (I + 7) ++ ds ++ (R.take I ++ pv ++ R.drop (I + pv.length)).drop (I + 7 + ds.length)).take (N + 7) = ys ++ pv ++ ds ∧
    ((R.take I ++ pv ++ R.drop (I + pv.length)).take (I + 7) ++ ds ++ (R.take I ++ pv ++ R.drop (I + pv.length)).drop (I + 7 + ds.length)).length = R.length ∧ (R.take I ++ pv ++ R.drop (I + pv.length)).length = R.length := by
  have e1 : (R.take I ++ pv ++ R.drop (I + pv.length)).take (I + 7) = ys ++ pv := by
    rw [hR, List.take_append_of_le_length (by rw [List.length_append, hyl, hp]; exact Nat.le_refl _), List.take_of_length_le (by rw [List.length_append, hyl, hp]; exact Nat.le_refl _)]
  have e2 : (R.take I ++ pv ++ R.drop (I + pv.length)).length = R.length := by
    simp only [List.length_append, List.length_take, List.length_drop, hp]
    omega
  refine ⟨?_, ?_, e2⟩
  · rw [e1, List.take_append_of_le_length (by simp only [List.length_append, hyl, hp, hdl]; omega), List.take_of_length_le (by simp only [List.length_append, hyl, hp, hdl]; omega)]
  · rw [e1, List.length_append, List.length_append, List.length_append, List.length_drop, e2, hyl, hp, hdl]
    omega

set_option maxRecDepth 100000 in
theorem zero_lenW (k : Nat) : (Builtin.zeroCells (wrV 0 0 0 0 0 false none 0 0).cells k).size = k * 7 := by simp [Builtin.zeroCells, Value.cells]

set_option maxRecDepth 100000 in
set_option maxHeartbeats 4000000 in
theorem insW_grow (g n c i vb : Nat) (ps : List EnG) (p : EnG) (cur : Array Value) (base : Nat) (w : World) (hi : i < n) (hn : n ≤ 1048576) (hnc : n ≤ c) (hroom : c < n + 1) (hpl : ps.length = n) (hg : w.heap[g]? = some (.cells cur 43 (0, 0))) (hx : cur.toList.take (n * 7) = ps.flatMap wrValsG) (hbw : base ≤ w.heap.size)
    (hvb : w.heap[vb]? = some (.cells #[.int .i64 p.x.k, .int .i64 p.x.c, .int .i64 p.x.s, .int .i64 p.x.q, .int .i64 p.x.v, .bool p.x.de, .slice p.a p.x.xs.length p.cp] 43 (0, 0))) :
    Calls Try.prog 66 #[.slice (some ⟨g, 0, none⟩) n c, .int .i64 (i : Int), .slice (some ⟨vb, 0, none⟩) 1 1] w fun e w' => ∃ v', e = .returned v' ∧ RowSh w' base v' (putAtW ps i p) ∧ w.grownBy w' (some g) ∧ NewOr w (.slice (some ⟨g, 0, none⟩) n c) v' := by
  obtain ⟨i0, hi0, hx0⟩ := Option.map_eq_some_iff.1 infoWr
  simp only [Prod.mk.injEq] at hx0
  obtain ⟨hz0, hzs, hzb⟩ := hx0
  have hsz : (Try.prog.info? 43).map (·.size) = some 7 := by rw [hi0]; simp [hzs]
  have hz2 : ¬ ((i : Int) = (n : Int)) := by omega
  have hz3 : (c : Int) < (n : Int) + 1 := by omega
  have hxl : (ps.flatMap wrValsG).length = n * 7 := by rw [valsG_len, hpl]
  have hgl : g < w.heap.size := (Array.getElem?_eq_some_iff.1 hg).1
  have hvl : vb < w.heap.size := (Array.getElem?_eq_some_iff.1 hvb).1
  have hcell : ∀ j v, (ps.flatMap wrValsG)[j]? = some v → w.cell? ⟨g, j, none⟩ = some v := fun j v hj => by
    refine (cell_of_row _ _ j _ 43 (0, 0) hg).trans ?_
    rw [← hx, List.getElem?_take] at hj
    split at hj
    · rw [← hj]
      simp
    · cases hj
  have hold : (Builtin.firstCells i0.size i (.slice (some ⟨g, 0, none⟩) i c)).run Try.prog w.drew = .ok ((ps.flatMap wrValsG).take (i * 7)).toArray w.drew := by
    rw [hzs]
    exact run_firstCells_some w.drew 7 i ⟨g, 0, none⟩ i c ((ps.flatMap wrValsG).take (i * 7)) (by rw [List.length_take, hxl]; omega) (fun j v hj => by
      rw [addr_addW, Nat.zero_add]
      rw [List.getElem?_take] at hj
      split at hj
      · exact hcell j v hj
      · cases hj)
  obtain ⟨G, hG⟩ : ∃ G, grownCap w (n + 1) c 43 = G := ⟨_, rfl⟩
  have hGn : n + 1 ≤ G := by rw [← hG]; exact grownCap_ge w _ _ _
  have hG63 : G ≤ 9223372036854775807 := by
    have := grownCap_le_maxLen w (n + 1) c 43 (by unfold maxLen; omega)
    rw [hG] at this
    exact this
  have hkk : (n : Int) + 1 - (i : Int) = ((n + 1 - i : Nat) : Int) := by omega
  have hik : i + (n + 1 - i) = n + 1 := by omega
  have hrz : ∀ ty, (Builtin.append_ #[24, 3] ty #[.slice (some ⟨g, 0, none⟩) i c, .int .i64 ((n : Int) + 1 - (i : Int))]).run Try.prog w =
      .ok (.slice (some ⟨w.heap.size, 0, none⟩) (n + 1) G) (w.drew.alloc (.cells (((ps.flatMap wrValsG).take (i * 7)).toArray ++ Builtin.zeroCells (wrV 0 0 0 0 0 false none 0 0).cells (n + 1 - i) ++ Builtin.zeroCells (wrV 0 0 0 0 0 false none 0 0).cells (G - (n + 1))) 43)) := fun ty => by
    have h := Lib.run_append_grow_zeros w 24 3 ty 43 i0 _ .i64 .i64 Try.underlying24 Try.underlying3 hi0 hz0 (some ⟨g, 0, none⟩) i c ((ps.flatMap wrValsG).take (i * 7)) hold (n + 1 - i) (by omega) (by omega) (by omega) (by omega) (by rw [hzb]; omega) (by rw [hzb, hik]; exact growslice_fits_wide hroom (by omega))
    rw [hik, hG] at h
    rw [hkk]
    exact h
  obtain ⟨R, hRe⟩ : ∃ R : Array Value, ((ps.flatMap wrValsG).take (i * 7)).toArray ++ Builtin.zeroCells (wrV 0 0 0 0 0 false none 0 0).cells (n + 1 - i) ++ Builtin.zeroCells (wrV 0 0 0 0 0 false none 0 0).cells (G - (n + 1)) = R := ⟨_, rfl⟩
  have hRl : R.toList.length = G * 7 := by
    rw [← hRe]
    simp only [Array.toList_append, List.length_append, Array.length_toList, zero_lenW, List.length_take, hxl]
    omega
  have hRt : R.toList.take (i * 7) = (ps.flatMap wrValsG).take (i * 7) := by
    rw [← hRe]
    simp only [Array.toList_append]
    rw [List.append_assoc, List.take_append_of_le_length (by simp [hxl]; omega), List.take_of_length_le (by simp; omega)]
  rw [hRe] at hrz
  obtain ⟨W1, hW1⟩ : ∃ W1, w.drew.alloc (.cells R 43) = W1 := ⟨_, rfl⟩
  have hg1 : W1.heap[w.heap.size]? = some (.cells R 43 (0, 0)) := by rw [← hW1]; exact heap_alloc_new w.drew _
  have hgr1 : w.grownBy W1 none := by rw [← hW1]; exact grown_trans (grown_drew w _) (World.grownBy_alloc _ _ _)
  rw [hW1] at hrz
  have hv1 : W1.heap[vb]? = some (.cells #[.int .i64 p.x.k, .int .i64 p.x.c, .int .i64 p.x.s, .int .i64 p.x.q, .int .i64 p.x.v, .bool p.x.de, .slice p.a p.x.xs.length p.cp] 43 (0, 0)) := (hgr1.block vb hvl (by simp)).trans hvb
  have hsrc1 : W1.heap[g]? = some (.cells cur 43 (0, 0)) := (hgr1.block g hgl (by simp)).trans hg
  have hcp1 : ∀ ty, (Builtin.copy_ #[24, 24] ty #[.slice (some ⟨w.heap.size, i * 7, none⟩) (n + 1 - i) (G - i), .slice (some ⟨vb, 0, none⟩) 1 1]).run Try.prog W1 = .ok (goInt (Nat.min 1 (n + 1 - i))) (W1.setRow w.heap.size (R.toList.take (i * 7) ++ wrValsG p ++ R.toList.drop (i * 7 + (wrValsG p).length)).toArray) := fun ty =>
    run_copy_wide W1 _ _ ty 43 7 w.heap.size (i * 7) (n + 1 - i) _ ⟨vb, 0, none⟩ 1 1 R 43 (wrValsG p) Try.underlying24 hsz hg1
      (by rw [show Nat.min 1 (n + 1 - i) = 1 from Nat.min_eq_left (by omega)]; rfl)
      (oneWr_cells hv1) (by have : R.size = G * 7 := by simpa using hRl
                            simp [wrValsG, this]; omega) (fun u hu => valsG_one [p] u (by simpa using hu))
  have hdl : ((ps.flatMap wrValsG).drop (i * 7)).length = n * 7 - i * 7 := by rw [List.length_drop, hxl]
  have hS := grow_listW (R := R.toList) (ys := (ps.flatMap wrValsG).take (i * 7)) (ds := (ps.flatMap wrValsG).drop (i * 7)) (pv := wrValsG p) (I := i * 7) (N := n * 7) hRt (by rw [List.length_take, hxl]; omega) hdl (by omega) (by rw [hRl]; omega) rfl
  obtain ⟨A1, hA1⟩ : ∃ A1, (R.toList.take (i * 7) ++ wrValsG p ++ R.toList.drop (i * 7 + (wrValsG p).length)) = A1 := ⟨_, rfl⟩
  rw [hA1] at hcp1 hS
  rw [hRl] at hS
  obtain ⟨W2, hW2⟩ : ∃ W2, (W1.setRow w.heap.size A1.toArray).drew = W2 := ⟨_, rfl⟩
  have hg2 : W2.heap[w.heap.size]? = some (.cells A1.toArray 43 (0, 0)) := by rw [← hW2]; exact setRow_heap W1 w.heap.size R _ _ _ hg1
  have hgr2 : W1.grownBy W2 (some w.heap.size) := by rw [← hW2]; exact grown_trans (grown_setRow _ _ _) (grown_drew _ _)
  have hsrc2 : W2.heap[g]? = some (.cells cur 43 (0, 0)) := (hgr2.block g (Nat.lt_of_lt_of_le hgl hgr1.size) (fun e => by injection e with e; omega)).trans hsrc1
  have hcp2 : ∀ ty, (Builtin.copy_ #[24, 24] ty #[.slice (some ⟨w.heap.size, (i + 1) * 7, none⟩) (n - i) (G - (i + 1)), .slice (some ⟨g, i * 7, none⟩) (n - i) (c - i)]).run Try.prog W2 = .ok (goInt (Nat.min (n - i) (n - i))) (W2.setRow w.heap.size (A1.take ((i + 1) * 7) ++ (ps.flatMap wrValsG).drop (i * 7) ++ A1.drop ((i + 1) * 7 + ((ps.flatMap wrValsG).drop (i * 7)).length)).toArray) := fun ty =>
    run_copy_wide W2 _ _ ty 43 7 w.heap.size ((i + 1) * 7) (n - i) _ ⟨g, i * 7, none⟩ (n - i) _ A1.toArray 43 ((ps.flatMap wrValsG).drop (i * 7)) Try.underlying24 hsz hg2
      (by rw [hdl, show Nat.min (n - i) (n - i) = n - i from Nat.min_self _]; omega)
      (fun j v hj => by
        rw [addr_addW]
        refine (cell_of_row _ _ (i * 7 + j) _ 43 (0, 0) hsrc2).trans ?_
        rw [List.getElem?_drop, ← hx, List.getElem?_take] at hj
        split at hj
        · rw [← hj]
          simp
        · cases hj)
      (by rw [hdl]; have := hS.2.2; simp only [List.size_toArray]; omega) (fun v hv => valsG_one ps v (List.mem_of_mem_drop hv))
  rw [show i * 7 + 7 = (i + 1) * 7 by omega] at hS
  obtain ⟨A2, hA2⟩ : ∃ A2, (A1.take ((i + 1) * 7) ++ (ps.flatMap wrValsG).drop (i * 7) ++ A1.drop ((i + 1) * 7 + ((ps.flatMap wrValsG).drop (i * 7)).length)) = A2 := ⟨_, rfl⟩
  rw [hA2] at hcp2 hS
  have HF : Hid (RowSh (W2.setRow w.heap.size A2.toArray) base (.slice (some ⟨w.heap.size, 0, none⟩) (n + 1) G) (putAtW ps i p)) := by
    refine ⟨?_, .inr ⟨w.heap.size, G, A2.toArray, ?_, hbw, setRow_heap W2 w.heap.size _ _ _ _ hg2, ?_, hG63, ?_, ?_⟩⟩
    · rw [valsG_len]
    · rw [putAtW_len (by omega), hpl]
    · rw [putAtW_len (by omega), hpl]
      exact hGn
    · simp [hS.2.1]
    · rw [putAtW_len (by omega), hpl, putAtW_vals, show (n + 1) * 7 = n * 7 + 7 by omega]
      exact hS.1
  have HNW : Hid (NewOr w (.slice (some ⟨g, 0, none⟩) n c) (.slice (some ⟨w.heap.size, 0, none⟩) (n + 1) G)) := newOr_app (.inr rfl) _ _
  have HG2 : Hid (w.grownBy (W2.setRow w.heap.size A2.toArray) (some g)) := by
    have h3 := grown_setRow W2 w.heap.size A2.toArray
    have h2s := hgr2.size
    have h1s := hgr1.size
    exact Lib.hid ⟨h3.os.trans (hgr2.os.trans hgr1.os), h3.tape.trans (hgr2.tape.trans hgr1.tape), h3.output.trans (hgr2.output.trans hgr1.output), Nat.le_trans h1s (Nat.le_trans h2s h3.size), fun k hk _ =>
      (h3.block k (by omega) (fun e => by injection e with e; omega)).trans ((hgr2.block k (by omega) (fun e => by injection e with e; omega)).trans (hgr1.block k hk (by simp)))⟩
  have hb4 : ¬ (c = i) := by omega
  have hG4 : ¬ (G = i) := by omega
  have hG5 : ¬ (G = i + 1) := by omega
  have hin : i ≤ n := by omega
  have hb3 : (i : Int) ≤ (n : Int) + 1 := by omega
  have hwi : IntKind.i64.wrap ((i : Int) + 1) = (i : Int) + 1 := by rw [IntKind.wrap_i64]; omega
  clear hS hA1 hA2 hg1 hgr1 hv1 hxl hdl hx hg hvb hcell hold hkk hik hRe hRl hRt hsrc1 hsrc2 hg2 hgr2 hG hi0 hz0 hzs hzb hsz
  go_enter Try.func66, Try.ntmps66
  go_wp2_with (first
    | (at_builtin; refine Lib.wpList_append_run _ rfl _ _ _ _ rfl _ _ rfl rfl _ _ (hrz _) ?_)
    | (at_builtin; refine wpList_copy_wide _ rfl _ _ _ _ rfl _ _ rfl rfl (hcp1 _) ?_))
  refine wp_region_slots 8 [[(9, false)], [(1, false)], [(7, false)], [(47, true), (48, true)], [(46, true), (49, true)], [(0, false)], [(1, false)], [(51, true), (52, true)]] (fun w' => w' = W2) (fun w w' => w' = w) (by kernel_rfl) (by kernel_rfl) (by rfl) hW2 (fun w w' h1 h2 => h2.trans h1) ?_
  iterate 8 (apply slot_eq; · (rintro ρ w' ⟨p1, p2, p3⟩ rfl hn; simp at hn; go_simp; exact ⟨rfl, rfl⟩))
  refine slot_end ?_
  rintro tv w4 rfl hF
  simp at hF
  obtain ⟨f53, f52, f51, f50, f49, f48, f47, f46⟩ := hF
  simp only [List.take_succ_cons, List.take_zero, List.drop_succ_cons, List.drop_zero, putAll, f53, f52, f51, f50, f49, f48, f47, f46]
  clear f53 f52 f51 f50 f49 f48 f47 f46
  simp only [Act.put, List.setIfInBounds_toArray, List.set_cons_succ, List.set_cons_zero]
  refine wpList_copy_wide _ rfl _ _ _ _ rfl _ _ rfl rfl (hcp2 _) ?_
  simp only [Act.put, List.setIfInBounds_toArray, List.set_cons_succ, List.set_cons_zero]
  go_wp2
  go_ret
  exact ⟨_, rfl, HF.out, HG2.out, HNW.out⟩

set_option maxRecDepth 100000 in
/-- All roads. -/
theorem insW_any (v : Value) (ps : List EnG) (i vb : Nat) (p : EnG) (base : Nat) (w : World) (hi : i ≤ ps.length) (hn : ps.length ≤ 1048576) (hrow : RowSh w base v ps) (hvb : w.heap[vb]? = some (.cells #[.int .i64 p.x.k, .int .i64 p.x.c, .int .i64 p.x.s, .int .i64 p.x.q, .int .i64 p.x.v, .bool p.x.de, .slice p.a p.x.xs.length p.cp] 43 (0, 0))) (hne : some vb ≠ v.ownBlock) (hb : base ≤ w.heap.size) :
    Calls Try.prog 66 #[v, .int .i64 (i : Int), .slice (some ⟨vb, 0, none⟩) 1 1] w fun e w' => ∃ v', e = .returned v' ∧ RowSh w' base v' (putAtW ps i p) ∧ w.grownBy w' v.ownBlock ∧ NewOr w v v' := by
  by_cases he : i = ps.length
  · subst he
    exact insW_end v ps vb p base w hn hrow hvb hb
  · rcases hrow.2 with ⟨_, h0⟩ | ⟨g, cap, cur, rfl, h2, h3, h4, h5, h6, h7⟩
    · omega
    · by_cases hroom : ps.length + 1 ≤ cap
      · exact insW_shift g ps.length cap i vb ps p cur base w (by omega) hn hroom h5 rfl h3 h6 h7 h2 hvb (fun e => hne (by rw [e]; rfl))
      · exact insW_grow g ps.length cap i vb ps p cur base w (by omega) hn h4 (by omega) rfl h3 h7 hb hvb

end Go.Proofs.Ytkgojpmjnehcnaa

/- Sets of writes, told by lists: plain facts. -/
namespace Go.Proofs.Ytkgojpmjnehcnaa
open Go.ChangeShapes Go.WideShapes Go.ChangeAt Go.RowKit Go.Joins

/-- Is a write there? -/
def hasW (l : List Wr) (x : Wr) : Bool := l.any fun y => cmpW y x == 0

theorem hasW_iff (l : List Wr) (x : Wr) : hasW l x = true ↔ x ∈ l := by
  unfold hasW
  rw [List.any_eq_true]
  constructor
  · rintro ⟨y, hy, h⟩
    have : y = x := cmpW_zero (by simpa using h)
    rw [← this]
    exact hy
  · intro h
    exact ⟨x, h, by simp [cmpW_self]⟩

theorem hasW_ext {l l' : List Wr} (h : ∀ x, x ∈ l ↔ x ∈ l') (x : Wr) : hasW l x = hasW l' x := by
  rw [Bool.eq_iff_iff, hasW_iff, hasW_iff]
  exact h x

/-- What a write says that is because of this one. -/
def dpOf (x : Wr) : Dp := ⟨x.k, x.c, x.s, x.q⟩

theorem found_ex {ws : List Wr} (h : RiseW ws) (x : Wr) : ∃ i fb, FoundAt ws x i fb := by
  have h1 : ∀ m, m ≤ ws.length → ∃ i, i ≤ m ∧ (∀ k, k < i → cmpW (ws.getD k wz) x < 0) ∧ (i = m ∨ 0 ≤ cmpW (ws.getD i wz) x) := by
    intro m
    induction m with
    | zero => exact fun _ => ⟨0, Nat.le_refl _, fun k hk => absurd hk (Nat.not_lt_zero k), .inl rfl⟩
    | succ m ih =>
      intro hm
      obtain ⟨i, i1, i2, i3⟩ := ih (by omega)
      rcases i3 with rfl | i3
      · by_cases hc : cmpW (ws.getD i wz) x < 0
        · exact ⟨i + 1, Nat.le_refl _, fun k hk => rise_below h (by omega) (by omega) hc, .inl rfl⟩
        · exact ⟨i, by omega, i2, .inr (by omega)⟩
      · exact ⟨i, by omega, i2, .inr i3⟩
  obtain ⟨i, i1, i2, i3⟩ := h1 ws.length (Nat.le_refl _)
  refine ⟨i, _, i1, i2, fun k hk hl => ?_, rfl⟩
  rcases i3 with rfl | i3
  · omega
  · exact rise_above h hk hl i3

theorem found_one {ws : List Wr} {x : Wr} {i i' : Nat} {fb fb' : Bool} (h : FoundAt ws x i fb) (h' : FoundAt ws x i' fb') : i = i' ∧ fb = fb' := by
  have e : i = i' := by
    rcases Nat.lt_trichotomy i i' with hl | hl | hl
    · have h1 := h'.2.1 i hl
      have h2 := h.2.2.1 i (Nat.le_refl _) (by have := h'.1; omega)
      omega
    · exact hl
    · have h1 := h.2.1 i' hl
      have h2 := h'.2.2.1 i' (Nat.le_refl _) (by have := h.1; omega)
      omega
  subst e
  exact ⟨rfl, by rw [h.2.2.2, h'.2.2.2]⟩

theorem getD_mem {ws : List Wr} {i : Nat} (h : i < ws.length) : ws.getD i wz ∈ ws := by simp [List.getD, h]

theorem mem_getD {ws : List Wr} {x : Wr} (h : x ∈ ws) : ∃ i, i < ws.length ∧ ws.getD i wz = x := by
  obtain ⟨i, hi, rfl⟩ := List.getElem_of_mem h
  exact ⟨i, hi, by simp [List.getD, hi]⟩

theorem found_has {ws : List Wr} (hr : RiseW ws) {x : Wr} {i : Nat} {fb : Bool} (h : FoundAt ws x i fb) : fb = hasW ws x := by
  rw [Bool.eq_iff_iff, hasW_iff, h.2.2.2, Bool.and_eq_true, decide_eq_true_eq]
  constructor
  · rintro ⟨h1, h2⟩
    have e : ws.getD i wz = x := cmpW_zero (by simpa using h2)
    rw [← e]
    exact getD_mem h1
  · intro hx
    obtain ⟨k, hk, hkx⟩ := mem_getD hx
    have hc : cmpW (ws.getD k wz) x = 0 := by rw [hkx]; exact cmpW_self x
    have h1 : ¬ k < i := fun hl => by have := h.2.1 k hl; omega
    have h2 : i < ws.length := by omega
    refine ⟨h2, ?_⟩
    by_cases e : k = i
    · rw [e] at hc
      rw [hc]
      rfl
    · have h3 := h.2.2.1 i (Nat.le_refl _) h2
      have h4 := hr i k (by omega) hk
      rw [hkx] at h4
      omega

/-- Where it is put in, the list stays in order. -/
theorem rise_put {ws : List Wr} (hr : RiseW ws) {x : Wr} {i : Nat} (h : FoundAt ws x i false) : RiseW (ws.take i ++ x :: ws.drop i) := by
  obtain ⟨h1, h2, h3, h4⟩ := h
  have hat : ∀ k, k < ws.length + 1 → (ws.take i ++ x :: ws.drop i).getD k wz = if k < i then ws.getD k wz else if k = i then x else ws.getD (k - 1) wz := fun k hk => by
    by_cases hl : k < i
    · rw [if_pos hl, List.getD_eq_getElem?_getD, List.getElem?_append_left (by rw [List.length_take]; omega), List.getElem?_take_of_lt hl, List.getD_eq_getElem?_getD]
    · rw [if_neg hl, List.getD_eq_getElem?_getD, List.getElem?_append_right (by rw [List.length_take]; omega), List.length_take, Nat.min_eq_left h1]
      by_cases he : k = i
      · rw [if_pos he, he]
        simp
      · rw [if_neg he, show k - i = (k - i - 1) + 1 by omega, List.getElem?_cons_succ, List.getElem?_drop, show i + (k - i - 1) = k - 1 by omega, List.getD_eq_getElem?_getD]
  have hlen : (ws.take i ++ x :: ws.drop i).length = ws.length + 1 := by
    simp
    omega
  have hne : ∀ k, i ≤ k → k < ws.length → 0 < cmpW (ws.getD k wz) x := fun k hk hl => by
    have h5 := h3 k hk hl
    by_cases e : cmpW (ws.getD k wz) x = 0
    · by_cases e2 : k = i
      · subst e2
        rw [e, decide_eq_true hl] at h4
        cases h4
      · have h6 := hr i k (by omega) hl
        have h7 := h3 i (Nat.le_refl _) (by omega)
        have e3 : ws.getD k wz = x := cmpW_zero e
        rw [e3] at h6
        omega
    · omega
  intro a b hab hb
  rw [hlen] at hb
  rw [hat a (by omega), hat b hb]
  by_cases ha : a < i
  · rw [if_pos ha]
    by_cases hbi : b < i
    · rw [if_pos hbi]
      exact hr a b hab (by omega)
    · rw [if_neg hbi]
      by_cases hbe : b = i
      · rw [if_pos hbe]
        exact h2 a ha
      · rw [if_neg hbe]
        exact hr a (b - 1) (by omega) (by omega)
  · rw [if_neg ha, if_neg (show ¬ b < i by omega), if_neg (show ¬ b = i by omega)]
    by_cases hae : a = i
    · rw [if_pos hae]
      have := hne (b - 1) (by omega) (by omega)
      rw [cmpW_turn]
      omega
    · rw [if_neg hae]
      exact hr (a - 1) (b - 1) (by omega) (by omega)

theorem mem_put {ws : List Wr} (x : Wr) (i : Nat) (y : Wr) : y ∈ ws.take i ++ x :: ws.drop i ↔ y = x ∨ y ∈ ws := by
  rw [List.mem_append, List.mem_cons]
  constructor
  · rintro (h | h | h)
    · exact .inr (List.mem_of_mem_take h)
    · exact .inl h
    · exact .inr (List.mem_of_mem_drop h)
  · rintro (h | h)
    · exact .inr (.inl h)
    · rw [← List.take_append_drop i ws] at h
      rcases List.mem_append.1 h with h | h
      · exact .inl h
      · exact .inr (.inr h)

end Go.Proofs.Ytkgojpmjnehcnaa

/- The keys of a map: what a dependency says. -/
namespace Go.Proofs.Ytkgojpmjnehcnaa
open Go.ChangeShapes Go.WideShapes Go.ChangeAt Go.RowKit Go.Joins Go.Maps

set_option maxRecDepth 100000

def dpL (d : Dp) : Lit := .string (keyBytes [.int .i64 d.k, .int .i64 d.c, .int .i64 d.s, .int .i64 d.q])

theorem dp_row : (71 : TypeId) < Try.prog.types.size := of_decide_eq_true (by kernel_rfl)

theorem dp_cells : Try.prog.cellsOf 71 = 4 := by kernel_rfl

theorem dp_tag : Try.prog.cellsOf 40 = 3 := by kernel_rfl

theorem dp_int : Try.prog.cellsOf 3 = 1 := by kernel_rfl

theorem dp_wide : (match Try.prog.underlying 71 with | some (.array _ _) | some (.struct _) => true | _ => false) = true := by rw [Try.underlying71]

theorem dp_law : Keyed Try.prog 71 := Keyed.of_law (deep_law_laid laidOut (m := 3) (by omega) dp_row (by kernel_rfl) dp_wide)

theorem dp_type : Try.prog.keyType 71 = true := by kernel_rfl

theorem dp_key (d : Dp) (h : DpR d) : keyOf Try.prog 71 (depV d.k d.c d.s d.q) = some (dpL d) := by
  have hf : (depV d.k d.c d.s d.q).formed Try.prog 71 = true := by simp [Value.formed, Try.underlying71, dp_cells]
  have ht : 2 < Try.prog.types.size := of_decide_eq_true (by kernel_rfl)
  obtain ⟨m, hm⟩ : ∃ m, Try.prog.types.size = m + 2 := ⟨Try.prog.types.size - 2, by omega⟩
  unfold keyOf
  rw [Try.underlying71]
  simp only [dp_type, hf, Bool.and_self, if_true]
  rw [hm]
  simp [Program.keyLits, Try.underlying71, Try.underlying40, Try.underlying3, dp_cells, dp_tag, dp_int, Value.cells, r64_wf h.1, r64_wf h.2.1, r64_wf h.2.2.1, r64_wf h.2.2.2, dpL, List.range]
  rw [if_pos (fun i hi => by have h3 : i = 0 ∨ i = 1 ∨ i = 2 := by omega
                             rcases h3 with rfl | rfl | rfl <;> simp)]
  rfl

def keyD : KeyG Dp 71 where
  v := fun d => depV d.k d.c d.s d.q
  l := dpL
  ok := DpR
  law := dp_law
  key := dp_key
  inj := fun x y h => by
    cases x
    cases y
    simp at h
    simp [h]

end Go.Proofs.Ytkgojpmjnehcnaa

/- Sets of writes: the contracts of impl's writeSet: lacks and add. -/
namespace Go.Proofs.Ytkgojpmjnehcnaa
open Go.ChangeShapes Go.WideShapes Go.ChangeAt Go.RowKit Go.Joins Go.Maps
attribute [local go_sem ↓] Go.wp_at_zero Go.wp_at_succ

/-- The entries of a row, as writes. -/
def xsOf (es : List EnG) : List Wr := es.map (·.x)

theorem xsOf_len (es : List EnG) : (xsOf es).length = es.length := by simp [xsOf]

theorem xsOf_get (es : List EnG) {i : Nat} (h : i < es.length) : (xsOf es).getD i wz = (es.getD i ezG).x := by simp [xsOf, List.getD, h]

/-- Of each entry the dependencies lie in w0. -/
def DepsIn (w0 : World) (es : List EnG) : Prop := ∀ e ∈ es, e.x.xs.length ≤ 1048576 ∧ IsDeps w0 e.a e.x.xs

/-- Block b is a set of writes: of each key a row, in order, each row in a block of its own; in all just the writes of ks. -/
structure SetIs (w0 w : World) (b n base : Nat) (V : Dp → Option Value) (E : Dp → List EnG) (ks : List Wr) : Prop where
  map : MapIs keyD w b n V
  nil : ∀ d, V d = none → E d = []
  row : ∀ d v, V d = some v → RowSh w base v (E d)
  pos : ∀ d v, V d = some v → ∃ g, v.ownBlock = some g
  off : ∀ d v, V d = some v → v.ownBlock ≠ some b
  apart : ∀ d d' v v', V d = some v → V d' = some v' → d ≠ d' → v.ownBlock ≠ v'.ownBlock
  rise : ∀ d, RiseW (xsOf (E d))
  deps : ∀ d, DepsIn w0 (E d)
  len : ∀ d, (E d).length ≤ n
  has : ∀ x, hasW (xsOf (E (dpOf x))) x = hasW ks x

/-- The blocks of a set. -/
def SetS (b : Nat) (V : Dp → Option Value) (x : Nat) : Prop := x = b ∨ ∃ d v, V d = some v ∧ v.ownBlock = some x

theorem SetIs.lt {w0 w : World} {b n base : Nat} {V : Dp → Option Value} {E : Dp → List EnG} {ks : List Wr} (h : SetIs w0 w b n base V E ks) : ∀ x, SetS b V x → x < w.heap.size := by
  rintro x (rfl | ⟨d, v, h1, h2⟩)
  · exact h.map.lt
  · exact (World.ownsRow.lt (h.row d v h1) x h2).2

theorem RowSh.keep {w w' : World} {base : Nat} {v : Value} {es : List EnG} (h : RowSh w base v es) (hb : ∀ g, v.ownBlock = some g → w'.heap[g]? = w.heap[g]?) : RowSh w' base v es := by
  refine ⟨h.1, ?_⟩
  rcases h.2 with hn | ⟨g, cap, cur, rfl, h2, hgg, rest⟩
  · exact .inl hn
  · exact .inr ⟨g, cap, cur, rfl, h2, (hb g rfl).trans hgg, rest⟩

theorem SetIs.keep {w0 w w' : World} {b n base : Nat} {V : Dp → Option Value} {E : Dp → List EnG} {ks : List Wr} (h : SetIs w0 w b n base V E ks) (hb : ∀ x, SetS b V x → w'.heap[x]? = w.heap[x]?) : SetIs w0 w' b n base V E ks :=
  ⟨h.map.of_block (hb b (.inl rfl)), h.nil, fun d v hv => (h.row d v hv).keep fun g hg => hb g (.inr ⟨d, v, hv, hg⟩), h.pos, h.off, h.apart, h.rise, h.deps, h.len, h.has⟩

theorem SetIs.below {w0 w w' : World} {b n base : Nat} {V : Dp → Option Value} {E : Dp → List EnG} {ks : List Wr} (h : SetIs w0 w b n base V E ks) (hb : Below w.heap.size w w') : SetIs w0 w' b n base V E ks :=
  h.keep fun x hx => hb.block x (h.lt x hx)

theorem setIs_made (w0 w : World) (base : Nat) : SetIs w0 (w.alloc (.map #[] 0)) w.heap.size 0 base (fun _ => none) (fun _ => []) [] where
  map := mapIs_made keyD w
  nil := fun _ _ => rfl
  row := fun _ _ h => by cases h
  pos := fun _ _ h => by cases h
  off := fun _ _ h => by cases h
  apart := fun _ _ _ _ h => by cases h
  rise := fun _ i j _ h => by simp [xsOf] at h
  deps := fun _ e h => by simp at h
  len := fun _ => by simp
  has := fun _ => rfl

/-- A row's writes. -/
theorem RowSh.isWs {w0 w : World} {base : Nat} {v : Value} {es : List EnG} (h : RowSh w base v es) (hd : DepsIn w0 es) (hb : Below w0.heap.size w0 w) : ∃ a cap, v = .slice a es.length cap ∧ IsWs w a (xsOf es) ∧ Few (xsOf es) := by
  obtain ⟨a, cap, rfl⟩ := RowSh.form h
  refine ⟨a, cap, rfl, ?_, fun i hi => ?_⟩
  · rcases h.2 with ⟨_, h0⟩ | ⟨g, cap', cur, h1, h2, h3, h4⟩
    · exact .inl (by rw [List.length_eq_zero_iff.1 h0]; rfl)
    · injection h1 with h1 _ _
      subst h1
      have hlt : g < w.heap.size := (Array.getElem?_eq_some_iff.1 h3).1
      refine .inr ⟨g, 0, rfl, hlt, fun i hi => ?_⟩
      have hi' : i < es.length := by rwa [xsOf_len] at hi
      rw [xsOf_get es hi']
      have hm : es.getD i ezG ∈ es := by simp [List.getD, hi']
      have hc : ∀ c, c < 7 → w.cell? ⟨g, 0 + i * 7 + c, none⟩ = (wrValsG (es.getD i ezG))[c]? := fun c hc => by
        rw [Nat.zero_add, World.ownsRow.cellAt h (i * 7 + c) (by omega), valsG_at es i c hi' hc]
      refine ⟨(es.getD i ezG).a, (es.getD i ezG).cp, ⟨hc 0 (by omega), hc 1 (by omega), hc 2 (by omega), hc 3 (by omega), hc 4 (by omega), hc 5 (by omega), hc 6 (by omega)⟩, by have := (hd _ hm).1; unfold maxLen; omega, (hd _ hm).2.below hb⟩
  · rw [xsOf_get es (by rwa [xsOf_len] at hi)]
    exact (hd _ (by rw [xsOf_len] at hi; simp [List.getD, hi])).1

set_option maxRecDepth 100000 in
theorem depOn_any (x : Wr) (ad : Option Addr) (cp : Nat) (w : World) :
    Calls Try.prog 64 #[wrOf x ad cp] w fun e w' => e = .returned (depV x.k x.c x.s x.q) ∧ Below w.heap.size w w' := by
  obtain ⟨xk, xc, xs', xq, xv, xd, xx⟩ := x
  unfold wrOf
  simp only
  go_enter Try.func64, Try.ntmps64
  go_wp2
  refine bodyPost_ret (v := depV xk xc xs' xq) (by simp [results, Try.results64, go_sem]) rfl ⟨rfl, ?_⟩
  exact ((Below.refl _ _).alloc (Nat.le_refl _) _).alloc (by simp) _

theorem setZero (w : World) : (zeroValue 24).run Try.prog w = .ok (.slice none 0 0) w := by kernel_rfl

theorem bsearch_is (a : Option Addr) (n cap : Nat) (ws : List Wr) (x : Wr) (ad : Option Addr) (cp : Nat) (w : World) {i : Nat} {fb : Bool} (hf : FoundAt ws x i fb) (hn : ws.length = n) (hm : n ≤ 1048576) (hx : Few ws) (hxl : x.xs.length ≤ 1048576) (hh : IsWs w a ws) (hd : IsDeps w ad x.xs) (hr : RiseW ws) :
    Calls Try.prog 63 #[.slice a n cap, wrOf x ad cp, .func (.func 65) #[] #[]] w fun e w' => e = .returned (.tuple #[.int .i64 (i : Int), .bool fb]) ∧ Below w.heap.size w w' := by
  refine (bsearch_any a n cap ws x ad cp w hn hm hx hxl hh hd hr).mono ?_
  rintro e w' ⟨i', fb', rfl, h1, h2⟩
  obtain ⟨rfl, rfl⟩ := found_one hf h1
  exact ⟨rfl, h2⟩

/-- The slice that a look-up gives. -/
def rowV (V : Dp → Option Value) (d : Dp) : Value := (V d).getD (.slice none 0 0)

theorem SetIs.theRow {w0 w : World} {b n base : Nat} {V : Dp → Option Value} {E : Dp → List EnG} {ks : List Wr} (h : SetIs w0 w b n base V E ks) (d : Dp) : RowSh w base (rowV V d) (E d) := by
  unfold rowV
  cases hv : V d with
  | none =>
    rw [h.nil d hv]
    exact ⟨rfl, .inl ⟨rfl, rfl⟩⟩
  | some v => exact h.row d v hv

set_option maxRecDepth 100000 in
set_option maxHeartbeats 4000000 in
theorem setLacks_any (b n base : Nat) (V : Dp → Option Value) (E : Dp → List EnG) (ks : List Wr) (x : Wr) (ad : Option Addr) (cp : Nat) (w0 w : World) (hn : n ≤ 1048576) (hx : WrR x) (hxl : x.xs.length ≤ 1048576) (hd : IsDeps w ad x.xs) (hb : Below w0.heap.size w0 w) (h : SetIs w0 w b n base V E ks) :
    Calls Try.prog 36 #[.map (some b), wrOf x ad cp] w fun e w' => e = .returned (.bool (!hasW ks x)) ∧ Below w.heap.size w w' := by
  have hok : keyD.ok (dpOf x) := ⟨hx.1, hx.2.1, hx.2.2.1, hx.2.2.2.1⟩
  obtain ⟨i, fb, hf⟩ := found_ex (h.rise (dpOf x)) x
  have hfb : fb = hasW ks x := (found_has (h.rise (dpOf x)) hf).trans (h.has x)
  have hln := h.len (dpOf x)
  have HF := Lib.hid hf
  have HH := Lib.hid h
  have HB := Lib.hid hb
  have HD := Lib.hid hd
  rw [← hfb]
  obtain ⟨a, cap, hva, -, -⟩ := (h.theRow (dpOf x)).isWs (h.deps (dpOf x)) hb
  have HWS : Hid (∀ W, Below w.heap.size w W → IsWs W a (xsOf (E (dpOf x))) ∧ Few (xsOf (E (dpOf x)))) := fun W hW => by
    obtain ⟨a', cap', h1, h2, h3⟩ := ((HH.out.below hW).theRow (dpOf x)).isWs (HH.out.deps (dpOf x)) (below_step HB.out HB.out.size hW)
    rw [hva] at h1
    injection h1 with h1 _ _
    subst h1
    exact ⟨h2, h3⟩
  have HLK : Hid (∀ W, Below w.heap.size w W → (Instr.lookup 64 (.map (some b)) (depV x.k x.c x.s x.q) false).run Try.prog W = .ok (.slice a (E (dpOf x)).length cap) W) := fun W hW => by
    have h1 := (HH.out.below hW).map.look1 Try.underlying64 (setZero W) hok
    rw [show ((V (dpOf x)).getD (.slice none 0 0)) = rowV V (dpOf x) from rfl, hva] at h1
    exact h1
  have HBS : Hid (∀ W, Below w.heap.size w W → Calls Try.prog 63 #[.slice a (E (dpOf x)).length cap, wrOf x ad cp, .func (.func 65) #[] #[]] W fun e w' => e = .returned (.tuple #[.int .i64 (i : Int), .bool fb]) ∧ Below W.heap.size W w') := fun W hW =>
    bsearch_is a _ cap (xsOf (E (dpOf x))) x ad cp W HF.out (xsOf_len _) (by omega) (HWS.out W hW).2 hxl (HWS.out W hW).1 (HD.out.below hW) (HH.out.rise (dpOf x))
  clear h hb hd hva hfb hf
  obtain ⟨xk, xc, xs', xq, xv, xd, xx⟩ := x
  generalize (E (dpOf ⟨xk, xc, xs', xq, xv, xd, xx⟩)).length = L at *
  unfold wrOf at HBS ⊢
  simp only at HBS HLK ⊢
  have HA : Hid (Below w.heap.size w (w.alloc (.cells #[.int .i64 xk, .int .i64 xc, .int .i64 xs', .int .i64 xq, .int .i64 xv, .bool xd, .slice ad xx.length cp] 43))) := (Below.refl _ _).alloc (Nat.le_refl _) _
  have HBX : Hid ((w.alloc (.cells #[.int .i64 xk, .int .i64 xc, .int .i64 xs', .int .i64 xq, .int .i64 xv, .bool xd, .slice ad xx.length cp] 43)).heap[w.heap.size]? = some (.cells #[.int .i64 xk, .int .i64 xc, .int .i64 xs', .int .i64 xq, .int .i64 xv, .bool xd, .slice ad xx.length cp] 43 (0, 0))) := heap_alloc_new _ _
  have HSZ : Hid (w.heap.size < (w.alloc (.cells #[.int .i64 xk, .int .i64 xc, .int .i64 xs', .int .i64 xq, .int .i64 xv, .bool xd, .slice ad xx.length cp] 43)).heap.size) := by show _ < _; simp
  go_enter Try.func36, Try.ntmps36
  go_wp2_with fail
  generalize w.alloc (.cells #[.int .i64 xk, .int .i64 xc, .int .i64 xs', .int .i64 xq, .int .i64 xv, .bool xd, .slice ad xx.length cp] 43) = W1 at *
  have g0 := aft_cell HSZ.out (cell_of_row W1 w.heap.size 0 _ _ _ HBX.out)
  have g1 := aft_cell HSZ.out (cell_of_row W1 w.heap.size 1 _ _ _ HBX.out)
  have g2 := aft_cell HSZ.out (cell_of_row W1 w.heap.size 2 _ _ _ HBX.out)
  have g3 := aft_cell HSZ.out (cell_of_row W1 w.heap.size 3 _ _ _ HBX.out)
  have g4 := aft_cell HSZ.out (cell_of_row W1 w.heap.size 4 _ _ _ HBX.out)
  have g5 := aft_cell HSZ.out (cell_of_row W1 w.heap.size 5 _ _ _ HBX.out)
  have g6 := aft_cell HSZ.out (cell_of_row W1 w.heap.size 6 _ _ _ HBX.out)
  simp at g0 g1 g2 g3 g4 g5 g6
  have ne := aft_some W1
  have hlk : ∀ p : Aft W1.heap.size W1, (Instr.lookup 64 (.map (some b)) (depV xk xc xs' xq) false).run Try.prog p.now = .ok (.slice a L cap) p.now := fun p => HLK.out _ (below_step HA.out HA.out.size p.below)
  have HDO : Hid (∀ p : Aft W1.heap.size W1, Calls Try.prog 64 #[wrV xk xc xs' xq xv xd ad xx.length cp] p.now fun e w' => e = .returned (depV xk xc xs' xq) ∧ Below p.now.heap.size p.now w') := fun p => depOn_any ⟨xk, xc, xs', xq, xv, xd, xx⟩ ad cp _
  have HBP : Hid (∀ p : Aft W1.heap.size W1, Calls Try.prog 63 #[.slice a L cap, wrV xk xc xs' xq xv xd ad xx.length cp, .func (.func 65) #[] #[]] p.now fun e w' => e = .returned (.tuple #[.int .i64 (i : Int), .bool fb]) ∧ Below p.now.heap.size p.now w') := fun p => HBS.out _ (below_step HA.out HA.out.size p.below)
  refine wp_region_aft (by kernel_rfl) (by kernel_rfl) ?_
  repeat (first | go_big_quiet_step (first | (go_at_call 64; exact aft_of (HDO.out _)) | (go_at_call 63; exact aft_of (HBP.out _))))
  refine wpQuiet_nil ?_
  intro wq hq
  have HBF : Hid (Below w.heap.size w wq) := below_step HA.out HA.out.size hq
  clear hq g0 g1 g2 g3 g4 g5 g6 ne hlk
  go_wp2
  go_ret
  exact ⟨rfl, HBF.out⟩

end Go.Proofs.Ytkgojpmjnehcnaa

/- Sets of writes: the contract of impl's writeSet.add. -/
namespace Go.Proofs.Ytkgojpmjnehcnaa
open Go.ChangeShapes Go.WideShapes Go.ChangeAt Go.RowKit Go.Joins Go.Maps
attribute [local go_sem ↓] Go.wp_at_zero Go.wp_at_succ

/-- A function of dependencies, turned at one. -/
def updD {α : Type} (f : Dp → α) (d : Dp) (u : α) : Dp → α := fun d' => if d'.k = d.k ∧ d'.c = d.c ∧ d'.s = d.s ∧ d'.q = d.q then u else f d'

theorem updD_at {α : Type} (f : Dp → α) (d : Dp) (u : α) : updD f d u d = u := if_pos ⟨rfl, rfl, rfl, rfl⟩

theorem updD_off {α : Type} (f : Dp → α) (d : Dp) (u : α) {d' : Dp} (h : d' ≠ d) : updD f d u d' = f d' := if_neg fun e => h (by cases d; cases d'; simp at e; simp [e])

theorem hasW_more (ks : List Wr) (x y : Wr) : hasW (ks ++ [x]) y = (hasW ks y || (cmpW x y == 0)) := by
  unfold hasW
  rw [List.any_append]
  simp

theorem dp_ne {d d' : Dp} : d = d' ∨ d ≠ d' := Classical.em _

/-- A write that is there already. -/
theorem SetIs.same {w0 w : World} {b n base : Nat} {V : Dp → Option Value} {E : Dp → List EnG} {ks : List Wr} (h : SetIs w0 w b n base V E ks) {x : Wr} (hx : hasW ks x = true) : SetIs w0 w b (n + 1) base V E (ks ++ [x]) :=
  ⟨h.map.mono (by omega), h.nil, h.row, h.pos, h.off, h.apart, h.rise, h.deps, fun d => Nat.le_succ_of_le (h.len d), fun y => by
    rw [h.has, hasW_more]
    by_cases e : cmpW x y = 0
    · have : x = y := cmpW_zero e
      subst this
      rw [hx, Bool.true_or]
    · simp [e]⟩

theorem xsOf_put (es : List EnG) (i : Nat) (e : EnG) : xsOf (putAtW es i e) = (xsOf es).take i ++ e.x :: (xsOf es).drop i := by
  unfold putAtW xsOf
  simp

/-- One write more. -/
theorem SetIs.more {w0 w w4 w5 : World} {b n base : Nat} {V : Dp → Option Value} {E : Dp → List EnG} {ks : List Wr} (h : SetIs w0 w b n base V E ks) {x : Wr} {ad : Option Addr} {cp i : Nat} {v' : Value} (hxl : x.xs.length ≤ 1048576) (hd : IsDeps w0 ad x.xs) (hf : FoundAt (xsOf (E (dpOf x))) x i false)
    (hrow : RowSh w4 base v' (putAtW (E (dpOf x)) i ⟨x, ad, 0, cp⟩)) (hg : w.grownBy w4 (rowV V (dpOf x)).ownBlock) (hnew : NewOr w (rowV V (dpOf x)) v') (hmap : ∀ g : Dp → Option Value, g (dpOf x) = some v' → (∀ j, j ≠ dpOf x → g j = V j) → MapIs keyD w5 b (n + 1) g) (ht : w4.grownBy w5 (some b)) :
    SetIs w0 w5 b (n + 1) base (updD V (dpOf x) (some v')) (updD E (dpOf x) (putAtW (E (dpOf x)) i ⟨x, ad, 0, cp⟩)) (ks ++ [x]) ∧ (∀ y, SetS b (updD V (dpOf x) (some v')) y → SetS b V y ∨ w.heap.size ≤ y) ∧ But (SetS b V) w w5 := by
  have hbl : b < w.heap.size := h.map.lt
  have hown : ∀ g, (rowV V (dpOf x)).ownBlock = some g → ∃ v, V (dpOf x) = some v ∧ v.ownBlock = some g := fun g hg => by
    unfold rowV at hg
    cases hv : V (dpOf x) with
    | none => rw [hv] at hg; simp [Value.ownBlock] at hg
    | some v => rw [hv] at hg; exact ⟨v, rfl, hg⟩
  have hvb : v'.ownBlock ≠ some b := fun e => by
    rcases hnew b e with h1 | h1
    · obtain ⟨v, v1, v2⟩ := hown b h1
      exact h.off _ v v1 v2
    · omega
  have hpos : ∃ g, v'.ownBlock = some g := by
    rcases hrow.2 with ⟨_, h0⟩ | ⟨g, cap, cur, h1, _⟩
    · rw [putAtW_len (by have := hf.1; rwa [xsOf_len] at this)] at h0
      omega
    · exact ⟨g, by rw [h1]; rfl⟩
  have hkeep : ∀ d v, V d = some v → d ≠ dpOf x → ∀ g, v.ownBlock = some g → w5.heap[g]? = w.heap[g]? := fun d v hv hne g hgv => by
    have hlt : g < w.heap.size := (World.ownsRow.lt (h.row d v hv) g hgv).2
    have h1 : some g ≠ (rowV V (dpOf x)).ownBlock := fun e => by
      obtain ⟨u, u1, u2⟩ := hown g e.symm
      exact h.apart d (dpOf x) v u hv u1 hne (by rw [hgv, u2])
    have h2 : some g ≠ some b := fun e => h.off d v hv (by rw [hgv]; exact e)
    exact (ht.block g (Nat.lt_of_lt_of_le hlt hg.size) h2).trans (hg.block g hlt h1)
  have hrow5 : RowSh w5 base v' (putAtW (E (dpOf x)) i ⟨x, ad, 0, cp⟩) := hrow.keep fun g hgv => ht.block g (World.ownsRow.lt hrow g hgv).2 fun e => hvb (by rw [hgv]; exact e)
  refine ⟨⟨hmap _ (updD_at _ _ _) fun j hj => updD_off _ _ _ hj, ?_, ?_, ?_, ?_, ?_, ?_, ?_, ?_, ?_⟩, ?_, ?_⟩
  · intro d hv
    rcases dp_ne (d := d) (d' := dpOf x) with rfl | hne
    · rw [updD_at] at hv
      cases hv
    · rw [updD_off _ _ _ hne] at hv ⊢
      exact h.nil d hv
  · intro d v hv
    rcases dp_ne (d := d) (d' := dpOf x) with rfl | hne
    · rw [updD_at] at hv ⊢
      obtain rfl : v' = v := by simpa using hv
      exact hrow5
    · rw [updD_off _ _ _ hne] at hv ⊢
      exact (h.row d v hv).keep (hkeep d v hv hne)
  · intro d v hv
    rcases dp_ne (d := d) (d' := dpOf x) with rfl | hne
    · rw [updD_at] at hv
      obtain rfl : v' = v := by simpa using hv
      exact hpos
    · rw [updD_off _ _ _ hne] at hv
      exact h.pos d v hv
  · intro d v hv
    rcases dp_ne (d := d) (d' := dpOf x) with rfl | hne
    · rw [updD_at] at hv
      obtain rfl : v' = v := by simpa using hv
      exact hvb
    · rw [updD_off _ _ _ hne] at hv
      exact h.off d v hv
  · have hap : ∀ d v, V d = some v → d ≠ dpOf x → v.ownBlock ≠ v'.ownBlock := fun d v hv hne e => by
      obtain ⟨g, hgv⟩ := h.pos d v hv
      rw [hgv] at e
      rcases hnew g e.symm with h1 | h1
      · obtain ⟨u, u1, u2⟩ := hown g h1
        exact h.apart d (dpOf x) v u hv u1 hne (by rw [hgv, u2])
      · have := (World.ownsRow.lt (h.row d v hv) g hgv).2
        omega
    intro d d' v u hv hu hne
    rcases dp_ne (d := d) (d' := dpOf x) with rfl | h1
    · rw [updD_at] at hv
      obtain rfl : v' = v := by simpa using hv
      rw [updD_off _ _ _ hne.symm] at hu
      exact fun e => hap d' u hu hne.symm e.symm
    · rw [updD_off _ _ _ h1] at hv
      rcases dp_ne (d := d') (d' := dpOf x) with rfl | h2
      · rw [updD_at] at hu
        obtain rfl : v' = u := by simpa using hu
        exact hap d v hv h1
      · rw [updD_off _ _ _ h2] at hu
        exact h.apart d d' v u hv hu hne
  · intro d
    rcases dp_ne (d := d) (d' := dpOf x) with rfl | hne
    · rw [updD_at, xsOf_put]
      exact rise_put (h.rise _) hf
    · rw [updD_off _ _ _ hne]
      exact h.rise d
  · intro d
    rcases dp_ne (d := d) (d' := dpOf x) with rfl | hne
    · rw [updD_at]
      intro e he
      unfold putAtW at he
      rcases List.mem_append.1 he with he | he
      · exact h.deps _ e (List.mem_of_mem_take he)
      · rcases List.mem_cons.1 he with rfl | he
        · exact ⟨hxl, hd⟩
        · exact h.deps _ e (List.mem_of_mem_drop he)
    · rw [updD_off _ _ _ hne]
      exact h.deps d
  · intro d
    rcases dp_ne (d := d) (d' := dpOf x) with rfl | hne
    · rw [updD_at, putAtW_len (by have := hf.1; rwa [xsOf_len] at this)]
      have := h.len (dpOf x)
      omega
    · rw [updD_off _ _ _ hne]
      exact Nat.le_succ_of_le (h.len d)
  · intro y
    rw [hasW_more, ← h.has y]
    rcases dp_ne (d := dpOf y) (d' := dpOf x) with e | hne
    · rw [e, updD_at, xsOf_put, Bool.eq_iff_iff, hasW_iff, mem_put, Bool.or_eq_true, hasW_iff]
      constructor
      · rintro (h1 | h1)
        · right
          have h2 : x = y := h1.symm
          rw [h2]
          simp [cmpW_self]
        · exact .inl h1
      · rintro (h1 | h1)
        · exact .inr h1
        · exact .inl (cmpW_zero (by simpa using h1)).symm
    · rw [updD_off _ _ _ hne]
      have : (cmpW x y == 0) = false := by
        by_cases e : cmpW x y = 0
        · exact absurd (by rw [cmpW_zero e]) hne
        · simpa using e
      rw [this, Bool.or_false]
  · rintro y (rfl | ⟨d, v, hv, hy⟩)
    · exact .inl (.inl rfl)
    · rcases dp_ne (d := d) (d' := dpOf x) with rfl | hne
      · rw [updD_at] at hv
        obtain rfl : v' = v := by simpa using hv
        rcases hnew y hy with h1 | h1
        · obtain ⟨u, u1, u2⟩ := hown y h1
          exact .inl (.inr ⟨_, u, u1, u2⟩)
        · exact .inr h1
      · rw [updD_off _ _ _ hne] at hv
        exact .inl (.inr ⟨d, v, hv, hy⟩)
  · refine ⟨ht.os.trans hg.os, ht.tape.trans hg.tape, ht.output.trans hg.output, Nat.le_trans hg.size ht.size, fun k hk hn => ?_⟩
    refine (ht.block k (Nat.lt_of_lt_of_le hk hg.size) fun e => hn (.inl (by injection e))).trans (hg.block k hk fun e => ?_)
    obtain ⟨u, u1, u2⟩ := hown k e.symm
    exact hn (.inr ⟨_, u, u1, u2⟩)

end Go.Proofs.Ytkgojpmjnehcnaa
