import Derived.Test.YteladgfdedlmjaaGreatDoorPack20
import Derived.Shelf.SlSortCmp.NoneTotal
import Derived.Deep.RegionHeld3
import Derived.Test.YteladgfdedlmjaaGreatDoorPack12
import Derived.Test.YteladgfdedlmjaaGreatDoorPack18
namespace Go.Proofs.YteladgfdedlmjaaGreatDoor
open Go.ChangeShapes Go.WideShapes Go.ChangeAt Go.RowKit Go.Joins
attribute [local go_sem ↓] Go.wp_at_zero Go.wp_at_succ
abbrev six (V : Nat → Value) : Array Value := #[V 0, V 1, V 2, V 3, V 4, V 5]
def nilS : Nat → Value := fun _ => .slice none 0 0
def ofKey (ws : List Wr) (k : Nat) : List Wr := ws.filter fun x => x.k == (k : Int)
theorem six_start (w0 w : World) (base A : Nat) (o : Obj) (hA : w.heap.size = A) (ho : o = .cells (six nilS) 230) : SixR w0 (w.alloc o) base nilS (fun _ => []) ∧ SixA (w.alloc o) A nilS := by
 subst ho hA
 refine ⟨⟨fun k _ => World.ownsRow_nil _ _ _ _, fun k _ e he => by simp at he, fun i j _ _ _ b hb => by simp [nilS, Value.ownBlock] at hb⟩, ⟨by simp, fun k hk => ?_, fun o => frozen_of_row _ _ o _ _ (heap_alloc_new w _), fun k _ => by simp [nilS, Value.ownBlock]⟩⟩
 rw [cell_of_row _ _ k _ _ (0, 0) (heap_alloc_new w _)]
 match k, hk with
 | 0, _ => rfl
 | 1, _ => rfl
 | 2, _ => rfl
 | 3, _ => rfl
 | 4, _ => rfl
 | 5, _ => rfl
theorem ofKey_take {ws : List Wr} {k j : Nat} (hk : k < ws.length) (hj : (ws.getD k wz).k = (j : Int)) (i : Nat) : ofKey (ws.take (k + 1)) i = if i = j then ofKey (ws.take k) i ++ [ws.getD k wz] else ofKey (ws.take k) i := by
 unfold ofKey
 have e : ws.take (k + 1) = ws.take k ++ [ws.getD k wz] := by
  rw [List.take_add_one, List.getElem?_eq_getElem hk]
  simp [List.getD, hk]
 rw [e, List.filter_append]
 generalize ws.getD k wz = x at *
 by_cases h : i = j
 ·rw [if_pos h]
  have : (x.k == (i : Int)) = true := by rw [hj, h]; simp
  simp [this]
 ·rw [if_neg h]
  have : (x.k == (i : Int)) = false := by
   rw [hj, beq_eq_false_iff_ne]
   omega
  simp [this]
theorem ofKey_len (ws : List Wr) (k j : Nat) : (ofKey (ws.take k) j).length ≤ k := by
 unfold ofKey
 have h1 := List.length_filter_le (fun x : Wr => x.k == (j : Int)) (ws.take k)
 have h2 : (ws.take k).length ≤ k := by simp; omega
 omega
theorem put_cells {W : World} {A B j : Nat} {V : Nat → Value} (hA : SixA W A V) (hj : j < 6) (hB : B < W.heap.size) (hob : (V j).ownBlock ≠ some B) {x0 x1 x2 x3 x4 x5 x6 : Value} (h0 : W.cell? ⟨B, 0, none⟩ = some x0) (h1 : W.cell? ⟨B, 1, none⟩ = some x1) (h2 : W.cell? ⟨B, 2, none⟩ = some x2) (h3 : W.cell? ⟨B, 3, none⟩ = some x3) (h4 : W.cell? ⟨B, 4, none⟩ = some x4) (h5 : W.cell? ⟨B, 5, none⟩ = some x5) (h6 : W.cell? ⟨B, 6, none⟩ = some x6) :
  ∀ w', W.grownBy w' (V j).ownBlock → w'.cell? ⟨B, 0, none⟩ = some x0 ∧ w'.cell? ⟨B, 1, none⟩ = some x1 ∧ w'.cell? ⟨B, 2, none⟩ = some x2 ∧ w'.cell? ⟨B, 3, none⟩ = some x3 ∧ w'.cell? ⟨B, 4, none⟩ = some x4 ∧ w'.cell? ⟨B, 5, none⟩ = some x5 ∧ w'.cell? ⟨B, 6, none⟩ = some x6 ∧ w'.cell? ⟨A, j, none⟩ = some (V j) := fun w' hG => by
 have hb := hG.block B hB (fun e => hob e.symm)
 have ha := hG.block A hA.lt (fun e => hA.off j hj e.symm)
 have c : ∀ o, w'.cell? ⟨B, o, none⟩ = W.cell? ⟨B, o, none⟩ := fun o => World.cell?_of_block (a := ⟨B, o, none⟩) hb
 exact ⟨(c _).trans h0, (c _).trans h1, (c _).trans h2, (c _).trans h3, (c _).trans h4, (c _).trans h5, (c _).trans h6, (World.cell?_of_block (a := ⟨A, j, none⟩) ha).trans (hA.cells j hj)⟩
def LBox (w : World) (R : Nat) : Prop := R < w.heap.size ∧ CellsAre w R 6 nilS ∧ ∀ o, w.frozen? ⟨R, o, none⟩ = false
theorem LBox.of_block {w w' : World} {R : Nat} (h : LBox w R) (hs : w.heap.size ≤ w'.heap.size) (hb : w'.heap[R]? = w.heap[R]?) : LBox w' R :=
 ⟨Nat.lt_of_lt_of_le h.1 hs, h.2.1.of_block hb, fun o => (frozen_of_block hb).trans (h.2.2 o)⟩
theorem LBox.below {w w' : World} {R : Nat} (h : LBox w R) (hb : Below w.heap.size w w') : LBox w' R := h.of_block hb.size (hb.block R h.1)
theorem lbox_start (w : World) (o : Obj) (ho : o = .cells (six nilS) 230) : LBox (w.alloc o) w.heap.size :=
 ⟨(six_start w w 0 _ o rfl ho).2.lt, (six_start w w 0 _ o rfl ho).2.cells, (six_start w w 0 _ o rfl ho).2.nf⟩
theorem LBox.put {W w4 : World} {R A base j : Nat} {V : Nat → Value} {E : Nat → List EnG} {w0 : World} (h : LBox W R) (hj : j < 6) (hR : SixR w0 W base V E) (hb : R < base) (hA : A ≠ R) (hG : W.grownBy w4 (V j).ownBlock) (v : Value) : LBox (w4.setCell ⟨A, j, none⟩ v) R := by
 have h1 : LBox w4 R := h.of_block hG.size (hG.block R h.1 fun e => by have := ((hR.own j hj).lt R e.symm).1; omega)
 exact h1.of_block (by simp) ((grown_set w4 A j v).block R h1.1 (by simpa using Ne.symm hA))
theorem HoldsE.of_block {w w' : World} {g : Nat} {es : List EnG} (h : HoldsE w g es) (hb : w'.heap[g]? = w.heap[g]?) : HoldsE w' g es := fun j hj => by
 obtain ⟨h1, h2⟩ := h j hj
 exact ⟨(World.cell?_of_block (a := ⟨g, 0 + j, none⟩) hb).trans h1, (frozen_of_block hb).trans h2⟩
theorem get_es (es : List EnG) {i : Nat} (h : i < es.length) : @getElem! (Array EnG) Nat EnG _ _ ⟨ezG⟩ es.toArray i = es.getD i ezG := by
 rw [@getElem!_pos _ _ _ _ _ _ ⟨ezG⟩ es.toArray i (by simpa using h)]
 simp [List.getD, h]
theorem vals_bang (e : EnG) {c : Nat} (h : c < 7) : (wrValsG e)[c]? = some (wrValsG e)[c]! := by
 match c, h with
 | 0, _ => rfl
 | 1, _ => rfl
 | 2, _ => rfl
 | 3, _ => rfl
 | 4, _ => rfl
 | 5, _ => rfl
 | 6, _ => rfl
theorem holdsE_of_own {w : World} {base g n cap : Nat} {es : List EnG} (h : w.ownsRow base 33 7 (.slice (some ⟨g, 0, none⟩) n cap) n (es.flatMap wrValsG)) (hn : es.length = n) : HoldsE w g es := by
 intro t ht
 have ht' : t < es.length * 7 := by simpa using ht
 rw [Nat.zero_add]
 refine ⟨?_, h.frozenAt t⟩
 have hd : t / 7 < es.length := by omega
 have hm : t % 7 < 7 := by omega
 rw [h.cellAt t (by omega)]
 show _ = some (@getElem! (Array Value) Nat Value _ _ _ (@Go.Sort.flatK EnG ⟨ezG⟩ wrValsG 7 es.toArray) t)
 rw [@Go.Sort.get_flatK EnG ⟨ezG⟩ wrValsG 7 es.toArray t (by simpa using ht'), get_es es hd]
 have e := valsG_at es (t / 7) (t % 7) hd hm
 rw [show t / 7 * 7 + t % 7 = t by omega] at e
 rw [e, vals_bang _ hm]
theorem holdsE_isWs {w : World} {g : Nat} {es : List EnG} (h : HoldsE w g es) (hg : g < w.heap.size) (hd : ∀ e ∈ es, IsDeps w e.a e.x.xs ∧ e.x.xs.length ≤ 1048576) : IsWs w (some ⟨g, 0, none⟩) (es.map (·.x)) := by
 refine .inr ⟨g, 0, rfl, hg, fun i hi => ?_⟩
 have hi' : i < es.length := by simpa using hi
 have hx : (es.map (·.x)).getD i wz = (es.getD i ezG).x := by simp [List.getD, hi']
 have hm : es.getD i ezG ∈ es := by simp [List.getD, hi']
 rw [hx]
 have c : ∀ c, c < 7 → w.cell? ⟨g, 0 + i * 7 + c, none⟩ = (wrValsG (es.getD i ezG))[c]? := fun c hc => by
  have := (@Go.Sort.HoldsK.cell EnG ⟨ezG⟩ wrValsG 7 w g 0 es.toArray h i c (by simpa using hi') hc).1
  rw [this, get_es es hi', vals_bang _ hc]
 have hl : (es.getD i ezG).x.xs.length ≤ maxLen := by have := (hd _ hm).2; unfold maxLen; omega
 exact ⟨_, _, ⟨c 0 (by omega), c 1 (by omega), c 2 (by omega), c 3 (by omega), c 4 (by omega), c 5 (by omega), c 6 (by omega)⟩, hl, (hd _ hm).1⟩
def RowS (w : World) (v : Value) (es : List EnG) : Prop := (es = [] ∧ ∃ p c, v = .slice p 0 c) ∨ ∃ g c, v = .slice (some ⟨g, 0, none⟩) es.length c ∧ es.length ≤ c ∧ g < w.heap.size ∧ HoldsE w g es
theorem rowS_of_own {w : World} {base : Nat} {v : Value} {es : List EnG} (h : w.ownsRow base 33 7 v es.length (es.flatMap wrValsG)) : RowS w v es := by
 rcases h.2 with ⟨h1, h2⟩ | ⟨g, cap, cur, h1, h2, h3, h4, _⟩
 ·exact .inl ⟨List.length_eq_zero_iff.1 h2, none, 0, h1⟩
 ·subst h1
  exact .inr ⟨g, cap, rfl, h4, (Array.getElem?_eq_some_iff.1 h3).1, holdsE_of_own h rfl⟩
theorem RowS.grown {w w' : World} {v : Value} {es : List EnG} {ob : Option Nat} (h : RowS w v es) (hg : w.grownBy w' ob) (hv : ∀ b, v.ownBlock = some b → ob ≠ some b) : RowS w' v es := by
 rcases h with h | ⟨g, c, h1, h0, h2, h3⟩
 ·exact .inl h
 ·exact .inr ⟨g, c, h1, h0, Nat.lt_of_lt_of_le h2 hg.size, h3.of_block (hg.block g h2 fun e => hv g (by rw [h1]; rfl) e.symm)⟩
def sP : Value → Option Addr
 | .slice p _ _ => p
 | _ => none
def sC : Value → Nat
 | .slice _ _ c => c
 | _ => 0
theorem RowS.form {w : World} {v : Value} {es : List EnG} (h : RowS w v es) : v = .slice (sP v) es.length (sC v) := by
 rcases h with ⟨rfl, p, c, rfl⟩ | ⟨g, c, rfl, _⟩
 ·rfl
 ·rfl
theorem RowS.le {w : World} {v : Value} {es : List EnG} (h : RowS w v es) : es.length ≤ sC v := by
 rcases h with ⟨rfl, p, c, rfl⟩ | ⟨g, c, rfl, h1, _⟩
 ·exact Nat.zero_le _
 ·exact h1
theorem RowS.isWs {w : World} {v : Value} {es : List EnG} (h : RowS w v es) (hd : ∀ e ∈ es, IsDeps w e.a e.x.xs ∧ e.x.xs.length ≤ 1048576) : IsWs w (sP v) (es.map (·.x)) := by
 rcases h with ⟨rfl, p, c, rfl⟩ | ⟨g, c, rfl, -, h2, h3⟩
 ·exact .inl rfl
 ·exact holdsE_isWs h3 h2 hd
theorem six_at (V : Nat → Value) {k : Nat} (h : k < 6) : (six V)[k]? = some (V k) := by
 match k, h with
 | 0, _ => rfl
 | 1, _ => rfl
 | 2, _ => rfl
 | 3, _ => rfl
 | 4, _ => rfl
 | 5, _ => rfl
theorem run_index6 (V : Nat → Value) {q : Nat} (h : q < 6) (v : Value) (hv : V q = v) (w : World) : (Instr.index 230 (.agg #[V 0, V 1, V 2, V 3, V 4, V 5]) (.int .i64 (q : Int))).run Tryz.prog w = .ok v w := by
 have hix : [V 0, V 1, V 2, V 3, V 4, V 5][q]? = some v := by
  rw [← hv]
  have := six_at V h
  simpa using this
 simp [Instr.index, go_sem, Go.part, Tryz.isAgg24, Tryz.sizeOf24, h]
 exact (List.getElem?_eq_some_iff.1 hix).2
end Go.Proofs.YteladgfdedlmjaaGreatDoor
namespace Go.Proofs.YteladgfdedlmjaaGreatDoor
open Go.ChangeShapes Go.WideShapes Go.ChangeAt Go.RowKit Go.Joins
theorem sortN_any (a : Option Addr) (cap : Nat) (w : World) :
  Calls Tryz.prog 201 #[.slice a 0 cap, .func (.func 202) #[] #[]] w fun e w' => e = .returned (.tuple #[]) ∧ w' = w :=
 AnyF.slices_SortFunc_none Tryz.sortW a cap _ w
end Go.Proofs.YteladgfdedlmjaaGreatDoor
namespace Go.Proofs.YteladgfdedlmjaaGreatDoor
open Go.ChangeShapes Go.WideShapes Go.ChangeAt Go.RowKit Go.Joins
set_option maxRecDepth 100000
attribute [local go_sem ↓] Go.wp_at_zero Go.wp_at_succ
set_option maxHeartbeats 16000000 in
theorem latest_any (a b : Option Addr) (n m cap cap' : Nat) (us vs : List Wr) (w : World) (hn : us.length = n) (hm : vs.length = m) (hs : n + m ≤ 1048576) (hx : Few us) (hy : Few vs) (hi : IsWs w a us) (hj : IsWs w b vs) (hku : ∀ i, i < us.length → 0 ≤ (us.getD i wz).k ∧ (us.getD i wz).k ≤ 5) (hkv : ∀ i, i < vs.length → 0 ≤ (vs.getD i wz).k ∧ (vs.getD i wz).k ≤ 5) :
  Calls Tryz.prog 192 #[.slice a n cap, .slice b m cap'] w fun e w' => ∃ (P : Nat → Option Addr) (C : Nat → Nat) (L : Nat → List Wr), e = .returned (.agg (six fun k => .slice (P k) (L k).length (C k))) ∧ (∀ k, k < 6 → IsWs w' (P k) (L k) ∧ (L k).length ≤ C k ∧ (L k).Perm (startL us vs k) ∧ (L k).Pairwise fun x y => 0 ≤ tcmp x.c x.s x.q y.c y.s y.q) ∧ Below w.heap.size w w' := by
 have HI : Hid (IsWs w a us) := hi
 have HJ : Hid (IsWs w b vs) := hj
 have HN : Hid (us.length = n) := hn
 have HM : Hid (vs.length = m) := hm
 have HX : Hid (Few us) := hx
 have HY : Hid (Few vs) := hy
 have HKU : Hid (∀ i, i < us.length → 0 ≤ (us.getD i wz).k ∧ (us.getD i wz).k ≤ 5) := hku
 have HKV : Hid (∀ i, i < vs.length → 0 ≤ (vs.getD i wz).k ∧ (vs.getD i wz).k ≤ 5) := hkv
 clear hi hj hn hm hx hy hku hkv
 obtain ⟨i0, hi0, hx0⟩ := Option.map_eq_some_iff.1 infoWr
 simp only [Prod.mk.injEq] at hx0
 have HI0 := Lib.hid hi0
 have HX0 := Lib.hid hx0
 clear hi0 hx0
 have HS0 := Lib.hid (six_start w (w.alloc (.cells (six nilS) 230)) (w.heap.size + 2) (w.heap.size + 1) _ (by simp) rfl)
 have HQ0 : Hid (LBox ((w.alloc (.cells (six nilS) 230)).alloc (.cells (six nilS) 230)) w.heap.size) := (lbox_start w _ rfl).below ((Below.refl _ _).alloc (Nat.le_refl _) _)
 have HB0 : Hid (Below w.heap.size w ((w.alloc (.cells (six nilS) 230)).alloc (.cells (six nilS) 230))) := ((Below.refl _ _).alloc (Nat.le_refl _) _).alloc (by simp) _
 go_enter Tryz.func192, Tryz.ntmps192
 go_wp2
 go_loopw [14] (fun i wr => ∃ (k : Nat) (V : Nat → Value) (E : Nat → List EnG), k ≤ n ∧ i = .int .i64 k ∧ Hid (∀ j, j < 6 → (E j).map (·.x) = (ofKey (us.take k) j).map strip) ∧ Hid (SixR w wr (w.heap.size + 2) V E) ∧ Hid (SixA wr (w.heap.size + 1) V) ∧ Hid (LBox wr w.heap.size) ∧ Hid (Below w.heap.size w wr)) (fun i _ => n - (intOf i).toNat)
 case atStart => exact ⟨0, nilS, fun _ => [], Nat.zero_le _, rfl, fun j _ => rfl, HS0.out.1, HS0.out.2, HQ0, HB0⟩
 case round =>
  clear HS0 HB0 HQ0
  obtain ⟨k, V, E, hk, rfl, HE, HR, HA, HQ, HB⟩ := hrel
  by_cases hk' : k < n
  ·obtain ⟨bb, oo, ad, cq, rfl, hz, ⟨e0, e1, e2, e3, e4, e5, e6⟩, hdd⟩ := HI.out.base HB.out HN.out hk'
   have i1 : (0 : Int) ≤ (k : Int) := by omega
   have i2 : (k : Int) < (n : Int) := by omega
   have hkw : k < us.length := by rw [HN.out]; exact hk'
   obtain ⟨k0, k5⟩ := HKU.out k hkw
   have hxl := HX.out k hkw
   obtain ⟨j, hj⟩ : ∃ j : Nat, (us.getD k wz).k = (j : Int) := ⟨(us.getD k wz).k.toNat, by omega⟩
   have hj6 : j < 6 := by omega
   have HT : Hid (∀ i, ofKey (us.take (k + 1)) i = if i = j then ofKey (us.take k) i ++ [us.getD k wz] else ofKey (us.take k) i) := ofKey_take hkw hj
   have hEl : (E j).length ≤ k := by
    have h1 := congrArg List.length (HE.out j hj6)
    simp only [List.length_map] at h1
    rw [h1]
    exact ofKey_len us k j
   have HDD := Lib.hid hdd
   clear HI hdd
   generalize us.getD k wz = x at *
   obtain ⟨xk, xc, xs', xq, xv, xd, xx⟩ := x
   simp only at e0 e1 e2 e3 e4 e5 e6 hj hxl HDD
   subst hj
   have HBX : Hid (Below wr.heap.size wr (wr.alloc (.cells #[.int .i64 (j : Int), .int .i64 xc, .int .i64 xs', .int .i64 xq, .int .i64 xv, .bool xd, .slice ad xx.length cq] 33))) := (Below.refl _ _).alloc (Nat.le_refl _) _
   have HR1 := Lib.hid (HR.out.below HBX.out)
   have HA1 := Lib.hid (HA.out.below HBX.out)
   have HQ1 := Lib.hid (HQ.out.below HBX.out)
   have HBW := Lib.hid (below_step HB.out HB.out.size HBX.out)
   have hbx : ∀ o u, (#[.int .i64 (j : Int), .int .i64 xc, .int .i64 xs', .int .i64 xq, .int .i64 xv, .bool xd, .slice ad xx.length cq] : Array Value)[o]? = some u → (wr.alloc (.cells #[.int .i64 (j : Int), .int .i64 xc, .int .i64 xs', .int .i64 xq, .int .i64 xv, .bool xd, .slice ad xx.length cq] 33)).cell? ⟨wr.heap.size, o, none⟩ = some u := fun o u hu => by
    rw [cell_of_row _ _ o _ _ (0, 0) (heap_alloc_new wr _)]
    exact hu
   have HCL := Lib.hid (put_cells HA1.out hj6 (B := wr.heap.size) (by simp) (fun e => by have := ((HR.out.own j hj6).lt _ e).2; omega) (hbx 0 _ rfl) (hbx 1 _ rfl) (hbx 2 _ rfl) (hbx 3 _ rfl) (hbx 4 _ rfl) (hbx 5 _ rfl) (hbx 6 _ rfl))
   clear hbx HR HA HB HQ
   have j1 : (0 : Int) ≤ (j : Int) := by omega
   have j2 : (j : Int) < 6 := by omega
   go_upto_region 5 with fail
   clear e0 e1 e2 e3 e4 e5 e6
   generalize hWb : wr.alloc (.cells #[.int .i64 (j : Int), .int .i64 xc, .int .i64 xs', .int .i64 xq, .int .i64 xv, .bool xd, .slice ad xx.length cq] 33) = Wb at *
   have HBs : Hid (w.heap.size + 2 ≤ Wb.heap.size) := by have := HA1.out.lt; exact Lib.hid (by omega)
   refine wp_region_slots_u 14 [[(7, false)], [(18, true)], [(7, false)], [(20, true)], [(5, false), (21, true)], [(22, true)], [(7, false)], [(24, true)], [(7, false)], [(26, true)], [(25, true), (27, true)], [(28, true)], [(23, true), (29, true)], [(5, false), (19, true)]] (fun w' => Wb.grownBy w' (V j).ownBlock) (fun w' => Wb.grownBy w' (V j).ownBlock) (fun _ w' => Wb.grownBy w' (V j).ownBlock) (fun d w' => d = some 30 → w'.ownsRow (w.heap.size + 2) 33 7 (V j) (E j).length ((E j).flatMap wrValsG)) (fun _ => none) (AppS 30 (V j).ownBlock) (by kernel_rfl) (by kernel_rfl) (by rfl) ⟨rfl, rfl, rfl, Nat.le_refl _, fun _ _ _ => rfl⟩ (by kernel_rfl) (fun _ _ => HR1.out.own j hj6) (fun _ h => by cases h) (fun d d' hd w w' h1 h2 h3 => ownsRow_below (h1 h3) (appS_below (h3 ▸ hd) h2)) (fun _ _ _ _ _ _ h => by cases h) (fun d _ w w' h1 h2 => grown_trans h1 (appS_any h2)) (fun _ _ _ h => h) (fun _ _ _ h => h) ?_
   have HRF : Hid (∀ (d : Option Tmp) (w : World), d ≠ some 30 → AppS 30 (V j).ownBlock d w w) := fun d w hd => appS_refl hd w
   iterate 11 (apply slotU_eq; · (intro ρ w' ⟨p1, p2, p3⟩ hG hEE hn; obtain ⟨c0, c1, c2, c3, c4, c5, c6, cA⟩ := HCL.out w' hG; simp at hn; go_simp; exact ⟨HRF.out _ _ (by simp), rfl⟩))
   refine slotU_fact (WrNew (V j).ownBlock ⟨strip ⟨(j : Int), xc, xs', xq, xv, xd, xx⟩, none, 0, 0⟩) (lasts_wrNew _ _ _ _ _) ?_ ?_
   ·intro ρ w' ⟨p1, p2, p3⟩ hG hEE hn
    simp at hn
    go_simp
    exact ⟨appS_alloc (by simp) _ _, _, rfl, by simp, fun e => by have h1 := ((HR1.out.own j hj6).lt _ e).2; have h2 := hG.size; omega, oneG_cells _ _ ⟨strip ⟨(j : Int), xc, xs', xq, xv, xd, xx⟩, none, 0, 0⟩⟩
   refine slotU_fact (WrRow (w.heap.size + 2) Wb.heap.size (E j).length (V j).ownBlock ((E j).flatMap wrValsG ++ wrValsG ⟨strip ⟨(j : Int), xc, xs', xq, xv, xd, xx⟩, none, 0, 0⟩)) (lasts_wrRow _ _ _ _ _ _ _) ?_ ?_
   ·intro ρ w' ⟨p1, p2, p3⟩ hG hEE hn
    simp at hn
    obtain ⟨fr, g', fn, hg3, hg4, hg5⟩ := hn
    have hown := hEE rfl
    refine got_append (.tmp 23) (.tmp 29) _ rfl (w.heap.size + 2) 33 i0 (wrV 0 0 0 0 0 false none 0 0) 7 72 Tryz.underlying24 HI0.out HX0.out.1 HX0.out.2.1 HX0.out.2.2 (by rfl) (by omega) (V j) (E j).length ((E j).flatMap wrValsG) fr hown ⟨g', 0, none⟩ 1 1 (wrValsG ⟨strip ⟨(j : Int), xc, xs', xq, xv, xd, xx⟩, none, 0, 0⟩) fn (by rfl) hg5 (by simpa using valsG_one [⟨strip ⟨(j : Int), xc, xs', xq, xv, xd, xx⟩, none, 0, 0⟩]) (by omega) (by unfold maxLen; omega) (by omega) (Nat.le_trans HBs.out hG.size) _ rfl ?_
    intro g3 cp3 w5 h1 h2 h3 h4
    refine ⟨appS_grown h2, g3, cp3, rfl, h1, ?_⟩
    rcases h3 with h3 | h3
    ·exact .inl h3
    ·exact .inr (by rw [h3]; exact hG.size)
   iterate 1 (apply slotU_eq; · (intro ρ w' ⟨p1, p2, p3⟩ hG hEE hn; obtain ⟨c0, c1, c2, c3, c4, c5, c6, cA⟩ := HCL.out w' hG; simp at hn; go_simp; exact ⟨HRF.out _ _ (by simp), rfl⟩))
   refine slotU_end ?_
   rintro tv w4 hG hF
   simp at hF
   obtain ⟨f31, ⟨g3, cp3, f30, hrow, hg3⟩, ⟨g', f29, -, -, -⟩, f28, f27, f26, f25, f24, f23, f22, f21, f20, f19, f18⟩ := hF
   have HP := Lib.hid (six_put (e := ⟨strip ⟨(j : Int), xc, xs', xq, xv, xd, xx⟩, none, 0, 0⟩) hj6 HR1.out HA1.out ⟨.inl rfl, by simp [strip]⟩ hG hrow hg3)
   have HQ4 := Lib.hid (HQ1.out.put (A := w.heap.size + 1) hj6 HR1.out (by omega) (by omega) hG (.slice (some ⟨g3, 0, none⟩) ((E j).length + 1) cp3))
   have cA := (HCL.out w4 hG).2.2.2.2.2.2.2
   have fA : w4.frozen? ⟨w.heap.size + 1, j, none⟩ = false := (frozen_of_block (hG.block _ HA1.out.lt (fun e => HA1.out.off j hj6 e.symm))).trans (HA1.out.nf j)
   have HB4 : Hid (Below w.heap.size w (w4.setCell ⟨w.heap.size + 1, j, none⟩ (.slice (some ⟨g3, 0, none⟩) ((E j).length + 1) cp3))) := (HBW.out.grown hG HBW.out.size fun b hb => by have := ((HR1.out.own j hj6).lt b hb).1; omega).setCell (by simp) _
   have HE4 : Hid (∀ i, i < 6 → (updF E j (E j ++ [⟨strip ⟨(j : Int), xc, xs', xq, xv, xd, xx⟩, none, 0, 0⟩]) i).map (·.x) = (ofKey (us.take (k + 1)) i).map strip) := fun i hi => by
    rw [HT.out i]
    by_cases e : i = j
    ·subst e
     rw [updF_at, if_pos rfl, List.map_append, HE.out i hi]
     rw [List.map_append]
     rfl
    ·rw [updF_off _ _ e, if_neg e]
     exact HE.out i hi
   clear hrow hg3 hG HR1 HA1 HQ1 HCL HRF HE HBW
   simp only [List.take_succ_cons, List.take_zero, List.drop_succ_cons, List.drop_zero, putAll, f31, f30, f29, f28, f27, f26, f25, f24, f23, f22, f21, f20, f19, f18]
   clear f18 f19 f20 f21 f22 f23 f24 f25 f26 f27 f28 f29 f30 f31
   simp only [Act.put, List.setIfInBounds_toArray, List.set_cons_succ, List.set_cons_zero]
   generalize updF E j (E j ++ [⟨strip ⟨(j : Int), xc, xs', xq, xv, xd, xx⟩, none, 0, 0⟩]) = E4 at *
   go_wp2
   exact ⟨⟨k + 1, _, E4, by omega, by go_num, HE4, HP.out.1, HP.out.2, HQ4, HB4⟩, by simp [intOf]; omega⟩
  ·have hkk : k = n := by omega
   subst hkk
   have HE0 : Hid (∀ j, j < 6 → (E j).map (·.x) = (ofKey us j).map strip ++ ofKey (vs.take 0) j) := fun j hj => by
    rw [HE.out j hj, List.take_of_length_le (by rw [HN.out]; exact Nat.le_refl _)]
    simp [ofKey]
   clear HE
   go_wp2
   go_loopw [35] (fun i wr => ∃ (q : Nat) (V : Nat → Value) (E : Nat → List EnG), q ≤ m ∧ i = .int .i64 q ∧ Hid (∀ j, j < 6 → (E j).map (·.x) = (ofKey us j).map strip ++ ofKey (vs.take q) j) ∧ Hid (SixR w wr (w.heap.size + 2) V E) ∧ Hid (SixA wr (w.heap.size + 1) V) ∧ Hid (LBox wr w.heap.size) ∧ Hid (Below w.heap.size w wr)) (fun i _ => m - (intOf i).toNat)
   case atStart => exact ⟨0, V, E, Nat.zero_le _, rfl, HE0, HR, HA, HQ, HB⟩
   case round =>
    clear HE0 HR HA HQ HB
    generalize k = n at *
    obtain ⟨k, V, E, hk, rfl, HE, HR, HA, HQ, HB⟩ := hrel
    by_cases hk' : k < m
    ·obtain ⟨bb, oo, ad, cq, rfl, hz, ⟨e0, e1, e2, e3, e4, e5, e6⟩, hdd⟩ := HJ.out.base HB.out HM.out hk'
     have i1 : (0 : Int) ≤ (k : Int) := by omega
     have i2 : (k : Int) < (m : Int) := by omega
     have hkw : k < vs.length := by rw [HM.out]; exact hk'
     obtain ⟨k0, k5⟩ := HKV.out k hkw
     have hxl := HY.out k hkw
     obtain ⟨j, hj⟩ : ∃ j : Nat, (vs.getD k wz).k = (j : Int) := ⟨(vs.getD k wz).k.toNat, by omega⟩
     have hj6 : j < 6 := by omega
     have HT : Hid (∀ i, ofKey (vs.take (k + 1)) i = if i = j then ofKey (vs.take k) i ++ [vs.getD k wz] else ofKey (vs.take k) i) := ofKey_take hkw hj
     have hEl : (E j).length ≤ n + k := by
      have h1 := congrArg List.length (HE.out j hj6)
      simp only [List.length_map, List.length_append] at h1
      have h2 := ofKey_len us n j
      have h3 := ofKey_len vs k j
      rw [List.take_of_length_le (by rw [HN.out]; exact Nat.le_refl _)] at h2
      omega
     have HDD := Lib.hid hdd
     clear HJ hdd
     generalize vs.getD k wz = x at *
     obtain ⟨xk, xc, xs', xq, xv, xd, xx⟩ := x
     simp only at e0 e1 e2 e3 e4 e5 e6 hj hxl HDD
     subst hj
     have HBX : Hid (Below wr.heap.size wr (wr.alloc (.cells #[.int .i64 (j : Int), .int .i64 xc, .int .i64 xs', .int .i64 xq, .int .i64 xv, .bool xd, .slice ad xx.length cq] 33))) := (Below.refl _ _).alloc (Nat.le_refl _) _
     have HR1 := Lib.hid (HR.out.below HBX.out)
     have HA1 := Lib.hid (HA.out.below HBX.out)
     have HQ1 := Lib.hid (HQ.out.below HBX.out)
     have HBW := Lib.hid (below_step HB.out HB.out.size HBX.out)
     have hbx : ∀ o u, (#[.int .i64 (j : Int), .int .i64 xc, .int .i64 xs', .int .i64 xq, .int .i64 xv, .bool xd, .slice ad xx.length cq] : Array Value)[o]? = some u → (wr.alloc (.cells #[.int .i64 (j : Int), .int .i64 xc, .int .i64 xs', .int .i64 xq, .int .i64 xv, .bool xd, .slice ad xx.length cq] 33)).cell? ⟨wr.heap.size, o, none⟩ = some u := fun o u hu => by
      rw [cell_of_row _ _ o _ _ (0, 0) (heap_alloc_new wr _)]
      exact hu
     have HCL := Lib.hid (put_cells HA1.out hj6 (B := wr.heap.size) (by simp) (fun e => by have := ((HR.out.own j hj6).lt _ e).2; omega) (hbx 0 _ rfl) (hbx 1 _ rfl) (hbx 2 _ rfl) (hbx 3 _ rfl) (hbx 4 _ rfl) (hbx 5 _ rfl) (hbx 6 _ rfl))
     clear hbx HR HA HB HQ
     have j1 : (0 : Int) ≤ (j : Int) := by omega
     have j2 : (j : Int) < 6 := by omega
     go_upto_region 10 with fail
     clear e0 e1 e2 e3 e4 e5 e6
     generalize hWb : wr.alloc (.cells #[.int .i64 (j : Int), .int .i64 xc, .int .i64 xs', .int .i64 xq, .int .i64 xv, .bool xd, .slice ad xx.length cq] 33) = Wb at *
     have HBs : Hid (w.heap.size + 2 ≤ Wb.heap.size) := by have := HA1.out.lt; exact Lib.hid (by omega)
     refine wp_region_slots_u 10 [[(9, false)], [(39, true)], [(9, false)], [(41, true)], [(5, false), (42, true)], [(43, true)], [(9, false)], [(45, true)], [(44, true), (46, true)], [(5, false), (40, true)]] (fun w' => Wb.grownBy w' (V j).ownBlock) (fun w' => Wb.grownBy w' (V j).ownBlock) (fun _ w' => Wb.grownBy w' (V j).ownBlock) (fun d w' => d = some 47 → w'.ownsRow (w.heap.size + 2) 33 7 (V j) (E j).length ((E j).flatMap wrValsG)) (fun _ => none) (AppS 47 (V j).ownBlock) (by kernel_rfl) (by kernel_rfl) (by rfl) ⟨rfl, rfl, rfl, Nat.le_refl _, fun _ _ _ => rfl⟩ (by kernel_rfl) (fun _ _ => HR1.out.own j hj6) (fun _ h => by cases h) (fun d d' hd w w' h1 h2 h3 => ownsRow_below (h1 h3) (appS_below (h3 ▸ hd) h2)) (fun _ _ _ _ _ _ h => by cases h) (fun d _ w w' h1 h2 => grown_trans h1 (appS_any h2)) (fun _ _ _ h => h) (fun _ _ _ h => h) ?_
     have HRF : Hid (∀ (d : Option Tmp) (w : World), d ≠ some 47 → AppS 47 (V j).ownBlock d w w) := fun d w hd => appS_refl hd w
     iterate 7 (apply slotU_eq; · (intro ρ w' ⟨p1, p2, p3⟩ hG hEE hn; obtain ⟨c0, c1, c2, c3, c4, c5, c6, cA⟩ := HCL.out w' hG; simp at hn; go_simp; exact ⟨HRF.out _ _ (by simp), rfl⟩))
     refine slotU_fact (WrNew (V j).ownBlock ⟨⟨(j : Int), xc, xs', xq, xv, xd, xx⟩, ad, 0, cq⟩) (lasts_wrNew _ _ _ _ _) ?_ ?_
     ·intro ρ w' ⟨p1, p2, p3⟩ hG hEE hn
      simp at hn
      go_simp
      exact ⟨appS_alloc (by simp) _ _, _, rfl, by simp, fun e => by have h1 := ((HR1.out.own j hj6).lt _ e).2; have h2 := hG.size; omega, oneG_cells _ _ ⟨⟨(j : Int), xc, xs', xq, xv, xd, xx⟩, ad, 0, cq⟩⟩
     refine slotU_fact (WrRow (w.heap.size + 2) Wb.heap.size (E j).length (V j).ownBlock ((E j).flatMap wrValsG ++ wrValsG ⟨⟨(j : Int), xc, xs', xq, xv, xd, xx⟩, ad, 0, cq⟩)) (lasts_wrRow _ _ _ _ _ _ _) ?_ ?_
     ·intro ρ w' ⟨p1, p2, p3⟩ hG hEE hn
      simp at hn
      obtain ⟨fr, g', fn, hg3, hg4, hg5⟩ := hn
      have hown := hEE rfl
      refine got_append (.tmp 44) (.tmp 46) _ rfl (w.heap.size + 2) 33 i0 (wrV 0 0 0 0 0 false none 0 0) 7 72 Tryz.underlying24 HI0.out HX0.out.1 HX0.out.2.1 HX0.out.2.2 (by rfl) (by omega) (V j) (E j).length ((E j).flatMap wrValsG) fr hown ⟨g', 0, none⟩ 1 1 (wrValsG ⟨⟨(j : Int), xc, xs', xq, xv, xd, xx⟩, ad, 0, cq⟩) fn (by rfl) hg5 (by simpa using valsG_one [⟨⟨(j : Int), xc, xs', xq, xv, xd, xx⟩, ad, 0, cq⟩]) (by omega) (by unfold maxLen; omega) (by omega) (Nat.le_trans HBs.out hG.size) _ rfl ?_
      intro g3 cp3 w5 h1 h2 h3 h4
      refine ⟨appS_grown h2, g3, cp3, rfl, h1, ?_⟩
      rcases h3 with h3 | h3
      ·exact .inl h3
      ·exact .inr (by rw [h3]; exact hG.size)
     iterate 1 (apply slotU_eq; · (intro ρ w' ⟨p1, p2, p3⟩ hG hEE hn; obtain ⟨c0, c1, c2, c3, c4, c5, c6, cA⟩ := HCL.out w' hG; simp at hn; go_simp; exact ⟨HRF.out _ _ (by simp), rfl⟩))
     refine slotU_end ?_
     rintro tv w4 hG hF
     simp at hF
     obtain ⟨f48, ⟨g3, cp3, f47, hrow, hg3⟩, ⟨g', f46, -, -, -⟩, f45, f44, f43, f42, f41, f40, f39⟩ := hF
     have HP := Lib.hid (six_put (e := ⟨⟨(j : Int), xc, xs', xq, xv, xd, xx⟩, ad, 0, cq⟩) hj6 HR1.out HA1.out ⟨HDD.out, hxl⟩ hG hrow hg3)
     have HQ4 := Lib.hid (HQ1.out.put (A := w.heap.size + 1) hj6 HR1.out (by omega) (by omega) hG (.slice (some ⟨g3, 0, none⟩) ((E j).length + 1) cp3))
     have cA := (HCL.out w4 hG).2.2.2.2.2.2.2
     have fA : w4.frozen? ⟨w.heap.size + 1, j, none⟩ = false := (frozen_of_block (hG.block _ HA1.out.lt (fun e => HA1.out.off j hj6 e.symm))).trans (HA1.out.nf j)
     have HB4 : Hid (Below w.heap.size w (w4.setCell ⟨w.heap.size + 1, j, none⟩ (.slice (some ⟨g3, 0, none⟩) ((E j).length + 1) cp3))) := (HBW.out.grown hG HBW.out.size fun b hb => by have := ((HR1.out.own j hj6).lt b hb).1; omega).setCell (by simp) _
     have HE4 : Hid (∀ i, i < 6 → (updF E j (E j ++ [⟨⟨(j : Int), xc, xs', xq, xv, xd, xx⟩, ad, 0, cq⟩]) i).map (·.x) = (ofKey us i).map strip ++ ofKey (vs.take (k + 1)) i) := fun i hi => by
      rw [HT.out i]
      by_cases e : i = j
      ·subst e
       rw [updF_at, if_pos rfl, List.map_append, HE.out i hi]
       rw [List.append_assoc]
       rfl
      ·rw [updF_off _ _ e, if_neg e]
       exact HE.out i hi
     clear hrow hg3 hG HR1 HA1 HQ1 HCL HRF HE HBW
     simp only [List.take_succ_cons, List.take_zero, List.drop_succ_cons, List.drop_zero, putAll, f48, f47, f46, f45, f44, f43, f42, f41, f40, f39]
     clear f39 f40 f41 f42 f43 f44 f45 f46 f47 f48
     simp only [Act.put, List.setIfInBounds_toArray, List.set_cons_succ, List.set_cons_zero]
     generalize updF E j (E j ++ [⟨⟨(j : Int), xc, xs', xq, xv, xd, xx⟩, ad, 0, cq⟩]) = E4 at *
     go_wp2
     exact ⟨⟨k + 1, _, E4, by omega, by go_num, HE4, HP.out.1, HP.out.2, HQ4, HB4⟩, by simp [intOf]; omega⟩
    ·have hkk : k = m := by omega
     subst hkk
     have HE5 : Hid (∀ j, j < 6 → (E j).map (·.x) = startL us vs j) := fun j hj => by
      rw [HE.out j hj, List.take_of_length_le (by rw [HM.out]; exact Nat.le_refl _)]
      rfl
     have HL5 : Hid (∀ j, j < 6 → (E j).length ≤ n + k) := fun j hj => by
      have h1 := congrArg List.length (HE.out j hj)
      simp only [List.length_map, List.length_append] at h1
      have h2 := ofKey_len us n j
      have h3 := ofKey_len vs k j
      rw [List.take_of_length_le (by rw [HN.out]; exact Nat.le_refl _)] at h2
      omega
     have HS5 : Hid (∀ j, j < 6 → RowS wr (V j) (E j)) := fun j hj => rowS_of_own (HR.out.own j hj)
     have HAP := Lib.hid HR.out.apart
     have HDP := Lib.hid HR.out.deps
     have HOB : Hid (∀ j, j < 6 → ∀ b, (V j).ownBlock = some b → w.heap.size + 2 ≤ b) := fun j hj b hb => ((HR.out.own j hj).lt b hb).1
     have c0 := HA.out.cells 0 (by omega)
     have c1 := HA.out.cells 1 (by omega)
     have c2 := HA.out.cells 2 (by omega)
     have c3 := HA.out.cells 3 (by omega)
     have c4 := HA.out.cells 4 (by omega)
     have c5 := HA.out.cells 5 (by omega)
     clear HE HR
     go_wp2
     clear c0 c1 c2 c3 c4 c5
     go_loopw [51] (fun i wr => ∃ (q : Nat) (F : Nat → List EnG), q ≤ 6 ∧ i = .int .i64 q ∧ Hid (∀ j, j < 6 → RowS wr (V j) (F j) ∧ (F j).Perm (E j) ∧ (j < q → (F j).Pairwise fun x y => 0 ≤ tcmp x.x.c x.x.s x.x.q y.x.c y.x.s y.x.q)) ∧ Hid (SixA wr (w.heap.size + 1) V) ∧ Hid (LBox wr w.heap.size) ∧ Hid (Below w.heap.size w wr)) (fun i _ => 6 - (intOf i).toNat)
     case atStart => exact ⟨0, E, Nat.zero_le _, rfl, fun j hj => ⟨HS5.out j hj, List.Perm.refl _, fun h => absurd h (Nat.not_lt_zero j)⟩, HA, HQ, HB⟩
     case round =>
      clear HA HQ HB HS5
      obtain ⟨q, F, hq, rfl, HS, HA, HQ, HB⟩ := hrel
      by_cases hq' : q < 6
      ·have i1 : (0 : Int) ≤ (q : Int) := by omega
       have i2 : (q : Int) < 6 := by omega
       rcases (HS.out q hq').1 with ⟨hnil, p, c, hv⟩ | ⟨g, c, hv, hlc, hg, hh⟩
       ·have hix := run_index6 V hq' _ hv
        have HS2 : Hid (∀ j, j < 6 → RowS wr (V j) (F j) ∧ (F j).Perm (E j) ∧ (j < q + 1 → (F j).Pairwise fun x y => 0 ≤ tcmp x.x.c x.x.s x.x.q y.x.c y.x.s y.x.q)) := fun j hj => ⟨(HS.out j hj).1, (HS.out j hj).2.1, fun h => by
         by_cases e : j = q
         ·rw [e, hnil]
          exact List.Pairwise.nil
         ·exact (HS.out j hj).2.2 (by omega)⟩
        clear hv HS
        go_wp2_with fail
        refine (sortN_any p c _).mono ?_
        rintro e w1 ⟨rfl, rfl⟩
        go_wp2
        exact ⟨⟨q + 1, F, by omega, by go_num, HS2, HA, HQ, HB⟩, by simp [intOf]; omega⟩
       ·have hix := run_index6 V hq' _ hv
        have hbl : (V q).ownBlock = some g := by rw [hv]; rfl
        have hFl : (F q).length ≤ 2097152 := by
         have h1 := (HS.out q hq').2.1.length_eq
         have h2 := HL5.out q hq'
         omega
        have HH := Lib.hid hh
        have hb2 := HOB.out q hq' g hbl
        have HC := Lib.hid (sortW_any g (F q).length c (F q) wr rfl hFl hg HH.out)
        clear hv hh
        go_wp2_with fail
        refine HC.out.mono ?_
        rintro e w1 ⟨rfl, es', hp, hso, hh1, hgr⟩
        have HS2 : Hid (∀ j, j < 6 → RowS w1 (V j) (updF F q es' j) ∧ (updF F q es' j).Perm (E j) ∧ (j < q + 1 → (updF F q es' j).Pairwise fun x y => 0 ≤ tcmp x.x.c x.x.s x.x.q y.x.c y.x.s y.x.q)) := fun j hj => by
         by_cases e : j = q
         ·subst e
          rw [updF_at]
          refine ⟨?_, hp.trans (HS.out j hj).2.1, fun _ => hso⟩
          rcases (HS.out j hj).1 with ⟨h1, p, c', h2⟩ | ⟨g', c', h2, h0, h3, h4⟩
          ·refine .inl ⟨?_, p, c', h2⟩
           rw [h1] at hp
           exact List.Perm.eq_nil hp
          ·have hgg : g' = g := by
            rw [h2] at hbl
            simpa [Value.ownBlock] using hbl
           subst hgg
           exact .inr ⟨g', c', by rw [h2, hp.length_eq], by rw [hp.length_eq]; exact h0, Nat.lt_of_lt_of_le hg hgr.size, hh1⟩
         ·rw [updF_off _ _ e]
          exact ⟨(HS.out j hj).1.grown hgr fun b hb e2 => HAP.out j q hj hq' e b hb (by rw [hbl, e2]), (HS.out j hj).2.1, fun h => (HS.out j hj).2.2 (by omega)⟩
        have HA2 : Hid (SixA w1 (w.heap.size + 1) V) := ⟨Nat.lt_of_lt_of_le HA.out.lt hgr.size, HA.out.cells.of_block (hgr.block _ HA.out.lt (by simp; omega)), fun o => (frozen_of_block (hgr.block _ HA.out.lt (by simp; omega))).trans (HA.out.nf o), HA.out.off⟩
        have HQ2 : Hid (LBox w1 w.heap.size) := HQ.out.of_block hgr.size (hgr.block _ HQ.out.1 (by simp; omega))
        have HB2 : Hid (Below w.heap.size w w1) := HB.out.grown hgr HB.out.size fun b hb => by injection hb with hb; omega
        clear hp hso hh1 hgr HS HA HQ HB HC HH
        generalize updF F q es' = F2 at *
        go_wp2
        exact ⟨⟨q + 1, F2, by omega, by go_num, HS2, HA2, HQ2, HB2⟩, by simp [intOf]; omega⟩
      ·have hqq : q = 6 := by omega
       subst hqq
       have HF := Lib.hid (fun j (hj : j < 6) => (HS.out j hj).1.form)
       have c0 := HA.out.cells 0 (by omega)
       have c1 := HA.out.cells 1 (by omega)
       have c2 := HA.out.cells 2 (by omega)
       have c3 := HA.out.cells 3 (by omega)
       have c4 := HA.out.cells 4 (by omega)
       have c5 := HA.out.cells 5 (by omega)
       rw [HF.out 0 (by omega)] at c0
       rw [HF.out 1 (by omega)] at c1
       rw [HF.out 2 (by omega)] at c2
       rw [HF.out 3 (by omega)] at c3
       rw [HF.out 4 (by omega)] at c4
       rw [HF.out 5 (by omega)] at c5
       have r0 := HQ.out.2.1 0 (by omega)
       have r1 := HQ.out.2.1 1 (by omega)
       have r2 := HQ.out.2.1 2 (by omega)
       have r3 := HQ.out.2.1 3 (by omega)
       have r4 := HQ.out.2.1 4 (by omega)
       have r5 := HQ.out.2.1 5 (by omega)
       have rf := HQ.out.2.2
       have HPM : Hid (∀ j, j < 6 → ((F j).map (·.x)).Perm (startL us vs j)) := fun j hj => by
        rw [← HE5.out j hj]
        exact (HS.out j hj).2.1.map _
       have HSO : Hid (∀ j, j < 6 → ((F j).map (·.x)).Pairwise fun x y => 0 ≤ tcmp x.c x.s x.q y.c y.s y.q) := fun j hj => List.pairwise_map.2 ((HS.out j hj).2.2 hj)
       have HFD : Hid (∀ j, j < 6 → ∀ e ∈ F j, IsDeps w e.a e.x.xs ∧ e.x.xs.length ≤ 1048576) := fun j hj e he => HDP.out j hj e ((HS.out j hj).2.1.mem_iff.1 he)
       have HRS : Hid (∀ j, j < 6 → RowS wr (V j) (F j)) := fun j hj => (HS.out j hj).1
       clear HS HF HE5 HL5 HDP HAP
       go_wp2
       refine bodyPost_ret (v := .agg (six fun k => .slice (sP (V k)) (F k).length (sC (V k)))) (by simp [results, Tryz.results192, go_sem, r0, r1, r2, r3, r4, r5]) rfl ⟨fun k => sP (V k), fun k => sC (V k), fun k => (F k).map (·.x), by simp, fun q hq => ?_, ?_⟩
       ·have hG := grown_trans (grown_trans (grown_trans (grown_trans (grown_trans (grown_set wr w.heap.size 0 (.slice (sP (V 0)) (F 0).length (sC (V 0)))) (grown_set _ w.heap.size 1 (.slice (sP (V 1)) (F 1).length (sC (V 1))))) (grown_set _ w.heap.size 2 (.slice (sP (V 2)) (F 2).length (sC (V 2))))) (grown_set _ w.heap.size 3 (.slice (sP (V 3)) (F 3).length (sC (V 3))))) (grown_set _ w.heap.size 4 (.slice (sP (V 4)) (F 4).length (sC (V 4))))) (grown_set _ w.heap.size 5 (.slice (sP (V 5)) (F 5).length (sC (V 5))))
        have hb2 : Below w.heap.size w ((((((wr.setCell ⟨w.heap.size, 0, none⟩ (.slice (sP (V 0)) (F 0).length (sC (V 0)))).setCell ⟨w.heap.size, 1, none⟩ (.slice (sP (V 1)) (F 1).length (sC (V 1)))).setCell ⟨w.heap.size, 2, none⟩ (.slice (sP (V 2)) (F 2).length (sC (V 2)))).setCell ⟨w.heap.size, 3, none⟩ (.slice (sP (V 3)) (F 3).length (sC (V 3)))).setCell ⟨w.heap.size, 4, none⟩ (.slice (sP (V 4)) (F 4).length (sC (V 4)))).setCell ⟨w.heap.size, 5, none⟩ (.slice (sP (V 5)) (F 5).length (sC (V 5)))) := HB.out.grown hG HB.out.size fun b hb => by injection hb with hb; omega
        refine ⟨?_, by rw [List.length_map]; exact (HRS.out q hq).le, HPM.out q hq, HSO.out q hq⟩
        refine ((HRS.out q hq).grown hG fun b hb e => ?_).isWs fun e he => ⟨((HFD.out q hq e he).1).below hb2, (HFD.out q hq e he).2⟩
        have h1 := HOB.out q hq b hb
        injection e with e
        omega
       ·exact (((((HB.out.setCell (by simp) _).setCell (by simp) _).setCell (by simp) _).setCell (by simp) _).setCell (by simp) _).setCell (by simp) _
end Go.Proofs.YteladgfdedlmjaaGreatDoor
namespace Go.Proofs.YteladgfdedlmjaaGreatDoor
open Go.ChangeShapes Go.WideShapes Go.ChangeAt Go.RowKit Go.Joins
attribute [local go_sem ↓] Go.wp_at_zero Go.wp_at_succ
abbrev covV (c : Nat → Int) : Value := .agg #[.int .u64 (c 0), .int .u64 (c 1), .int .u64 (c 2), .int .u64 (c 3), .int .u64 (c 4), .int .u64 (c 5)]
abbrev covCells (c : Nat → Int) : Array Value := #[.int .u64 (c 0), .int .u64 (c 1), .int .u64 (c 2), .int .u64 (c 3), .int .u64 (c 4), .int .u64 (c 5)]
theorem covCells_at (c : Nat → Int) {k : Nat} (h : k < 6) : (covCells c)[k]? = some (.int .u64 (c k)) := by
 match k, h with
 | 0, _ => rfl
 | 1, _ => rfl
 | 2, _ => rfl
 | 3, _ => rfl
 | 4, _ => rfl
 | 5, _ => rfl
theorem chas_false {c : Nat → Int} {ds : List Dp} {k : Nat} (h : k < ds.length) (hk : c (ds.getD k dz).k.toNat < wrdD (ds.getD k dz)) : chas c ds = false := by
 cases hc : chas c ds
 ·rfl
 ·have := (chas_iff c ds).1 hc (ds.getD k dz) (by simp [List.getD, h])
  omega
theorem chas_true {c : Nat → Int} {ds : List Dp} {n : Nat} (hn : ds.length = n) (h : ∀ j, j < n → wrdD (ds.getD j dz) ≤ c (ds.getD j dz).k.toNat) : chas c ds = true := by
 rw [chas_iff]
 intro d hd
 obtain ⟨i, hi, rfl⟩ := List.mem_iff_getElem.1 hd
 have := h i (by rw [← hn]; exact hi)
 simpa [List.getD, hi] using this
set_option maxHeartbeats 4000000 in
theorem covHas_any (c : Nat → Int) (ad : Option Addr) (m cd : Nat) (ds : List Dp) (w : World) (hl : ds.length = m) (hml : m ≤ 1048576) (hd : IsDeps w ad ds) (hok : depsOkB ds = true) :
  Calls Tryz.prog 177 #[covV c, .slice ad m cd] w fun e w' => e = .returned (.bool (chas c ds)) ∧ Below w.heap.size w w' := by
 have HD : Hid (IsDeps w ad ds) := hd
 have HL : Hid (ds.length = m) := hl
 have HO : Hid (depsOkB ds = true) := hok
 clear hd hl hok
 have HB0 : Hid (Below w.heap.size w (w.alloc (.cells (covCells c) 211))) := (Below.refl _ _).alloc (Nat.le_refl _) _
 have HK0 : Hid (∀ k, k < 6 → (w.alloc (.cells (covCells c) 211)).cell? ⟨w.heap.size, k, none⟩ = some (.int .u64 (c k))) := fun k hk => by
  rw [cell_of_row _ _ k _ _ (0, 0) (heap_alloc_new w _)]
  exact covCells_at c hk
 go_enter Tryz.func177, Tryz.ntmps177
 go_wp2
 go_loopw [9] (fun i wr => ∃ k : Nat, k ≤ m ∧ i = .int .i64 k ∧ Hid (∀ j, j < k → wrdD (ds.getD j dz) ≤ c (ds.getD j dz).k.toNat) ∧ Hid (∀ k, k < 6 → wr.cell? ⟨w.heap.size, k, none⟩ = some (.int .u64 (c k))) ∧ Hid (w.heap.size < wr.heap.size) ∧ Hid (Below w.heap.size w wr)) (fun i _ => m - (intOf i).toNat)
 case atStart => exact ⟨0, Nat.zero_le _, rfl, fun j hj => absurd hj (Nat.not_lt_zero j), HK0, by simp [Hid], HB0⟩
 case round =>
  clear HK0 HB0
  obtain ⟨k, hk, rfl, HK, HC, hzc, HB⟩ := hrel
  replace hzc := hzc.out
  by_cases hk' : k < m
  ·have hkd : k < ds.length := by rw [HL.out]; exact hk'
   obtain ⟨b, o, rfl, hz, e0, e1, e2, e3⟩ := HD.out.at HB.out hkd
   have i1 : (0 : Int) ≤ (k : Int) := by omega
   have i2 : (k : Int) < (m : Int) := by omega
   have hmem : ds.getD k dz ∈ ds := by simp [List.getD, hkd]
   obtain ⟨⟨k0, k5⟩, ht⟩ := depsOk_each HO.out hmem
   have HK1 : Hid (wrdD (ds.getD k dz) ≤ c (ds.getD k dz).k.toNat → ∀ j, j < k + 1 → wrdD (ds.getD j dz) ≤ c (ds.getD j dz).k.toNat) := fun h1 => upto_next HK.out h1
   have HF1 : Hid (c (ds.getD k dz).k.toNat < wrdD (ds.getD k dz) → chas c ds = false) := fun h1 => chas_false hkd h1
   have HT := Lib.hid ht
   clear HD HK ht hmem
   generalize ds.getD k dz = d at *
   obtain ⟨dk, dc, dd, dq⟩ := d
   simp only [wrdD] at e0 e1 e2 e3 HK1 HF1 HT k0 k5
   obtain ⟨j, rfl⟩ : ∃ j : Nat, dk = (j : Int) := ⟨dk.toNat, by omega⟩
   rw [Int.toNat_natCast] at HK1 HF1
   have hj : j < 6 := by omega
   have hcj := HC.out j hj
   have j6 : (j : Int) < 6 := by omega
   go_wp2_with fail
   have HBX : Hid (Below wr.heap.size wr (wr.alloc (.cells #[.int .i64 (j : Int), .int .i64 dc, .int .i64 dd, .int .i64 dq] 85))) := (Below.refl _ _).alloc (Nat.le_refl _) _
   have x0 : (wr.alloc (.cells #[.int .i64 (j : Int), .int .i64 dc, .int .i64 dd, .int .i64 dq] 85)).cell? ⟨wr.heap.size, 0, none⟩ = some (.int .i64 (j : Int)) := by simp [go_sem]
   have x1 : (wr.alloc (.cells #[.int .i64 (j : Int), .int .i64 dc, .int .i64 dd, .int .i64 dq] 85)).cell? ⟨wr.heap.size, 1, none⟩ = some (.int .i64 dc) := by simp [go_sem]
   have x2 : (wr.alloc (.cells #[.int .i64 (j : Int), .int .i64 dc, .int .i64 dd, .int .i64 dq] 85)).cell? ⟨wr.heap.size, 2, none⟩ = some (.int .i64 dd) := by simp [go_sem]
   have x3 : (wr.alloc (.cells #[.int .i64 (j : Int), .int .i64 dc, .int .i64 dd, .int .i64 dq] 85)).cell? ⟨wr.heap.size, 3, none⟩ = some (.int .i64 dq) := by simp [go_sem]
   have hcx := held_cell HBX.out hcj hzc
   have hzx : wr.heap.size < (wr.alloc (.cells #[.int .i64 (j : Int), .int .i64 dc, .int .i64 dd, .int .i64 dq] 85)).heap.size := by simp
   have hzy : w.heap.size < (wr.alloc (.cells #[.int .i64 (j : Int), .int .i64 dc, .int .i64 dd, .int .i64 dq] 85)).heap.size := Nat.lt_trans hzc hzx
   have HBW := Lib.hid (below_step HB.out HB.out.size HBX.out)
   have HCW : Hid (∀ k, k < 6 → (wr.alloc (.cells #[.int .i64 (j : Int), .int .i64 dc, .int .i64 dd, .int .i64 dq] 85)).cell? ⟨w.heap.size, k, none⟩ = some (.int .u64 (c k))) := fun k hk => held_cell HBX.out (HC.out k hk) hzc
   clear e0 e1 e2 e3 hcj HC HBX HB
   generalize wr.alloc (.cells #[.int .i64 (j : Int), .int .i64 dc, .int .i64 dd, .int .i64 dq] 85) = wx at *
   have gx0 := aft_cell hzx x0
   have gx1 := aft_cell hzx x1
   have gx2 := aft_cell hzx x2
   have gx3 := aft_cell hzx x3
   have gcx := aft_cell hzy hcx
   have ne := aft_some wx
   refine wp_region_aft (by kernel_rfl) (by kernel_rfl) ?_
   repeat (first | go_big_quiet_step (first | (go_at_call 105; exact aft_of (tagWord_any _ _ _ _ HT.out))))
   refine wpQuiet_nil ?_
   intro wq hq
   have HBQ : Hid (Below w.heap.size w wq) := below_step HBW.out HBW.out.size hq
   have HCQ : Hid (∀ k, k < 6 → wq.cell? ⟨w.heap.size, k, none⟩ = some (.int .u64 (c k))) := fun k hk => held_cell hq (HCW.out k hk) hzy
   have hzq : Hid (w.heap.size < wq.heap.size) := Nat.lt_of_lt_of_le hzy hq.size
   clear hq gx0 gx1 gx2 gx3 gcx ne HCW HBW
   by_cases hc : c j < dc * 4096 + dd * 1024 + dq
   ·have HF := Lib.hid (HF1.out hc)
    clear HF1 HK1
    go_wp2
    go_ret
    exact ⟨ret_bool HF.out.symm, HBQ.out⟩
   ·have HK2 := Lib.hid (HK1.out (Int.not_lt.1 hc))
    clear HF1 HK1
    go_wp2
    exact ⟨⟨k + 1, by omega, by go_num, HK2, HCQ, hzq, HBQ⟩, by simp [intOf]; omega⟩
  ·have hkk : k = m := by omega
   subst hkk
   have HF : Hid (chas c ds = true) := chas_true HL.out HK.out
   go_wp2
   go_ret
   exact ⟨ret_bool HF.out.symm, HB.out⟩
set_option maxHeartbeats 2000000 in
theorem firstWord_any (a : Option Addr) (n cap : Nat) (ws : List Wr) (w : World) (hn : ws.length = n) (hh : IsWs w a ws) (hok : ∀ x ∈ ws, tagOkB x.c x.s x.q = true) :
  Calls Tryz.prog 193 #[.slice a n cap] w fun e w' => e = .returned (.int .u64 (headW ws)) ∧ Below w.heap.size w w' := by
 cases ws with
 | nil =>
  simp only [List.length_nil] at hn
  subst hn
  clear hh hok
  go_enter Tryz.func193, Tryz.ntmps193
  go_wp2
  go_ret
  exact ⟨rfl, Below.refl _ _⟩
 | cons x r =>
  have hk : 0 < n := by rw [← hn]; simp
  obtain ⟨b, o, ad, cp, rfl, hz, ⟨e0, e1, e2, e3, e4, e5, e6⟩, -⟩ := hh.at (Below.refl _ _) hn hk
  have HT := Lib.hid (hok x List.mem_cons_self)
  have hn0 : ¬ (n : Int) = 0 := by omega
  have hn1 : (0 : Int) < n := by omega
  clear hh hok hn
  simp only [List.getD_cons_zero] at e0 e1 e2 e3 e4 e5 e6
  have he : headW (x :: r) = x.c * 4096 + x.s * 1024 + x.q := rfl
  rw [he]
  obtain ⟨xk, xc, xs', xq, xv, xd, xx⟩ := x
  simp only [Nat.zero_mul, Nat.add_zero] at e0 e1 e2 e3 e4 e5 e6 HT ⊢
  clear e0 e4 e5 e6
  go_enter Tryz.func193, Tryz.ntmps193
  go_wp2_with fail
  refine (tagWord_any _ _ _ _ HT.out).mono ?_
  rintro e w1 ⟨rfl, hb⟩
  have HB := Lib.hid hb
  clear hb
  go_wp2
  go_ret
  exact ⟨rfl, HB.out⟩
end Go.Proofs.YteladgfdedlmjaaGreatDoor
namespace Go.Proofs.YteladgfdedlmjaaGreatDoor
open Go.ChangeShapes Go.WideShapes Go.ChangeAt Go.RowKit Go.Joins
attribute [local go_sem ↓] Go.wp_at_zero Go.wp_at_succ
def lenC (w : World) (b k : Nat) : Nat := match w.cell? ⟨b, k, none⟩ with
 | some (.slice _ n _) => n
 | _ => 0
def lenSum (w : World) (b : Nat) : Nat := lenC w b 0 + lenC w b 1 + lenC w b 2 + lenC w b 3 + lenC w b 4 + lenC w b 5
def sl6 (P : Nat → Option Addr) (C : Nat → Nat) (L : Nat → List Wr) : Nat → Value := fun k => .slice (P k) (L k).length (C k)
theorem lenSum_eq {w : World} {b : Nat} {P : Nat → Option Addr} {C : Nat → Nat} {L : Nat → List Wr} (h : CellsAre w b 6 (sl6 P C L)) : lenSum w b = (L 0).length + (L 1).length + (L 2).length + (L 3).length + (L 4).length + (L 5).length := by
 have c : ∀ k, k < 6 → lenC w b k = (L k).length := fun k hk => by
  unfold lenC
  rw [h k hk]
  rfl
 unfold lenSum
 rw [c 0 (by omega), c 1 (by omega), c 2 (by omega), c 3 (by omega), c 4 (by omega), c 5 (by omega)]
theorem lenSum_less {L L' : Nat → List Wr} {q : Nat} (hq : q < 6) (h : (L' q).length < (L q).length) (ho : ∀ k, k ≠ q → L' k = L k) : (L' 0).length + (L' 1).length + (L' 2).length + (L' 3).length + (L' 4).length + (L' 5).length < (L 0).length + (L 1).length + (L 2).length + (L 3).length + (L 4).length + (L 5).length := by
 match q, hq with
 | 0, _ => rw [ho 1 (by omega), ho 2 (by omega), ho 3 (by omega), ho 4 (by omega), ho 5 (by omega)]; omega
 | 1, _ => rw [ho 0 (by omega), ho 2 (by omega), ho 3 (by omega), ho 4 (by omega), ho 5 (by omega)]; omega
 | 2, _ => rw [ho 1 (by omega), ho 0 (by omega), ho 3 (by omega), ho 4 (by omega), ho 5 (by omega)]; omega
 | 3, _ => rw [ho 1 (by omega), ho 2 (by omega), ho 0 (by omega), ho 4 (by omega), ho 5 (by omega)]; omega
 | 4, _ => rw [ho 1 (by omega), ho 2 (by omega), ho 3 (by omega), ho 0 (by omega), ho 5 (by omega)]; omega
 | 5, _ => rw [ho 1 (by omega), ho 2 (by omega), ho 3 (by omega), ho 4 (by omega), ho 0 (by omega)]; omega
structure Box6 (w : World) (B : Nat) (V : Nat → Value) : Prop where
 lt : B < w.heap.size
 cells : CellsAre w B 6 V
 nf : ∀ o, w.frozen? ⟨B, o, none⟩ = false
theorem Box6.of_block {w w' : World} {B : Nat} {V : Nat → Value} (h : Box6 w B V) (hs : w.heap.size ≤ w'.heap.size) (hb : w'.heap[B]? = w.heap[B]?) : Box6 w' B V :=
 ⟨Nat.lt_of_lt_of_le h.lt hs, h.cells.of_block hb, fun o => (frozen_of_block hb).trans (h.nf o)⟩
theorem Box6.below {w w' : World} {B : Nat} {V : Nat → Value} (h : Box6 w B V) (hb : Below w.heap.size w w') : Box6 w' B V := h.of_block hb.size (hb.block B h.lt)
theorem Box6.set {w : World} {B k : Nat} {V : Nat → Value} (h : Box6 w B V) (hk : k < 6) (v : Value) : Box6 (w.setCell ⟨B, k, none⟩ v) B (updF V k v) :=
 ⟨by simpa using h.lt, h.cells.set hk v, fun o => by rw [World.frozen?_setCell]; exact h.nf o⟩
theorem Box6.other {w : World} {B : Nat} {V : Nat → Value} (h : Box6 w B V) {B' : Nat} (hne : B' ≠ B) (k : Nat) (v : Value) : Box6 (w.setCell ⟨B', k, none⟩ v) B V :=
 h.of_block (by simp) ((grown_set w B' k v).block B h.lt (by simpa using Ne.symm hne))
theorem Box6.congr {w : World} {B : Nat} {V V' : Nat → Value} (h : Box6 w B V) (he : ∀ k, k < 6 → V k = V' k) : Box6 w B V' := ⟨h.lt, h.cells.congr he, h.nf⟩
theorem box6_new (w : World) (t : TypeId) (V : Nat → Value) (o : Obj) (ho : o = .cells (six V) t) : Box6 (w.alloc o) w.heap.size V := by
 subst ho
 refine ⟨by simp, fun k hk => ?_, fun o => frozen_of_row _ _ o _ _ (heap_alloc_new w _)⟩
 rw [cell_of_row _ _ k _ _ (0, 0) (heap_alloc_new w _)]
 exact six_at V hk
def zeroU : Nat → Value := fun _ => .int .u64 0
def covU (c : Nat → Int) : Nat → Value := fun k => .int .u64 (c k)
def Settled (L : Nat → List Wr) (q : Nat) : Prop := ∀ k x t, k < q → L k = x :: t → chas (tops L) x.xs = true
theorem settled_next {L : Nat → List Wr} {q : Nat} (h : Settled L q) (hq : ∀ x t, L q = x :: t → chas (tops L) x.xs = true) : Settled L (q + 1) := fun k x t hk hl => by
 by_cases e : k = q
 ·subst e
  exact hq x t hl
 ·exact h k x t (by omega) hl
def tailL (L : Nat → List Wr) (q : Nat) (t : List Wr) : Nat → List Wr := fun i => if i = q then t else L i
theorem isWs_tail {w : World} {b o c : Nat} {x : Wr} {t : List Wr} (h : IsWs w (some ⟨b, o, none⟩) (x :: t)) (hc : (x :: t).length ≤ c) : IsWs w (if c = 1 then some ⟨b, o, none⟩ else some ⟨b, o + 7, none⟩) t := by
 by_cases e : c = 1
 ·have : t = [] := by
   simp at hc
   exact List.length_eq_zero_iff.1 (by omega)
  exact .inl this
 ·rw [if_neg e]
  rcases h with h | ⟨b', o', ha, hlt, hh⟩
  ·cases h
  ·injection ha with ha
   injection ha with h1 h2
   subst h1 h2
   refine .inr ⟨b, o + 7, rfl, hlt, fun i hi => ?_⟩
   have := hh (i + 1) (by simp; omega)
   rw [show o + (i + 1) * 7 = o + 7 + i * 7 by omega] at this
   simpa using this
structure Rest (w1 w : World) (LB CB n : Nat) (us vs : List Wr) (P : Nat → Option Addr) (C : Nat → Nat) (L : Nat → List Wr) : Prop where
 rows : Rows6 us vs L
 ws : ∀ k, k < 6 → IsWs w1 (P k) (L k)
 le : ∀ k, k < 6 → (L k).length ≤ C k
 few : ∀ k, k < 6 → ∀ x ∈ L k, x.xs.length ≤ 1048576 ∧ tagOkB x.c x.s x.q = true ∧ depsOkB x.xs = true
 lb : Box6 w LB (sl6 P C L)
 cb : Box6 w CB (covU (tops L))
 keep : Below w1.heap.size w1 w
theorem Rest.below {w1 w w' : World} {LB CB n : Nat} {us vs : List Wr} {P : Nat → Option Addr} {C : Nat → Nat} {L : Nat → List Wr} (h : Rest w1 w LB CB n us vs P C L) (hb : Below w.heap.size w w') : Rest w1 w' LB CB n us vs P C L where
 rows := h.rows
 ws := h.ws
 le := h.le
 few := h.few
 lb := h.lb.below hb
 cb := h.cb.below hb
 keep := below_step h.keep h.keep.size hb
theorem Rest.step {w1 w w2 : World} {LB CB n q b o : Nat} {us vs : List Wr} {P : Nat → Option Addr} {C : Nat → Nat} {L : Nat → List Wr} {x : Wr} {t : List Wr} {pa : Option Addr} {c' : Nat} (hr : Rise us) (hu : ∀ x ∈ us, okW x = true) (hv : ∀ x ∈ vs, okW x = true) (h : Rest w1 w LB CB n us vs P C L) (hq : q < 6) (hP : P q = some ⟨b, o, none⟩) (hl : L q = x :: t) (hc : chas (tops L) x.xs = false) (hpa : pa = if C q = 1 then some ⟨b, o, none⟩ else some ⟨b, o + 7, none⟩) (hc' : c' = C q - 1)
  (hb : Below (w.setCell ⟨LB, q, none⟩ (.slice pa t.length c')).heap.size (w.setCell ⟨LB, q, none⟩ (.slice pa t.length c')) w2) (h1 : w1.heap.size ≤ LB) (h2 : w1.heap.size ≤ CB) (h3 : LB ≠ CB) :
  Rest w1 (w2.setCell ⟨CB, q, none⟩ (.int .u64 (headW t))) LB CB n us vs (updF P q pa) (updF C q c') (tailL L q t) := by
 have hlt := h.lb.set hq (.slice pa t.length c')
 have hct := h.cb.other h3 q (.slice pa t.length c')
 have hle := h.le q hq
 have htop : ∀ k, tops (tailL L q t) k = if k = q then headW t else tops L k := fun k => by
  unfold tops tailL
  by_cases e : k = q
  ·rw [if_pos e, if_pos e]
  ·rw [if_neg e, if_neg e]
 refine ⟨h.rows.step hr hu hv hl hc, fun k hk => ?_, fun k hk => ?_, fun k hk y hy => ?_, ?_, ?_, ?_⟩
 ·unfold tailL
  by_cases e : k = q
  ·subst e
   rw [updF_at, if_pos rfl]
   have := h.ws k hk
   rw [hP, hl] at this
   rw [hl] at hle
   rw [hpa]
   exact isWs_tail this hle
  ·rw [updF_off _ _ e, if_neg e]
   exact h.ws k hk
 ·unfold tailL
  by_cases e : k = q
  ·subst e
   rw [updF_at, if_pos rfl]
   rw [hl] at hle
   simp at hle
   omega
  ·rw [updF_off _ _ e, if_neg e]
   exact h.le k hk
 ·unfold tailL at hy
  by_cases e : k = q
  ·subst e
   rw [if_pos rfl] at hy
   exact h.few k hk y (by rw [hl]; exact List.mem_cons_of_mem _ hy)
  ·rw [if_neg e] at hy
   exact h.few k hk y hy
 ·refine ((hlt.below hb).other (Ne.symm h3) q _).congr fun k hk => ?_
  unfold sl6 tailL
  by_cases e : k = q
  ·subst e
   rw [updF_at, updF_at, updF_at, if_pos rfl]
  ·rw [updF_off _ _ e, updF_off _ _ e, updF_off _ _ e, if_neg e]
 ·refine ((hct.below hb).set hq _).congr fun k hk => ?_
  unfold covU
  rw [htop k]
  by_cases e : k = q
  ·subst e
   rw [updF_at, if_pos rfl]
  ·rw [updF_off _ _ e, if_neg e]
 ·exact (below_step (h.keep.setCell (p := ⟨LB, q, none⟩) h1 _) (h.keep.setCell (p := ⟨LB, q, none⟩) h1 _).size hb).setCell (p := ⟨CB, q, none⟩) h2 _
end Go.Proofs.YteladgfdedlmjaaGreatDoor
