/- The contract of impl.Prefer. -/
import Derived.Test.YtofejfmfbifphacDoorNodesIt
import Derived.Maps.OwnIn
import Derived.Maps.OwnSet
import Derived.Maps.AppendAt
namespace Go.Proofs.YtofejfmfbifphacDoor
open Go.ChangeShapes Go.WideShapes Go.ChangeAt Go.RowKit Go.Joins Go.Shelf
attribute [local go_sem] Oper.semAt_some

set_option maxRecDepth 100000 in
set_option maxHeartbeats 2000000 in
theorem placeFrom_any (a : Option Addr) (n cap : Nat) (ps : List Pt) (h : Int) (w : World) (hn : ps.length = n) (hm : n ≤ 1048576) (hh : IsPts w a ps) :
    Calls Tryd.prog 28 #[.slice a n cap, .int .i64 h] w fun e w' => e = .returned (.int .i64 (placeI ps h : Nat)) ∧ Below w.heap.size w w' := by
  have HH : Hid (IsPts w a ps) := hh
  have HN : Hid (ps.length = n) := hn
  clear hh hn
  go_enter Tryd.func28, Tryd.ntmps28
  go_wp2
  go_loopw [9] (fun i wr => ∃ k : Nat, k ≤ n ∧ i = .int .i64 k ∧ Hid (∀ j, j < k → (ps.getD j pz).t < h) ∧ Hid (Below w.heap.size w wr)) (fun i _ => n - (intOf i).toNat)
  case atStart => exact ⟨0, Nat.zero_le _, rfl, fun j hj => by omega, Below.refl _ _⟩
  case round =>
    obtain ⟨k, hk, rfl, HG, HB⟩ := hrel
    by_cases hk' : k < n
    · obtain ⟨b, o, rfl, hz, e0, e1⟩ := HH.out.at HB.out (show k < ps.length by rw [HN.out]; exact hk')
      have i1 : (0 : Int) ≤ (k : Int) := by omega
      have i2 : (k : Int) < (n : Int) := by omega
      by_cases hlt : (ps.getD k pz).t < h
      · have HG2 : Hid (∀ j, j < k + 1 → (ps.getD j pz).t < h) := fun j hj => by
          by_cases h' : j < k
          · exact HG.out j h'
          · have : j = k := by omega
            rw [this]
            exact hlt
        clear HH
        generalize (ps.getD k pz).t = x at *
        generalize (ps.getD k pz).n = y at *
        go_wp2
        exact ⟨⟨k + 1, by omega, by go_num, HG2, HB.out.alloc HB.out.size _⟩, by simp [intOf]; omega⟩
      · have HF : Hid (placeI ps h = k) := by
          have e : firstS ps h = k := firstS_is ps h k (by rw [HN.out]; exact hk) HG.out (fun _ => by omega)
          unfold placeI
          rw [e, if_pos (by rw [HN.out]; exact hk')]
          exact Lib.hid rfl
        clear HH
        generalize (ps.getD k pz).t = x at *
        generalize (ps.getD k pz).n = y at *
        go_wp2
        go_ret
        exact ⟨by rw [HF.out]; rfl, HB.out.alloc HB.out.size _⟩
    · have hkk : k = n := by omega
      subst hkk
      have HF : Hid (placeI ps h = 0) := by
        have e : firstS ps h = k := firstS_is ps h k (by rw [HN.out]; exact hk) HG.out (fun h' => by rw [HN.out] at h'; omega)
        unfold placeI
        rw [e, if_neg (by rw [HN.out]; omega)]
        exact Lib.hid rfl
      go_wp2
      go_ret
      exact ⟨by rw [HF.out]; rfl, HB.out⟩

set_option maxRecDepth 100000 in
set_option maxHeartbeats 1000000 in
theorem nodesFrom_any (a : Option Addr) (n cap : Nat) (st : Int) (w : World) :
    Calls Tryd.prog 27 #[.slice a n cap, .int .i64 st] w fun e w' => e = .returned (.func (.func 36) #[] #[.pointer (some ⟨w.heap.size, 0, none⟩), .pointer (some ⟨w.heap.size + 1, 0, none⟩)]) ∧ w' = (w.alloc (.cells #[.slice a n cap] 27)).alloc (.cells #[.int .i64 st] 3) := by
  go_enter Tryd.func27, Tryd.ntmps27
  go_wp2
  go_ret
  exact ⟨rfl, rfl⟩

set_option maxRecDepth 100000 in
theorem unit_zero (w : World) : (zeroValue 57).run Tryd.prog w = .ok (.agg #[]) w := by kernel_rfl

/-- What has been told, as a set. -/
def SetIs (W : World) (b : Nat) (out : List Int) : Prop := ∃ (c : Nat) (D : DataW Value), c ≤ out.length ∧ W.ownsMap Tryd.prog 3 unitElem b c D ∧ ∀ x : I64, Maps.has D (.int .i64 x.1) = decide (x.1 ∈ out)

set_option maxRecDepth 100000 in
theorem row_ne {W : World} {base : Nat} {e : TypeId} {size : Nat} {v : Value} {k : Nat} {xs : List Value} (h : W.ownsRow base e size v k xs) {b : Nat} (hb : b < base) : some b ≠ v.ownBlock := fun e' => by
  have := (World.ownsRow.lt h b e'.symm).1
  omega

set_option maxRecDepth 100000 in
theorem row_keeps {W W' : World} {base B : Nat} {e : TypeId} {size : Nat} {v : Value} {k : Nat} {xs : List Value} (h : W.ownsRow base e size v k xs) (hg : W.grownBy W' v.ownBlock) : KeepsFrom B W W' :=
  (KeepsOthers.of_grownBy hg fun j o ej hj => by
    rcases h.2 with ⟨rfl, _⟩ | ⟨g, cap, cur, rfl, _, hgb, _⟩
    · simp [Value.ownBlock] at ej
    · obtain rfl : g = j := by simpa [Value.ownBlock] using ej
      rw [hgb] at hj
      cases hj
      rfl).from B

set_option maxRecDepth 100000 in
theorem SetIs.kept {W W' : World} {row : Option Nat} {b : Nat} {out : List Int} (h : SetIs W b out) (hg : W.grownBy W' row) (hne : some b ≠ row) : SetIs W' b out := by
  obtain ⟨c, D, hc, ho, hh⟩ := h
  exact ⟨c, D, hc, ho.kept hg hne, hh⟩

set_option maxRecDepth 100000 in
theorem set_put {D : DataW Value} {out : List Int} (hD : Maps.IsMap D) (hh : ∀ x : I64, Maps.has D (.int .i64 x.1) = decide (x.1 ∈ out)) (x : I64) (d : DataW Value) : ∀ y : I64, Maps.has (D.put (.int .i64 x.1) d) (.int .i64 y.1) = decide (y.1 ∈ out ++ [x.1]) := fun y => by
  by_cases e : y.1 = x.1
  · rw [e, Maps.has_put_same hD ((Maps.int_keyed Tryd.underlying3).key (Maps.keyOf_int_mk Tryd.underlying3 x.2)), decide_eq_true (by simp)]
  · rw [Maps.has_put_other (fun h => e (by injection h)), hh y]
    simp [e]

def outOf (m : Int) (pre : List I64) : List Int := preferL (pre.map fun x : I64 => x.1) m

set_option maxRecDepth 100000 in
theorem outOf_snoc (m : Int) (pre : List I64) (x : I64) : outOf m (pre ++ [x]) = prefStep m (outOf m pre) x.1 := by
  unfold outOf preferL
  rw [List.map_append, List.foldl_append]
  rfl

set_option maxRecDepth 100000 in
theorem outOf_full {m : Int} {pre xs : List I64} (hp : pre <+: xs) (h : m ≤ ((outOf m pre).length : Int)) : outOf m xs = outOf m pre := by
  obtain ⟨r, rfl⟩ := hp
  unfold outOf preferL at h ⊢
  rw [List.map_append, List.foldl_append]
  exact prefer_full _ _ h

set_option maxRecDepth 100000 in
theorem outOf_len (m : Int) (pre : List I64) : (outOf m pre).length ≤ pre.length := by
  have h := prefer_len (pre.map fun x : I64 => x.1) m pre.length
  rw [List.take_of_length_le (by simp)] at h
  exact h

/-- What the loop of impl.Prefer holds between two rounds. -/
structure PrefInv (w : World) (m : Int) (N : Nat) (W : World) (out : List Int) : Prop where
  row : ∃ v, Boxed W (w.heap.size + 1) 24 v ∧ W.ownsRow N 3 1 v out.length (out.map intV)
  most : Boxed W w.heap.size 3 (.int .i64 m)
  told : Boxed W (w.heap.size + 1 + 1 + 1) 52 (.map (some (w.heap.size + 1 + 1)))
  set : SetIs W (w.heap.size + 1 + 1) out
  below : Below w.heap.size w W
  size : N ≤ W.heap.size

set_option maxRecDepth 100000 in
theorem PrefInv.kept {w : World} {m : Int} {N : Nat} (hN : w.heap.size + 4 ≤ N) {W W' : World} {out : List Int} {row : Option Nat} (h : PrefInv w m N W out) (hg : W.grownBy W' row) (hr : ∀ r, row = some r → N ≤ r ∧ ∃ o : Obj, W.heap[r]? = some o ∧ o.isCells = false) : PrefInv w m N W' out where
  row := by
    obtain ⟨v, hv, ho⟩ := h.row
    obtain ⟨v, hv, ho, _⟩ := holdsRow_own (β := Unit) N (w.heap.size + 1) 24 3 1 (fun _ => out.length) (fun _ => out.map intV) (fun _ _ => True) () W W' row ⟨v, hv, ho, trivial⟩ hg (fun r e => (hr r e).2)
    exact ⟨v, hv, ho⟩
  most := h.most.kept hg (fun e => by have := (hr _ e.symm).1; omega)
  told := h.told.kept hg (fun e => by have := (hr _ e.symm).1; omega)
  set := h.set.kept hg (fun e => by have := (hr _ e.symm).1; omega)
  below := h.below.grown hg h.below.size (fun k e => by have := (hr _ e).1; omega)
  size := Nat.le_trans h.size hg.size

set_option maxRecDepth 100000 in
set_option maxHeartbeats 4000000 in
theorem implPrefer_any (a : Option Addr) (n cap : Nat) (ps : List Pt) (s : ByteArray) (m : Int) (w : World) (hn : ps.length = n) (hm : n ≤ 1048576) (hs : s.size ≤ 9223372036854775807) (hrg : ∀ i, i < ps.length → Rng64 (ps.getD i pz).n) (hh : IsPts w a ps) :
    Calls Tryd.prog 9 #[.slice a n cap, .string s, .int .i64 m] w fun e w' => ∃ v, e = .returned v ∧ RowI w' w.heap.size v (preferL (seqN ps (firstS ps (hashL s.data.toList))) m) ∧ Below w.heap.size w w' := by
  refine (callsIn_wide (n := 5)).1 ?_
  obtain ⟨i0, hi, hz0, hz1, hz2⟩ := info_parts infoInt
  have hmm := @run_makeMap Tryd.prog
  refine callsIn_of_wp_marks Tryd.func9 rfl trivial ?_ rfl
  simp only [Tryd.ntmps9, List.size_toArray, List.length_cons, List.length_nil, Nat.reduceAdd, Nat.reduceSub, Array.replicate_succ, Array.replicate_zero, List.push_toArray, List.append_toArray, List.nil_append, List.cons_append]
  have HH : Hid (IsPts w a ps) := hh
  have HN : Hid (ps.length = n) := hn
  clear hh hn
  gi_wp2
  refine ⟨trivial, ?_⟩
  refine (callsIn_wide.2 (implHash_any s _ hs)).mono ?_
  rintro e w' ⟨rfl, rfl⟩
  obtain ⟨h, hhs⟩ : ∃ h, hashL s.data.toList = h := ⟨_, rfl⟩
  have HHS := Lib.hid hhs
  rw [hhs]
  clear hhs
  have hm0 := World.ownsMap_made ((w.alloc (.cells #[.int .i64 m] 3)).alloc (.cells #[.slice none 0 0] 24)) Tryd.prog 3 (unitElem (H := Value))
  have hm1 := hm0.alloc (.cells #[.map (some (w.heap.size + 1 + 1))] 52)
  have bN := ((Boxed.new w 3 (.int .i64 m)).alloc (.cells #[.slice none 0 0] 24)).alloc (.map #[] 0) |>.alloc (.cells #[.map (some (w.heap.size + 1 + 1))] 52)
  have bO := ((Boxed.new (w.alloc (.cells #[.int .i64 m] 3)) 24 (.slice none 0 0)).alloc (.map #[] 0)).alloc (.cells #[.map (some (w.heap.size + 1 + 1))] 52)
  have bT := Boxed.new (((w.alloc (.cells #[.int .i64 m] 3)).alloc (.cells #[.slice none 0 0] 24)).alloc (.map #[] 0)) 52 (.map (some (w.heap.size + 1 + 1)))
  have hB4 : Below w.heap.size w ((((w.alloc (.cells #[.int .i64 m] 3)).alloc (.cells #[.slice none 0 0] 24)).alloc (.map #[] 0)).alloc (.cells #[.map (some (w.heap.size + 1 + 1))] 52)) := ((((Below.refl _ w).alloc (Nat.le_refl _) _).alloc (by simp) _).alloc (by simp; omega) _).alloc (by simp; omega) _
  simp only [World.size_alloc] at hm1 bN bO bT
  have hs4 : ((((w.alloc (.cells #[.int .i64 m] 3)).alloc (.cells #[.slice none 0 0] 24)).alloc (.map #[] 0)).alloc (.cells #[.map (some (w.heap.size + 1 + 1))] 52)).heap.size = w.heap.size + 4 := by simp
  obtain ⟨W4, hW4⟩ : ∃ W4, (((w.alloc (.cells #[.int .i64 m] 3)).alloc (.cells #[.slice none 0 0] 24)).alloc (.map #[] 0)).alloc (.cells #[.map (some (w.heap.size + 1 + 1))] 52) = W4 := ⟨_, rfl⟩
  rw [hW4] at hm1 bN bO bT hB4 hs4 ⊢
  clear hW4 hm0
  gi_wp2
  refine ⟨trivial, ?_⟩
  refine (callsIn_wide.2 (placeFrom_any a n cap ps h _ HN.out hm (HH.out.below hB4))).mono ?_
  rintro e W5 ⟨rfl, hb5⟩
  have hst : placeI ps h ≤ 1048576 := by
    have := firstS_le ps h
    have := HN.out
    unfold placeI
    split <;> omega
  have hrg' := told64_of hrg (placeI ps h)
  have HSQ : Hid (seqN ps (firstS ps h) = seqN ps (placeI ps h)) := (seqN_place ps h).symm
  generalize placeI ps h = st at *
  obtain ⟨xs, hxs⟩ := hrg'
  gi_wp2
  refine ⟨trivial, ?_⟩
  refine (callsIn_wide.2 (nodesFrom_any a n cap st _)).mono ?_
  rintro e w' ⟨rfl, rfl⟩
  have hB5 : Below w.heap.size w W5 := below_step hB4 hB4.size hb5
  have hm5 := hm1.kept (row := none) ⟨hb5.os, hb5.tape, hb5.output, hb5.size, fun k hk _ => hb5.block k hk⟩ (by simp)
  have bN5 : Boxed W5 w.heap.size 3 (.int .i64 m) := (hb5.block _ bN.lt).trans bN
  have bO5 : Boxed W5 (w.heap.size + 1) 24 (.slice none 0 0) := (hb5.block _ bO.lt).trans bO
  have bT5 : Boxed W5 (w.heap.size + 1 + 1 + 1) 52 (.map (some (w.heap.size + 1 + 1))) := (hb5.block _ bT.lt).trans bT
  have hs5 : w.heap.size + 4 ≤ W5.heap.size := by rw [← hs4]; exact hb5.size
  have bR := (Boxed.new W5 27 (.slice a n cap)).alloc (.cells #[.int .i64 (st : Int)] 3)
  have bS := Boxed.new (W5.alloc (.cells #[.slice a n cap] 27)) 3 (.int .i64 (st : Int))
  have hB6 : Below w.heap.size w ((W5.alloc (.cells #[.slice a n cap] 27)).alloc (.cells #[.int .i64 (st : Int)] 3)) := (hB5.alloc (by omega) _).alloc (by simp; omega) _
  have bN6 := (bN5.alloc (.cells #[.slice a n cap] 27)).alloc (.cells #[.int .i64 (st : Int)] 3)
  have bO6 := (bO5.alloc (.cells #[.slice a n cap] 27)).alloc (.cells #[.int .i64 (st : Int)] 3)
  have bT6 := (bT5.alloc (.cells #[.slice a n cap] 27)).alloc (.cells #[.int .i64 (st : Int)] 3)
  have hm6 := (hm5.alloc (.cells #[.slice a n cap] 27)).alloc (.cells #[.int .i64 (st : Int)] 3)
  have hs6 : ((W5.alloc (.cells #[.slice a n cap] 27)).alloc (.cells #[.int .i64 (st : Int)] 3)).heap.size = W5.heap.size + 2 := by simp
  rw [World.size_alloc] at bS
  obtain ⟨W6, hW6⟩ : ∃ W6, (W5.alloc (.cells #[.slice a n cap] 27)).alloc (.cells #[.int .i64 (st : Int)] 3) = W6 := ⟨_, rfl⟩
  rw [hW6] at bR bS hB6 bN6 bO6 bT6 hm6 hs6 ⊢
  have HP6 : Hid (ps = [] ∨ ∃ b o, a = some ⟨b, o, none⟩ ∧ (b < w.heap.size ∨ b = W5.heap.size ∨ b = W5.heap.size + 1) ∧ b < W6.heap.size ∧ HoldsPts W6 b o ps) := by
    rcases HH.out with h' | ⟨b, o, ha, hlt, hp⟩
    · exact .inl h'
    · exact .inr ⟨b, o, ha, .inl hlt, by omega, hp.below hB6 hlt⟩
  clear hW6 hb5 hm5 hm1 bN bO bT bN5 bO5 bT5 hB4 hB5 hs4 hmm
  gi_wp2
  have hSl : ∀ b, (b < w.heap.size ∨ b = W5.heap.size ∨ b = W5.heap.size + 1) → b < W6.heap.size := fun b hb => by omega
  have hseq : SeqStopsK Fence.wide 4 Tryd.prog 36 #[.pointer (some ⟨W5.heap.size, 0, none⟩), .pointer (some ⟨W5.heap.size + 1, 0, none⟩)] (fun x : I64 => #[Value.int .i64 x.1]) (Kept fun b => b < w.heap.size ∨ b = W5.heap.size ∨ b = W5.heap.size + 1) (fun ys => ys = xs) (fun pre => pre <+: xs) n W6 := fun l J Jx W hW hJ _ hY h0 =>
    nodes1_in Fence.wide 4 trivial rfl (by omega) _ l W5.heap.size (W5.heap.size + 1) a n cap st ps xs HN.out hm hst hxs J Jx (fun pre V hV => hJ pre V V.drew none hV ⟨rfl, rfl, rfl, Nat.le_refl _, fun _ _ _ => rfl⟩ (fun r e => by cases e)) hY W
      ((hW.cell (p := ⟨W5.heap.size, 0, none⟩) bR.lt).trans bR.cell) ((hW.cell (p := ⟨W5.heap.size + 1, 0, none⟩) bS.lt).trans bS.cell) ⟨.inr (.inl rfl), Nat.lt_of_lt_of_le bR.lt hW.size⟩ ⟨.inr (.inr rfl), Nat.lt_of_lt_of_le bS.lt hW.size⟩
      (by
        rcases HP6.out with h' | ⟨b, o, ha, hb, hlt, hp⟩
        · exact .inl h'
        · exact .inr ⟨b, o, ha, hb, Nat.lt_of_lt_of_le hlt hW.size, hp.below hW hlt⟩) h0
  have h0 : PrefInv w m W6.heap.size W6 [] := ⟨⟨_, bO6, World.ownsRow_nil _ _ _ _⟩, bN6, bT6, ⟨0, _, Nat.le_refl _, hm6, fun x => by simp [Maps.has]⟩, hB6, Nat.le_refl _⟩
  have hN6 : w.heap.size + 4 ≤ W6.heap.size := by omega
  have HS6 := Lib.hid hs6
  clear hs6
  refine wpIn_rangeFunc_ownG rfl (by omega) (gf := 36) (lb := #[.pointer (some ⟨W5.heap.size, 0, none⟩), .pointer (some ⟨W5.heap.size + 1, 0, none⟩)]) rfl trivial (enters_of Tryd.func36 (by kernel_rfl) rfl)
    hseq (fun h k => h.trans k) (fun W l o o' => Kept.put hSl l o o') (Below.refl _ _) (fun _ => rfl)
    (fun pre W => PrefInv w m W6.heap.size W (outOf m pre))
    (fun c pre W => c = .exit 0 ∧ PrefInv w m W6.heap.size W (outOf m pre) ∧ m ≤ ((outOf m pre).length : Int))
    (fun _ _ _ _ hs hg hr => hs.kept hN6 hg hr)
    (fun _ _ _ _ _ hs hg hr => ⟨hs.1, hs.2.1.kept hN6 hg hr, hs.2.2⟩)
    h0
    (fun x => { tmps := #[.slice a n cap, .string s, .int .i64 m, undef, undef, .pointer (some ⟨w.heap.size, 0, none⟩), .slice none 0 0, .pointer (some ⟨w.heap.size + 1, 0, none⟩), .pointer (some ⟨w.heap.size + 1 + 1 + 1, 0, none⟩), .int .i64 x.1, undef, undef, .map (some (w.heap.size + 1 + 1)), .slice a n cap, .slice a n cap, .string s, .int .i64 h, .int .i64 (st : Int), .func (.func 36) #[] #[.pointer (some ⟨W5.heap.size, 0, none⟩), .pointer (some ⟨W5.heap.size + 1, 0, none⟩)], .int .i64 x.1, undef, undef, undef, undef, undef, undef, undef, undef, undef, undef, undef, undef, undef, undef, undef, undef, undef, undef, undef], defers := [] }) ?assign ?body ?done ?stop
  case assign =>
    intro l x W K hK
    gi_wp2
    exact hK
  case body =>
    rintro l pre x W hI hlt
    have HI := Lib.hid hI
    obtain ⟨⟨v, hv, hrow⟩, hmo, hto, ⟨c, D, hc, hown, hhas⟩, hB, hsz⟩ := hI
    have hol := outOf_len m pre
    have HSN := Lib.hid (outOf_snoc m pre x)
    generalize outOf m pre = out at *
    obtain ⟨av, cv, rfl, -⟩ := RowI.form (show RowI W W6.heap.size v out from hrow)
    have cO := hv.cell
    have cM := hmo.cell
    have cT := hto.cell
    by_cases hfull : m ≤ (out.length : Int)
    · have HE : Hid (PrefInv w m W6.heap.size W (outOf m (pre ++ [x])) ∧ m ≤ ((outOf m (pre ++ [x])).length : Int)) := by
        rw [HSN.out]
        unfold prefStep
        rw [if_neg (fun h' => by omega)]
        exact Lib.hid ⟨HI.out, hfull⟩
      gi_wp2
      exact ⟨KeepsFrom.refl _ _, rfl, HE.out⟩
    · have hb := hhas x
      have hgA := World.grownBy_alloc W (.cells #[] 57) none
      have HIA : Hid (PrefInv w m W6.heap.size (W.alloc (.cells #[] 57)) out) := HI.out.kept hN6 hgA (fun r e => by cases e)
      by_cases hx : x.1 ∈ out
      · rw [decide_eq_true hx] at hb
        have HE : Hid (PrefInv w m W6.heap.size (W.alloc (.cells #[] 57)) (outOf m (pre ++ [x]))) := by
          rw [HSN.out, prefStep_in hx]
          exact HIA
        gi_wp2_with (gi_at_lookup; refine wpListIn_lookup_own_unit _ rfl _ _ 52 rfl 3 57 (Maps.int_keyed Tryd.underlying3) Tryd.underlying52 (unit_zero _) (w.heap.size + 1 + 1) c D rfl hown _ _ rfl (Maps.keyOf_int_mk Tryd.underlying3 x.2) ?_; rw [hb])
        exact ⟨(KeepsOthers.alloc _ _).from _, Kept.of_below ((Below.refl _ _).alloc (Nat.le_refl _) _), HE.out⟩
      · rw [decide_eq_false hx] at hb
        have cT2 := (hto.alloc (.cells #[] 57)).cell
        gi_wp2_with (first | (gi_at_lookup; refine wpListIn_lookup_own_unit _ rfl _ _ 52 rfl 3 57 (Maps.int_keyed Tryd.underlying3) Tryd.underlying52 (unit_zero _) (w.heap.size + 1 + 1) c D rfl hown _ _ rfl (Maps.keyOf_int_mk Tryd.underlying3 x.2) ?_; rw [hb]) | (gi_at_mapUpdate; refine wpListIn_mapUpdate_own _ rfl _ _ _ 52 rfl 3 57 (Maps.int_keyed Tryd.underlying3) Tryd.underlying52 _ (w.heap.size + 1 + 1) c D rfl (hown.alloc _) (by unfold maxLen; omega) _ _ _ rfl rfl (Maps.keyOf_int_mk Tryd.underlying3 x.2) _ [] unitElem_mk ?_; intro w1 hown1 hgrow1; have hv1 := (hv.alloc (.cells #[] 57)).kept hgrow1 (fun e => by injection e with e; omega); have cO1 := hv1.cell; have hrow1 := (hrow.alloc (.cells #[] 57)).kept hgrow1 (.inr (row_ne hrow (by omega)).symm)) | (gi_at_builtin; refine wpListIn_append_own _ rfl _ _ 24 rfl W6.heap.size 3 i0 (.int .i64 0) 1 8 Tryd.underlying24 hi hz0 hz1 hz2 rfl (by decide) (.slice av out.length cv) out.length (out.map intV) rfl (hrow1.alloc _) ⟨w1.heap.size, 0, none⟩ 1 1 [.int .i64 x.1] rfl rfl (cell_one_new _ _ _) (by simp [Value.oneCell']) (by unfold maxLen; omega) (by omega) (by have := hgrow1.size; simp at this ⊢; omega) ?_; intro v2 w2 hown2 hgrow2 _; obtain ⟨g2, cap2, rfl⟩ := ownsRow_succ hown2; have hv2 := (hv1.alloc (.cells #[.int .i64 x.1] 3)).kept hgrow2 (row_ne hrow (by omega)); have cO2 := hv2.cell; have fO2 := hv2.frozen))
        have hg3 := grownBy_setCell' w2 (w.heap.size + 1) (.slice (some ⟨g2, 0, none⟩) (out.length + 1) cap2)
        have hgC := World.grownBy_alloc w1 (.cells #[.int .i64 x.1] 3) none
        have hne : ∀ b, b < W6.heap.size → some b ≠ (Value.slice av out.length cv).ownBlock := fun b hb => row_ne hrow hb
        have HE : Hid (PrefInv w m W6.heap.size (w2.setCell ⟨w.heap.size + 1, 0, none⟩ (.slice (some ⟨g2, 0, none⟩) (out.length + 1) cap2)) (outOf m (pre ++ [x]))) := by
          rw [HSN.out, prefStep_out (by omega) hx]
          refine ⟨⟨_, hv2.set _, ?_⟩, ?_, ?_, ?_, ?_, ?_⟩
          · have h1 := World.ownsRow.kept hown2 hg3 (.inr (row_ne hown2 (by omega)).symm)
            rw [List.length_append, List.map_append]
            exact h1
          · exact ((((hmo.alloc _).kept hgrow1 (fun e => by injection e with e; omega)).alloc _).kept hgrow2 (hne _ (by omega))).kept hg3 (fun e => by injection e with e; omega)
          · exact ((((hto.alloc _).kept hgrow1 (fun e => by injection e with e; omega)).alloc _).kept hgrow2 (hne _ (by omega))).kept hg3 (fun e => by injection e with e; omega)
          · have hs1 : SetIs w1 (w.heap.size + 1 + 1) (out ++ [x.1]) := ⟨c + 1, _, by simp; omega, hown1, set_put hown.isMap hhas x _⟩
            exact ((hs1.kept hgC (by simp)).kept hgrow2 (hne _ (by omega))).kept hg3 (fun e => by injection e with e; omega)
          · have h1 := (hB.alloc hB.size (.cells #[] 57)).grown hgrow1 (by have := hB.size; simp; omega) (fun k e => by injection e with e; omega)
            have h2 := h1.alloc h1.size (.cells #[.int .i64 x.1] 3)
            have h3 := h2.grown hgrow2 h2.size (fun k e => by have := (World.ownsRow.lt hrow k e).1; omega)
            exact h3.setCell (p := ⟨w.heap.size + 1, 0, none⟩) (by simp) _
          · have h1 := hgrow1.size
            have h2 := hgrow2.size
            have h3 := hg3.size
            simp only [World.size_alloc] at h1 h2
            omega
        refine ⟨?_, ?_, HE.out⟩
        · have k1 := (KeepsOthers.alloc W (.cells #[] 57)).from W6.heap.size
          have k2 := KeepsFrom.of_grownBy (B := W6.heap.size) hgrow1 (fun j e => by injection e with e; omega)
          have k3 := (KeepsOthers.alloc w1 (.cells #[.int .i64 x.1] 3)).from W6.heap.size
          have k4 := row_keeps (B := W6.heap.size) (hrow1.alloc (.cells #[.int .i64 x.1] 3)) hgrow2
          exact (((k1.trans k2).trans k3).trans k4).trans ((KeepsOthers.setCell _ _ _).from _)
        · have hS6 := HS6.out
          have k1 : Kept (fun b => b < w.heap.size ∨ b = W5.heap.size ∨ b = W5.heap.size + 1) W (W.alloc (.cells #[] 57)) := Kept.of_below ((Below.refl _ _).alloc (Nat.le_refl _) _)
          have k2 : Kept (fun b => b < w.heap.size ∨ b = W5.heap.size ∨ b = W5.heap.size + 1) _ w1 := Kept.grown hgrow1 (fun b hb _ e => by injection e with e; omega)
          have k3 : Kept (fun b => b < w.heap.size ∨ b = W5.heap.size ∨ b = W5.heap.size + 1) w1 (w1.alloc (.cells #[.int .i64 x.1] 3)) := Kept.of_below ((Below.refl _ _).alloc (Nat.le_refl _) _)
          have k4 : Kept (fun b => b < w.heap.size ∨ b = W5.heap.size ∨ b = W5.heap.size + 1) _ w2 := Kept.grown hgrow2 (fun b hb _ => hne b (hSl b hb))
          have k5 : Kept (fun b => b < w.heap.size ∨ b = W5.heap.size ∨ b = W5.heap.size + 1) w2 _ := Kept.grown hg3 (fun b hb _ e => by injection e with e; omega)
          exact (((k1.trans k2).trans k3).trans k4).trans k5
  case done =>
    rintro D ys W hD rfl hI hK
    obtain ⟨⟨v, hv, hrow⟩, hmo, hto, hset, hB, hsz⟩ := hI
    have cO := hv.cell
    have HE : Hid (outOf m ys = preferL (seqN ps (firstS ps (hashL s.data.toList))) m) := by
      rw [HHS.out, HSQ.out, ← hxs]
      exact Lib.hid rfl
    gi_wp2
    refine ⟨by simp, .inl ⟨_, _, rfl, run_takeDeferred hK, ?_⟩⟩
    exact ⟨_, results_tmp rfl _ _ _, v, rfl, by rw [← HE.out]; exact RowI.mono (ownsRow_putObj hrow _ hK rfl) (by omega), hB.trans (belowK_b (w := w) (Nat.le_refl _) W D _ _ (by omega) hK rfl rfl)⟩
  case stop =>
    rintro D c pre W hD hpre ⟨rfl, hI, hge⟩ hK
    obtain ⟨⟨v, hv, hrow⟩, hmo, hto, hset, hB, hsz⟩ := hI
    have cO := hv.cell
    have HE : Hid (outOf m pre = preferL (seqN ps (firstS ps (hashL s.data.toList))) m) := by
      rw [HHS.out, HSQ.out, ← hxs, ← outOf_full hpre hge]
      exact Lib.hid rfl
    gi_wp2
    refine ⟨by simp, .inl ⟨_, _, rfl, run_takeDeferred hK, ?_⟩⟩
    exact ⟨_, results_tmp rfl _ _ _, v, rfl, by rw [← HE.out]; exact RowI.mono (ownsRow_putObj hrow _ hK rfl) (by omega), hB.trans (belowK_b (w := w) (Nat.le_refl _) W D _ _ (by omega) hK rfl rfl)⟩

end Go.Proofs.YtofejfmfbifphacDoor
