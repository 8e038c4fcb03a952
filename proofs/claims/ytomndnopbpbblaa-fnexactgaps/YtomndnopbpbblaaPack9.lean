import Derived.Test.YtomndnopbpbblaaPack8
import Derived.Test.YtomndnopbpbblaaPack7
import Derived.Test.YtomndnopbpbblaaPack4
import Derived.Test.YtomndnopbpbblaaPack1
import Derived.Test.YtomndnopbpbblaaPack2
import Derived.Test.YtomndnopbpbblaaPack3
import Derived.Test.YtomndnopbpbblaaPack6
/- Causes, as the specification counts them: one write after the other, of each one dependency after the other: plain facts. -/
namespace Go.Proofs.Ytomndnopbpbblaa
open Go.ChangeShapes Go.WideShapes Go.ChangeAt Go.RowKit Go.Joins

/-- The dependencies that are asked at round c. -/
def chunkC (ds : List Dp) (out : List Wr) : Nat → List Dp
  | 0 => ds
  | k + 1 => (out.getD k wz).xs

/-- Those that were asked ahead of it. -/
def preC (ds : List Dp) (out : List Wr) : Nat → List Dp
  | 0 => []
  | k + 1 => ds ++ (out.take k).flatMap (·.xs)

theorem cauQ_cut (ds : List Dp) (out : List Wr) {c : Nat} (hc : c ≤ out.length) : ∃ B, cauQ ds out = preC ds out c ++ chunkC ds out c ++ B := by
  cases c with
  | zero => exact ⟨out.flatMap (·.xs), by simp [preC, chunkC, cauQ]⟩
  | succ k =>
    refine ⟨(out.drop (k + 1)).flatMap (·.xs), ?_⟩
    have hk : k < out.length := hc
    have e : out = out.take k ++ (out.getD k wz :: out.drop (k + 1)) := by
      have h1 : out.getD k wz = out[k] := by simp [List.getD, hk]
      rw [h1, ← List.drop_eq_getElem_cons hk, List.take_append_drop]
    unfold cauQ
    conv => lhs; rw [e]
    rw [List.flatMap_append, List.flatMap_cons]
    simp only [preC, chunkC, List.append_assoc]

theorem preC_next (ds : List Dp) (out : List Wr) {c : Nat} (hc : c ≤ out.length) : preC ds out (c + 1) = preC ds out c ++ chunkC ds out c := by
  cases c with
  | zero => simp [preC, chunkC]
  | succ k =>
    have hk : k < out.length := hc
    have e : out.take (k + 1) = out.take k ++ [out.getD k wz] := take_next out wz hk
    simp only [preC, chunkC]
    rw [e, List.flatMap_append, List.append_assoc]
    simp

theorem preC_app (ds : List Dp) (out ext : List Wr) {c : Nat} (hc : c ≤ out.length) : preC ds (out ++ ext) c = preC ds out c := by
  cases c with
  | zero => rfl
  | succ k =>
    simp only [preC]
    rw [List.take_append_of_le_length (by omega)]

theorem chunkC_app (ds : List Dp) (out ext : List Wr) {c : Nat} (hc : c ≤ out.length) : chunkC ds (out ++ ext) c = chunkC ds out c := by
  cases c with
  | zero => rfl
  | succ k =>
    have hk : k < out.length := hc
    simp only [chunkC]
    congr 1
    simp only [List.getD]
    rw [List.getElem?_append_left hk]

/-- What is told only grows. -/
theorem cau_grows {all : List Wr} {ds : List Dp} {t : Nat} (h : CauI all ds t) (hn : all.Nodup) (ht : t < (cauQ ds (cauRun all ds t)).length) : ∃ ext, cauRun all ds (t + 1) = cauRun all ds t ++ ext := by
  obtain ⟨h1, h2, _⟩ := h.next hn ht
  by_cases hm : (cauQ ds (cauRun all ds t)).getD t dz ∈ (cauQ ds (cauRun all ds t)).take t
  · exact ⟨[], by rw [h1 hm, List.append_nil]⟩
  · exact ⟨_, h2 hm⟩

/-- At place d of round c. -/
structure SpC (all : List Wr) (ds : List Dp) (c d : Nat) (out : List Wr) : Prop where
  cau : CauI all ds ((preC ds out c).length + d)
  is : out = cauRun all ds ((preC ds out c).length + d)
  le : c ≤ out.length
  dle : d ≤ (chunkC ds out c).length

theorem spC_start (all : List Wr) (ds : List Dp) : SpC all ds 0 0 [] := ⟨cauI_zero _ _, rfl, Nat.zero_le _, Nat.zero_le _⟩

/-- The dependency that is asked there. -/
theorem SpC.asks {all : List Wr} {ds : List Dp} {c d : Nat} {out : List Wr} (h : SpC all ds c d out) (hd : d < (chunkC ds out c).length) : (preC ds out c).length + d < (cauQ ds out).length ∧ (cauQ ds out).getD ((preC ds out c).length + d) dz = (chunkC ds out c).getD d dz := by
  obtain ⟨B, hB⟩ := cauQ_cut ds out h.le
  constructor
  · rw [hB, List.length_append, List.length_append]
    omega
  · simp only [List.getD]
    rw [hB, List.append_assoc, List.getElem?_append_right (by omega), Nat.add_sub_cancel_left, List.getElem?_append_left hd]

/-- One dependency more. -/
theorem SpC.next {all : List Wr} {ds : List Dp} {c d : Nat} {out : List Wr} (h : SpC all ds c d out) (hn : all.Nodup) (hd : d < (chunkC ds out c).length) :
    SpC all ds c (d + 1) (stepD all out ((chunkC ds out c).getD d dz)) ∧ chunkC ds (stepD all out ((chunkC ds out c).getD d dz)) c = chunkC ds out c ∧ ∃ ext, stepD all out ((chunkC ds out c).getD d dz) = out ++ ext := by
  obtain ⟨a1, a2⟩ := h.asks hd
  have his := h.is
  have hlt : (preC ds out c).length + d < (cauQ ds (cauRun all ds ((preC ds out c).length + d))).length := by rw [← his]; exact a1
  have e := cauRun_next hlt
  rw [← his, a2] at e
  obtain ⟨ext, hext⟩ := cau_grows h.cau hn hlt
  rw [← his] at hext
  have hse : stepD all out ((chunkC ds out c).getD d dz) = out ++ ext := by rw [← e, hext]
  have hp := preC_app ds out ext h.le
  have hch := chunkC_app ds out ext h.le
  have hcau := (h.cau.next hn hlt).2.2
  rw [hse]
  refine ⟨⟨?_, ?_, ?_, ?_⟩, hch, ext, rfl⟩
  · rw [hp]
    exact hcau
  · rw [hp]
    exact hext.symm
  · rw [List.length_append]
    exact Nat.le_trans h.le (Nat.le_add_right _ _)
  · rw [hch]
    exact hd

/-- The next round. -/
theorem SpC.round {all : List Wr} {ds : List Dp} {c : Nat} {out : List Wr} (h : SpC all ds c (chunkC ds out c).length out) (hc : c < out.length) : SpC all ds (c + 1) 0 out := by
  have e : (preC ds out (c + 1)).length + 0 = (preC ds out c).length + (chunkC ds out c).length := by rw [preC_next ds out h.le, List.length_append]; rfl
  refine ⟨?_, ?_, hc, Nat.zero_le _⟩
  · rw [e]
    exact h.cau
  · rw [e]
    exact h.is

/-- The end. -/
theorem SpC.done {all : List Wr} {ds : List Dp} {c : Nat} {out : List Wr} (h : SpC all ds c (chunkC ds out c).length out) (hc : out.length ≤ c) : out = causesL all ds := by
  have hcc : c = out.length := Nat.le_antisymm h.le hc
  have e : (preC ds out (c + 1)).length = (preC ds out c).length + (chunkC ds out c).length := by rw [preC_next ds out h.le, List.length_append]
  have e2 : (cauQ ds out).length = (preC ds out (c + 1)).length := by
    simp only [preC]
    rw [List.take_of_length_le (by omega)]
    rfl
  have hi := h.is
  have hend := cauI_end h.cau (by rw [← hi]; omega)
  rw [← hi] at hend
  exact hend

theorem SpC.wgt {all : List Wr} {ds : List Dp} {c d : Nat} {out : List Wr} (h : SpC all ds c d out) : Proofs.Ytomndnopbpbblaa.wgt out ≤ Proofs.Ytomndnopbpbblaa.wgt all := by
  have h1 := h.cau.wgt
  rw [← h.is] at h1
  exact h1

theorem cauW_ext (d : Dp) (out : List Wr) (y : Wr) : ∃ ext, cauW d out y = out ++ ext := by
  unfold cauW
  split
  · exact ⟨[y], rfl⟩
  · exact ⟨[], (List.append_nil _).symm⟩

theorem cauWs_ext (d : Dp) : ∀ (l out : List Wr), ∃ ext, l.foldl (cauW d) out = out ++ ext
  | [], out => ⟨[], (List.append_nil _).symm⟩
  | y :: r, out => by
    obtain ⟨e1, h1⟩ := cauW_ext d out y
    obtain ⟨e2, h2⟩ := cauWs_ext d r (cauW d out y)
    exact ⟨e1 ++ e2, by rw [List.foldl_cons, h2, h1, List.append_assoc]⟩

/-- Midway. -/
theorem SpC.mid {all : List Wr} {ds : List Dp} {c d : Nat} {out : List Wr} (h : SpC all ds c d out) (hn : all.Nodup) (hd : d < (chunkC ds out c).length) (i : Nat) : Proofs.Ytomndnopbpbblaa.wgt ((all.take i).foldl (cauW ((chunkC ds out c).getD d dz)) out) ≤ Proofs.Ytomndnopbpbblaa.wgt all := by
  have h1 := (h.next hn hd).1.wgt
  obtain ⟨ext, he⟩ := cauWs_ext ((chunkC ds out c).getD d dz) (all.drop i) ((all.take i).foldl (cauW ((chunkC ds out c).getD d dz)) out)
  have e : stepD all out ((chunkC ds out c).getD d dz) = (all.take i).foldl (cauW ((chunkC ds out c).getD d dz)) out ++ ext := by
    rw [← he, ← List.foldl_append, List.take_append_drop]
    rfl
  rw [e] at h1
  unfold Proofs.Ytomndnopbpbblaa.wgt at h1 ⊢
  rw [List.length_append, bulk_app] at h1
  omega

end Go.Proofs.Ytomndnopbpbblaa

/- Is a write there, the specification's side: the contract of spec's l09Has. -/
namespace Go.Proofs.Ytomndnopbpbblaa
open Go.ChangeShapes Go.WideShapes Go.ChangeAt Go.RowKit Go.Joins
attribute [local go_sem ↓] Go.wp_at_zero Go.wp_at_succ

theorem has_hit {ws : List Wr} {x : Wr} {k : Nat} (hk : k < ws.length) (h : cmpW (ws.getD k wz) x = 0) : hasW ws x = true := by
  unfold hasW
  rw [List.any_eq_true]
  exact ⟨_, getD_mem hk, by rw [h]; rfl⟩

theorem has_none {ws : List Wr} {x : Wr} (h : ∀ k, k < ws.length → cmpW (ws.getD k wz) x ≠ 0) : hasW ws x = false := by
  unfold hasW
  rw [List.any_eq_false]
  intro y hy
  obtain ⟨k, hk, rfl⟩ := mem_getD hy
  simpa using h k hk

set_option maxRecDepth 100000 in
set_option maxHeartbeats 4000000 in
theorem specHas_any (a : Option Addr) (n cap : Nat) (ws : List Wr) (x : Wr) (ad : Option Addr) (cp : Nat) (w : World) (hn : ws.length = n) (hm : n ≤ 1048576) (hx : Few ws) (hxl : x.xs.length ≤ 1048576) (hh : IsWs w a ws) (hd : IsDeps w ad x.xs) :
    Calls Try.prog 23 #[.slice a n cap, wrOf x ad cp] w fun e w' => e = .returned (.bool (hasW ws x)) ∧ Below w.heap.size w w' := by
  obtain ⟨xk, xc, xs', xq, xv, xd, xx⟩ := x
  simp only at hxl hd
  have HH := Lib.hid hh
  have HN := Lib.hid hn
  have HX := Lib.hid hx
  have HA : Hid (Below w.heap.size w (w.alloc (.cells #[.int .i64 xk, .int .i64 xc, .int .i64 xs', .int .i64 xq, .int .i64 xv, .bool xd, .slice ad xx.length cp] 37))) := (Below.refl _ _).alloc (Nat.le_refl _) _
  have HD := Lib.hid hd
  have HBX : Hid ((w.alloc (.cells #[.int .i64 xk, .int .i64 xc, .int .i64 xs', .int .i64 xq, .int .i64 xv, .bool xd, .slice ad xx.length cp] 37)).heap[w.heap.size]? = some (.cells #[.int .i64 xk, .int .i64 xc, .int .i64 xs', .int .i64 xq, .int .i64 xv, .bool xd, .slice ad xx.length cp] 37 (0, 0))) := heap_alloc_new _ _
  have HSZ : Hid ((w.alloc (.cells #[.int .i64 xk, .int .i64 xc, .int .i64 xs', .int .i64 xq, .int .i64 xv, .bool xd, .slice ad xx.length cp] 37)).heap.size = w.heap.size + 1) := by show _ = _; simp
  clear hh hn hx hd
  unfold wrOf
  simp only
  go_enter Try.func23, Try.ntmps23
  go_wp2
  generalize w.alloc (.cells #[.int .i64 xk, .int .i64 xc, .int .i64 xs', .int .i64 xq, .int .i64 xv, .bool xd, .slice ad xx.length cp] 37) = W1 at *
  go_loopw [5] (fun ti wr => ∃ i : Nat, i ≤ n ∧ ti = .int .i64 i ∧ Hid (∀ k, k < i → cmpW (ws.getD k wz) ⟨xk, xc, xs', xq, xv, xd, xx⟩ ≠ 0) ∧ Hid (Below W1.heap.size W1 wr)) (fun ti _ => n - (intOf ti).toNat)
  case atStart => exact ⟨0, Nat.zero_le _, rfl, fun k hk => absurd hk (Nat.not_lt_zero k), Below.refl _ _⟩
  case round =>
    obtain ⟨i, hi, rfl, HL, HB⟩ := hrel
    have HBW : Hid (Below w.heap.size w wr) := below_step HA.out HA.out.size HB.out
    by_cases hi' : i < n
    · have hiw : i < ws.length := by rw [HN.out]; exact hi'
      have i1 : (0 : Int) ≤ (i : Int) := by omega
      have i2 : (i : Int) < (n : Int) := by omega
      have qb := (HB.out.block w.heap.size (by rw [HSZ.out]; omega)).trans HBX.out
      have g0 := cell_of_row wr w.heap.size 0 _ _ _ qb
      have g1 := cell_of_row wr w.heap.size 1 _ _ _ qb
      have g2 := cell_of_row wr w.heap.size 2 _ _ _ qb
      have g3 := cell_of_row wr w.heap.size 3 _ _ _ qb
      have g4 := cell_of_row wr w.heap.size 4 _ _ _ qb
      have g5 := cell_of_row wr w.heap.size 5 _ _ _ qb
      have g6 := cell_of_row wr w.heap.size 6 _ _ _ qb
      simp at g0 g1 g2 g3 g4 g5 g6
      have hlt : w.heap.size < wr.heap.size := by have := HB.out.size; rw [HSZ.out] at this; omega
      clear qb
      obtain ⟨b, o, ad2, cp2, rfl, hz, ⟨e0, e1, e2, e3, e4, e5, e6⟩, hde⟩ := HH.out.at HBW.out HN.out hi'
      have hyl := HX.out i hiw
      have HC : Hid (∀ p : Aft wr.heap.size wr, Calls Try.prog 42 #[wrOf (ws.getD i wz) ad2 cp2, wrV xk xc xs' xq xv xd ad xx.length cp] p.now fun e w' => e = .returned (.int .i64 (cmpW (ws.getD i wz) ⟨xk, xc, xs', xq, xv, xd, xx⟩)) ∧ Below p.now.heap.size p.now w') := fun p =>
        specWriteCmp_gen _ _ _ _ _ _ _ (ws.getD i wz).xs _ _ _ _ _ _ _ _ _ xx _ _ _ rfl rfl hyl hxl (hde.below p.below) (HD.out.below (below_step HBW.out HBW.out.size p.below))
      unfold wrOf at HC
      have HHIT : Hid (cmpW (ws.getD i wz) ⟨xk, xc, xs', xq, xv, xd, xx⟩ = 0 → hasW ws ⟨xk, xc, xs', xq, xv, xd, xx⟩ = true) := fun h => has_hit hiw h
      have HNXT : Hid (cmpW (ws.getD i wz) ⟨xk, xc, xs', xq, xv, xd, xx⟩ ≠ 0 → ∀ k, k < i + 1 → cmpW (ws.getD k wz) ⟨xk, xc, xs', xq, xv, xd, xx⟩ ≠ 0) := fun h k hk => by
        by_cases e : k = i
        · rw [e]; exact h
        · exact HL.out k (by omega)
      clear hde
      generalize ws.getD i wz = y at *
      obtain ⟨yk, yc, ys, yq, yv, yd, yy⟩ := y
      simp only at e0 e1 e2 e3 e4 e5 e6 HC hyl
      obtain ⟨z, hz0⟩ : ∃ z, cmpW ⟨yk, yc, ys, yq, yv, yd, yy⟩ ⟨xk, xc, xs', xq, xv, xd, xx⟩ = z := ⟨_, rfl⟩
      rw [hz0] at HHIT HNXT
      have HC' : Hid (∀ p : Aft wr.heap.size wr, Calls Try.prog 42 #[wrV yk yc ys yq yv yd ad2 yy.length cp2, wrV xk xc xs' xq xv xd ad xx.length cp] p.now fun e w' => e = .returned (.int .i64 z) ∧ Below p.now.heap.size p.now w') := by rw [← hz0]; exact HC
      clear HC hz0
      go_wp2_with fail
      have gg0 := aft_cell hlt g0
      have gg1 := aft_cell hlt g1
      have gg2 := aft_cell hlt g2
      have gg3 := aft_cell hlt g3
      have gg4 := aft_cell hlt g4
      have gg5 := aft_cell hlt g5
      have gg6 := aft_cell hlt g6
      have ge0 := aft_cell hz e0
      have ge1 := aft_cell hz e1
      have ge2 := aft_cell hz e2
      have ge3 := aft_cell hz e3
      have ge4 := aft_cell hz e4
      have ge5 := aft_cell hz e5
      have ge6 := aft_cell hz e6
      have ne := aft_some wr
      refine wp_region_aft (by kernel_rfl) (by kernel_rfl) ?_
      repeat (first | go_big_quiet_step (first | (go_at_call 42; exact aft_of (HC'.out _))))
      refine wpQuiet_nil ?_
      intro wq hq
      have HBQ : Hid (Below W1.heap.size W1 wq) := below_step HB.out HB.out.size hq
      have HBF : Hid (Below w.heap.size w wq) := below_step HBW.out HBW.out.size hq
      clear hq gg0 gg1 gg2 gg3 gg4 gg5 gg6 ge0 ge1 ge2 ge3 ge4 ge5 ge6 ne
      by_cases hz0 : z = 0
      · have HT := Lib.hid (HHIT.out hz0)
        subst hz0
        go_wp2
        go_ret
        exact ⟨by rw [HT.out]; rfl, HBF.out⟩
      · have HL2 := Lib.hid (HNXT.out hz0)
        go_wp2
        exact ⟨⟨i + 1, by omega, by go_num, HL2, HBQ⟩, by simp [intOf]; omega⟩
    · have hkk : i = n := by omega
      subst hkk
      have HT : Hid (hasW ws ⟨xk, xc, xs', xq, xv, xd, xx⟩ = false) := has_none fun k hk => HL.out k (by rw [← HN.out]; exact hk)
      go_wp2
      go_ret
      exact ⟨by rw [HT.out]; rfl, HBW.out⟩

end Go.Proofs.Ytomndnopbpbblaa

/- What was written, the specification's side: the contract of spec.Written. -/
namespace Go.Proofs.Ytomndnopbpbblaa
open Go.ChangeShapes Go.WideShapes Go.ChangeAt Go.RowKit Go.Joins
attribute [local go_sem ↓] Go.wp_at_zero Go.wp_at_succ

/-- A row of the specification's that has these writes. -/
def RowOf (w wr : World) (out : List Wr) (v : Value) : Prop := ∃ g cp gs, v = .slice (some ⟨g, 0, none⟩) out.length cp ∧ gs.map (·.x) = out ∧ RowEs wr w.heap.size g cp gs ∧ Below w.heap.size w wr

theorem RowOf.below {w wr : World} {out : List Wr} {v : Value} (h : RowOf w wr out v) : Below w.heap.size w wr := by
  obtain ⟨_, _, _, _, _, _, h⟩ := h
  exact h

theorem RowOf.more {w wr w' : World} {out : List Wr} {v : Value} (h : RowOf w wr out v) (hb : Below wr.heap.size wr w') : RowOf w w' out v := by
  obtain ⟨g, cp, gs, h1, h2, h3, h4⟩ := h
  exact ⟨g, cp, gs, h1, h2, h3.below hb, below_step h4 h4.size hb⟩

theorem rowOf_start (w : World) : RowOf w (w.alloc (.cells #[] 37)) [] (.slice (some ⟨w.heap.size, 0, none⟩) 0 0) :=
  ⟨_, _, [], rfl, rfl, rowEs_start w w.heap.size (Nat.le_refl _), (Below.refl _ _).alloc (Nat.le_refl _) _⟩

set_option maxRecDepth 100000 in
set_option maxHeartbeats 8000000 in
theorem specWritten_any (a : Option Addr) (n cap : Nat) (es : List Ev) (w : World) (hn : es.length = n) (hm : n ≤ 1048576) (hx : FewE es) (hh : heftB (evW es) ≤ 1048576) (hi : IsEs w a es) :
    Calls Try.prog 22 #[.slice a n cap] w fun e w' => ∃ v, e = .returned v ∧ RowOf w w' (writtenL es) v := by
  have HI := Lib.hid hi
  have HN := Lib.hid hn
  have HX := Lib.hid hx
  have HHE := Lib.hid hh
  clear hi hn hx hh
  obtain ⟨i0, hi0, hx0⟩ := Option.map_eq_some_iff.1 infoWr
  simp only [Prod.mk.injEq] at hx0
  have HI0 := Lib.hid hi0
  have HX0 := Lib.hid hx0
  clear hi0 hx0
  have HT0 := Lib.hid (rowOf_start w)
  go_enter Try.func22, Try.ntmps22
  go_wp2
  go_loopw [3, 4] (fun t i wr => ∃ (k : Nat) (v : Value), k ≤ n ∧ i = .int .i64 k ∧ v = t ∧ Hid (RowOf w wr ((es.take k).foldl addE []) v)) (fun _ i _ => n - (intOf i).toNat)
  case atStart => exact ⟨0, _, Nat.zero_le _, rfl, rfl, HT0⟩
  case round =>
    clear HT0
    obtain ⟨k, v, hk, rfl, rfl, HT⟩ := hrel
    by_cases hk' : k < n
    · have hkw : k < es.length := by rw [HN.out]; exact hk'
      have i1 : (0 : Int) ≤ (k : Int) := by omega
      have i2 : (k : Int) < (n : Int) := by omega
      obtain ⟨b, o, ad, cq, rfl, hz, e0, hde⟩ := HI.out.at (Below.refl _ w) hkw
      have HW := Lib.hid hde
      have HNX := Lib.hid (foldl_next addE es [] evz hkw)
      have HWG : Hid (∀ j, wgt (((es.getD k evz).ws.take j).foldl addW ((es.take k).foldl addE [])) ≤ 1048576) := fun j => Nat.le_trans (writing_wgt es hkw) HHE.out
      obtain ⟨hql, hqf⟩ := HX.out k hkw
      have HQF := Lib.hid hqf
      clear hde hqf
      unfold EvAt at e0
      generalize es.getD k evz = x at *
      obtain ⟨xs, xh, xm, xw⟩ := x
      simp only at e0 hql HW HWG HQF
      obtain ⟨c0, c1, c2, c3⟩ := e0
      generalize (es.take k).foldl addE [] = out0 at *
      obtain ⟨q, hq⟩ : ∃ q, xw.length = q := ⟨_, rfl⟩
      rw [hq] at c3 hql
      have HQ := Lib.hid hq
      clear hq
      have HE0 : Hid (∀ W, Below w.heap.size w W → W.cell? ⟨b, o + k * 4 + 1, none⟩ = some (.bool xh) ∧ W.cell? ⟨b, o + k * 4 + 3, none⟩ = some (.slice ad q cq)) := fun W hW => ⟨(hW.cell (p := ⟨b, o + k * 4 + 1, none⟩) hz).trans c1, (hW.cell (p := ⟨b, o + k * 4 + 3, none⟩) hz).trans c3⟩
      clear c0 c1 c2 c3
      go_wp2
      go_loopw [3, 5] (fun t i wr => ∃ (j : Nat) (u : Value), j ≤ q ∧ i = .int .i64 j ∧ u = t ∧ (j = 0 ∨ xh = false) ∧ Hid (RowOf w wr ((xw.take j).foldl addW out0) u)) (fun _ i _ => q - (intOf i).toNat)
      case atStart => exact ⟨0, _, Nat.zero_le _, rfl, rfl, .inl rfl, HT⟩
      case round =>
        clear HT
        obtain ⟨j, u, hj, rfl, rfl, hj0, HT⟩ := hrel
        obtain ⟨c1, c3⟩ := HE0.out wr HT.out.below
        by_cases hj' : j < q
        · have hd1 : decide (j < q) = true := decide_eq_true hj'
          cases xh with
          | true =>
            obtain rfl : j = 0 := by rcases hj0 with h | h; exact h; cases h
            have HN2 : Hid ((es.take (k + 1)).foldl addE [] = out0) := HNX.out.trans (if_pos rfl)
            have HT4 : Hid (RowOf w wr ((es.take (k + 1)).foldl addE []) u) := by
              have h := HT.out
              rw [List.take_zero] at h
              rw [HN2.out]
              exact h
            go_wp2
            exact ⟨⟨k + 1, u, by omega, by go_num, rfl, HT4⟩, by simp [intOf]; omega⟩
          | false =>
            have hjw : j < xw.length := by rw [HQ.out]; exact hj'
            have i3 : (0 : Int) ≤ (j : Int) := by omega
            have i4 : (j : Int) < (q : Int) := by omega
            obtain ⟨bw, ow, aw, cw, rfl, hzw, ⟨e0, e1, e2, e3, e4, e5, e6⟩, hdw⟩ := HW.out.at HT.out.below HQ.out hj'
            have HDW := Lib.hid hdw
            have hxl := HQF.out j hjw
            have HNY := Lib.hid (foldl_next addW xw out0 wz hjw)
            have hwg := HWG.out j
            clear hdw
            generalize xw.getD j wz = y at *
            generalize (xw.take j).foldl addW out0 = out at *
            obtain ⟨yk, yc, ys, yq, yv, yd, yy⟩ := y
            simp only at e0 e1 e2 e3 e4 e5 e6 hxl HDW
            have hol : out.length ≤ 1048576 := by unfold wgt at hwg; omega
            have HOF : Hid (Few out) := few_wgt hwg
            obtain ⟨g, cp, gs, rfl, hgx, hgr, hgb⟩ := HT.out
            have HGX := Lib.hid hgx
            have HGR := Lib.hid hgr
            have HGB := Lib.hid hgb
            have hgl : gs.length = out.length := by
              have h1 := congrArg List.length hgx
              rwa [List.length_map] at h1
            have HGW : Hid (IsWs wr (some ⟨g, 0, none⟩) out) := hgr.isWs hgx HOF.out
            clear hgx hgr hgb HT
            obtain ⟨L, hL⟩ : ∃ L, out.length = L := ⟨_, rfl⟩
            have HLN := Lib.hid hL
            rw [hL] at hol hgl ⊢
            clear hL
            go_wp2_with fail
            refine (specHas_any _ L _ out ⟨yk, yc, ys, yq, yv, yd, yy⟩ aw cw _ HLN.out hol HOF.out hxl HGW.out HDW.out).mono ?_
            rintro e w3 ⟨rfl, hb3⟩
            have HGB3 : Hid (Below w.heap.size w w3) := below_step HGB.out HGB.out.size hb3
            have HGR3 := Lib.hid (HGR.out.below hb3)
            have HD3 := Lib.hid (HDW.out.below hb3)
            obtain ⟨c1, c3⟩ := HE0.out w3 HGB3.out
            replace e0 := (hb3.cell (p := ⟨bw, ow + j * 7, none⟩) hzw).trans e0
            replace e1 := (hb3.cell (p := ⟨bw, ow + j * 7 + 1, none⟩) hzw).trans e1
            replace e2 := (hb3.cell (p := ⟨bw, ow + j * 7 + 2, none⟩) hzw).trans e2
            replace e3 := (hb3.cell (p := ⟨bw, ow + j * 7 + 3, none⟩) hzw).trans e3
            replace e4 := (hb3.cell (p := ⟨bw, ow + j * 7 + 4, none⟩) hzw).trans e4
            replace e5 := (hb3.cell (p := ⟨bw, ow + j * 7 + 5, none⟩) hzw).trans e5
            replace e6 := (hb3.cell (p := ⟨bw, ow + j * 7 + 6, none⟩) hzw).trans e6
            clear hb3 HGB HGR HDW HGW
            cases hhas : hasW out ⟨yk, yc, ys, yq, yv, yd, yy⟩ with
            | true =>
              have HT4 : Hid (RowOf w w3 ((xw.take (j + 1)).foldl addW out0) (.slice (some ⟨g, 0, none⟩) L cp)) := by
                rw [HNY.out, addW_has hhas]
                exact ⟨g, cp, gs, by rw [HLN.out], HGX.out, HGR3.out, HGB3.out⟩
              clear hhas
              go_wp2
              exact ⟨⟨j + 1, _, by omega, by go_num, rfl, .inr trivial, HT4⟩, by simp [intOf]; omega⟩
            | false =>
              have HNZ := Lib.hid (HNY.out.trans (addW_not hhas))
              clear hhas HNY
              go_wp2_with fail
              refine (copy_any ⟨yk, yc, ys, yq, yv, yd, yy⟩ aw cw _ hxl HD3.out).mono ?_
              rintro e w4 ⟨g2, cp2, rfl, hg1, hg2, hg3, hb⟩
              have HGB4 : Hid (Below w.heap.size w w4) := below_step HGB3.out HGB3.out.size hb
              have HGR4 := Lib.hid (HGR3.out.below hb)
              have HG : Hid (HoldsDeps w4 g2 0 yy) := hg3
              have hg5 : g2 ≠ g := by have := HGR3.out.lt; omega
              have hg6 : w.heap.size ≤ g2 := Nat.le_trans HGB3.out.size hg1
              clear hb hg3 hg1 HD3 HGB3 HGR3 e0 e1 e2 e3 e4 e5 e6 c1 c3
              have HBA : Hid (Below w4.heap.size w4 (w4.alloc (.cells #[.int .i64 yk, .int .i64 yc, .int .i64 ys, .int .i64 yq, .int .i64 yv, .bool yd, .slice (some ⟨g2, 0, none⟩) yy.length cp2] 37))) := (Below.refl _ _).alloc (Nat.le_refl _) _
              have HWA := Lib.hid (HGR4.out.below HBA.out)
              have HOW : Hid ((w4.alloc (.cells #[.int .i64 yk, .int .i64 yc, .int .i64 ys, .int .i64 yq, .int .i64 yv, .bool yd, .slice (some ⟨g2, 0, none⟩) yy.length cp2] 37)).ownsRow w.heap.size 37 7 (.slice (some ⟨g, 0, none⟩) L cp) L (gs.flatMap wrVals)) := by
                have := HWA.out.own
                rw [hgl] at this
                exact this
              have hsz : w.heap.size ≤ w4.heap.size := HGB4.out.size
              go_wp2_with (at_builtin; refine wpList_append_lies _ (by rfl) _ _ _ (by rfl) w.heap.size 37 i0 (wrV 0 0 0 0 0 false none 0 0) 7 72 Try.underlying30 HI0.out HX0.out.1 HX0.out.2.1 HX0.out.2.2 (by rfl) (by omega) (.slice (some ⟨g, 0, none⟩) L cp) L (gs.flatMap wrVals) (by rfl) HOW.out ⟨w4.heap.size, 0, none⟩ 1 1 (wrVals ⟨⟨yk, yc, ys, yq, yv, yd, yy⟩, g2, cp2⟩) (by rfl) (by rfl) (one_cells w4 _ ⟨⟨yk, yc, ys, yq, yv, yd, yy⟩, g2, cp2⟩) (by simpa using vals_one [⟨⟨yk, yc, ys, yq, yv, yd, yy⟩, g2, cp2⟩]) (by omega) (by unfold maxLen; omega) (by omega) (by simp; omega) _ rfl ?_; intro g3 cp3 w5 hown hgrow hg3 _; refine Hid.out ?_)
              refine Lib.hid ?_
              have HGB5 : Hid (Below w.heap.size w w5) := (HGB4.out.alloc hsz _).grown hgrow (by simp; omega) fun j hj => by simp only [Value.ownBlock, Option.some.injEq] at hj; have := HGR4.out.le; omega
              have HR5 : Hid (RowEs w5 w.heap.size g3 cp3 (gs ++ [⟨⟨yk, yc, ys, yq, yv, yd, yy⟩, g2, cp2⟩])) := by
                refine HWA.out.more ⟨hg6, by simp; omega, hg5, HG.out.below HBA.out hg2⟩ (by rw [hgl]; exact hown) hgrow hg3
              have HT5 : Hid (RowOf w w5 ((xw.take (j + 1)).foldl addW out0) (.slice (some ⟨g3, 0, none⟩) (L + 1) cp3)) := by
                rw [HNZ.out]
                exact ⟨g3, cp3, _, by rw [List.length_append, HLN.out]; rfl, by rw [List.map_append, HGX.out]; rfl, HR5.out, HGB5.out⟩
              clear hown hgrow
              go_wp2
              exact ⟨⟨j + 1, _, by omega, by go_num, rfl, .inr trivial, HT5⟩, by simp [intOf]; omega⟩
        · obtain rfl : j = q := by omega
          have hd1 : decide (j < j) = false := by simp
          have HT4 : Hid (RowOf w wr ((es.take (k + 1)).foldl addE []) u) := by
            have h := HT.out
            rw [List.take_of_length_le (by rw [HQ.out]; exact Nat.le_refl _)] at h
            rw [HNX.out]
            unfold addE
            rcases hj0 with rfl | h0
            · have e0 : xw = [] := List.length_eq_zero_iff.1 HQ.out
              rw [e0] at h ⊢
              simp only [List.foldl_nil, ite_self]
              exact h
            · rw [if_neg (by rw [h0]; simp)]
              exact h
          go_wp2
          exact ⟨⟨k + 1, u, by omega, by go_num, rfl, HT4⟩, by simp [intOf]; omega⟩
    · have hkk : k = n := by omega
      subst hkk
      have HF : Hid (RowOf w wr (writtenL es) v) := by
        have h := HT.out
        rw [List.take_of_length_le (by rw [HN.out]; exact Nat.le_refl _)] at h
        exact h
      go_wp2
      go_ret
      exact ⟨_, rfl, HF.out⟩

end Go.Proofs.Ytomndnopbpbblaa

/- Causes, the specification's side: what spec.CausesOf holds while it walks. -/
namespace Go.Proofs.Ytomndnopbpbblaa
open Go.ChangeShapes Go.WideShapes Go.ChangeAt Go.RowKit Go.Joins

/-- The block of a write that is turned. -/
def XBox (w : World) (kx : Nat) (y : Wr) (ya : Option Addr) (yp : Nat) : Prop := w.heap[kx]? = some (.cells #[.int .i64 y.k, .int .i64 y.c, .int .i64 y.s, .int .i64 y.q, .int .i64 y.v, .bool y.de, .slice ya y.xs.length yp] 37 (0, 0))

/-- What is told lies in a row of its own; the write that is asked lies in block kx; its dependencies are those that came in or those of one that is told. -/
structure SpW (w w1 wr : World) (kx : Nat) (ad : Option Addr) (ds : List Dp) (y : Wr) (ya : Option Addr) (yp : Nat) (out : List Wr) (g cp : Nat) (gs : List En) : Prop where
  xs : gs.map (·.x) = out
  row : RowEs wr w1.heap.size g cp gs
  below : Below w1.heap.size w1 wr
  box : XBox wr kx y ya yp
  n1 : g ≠ kx
  n2 : ∀ e ∈ gs, e.g ≠ kx
  kge : w1.heap.size ≤ kx
  src : (ya = ad ∧ y.xs = ds) ∨ ∃ e ∈ gs, ya = some ⟨e.g, 0, none⟩ ∧ y.xs = e.x.xs

theorem SpW.lt {w w1 wr : World} {kx : Nat} {ad : Option Addr} {ds : List Dp} {y : Wr} {ya : Option Addr} {yp : Nat} {out : List Wr} {g cp : Nat} {gs : List En} (h : SpW w w1 wr kx ad ds y ya yp out g cp gs) : kx < wr.heap.size := (Array.getElem?_eq_some_iff.1 h.box).1

theorem SpW.more {w w1 wr w' : World} {kx : Nat} {ad : Option Addr} {ds : List Dp} {y : Wr} {ya : Option Addr} {yp : Nat} {out : List Wr} {g cp : Nat} {gs : List En} (h : SpW w w1 wr kx ad ds y ya yp out g cp gs) (hb : Below wr.heap.size wr w') : SpW w w1 w' kx ad ds y ya yp out g cp gs :=
  ⟨h.xs, h.row.below hb, below_step h.below h.below.size hb, (hb.block kx h.lt).trans h.box, h.n1, h.n2, h.kge, h.src⟩

/-- Where the dependencies lie that are asked. -/
theorem SpW.deps {w w1 wr : World} {kx : Nat} {ad : Option Addr} {ds : List Dp} {y : Wr} {ya : Option Addr} {yp : Nat} {out : List Wr} {g cp : Nat} {gs : List En} (h : SpW w w1 wr kx ad ds y ya yp out g cp gs) (hw : Below w.heap.size w w1) (hd : IsDeps w ad ds) : IsDeps wr ya y.xs := by
  rcases h.src with ⟨h1, h2⟩ | ⟨e, he, h1, h2⟩
  · rw [h1, h2]
    exact hd.below (below_step hw hw.size h.below)
  · obtain ⟨d1, d2, d3, d4⟩ := h.row.deps e he
    rw [h1, h2]
    exact .inr ⟨e.g, 0, rfl, d2, d4⟩

/-- One more is told. -/
theorem SpW.told {w w1 w4 w5 : World} {kx : Nat} {ad : Option Addr} {ds : List Dp} {y : Wr} {ya : Option Addr} {yp : Nat} {out : List Wr} {g cp g5 cap5 : Nat} {gs : List En} {e : En} (h : SpW w w1 w4 kx ad ds y ya yp out g cp gs) (he : w1.heap.size ≤ e.g ∧ e.g < w4.heap.size ∧ e.g ≠ g ∧ HoldsDeps w4 e.g 0 e.x.xs) (hk : e.g ≠ kx)
    (hown : w5.ownsRow w1.heap.size 37 7 (.slice (some ⟨g5, 0, none⟩) (gs.length + 1) cap5) (gs.length + 1) (gs.flatMap wrVals ++ wrVals e)) (hgrow : w4.grownBy w5 (some g)) (hg : some g = some g5 ∨ g5 = w4.heap.size) : SpW w w1 w5 kx ad ds y ya yp (out ++ [e.x]) g5 cap5 (gs ++ [e]) := by
  have hlt := h.lt
  refine ⟨by rw [List.map_append, h.xs]; rfl, h.row.more he hown hgrow hg, ?_, (hgrow.block kx hlt fun e => h.n1 (by injection e with e; exact e.symm)).trans h.box, fun e5 => ?_, fun d hd => ?_, h.kge, ?_⟩
  · exact h.below.grown hgrow h.below.size fun j hj => by
      have e1 : g = j := by injection hj
      have := h.row.le
      omega
  · rcases hg with hg | hg
    · injection hg with hg
      exact h.n1 (hg.trans e5)
    · omega
  · rcases List.mem_append.1 hd with hd | hd
    · exact h.n2 d hd
    · have e1 : d = e := by simpa using hd
      rw [e1]
      exact hk
  · rcases h.src with h1 | ⟨d, hd, h1⟩
    · exact .inl h1
    · exact .inr ⟨d, by simp [hd], h1⟩

/-- The next one that is told is asked: only block kx has turned. -/
theorem SpW.ask {w w1 w4 w5 : World} {kx : Nat} {ad : Option Addr} {ds : List Dp} {y : Wr} {ya : Option Addr} {yp : Nat} {out : List Wr} {g cp : Nat} {gs : List En} {e : En} (h : SpW w w1 w4 kx ad ds y ya yp out g cp gs) (he : e ∈ gs) (hb : XBox w5 kx e.x (some ⟨e.g, 0, none⟩) e.cp) (ht : w4.grownBy w5 (some kx)) : SpW w w1 w5 kx ad ds e.x (some ⟨e.g, 0, none⟩) e.cp out g cp gs := by
  have hk : ∀ k, k < w4.heap.size → k ≠ kx → w5.heap[k]? = w4.heap[k]? := fun k h1 h2 => ht.block k h1 fun e => h2 (by injection e)
  refine ⟨h.xs, ⟨h.row.le, Nat.lt_of_lt_of_le h.row.lt ht.size, ?_, fun d hd => ?_⟩, ?_, hb, h.n1, h.n2, h.kge, .inr ⟨e, he, rfl, rfl⟩⟩
  · exact ownsRow_but h.row.own (But.grown ht) fun x hx => by
      have e1 : g = x := by simpa [Value.ownBlock] using hx
      rw [← e1]
      exact h.n1
  · obtain ⟨d1, d2, d3, d4⟩ := h.row.deps d hd
    refine ⟨d1, Nat.lt_of_lt_of_le d2 ht.size, d3, fun i hi => ?_⟩
    have e' : ∀ o, w5.cell? ⟨d.g, o, none⟩ = w4.cell? ⟨d.g, o, none⟩ := fun o => World.cell?_of_block (a := ⟨d.g, o, none⟩) (hk d.g d2 (h.n2 d hd))
    obtain ⟨a0, a1, a2, a3⟩ := d4 i hi
    exact ⟨(e' _).trans a0, (e' _).trans a1, (e' _).trans a2, (e' _).trans a3⟩
  · exact h.below.grown ht h.below.size fun j hj => by
      have e1 : kx = j := by injection hj
      have := h.kge
      omega

end Go.Proofs.Ytomndnopbpbblaa

/- Causes, the specification's side: the contract of spec.CausesOf. -/
namespace Go.Proofs.Ytomndnopbpbblaa
open Go.ChangeShapes Go.WideShapes Go.ChangeAt Go.RowKit Go.Joins
attribute [local go_sem ↓] Go.wp_at_zero Go.wp_at_succ

/-- At place d of round c, in memory. -/
def SpQ (w w1 wr : World) (kx : Nat) (ad : Option Addr) (ds : List Dp) (all : List Wr) (y : Wr) (ya : Option Addr) (yp : Nat) (c d : Nat) (v : Value) : Prop := ∃ out g cp gs, v = .slice (some ⟨g, 0, none⟩) out.length cp ∧ SpW w w1 wr kx ad ds y ya yp out g cp gs ∧ SpC all ds c d out ∧ y.xs = chunkC ds out c

/-- Midway. -/
def SpI (w w1 wr : World) (kx : Nat) (ad : Option Addr) (ds : List Dp) (y : Wr) (ya : Option Addr) (yp : Nat) (out : List Wr) (v : Value) : Prop := ∃ g cp gs, v = .slice (some ⟨g, 0, none⟩) out.length cp ∧ SpW w w1 wr kx ad ds y ya yp out g cp gs

theorem cauW_no {d : Dp} {out : List Wr} {y : Wr} (h : matchD d y = false) : cauW d out y = out := if_neg (by rw [h]; simp)

theorem cauW_has {d : Dp} {out : List Wr} {y : Wr} (h : hasW out y = true) : cauW d out y = out := if_neg (by rw [h]; simp)

theorem cauW_yes {d : Dp} {out : List Wr} {y : Wr} (h : matchD d y = true) (hn : hasW out y = false) : cauW d out y = out ++ [y] := if_pos (by rw [h, hn]; rfl)

theorem rowEs_at {w : World} {base g cap : Nat} {es : List En} (h : RowEs w base g cap es) {k : Nat} (hk : k < es.length) : WrAt w g (k * 7) (es.getD k ez).x (some ⟨(es.getD k ez).g, 0, none⟩) (es.getD k ez).cp := by
  have c : ∀ c, c < 7 → w.cell? ⟨g, k * 7 + c, none⟩ = (wrVals (es.getD k ez))[c]? := fun c hc => by rw [h.own.cellAt _ (by omega), vals_at es k c hk hc]
  exact ⟨c 0 (by omega), c 1 (by omega), c 2 (by omega), c 3 (by omega), c 4 (by omega), c 5 (by omega), c 6 (by omega)⟩

theorem xbox_frozen {w : World} {kx : Nat} {y : Wr} {ya : Option Addr} {yp : Nat} (h : XBox w kx y ya yp) (o : Nat) : w.frozen? ⟨kx, o, none⟩ = false := by
  unfold XBox at h
  simp [World.frozen?, h]

/-- The write in the block turned. -/
def setX (W : World) (T : Nat) (k c s q v : Int) (de : Bool) (x : Option Addr) (l p : Nat) : World :=
  ((((((W.setCell ⟨T, 0, none⟩ (.int .i64 k)).setCell ⟨T, 1, none⟩ (.int .i64 c)).setCell ⟨T, 2, none⟩ (.int .i64 s)).setCell ⟨T, 3, none⟩ (.int .i64 q)).setCell ⟨T, 4, none⟩ (.int .i64 v)).setCell ⟨T, 5, none⟩ (.bool de)).setCell ⟨T, 6, none⟩ (.slice x l p)

theorem setX_grown (W : World) (T : Nat) (k c s q v : Int) (de : Bool) (x : Option Addr) (l p : Nat) : W.grownBy (setX W T k c s q v de x l p) (some T) :=
  grown_trans (grown_trans (grown_trans (grown_trans (grown_trans (grown_trans (grown_set _ _ _ _) (grown_set _ _ _ _)) (grown_set _ _ _ _)) (grown_set _ _ _ _)) (grown_set _ _ _ _)) (grown_set _ _ _ _)) (grown_set _ _ _ _)

theorem setX_box {W : World} {T : Nat} {y : Wr} {ya : Option Addr} {yp : Nat} (h : XBox W T y ya yp) (z : Wr) (za : Option Addr) (zp : Nat) : XBox (setX W T z.k z.c z.s z.q z.v z.de za z.xs.length zp) T z za zp := by
  unfold XBox at h ⊢
  have hlt : T < W.heap.size := (Array.getElem?_eq_some_iff.1 h).1
  simp [setX, World.setCell, Array.getElem?_modify, h]

set_option maxRecDepth 100000 in
set_option maxHeartbeats 8000000 in
theorem specCauses_any (a : Option Addr) (n cap : Nat) (es : List Ev) (x : Wr) (ad : Option Addr) (cp : Nat) (w : World) (hn : es.length = n) (hm : n ≤ 1048576) (hx : FewE es) (hh : heftB (evW es) ≤ 1048576) (hi : IsEs w a es) (hxl : x.xs.length ≤ 1048576) (hxd : IsDeps w ad x.xs) (hnd : (writtenL es).Nodup) :
    Calls Try.prog 7 #[.slice a n cap, wrOf x ad cp] w fun e w' => ∃ v, e = .returned v ∧ RowOf w w' (causesL (writtenL es) x.xs) v := by
  have HXD := Lib.hid hxd
  have HND := Lib.hid hnd
  have HWG : Hid (wgt (writtenL es) ≤ 1048576) := Nat.le_trans (written_wgt es) hh
  obtain ⟨i0, hi0, hx0⟩ := Option.map_eq_some_iff.1 infoWr
  simp only [Prod.mk.injEq] at hx0
  have HI0 := Lib.hid hi0
  have HX0 := Lib.hid hx0
  clear hi0 hx0
  obtain ⟨xk, xc, xs', xq, xv, xd, xx⟩ := x
  unfold wrOf
  simp only at hxl HXD ⊢
  have HBA : Hid (Below w.heap.size w (w.alloc (.cells #[.int .i64 xk, .int .i64 xc, .int .i64 xs', .int .i64 xq, .int .i64 xv, .bool xd, .slice ad xx.length cp] 37))) := (Below.refl _ _).alloc (Nat.le_refl _) _
  have HBX : Hid ((w.alloc (.cells #[.int .i64 xk, .int .i64 xc, .int .i64 xs', .int .i64 xq, .int .i64 xv, .bool xd, .slice ad xx.length cp] 37)).heap[w.heap.size]? = some (.cells #[.int .i64 xk, .int .i64 xc, .int .i64 xs', .int .i64 xq, .int .i64 xv, .bool xd, .slice ad xx.length cp] 37 (0, 0))) := heap_alloc_new _ _
  have HSZ : Hid (w.heap.size < (w.alloc (.cells #[.int .i64 xk, .int .i64 xc, .int .i64 xs', .int .i64 xq, .int .i64 xv, .bool xd, .slice ad xx.length cp] 37)).heap.size) := by show _ < _; simp
  have HSW := Lib.hid (specWritten_any a n cap es (w.alloc (.cells #[.int .i64 xk, .int .i64 xc, .int .i64 xs', .int .i64 xq, .int .i64 xv, .bool xd, .slice ad xx.length cp] 37)) hn hm hx hh (hi.below HBA.out))
  clear hxd hnd hn hx hh hi
  obtain ⟨all, hall⟩ : ∃ all, writtenL es = all := ⟨_, rfl⟩
  rw [hall] at HSW HND HWG ⊢
  clear hall
  go_enter Try.func7, Try.ntmps7
  go_wp2_with fail
  refine HSW.out.mono ?_
  rintro e w1 ⟨v5, rfl, hro⟩
  have HB1 : Hid (Below w.heap.size w w1) := below_step HBA.out HBA.out.size hro.below
  have q1 := (hro.below.block _ HSZ.out).trans HBX.out
  have c0 := cell_of_row w1 w.heap.size 0 _ _ _ q1
  have c1 := cell_of_row w1 w.heap.size 1 _ _ _ q1
  have c2 := cell_of_row w1 w.heap.size 2 _ _ _ q1
  have c3 := cell_of_row w1 w.heap.size 3 _ _ _ q1
  have c4 := cell_of_row w1 w.heap.size 4 _ _ _ q1
  have c5 := cell_of_row w1 w.heap.size 5 _ _ _ q1
  have c6 := cell_of_row w1 w.heap.size 6 _ _ _ q1
  simp at c0 c1 c2 c3 c4 c5 c6
  have hz1 : w.heap.size < w1.heap.size := Nat.lt_of_lt_of_le HSZ.out hro.below.size
  have HFW : Hid (Few all) := few_wgt HWG.out
  obtain ⟨ga, ca, gas, rfl, hga, hgr, -⟩ := hro
  have HAW := Lib.hid (hgr.isWs hga HFW.out)
  clear hga hgr q1 HSW HBX HSZ HBA
  obtain ⟨N, hN⟩ : ∃ N, all.length = N := ⟨_, rfl⟩
  have HN := Lib.hid hN
  have hNl : N ≤ 1048576 := by
    have h := HWG.out
    unfold wgt at h
    omega
  rw [hN]
  clear hN
  have HT0 : Hid (SpQ w w1 ((w1.alloc (.cells #[] 37)).alloc (.cells #[.int .i64 xk, .int .i64 xc, .int .i64 xs', .int .i64 xq, .int .i64 xv, .bool xd, .slice ad xx.length cp] 37)) (w1.heap.size + 1) ad xx all ⟨xk, xc, xs', xq, xv, xd, xx⟩ ad cp 0 0 (.slice (some ⟨w1.heap.size, 0, none⟩) 0 0)) := by
    refine ⟨[], _, _, [], rfl, ⟨rfl, (rowEs_start w1 w1.heap.size (Nat.le_refl _)).below ((Below.refl _ _).alloc (Nat.le_refl _) _), ((Below.refl _ _).alloc (Nat.le_refl _) _).alloc (by simp) _, heap_alloc2_new _ _ _, by omega, (fun e he => by cases he), by omega, .inl ⟨rfl, rfl⟩⟩, spC_start _ _, rfl⟩
  go_wp2
  generalize (w1.alloc (.cells #[] 37)).alloc (.cells #[.int .i64 xk, .int .i64 xc, .int .i64 xs', .int .i64 xq, .int .i64 xv, .bool xd, .slice ad xx.length cp] 37) = W2 at *
  clear c0 c1 c2 c3 c4 c5 c6
  go_loopw [6, 8] (fun t6 t8 wr => ∃ (c : Nat) (v : Value), v = t6 ∧ t8 = .int .i64 c ∧ c ≤ 1048576 ∧ Hid (∃ y ya yp, SpQ w w1 wr (w1.heap.size + 1) ad xx all y ya yp c 0 v)) (fun _ i _ => 1048577 - (intOf i).toNat)
  case atStart => exact ⟨0, _, rfl, rfl, Nat.zero_le _, ⟨_, _, _, HT0.out⟩⟩
  case round =>
    clear HT0
    obtain ⟨c, v, rfl, rfl, hc, HT⟩ := hrel
    obtain ⟨y, ya, yp, hq⟩ := HT.out
    have HQ := Lib.hid hq
    clear hq HT
    obtain ⟨ql, hql⟩ : ∃ ql, y.xs.length = ql := ⟨_, rfl⟩
    have HQL := Lib.hid hql
    have hqb : ql ≤ 1048576 := by
      obtain ⟨out, g, cp', gs, h1, h2, h3, h4⟩ := HQ.out
      rw [← hql, h4]
      cases c with
      | zero => exact hxl
      | succ k =>
        have hk : k < out.length := h3.le
        have h5 := h3.wgt
        have h6 := HWG.out
        have h7 := bulk_one out k hk
        simp only [chunkC]
        unfold wgt at h5 h6
        omega
    have HCX : Hid (∀ W d u, SpQ w w1 W (w1.heap.size + 1) ad xx all y ya yp c d u → W.cell? ⟨w1.heap.size + 1, 6, none⟩ = some (.slice ya ql yp)) := fun W d u ⟨out, g, cp', gs, h1, h2, h3, h4⟩ => by
      rw [cell_of_row W _ 6 _ _ _ h2.box, ← HQL.out]
      rfl
    clear hql
    go_wp2
    go_loopw [6, 9] (fun t6 t9 wr => ∃ (d : Nat) (u : Value), u = t6 ∧ t9 = .int .i64 d ∧ d ≤ ql ∧ Hid (SpQ w w1 wr (w1.heap.size + 1) ad xx all y ya yp c d u)) (fun _ i _ => ql - (intOf i).toNat)
    case atStart => exact ⟨0, _, rfl, rfl, Nat.zero_le _, HQ⟩
    case round =>
      clear HQ
      obtain ⟨d, u, rfl, rfl, hd, HQ⟩ := hrel
      have c6 := HCX.out wr d u HQ.out
      by_cases hd' : d < ql
      · have hdl : d < y.xs.length := by rw [HQL.out]; exact hd'
        have i1 : (0 : Int) ≤ (d : Int) := by omega
        have i2 : (d : Int) < (ql : Int) := by omega
        obtain ⟨out, g, cp', gs, rfl, hspw, hspc, hch⟩ := HQ.out
        have HS := Lib.hid hspw
        have HC := Lib.hid hspc
        have HCH := Lib.hid hch
        have HST : Hid (SpI w w1 wr (w1.heap.size + 1) ad xx y ya yp ((all.take 0).foldl (cauW (y.xs.getD d dz)) out) (.slice (some ⟨g, 0, none⟩) out.length cp')) := ⟨g, cp', gs, rfl, hspw⟩
        have HMW : Hid (∀ i, wgt ((all.take i).foldl (cauW (y.xs.getD d dz)) out) ≤ 1048576) := fun i => by
          have h := HC.out.mid HND.out (by rw [← HCH.out]; exact hdl) i
          rw [← HCH.out] at h
          exact Nat.le_trans h HWG.out
        have HNX : Hid (∀ W v', SpI w w1 W (w1.heap.size + 1) ad xx y ya yp ((all.take N).foldl (cauW (y.xs.getD d dz)) out) v' → SpQ w w1 W (w1.heap.size + 1) ad xx all y ya yp c (d + 1) v') := fun W v' ⟨g', cp2, gs', h1, h2⟩ => by
          rw [List.take_of_length_le (by rw [HN.out]; exact Nat.le_refl _)] at h1 h2
          obtain ⟨n1, n2, -⟩ := HC.out.next HND.out (by rw [← HCH.out]; exact hdl)
          rw [← HCH.out] at n1 n2
          exact ⟨_, g', cp2, gs', h1, h2, n1, n2.symm⟩
        have HC6 : Hid (∀ W v' o, SpI w w1 W (w1.heap.size + 1) ad xx y ya yp o v' → W.cell? ⟨w1.heap.size + 1, 6, none⟩ = some (.slice ya ql yp)) := fun W v' o ⟨g', cp2, gs', h1, h2⟩ => by
          rw [cell_of_row W _ 6 _ _ _ h2.box, ← HQL.out]
          rfl
        clear hspw hspc hch HQ
        go_wp2
        go_loopw [6, 10] (fun t6 t10 wr => ∃ (i : Nat) (u : Value), u = t6 ∧ t10 = .int .i64 i ∧ i ≤ N ∧ Hid (SpI w w1 wr (w1.heap.size + 1) ad xx y ya yp ((all.take i).foldl (cauW (y.xs.getD d dz)) out) u)) (fun _ i _ => N - (intOf i).toNat)
        case atStart => exact ⟨0, _, rfl, rfl, Nat.zero_le _, HST⟩
        case round =>
          clear HST HS
          obtain ⟨i, u, rfl, rfl, hi, HT⟩ := hrel
          by_cases hi' : i < N
          · have hiw : i < all.length := by rw [HN.out]; exact hi'
            have i3 : (0 : Int) ≤ (i : Int) := by omega
            have i4 : (i : Int) < (N : Int) := by omega
            have HNI := Lib.hid (foldl_next (cauW (y.xs.getD d dz)) all out wz hiw)
            have hwg := HMW.out i
            have c6 := HC6.out wr _ _ HT.out
            generalize (all.take i).foldl (cauW (y.xs.getD d dz)) out = oi at *
            have hol : oi.length ≤ 1048576 := by unfold wgt at hwg; omega
            have HOF : Hid (Few oi) := few_wgt hwg
            obtain ⟨g, cp', gs, rfl, hspw⟩ := HT.out
            have HS := Lib.hid hspw
            have hkl := hspw.lt
            obtain ⟨bd, od, hya, hbd, hdd⟩ : ∃ bd od, ya = some ⟨bd, od, none⟩ ∧ bd < wr.heap.size ∧ HoldsDeps wr bd od y.xs := by
              rcases hspw.deps HB1.out HXD.out with h | ⟨bd, od, h1, h2, h3⟩
              · rw [h] at hdl
                simp at hdl
              · exact ⟨bd, od, h1, h2, h3⟩
            subst hya
            obtain ⟨d0, d1, d2, d3⟩ := hdd d hdl
            obtain ⟨bz, oz, az, cz, hza, hbz, ⟨e0, e1, e2, e3, e4, e5, e6⟩, hdz⟩ := HAW.out.at hspw.below HN.out hi'
            injection hza with hza
            injection hza with hz1 hz2
            subst hz1
            subst hz2
            rw [Nat.zero_add] at e0 e1 e2 e3 e4 e5 e6
            have HDZ := Lib.hid hdz
            have hzl : (all.getD i wz).xs.length ≤ 1048576 := HFW.out i hiw
            have hgl : gs.length = oi.length := by
              have h := congrArg List.length HS.out.xs
              rwa [List.length_map] at h
            have HGW : Hid (IsWs wr (some ⟨g, 0, none⟩) oi) := hspw.row.isWs hspw.xs HOF.out
            clear hspw HT hdd hdz hwg
            generalize y.xs.getD d dz = dd at *
            generalize all.getD i wz = z at *
            obtain ⟨dk, dc, dsn, dq⟩ := dd
            obtain ⟨zk, zc, zs, zq, zv, zd, zz⟩ := z
            simp only at d0 d1 d2 d3 e0 e1 e2 e3 e4 e5 e6 hzl HDZ
            obtain ⟨L, hL⟩ : ∃ L, oi.length = L := ⟨_, rfl⟩
            have HLN := Lib.hid hL
            rw [hL] at hol hgl ⊢
            clear hL
            obtain ⟨hb, hhb⟩ : ∃ hb, hasW oi ⟨zk, zc, zs, zq, zv, zd, zz⟩ = hb := ⟨_, rfl⟩
            have HHB := Lib.hid hhb
            clear hhb
            have HHP : Hid (∀ p : Aft wr.heap.size wr, Calls Try.prog 23 #[.slice (some ⟨g, 0, none⟩) L cp', wrV zk zc zs zq zv zd az zz.length cz] p.now fun e w' => e = .returned (.bool hb) ∧ Below p.now.heap.size p.now w') := fun p => by
              rw [← HHB.out]
              exact specHas_any _ L _ oi ⟨zk, zc, zs, zq, zv, zd, zz⟩ az cz _ HLN.out hol HOF.out hzl (HGW.out.below p.below) (HDZ.out.below p.below)
            go_wp2_with fail
            have g0 := aft_cell hbz e0
            have g1 := aft_cell hbz e1
            have g2 := aft_cell hbz e2
            have g3 := aft_cell hbz e3
            have g4 := aft_cell hbz e4
            have g5 := aft_cell hbz e5
            have g6 := aft_cell hbz e6
            have k0 := aft_cell hbd d0
            have k1 := aft_cell hbd d1
            have k2 := aft_cell hbd d2
            have k3 := aft_cell hbd d3
            have k6 := aft_cell hkl c6
            have ne := aft_some wr
            by_cases hkk : zk = dk
            · subst hkk
              have HNF : Hid ((zc ≠ dc ∨ zs ≠ dsn ∨ zq ≠ dq) → (all.take (i + 1)).foldl (cauW ⟨zk, dc, dsn, dq⟩) out = oi) := fun h => HNI.out.trans (cauW_no (by
                cases hm : matchD ⟨zk, dc, dsn, dq⟩ ⟨zk, zc, zs, zq, zv, zd, zz⟩ with
                | false => rfl
                | true =>
                  have e := (matchD_iff _ _).1 hm
                  unfold dpOf at e
                  injection e with q1 q2 q3 q4
                  simp only at q2 q3 q4
                  omega))
              have hcase : (zc = dc ∧ zs = dsn ∧ zq = dq) ∨ zc ≠ dc ∨ (zc = dc ∧ zs ≠ dsn) ∨ (zc = dc ∧ zs = dsn ∧ zq ≠ dq) := by omega
              rcases hcase with ⟨h1, h2, h3⟩ | h1 | ⟨h1, h2⟩ | ⟨h1, h2, h3⟩
              · clear HNF
                subst h1
                subst h2
                subst h3
                have HMT : Hid (matchD ⟨zk, zc, zs, zq⟩ ⟨zk, zc, zs, zq, zv, zd, zz⟩ = true) := by
                  show _ = _
                  unfold matchD
                  simp
                cases hb with
                | true =>
                  have HNM : Hid ((all.take (i + 1)).foldl (cauW ⟨zk, zc, zs, zq⟩) out = oi) := HNI.out.trans (cauW_has HHB.out)
                  refine wp_region_aft (by kernel_rfl) (by kernel_rfl) ?_
                  repeat (first | go_big_quiet_step (first | (go_at_call 23; exact aft_of (HHP.out _))))
                  refine wpQuiet_nil ?_
                  intro wq hq
                  have HT3 : Hid (SpI w w1 wq (w1.heap.size + 1) ad xx y (some ⟨bd, od, none⟩) yp ((all.take (i + 1)).foldl (cauW ⟨zk, zc, zs, zq⟩) out) (.slice (some ⟨g, 0, none⟩) L cp')) := by
                    rw [HNM.out]
                    exact ⟨g, cp', gs, by rw [HLN.out], HS.out.more hq⟩
                  clear hq g0 g1 g2 g3 g4 g5 g6 k0 k1 k2 k3 k6 ne HHP
                  go_wp2
                  exact ⟨⟨i + 1, _, rfl, by go_num, by omega, HT3⟩, by simp [intOf]; omega⟩
                | false =>
                  have HNM : Hid ((all.take (i + 1)).foldl (cauW ⟨zk, zc, zs, zq⟩) out = oi ++ [⟨zk, zc, zs, zq, zv, zd, zz⟩]) := HNI.out.trans (cauW_yes HMT.out HHB.out)
                  refine wp_region_aft (by kernel_rfl) (by kernel_rfl) ?_
                  repeat (first | go_big_quiet_step (first | (go_at_call 23; exact aft_of (HHP.out _))))
                  refine wpQuiet_nil ?_
                  intro w3 hb3
                  replace e0 := (hb3.cell (p := ⟨ga, i * 7, none⟩) hbz).trans e0
                  replace e1 := (hb3.cell (p := ⟨ga, i * 7 + 1, none⟩) hbz).trans e1
                  replace e2 := (hb3.cell (p := ⟨ga, i * 7 + 2, none⟩) hbz).trans e2
                  replace e3 := (hb3.cell (p := ⟨ga, i * 7 + 3, none⟩) hbz).trans e3
                  replace e4 := (hb3.cell (p := ⟨ga, i * 7 + 4, none⟩) hbz).trans e4
                  replace e5 := (hb3.cell (p := ⟨ga, i * 7 + 5, none⟩) hbz).trans e5
                  replace e6 := (hb3.cell (p := ⟨ga, i * 7 + 6, none⟩) hbz).trans e6
                  have HS3 := Lib.hid (HS.out.more hb3)
                  have HD3 := Lib.hid (HDZ.out.below hb3)
                  have hkl3 := HS3.out.lt
                  clear hb3 g0 g1 g2 g3 g4 g5 g6 k0 k1 k2 k3 k6 ne HHP HS HDZ HGW d0 d1 d2 d3 c6
                  go_wp2_with fail
                  refine (copy_any ⟨zk, zc, zs, zq, zv, zd, zz⟩ az cz _ hzl HD3.out).mono ?_
                  rintro e w4 ⟨g2, cp2, rfl, hg1, hg2, hg3, hb4⟩
                  have HS4 := Lib.hid (HS3.out.more hb4)
                  have HG : Hid (HoldsDeps w4 g2 0 zz) := hg3
                  have hg5 : g2 ≠ g := by have := HS3.out.row.lt; omega
                  have hg7 : g2 ≠ w1.heap.size + 1 := by omega
                  have hg6 : w1.heap.size ≤ g2 := Nat.le_trans HS3.out.below.size hg1
                  clear hb4 hg3 hg1 HD3 HS3 e0 e1 e2 e3 e4 e5 e6
                  have HBA : Hid (Below w4.heap.size w4 (w4.alloc (.cells #[.int .i64 zk, .int .i64 zc, .int .i64 zs, .int .i64 zq, .int .i64 zv, .bool zd, .slice (some ⟨g2, 0, none⟩) zz.length cp2] 37))) := (Below.refl _ _).alloc (Nat.le_refl _) _
                  have HSA := Lib.hid (HS4.out.more HBA.out)
                  have HOW : Hid ((w4.alloc (.cells #[.int .i64 zk, .int .i64 zc, .int .i64 zs, .int .i64 zq, .int .i64 zv, .bool zd, .slice (some ⟨g2, 0, none⟩) zz.length cp2] 37)).ownsRow w1.heap.size 37 7 (.slice (some ⟨g, 0, none⟩) L cp') L (gs.flatMap wrVals)) := by
                    have := HSA.out.row.own
                    rw [hgl] at this
                    exact this
                  have hsz : w1.heap.size ≤ w4.heap.size := HS4.out.below.size
                  go_wp2_with (at_builtin; refine wpList_append_lies _ (by rfl) _ _ _ (by rfl) w1.heap.size 37 i0 (wrV 0 0 0 0 0 false none 0 0) 7 72 Try.underlying30 HI0.out HX0.out.1 HX0.out.2.1 HX0.out.2.2 (by rfl) (by omega) (.slice (some ⟨g, 0, none⟩) L cp') L (gs.flatMap wrVals) (by rfl) HOW.out ⟨w4.heap.size, 0, none⟩ 1 1 (wrVals ⟨⟨zk, zc, zs, zq, zv, zd, zz⟩, g2, cp2⟩) (by rfl) (by rfl) (one_cells w4 _ ⟨⟨zk, zc, zs, zq, zv, zd, zz⟩, g2, cp2⟩) (by simpa using vals_one [⟨⟨zk, zc, zs, zq, zv, zd, zz⟩, g2, cp2⟩]) (by omega) (by unfold maxLen; omega) (by omega) (by simp; omega) _ rfl ?_; intro g3 cp3 w5 hown hgrow hg3 _; refine Hid.out ?_)
                  refine Lib.hid ?_
                  have HT5 : Hid (SpI w w1 w5 (w1.heap.size + 1) ad xx y (some ⟨bd, od, none⟩) yp ((all.take (i + 1)).foldl (cauW ⟨zk, zc, zs, zq⟩) out) (.slice (some ⟨g3, 0, none⟩) (L + 1) cp3)) := by
                    rw [HNM.out]
                    exact ⟨g3, cp3, _, by rw [List.length_append, HLN.out]; rfl, HSA.out.told (e := ⟨⟨zk, zc, zs, zq, zv, zd, zz⟩, g2, cp2⟩) ⟨hg6, by simp; omega, hg5, HG.out.below HBA.out hg2⟩ hg7 (by rw [hgl]; exact hown) hgrow hg3⟩
                  clear hown hgrow
                  go_wp2
                  exact ⟨⟨i + 1, _, rfl, by go_num, by omega, HT5⟩, by simp [intOf]; omega⟩
              all_goals
                have HNM := Lib.hid (HNF.out (by omega))
                clear HNF
                refine wp_region_aft (by kernel_rfl) (by kernel_rfl) ?_
                repeat (first | go_big_quiet_step (fail))
                refine wpQuiet_nil ?_
                intro wq hq
                have HT3 : Hid (SpI w w1 wq (w1.heap.size + 1) ad xx y (some ⟨bd, od, none⟩) yp ((all.take (i + 1)).foldl (cauW ⟨zk, dc, dsn, dq⟩) out) (.slice (some ⟨g, 0, none⟩) L cp')) := by
                  rw [HNM.out]
                  exact ⟨g, cp', gs, by rw [HLN.out], HS.out.more hq⟩
                clear hq g0 g1 g2 g3 g4 g5 g6 k0 k1 k2 k3 k6 ne
                go_wp2
                exact ⟨⟨i + 1, _, rfl, by go_num, by omega, HT3⟩, by simp [intOf]; omega⟩
            · have hd2 : (zk == dk) = false := by simpa using hkk
              have HT2 : Hid (SpI w w1 wr (w1.heap.size + 1) ad xx y (some ⟨bd, od, none⟩) yp oi (.slice (some ⟨g, 0, none⟩) L cp')) := ⟨g, cp', gs, by rw [HLN.out], HS.out⟩
              have HNM : Hid ((all.take (i + 1)).foldl (cauW ⟨dk, dc, dsn, dq⟩) out = oi) := HNI.out.trans (cauW_no (by unfold matchD; simp [hkk]))
              refine wp_region_aft (by kernel_rfl) (by kernel_rfl) ?_
              repeat (first | go_big_quiet_step (fail))
              refine wpQuiet_nil ?_
              intro wq hq
              have HT3 : Hid (SpI w w1 wq (w1.heap.size + 1) ad xx y (some ⟨bd, od, none⟩) yp ((all.take (i + 1)).foldl (cauW ⟨dk, dc, dsn, dq⟩) out) (.slice (some ⟨g, 0, none⟩) L cp')) := by
                rw [HNM.out]
                exact ⟨g, cp', gs, by rw [HLN.out], HS.out.more hq⟩
              clear hq g0 g1 g2 g3 g4 g5 g6 k0 k1 k2 k3 k6 ne HT2
              go_wp2
              exact ⟨⟨i + 1, _, rfl, by go_num, by omega, HT3⟩, by simp [intOf]; omega⟩
          · obtain rfl : i = N := by omega
            have HQ2 := Lib.hid (HNX.out _ _ HT.out)
            go_wp2
            exact ⟨⟨d + 1, _, rfl, by go_num, by omega, HQ2⟩, by simp [intOf]; omega⟩
      · obtain rfl : d = ql := by omega
        obtain ⟨out, g, cp', gs, rfl, hspw, hspc, hch⟩ := HQ.out
        have HS := Lib.hid hspw
        have hdc : d = (chunkC xx out c).length := by rw [← hch, HQL.out]
        rw [hdc] at hspc
        have HC := Lib.hid hspc
        have hon : out.length ≤ 1048576 := by
          have h1 := hspc.wgt
          have h2 := HWG.out
          unfold wgt at h1 h2
          omega
        clear hspw hspc hch HQ hdc
        obtain ⟨L, hL⟩ : ∃ L, out.length = L := ⟨_, rfl⟩
        have HL := Lib.hid hL
        rw [hL] at hon ⊢
        by_cases hcl : L ≤ c
        · have hge : decide ((L : Int) ≤ (c : Int)) = true := by simpa using hcl
          have HEND : Hid (RowOf w wr (causesL all xx) (.slice (some ⟨g, 0, none⟩) L cp')) := by
            have h1 := HC.out.done (by rw [HL.out]; exact hcl)
            rw [← h1]
            exact ⟨g, cp', gs, by rw [HL.out], HS.out.xs, HS.out.row.mono HB1.out.size, below_step HB1.out HB1.out.size HS.out.below⟩
          clear hL
          go_wp2
          go_ret
          exact ⟨_, rfl, HEND.out⟩
        · have hge : decide ((L : Int) ≤ (c : Int)) = false := by simpa using hcl
          have hcl' : c < L := by omega
          have hgl : gs.length = L := by
            have h := congrArg List.length HS.out.xs
            rw [List.length_map, HL.out] at h
            exact h
          obtain ⟨e0, e1, e2, e3, e4, e5, e6⟩ := rowEs_at HS.out.row (k := c) (by omega)
          have HMEM : Hid (gs.getD c ez ∈ gs) := by
            have h : c < gs.length := by omega
            simp [List.getD, h, Hid]
          have HXE : Hid ((gs.getD c ez).x = out.getD c wz) := by
            have h : c < gs.length := by omega
            show _ = _
            rw [← HS.out.xs]
            simp [List.getD, h]
          have HC2 := Lib.hid (HC.out.round (by rw [HL.out]; exact hcl'))
          have HNW : Hid (∀ z : En, z = gs.getD c ez → SpQ w w1 (setX wr (w1.heap.size + 1) z.x.k z.x.c z.x.s z.x.q z.x.v z.x.de (some ⟨z.g, 0, none⟩) z.x.xs.length z.cp) (w1.heap.size + 1) ad xx all z.x (some ⟨z.g, 0, none⟩) z.cp (c + 1) 0 (.slice (some ⟨g, 0, none⟩) L cp')) := fun z hz => by
            refine ⟨out, g, cp', gs, by rw [HL.out], HS.out.ask (by rw [hz]; exact HMEM.out) (setX_box HS.out.box z.x _ _) (setX_grown _ _ _ _ _ _ _ _ _ _ _), HC2.out, ?_⟩
            rw [hz, HXE.out]
            rfl
          have fz := xbox_frozen HS.out.box
          have hbx := HS.out.box
          have x0 := cell_of_row wr (w1.heap.size + 1) 0 _ _ _ hbx
          have x1 := cell_of_row wr (w1.heap.size + 1) 1 _ _ _ hbx
          have x2 := cell_of_row wr (w1.heap.size + 1) 2 _ _ _ hbx
          have x3 := cell_of_row wr (w1.heap.size + 1) 3 _ _ _ hbx
          have x4 := cell_of_row wr (w1.heap.size + 1) 4 _ _ _ hbx
          have x5 := cell_of_row wr (w1.heap.size + 1) 5 _ _ _ hbx
          have x6 := cell_of_row wr (w1.heap.size + 1) 6 _ _ _ hbx
          simp at x0 x1 x2 x3 x4 x5 x6
          have hNL : L ≤ N + 1048576 := by omega
          have i3 : (0 : Int) ≤ (c : Int) := by omega
          have i4 : (c : Int) < (L : Int) := by omega
          clear hL hbx hgl HXE HMEM HC2
          generalize gs.getD c ez = z at *
          obtain ⟨⟨zk, zc, zs, zq, zv, zd, zz⟩, zg, zp⟩ := z
          have HNZ := Lib.hid (HNW.out _ rfl)
          simp only at e0 e1 e2 e3 e4 e5 e6 HNZ
          clear HNW
          go_wp2
          exact ⟨⟨c + 1, _, rfl, by go_num, by omega, ⟨_, _, _, HNZ.out⟩⟩, by simp [intOf]; omega⟩

end Go.Proofs.Ytomndnopbpbblaa

/- A map from dependencies to rows of writes, each row in a block of its own. -/
namespace Go.Proofs.Ytomndnopbpbblaa
open Go.ChangeShapes Go.WideShapes Go.ChangeAt Go.RowKit Go.Joins Go.Maps

/-- Block b is a map whose rows are those of E. -/
structure RowsIs (w : World) (b n base : Nat) (V : Dp → Option Value) (E : Dp → List EnG) : Prop where
  map : MapIs keyD w b n V
  nil : ∀ d, V d = none → E d = []
  row : ∀ d v, V d = some v → RowSh w base v (E d)
  pos : ∀ d v, V d = some v → ∃ g, v.ownBlock = some g
  off : ∀ d v, V d = some v → v.ownBlock ≠ some b
  apart : ∀ d d' v v', V d = some v → V d' = some v' → d ≠ d' → v.ownBlock ≠ v'.ownBlock

theorem RowsIs.lt {w : World} {b n base : Nat} {V : Dp → Option Value} {E : Dp → List EnG} (h : RowsIs w b n base V E) : ∀ x, SetS b V x → x < w.heap.size := by
  rintro x (rfl | ⟨d, v, h1, h2⟩)
  · exact h.map.lt
  · exact (World.ownsRow.lt (h.row d v h1) x h2).2

theorem RowsIs.base {w : World} {b n base : Nat} {V : Dp → Option Value} {E : Dp → List EnG} (h : RowsIs w b n base V E) (hb : base ≤ b) : ∀ x, SetS b V x → base ≤ x := by
  rintro x (rfl | ⟨d, v, h1, h2⟩)
  · exact hb
  · exact (World.ownsRow.lt (h.row d v h1) x h2).1

theorem RowsIs.keep {w w' : World} {b n base : Nat} {V : Dp → Option Value} {E : Dp → List EnG} (h : RowsIs w b n base V E) (hb : ∀ x, SetS b V x → w'.heap[x]? = w.heap[x]?) : RowsIs w' b n base V E :=
  ⟨h.map.of_block (hb b (.inl rfl)), h.nil, fun d v hv => (h.row d v hv).keep fun g hg => hb g (.inr ⟨d, v, hv, hg⟩), h.pos, h.off, h.apart⟩

theorem RowsIs.below {w w' : World} {b n base : Nat} {V : Dp → Option Value} {E : Dp → List EnG} (h : RowsIs w b n base V E) (hb : Below w.heap.size w w') : RowsIs w' b n base V E :=
  h.keep fun x hx => hb.block x (h.lt x hx)

theorem rowsIs_made (w : World) (base : Nat) : RowsIs (w.alloc (.map #[] 0)) w.heap.size 0 base (fun _ => none) (fun _ => []) where
  map := mapIs_made keyD w
  nil := fun _ _ => rfl
  row := fun _ _ h => by cases h
  pos := fun _ _ h => by cases h
  off := fun _ _ h => by cases h
  apart := fun _ _ _ _ h => by cases h

theorem RowsIs.theRow {w : World} {b n base : Nat} {V : Dp → Option Value} {E : Dp → List EnG} (h : RowsIs w b n base V E) (d : Dp) : RowSh w base (rowV V d) (E d) := by
  unfold rowV
  cases hv : V d with
  | none =>
    rw [h.nil d hv]
    exact ⟨rfl, .inl ⟨rfl, rfl⟩⟩
  | some v => exact h.row d v hv

theorem rowV_own {V : Dp → Option Value} {d : Dp} {g : Nat} (hg : (rowV V d).ownBlock = some g) : ∃ v, V d = some v ∧ v.ownBlock = some g := by
  unfold rowV at hg
  cases hv : V d with
  | none => rw [hv] at hg; simp [Value.ownBlock] at hg
  | some v => rw [hv] at hg; exact ⟨v, rfl, hg⟩

/-- One row turned. -/
theorem RowsIs.put {w w4 w5 : World} {b n base : Nat} {V : Dp → Option Value} {E : Dp → List EnG} (h : RowsIs w b n base V E) {d0 : Dp} {es : List EnG} {v' : Value} (hne : es ≠ [])
    (hrow : RowSh w4 base v' es) (hg : w.grownBy w4 (rowV V d0).ownBlock) (hnew : NewOr w (rowV V d0) v') (hmap : ∀ g : Dp → Option Value, g d0 = some v' → (∀ j, j ≠ d0 → g j = V j) → MapIs keyD w5 b (n + 1) g) (ht : w4.grownBy w5 (some b)) :
    RowsIs w5 b (n + 1) base (updD V d0 (some v')) (updD E d0 es) ∧ (∀ y, SetS b (updD V d0 (some v')) y → SetS b V y ∨ w.heap.size ≤ y) ∧ But (SetS b V) w w5 := by
  have hbl : b < w.heap.size := h.map.lt
  have hvb : v'.ownBlock ≠ some b := fun e => by
    rcases hnew b e with h1 | h1
    · obtain ⟨v, v1, v2⟩ := rowV_own h1
      exact h.off _ v v1 v2
    · omega
  have hpos : ∃ g, v'.ownBlock = some g := by
    rcases hrow.2 with ⟨_, h0⟩ | ⟨g, cap, cur, h1, _⟩
    · exact absurd (List.length_eq_zero_iff.1 h0) hne
    · exact ⟨g, by rw [h1]; rfl⟩
  have hkeep : ∀ d v, V d = some v → d ≠ d0 → ∀ g, v.ownBlock = some g → w5.heap[g]? = w.heap[g]? := fun d v hv hne g hgv => by
    have hlt : g < w.heap.size := (World.ownsRow.lt (h.row d v hv) g hgv).2
    have h1 : some g ≠ (rowV V d0).ownBlock := fun e => by
      obtain ⟨u, u1, u2⟩ := rowV_own e.symm
      exact h.apart d d0 v u hv u1 hne (by rw [hgv, u2])
    have h2 : some g ≠ some b := fun e => h.off d v hv (by rw [hgv]; exact e)
    exact (ht.block g (Nat.lt_of_lt_of_le hlt hg.size) h2).trans (hg.block g hlt h1)
  have hrow5 : RowSh w5 base v' es := hrow.keep fun g hgv => ht.block g (World.ownsRow.lt hrow g hgv).2 fun e => hvb (by rw [hgv]; exact e)
  refine ⟨⟨hmap _ (updD_at _ _ _) fun j hj => updD_off _ _ _ hj, ?_, ?_, ?_, ?_, ?_⟩, ?_, ?_⟩
  · intro d hv
    rcases dp_ne (d := d) (d' := d0) with rfl | hne
    · rw [updD_at] at hv
      cases hv
    · rw [updD_off _ _ _ hne] at hv ⊢
      exact h.nil d hv
  · intro d v hv
    rcases dp_ne (d := d) (d' := d0) with rfl | hne
    · rw [updD_at] at hv ⊢
      obtain rfl : v' = v := by simpa using hv
      exact hrow5
    · rw [updD_off _ _ _ hne] at hv ⊢
      exact (h.row d v hv).keep (hkeep d v hv hne)
  · intro d v hv
    rcases dp_ne (d := d) (d' := d0) with rfl | hne
    · rw [updD_at] at hv
      obtain rfl : v' = v := by simpa using hv
      exact hpos
    · rw [updD_off _ _ _ hne] at hv
      exact h.pos d v hv
  · intro d v hv
    rcases dp_ne (d := d) (d' := d0) with rfl | hne
    · rw [updD_at] at hv
      obtain rfl : v' = v := by simpa using hv
      exact hvb
    · rw [updD_off _ _ _ hne] at hv
      exact h.off d v hv
  · have hap : ∀ d v, V d = some v → d ≠ d0 → v.ownBlock ≠ v'.ownBlock := fun d v hv hne e => by
      obtain ⟨g, hgv⟩ := h.pos d v hv
      rw [hgv] at e
      rcases hnew g e.symm with h1 | h1
      · obtain ⟨u, u1, u2⟩ := rowV_own h1
        exact h.apart d d0 v u hv u1 hne (by rw [hgv, u2])
      · have := (World.ownsRow.lt (h.row d v hv) g hgv).2
        omega
    intro d d' v u hv hu hne
    rcases dp_ne (d := d) (d' := d0) with rfl | h1
    · rw [updD_at] at hv
      obtain rfl : v' = v := by simpa using hv
      rw [updD_off _ _ _ hne.symm] at hu
      exact fun e => hap d' u hu hne.symm e.symm
    · rw [updD_off _ _ _ h1] at hv
      rcases dp_ne (d := d') (d' := d0) with rfl | h2
      · rw [updD_at] at hu
        obtain rfl : v' = u := by simpa using hu
        exact hap d v hv h1
      · rw [updD_off _ _ _ h2] at hu
        exact h.apart d d' v u hv hu hne
  · rintro y (rfl | ⟨d, v, hv, hy⟩)
    · exact .inl (.inl rfl)
    · rcases dp_ne (d := d) (d' := d0) with rfl | hne
      · rw [updD_at] at hv
        obtain rfl : v' = v := by simpa using hv
        rcases hnew y hy with h1 | h1
        · obtain ⟨u, u1, u2⟩ := rowV_own h1
          exact .inl (.inr ⟨_, u, u1, u2⟩)
        · exact .inr h1
      · rw [updD_off _ _ _ hne] at hv
        exact .inl (.inr ⟨d, v, hv, hy⟩)
  · refine ⟨ht.os.trans hg.os, ht.tape.trans hg.tape, ht.output.trans hg.output, Nat.le_trans hg.size ht.size, fun k hk hn => ?_⟩
    refine (ht.block k (Nat.lt_of_lt_of_le hk hg.size) fun e => hn (.inl (by injection e))).trans (hg.block k hk fun e => ?_)
    obtain ⟨u, u1, u2⟩ := rowV_own e.symm
    exact hn (.inr ⟨_, u, u1, u2⟩)

/-- One row struck out. -/
theorem RowsIs.del {w w5 : World} {b n base : Nat} {V : Dp → Option Value} {E : Dp → List EnG} (h : RowsIs w b n base V E) {d0 : Dp} (hmap : ∀ g : Dp → Option Value, g d0 = none → (∀ j, j ≠ d0 → g j = V j) → MapIs keyD w5 b n g) (ht : w.grownBy w5 (some b)) :
    RowsIs w5 b n base (updD V d0 none) (updD E d0 []) ∧ (∀ y, SetS b (updD V d0 none) y → SetS b V y) := by
  have hold : ∀ d v, updD V d0 none d = some v → d ≠ d0 ∧ V d = some v := fun d v hv => by
    rcases dp_ne (d := d) (d' := d0) with rfl | hne
    · rw [updD_at] at hv
      cases hv
    · rw [updD_off _ _ _ hne] at hv
      exact ⟨hne, hv⟩
  refine ⟨⟨hmap _ (updD_at _ _ _) fun j hj => updD_off _ _ _ hj, fun d hv => ?_, fun d v hv => ?_, fun d v hv => h.pos d v (hold d v hv).2, fun d v hv => h.off d v (hold d v hv).2, fun d d' v v' hv hv' => h.apart d d' v v' (hold d v hv).2 (hold d' v' hv').2⟩, ?_⟩
  · rcases dp_ne (d := d) (d' := d0) with rfl | hne
    · exact updD_at _ _ _
    · rw [updD_off _ _ _ hne] at hv ⊢
      exact h.nil d hv
  · obtain ⟨hne, hv'⟩ := hold d v hv
    rw [updD_off _ _ _ hne]
    exact (h.row d v hv').keep fun g hg => ht.block g (World.ownsRow.lt (h.row d v hv') g hg).2 fun e => h.off d v hv' (by rw [hg]; exact e)
  · rintro y (rfl | ⟨d, v, hv, hy⟩)
    · exact .inl rfl
    · exact .inr ⟨d, v, (hold d v hv).2, hy⟩

end Go.Proofs.Ytomndnopbpbblaa
