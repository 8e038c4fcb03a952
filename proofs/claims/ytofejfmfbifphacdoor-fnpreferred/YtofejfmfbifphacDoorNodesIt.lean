/- The iterator impl.nodesFrom: its contract for a loop over it. -/
import Derived.RangeFuncNested
import Derived.RangeFuncBound
import Derived.RangeFuncCalls
import Derived.RangeFuncLeaves
import Derived.RangeFuncBox
import Derived.Shelf.Abstract
import Derived.Shelf.RegionOpen
import Derived.WalkKit
import Derived.OwnWalkIn
import Derived.TacticsInMore
import Derived.LoopNIn
import Derived.LoopIn
import Derived.Test.YtofejfmfbifphacDoorPreferP
import Derived.Test.YtofejfmfbifphacDoorSlotsIn
namespace Go.Proofs.YtofejfmfbifphacDoor
open Go.ChangeShapes Go.WideShapes Go.ChangeAt Go.RowKit Go.Joins Go.Shelf
attribute [local go_sem] Oper.semAt_some

/-- An int that is within its range. -/
abbrev I64 := { x : Int // (Lit.int .i64 x).wf = true }

/-- The blocks of S lie as they lay. -/
structure Kept (S : Nat → Prop) (W W' : World) : Prop where
  size : W.heap.size ≤ W'.heap.size
  same : ∀ b, S b → b < W.heap.size → W'.heap[b]? = W.heap[b]?

set_option maxRecDepth 100000 in
theorem Kept.refl (S : Nat → Prop) (W : World) : Kept S W W := ⟨Nat.le_refl _, fun _ _ _ => rfl⟩

set_option maxRecDepth 100000 in
theorem Kept.trans {S : Nat → Prop} {A B C : World} (h : Kept S A B) (k : Kept S B C) : Kept S A C :=
  ⟨Nat.le_trans h.size k.size, fun b hb hl => (k.same b hb (Nat.lt_of_lt_of_le hl h.size)).trans (h.same b hb hl)⟩

set_option maxRecDepth 100000 in
theorem Kept.of_below {S : Nat → Prop} {W W' : World} (h : Below W.heap.size W W') : Kept S W W' := ⟨h.size, fun b _ hl => h.block b hl⟩

set_option maxRecDepth 100000 in
theorem Kept.drew {S : Nat → Prop} {W W' : World} (h : Kept S W W') : Kept S W W'.drew := ⟨h.size, h.same⟩

set_option maxRecDepth 100000 in
theorem Kept.grown {S : Nat → Prop} {W W' : World} {row : Option Nat} (h : W.grownBy W' row) (hr : ∀ b, S b → b < W.heap.size → some b ≠ row) : Kept S W W' :=
  ⟨h.size, fun b hb hl => h.block b hl (hr b hb hl)⟩

set_option maxRecDepth 100000 in
theorem Kept.put {S : Nat → Prop} {w W : World} (hS : ∀ b, S b → b < w.heap.size) (l : Nat) (o o' : Obj) (hl : w.heap.size ≤ l) (_ : W.heap[l]? = some o) (_ : o.isCells = false) (_ : o.isWalk = false) : Kept S W (W.putObj l o') :=
  Kept.grown (grownBy_putObj' W l o') fun b hb _ e => by
    injection e with e
    have := hS b hb
    omega

set_option maxRecDepth 100000 in
theorem Kept.cell {S : Nat → Prop} {W W' : World} (h : Kept S W W') {b o : Nat} (hb : S b) (hl : b < W.heap.size) : W'.cell? ⟨b, o, none⟩ = W.cell? ⟨b, o, none⟩ :=
  World.cell?_of_block (a := ⟨b, o, none⟩) (h.same b hb hl)

/-- What is told from place st on, as numbers within their range. -/
def Told64 (ps : List Pt) (st : Nat) (xs : List I64) : Prop := xs.map (·.1) = seqN ps st

set_option maxRecDepth 100000 in
theorem told64_of {ps : List Pt} (h : ∀ i, i < ps.length → Rng64 (ps.getD i pz).n) (st : Nat) : ∃ xs, Told64 ps st xs := by
  have hw : ∀ x ∈ seqN ps st, (Lit.int .i64 x).wf = true := fun x hx => by
    unfold seqN at hx
    obtain ⟨i, hi, rfl⟩ := List.mem_map.1 hx
    have hi' := List.mem_range.1 hi
    have := h ((st + i) % ps.length) (Nat.mod_lt _ (by omega))
    simp only [Lit.wf, Bool.and_eq_true, decide_eq_true_eq]
    exact this
  exact ⟨(seqN ps st).pmap Subtype.mk hw, by unfold Told64; rw [List.map_pmap]; simp⟩

set_option maxRecDepth 100000 in
theorem Told64.len {ps : List Pt} {st : Nat} {xs : List I64} (h : Told64 ps st xs) : xs.length = ps.length := by
  have := congrArg List.length h
  simpa [seqN_len] using this

set_option maxRecDepth 100000 in
theorem Told64.at {ps : List Pt} {st : Nat} {xs : List I64} (h : Told64 ps st xs) {k : Nat} (hk : k < xs.length) : xs[k].1 = (ps.getD ((st + k) % ps.length) pz).n := by
  have hp : k < ps.length := by rw [← h.len]; exact hk
  rw [← seqN_at hp, ← h]
  simp [List.getD, hk]

set_option maxRecDepth 100000 in
set_option maxHeartbeats 2000000 in
theorem nodes1_in (F : Fence) (n : Nat) (hf : F.fn 36) (hro : F.round = none) (hn : 1 ≤ n) (S : Nat → Prop) (l Br Bs : Nat) (a : Option Addr) (len cap st : Nat) (ps : List Pt) (xs : List I64) (hl : ps.length = len) (hm : len ≤ 1048576) (hst : st ≤ 1048576) (hx : Told64 ps st xs) (J Jx : List I64 → World → Prop)
    (hJd : ∀ pre W, J pre W → J pre W.drew)
    (hY : ∀ pre x W, J pre W → pre.length < len → YieldAt F (n - 1) Tryd.prog l #[.int .i64 x.1] W fun e W' =>
      (e = .returned (.bool true) ∧ J (pre ++ [x]) W' ∧ Kept S W W') ∨ (e = .returned (.bool false) ∧ Jx (pre ++ [x]) W'))
    (W : World) (hBr : W.cell? ⟨Br, 0, none⟩ = some (.slice a len cap)) (hBs : W.cell? ⟨Bs, 0, none⟩ = some (.int .i64 st)) (sr : S Br ∧ Br < W.heap.size) (ss : S Bs ∧ Bs < W.heap.size)
    (hp : ps = [] ∨ ∃ b o, a = some ⟨b, o, none⟩ ∧ S b ∧ b < W.heap.size ∧ HoldsPts W b o ps) (h0 : J [] W) :
    CallsIn F n Tryd.prog 36 #[.func (.yield l) #[] #[], .pointer (some ⟨Br, 0, none⟩), .pointer (some ⟨Bs, 0, none⟩)] W fun e W' => (∃ v, e = .returned v) ∧
      ((∃ ys, ys = xs ∧ J ys W') ∨ (∃ pre, pre <+: xs ∧ Jx pre W')) := by
  have HX := Lib.hid hx
  have HP := Lib.hid hp
  have HL := Lib.hid hl
  have HXL : Hid (xs.length = len) := hx.len.trans hl
  clear hx hp hl
  refine callsIn_of_wp Tryd.func36 rfl hf ?_ hro
  simp only [Tryd.ntmps36, List.size_toArray, List.length_cons, List.length_nil, Nat.reduceAdd, Nat.reduceSub, Array.replicate_succ, Array.replicate_zero, List.push_toArray, List.append_toArray, List.nil_append, List.cons_append]
  gi_wp2
  gi_loopw [7] (fun i wr => ∃ k : Nat, k ≤ len ∧ i = .int .i64 k ∧ J (xs.take k) wr ∧ Hid (Kept S W wr)) (fun i _ => len - (intOf i).toNat)
  case atStart => exact ⟨0, Nat.zero_le _, rfl, h0, Kept.refl _ _⟩
  case round =>
    obtain ⟨k, hk, rfl, hJs, HK⟩ := hrel
    by_cases hlt : k < len
    · have hkx : k < xs.length := by rw [HXL.out]; exact hlt
      have hq : (st + k) % len < len := Nat.mod_lt _ (by omega)
      have HE : Hid (xs[k].1 = (ps.getD ((st + k) % len) pz).n) := by
        have := HX.out.at hkx
        rw [HL.out] at this
        exact Lib.hid this
      obtain ⟨b, o, hab, hSb, hbl, hh⟩ : ∃ b o, a = some ⟨b, o, none⟩ ∧ S b ∧ b < W.heap.size ∧ HoldsPts W b o ps := by
        rcases HP.out with h | h
        · rw [h] at HL
          have := HL.out
          simp at this
          omega
        · exact h
      subst hab
      have c1 : wr.cell? ⟨b, o + (st + k) % len * 2 + 1, none⟩ = some (.int .i64 xs[k].1) := by
        rw [HK.out.cell hSb hbl, HE.out]
        exact (hh _ (by rw [HL.out]; exact hq)).2
      have cr : wr.cell? ⟨Br, 0, none⟩ = some (.slice (some ⟨b, o, none⟩) len cap) := by rw [HK.out.cell sr.1 sr.2]; exact hBr
      have cs : wr.cell? ⟨Bs, 0, none⟩ = some (.int .i64 st) := by rw [HK.out.cell ss.1 ss.2]; exact hBs
      have hmod : Int.tmod ((st : Int) + (k : Int)) (len : Int) = (((st + k) % len : Nat) : Int) := tmod_nat (st + k) len
      obtain ⟨fn, tmps, assign, body, hy, hR⟩ := hY (xs.take k) xs[k] wr.drew (hJd _ _ hJs) (by rw [List.length_take]; omega)
      have HT : Hid (xs.take k ++ [xs[k]] = xs.take (k + 1)) := (List.take_succ_eq_append_getElem hkx).symm
      have HR := Lib.hid hR
      clear HP HE hh HX hR
      generalize (st + k) % len = q at *
      generalize xs[k].1 = x at *
      have j1 : (0 : Int) ≤ (q : Int) := by omega
      have j2 : (q : Int) < (len : Int) := by omega
      have j0 : ¬ (len = 0) := by omega
      have hwr : IntKind.i64.wrap ((st : Int) + (k : Int)) = (st : Int) + (k : Int) := by rw [IntKind.wrap_i64]; omega
      gi_wp2
      refine wpIn_region_slots 11 [[(0, false)], [(1, false)], [(2, false)], [(4, false)], [(12, true), (13, true)], [(1, false)], [(15, true)], [(14, true), (16, true)], [(11, true), (17, true)], [(18, true)], [(19, true)]] (fun w' => w' = wr.drew) (fun w w' => w' = w) hro (by kernel_rfl) (by kernel_rfl) (by rfl) rfl (fun w w' h1 h2 => h2.trans h1) ?_
      iterate 11 (apply slot_eq_in; · (rintro ρ w' ⟨p1, p2, p3⟩ rfl hn; simp at hn; refine ⟨by simp [Oper.about, resolve, Target.leads, Sem.run_pure], ?_⟩; go_simp; exact ⟨rfl, rfl⟩))
      refine slot_end_in ?_
      rintro tv w4 rfl hF
      simp at hF
      obtain ⟨f20, f19, f18, f17, f16, f15, f14, f13, f12, f11, f10⟩ := hF
      simp only [List.take_succ_cons, List.take_zero, List.drop_succ_cons, List.drop_zero, putAll, f20, f19, f18, f17, f16, f15, f14, f13, f12, f11, f10]
      clear f20 f19 f18 f17 f16 f15 f14 f13 f12 f11 f10
      simp only [Act.put, List.setIfInBounds_toArray, List.set_cons_succ, List.set_cons_zero]
      gi_wp2
      refine HR.out.mono ?_
      rintro e W3 (⟨rfl, hJ3, hk3⟩ | ⟨rfl, hJx3⟩)
      · have HK3 : Hid (Kept S W W3) := HK.out.drew.trans hk3
        rw [HT.out] at hJ3
        gi_wp2
        go_roundw
        case rel => exact ⟨k + 1, by omega, by go_num, hJ3, HK3⟩
        case measure => simp [intOf]; omega
      · rw [HT.out] at hJx3
        gi_wp2
        refine bodyPost_ret (results_none rfl _ _ _) rfl ?_
        exact ⟨⟨_, rfl⟩, .inr ⟨xs.take (k + 1), List.take_prefix _ _, hJx3⟩⟩
    · obtain rfl : k = len := by omega
      gi_wp2
      go_end0
      exact ⟨⟨_, rfl⟩, .inl ⟨_, rfl, by rw [List.take_of_length_le (by rw [HXL.out]; exact Nat.le_refl _)] at hJs; exact hJs⟩⟩

end Go.Proofs.YtofejfmfbifphacDoor
