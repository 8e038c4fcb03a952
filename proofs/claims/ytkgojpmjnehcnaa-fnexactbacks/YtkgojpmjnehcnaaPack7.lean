import Derived.Test.YtkgojpmjnehcnaaPack6
import Derived.Test.YtkgojpmjnehcnaaPack4
import Derived.Deep.AppendLies
import Derived.Test.YtkgojpmjnehcnaaPack1
import Derived.Deep.Slices
import Derived.Deep.Strs
import Derived.Test.YtkgojpmjnehcnaaPack2
/- What is past: the contract of impl's latest.isPast. -/
namespace Go.Proofs.Ytkgojpmjnehcnaa
open Go.ChangeShapes Go.WideShapes Go.ChangeAt Go.RowKit Go.Joins Go.Maps
attribute [local go_sem ↓] Go.wp_at_zero Go.wp_at_succ

def pastAt (f : Int → Int → Option Tg) (s m : Int) (ws : List Wr) (k : Int) : Bool := match f s k with
  | none => false
  | some t => bitG m k && lacksT (addAll (fun _ _ => none) s ws) s k t

theorem past_any (f : Int → Int → Option Tg) (s m : Int) (ws : List Wr) : pastB f s m ws = (List.range 64).any fun k => pastAt f s m ws (k : Int) := rfl

theorem past_hit {f : Int → Int → Option Tg} {s m : Int} {ws : List Wr} {k : Nat} (hk : k < 64) (h : pastAt f s m ws (k : Int) = true) : pastB f s m ws = true := by
  rw [past_any, List.any_eq_true]
  exact ⟨k, List.mem_range.2 hk, h⟩

theorem past_none {f : Int → Int → Option Tg} {s m : Int} {ws : List Wr} (h : ∀ k : Nat, k < 64 → pastAt f s m ws (k : Int) = false) : pastB f s m ws = false := by
  rw [past_any, List.any_eq_false]
  intro k hk
  rw [h k (List.mem_range.1 hk)]
  simp

theorem pastAt_none {f : Int → Int → Option Tg} {s m : Int} {ws : List Wr} {k : Int} (h : f s k = none) : pastAt f s m ws k = false := by
  unfold pastAt
  rw [h]

theorem pastAt_some {f : Int → Int → Option Tg} {s m : Int} {ws : List Wr} {k : Int} {t : Tg} (h : f s k = some t) : pastAt f s m ws k = (bitG m k && lacksT (addAll (fun _ _ => none) s ws) s k t) := by
  unfold pastAt
  rw [h]

set_option maxRecDepth 100000 in
set_option maxHeartbeats 4000000 in
theorem isPast_any (b n : Nat) (f : Int → Int → Option Tg) (s : Int) (sh : Bool) (m : Int) (a : Option Addr) (q cap : Nat) (ws : List Wr) (w0 w : World) (hs : R64 s) (hM : m ≤ 9223372036854775807) (hn : ws.length = q) (hq : q ≤ 1048576) (hr : WsR ws) (hi : IsWs w0 a ws) (hb : Below w0.heap.size w0 w) (h : LatIs w b n f) :
    Calls Try.prog 57 #[.map (some b), evV s sh m a q cap] w fun e w' => e = .returned (.bool (pastB f s m ws)) ∧ Below w.heap.size w w' := by
  have HI := Lib.hid hi
  have HN := Lib.hid hn
  have HR := Lib.hid hr
  have hlt : b < w.heap.size := h.lt
  have hw0 : w0.heap.size ≤ w.heap.size := hb.size
  have HS := Lib.hid hs
  have HH := Lib.hid h
  have HA : Hid (Below w.heap.size w ((w.alloc (.cells #[.int .i64 s, .bool sh, .int .i64 m, .slice a q cap] 59)).alloc (.map #[] 0))) := ((Below.refl _ _).alloc (Nat.le_refl _) _).alloc (by simp) _
  have HB0 : Hid (Below w0.heap.size w0 ((w.alloc (.cells #[.int .i64 s, .bool sh, .int .i64 m, .slice a q cap] 59)).alloc (.map #[] 0))) := below_step hb hw0 HA.out
  have HM2 : Hid (LatIs ((w.alloc (.cells #[.int .i64 s, .bool sh, .int .i64 m, .slice a q cap] 59)).alloc (.map #[] 0)) (w.heap.size + 1) 0 (fun _ _ => none)) := by
    have h1 := mapIs_made keyS (w.alloc (.cells #[.int .i64 s, .bool sh, .int .i64 m, .slice a q cap] 59))
    have e : (w.alloc (.cells #[.int .i64 s, .bool sh, .int .i64 m, .slice a q cap] 59)).heap.size = w.heap.size + 1 := by simp
    rw [e] at h1
    exact h1
  have HBX : Hid (((w.alloc (.cells #[.int .i64 s, .bool sh, .int .i64 m, .slice a q cap] 59)).alloc (.map #[] 0)).heap[w.heap.size]? = some (.cells #[.int .i64 s, .bool sh, .int .i64 m, .slice a q cap] 59 (0, 0))) := heap_alloc2_old w _ _
  have hsz : ((w.alloc (.cells #[.int .i64 s, .bool sh, .int .i64 m, .slice a q cap] 59)).alloc (.map #[] 0)).heap.size = w.heap.size + 2 := by simp
  clear hi hn hr h hb hs
  have hmm := @run_makeMap Try.prog
  go_enter Try.func57, Try.ntmps57
  go_wp2_with fail
  clear hmm
  generalize (w.alloc (.cells #[.int .i64 s, .bool sh, .int .i64 m, .slice a q cap] 59)).alloc (.map #[] 0) = W2 at *
  refine (latAdd_any (w.heap.size + 1) 0 (fun _ _ => none) s sh m a q cap ws w0 _ HS.out HN.out hq (by omega) HR.out HI.out HB0.out (by omega) HM2.out).mono ?_
  rintro e w3 ⟨rfl, hl3, hg3⟩
  have HL3 := Lib.hid hl3
  have HH3 : Hid (LatIs w3 b n f) := (HH.out.below HA.out).grown hg3 (by omega)
  have HB3 : Hid (Below w.heap.size w w3) := HA.out.grown hg3 HA.out.size fun j hj => by injection hj with hj; omega
  have HX3 := Lib.hid ((hg3.block w.heap.size (by omega) fun e => by injection e with e; omega).trans HBX.out)
  have hs3 : w.heap.size + 2 ≤ w3.heap.size := by rw [← hsz]; exact hg3.size
  clear hl3 hg3 HM2 HBX hsz HB0 HA HH HI
  go_wp2
  go_loopw [14] (fun i wr => ∃ k : Nat, k ≤ 64 ∧ i = .int .i64 k ∧ Hid (∀ j : Nat, j < k → pastAt f s m ws (j : Int) = false) ∧ Hid (Below w3.heap.size w3 wr)) (fun i _ => 64 - (intOf i).toNat)
  case atStart => exact ⟨0, Nat.zero_le _, rfl, fun j hj => absurd hj (Nat.not_lt_zero j), Below.refl _ _⟩
  case round =>
    obtain ⟨k, hk, rfl, HP, HB⟩ := hrel
    by_cases hk' : k < 64
    · have qb := (HB.out.block w.heap.size (by omega)).trans HX3.out
      have d0 := cell_of_row wr w.heap.size 0 _ _ _ qb
      have d2 := cell_of_row wr w.heap.size 2 _ _ _ qb
      simp at d0 d2
      have hlt2 : w.heap.size < wr.heap.size := Nat.lt_of_lt_of_le (by omega) HB.out.size
      clear qb
      have HKO : Hid (keyS.ok ⟨s, (k : Int)⟩) := ⟨HS.out, by show R64 (k : Int); unfold R64; omega⟩
      have HBa : Hid (Below wr.heap.size wr (wr.alloc (.cells #[.int .i64 s, .int .i64 (k : Int)] 87))) := (Below.refl _ _).alloc (Nat.le_refl _) _
      have HLa : Hid (LatIs (wr.alloc (.cells #[.int .i64 s, .int .i64 (k : Int)] 87)) b n f) := (HH3.out.below HB.out).below HBa.out
      cases hf : f s (k : Int) with
      | none =>
        have HF : Hid ((f s (k : Int)).map tgV = none) := by rw [hf]; rfl
        have HP2 : Hid (∀ j : Nat, j < k + 1 → pastAt f s m ws (j : Int) = false) := fun j hj => by
          by_cases hjk : j = k
          · subst hjk
            exact pastAt_none hf
          · exact HP.out j (by omega)
        have HB2 : Hid (Below w3.heap.size w3 ((wr.alloc (.cells #[.int .i64 s, .int .i64 (k : Int)] 87)).alloc (.cells #[.int .i64 0, .int .i64 0, .int .i64 0] 40))) := (HB.out.alloc HB.out.size _).alloc (by have := HB.out.size; simp; omega) _
        clear hf HP
        go_wp2_with (at_lookup; refine wpList_lookG (K := keyS) (by rfl) _ _ 82 40 (by rfl) Try.underlying82 (latZero _) HLa.out ⟨s, (k : Int)⟩ HKO.out (by rfl) (by rfl) ?_; simp only [HF.out, lookAns])
        exact ⟨⟨k + 1, by omega, by go_num, HP2, HB2⟩, by simp [intOf]; omega⟩
      | some t =>
        obtain ⟨tc, ts, tq⟩ := t
        have HF : Hid ((f s (k : Int)).map tgV = some (tagV tc ts tq)) := by rw [hf]; rfl
        have HPA : Hid (pastAt f s m ws (k : Int) = (bitG m (k : Int) && lacksT (addAll (fun _ _ => none) s ws) s (k : Int) ⟨tc, ts, tq⟩)) := pastAt_some hf
        have HP2 : Hid (pastAt f s m ws (k : Int) = false → ∀ j : Nat, j < k + 1 → pastAt f s m ws (j : Int) = false) := fun h j hj => by
          by_cases hjk : j = k
          · subst hjk
            exact h
          · exact HP.out j (by omega)
        have HPH : Hid (pastAt f s m ws (k : Int) = true → pastB f s m ws = true) := fun h => past_hit hk' h
        have HBb : Hid (Below wr.heap.size wr ((wr.alloc (.cells #[.int .i64 s, .int .i64 (k : Int)] 87)).alloc (.cells #[.int .i64 tc, .int .i64 ts, .int .i64 tq] 40))) := HBa.out.alloc (by simp) _
        have HB2 : Hid (Below w3.heap.size w3 ((wr.alloc (.cells #[.int .i64 s, .int .i64 (k : Int)] 87)).alloc (.cells #[.int .i64 tc, .int .i64 ts, .int .i64 tq] 40))) := below_step HB.out HB.out.size HBb.out
        have HN2 : Hid (LatIs ((wr.alloc (.cells #[.int .i64 s, .int .i64 (k : Int)] 87)).alloc (.cells #[.int .i64 tc, .int .i64 ts, .int .i64 tq] 40)) (w.heap.size + 1) (0 + q) (addAll (fun _ _ => none) s ws)) := HL3.out.below HB2.out
        clear hf HP
        go_wp2_with (at_lookup; refine wpList_lookG (K := keyS) (by rfl) _ _ 82 40 (by rfl) Try.underlying82 (latZero _) HLa.out ⟨s, (k : Int)⟩ HKO.out (by rfl) (by rfl) ?_; simp only [HF.out, lookAns])
        refine (has_any m (k : Int) _ hM).mono ?_
        rintro e w4 ⟨rfl, rfl⟩
        cases hbit : bitG m (k : Int) with
        | false =>
          have HP3 := Lib.hid (HP2.out (by rw [HPA.out, hbit]; rfl))
          clear hbit
          go_wp2
          exact ⟨⟨k + 1, by omega, by go_num, HP3, HB2⟩, by simp [intOf]; omega⟩
        | true =>
          go_wp2_with fail
          refine (lacks_any (w.heap.size + 1) (0 + q) (addAll (fun _ _ => none) s ws) s (k : Int) tc ts tq _ HS.out HKO.out.2 HN2.out).mono ?_
          rintro e w5 ⟨rfl, hb5⟩
          have HB5 := Lib.hid (below_step HB2.out HB2.out.size hb5)
          clear hb5
          rw [hbit, Bool.true_and] at HPA
          clear hbit
          cases hla : lacksT (addAll (fun _ _ => none) s ws) s (k : Int) ⟨tc, ts, tq⟩ with
          | false =>
            have HP3 := Lib.hid (HP2.out (by rw [HPA.out, hla]))
            go_wp2
            exact ⟨⟨k + 1, by omega, by go_num, HP3, HB5⟩, by simp [intOf]; omega⟩
          | true =>
            have HP3 := Lib.hid (HPH.out (by rw [HPA.out, hla]))
            go_wp2
            go_ret
            exact ⟨by rw [HP3.out]; rfl, HB3.out.trans (HB5.out.mono HB3.out.size)⟩
    · have hkk : k = 64 := by omega
      subst hkk
      have HF : Hid (pastB f s m ws = false) := past_none HP.out
      go_wp2
      go_ret
      exact ⟨by rw [HF.out]; rfl, HB3.out.trans (HB.out.mono HB3.out.size)⟩

end Go.Proofs.Ytkgojpmjnehcnaa

/- Lists of numbers: rows that grow; what markIntS writes, heldIntS finds; the contract of eqIntS. -/
namespace Go.Proofs.Ytkgojpmjnehcnaa
open Go.ChangeShapes Go.WideShapes Go.ChangeAt Go.RowKit Go.Joins
attribute [local go_sem ↓] Go.wp_at_zero Go.wp_at_succ

def intV (z : Int) : Value := .int .i64 z

theorem infoInt : (Try.prog.info? 3).map (fun i => (i.zero, i.size, i.bytes)) = some (some (.int .i64 0), 1, 8) := by kernel_rfl

/-- What a slice of numbers leads to. -/
def IsInts (w : World) (a : Option Addr) (zs : List Int) : Prop :=
  zs = [] ∨ ∃ b, a = some ⟨b, 0, none⟩ ∧ b < w.heap.size ∧ ∀ i, i < zs.length → w.cell? ⟨b, i, none⟩ = some (.int .i64 (zs.getD i 0))

theorem IsInts.below {w w' : World} {a : Option Addr} {zs : List Int} (h : IsInts w a zs) (hb : Below w.heap.size w w') : IsInts w' a zs := by
  rcases h with h | ⟨b, ha, hlt, hh⟩
  · exact .inl h
  · exact .inr ⟨b, ha, Nat.lt_of_lt_of_le hlt hb.size, fun i hi => (hb.cell (p := ⟨b, i, none⟩) hlt).trans (hh i hi)⟩

theorem IsInts.at {w w' : World} {a : Option Addr} {zs : List Int} (h : IsInts w a zs) (hb : Below w.heap.size w w') {k : Nat} (hk : k < zs.length) : ∃ b, a = some ⟨b, 0, none⟩ ∧ b < w'.heap.size ∧ w'.cell? ⟨b, k, none⟩ = some (.int .i64 (zs.getD k 0)) := by
  rcases h.below hb with h | ⟨b, ha, hlt, hh⟩
  · subst h
    simp at hk
  · exact ⟨b, ha, hlt, hh k hk⟩

/-- A list of numbers of one's own, between two block numbers. -/
def OwnI (w : World) (lo hi : Nat) (a : Option Addr) (zs : List Int) : Prop :=
  zs = [] ∨ ∃ b, a = some ⟨b, 0, none⟩ ∧ lo ≤ b ∧ b < hi ∧ b < w.heap.size ∧ (∀ i, i < zs.length → w.cell? ⟨b, i, none⟩ = some (.int .i64 (zs.getD i 0))) ∧ ∀ o, w.frozen? ⟨b, o, none⟩ = false

theorem OwnI.below {w w' : World} {lo hi : Nat} {a : Option Addr} {zs : List Int} (h : OwnI w lo hi a zs) (hb : Below w.heap.size w w') : OwnI w' lo hi a zs := by
  rcases h with h | ⟨b, ha, h1, h2, hlt, hh, hf⟩
  · exact .inl h
  · exact .inr ⟨b, ha, h1, h2, Nat.lt_of_lt_of_le hlt hb.size, fun i hi => (hb.cell (p := ⟨b, i, none⟩) hlt).trans (hh i hi), fun o => (hb.frozen (p := ⟨b, o, none⟩) hlt).trans (hf o)⟩

theorem OwnI.only {w w' : World} {S : Nat → Prop} {lo hi : Nat} {a : Option Addr} {zs : List Int} (h : OwnI w lo hi a zs) (ho : Only S w w') (hS : ∀ x, S x → x < lo) : OwnI w' lo hi a zs := by
  rcases h with h | ⟨b, ha, h1, h2, hlt, hh, hf⟩
  · exact .inl h
  · have hb : w'.heap[b]? = w.heap[b]? := ho.block b fun e => by have := hS b e; omega
    exact .inr ⟨b, ha, h1, h2, by rw [ho.size]; exact hlt, fun i hi => (World.cell?_of_block (a := ⟨b, i, none⟩) hb).trans (hh i hi), fun o => (ho.frozen _).trans (hf o)⟩

theorem OwnI.isInts {w : World} {lo hi : Nat} {a : Option Addr} {zs : List Int} (h : OwnI w lo hi a zs) : IsInts w a zs := by
  rcases h with h | ⟨b, ha, _, _, hlt, hh, _⟩
  · exact .inl h
  · exact .inr ⟨b, ha, hlt, hh⟩

/-- A row of numbers that grows. -/
def RowI (w : World) (base : Nat) (v : Value) (zs : List Int) : Prop := w.ownsRow base 3 1 v zs.length (zs.map intV)

theorem RowI.form {w : World} {base : Nat} {v : Value} {zs : List Int} (h : RowI w base v zs) : ∃ a cap, v = .slice a zs.length cap ∧ OwnI w base w.heap.size a zs := by
  rcases h.2 with ⟨h1, h2⟩ | ⟨g, cap, cur, h1, h2, h3, _⟩
  · exact ⟨none, 0, by rw [h1, h2], .inl (List.length_eq_zero_iff.1 h2)⟩
  · have hlt : g < w.heap.size := (Array.getElem?_eq_some_iff.1 h3).1
    subst h1
    refine ⟨_, cap, rfl, .inr ⟨g, rfl, h2, hlt, hlt, fun i hi => ?_, fun o => World.ownsRow.frozenAt h o⟩⟩
    rw [World.ownsRow.cellAt h i (by omega)]
    simp [intV, List.getD, hi]

theorem RowI.below {w w' : World} {base : Nat} {v : Value} {zs : List Int} (h : RowI w base v zs) (hb : Below w.heap.size w w') : RowI w' base v zs :=
  World.ownsRow.kept (row := none) h ⟨hb.os, hb.tape, hb.output, hb.size, fun k hk _ => hb.block k hk⟩ (by
    by_cases e : v.ownBlock = none
    · exact .inl e
    · exact .inr e)

theorem RowI.mono {w : World} {base base' : Nat} {v : Value} {zs : List Int} (h : RowI w base v zs) (hb : base' ≤ base) : RowI w base' v zs := by
  refine ⟨h.1, ?_⟩
  rcases h.2 with h1 | ⟨g, cap, cur, h1, h2, h3⟩
  · exact .inl h1
  · exact .inr ⟨g, cap, cur, h1, Nat.le_trans hb h2, h3⟩

theorem oneI_cells (w : World) (t : Nat) (z : Int) : ∀ j u, ([intV z] : List Value)[j]? = some u → (w.alloc (.cells #[.int .i64 z] t)).cell? ((⟨w.heap.size, 0, none⟩ : Addr).add j) = some u := by
  intro j u hu
  have e1 : (⟨w.heap.size, 0, none⟩ : Addr).add j = ⟨w.heap.size, j, none⟩ := by
    unfold Addr.add
    split
    · rename_i h
      rw [h]
    · simp
  rw [e1, cell_of_row _ _ j _ t (0, 0) (heap_alloc_new w _), ← hu]
  simp [intV]

theorem intV_one (zs : List Int) : ∀ u ∈ zs.map intV, u.oneCell' = true := by
  intro u hu
  obtain ⟨z, _, rfl⟩ := List.mem_map.1 hu
  rfl

set_option maxHeartbeats 1000000 in
theorem eqIntS_same (a a' : Option Addr) (n cap cap' : Nat) (zs : List Int) (w : World) (hn : zs.length = n) (hm : n ≤ 1048576) (hh : IsInts w a zs) (hh' : IsInts w a' zs) :
    Calls Try.prog 27 #[.slice a n cap, .slice a' n cap'] w fun e w' => e = .returned (.bool true) ∧ Below w.heap.size w w' := by
  have HH : Hid (IsInts w a zs) := hh
  have HH' : Hid (IsInts w a' zs) := hh'
  have HN : Hid (zs.length = n) := hn
  clear hh hh' hn
  go_enter Try.func27, Try.ntmps27
  go_wp2
  go_loopw [5] (fun i wr => ∃ k : Nat, k ≤ n ∧ i = .int .i64 k ∧ Hid (Below w.heap.size w wr)) (fun i _ => n - (intOf i).toNat)
  case atStart => exact ⟨0, Nat.zero_le _, rfl, Below.refl _ _⟩
  case round =>
    obtain ⟨k, hk, rfl, HB⟩ := hrel
    by_cases hk' : k < n
    · obtain ⟨b, rfl, hz, e0⟩ := HH.out.at HB.out (show k < zs.length by rw [HN.out]; exact hk')
      obtain ⟨b', rfl, hz', f0⟩ := HH'.out.at HB.out (show k < zs.length by rw [HN.out]; exact hk')
      have i1 : (0 : Int) ≤ (k : Int) := by omega
      have i2 : (k : Int) < (n : Int) := by omega
      clear HH HH'
      generalize zs.getD k 0 = x at *
      go_wp2_with fail
      have ge0 := aft_cell hz e0
      have gf0 := aft_cell hz' f0
      have ne := aft_some wr
      refine wp_region_aft (by kernel_rfl) (by kernel_rfl) ?_
      repeat (first | go_big_quiet_step (fail))
      refine wpQuiet_nil ?_
      intro wq hq
      have HBQ : Hid (Below w.heap.size w wq) := below_step HB.out HB.out.size hq
      clear hq
      go_wp2
      exact ⟨⟨k + 1, by omega, by go_num, HBQ⟩, by simp [intOf]; omega⟩
    · have hkk : k = n := by omega
      subst hkk
      go_wp2
      go_ret
      exact ⟨rfl, HB.out⟩

theorem markI_step (k : Int) (j o : Nat) (f : Nat → Value) : (if o = j then Value.int .i64 (k + j) else if o < j then markFn k o else f o) = (if o < j + 1 then markFn k o else f o) := by
  unfold markFn
  by_cases h0 : o = j
  · rw [if_pos h0, if_pos (by omega), h0]
  rw [if_neg h0]
  by_cases hl : o < j
  · rw [if_pos hl, if_pos (by omega)]
  · rw [if_neg hl, if_neg (by omega)]

/-- A list of numbers that is marked. -/
def MarkedI (w : World) (a : Option Addr) (n : Nat) (k : Int) : Prop := n = 0 ∨ ∃ b, a = some ⟨b, 0, none⟩ ∧ b < w.heap.size ∧ CellsAre w b n (markFn k)

theorem MarkedI.below {w w' : World} {a : Option Addr} {n : Nat} {k : Int} (h : MarkedI w a n k) (hb : Below w.heap.size w w') : MarkedI w' a n k := by
  rcases h with h | ⟨b, ha, hlt, hc⟩
  · exact .inl h
  · exact .inr ⟨b, ha, Nat.lt_of_lt_of_le hlt hb.size, hc.of_block (hb.block b hlt)⟩

set_option maxHeartbeats 1000000 in
theorem markIntS_any (lo hi n cap : Nat) (a : Option Addr) (k : Int) (zs : List Int) (w : World) (hn : zs.length = n) (hm : n ≤ 1048576) (h0 : 0 ≤ k) (h1 : k ≤ 1099511627776) (ho : OwnI w lo hi a zs) :
    Calls Try.prog 28 #[.slice a n cap, .int .i64 k] w fun e w' => e = .returned (.int .i64 (k + n)) ∧ MarkedI w' a n k ∧ Only (fun x => lo ≤ x ∧ x < hi) w w' := by
  by_cases hz : n = 0
  · subst hz
    clear ho hn
    go_enter Try.func28, Try.ntmps28
    go_wp2
    go_loopw [1, 5] (fun l i wr => i = .int .i64 0 ∧ l = .int .i64 k ∧ wr = w) (fun _ _ _ => 0)
    case atStart => exact ⟨rfl, rfl, rfl⟩
    case round =>
      obtain ⟨rfl, rfl, rfl⟩ := hrel
      go_wp2
      go_ret
      exact ⟨by simp, .inl rfl, Only.refl _ _⟩
  · obtain ⟨b, rfl, hlo, hhi, hlt, hc, hf⟩ : ∃ b, a = some ⟨b, 0, none⟩ ∧ lo ≤ b ∧ b < hi ∧ b < w.heap.size ∧ (∀ i, i < zs.length → w.cell? ⟨b, i, none⟩ = some (.int .i64 (zs.getD i 0))) ∧ ∀ o, w.frozen? ⟨b, o, none⟩ = false := by
      rcases ho with h | h
      · rw [h] at hn
        exact absurd hn.symm hz
      · exact h
    have HC : Hid (CellsAre w b n (fun o => .int .i64 (zs.getD o 0))) := fun o ho' => hc o (by rw [hn]; exact ho')
    have HF := Lib.hid hf
    clear hc hf hn
    go_enter Try.func28, Try.ntmps28
    go_wp2
    go_loopw [1, 5] (fun l i wr => ∃ (j : Nat), j ≤ n ∧ i = .int .i64 j ∧ l = .int .i64 (k + j) ∧ Hid (CellsAre wr b n (fun o => if o < j then markFn k o else .int .i64 (zs.getD o 0))) ∧ Hid (Only (fun x => lo ≤ x ∧ x < hi) w wr)) (fun _ i _ => n - (intOf i).toNat)
    case atStart => exact ⟨0, Nat.zero_le _, rfl, by simp, HC.out.congr (fun o _ => by simp), Only.refl _ _⟩
    case round =>
      obtain ⟨j, hj, rfl, rfl, HR, HO⟩ := hrel
      by_cases hj' : j < n
      · have c0 := HR.out j hj'
        have fz : ∀ o, wr.frozen? ⟨b, o, none⟩ = false := fun o => (HO.out.frozen _).trans (HF.out o)
        have i1 : (0 : Int) ≤ (j : Int) := by omega
        have i2 : (j : Int) < (n : Int) := by omega
        go_wp2
        exact ⟨⟨j + 1, by omega, by go_num, by congr 1; push_cast; omega, (HR.out.set (by omega) _).congr (fun o _ => markI_step k j o (fun o => .int .i64 (zs.getD o 0))), HO.out.set ⟨hlo, hhi⟩ _ _⟩, by simp [intOf]; omega⟩
      · have hjj : j = n := by omega
        subst hjj
        go_wp2
        go_ret
        exact ⟨rfl, .inr ⟨b, rfl, by rw [HO.out.size]; exact hlt, HR.out.congr (fun o ho' => by rw [if_pos ho'])⟩, HO.out⟩

set_option maxHeartbeats 1000000 in
theorem heldIntS_any (n cap : Nat) (a : Option Addr) (k : Int) (w : World) (hm : n ≤ 1048576) (h0 : 0 ≤ k) (h1 : k ≤ 1099511627776) (ho : MarkedI w a n k) :
    Calls Try.prog 29 #[.slice a n cap, .int .i64 k] w fun e w' => e = .returned (.int .i64 (k + n)) ∧ w' = w := by
  have HO : Hid (MarkedI w a n k) := ho
  clear ho
  go_enter Try.func29, Try.ntmps29
  go_wp2
  go_loopw [1, 5] (fun l i wr => ∃ (j : Nat), j ≤ n ∧ i = .int .i64 j ∧ l = .int .i64 (k + j) ∧ wr = w) (fun _ i _ => n - (intOf i).toNat)
  case atStart => exact ⟨0, Nat.zero_le _, rfl, by simp, rfl⟩
  case round =>
    obtain ⟨j, hj, rfl, rfl, rfl⟩ := hrel
    by_cases hj' : j < n
    · obtain ⟨b, rfl, hlt, hc⟩ : ∃ b, a = some ⟨b, 0, none⟩ ∧ b < wr.heap.size ∧ CellsAre wr b n (markFn k) := by
        rcases HO.out with h | h
        · omega
        · exact h
      have c0 := hc j hj'
      simp only [markFn] at c0
      have i1 : (0 : Int) ≤ (j : Int) := by omega
      have i2 : (j : Int) < (n : Int) := by omega
      clear hc HO
      go_wp2
      exact ⟨⟨j + 1, by omega, by go_num, by congr 1; push_cast; omega, trivial⟩, by simp [intOf]; omega⟩
    · have hjj : j = n := by omega
      subst hjj
      go_wp2
      go_ret
      exact ⟨rfl, rfl⟩

end Go.Proofs.Ytkgojpmjnehcnaa

/- The places of events that a function chooses: the contract of impl.placesOf, over what the function keeps. -/
namespace Go.Proofs.Ytkgojpmjnehcnaa
open Go.ChangeShapes Go.WideShapes Go.ChangeAt Go.RowKit Go.Joins
attribute [local go_sem ↓] Go.wp_at_zero Go.wp_at_succ

/-- Of what was there only blocks of S have changed. -/
structure But (S : Nat → Prop) (w w' : World) : Prop where
  os : w'.os = w.os
  tape : w'.tape = w.tape
  output : w'.output = w.output
  size : w.heap.size ≤ w'.heap.size
  block : ∀ k, k < w.heap.size → ¬ S k → w'.heap[k]? = w.heap[k]?

theorem But.refl (S : Nat → Prop) (w : World) : But S w w := ⟨rfl, rfl, rfl, Nat.le_refl _, fun _ _ _ => rfl⟩

theorem Below.but {w w' : World} (h : Below w.heap.size w w') (S : Nat → Prop) : But S w w' := ⟨h.os, h.tape, h.output, h.size, fun k hk _ => h.block k hk⟩

theorem But.trans {S T : Nat → Prop} {w w1 w2 : World} (h : But S w w1) (h' : But T w1 w2) (hS : ∀ x, x < w.heap.size → T x → S x) : But S w w2 :=
  ⟨h'.os.trans h.os, h'.tape.trans h.tape, h'.output.trans h.output, Nat.le_trans h.size h'.size, fun k hk hn => (h'.block k (Nat.lt_of_lt_of_le hk h.size) fun e => hn (hS k hk e)).trans (h.block k hk hn)⟩

theorem But.grown {b : Nat} {w w' : World} (h : w.grownBy w' (some b)) : But (fun x => x = b) w w' := ⟨h.os, h.tape, h.output, h.size, fun k hk hn => h.block k hk fun e => hn (by injection e)⟩

theorem Below.butOn {B : Nat} {S : Nat → Prop} {w0 w w' : World} (h : Below B w0 w) (h' : But S w w') (hB : B ≤ w.heap.size) (hS : ∀ x, S x → B ≤ x) : Below B w0 w' :=
  h.trans ⟨h'.os, h'.tape, h'.output, h'.size, fun k hk => h'.block k (by omega) fun e => by have := hS k e; omega⟩

theorem ownsRow_but {S : Nat → Prop} {w w' : World} {base : Nat} {e : TypeId} {size : Nat} {v : Value} {n : Nat} {xs : List Value} (h : w.ownsRow base e size v n xs) (hb : But S w w') (hS : ∀ g, v.ownBlock = some g → ¬ S g) : w'.ownsRow base e size v n xs := by
  refine ⟨h.1, ?_⟩
  rcases h.2 with hn | ⟨g, cap, cur, rfl, h2, hgg, rest⟩
  · exact .inl hn
  · exact .inr ⟨g, cap, cur, rfl, h2, (hb.block g (Array.getElem?_eq_some_iff.1 hgg).1 (hS g rfl)).trans hgg, rest⟩

theorem RowI.but {S : Nat → Prop} {w w' : World} {base : Nat} {v : Value} {zs : List Int} (h : RowI w base v zs) (hb : But S w w') (hS : ∀ g, v.ownBlock = some g → ¬ S g) : RowI w' base v zs := ownsRow_but h hb hS

theorem rowI_nil (w : World) (base : Nat) : RowI w base (.slice none 0 0) [] := ⟨rfl, .inl ⟨rfl, rfl⟩⟩

/-- The places up to k that are chosen. -/
def placesTo (P : Nat → Bool) (k : Nat) : List Int := ((List.range k).filter P).map fun j : Nat => (j : Int)

theorem placesTo_no {P : Nat → Bool} {k : Nat} (h : P k = false) : placesTo P (k + 1) = placesTo P k := by
  unfold placesTo
  rw [List.range_succ, List.filter_append]
  simp [h]

theorem placesTo_yes {P : Nat → Bool} {k : Nat} (h : P k = true) : placesTo P (k + 1) = placesTo P k ++ [(k : Int)] := by
  unfold placesTo
  rw [List.range_succ, List.filter_append]
  simp [h]

theorem placesTo_len (P : Nat → Bool) (k : Nat) : (placesTo P k).length ≤ k := by
  unfold placesTo
  rw [List.length_map]
  exact Nat.le_trans (List.length_filter_le _ _) (by simp)

theorem placed_more {P : Nat → Bool} {k : Nat} {w5 : World} {base g cp : Nat} {zs : List Int} (he : placesTo P (k + 1) = zs ++ [(k : Int)]) (hown : w5.ownsRow base 3 1 (.slice (some ⟨g, 0, none⟩) (zs.length + 1) cp) (zs.length + 1) (zs.map intV ++ [intV (k : Int)])) : RowI w5 base (.slice (some ⟨g, 0, none⟩) (zs.length + 1) cp) (placesTo P (k + 1)) := by
  rw [he]
  unfold RowI
  simpa using hown

set_option maxRecDepth 100000 in
set_option maxHeartbeats 8000000 in
theorem placesOf_any (fid : FuncId) (c0 : Value) (I : (Nat → Prop) → World → Nat → Prop) (P : Nat → Bool) (a : Option Addr) (n cap : Nat) (es : List Ev) (S0 : Nat → Prop) (w0 w : World) (hn : es.length = n) (hm : n ≤ 1048576) (hi : IsEs w0 a es) (hb : Below w0.heap.size w0 w) (h0 : I S0 w 0)
    (hS0 : ∀ x, S0 x → w0.heap.size ≤ x) (hlt : ∀ S W k, I S W k → ∀ x, S x → x < W.heap.size) (hkeep : ∀ S W W' k, I S W k → W.heap.size ≤ W'.heap.size → (∀ x, S x → W'.heap[x]? = W.heap[x]?) → I S W' k)
    (hcf : ∀ (args : Array Value) (w : World), (callFunc fid args).run Try.prog w = .ok (.enter fid args) w)
    (hcall : ∀ S W k, k < es.length → I S W k → Below w0.heap.size w0 W → (∀ x, S x → w0.heap.size ≤ x) → ∀ ad cp, IsWs w0 ad (es.getD k evz).ws → Calls Try.prog fid #[evV (es.getD k evz).s (es.getD k evz).sh (es.getD k evz).m ad (es.getD k evz).ws.length cp, c0] W fun e w' => e = .returned (.bool (P k)) ∧ ∃ S', I S' w' (k + 1) ∧ (∀ x, S' x → S x ∨ W.heap.size ≤ x) ∧ But S W w') :
    Calls Try.prog 55 #[.slice a n cap, .func (.func fid) #[] #[c0]] w fun e w' => ∃ v, e = .returned v ∧ RowI w' w.heap.size v (placesTo P n) ∧ Below w0.heap.size w0 w' := by
  have HH := Lib.hid hi
  have HN := Lib.hid hn
  have HC := Lib.hid hcall
  have HB0 := Lib.hid hb
  have HI00 := Lib.hid h0
  have HS00 := Lib.hid hS0
  have HLT := Lib.hid hlt
  have HKP := Lib.hid hkeep
  have hw0 : w0.heap.size ≤ w.heap.size := hb.size
  clear hi hn hcall hb h0 hS0 hlt hkeep
  obtain ⟨i0, hi0, hx0⟩ := Option.map_eq_some_iff.1 infoInt
  simp only [Prod.mk.injEq] at hx0
  have HI0 := Lib.hid hi0
  have HX0 := Lib.hid hx0
  clear hi0 hx0
  go_enter Try.func55, Try.ntmps55
  go_wp2
  go_loopw [5, 10] (fun t i wr => ∃ (k : Nat) (v : Value) (S : Nat → Prop), k ≤ n ∧ i = .int .i64 k ∧ v = t ∧ Hid (RowI wr w.heap.size v (placesTo P k)) ∧ Hid (I S wr k) ∧ Hid (∀ x, S x → w0.heap.size ≤ x) ∧ Hid (∀ g, v.ownBlock = some g → ¬ S g) ∧ Hid (Below w0.heap.size w0 wr) ∧ w.heap.size ≤ wr.heap.size) (fun _ i _ => n - (intOf i).toNat)
  case atStart => exact ⟨0, _, S0, Nat.zero_le _, rfl, rfl, rowI_nil _ _, HI00, HS00, fun g h => (by simp [Value.ownBlock] at h), HB0, Nat.le_refl _⟩
  case round =>
    obtain ⟨k, v, S, hk, rfl, rfl, HR, HI, HS, HD, HB, hsz⟩ := hrel
    by_cases hk' : k < n
    · have hkw : k < es.length := by rw [HN.out]; exact hk'
      have i1 : (0 : Int) ≤ (k : Int) := by omega
      have i2 : (k : Int) < (n : Int) := by omega
      obtain ⟨b, o, ad, cq, rfl, hz, e0, hde⟩ := HH.out.base HB.out hkw
      have hln := placesTo_len P k
      have HPN : Hid (P k = false → placesTo P (k + 1) = placesTo P k) := fun h => placesTo_no h
      have HPY : Hid (P k = true → placesTo P (k + 1) = placesTo P k ++ [(k : Int)]) := fun h => placesTo_yes h
      have HCX : Hid (∀ W, I S W k → Below w0.heap.size w0 W → Calls Try.prog fid #[evV (es.getD k evz).s (es.getD k evz).sh (es.getD k evz).m ad (es.getD k evz).ws.length cq, c0] W fun e w' => e = .returned (.bool (P k)) ∧ ∃ S', I S' w' (k + 1) ∧ (∀ x, S' x → S x ∨ W.heap.size ≤ x) ∧ But S W w') := fun W h1 h2 => HC.out S W k hkw h1 h2 HS.out ad cq hde
      clear hde
      unfold EvAt at e0
      generalize es.getD k evz = x at *
      obtain ⟨xs, xh, xm, xw⟩ := x
      simp only at e0 HCX
      obtain ⟨c0', c1, c2, c3⟩ := e0
      generalize xw.length = q at *
      have HBA : Hid (Below wr.heap.size wr (wr.alloc (.cells #[.int .i64 xs, .bool xh, .int .i64 xm, .slice ad q cq] 59))) := (Below.refl _ _).alloc (Nat.le_refl _) _
      have HI1 : Hid (I S (wr.alloc (.cells #[.int .i64 xs, .bool xh, .int .i64 xm, .slice ad q cq] 59)) k) := HKP.out S _ _ k HI.out HBA.out.size fun x hx => HBA.out.block x (HLT.out _ _ _ HI.out x hx)
      have HB1 := Lib.hid (below_step HB.out HB.out.size HBA.out)
      have HR1 := Lib.hid (HR.out.below HBA.out)
      have hs1 : (wr.alloc (.cells #[.int .i64 xs, .bool xh, .int .i64 xm, .slice ad q cq] 59)).heap.size = wr.heap.size + 1 := by simp
      go_wp2_with fail
      refine (HCX.out _ HI1.out HB1.out).mono ?_
      rintro e w2 ⟨rfl, S', hi', hs', hbut⟩
      have hs2 : wr.heap.size + 1 ≤ w2.heap.size := by rw [← hs1]; exact hbut.size
      have HI2 := Lib.hid hi'
      have HR2 : Hid (RowI w2 w.heap.size v (placesTo P k)) := HR1.out.but hbut HD.out
      have HB2 : Hid (Below w0.heap.size w0 w2) := Below.butOn HB1.out hbut HB1.out.size HS.out
      have HS2 : Hid (∀ x, S' x → w0.heap.size ≤ x) := fun x hx => by
        rcases hs' x hx with h | h
        · exact HS.out x h
        · have := HB.out.size
          omega
      have HD2 : Hid (∀ g, v.ownBlock = some g → ¬ S' g) := fun g hg hx => by
        rcases hs' g hx with h | h
        · exact HD.out g hg h
        · have h1 := (World.ownsRow.lt HR.out g hg).2
          omega
      clear hbut hi' hs' HI1 HR1 HB1 HBA HCX HI HR HS HD hs1 c0' c1 c2 c3 HB
      cases hp : P k with
      | false =>
        have HE := Lib.hid (HPN.out hp)
        clear HPN HPY hp
        rw [← HE.out] at HR2
        go_wp2
        exact ⟨⟨k + 1, v, S', by omega, by go_num, rfl, HR2, HI2, HS2, HD2, HB2, by omega⟩, by simp [intOf]; omega⟩
      | true =>
        have HE := Lib.hid (HPY.out hp)
        clear HPN HPY hp
        generalize placesTo P k = zs at *
        have HBA : Hid (Below w2.heap.size w2 (w2.alloc (.cells #[.int .i64 (k : Int)] 3))) := (Below.refl _ _).alloc (Nat.le_refl _) _
        have HRC := Lib.hid (HR2.out.below HBA.out)
        have HCC := Lib.hid (oneI_cells w2 3 (k : Int))
        have HBD := Lib.hid (below_step HB2.out HB2.out.size HBA.out)
        have hsq : (w2.alloc (.cells #[.int .i64 (k : Int)] 3)).heap.size = w2.heap.size + 1 := by simp
        go_wp2_with (at_builtin; refine wpList_append_lies _ (by rfl) _ _ _ (by rfl) w.heap.size 3 i0 (.int .i64 0) 1 8 Try.underlying50 HI0.out HX0.out.1 HX0.out.2.1 HX0.out.2.2 (by rfl) (by omega) v zs.length (zs.map intV) (by rfl) HRC.out ⟨w2.heap.size, 0, none⟩ 1 1 [intV (k : Int)] (by rfl) (by rfl) (by simpa using HCC.out) (intV_one [(k : Int)]) (by omega) (by unfold maxLen; omega) (by omega) (by simp; omega) _ rfl ?_; intro g3 cp3 w5 hown hgrow hg3 _; refine Hid.out ?_)
        refine Lib.hid ?_
        have HB5 : Hid (Below w0.heap.size w0 w5) := HBD.out.grown hgrow HBD.out.size fun j hj => by have := (World.ownsRow.lt HRC.out j hj).1; omega
        have HR5 : Hid (RowI w5 w.heap.size (.slice (some ⟨g3, 0, none⟩) (zs.length + 1) cp3) (placesTo P (k + 1))) := placed_more HE.out hown
        have HI5 : Hid (I S' w5 (k + 1)) := HKP.out S' _ _ _ (HKP.out S' _ _ _ HI2.out HBA.out.size fun x hx => HBA.out.block x (HLT.out _ _ _ HI2.out x hx)) hgrow.size fun x hx => hgrow.block x (by have := HLT.out _ _ _ HI2.out x hx; omega) fun e => HD2.out x e.symm hx
        have HD5 : Hid (∀ g, (Value.slice (some ⟨g3, 0, none⟩) (zs.length + 1) cp3).ownBlock = some g → ¬ S' g) := fun g hg hx => by
          have hg' : g3 = g := by simpa [Value.ownBlock] using hg
          subst hg'
          rcases hg3 with h | h
          · exact HD2.out g3 h hx
          · have h1 := HLT.out _ _ _ HI2.out g3 hx
            omega
        have hs5 : w.heap.size ≤ w5.heap.size := by have := hgrow.size; omega
        clear hown hgrow hg3
        go_wp2
        exact ⟨⟨k + 1, _, S', by omega, by go_num, rfl, HR5, HI5, HS2, HD5, HB5, hs5⟩, by simp [intOf]; omega⟩
    · have hkk : k = n := by omega
      subst hkk
      go_wp2
      go_ret
      exact ⟨_, rfl, HR.out, HB.out⟩

end Go.Proofs.Ytkgojpmjnehcnaa

/- What comes in, opened: tags, dependencies, slices of them, writes. -/
namespace Go.Proofs.Ytkgojpmjnehcnaa
open Go.ChangeShapes Go.WideShapes Go.ChangeAt Go.RowKit Go.Joins Go.Deep
set_option maxRecDepth 100000

theorem cellsInt : Try.prog.cellsOf 3 = 1 := by kernel_rfl

theorem cellsTag : Try.prog.cellsOf 34 = 3 := by kernel_rfl

theorem cellsDep : Try.prog.cellsOf 100 = 4 := by kernel_rfl

section
variable {H : Type} {enc : TypeId × Value → H} {w : World} {base : Nat} {spare : Nat → Bool} {held : Bool}

theorem tag_cells {fuel : Nat} {cs : List Value} {x : DataW H × List MemPlace} (h : DataW.trod enc Try.prog w base spare held fuel 34 cs = some x) : ∃ c s q : Int, cs = [.int .i64 c, .int .i64 s, .int .i64 q] := by
  obtain ⟨y0, y1, y2, n, _, hl, h0, h1, h2⟩ := trod_struct3 Try.underlying34 h
  rw [cellsTag] at hl
  match cs, hl with
  | [v0, v1, v2], _ =>
    obtain ⟨a0, e0, _, _⟩ := DataW.trod_int Try.underlying3 h0
    obtain ⟨a1, e1, _, _⟩ := DataW.trod_int Try.underlying3 h1
    obtain ⟨a2, e2, _, _⟩ := DataW.trod_int Try.underlying3 h2
    simp [cellsInt] at e0 e1 e2
    subst e0 e1 e2
    exact ⟨a0, a1, a2, rfl⟩

theorem dep_cells {fuel : Nat} {cs : List Value} {x : DataW H × List MemPlace} (h : DataW.trod enc Try.prog w base spare held fuel 100 cs = some x) : ∃ d : Dp, cs = [.int .i64 d.k, .int .i64 d.c, .int .i64 d.s, .int .i64 d.q] := by
  obtain ⟨y0, y1, n, _, hl, h0, h1⟩ := trod_struct2 Try.underlying100 h
  rw [cellsDep] at hl
  match cs, hl with
  | [v0, v1, v2, v3], _ =>
    obtain ⟨a0, e0, _, _⟩ := DataW.trod_int Try.underlying3 h0
    obtain ⟨c, s, q, e1⟩ := tag_cells h1
    simp [cellsInt] at e0
    simp [cellsTag] at e1
    obtain ⟨e1, e2, e3⟩ := e1
    subst e0 e1 e2 e3
    exact ⟨⟨a0, c, s, q⟩, rfl⟩

theorem add_form {a : Addr} {v : Value} (h : w.cell? a = some v) : a = ⟨a.block, a.off, none⟩ := by
  cases a with
  | mk b o s =>
    cases s with
    | none => rfl
    | some s =>
      simp only [World.cell?] at h
      split at h <;> simp at h

theorem add_plain (b o i : Nat) : (Addr.mk b o none).add i = ⟨b, o + i, none⟩ := by
  unfold Addr.add
  split
  · rename_i h
    rw [h]
    rfl
  · rfl

theorem deps_cells {fuel : Nat} {a : Option Addr} {len cap : Nat} {x : DataW H × List MemPlace} (h : DataW.trod enc Try.prog w base spare held fuel 35 [.slice a len cap] = some x) :
    ∃ xs : List Dp, xs.length = len ∧ len ≤ maxLen ∧ IsDeps w a xs := by
  rcases open_slice Try.underlying35 h with ⟨hcs, _⟩ | ⟨a', len', cap', m, n, D, Pl, hcs, _, hl, hm, hmm, _, hel⟩
  · simp at hcs
    obtain ⟨rfl, rfl, rfl⟩ := hcs
    exact ⟨[], rfl, Nat.zero_le _, .inl rfl⟩
  · simp at hcs
    obtain ⟨rfl, rfl, rfl⟩ := hcs
    have hml : len ≤ m := by rw [hmm]; split <;> omega
    have hd : ∀ i, i < len → ∃ d : Dp, w.cell? (a'.add (i * 4)) = some (.int .i64 d.k) ∧ w.cell? (a'.add (i * 4 + 1)) = some (.int .i64 d.c) ∧ w.cell? (a'.add (i * 4 + 2)) = some (.int .i64 d.s) ∧ w.cell? (a'.add (i * 4 + 3)) = some (.int .i64 d.q) := by
      intro i hi
      obtain ⟨cs', h1, h2⟩ := hel i (by omega)
      rw [cellsDep] at h1
      obtain ⟨_, _, hc⟩ := World.cells?_some h1
      obtain ⟨d, hdd⟩ := dep_cells h2
      rw [hdd] at hc
      have c0 := hc 0 (by omega)
      have c1 := hc 1 (by omega)
      have c2 := hc 2 (by omega)
      have c3 := hc 3 (by omega)
      rw [add_add] at c0 c1 c2 c3
      exact ⟨d, by simpa using c0, by simpa using c1, by simpa using c2, by simpa using c3⟩
    by_cases h0 : len = 0
    · subst h0
      exact ⟨[], rfl, Nat.zero_le _, .inl rfl⟩
    have : Inhabited Dp := ⟨dz⟩
    obtain ⟨f, hf⟩ := choose_lt hd
    have ha : a' = ⟨a'.block, a'.off, none⟩ := by
      have h1 := (hf 0 (by omega)).1
      simp [Addr.add] at h1
      exact add_form h1
    refine ⟨(List.range len).map f, by simp, by omega, .inr ⟨a'.block, a'.off, by rw [← ha], ?_, ?_⟩⟩
    · obtain ⟨cs', h1, _⟩ := hel 0 (by omega)
      rw [cellsDep] at h1
      have h2 := World.cells?_block h1 (by omega)
      simpa [Addr.add] using h2
    · intro i hi
      have hi' : i < len := by simpa using hi
      have hg : ((List.range len).map f).getD i dz = f i := by simp [List.getD, hi']
      rw [hg]
      obtain ⟨h1, h2, h3, h4⟩ := hf i hi'
      rw [ha] at h1 h2 h3 h4
      rw [add_plain] at h1 h2 h3 h4
      exact ⟨h1, h2, h3, h4⟩

theorem open_deps {b0 : Nat} {r : Reach} {v : Value} {d : DataW H} {p : List MemPlace} (hv : Value.okWide Try.prog w r b0 35 v) (h : DataW.Trod enc Try.prog w base (fun _ => true) held 35 v d p) :
    ∃ (a : Option Addr) (len cap : Nat) (xs : List Dp), v = .slice a len cap ∧ (xs.length = len ∧ len ≤ maxLen ∧ IsDeps w a xs) := by
  obtain ⟨a, len, cap, rfl⟩ := okWide_slice Try.underlying35 hv
  obtain ⟨fuel, hf⟩ := h
  obtain ⟨xs, hx⟩ := deps_cells (by simpa [Value.cells] using hf)
  exact ⟨a, len, cap, xs, rfl, hx⟩

theorem cellsBool : Try.prog.cellsOf 4 = 1 := by kernel_rfl

theorem cellsDepS : Try.prog.cellsOf 35 = 1 := by kernel_rfl

theorem cellsWrite : Try.prog.cellsOf 37 = 7 := by kernel_rfl

theorem slice_cells {fuel : Nat} {v : Value} {x : DataW H × List MemPlace} (h : DataW.trod enc Try.prog w base spare held fuel 35 [v] = some x) : ∃ a len cap, v = .slice a len cap := by
  rcases open_slice Try.underlying35 h with ⟨hcs, _⟩ | ⟨a', len', cap', m, n, D, Pl, hcs, _⟩
  · simp at hcs
    exact ⟨_, _, _, hcs⟩
  · simp at hcs
    exact ⟨_, _, _, hcs⟩

theorem open_write {b0 : Nat} {r : Reach} {v : Value} {d : DataW H} {p : List MemPlace} (hv : Value.okWide Try.prog w r b0 37 v) (h : DataW.Trod enc Try.prog w base (fun _ => true) held 37 v d p) :
    ∃ (k c s q va : Int) (de : Bool) (a : Option Addr) (len cap : Nat) (xs : List Dp), v = .agg #[.int .i64 k, .int .i64 c, .int .i64 s, .int .i64 q, .int .i64 va, .bool de, .slice a len cap] ∧ (xs.length = len ∧ len ≤ maxLen ∧ IsDeps w a xs) := by
  obtain ⟨cs, rfl, hsz⟩ := okWide_struct Try.underlying37 hv
  rw [cellsWrite] at hsz
  obtain ⟨fuel, hf⟩ := h
  obtain ⟨xs', n, _, _, _, hlen, hfd⟩ := DataW.trod_struct Try.underlying37 hf
  cases cs with
  | mk l =>
    have hl : l.length = 7 := by simpa using hsz
    match l, hl, xs', hlen with
    | [v0, v1, v2, v3, v4, v5, v6], _, [y0, y1, y2, y3, y4], _ =>
      have g0 := hfd 0 _ rfl
      have g1 := hfd 1 _ rfl
      have g2 := hfd 2 _ rfl
      have g3 := hfd 3 _ rfl
      have g4 := hfd 4 _ rfl
      simp [Value.cells, cellsInt, cellsTag, cellsBool, cellsDepS] at g0 g1 g2 g3 g4
      obtain ⟨k, e0, _, _⟩ := DataW.trod_int Try.underlying3 g0
      obtain ⟨c, s, q, e1⟩ := tag_cells g1
      obtain ⟨va, e2, _, _⟩ := DataW.trod_int Try.underlying3 g2
      obtain ⟨de, e3, _⟩ := DataW.trod_bool Try.underlying4 g3
      obtain ⟨a, len, cap, e4⟩ := slice_cells g4
      simp at e0 e1 e2 e3
      obtain ⟨e1, e1', e1''⟩ := e1
      subst e0 e1 e1' e1'' e2 e3 e4
      obtain ⟨xs, hx⟩ := deps_cells g4
      exact ⟨k, c, s, q, va, de, a, len, cap, xs, rfl, hx⟩

end
end Go.Proofs.Ytkgojpmjnehcnaa

/- What comes in, opened: slices of writes. -/
namespace Go.Proofs.Ytkgojpmjnehcnaa
open Go.ChangeShapes Go.WideShapes Go.ChangeAt Go.RowKit Go.Joins Go.Deep
set_option maxRecDepth 100000

section
variable {H : Type} {enc : TypeId × Value → H} {w : World} {base : Nat} {spare : Nat → Bool} {held : Bool}

theorem write_cells {fuel : Nat} {cs : List Value} {x : DataW H × List MemPlace} (h : DataW.trod enc Try.prog w base spare held fuel 37 cs = some x) :
    ∃ (y : Wr) (a : Option Addr) (cap : Nat), cs = [.int .i64 y.k, .int .i64 y.c, .int .i64 y.s, .int .i64 y.q, .int .i64 y.v, .bool y.de, .slice a y.xs.length cap] ∧ y.xs.length ≤ maxLen ∧ IsDeps w a y.xs := by
  obtain ⟨xs', n, hl0, _, _, hlen, hfd⟩ := DataW.trod_struct Try.underlying37 h
  have hl : cs.length = 7 := by rw [cellsWrite] at *; assumption
  match cs, hl, xs', hlen with
  | [v0, v1, v2, v3, v4, v5, v6], _, [y0, y1, y2, y3, y4], _ =>
    have g0 := hfd 0 _ rfl
    have g1 := hfd 1 _ rfl
    have g2 := hfd 2 _ rfl
    have g3 := hfd 3 _ rfl
    have g4 := hfd 4 _ rfl
    simp [cellsInt, cellsTag, cellsBool, cellsDepS] at g0 g1 g2 g3 g4
    obtain ⟨k, e0, _, _⟩ := DataW.trod_int Try.underlying3 g0
    obtain ⟨c, s, q, e1⟩ := tag_cells g1
    obtain ⟨va, e2, _, _⟩ := DataW.trod_int Try.underlying3 g2
    obtain ⟨de, e3, _⟩ := DataW.trod_bool Try.underlying4 g3
    obtain ⟨a, len, cap, e4⟩ := slice_cells g4
    simp at e0 e1 e2 e3
    obtain ⟨e1, e1', e1''⟩ := e1
    subst e0 e1 e1' e1'' e2 e3 e4
    obtain ⟨xs, hx1, hx2, hx3⟩ := deps_cells g4
    subst hx1
    exact ⟨⟨k, c, s, q, va, de, xs⟩, a, cap, rfl, hx2, hx3⟩

theorem ws_cells {fuel : Nat} {a : Option Addr} {len cap : Nat} {x : DataW H × List MemPlace} (h : DataW.trod enc Try.prog w base spare held fuel 55 [.slice a len cap] = some x) :
    ∃ ws : List Wr, ws.length = len ∧ len ≤ maxLen ∧ IsWs w a ws := by
  rcases open_slice Try.underlying55 h with ⟨hcs, _⟩ | ⟨a', len', cap', m, n, D, Pl, hcs, _, hl, hm, hmm, _, hel⟩
  · simp at hcs
    obtain ⟨rfl, rfl, rfl⟩ := hcs
    exact ⟨[], rfl, Nat.zero_le _, .inl rfl⟩
  · simp at hcs
    obtain ⟨rfl, rfl, rfl⟩ := hcs
    have hml : len ≤ m := by rw [hmm]; split <;> omega
    have hd : ∀ i, i < len → ∃ y : Wr, ∃ (ad : Option Addr) (cp : Nat), w.cell? (a'.add (i * 7)) = some (.int .i64 y.k) ∧ w.cell? (a'.add (i * 7 + 1)) = some (.int .i64 y.c) ∧ w.cell? (a'.add (i * 7 + 2)) = some (.int .i64 y.s) ∧ w.cell? (a'.add (i * 7 + 3)) = some (.int .i64 y.q) ∧ w.cell? (a'.add (i * 7 + 4)) = some (.int .i64 y.v) ∧ w.cell? (a'.add (i * 7 + 5)) = some (.bool y.de) ∧ w.cell? (a'.add (i * 7 + 6)) = some (.slice ad y.xs.length cp) ∧ y.xs.length ≤ maxLen ∧ IsDeps w ad y.xs := by
      intro i hi
      obtain ⟨cs', h1, h2⟩ := hel i (by omega)
      rw [cellsWrite] at h1
      obtain ⟨_, _, hc⟩ := World.cells?_some h1
      obtain ⟨y, ad, cp, hdd, hy1, hy2⟩ := write_cells h2
      rw [hdd] at hc
      have c0 := hc 0 (by omega)
      have c1 := hc 1 (by omega)
      have c2 := hc 2 (by omega)
      have c3 := hc 3 (by omega)
      have c4 := hc 4 (by omega)
      have c5 := hc 5 (by omega)
      have c6 := hc 6 (by omega)
      rw [add_add] at c0 c1 c2 c3 c4 c5 c6
      exact ⟨y, ad, cp, by simpa using c0, by simpa using c1, by simpa using c2, by simpa using c3, by simpa using c4, by simpa using c5, by simpa using c6, hy1, hy2⟩
    by_cases h0 : len = 0
    · subst h0
      exact ⟨[], rfl, Nat.zero_le _, .inl rfl⟩
    have : Inhabited Wr := ⟨wz⟩
    obtain ⟨f, hf⟩ := choose_lt hd
    have ha : a' = ⟨a'.block, a'.off, none⟩ := by
      obtain ⟨_, _, h1, _⟩ := hf 0 (by omega)
      simp [Addr.add] at h1
      exact add_form h1
    refine ⟨(List.range len).map f, by simp, by omega, .inr ⟨a'.block, a'.off, by rw [← ha], ?_, ?_⟩⟩
    · obtain ⟨cs', h1, _⟩ := hel 0 (by omega)
      rw [cellsWrite] at h1
      have h2 := World.cells?_block h1 (by omega)
      simpa [Addr.add] using h2
    · intro i hi
      have hi' : i < len := by simpa using hi
      have hg : ((List.range len).map f).getD i wz = f i := by simp [List.getD, hi']
      rw [hg]
      obtain ⟨ad, cp, h1, h2, h3, h4, h5, h6, h7, h8, h9⟩ := hf i hi'
      rw [ha] at h1 h2 h3 h4 h5 h6 h7
      rw [add_plain] at h1 h2 h3 h4 h5 h6 h7
      exact ⟨ad, cp, ⟨h1, h2, h3, h4, h5, h6, h7⟩, h8, h9⟩

theorem open_ws {b0 : Nat} {r : Reach} {v : Value} {d : DataW H} {p : List MemPlace} (hv : Value.okWide Try.prog w r b0 55 v) (h : DataW.Trod enc Try.prog w base (fun _ => true) held 55 v d p) :
    ∃ (a : Option Addr) (len cap : Nat) (ws : List Wr), v = .slice a len cap ∧ (ws.length = len ∧ len ≤ maxLen ∧ IsWs w a ws) := by
  obtain ⟨a, len, cap, rfl⟩ := okWide_slice Try.underlying55 hv
  obtain ⟨fuel, hf⟩ := h
  obtain ⟨ws, hx⟩ := ws_cells (by simpa [Value.cells] using hf)
  exact ⟨a, len, cap, ws, rfl, hx⟩

end
end Go.Proofs.Ytkgojpmjnehcnaa

/- What comes in, opened, with the bounds of its numbers: dependencies, writes, events, slices of them. -/
namespace Go.Proofs.Ytkgojpmjnehcnaa
open Go.ChangeShapes Go.WideShapes Go.ChangeAt Go.RowKit Go.Joins Go.Deep
set_option maxRecDepth 100000

def EvR (e : Ev) : Prop := R64 e.s ∧ R64 e.m ∧ WsR e.ws

def EsR (es : List Ev) : Prop := ∀ j, j < es.length → EvR (es.getD j evz)

section
variable {H : Type} {enc : TypeId × Value → H} {w : World} {base : Nat} {spare : Nat → Bool} {held : Bool}

theorem tag_cellsR {fuel : Nat} {cs : List Value} {x : DataW H × List MemPlace} (h : DataW.trod enc Try.prog w base spare held fuel 34 cs = some x) : ∃ c s q : Int, cs = [.int .i64 c, .int .i64 s, .int .i64 q] ∧ R64 c ∧ R64 s ∧ R64 q := by
  obtain ⟨y0, y1, y2, n, _, hl, h0, h1, h2⟩ := trod_struct3 Try.underlying34 h
  rw [cellsTag] at hl
  match cs, hl with
  | [v0, v1, v2], _ =>
    obtain ⟨a0, e0, _, k0⟩ := DataW.trod_int Try.underlying3 h0
    obtain ⟨a1, e1, _, k1⟩ := DataW.trod_int Try.underlying3 h1
    obtain ⟨a2, e2, _, k2⟩ := DataW.trod_int Try.underlying3 h2
    simp [cellsInt] at e0 e1 e2
    subst e0 e1 e2
    exact ⟨a0, a1, a2, rfl, wf_r64 k0, wf_r64 k1, wf_r64 k2⟩

theorem dep_cellsR {fuel : Nat} {cs : List Value} {x : DataW H × List MemPlace} (h : DataW.trod enc Try.prog w base spare held fuel 100 cs = some x) : ∃ d : Dp, cs = [.int .i64 d.k, .int .i64 d.c, .int .i64 d.s, .int .i64 d.q] ∧ DpR d := by
  obtain ⟨y0, y1, n, _, hl, h0, h1⟩ := trod_struct2 Try.underlying100 h
  rw [cellsDep] at hl
  match cs, hl with
  | [v0, v1, v2, v3], _ =>
    obtain ⟨a0, e0, _, k0⟩ := DataW.trod_int Try.underlying3 h0
    obtain ⟨c, s, q, e1, k1, k2, k3⟩ := tag_cellsR h1
    simp [cellsInt] at e0
    simp [cellsTag] at e1
    obtain ⟨e1, e2, e3⟩ := e1
    subst e0 e1 e2 e3
    exact ⟨⟨a0, c, s, q⟩, rfl, wf_r64 k0, k1, k2, k3⟩

theorem deps_cellsR {fuel : Nat} {a : Option Addr} {len cap : Nat} {x : DataW H × List MemPlace} (h : DataW.trod enc Try.prog w base spare held fuel 35 [.slice a len cap] = some x) :
    ∃ xs : List Dp, xs.length = len ∧ len ≤ maxLen ∧ IsDeps w a xs ∧ ∀ j, j < xs.length → DpR (xs.getD j dz) := by
  rcases open_slice Try.underlying35 h with ⟨hcs, _⟩ | ⟨a', len', cap', m, n, D, Pl, hcs, _, hl, hm, hmm, _, hel⟩
  · simp at hcs
    obtain ⟨rfl, rfl, rfl⟩ := hcs
    exact ⟨[], rfl, Nat.zero_le _, .inl rfl, fun j hj => by simp at hj⟩
  · simp at hcs
    obtain ⟨rfl, rfl, rfl⟩ := hcs
    have hml : len ≤ m := by rw [hmm]; split <;> omega
    have hd : ∀ i, i < len → ∃ d : Dp, (w.cell? (a'.add (i * 4)) = some (.int .i64 d.k) ∧ w.cell? (a'.add (i * 4 + 1)) = some (.int .i64 d.c) ∧ w.cell? (a'.add (i * 4 + 2)) = some (.int .i64 d.s) ∧ w.cell? (a'.add (i * 4 + 3)) = some (.int .i64 d.q)) ∧ DpR d := by
      intro i hi
      obtain ⟨cs', h1, h2⟩ := hel i (by omega)
      rw [cellsDep] at h1
      obtain ⟨_, _, hc⟩ := World.cells?_some h1
      obtain ⟨d, hdd, hr⟩ := dep_cellsR h2
      rw [hdd] at hc
      have c0 := hc 0 (by omega)
      have c1 := hc 1 (by omega)
      have c2 := hc 2 (by omega)
      have c3 := hc 3 (by omega)
      rw [add_add] at c0 c1 c2 c3
      exact ⟨d, ⟨by simpa using c0, by simpa using c1, by simpa using c2, by simpa using c3⟩, hr⟩
    by_cases h0 : len = 0
    · subst h0
      exact ⟨[], rfl, Nat.zero_le _, .inl rfl, fun j hj => by simp at hj⟩
    have : Inhabited Dp := ⟨dz⟩
    obtain ⟨f, hf⟩ := choose_lt hd
    have ha : a' = ⟨a'.block, a'.off, none⟩ := by
      have h1 := (hf 0 (by omega)).1.1
      simp [Addr.add] at h1
      exact add_form h1
    have hg : ∀ i, i < len → ((List.range len).map f).getD i dz = f i := fun i hi => by simp [List.getD, hi]
    refine ⟨(List.range len).map f, by simp, by omega, .inr ⟨a'.block, a'.off, by rw [← ha], ?_, ?_⟩, fun j hj => ?_⟩
    · obtain ⟨cs', h1, _⟩ := hel 0 (by omega)
      rw [cellsDep] at h1
      have h2 := World.cells?_block h1 (by omega)
      simpa [Addr.add] using h2
    · intro i hi
      have hi' : i < len := by simpa using hi
      rw [hg i hi']
      obtain ⟨h1, h2, h3, h4⟩ := (hf i hi').1
      rw [ha] at h1 h2 h3 h4
      rw [add_plain] at h1 h2 h3 h4
      exact ⟨h1, h2, h3, h4⟩
    · have hj' : j < len := by simpa using hj
      rw [hg j hj']
      exact (hf j hj').2

theorem write_cellsR {fuel : Nat} {cs : List Value} {x : DataW H × List MemPlace} (h : DataW.trod enc Try.prog w base spare held fuel 37 cs = some x) :
    ∃ (y : Wr) (a : Option Addr) (cap : Nat), cs = [.int .i64 y.k, .int .i64 y.c, .int .i64 y.s, .int .i64 y.q, .int .i64 y.v, .bool y.de, .slice a y.xs.length cap] ∧ y.xs.length ≤ maxLen ∧ IsDeps w a y.xs ∧ WrR y := by
  obtain ⟨xs', n, hl0, _, _, hlen, hfd⟩ := DataW.trod_struct Try.underlying37 h
  have hl : cs.length = 7 := by rw [cellsWrite] at *; assumption
  match cs, hl, xs', hlen with
  | [v0, v1, v2, v3, v4, v5, v6], _, [y0, y1, y2, y3, y4], _ =>
    have g0 := hfd 0 _ rfl
    have g1 := hfd 1 _ rfl
    have g2 := hfd 2 _ rfl
    have g3 := hfd 3 _ rfl
    have g4 := hfd 4 _ rfl
    simp [cellsInt, cellsTag, cellsBool, cellsDepS] at g0 g1 g2 g3 g4
    obtain ⟨k, e0, _, k0⟩ := DataW.trod_int Try.underlying3 g0
    obtain ⟨c, s, q, e1, k1, k2, k3⟩ := tag_cellsR g1
    obtain ⟨va, e2, _, k4⟩ := DataW.trod_int Try.underlying3 g2
    obtain ⟨de, e3, _⟩ := DataW.trod_bool Try.underlying4 g3
    obtain ⟨a, len, cap, e4⟩ := slice_cells g4
    simp at e0 e1 e2 e3
    obtain ⟨e1, e1', e1''⟩ := e1
    subst e0 e1 e1' e1'' e2 e3 e4
    obtain ⟨xs, hx1, hx2, hx3, hx4⟩ := deps_cellsR g4
    subst hx1
    exact ⟨⟨k, c, s, q, va, de, xs⟩, a, cap, rfl, hx2, hx3, wf_r64 k0, k1, k2, k3, wf_r64 k4, hx4⟩

theorem ws_cellsR {fuel : Nat} {a : Option Addr} {len cap : Nat} {x : DataW H × List MemPlace} (h : DataW.trod enc Try.prog w base spare held fuel 55 [.slice a len cap] = some x) :
    ∃ ws : List Wr, ws.length = len ∧ len ≤ maxLen ∧ IsWs w a ws ∧ WsR ws := by
  rcases open_slice Try.underlying55 h with ⟨hcs, _⟩ | ⟨a', len', cap', m, n, D, Pl, hcs, _, hl, hm, hmm, _, hel⟩
  · simp at hcs
    obtain ⟨rfl, rfl, rfl⟩ := hcs
    exact ⟨[], rfl, Nat.zero_le _, .inl rfl, fun j hj => by simp at hj⟩
  · simp at hcs
    obtain ⟨rfl, rfl, rfl⟩ := hcs
    have hml : len ≤ m := by rw [hmm]; split <;> omega
    have hd : ∀ i, i < len → ∃ y : Wr, (∃ (ad : Option Addr) (cp : Nat), w.cell? (a'.add (i * 7)) = some (.int .i64 y.k) ∧ w.cell? (a'.add (i * 7 + 1)) = some (.int .i64 y.c) ∧ w.cell? (a'.add (i * 7 + 2)) = some (.int .i64 y.s) ∧ w.cell? (a'.add (i * 7 + 3)) = some (.int .i64 y.q) ∧ w.cell? (a'.add (i * 7 + 4)) = some (.int .i64 y.v) ∧ w.cell? (a'.add (i * 7 + 5)) = some (.bool y.de) ∧ w.cell? (a'.add (i * 7 + 6)) = some (.slice ad y.xs.length cp) ∧ y.xs.length ≤ maxLen ∧ IsDeps w ad y.xs) ∧ WrR y := by
      intro i hi
      obtain ⟨cs', h1, h2⟩ := hel i (by omega)
      rw [cellsWrite] at h1
      obtain ⟨_, _, hc⟩ := World.cells?_some h1
      obtain ⟨y, ad, cp, hdd, hy1, hy2, hr⟩ := write_cellsR h2
      rw [hdd] at hc
      have c0 := hc 0 (by omega)
      have c1 := hc 1 (by omega)
      have c2 := hc 2 (by omega)
      have c3 := hc 3 (by omega)
      have c4 := hc 4 (by omega)
      have c5 := hc 5 (by omega)
      have c6 := hc 6 (by omega)
      rw [add_add] at c0 c1 c2 c3 c4 c5 c6
      exact ⟨y, ⟨ad, cp, by simpa using c0, by simpa using c1, by simpa using c2, by simpa using c3, by simpa using c4, by simpa using c5, by simpa using c6, hy1, hy2⟩, hr⟩
    by_cases h0 : len = 0
    · subst h0
      exact ⟨[], rfl, Nat.zero_le _, .inl rfl, fun j hj => by simp at hj⟩
    have : Inhabited Wr := ⟨wz⟩
    obtain ⟨f, hf⟩ := choose_lt hd
    have ha : a' = ⟨a'.block, a'.off, none⟩ := by
      obtain ⟨⟨_, _, h1, _⟩, _⟩ := hf 0 (by omega)
      simp [Addr.add] at h1
      exact add_form h1
    have hg : ∀ i, i < len → ((List.range len).map f).getD i wz = f i := fun i hi => by simp [List.getD, hi]
    refine ⟨(List.range len).map f, by simp, by omega, .inr ⟨a'.block, a'.off, by rw [← ha], ?_, ?_⟩, fun j hj => ?_⟩
    · obtain ⟨cs', h1, _⟩ := hel 0 (by omega)
      rw [cellsWrite] at h1
      have h2 := World.cells?_block h1 (by omega)
      simpa [Addr.add] using h2
    · intro i hi
      have hi' : i < len := by simpa using hi
      rw [hg i hi']
      obtain ⟨⟨ad, cp, h1, h2, h3, h4, h5, h6, h7, h8, h9⟩, _⟩ := hf i hi'
      rw [ha] at h1 h2 h3 h4 h5 h6 h7
      rw [add_plain] at h1 h2 h3 h4 h5 h6 h7
      exact ⟨ad, cp, ⟨h1, h2, h3, h4, h5, h6, h7⟩, h8, h9⟩
    · have hj' : j < len := by simpa using hj
      rw [hg j hj']
      exact (hf j hj').2

theorem cellsEvent : Try.prog.cellsOf 57 = 4 := by kernel_rfl

theorem cellsWriteSR : Try.prog.cellsOf 55 = 1 := by kernel_rfl

theorem sliceW_cellsR {fuel : Nat} {v : Value} {x : DataW H × List MemPlace} (h : DataW.trod enc Try.prog w base spare held fuel 55 [v] = some x) : ∃ (a : Option Addr) (len cap : Nat), v = .slice a len cap := by
  rcases open_slice Try.underlying55 h with ⟨hcs, _⟩ | ⟨a', len', cap', m, n, D, Pl, hcs, _⟩
  · simp at hcs
    exact ⟨_, _, _, hcs⟩
  · simp at hcs
    exact ⟨_, _, _, hcs⟩

theorem event_cells {fuel : Nat} {cs : List Value} {x : DataW H × List MemPlace} (h : DataW.trod enc Try.prog w base spare held fuel 57 cs = some x) :
    ∃ (y : Ev) (a : Option Addr) (cap : Nat), cs = [.int .i64 y.s, .bool y.sh, .int .i64 y.m, .slice a y.ws.length cap] ∧ y.ws.length ≤ maxLen ∧ IsWs w a y.ws ∧ EvR y := by
  obtain ⟨xs', n, hl0, _, _, hlen, hfd⟩ := DataW.trod_struct Try.underlying57 h
  have hl : cs.length = 4 := by rw [cellsEvent] at *; assumption
  match cs, hl, xs', hlen with
  | [v0, v1, v2, v3], _, [y0, y1, y2, y3], _ =>
    have g0 := hfd 0 _ rfl
    have g1 := hfd 1 _ rfl
    have g2 := hfd 2 _ rfl
    have g3 := hfd 3 _ rfl
    simp [cellsInt, cellsBool, cellsWriteSR] at g0 g1 g2 g3
    obtain ⟨s, e0, _, k0⟩ := DataW.trod_int Try.underlying3 g0
    obtain ⟨sh, e1, _⟩ := DataW.trod_bool Try.underlying4 g1
    obtain ⟨m, e2, _, k2⟩ := DataW.trod_int Try.underlying3 g2
    obtain ⟨a, len, cap, e3⟩ := sliceW_cellsR g3
    simp at e0 e1 e2
    subst e0 e1 e2 e3
    obtain ⟨ws, hx1, hx2, hx3, hx4⟩ := ws_cellsR g3
    subst hx1
    exact ⟨⟨s, sh, m, ws⟩, a, cap, rfl, hx2, hx3, wf_r64 k0, wf_r64 k2, hx4⟩

theorem es_cells {fuel : Nat} {a : Option Addr} {len cap : Nat} {x : DataW H × List MemPlace} (h : DataW.trod enc Try.prog w base spare held fuel 22 [.slice a len cap] = some x) :
    ∃ es : List Ev, es.length = len ∧ len ≤ maxLen ∧ (∀ i, i < es.length → (es.getD i evz).ws.length ≤ maxLen) ∧ IsEs w a es ∧ EsR es := by
  rcases open_slice Try.underlying22 h with ⟨hcs, _⟩ | ⟨a', len', cap', m, n, D, Pl, hcs, _, hl, hm, hmm, _, hel⟩
  · simp at hcs
    obtain ⟨rfl, rfl, rfl⟩ := hcs
    exact ⟨[], rfl, Nat.zero_le _, fun i hi => by simp at hi, .inl rfl, fun i hi => by simp at hi⟩
  · simp at hcs
    obtain ⟨rfl, rfl, rfl⟩ := hcs
    have hml : len ≤ m := by rw [hmm]; split <;> omega
    have hd : ∀ i, i < len → ∃ y : Ev, (∃ (ad : Option Addr) (cp : Nat), w.cell? (a'.add (i * 4)) = some (.int .i64 y.s) ∧ w.cell? (a'.add (i * 4 + 1)) = some (.bool y.sh) ∧ w.cell? (a'.add (i * 4 + 2)) = some (.int .i64 y.m) ∧ w.cell? (a'.add (i * 4 + 3)) = some (.slice ad y.ws.length cp) ∧ IsWs w ad y.ws) ∧ y.ws.length ≤ maxLen ∧ EvR y := by
      intro i hi
      obtain ⟨cs', h1, h2⟩ := hel i (by omega)
      rw [cellsEvent] at h1
      obtain ⟨_, _, hc⟩ := World.cells?_some h1
      obtain ⟨y, ad, cp, hdd, hy1, hy2, hr⟩ := event_cells h2
      rw [hdd] at hc
      have c0 := hc 0 (by omega)
      have c1 := hc 1 (by omega)
      have c2 := hc 2 (by omega)
      have c3 := hc 3 (by omega)
      rw [add_add] at c0 c1 c2 c3
      exact ⟨y, ⟨ad, cp, by simpa using c0, by simpa using c1, by simpa using c2, by simpa using c3, hy2⟩, hy1, hr⟩
    by_cases h0 : len = 0
    · subst h0
      exact ⟨[], rfl, Nat.zero_le _, fun i hi => by simp at hi, .inl rfl, fun i hi => by simp at hi⟩
    have : Inhabited Ev := ⟨evz⟩
    obtain ⟨f, hf⟩ := choose_lt hd
    have ha : a' = ⟨a'.block, a'.off, none⟩ := by
      obtain ⟨⟨_, _, h1, _⟩, _⟩ := hf 0 (by omega)
      simp [Addr.add] at h1
      exact add_form h1
    have hg : ∀ i, i < len → ((List.range len).map f).getD i evz = f i := fun i hi => by simp [List.getD, hi]
    refine ⟨(List.range len).map f, by simp, by omega, fun i hi => ?_, .inr ⟨a'.block, a'.off, by rw [← ha], ?_, ?_⟩, fun i hi => ?_⟩
    · have hi' : i < len := by simpa using hi
      rw [hg i hi']
      exact (hf i hi').2.1
    · obtain ⟨cs', h1, _⟩ := hel 0 (by omega)
      rw [cellsEvent] at h1
      have h2 := World.cells?_block h1 (by omega)
      simpa [Addr.add] using h2
    · intro i hi
      have hi' : i < len := by simpa using hi
      rw [hg i hi']
      obtain ⟨⟨ad, cp, h1, h2, h3, h4, h5⟩, _⟩ := hf i hi'
      rw [ha] at h1 h2 h3 h4
      rw [add_plain] at h1 h2 h3 h4
      exact ⟨ad, cp, ⟨h1, h2, h3, h4⟩, h5⟩
    · have hi' : i < len := by simpa using hi
      rw [hg i hi']
      exact (hf i hi').2.2

theorem open_es {b0 : Nat} {r : Reach} {v : Value} {d : DataW H} {p : List MemPlace} (hv : Value.okWide Try.prog w r b0 22 v) (h : DataW.Trod enc Try.prog w base (fun _ => true) held 22 v d p) :
    ∃ (a : Option Addr) (len cap : Nat) (es : List Ev), v = .slice a len cap ∧ (es.length = len ∧ len ≤ maxLen ∧ (∀ i, i < es.length → (es.getD i evz).ws.length ≤ maxLen) ∧ IsEs w a es ∧ EsR es) := by
  obtain ⟨a, len, cap, rfl⟩ := okWide_slice Try.underlying22 hv
  obtain ⟨fuel, hf⟩ := h
  obtain ⟨es, hx⟩ := es_cells (by simpa [Value.cells] using hf)
  exact ⟨a, len, cap, es, rfl, hx⟩

end
end Go.Proofs.Ytkgojpmjnehcnaa

/- Steps back: the contract of impl.Backs. -/
namespace Go.Proofs.Ytkgojpmjnehcnaa
open Go.ChangeShapes Go.WideShapes Go.ChangeAt Go.RowKit Go.Joins Go.Maps
attribute [local go_sem ↓] Go.wp_at_zero Go.wp_at_succ

set_option maxRecDepth 100000 in
theorem call_enterB {f : FuncId} {fn : Func} (hf : Try.prog.funcs[f]? = some fn) (h1 : (fn.name == "runtime.NumGoroutine") = false) (h2 : fn.body.isNone = false) (args : Array Value) (w : World) : (callFunc f args).run Try.prog w = .ok (.enter f args) w := by
  have h1' : ¬ fn.name = "runtime.NumGoroutine" := by simpa using h1
  have h2' : ¬ fn.body = none := by
    intro e
    rw [e] at h2
    simp at h2
  simp [go_sem, callFunc, hf]
  rw [if_neg h1', if_neg h2']

set_option maxRecDepth 100000 in
set_option maxHeartbeats 4000000 in
theorem backs1_any (p b n : Nat) (f : Int → Int → Option Tg) (s : Int) (sh : Bool) (m : Int) (a : Option Addr) (q cap : Nat) (ws : List Wr) (w0 w : World) (hs : R64 s) (hM : m ≤ 9223372036854775807) (hn : ws.length = q) (hq : q ≤ 1048576) (hnn : n ≤ 4611686018427387904) (hr : WsR ws) (hi : IsWs w0 a ws) (hb : Below w0.heap.size w0 w) (hB : w0.heap.size ≤ b) (hp : w.cell? ⟨p, 0, none⟩ = some (.map (some b))) (h : LatIs w b n f) :
    Calls Try.prog 56 #[evV s sh m a q cap, .pointer (some ⟨p, 0, none⟩)] w fun e w' => e = .returned (.bool (sh && pastB f s m ws)) ∧ LatIs w' b (n + q) (addAll f s ws) ∧ w.grownBy w' (some b) := by
  have HI := Lib.hid hi
  have HN := Lib.hid hn
  have HR := Lib.hid hr
  have HS := Lib.hid hs
  have hw0 : w0.heap.size ≤ w.heap.size := hb.size
  have HA : Hid (Below w.heap.size w (w.alloc (.cells #[.int .i64 s, .bool sh, .int .i64 m, .slice a q cap] 59))) := (Below.refl _ _).alloc (Nat.le_refl _) _
  have HB1 : Hid (Below w0.heap.size w0 (w.alloc (.cells #[.int .i64 s, .bool sh, .int .i64 m, .slice a q cap] 59))) := below_step hb hw0 HA.out
  have HL1 := Lib.hid (h.below HA.out)
  have HBX : Hid ((w.alloc (.cells #[.int .i64 s, .bool sh, .int .i64 m, .slice a q cap] 59)).heap[w.heap.size]? = some (.cells #[.int .i64 s, .bool sh, .int .i64 m, .slice a q cap] 59 (0, 0))) := heap_alloc_new _ _
  have hsz : (w.alloc (.cells #[.int .i64 s, .bool sh, .int .i64 m, .slice a q cap] 59)).heap.size = w.heap.size + 1 := by simp
  have hpl : p < w.heap.size := World.block_lt_of_cell? w _ hp
  have hp1 : (w.alloc (.cells #[.int .i64 s, .bool sh, .int .i64 m, .slice a q cap] 59)).cell? ⟨p, 0, none⟩ = some (.map (some b)) := (HA.out.cell (p := ⟨p, 0, none⟩) hpl).trans hp
  clear hi hn hr hs hb h hp
  cases sh with
  | false =>
    rw [Bool.false_and]
    go_enter Try.func56, Try.ntmps56
    go_wp2_with fail
    refine (latAdd_any b n f s false m a q cap ws w0 _ HS.out HN.out hq hnn HR.out HI.out HB1.out hB HL1.out).mono ?_
    rintro e w2 ⟨rfl, hl2, hg2⟩
    have HL2 := Lib.hid hl2
    have HG2 : Hid (w.grownBy w2 (some b)) := grown_trans (grown_of_below HA.out _) hg2
    clear hl2 hg2
    go_wp2
    go_ret
    exact ⟨rfl, HL2.out, HG2.out⟩
  | true =>
    rw [Bool.true_and]
    go_enter Try.func56, Try.ntmps56
    go_wp2_with fail
    generalize w.alloc (.cells #[.int .i64 s, .bool true, .int .i64 m, .slice a q cap] 59) = W1 at *
    refine (isPast_any b n f s true m a q cap ws w0 _ HS.out hM HN.out hq HR.out HI.out HB1.out HL1.out).mono ?_
    rintro e w2 ⟨rfl, hb2⟩
    have q2 := (hb2.block w.heap.size (by omega)).trans HBX.out
    have c0 := cell_of_row w2 w.heap.size 0 _ _ _ q2
    have c1 := cell_of_row w2 w.heap.size 1 _ _ _ q2
    have c2 := cell_of_row w2 w.heap.size 2 _ _ _ q2
    have c3 := cell_of_row w2 w.heap.size 3 _ _ _ q2
    simp at c0 c1 c2 c3
    have hp2 := (hb2.cell (p := ⟨p, 0, none⟩) (show p < W1.heap.size by omega)).trans hp1
    have HA2 : Hid (Below w.heap.size w w2) := below_step HA.out HA.out.size hb2
    have HB2 : Hid (Below w0.heap.size w0 w2) := below_step HB1.out HB1.out.size hb2
    have HL2 := Lib.hid (HL1.out.below hb2)
    clear hb2 q2 HBX hp1 HL1 HB1 HA hsz
    obtain ⟨r, hr⟩ : ∃ r, pastB f s m ws = r := ⟨_, rfl⟩
    rw [hr]
    have HRR := Lib.hid hr
    clear hr
    go_wp2_with fail
    refine (latAdd_any b n f s true m a q cap ws w0 _ HS.out HN.out hq hnn HR.out HI.out HB2.out hB HL2.out).mono ?_
    rintro e w3 ⟨rfl, hl3, hg3⟩
    have HL3 := Lib.hid hl3
    have HG3 : Hid (w.grownBy w3 (some b)) := grown_trans (grown_of_below HA2.out _) hg3
    clear hl3 hg3
    go_wp2
    go_ret
    exact ⟨by rw [HRR.out]; rfl, HL3.out, HG3.out⟩

/-- What the events ahead of place k had. -/
def hadTo (es : List Ev) (k : Nat) : Int → Int → Option Tg := (es.take k).foldl (fun f e => addAll f e.s e.ws) fun _ _ => none

theorem hadTo_next (es : List Ev) {k : Nat} (h : k < es.length) : hadTo es (k + 1) = addAll (hadTo es k) (es.getD k evz).s (es.getD k evz).ws := by
  unfold hadTo
  have e : es.take (k + 1) = es.take k ++ [es.getD k evz] := by
    rw [List.take_add_one, List.getElem?_eq_getElem h]
    simp [List.getD, h]
  rw [e, List.foldl_append]
  rfl

/-- Is the event at place k a step back? -/
def backAt (es : List Ev) (k : Nat) : Bool := (es.getD k evz).sh && pastB (hadTo es k) (es.getD k evz).s (es.getD k evz).m (es.getD k evz).ws

/-- How many writes the events ahead of place k have. -/
def lenTo (es : List Ev) (k : Nat) : Nat := ((es.take k).map fun e => e.ws.length).sum

theorem lenTo_next (es : List Ev) {k : Nat} (h : k < es.length) : lenTo es (k + 1) = lenTo es k + (es.getD k evz).ws.length := by
  unfold lenTo
  have e : es.take (k + 1) = es.take k ++ [es.getD k evz] := by
    rw [List.take_add_one, List.getElem?_eq_getElem h]
    simp [List.getD, h]
  rw [e, List.map_append, List.sum_append]
  simp

theorem lenTo_heft : ∀ (es : List Ev) (k : Nat), lenTo es k ≤ heftB (evW es)
  | [], k => by simp [lenTo]
  | e :: r, 0 => by simp [lenTo]
  | e :: r, k + 1 => by
    have h := lenTo_heft r k
    have e1 : lenTo (e :: r) (k + 1) = e.ws.length + lenTo r k := by simp [lenTo]
    have e2 : heftB (evW (e :: r)) = e.ws.length + bulk e.ws + heftB (evW r) := rfl
    omega

/-- What the function that Backs hands over keeps. -/
def BackK (es : List Ev) (p b : Nat) (S : Nat → Prop) (W : World) (k : Nat) : Prop := (∀ x, S x ↔ (x = p ∨ x = b)) ∧ W.cell? ⟨p, 0, none⟩ = some (.map (some b)) ∧ LatIs W b (lenTo es k) (hadTo es k)

set_option maxRecDepth 100000 in
set_option maxHeartbeats 4000000 in
theorem implBacks_any (a : Option Addr) (n cap : Nat) (es : List Ev) (w : World) (hn : es.length = n) (hm : n ≤ 1048576) (hx : FewE es) (hh : heftB (evW es) ≤ 1048576) (hr : EsR es) (hi : IsEs w a es) :
    Calls Try.prog 26 #[.slice a n cap] w fun e w' => ∃ v, e = .returned v ∧ RowI w' w.heap.size v (placesTo (backAt es) n) ∧ Below w.heap.size w w' := by
  have HI := Lib.hid hi
  have HN := Lib.hid hn
  have HX := Lib.hid hx
  have HHE := Lib.hid hh
  have HR := Lib.hid hr
  clear hi hn hx hh hr
  have hmm := @run_makeMap Try.prog
  go_enter Try.func26, Try.ntmps26
  go_wp2_with fail
  clear hmm
  have HBA : Hid (Below w.heap.size w ((w.alloc (.map #[] 0)).alloc (.cells #[.map (some w.heap.size)] 82))) := ((Below.refl _ _).alloc (Nat.le_refl _) _).alloc (by simp) _
  have h0 : BackK es (w.heap.size + 1) w.heap.size (fun x => x = w.heap.size + 1 ∨ x = w.heap.size) ((w.alloc (.map #[] 0)).alloc (.cells #[.map (some w.heap.size)] 82)) 0 := by
    refine ⟨fun x => Iff.rfl, ?_, ?_⟩
    · have h := heap_alloc2_new w (.map #[] 0) (.cells #[.map (some w.heap.size)] 82)
      rw [cell_of_row _ _ 0 _ _ _ h]
      rfl
    · have h1 : LatIs (w.alloc (.map #[] 0)) w.heap.size 0 (fun _ _ => none) := mapIs_made keyS w
      exact h1.below ((Below.refl _ _).alloc (Nat.le_refl _) _)
  generalize (w.alloc (.map #[] 0)).alloc (.cells #[.map (some w.heap.size)] 82) = W2 at *
  have hs2 : w.heap.size ≤ W2.heap.size := HBA.out.size
  refine (placesOf_any 56 (.pointer (some ⟨w.heap.size + 1, 0, none⟩)) (BackK es (w.heap.size + 1) w.heap.size) (backAt es) a n cap es (fun x => x = w.heap.size + 1 ∨ x = w.heap.size) w W2 HN.out hm HI.out HBA.out h0 (fun x hx => by omega) ?_ ?_ ?_ ?_).mono ?_
  · rintro S W k ⟨h1, h2, h3⟩ x hx
    rcases (h1 x).1 hx with rfl | rfl
    · exact World.block_lt_of_cell? W _ h2
    · exact h3.lt
  · rintro S W W' k ⟨h1, h2, h3⟩ hsz hk
    exact ⟨h1, (World.cell?_of_block (a := ⟨w.heap.size + 1, 0, none⟩) (hk _ ((h1 _).2 (.inl rfl)))).trans h2, MapIs.of_block h3 (hk _ ((h1 _).2 (.inr rfl)))⟩
  · exact call_enterB Try.func56 (by kernel_rfl) (by kernel_rfl)
  · rintro S W k hk ⟨h1, h2, h3⟩ hb hS ad cp hw
    obtain ⟨r1, r2, r3⟩ := HR.out k hk
    have hl := lenTo_heft es k
    have hhe := HHE.out
    refine (backs1_any (w.heap.size + 1) w.heap.size (lenTo es k) (hadTo es k) _ _ _ ad _ cp (es.getD k evz).ws w W r1 r2.2 rfl (HX.out k hk).1 (by omega) r3 hw hb (Nat.le_refl _) h2 h3).mono ?_
    rintro e w' ⟨rfl, hl', hg⟩
    refine ⟨rfl, S, ⟨h1, ?_, ?_⟩, fun x hx => .inl hx, ?_⟩
    · exact (World.cell?_of_block (a := ⟨w.heap.size + 1, 0, none⟩) (hg.block _ (World.block_lt_of_cell? W _ h2) fun e => absurd (show w.heap.size + 1 = w.heap.size by injection e) (by omega))).trans h2
    · rw [lenTo_next es hk, hadTo_next es hk]
      exact hl'
    · exact ⟨hg.os, hg.tape, hg.output, hg.size, fun x hx hn => hg.block x hx fun e => hn ((h1 x).2 (.inr (by injection e)))⟩
  · rintro e w3 ⟨v, rfl, hrow, hb⟩
    have HR3 : Hid (RowI w3 w.heap.size v (placesTo (backAt es) n)) := hrow.mono hs2
    have HB3 := Lib.hid hb
    clear hrow hb
    go_wp2
    go_ret
    exact ⟨_, rfl, HR3.out, HB3.out⟩

end Go.Proofs.Ytkgojpmjnehcnaa
