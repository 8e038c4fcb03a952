import Derived.Test.YtbbmpfkijhhemaaPack2
import Derived.Test.YtbbmpfkijhhemaaPack1
import Derived.BigQuiet
import Derived.Deep.QuietTactic
import Derived.WalkSmall
/- Rows of dependencies of one's own that grow. -/
namespace Go.Proofs.Ytbbmpfkijhhemaa
open Go.ChangeShapes Go.WideShapes Go.ChangeAt Go.RowKit Go.Joins

def dpVals (d : Dp) : List Value := [.int .i64 d.k, .int .i64 d.c, .int .i64 d.s, .int .i64 d.q]

theorem dps_at : ∀ (ds : List Dp) (i c : Nat), i < ds.length → c < 4 → (ds.flatMap dpVals)[i * 4 + c]? = (dpVals (ds.getD i dz))[c]?
  | [], i, c, hi, _ => by simp at hi
  | e :: r, 0, c, _, hc => by
    rw [List.flatMap_cons, List.getElem?_append_left (by simp [dpVals]; omega)]
    simp
  | e :: r, i + 1, c, hi, hc => by
    rw [List.flatMap_cons, List.getElem?_append_right (by simp [dpVals]; omega)]
    have := dps_at r i c (by simpa using hi) hc
    rw [show (i + 1) * 4 + c - (dpVals e).length = i * 4 + c by simp [dpVals]; omega, this]
    simp

/-- A row of dependencies of one's own, from block number base on; it may be nil. -/
def RowD (w : World) (base : Nat) (v : Value) (ds : List Dp) : Prop := w.ownsRow base 36 4 v ds.length (ds.flatMap dpVals)

theorem RowD.below {w w' : World} {base : Nat} {v : Value} {ds : List Dp} (h : RowD w base v ds) (hb : Below w.heap.size w w') : RowD w' base v ds :=
  World.ownsRow.kept (row := none) h ⟨hb.os, hb.tape, hb.output, hb.size, fun k hk _ => hb.block k hk⟩ (by
    by_cases e : v.ownBlock = none
    · exact .inl e
    · exact .inr e)

theorem RowD.mono {w : World} {base base' : Nat} {v : Value} {ds : List Dp} (h : RowD w base v ds) (hb : base' ≤ base) : RowD w base' v ds := by
  refine ⟨h.1, ?_⟩
  rcases h.2 with h1 | ⟨g, cap, cur, h1, h2, h3⟩
  · exact .inl h1
  · exact .inr ⟨g, cap, cur, h1, Nat.le_trans hb h2, h3⟩

/-- Dependencies of one's own, between two block numbers. -/
def OwnD (w : World) (lo hi : Nat) (a : Option Addr) (ds : List Dp) : Prop :=
  ds = [] ∨ ∃ g, a = some ⟨g, 0, none⟩ ∧ lo ≤ g ∧ g < hi ∧ g < w.heap.size ∧ HoldsDeps w g 0 ds ∧ ∀ o, w.frozen? ⟨g, o, none⟩ = false

theorem OwnD.isDeps {w : World} {lo hi : Nat} {a : Option Addr} {ds : List Dp} (h : OwnD w lo hi a ds) : IsDeps w a ds := by
  rcases h with h | ⟨g, ha, _, _, hlt, hh, _⟩
  · exact .inl h
  · exact .inr ⟨g, 0, ha, hlt, hh⟩

theorem RowD.form {w : World} {base : Nat} {v : Value} {ds : List Dp} (h : RowD w base v ds) : ∃ a cap, v = .slice a ds.length cap ∧ OwnD w base w.heap.size a ds := by
  rcases h.2 with ⟨h1, h2⟩ | ⟨g, cap, cur, h1, h2, h3, _⟩
  · exact ⟨none, 0, by rw [h1, h2], .inl (List.length_eq_zero_iff.1 h2)⟩
  · have hlt : g < w.heap.size := (Array.getElem?_eq_some_iff.1 h3).1
    subst h1
    refine ⟨_, cap, rfl, .inr ⟨g, rfl, h2, hlt, hlt, fun i hi => ?_, fun o => World.ownsRow.frozenAt h o⟩⟩
    rw [Nat.zero_add]
    have c : ∀ c, c < 4 → w.cell? ⟨g, i * 4 + c, none⟩ = (dpVals (ds.getD i dz))[c]? := fun c hc => by rw [World.ownsRow.cellAt h _ (by omega), dps_at ds i c hi hc]
    exact ⟨c 0 (by omega), c 1 (by omega), c 2 (by omega), c 3 (by omega)⟩

theorem oneD_cells (w : World) (t : Nat) (d : Dp) : ∀ j u, (dpVals d)[j]? = some u → (w.alloc (.cells #[.int .i64 d.k, .int .i64 d.c, .int .i64 d.s, .int .i64 d.q] t)).cell? ((⟨w.heap.size, 0, none⟩ : Addr).add j) = some u := by
  intro j u hu
  have e1 : (⟨w.heap.size, 0, none⟩ : Addr).add j = ⟨w.heap.size, j, none⟩ := by
    unfold Addr.add
    split
    · rename_i h
      rw [h]
    · simp
  rw [e1, cell_of_row _ _ j _ t (0, 0) (heap_alloc_new w _), ← hu]
  simp [dpVals]

theorem dp_one (d : Dp) : ∀ u ∈ dpVals d, u.oneCell' = true := by
  intro u hu
  simp only [dpVals, List.mem_cons, List.not_mem_nil, or_false] at hu
  rcases hu with rfl | rfl | rfl | rfl <;> rfl

end Go.Proofs.Ytbbmpfkijhhemaa

/- The contracts of the specification's MapAt and MapHas. -/
namespace Go.Proofs.Ytbbmpfkijhhemaa
open Go.ChangeShapes Go.WideShapes Go.ChangeAt Go.RowKit Go.Joins
attribute [local go_sem ↓] Go.wp_at_zero Go.wp_at_succ

/-- Number i is the first write of this key. -/
def FirstAt (ws : List Wr) (key : Int) (i : Nat) : Prop := i < ws.length ∧ (ws.getD i wz).k = key ∧ ∀ j, j < i → (ws.getD j wz).k ≠ key
/-- There is none of this key. -/
def NoneAt (ws : List Wr) (key : Int) : Prop := ∀ j, j < ws.length → (ws.getD j wz).k ≠ key

theorem FirstAt.same {ws : List Wr} {key : Int} {i j : Nat} (h : FirstAt ws key i) (h' : FirstAt ws key j) : i = j := by
  by_cases h1 : i < j
  · exact absurd h.2.1 (h'.2.2 i h1)
  · by_cases h2 : j < i
    · exact absurd h'.2.1 (h.2.2 j h2)
    · omega

theorem FirstAt.no {ws : List Wr} {key : Int} {i : Nat} (h : FirstAt ws key i) (h' : NoneAt ws key) : False := h' i h.1 h.2.1

/-- What a look at a map tells: a write of one's own, or nothing. -/
def Told (ws : List Wr) (key : Int) (w w' : World) (v : Value) : Prop :=
  (∃ i g cp, FirstAt ws key i ∧ v = .tuple #[wrOf (ws.getD i wz) (some ⟨g, 0, none⟩) cp, .bool true] ∧ w.heap.size ≤ g ∧ g < w'.heap.size ∧ HoldsDeps w' g 0 (ws.getD i wz).xs) ∨
  (NoneAt ws key ∧ v = .tuple #[wrV 0 0 0 0 0 false none 0 0, .bool false])

set_option maxHeartbeats 2000000 in
theorem specMapAt_gen (a : Option Addr) (n cap : Nat) (key : Int) (ws : List Wr) (w : World) (hn : ws.length = n) (hm : n ≤ 1048576) (hx : Few ws) (hh : IsWs w a ws) :
    Calls Try.prog 75 #[.slice a n cap, .int .i64 key] w fun e w' => ∃ v, e = .returned v ∧ Told ws key w w' v ∧ Below w.heap.size w w' := by
  have HH : Hid (IsWs w a ws) := hh
  have HN : Hid (ws.length = n) := hn
  have HX : Hid (Few ws) := hx
  clear hh hn hx
  go_enter Try.func75, Try.ntmps75
  go_wp2
  have HB0 : Hid (Below w.heap.size w (w.alloc (.cells #[.int .i64 0, .int .i64 0, .int .i64 0, .int .i64 0, .int .i64 0, .bool false, .slice none 0 0] 53))) := (Below.refl _ _).alloc (Nat.le_refl _) _
  go_loopw [6] (fun i wr => ∃ k : Nat, k ≤ n ∧ i = .int .i64 k ∧ wr = w.alloc (.cells #[.int .i64 0, .int .i64 0, .int .i64 0, .int .i64 0, .int .i64 0, .bool false, .slice none 0 0] 53) ∧ Hid (∀ j, j < k → (ws.getD j wz).k ≠ key)) (fun i _ => n - (intOf i).toNat)
  case atStart => exact ⟨0, Nat.zero_le _, rfl, rfl, fun j hj => absurd hj (Nat.not_lt_zero j)⟩
  case round =>
    obtain ⟨k, hk, rfl, rfl, HK⟩ := hrel
    by_cases hk' : k < n
    · obtain ⟨b, o, ad, cp, rfl, hz, ⟨e0, e1, e2, e3, e4, e5, e6⟩, hd⟩ := HH.out.at HB0.out HN.out hk'
      have i1 : (0 : Int) ≤ (k : Int) := by omega
      have i2 : (k : Int) < (n : Int) := by omega
      have hxl := HX.out k (by rw [HN.out]; exact hk')
      have HD : Hid (IsDeps (w.alloc (.cells #[.int .i64 0, .int .i64 0, .int .i64 0, .int .i64 0, .int .i64 0, .bool false, .slice none 0 0] 53)) ad (ws.getD k wz).xs) := hd
      clear hd
      by_cases hy : (ws.getD k wz).k = key
      · have HF : Hid (FirstAt ws key k) := ⟨by rw [HN.out]; exact hk', hy, HK.out⟩
        have HE : Hid (∀ w2 g cp, w.heap.size ≤ g → g < w2.heap.size → HoldsDeps w2 g 0 (ws.getD k wz).xs → Told ws key w w2 (.tuple #[wrOf (ws.getD k wz) (some ⟨g, 0, none⟩) cp, .bool true])) := fun w2 g cp h1 h2 h3 => .inl ⟨k, g, cp, HF.out, rfl, h1, h2, h3⟩
        clear HF HK
        generalize ws.getD k wz = x at *
        obtain ⟨xk, xc, xs', xq, xv, xd, xx⟩ := x
        simp only at e0 e1 e2 e3 e4 e5 e6 hxl HD HE hy
        subst hy
        go_wp2_with fail
        refine (copy_any ⟨xk, xc, xs', xq, xv, xd, xx⟩ _ _ _ hxl HD.out).mono ?_
        rintro e w2 ⟨g, cp2, rfl, hg1, hg2, hg3, hb⟩
        have HB2 : Hid (Below w.heap.size w w2) := below_step HB0.out HB0.out.size hb
        have HG : Hid (HoldsDeps w2 g 0 xx) := hg3
        obtain ⟨hc, hf⟩ := bcell hb
        have hz2 : w.heap.size < w2.heap.size := by have := hb.size; simp at this; omega
        have hg4 : w.heap.size < g := by simp at hg1; omega
        clear hb hg3 hg1
        go_wp2
        refine bodyPost_ret (v := .tuple #[wrV xk xc xs' xq xv xd (some ⟨g, 0, none⟩) xx.length cp2, .bool true]) (by simp [results, Try.results75, go_sem, hc]) rfl ⟨_, rfl, HE.out _ g cp2 (by omega) (by simpa using hg2) ?_, ?_⟩
        · exact ((((((HG.out.set (by simp; omega) _).set (by simp; omega) _).set (by simp; omega) _).set (by simp; omega) _).set (by simp; omega) _).set (by simp; omega) _).set (by simp; omega) _
        · exact ((((((HB2.out.setCell (by simp) _).setCell (by simp) _).setCell (by simp) _).setCell (by simp) _).setCell (by simp) _).setCell (by simp) _).setCell (by simp) _
      · have HK' : Hid (∀ j, j < k + 1 → (ws.getD j wz).k ≠ key) := fun j hj => by
          by_cases h : j < k
          · exact HK.out j h
          · have : j = k := by omega
            rw [this]
            exact hy
        clear HD
        generalize ws.getD k wz = x at *
        obtain ⟨xk, xc, xs', xq, xv, xd, xx⟩ := x
        simp only at e0 hy
        go_wp2
        exact ⟨⟨k + 1, by omega, by go_num, trivial, HK'⟩, by simp [intOf]; omega⟩
    · have hkk : k = n := by omega
      subst hkk
      go_wp2
      exact bodyPost_ret (v := .tuple #[wrV 0 0 0 0 0 false none 0 0, .bool false]) (by simp [results, Try.results75, go_sem]) rfl ⟨_, rfl, .inr ⟨fun j hj => HK.out j (by rw [← HN.out]; exact hj), rfl⟩, HB0.out⟩

theorem specMapAt_any (b n cap : Nat) (key : Int) (ws : List Wr) (γ : Nat → Nat) (w : World) (hn : ws.length = n) (hm : n ≤ 1048576) (hx : Few ws) (hh : HoldsWs w b ws γ) :
    Calls Try.prog 75 #[.slice (some ⟨b, 0, none⟩) n cap, .int .i64 key] w fun e w' => ∃ v, e = .returned v ∧ Told ws key w w' v ∧ Below w.heap.size w w' :=
  specMapAt_gen _ n cap key ws w hn hm hx (hh.isWs hx)

def findW (ws : List Wr) (key : Int) : Option Wr := ws.find? fun x => x.k == key

theorem find_first : ∀ {ws : List Wr} {key : Int} {i : Nat}, FirstAt ws key i → findW ws key = some (ws.getD i wz)
  | [], _, _, h => by simp [FirstAt] at h
  | x :: r, key, 0, h => by
    have hk : x.k = key := h.2.1
    simp [findW, hk]
  | x :: r, key, i + 1, h => by
    have hk : x.k ≠ key := h.2.2 0 (by omega)
    have : FirstAt r key i := ⟨by simpa using h.1, h.2.1, fun j hj => h.2.2 (j + 1) (by omega)⟩
    have := find_first this
    simp only [findW, List.find?_cons, beq_eq_false_iff_ne.2 hk] at this ⊢
    exact this

theorem find_none {ws : List Wr} {key : Int} (h : NoneAt ws key) : findW ws key = none := by
  induction ws with
  | nil => rfl
  | cons x r ih =>
    have hk : x.k ≠ key := h 0 (by simp)
    have := ih fun j hj => h (j + 1) (by simpa using hj)
    simp only [findW, List.find?_cons, beq_eq_false_iff_ne.2 hk] at this ⊢
    exact this

def hasB (ws : List Wr) (key c s q : Int) : Bool := match findW ws key with | some x => decide (0 ≤ tcmp x.c x.s x.q c s q) | none => false

set_option maxHeartbeats 2000000 in
theorem specMapHas_gen (a : Option Addr) (n cap : Nat) (key c s q : Int) (ws : List Wr) (w : World) (hn : ws.length = n) (hm : n ≤ 1048576) (hx : Few ws) (hh : IsWs w a ws) :
    Calls Try.prog 70 #[.slice a n cap, .int .i64 key, tagV c s q] w fun e w' => e = .returned (.bool (hasB ws key c s q)) ∧ Below w.heap.size w w' := by
  have HH : Hid (IsWs w a ws) := hh
  have HX : Hid (Few ws) := hx
  have HN : Hid (ws.length = n) := hn
  clear hh hx hn
  go_enter Try.func70, Try.ntmps70
  go_wp2_with fail
  refine (specMapAt_gen a n cap key ws _ HN.out hm HX.out (HH.out.below ((Below.refl _ _).alloc (Nat.le_refl _) _))).mono ?_
  rintro e w1 ⟨v, rfl, hv, hb⟩
  have HB : Hid (Below w.heap.size w w1) := below_step ((Below.refl _ _).alloc (Nat.le_refl _) _) (by simp) hb
  obtain ⟨hc, hf⟩ := bcell hb
  have hz : w.heap.size < w1.heap.size := by have := hb.size; simp at this; omega
  clear hb
  rcases hv with ⟨i, g, cp, h1, rfl, -, -, -⟩ | ⟨h1, rfl⟩
  · have HF := Lib.hid (find_first h1)
    clear h1
    generalize ws.getD i wz = x at *
    obtain ⟨xk, xc, xs', xq, xv, xd, xx⟩ := x
    go_wp2_with fail
    refine (specTagCmp_any _ _ _ _ _ _ _).mono ?_
    rintro e w2 ⟨rfl, hb2⟩
    have HB2 : Hid (Below w.heap.size w w2) := below_step (HB.out.alloc HB.out.size _) (by simp; have := HB.out.size; omega) hb2
    clear hb2
    have HE : Hid (hasB ws key c s q = decide (0 ≤ tcmp xc xs' xq c s q)) := by simp [hasB, HF.out, Hid]
    generalize tcmp xc xs' xq c s q = z at *
    by_cases hz0 : 0 ≤ z
    · go_wp2
      go_ret
      rw [HE.out]
      exact ⟨by simp [hz0], HB2.out⟩
    · go_wp2
      go_ret
      rw [HE.out]
      exact ⟨by simp, HB2.out⟩
  · have HE : Hid (hasB ws key c s q = false) := by simp [hasB, find_none h1, Hid]
    clear h1
    go_wp2
    go_ret
    rw [HE.out]
    exact ⟨rfl, HB.out.alloc HB.out.size _⟩

theorem specMapHas_any (b n cap : Nat) (key c s q : Int) (ws : List Wr) (γ : Nat → Nat) (w : World) (hn : ws.length = n) (hm : n ≤ 1048576) (hx : Few ws) (hh : HoldsWs w b ws γ) :
    Calls Try.prog 70 #[.slice (some ⟨b, 0, none⟩) n cap, .int .i64 key, tagV c s q] w fun e w' => e = .returned (.bool (hasB ws key c s q)) ∧ Below w.heap.size w w' :=
  specMapHas_gen _ n cap key c s q ws w hn hm hx (hh.isWs hx)

end Go.Proofs.Ytbbmpfkijhhemaa

/- Contracts of the specification's Lacks, Covered, l03Right. -/
namespace Go.Proofs.Ytbbmpfkijhhemaa
open Go.ChangeShapes Go.WideShapes Go.ChangeAt Go.RowKit Go.Joins
attribute [local go_sem ↓] Go.wp_at_zero Go.wp_at_succ

def lacking (ws : List Wr) (d : Dp) : Bool := !hasB ws d.k d.c d.s d.q

def lacksL (ws : List Wr) (ds : List Dp) : List Dp := ds.filter (lacking ws)

def covB (ws : List Wr) (ds : List Dp) : Bool := (lacksL ws ds).length == 0

theorem take_next (ds : List Dp) (k : Nat) (h : k < ds.length) : ds.take (k + 1) = ds.take k ++ [ds.getD k dz] := by
  rw [List.take_add_one, List.getElem?_eq_getElem h]
  simp [List.getD, h]

theorem lacks_more {ws : List Wr} {ds : List Dp} {k : Nat} (h : k < ds.length) (hd : lacking ws (ds.getD k dz) = true) : lacksL ws (ds.take (k + 1)) = lacksL ws (ds.take k) ++ [ds.getD k dz] := by
  unfold lacksL
  rw [take_next ds k h, List.filter_append]
  generalize ds.getD k dz = d at *
  simp [hd]

theorem lacks_same {ws : List Wr} {ds : List Dp} {k : Nat} (h : k < ds.length) (hd : lacking ws (ds.getD k dz) = false) : lacksL ws (ds.take (k + 1)) = lacksL ws (ds.take k) := by
  unfold lacksL
  rw [take_next ds k h, List.filter_append]
  generalize ds.getD k dz = d at *
  simp [hd]

theorem lacks_len (ws : List Wr) (ds : List Dp) (k : Nat) : (lacksL ws (ds.take k)).length ≤ k := by
  unfold lacksL
  have h1 := List.length_filter_le (lacking ws) (ds.take k)
  have h2 : (ds.take k).length ≤ k := by simp; omega
  omega

set_option maxHeartbeats 4000000 in
theorem specLacks_any (a ad : Option Addr) (n m cap cd : Nat) (ws : List Wr) (ds : List Dp) (w : World) (hn : ws.length = n) (hm : n ≤ 1048576) (hx : Few ws) (hl : ds.length = m) (hml : m ≤ 1048576) (hh : IsWs w a ws) (hd : IsDeps w ad ds) :
    Calls Try.prog 56 #[.slice a n cap, .slice ad m cd] w fun e w' => ∃ v, e = .returned v ∧ RowD w' w.heap.size v (lacksL ws ds) ∧ Below w.heap.size w w' := by
  have HH : Hid (IsWs w a ws) := hh
  have HD : Hid (IsDeps w ad ds) := hd
  have HN : Hid (ws.length = n) := hn
  have HL : Hid (ds.length = m) := hl
  have HX : Hid (Few ws) := hx
  clear hh hd hn hl hx
  obtain ⟨i0, hi0, hx0⟩ := Option.map_eq_some_iff.1 infoDep
  simp only [Prod.mk.injEq] at hx0
  have HI0 := Lib.hid hi0
  have HX0 := Lib.hid hx0
  clear hi0 hx0
  have HR0 : Hid (RowD (w.alloc (.cells #[] 36)) w.heap.size (.slice (some ⟨w.heap.size, 0, none⟩) 0 0) (lacksL ws (ds.take 0))) := World.ownsRow_made w #[] 0 (Nat.le_refl _) (by simp [maxLen]) (by simp)
  go_enter Try.func56, Try.ntmps56
  go_wp2
  go_loopw [5, 6] (fun t i wr => ∃ (k : Nat) (v : Value), k ≤ m ∧ i = .int .i64 k ∧ v = t ∧ Hid (RowD wr w.heap.size v (lacksL ws (ds.take k))) ∧ Hid (Below w.heap.size w wr)) (fun _ i _ => m - (intOf i).toNat)
  case atStart => exact ⟨0, _, Nat.zero_le _, rfl, rfl, HR0, (Below.refl _ _).alloc (Nat.le_refl _) _⟩
  case round =>
    clear HR0
    obtain ⟨k, v, hk, rfl, rfl, HR, HB⟩ := hrel
    by_cases hk' : k < m
    · have hkd : k < ds.length := by rw [HL.out]; exact hk'
      obtain ⟨b, o, rfl, hz, e0, e1, e2, e3⟩ := HD.out.at HB.out hkd
      have i1 : (0 : Int) ≤ (k : Int) := by omega
      have i2 : (k : Int) < (m : Int) := by omega
      have hln := lacks_len ws ds k
      have HC : Hid (∀ p : Aft wr.heap.size wr, Calls Try.prog 70 #[.slice a n cap, .int .i64 (ds.getD k dz).k, tagV (ds.getD k dz).c (ds.getD k dz).s (ds.getD k dz).q] p.now fun e w' => e = .returned (.bool (hasB ws (ds.getD k dz).k (ds.getD k dz).c (ds.getD k dz).s (ds.getD k dz).q)) ∧ Below p.now.heap.size p.now w') := fun p =>
        specMapHas_gen a n cap _ _ _ _ ws _ HN.out hm HX.out (HH.out.below (below_step HB.out HB.out.size p.below))
      have HM : Hid (hasB ws (ds.getD k dz).k (ds.getD k dz).c (ds.getD k dz).s (ds.getD k dz).q = false → lacksL ws (ds.take (k + 1)) = lacksL ws (ds.take k) ++ [ds.getD k dz]) := fun h => lacks_more hkd (by unfold lacking; rw [h]; rfl)
      have HS : Hid (hasB ws (ds.getD k dz).k (ds.getD k dz).c (ds.getD k dz).s (ds.getD k dz).q = true → lacksL ws (ds.take (k + 1)) = lacksL ws (ds.take k)) := fun h => lacks_same hkd (by unfold lacking; rw [h]; rfl)
      clear HD
      generalize ds.getD k dz = d at *
      obtain ⟨dk, dc, dd, dq⟩ := d
      simp only at e0 e1 e2 e3 HC HM HS
      cases hb : hasB ws dk dc dd dq
      · have HE := Lib.hid (HM.out hb)
        rw [hb] at HC
        clear hb HM HS
        generalize lacksL ws (ds.take k) = zs at *
        go_wp2_with fail
        have ge0 := aft_cell hz e0
        have ge1 := aft_cell hz e1
        have ge2 := aft_cell hz e2
        have ge3 := aft_cell hz e3
        have ne := aft_some wr
        refine wp_region_aft (by kernel_rfl) (by kernel_rfl) ?_
        repeat (first | go_big_quiet_step (first | (go_at_call 70; exact aft_of (HC.out _))))
        refine wpQuiet_nil ?_
        intro wq hq
        have HBQ : Hid (Below w.heap.size w wq) := below_step HB.out HB.out.size hq
        have HRQ := Lib.hid (HR.out.below hq)
        replace e0 := held_cell hq e0 hz
        replace e1 := held_cell hq e1 hz
        replace e2 := held_cell hq e2 hz
        replace e3 := held_cell hq e3 hz
        have hwq : w.heap.size ≤ wq.heap.size := HBQ.out.size
        clear hq ge0 ge1 ge2 ge3 ne HC HR HB
        have HBC : Hid (Below wq.heap.size wq (wq.alloc (.cells #[.int .i64 dk, .int .i64 dc, .int .i64 dd, .int .i64 dq] 36))) := (Below.refl _ _).alloc (Nat.le_refl _) _
        have HRC := Lib.hid (HRQ.out.below HBC.out)
        have HBD := Lib.hid (below_step HBQ.out HBQ.out.size HBC.out)
        go_wp2_with (at_builtin; refine wpList_append_lies _ (by rfl) _ _ _ (by rfl) w.heap.size 36 i0 (depV 0 0 0 0) 4 32 Try.underlying27 HI0.out HX0.out.1 HX0.out.2.1 HX0.out.2.2 (by rfl) (by omega) v zs.length (zs.flatMap dpVals) (by rfl) HRC.out ⟨wq.heap.size, 0, none⟩ 1 1 (dpVals ⟨dk, dc, dd, dq⟩) (by rfl) (by rfl) (oneD_cells wq _ ⟨dk, dc, dd, dq⟩) (dp_one _) (by omega) (by unfold maxLen; omega) (by omega) (by simp; omega) _ rfl ?_; intro g3 cp3 w5 hown hgrow hg3 _; refine Hid.out ?_)
        refine Lib.hid ?_
        have HB5 : Hid (Below w.heap.size w w5) := HBD.out.grown hgrow HBD.out.size fun j hj => (World.ownsRow.lt HRC.out j hj).1
        have HR5 : Hid (RowD w5 w.heap.size (.slice (some ⟨g3, 0, none⟩) (zs.length + 1) cp3) (lacksL ws (ds.take (k + 1)))) := by
          refine Lib.hid ?_
          rw [HE.out]
          unfold RowD
          rw [List.length_append, List.flatMap_append]
          simpa using hown
        clear hown hgrow
        go_wp2
        exact ⟨⟨k + 1, _, by omega, by go_num, rfl, HR5, HB5⟩, by simp [intOf]; omega⟩
      · have HE := Lib.hid (HS.out hb)
        rw [hb] at HC
        clear hb HM HS
        go_wp2_with fail
        have ge0 := aft_cell hz e0
        have ge1 := aft_cell hz e1
        have ge2 := aft_cell hz e2
        have ge3 := aft_cell hz e3
        have ne := aft_some wr
        refine wp_region_aft (by kernel_rfl) (by kernel_rfl) ?_
        repeat (first | go_big_quiet_step (first | (go_at_call 70; exact aft_of (HC.out _))))
        refine wpQuiet_nil ?_
        intro wq hq
        have HBQ : Hid (Below w.heap.size w wq) := below_step HB.out HB.out.size hq
        have HRQ : Hid (RowD wq w.heap.size v (lacksL ws (ds.take (k + 1)))) := by
          rw [HE.out]
          exact HR.out.below hq
        clear hq ge0 ge1 ge2 ge3 ne HC HR HB
        go_wp2
        exact ⟨⟨k + 1, _, by omega, by go_num, rfl, HRQ, HBQ⟩, by simp [intOf]; omega⟩
    · have hkk : k = m := by omega
      subst hkk
      have HF : Hid (RowD wr w.heap.size v (lacksL ws ds)) := by
        have h := HR.out
        rw [List.take_of_length_le (by rw [HL.out]; exact Nat.le_refl _)] at h
        exact h
      go_wp2
      go_ret
      exact ⟨_, rfl, HF.out, HB.out⟩

set_option maxHeartbeats 1000000 in
theorem specCovered_any (a ad : Option Addr) (n m cap cd : Nat) (ws : List Wr) (ds : List Dp) (w : World) (hn : ws.length = n) (hm : n ≤ 1048576) (hx : Few ws) (hl : ds.length = m) (hml : m ≤ 1048576) (hh : IsWs w a ws) (hd : IsDeps w ad ds) :
    Calls Try.prog 35 #[.slice a n cap, .slice ad m cd] w fun e w' => e = .returned (.bool (covB ws ds)) ∧ Below w.heap.size w w' := by
  have HC : Hid (Calls Try.prog 56 #[.slice a n cap, .slice ad m cd] w fun e w' => ∃ v, e = .returned v ∧ RowD w' w.heap.size v (lacksL ws ds) ∧ Below w.heap.size w w') := specLacks_any a ad n m cap cd ws ds w hn hm hx hl hml hh hd
  have HE : Hid (covB ws ds = (((lacksL ws ds).length : Int) == 0)) := by
    unfold covB
    show _ = _
    rw [Bool.eq_iff_iff]
    simp
  clear hh hd hn hl hx
  go_enter Try.func35, Try.ntmps35
  go_wp2_with fail
  refine HC.out.mono ?_
  rintro e w1 ⟨v, rfl, hrow, hb⟩
  obtain ⟨al, cl, rfl, -⟩ := hrow.form
  have HB := Lib.hid hb
  clear hrow hb HC
  go_wp2
  go_ret
  exact ⟨ret_bool HE.out.symm, HB.out⟩

def rightB (ws more : List Wr) : Bool := mapOkB ws && more.all okW

theorem right_false {ws more : List Wr} {k : Nat} (h : k < more.length) (hk : okW (more.getD k wz) = false) : rightB ws more = false := by
  unfold rightB
  rw [Bool.and_eq_false_iff]
  refine .inr ?_
  rw [List.all_eq_false]
  refine ⟨more.getD k wz, ?_, by rw [hk]; simp⟩
  have e : more.getD k wz = more[k] := by simp [List.getD, h]
  rw [e]
  exact List.getElem_mem h

end Go.Proofs.Ytbbmpfkijhhemaa

/- The cursor of the drawn inputs: its place in memory, and the contracts of l01Open, pick, once. -/
namespace Go.Proofs.Ytbbmpfkijhhemaa
open Go.ChangeShapes Go.WideShapes Go.ChangeAt Go.RowKit Go.Joins

/-- Nothing that was there has turned, but for the one block B. -/
structure Hole (B : Nat) (w w' : World) : Prop where
  os : w'.os = w.os
  tape : w'.tape = w.tape
  output : w'.output = w.output
  size : w.heap.size ≤ w'.heap.size
  block : ∀ k, k < w.heap.size → k ≠ B → w'.heap[k]? = w.heap[k]?

theorem Hole.refl (B : Nat) (w : World) : Hole B w w := ⟨rfl, rfl, rfl, Nat.le_refl _, fun _ _ _ => rfl⟩

theorem Hole.trans {B : Nat} {a b c : World} (h : Hole B a b) (k : Hole B b c) : Hole B a c :=
  ⟨k.os.trans h.os, k.tape.trans h.tape, k.output.trans h.output, Nat.le_trans h.size k.size, fun i hi hn => (k.block i (Nat.lt_of_lt_of_le hi h.size) hn).trans (h.block i hi hn)⟩

theorem Hole.of_below {B : Nat} {w w' : World} (h : Below w.heap.size w w') : Hole B w w' := ⟨h.os, h.tape, h.output, h.size, fun k hk _ => h.block k hk⟩

theorem Hole.drew {B : Nat} {w w' : World} (h : Hole B w w') : Hole B w w'.drew := ⟨h.os, h.tape, h.output, h.size, h.block⟩

theorem Hole.drewN {B : Nat} {w w' : World} (h : Hole B w w') (n : Nat) : Hole B w (w'.drewN n) := h.trans (Hole.of_below (below_drewN (Below.refl _ _) n))

theorem Hole.alloc {B : Nat} {w w' : World} (h : Hole B w w') (o : Obj) : Hole B w (w'.alloc o) := h.trans (Hole.of_below ((Below.refl _ _).alloc (Nat.le_refl _) o))

theorem Hole.set {B : Nat} {w w' : World} (h : Hole B w w') (o : Nat) (v : Value) : Hole B w (w'.setCell ⟨B, o, none⟩ v) :=
  h.trans ⟨rfl, rfl, rfl, by simp [World.setCell], fun k _ hn => Below.heap_setCell _ _ _ _ hn⟩

theorem Hole.cell {B : Nat} {w w' : World} (h : Hole B w w') {b o : Nat} (hb : b < w.heap.size) (hn : b ≠ B) : w'.cell? ⟨b, o, none⟩ = w.cell? ⟨b, o, none⟩ := World.cell?_of_block (w := w) (h.block b hb hn)

theorem Hole.frozen {B : Nat} {w w' : World} (h : Hole B w w') {b o : Nat} (hb : b < w.heap.size) (hn : b ≠ B) : w'.frozen? ⟨b, o, none⟩ = w.frozen? ⟨b, o, none⟩ := World.frozen?_of_block (w := w) (h.block b hb hn)

theorem Hole.below {B c : Nat} {w0 w w' : World} (h0 : Below c w0 w) (h : Hole B w w') (hB : c ≤ B) (hc : c ≤ w.heap.size) : Below c w0 w' :=
  h0.trans ⟨h.os, h.tape, h.output, h.size, fun k hk => h.block k (by omega) (by omega)⟩

structure CurAt (w : World) (B : Nat) (a : Option Addr) (len cap : Nat) (at_ seed : Int) : Prop where
  lt : B < w.heap.size
  c0 : w.cell? ⟨B, 0, none⟩ = some (.slice a len cap)
  c1 : w.cell? ⟨B, 1, none⟩ = some (.int .i64 at_)
  c2 : w.cell? ⟨B, 2, none⟩ = some (.int .i64 seed)
  fz : ∀ o, w.frozen? ⟨B, o, none⟩ = false
  p0 : 0 ≤ at_
  s0 : 0 ≤ seed
  s1 : seed ≤ 65520

/-- The code's bytes, in a block that is not the cursor's. -/
def CodeAt (w : World) (B : Nat) (a : Option Addr) (len : Nat) : Prop :=
  len = 0 ∨ ∃ b o, a = some ⟨b, o, none⟩ ∧ b < B ∧ ∀ i, i < len → ∃ z : Int, 0 ≤ z ∧ z ≤ 255 ∧ w.cell? ⟨b, o + i, none⟩ = some (.int .u8 z)

theorem CodeAt.hole {w w' : World} {B : Nat} {a : Option Addr} {len : Nat} (h : CodeAt w B a len) (hB : B < w.heap.size) (hh : Hole B w w') : CodeAt w' B a len := by
  rcases h with h | ⟨b, o, ha, hb, hz⟩
  · exact .inl h
  · refine .inr ⟨b, o, ha, hb, fun i hi => ?_⟩
    obtain ⟨z, z0, z1, hc⟩ := hz i hi
    exact ⟨z, z0, z1, (hh.cell (by omega) (by omega)).trans hc⟩

/-- The cursor stands at most N bytes on. -/
def Cur (w : World) (B : Nat) (a : Option Addr) (len cap : Nat) (N : Int) : Prop := ∃ at_ seed, CurAt w B a len cap at_ seed ∧ at_ ≤ N ∧ CodeAt w B a len ∧ len ≤ 1048576

theorem Cur.below {w w' : World} {B : Nat} {a : Option Addr} {len cap : Nat} {N : Int} (h : Cur w B a len cap N) (hb : Below w.heap.size w w') : Cur w' B a len cap N := by
  obtain ⟨at_, seed, hc, hN, hk, hl⟩ := h
  refine ⟨at_, seed, ⟨Nat.lt_of_lt_of_le hc.lt hb.size, held_cell hb hc.c0 hc.lt, held_cell hb hc.c1 hc.lt, held_cell hb hc.c2 hc.lt, fun o => (hb.frozen (p := ⟨B, o, none⟩) hc.lt).trans (hc.fz o), hc.p0, hc.s0, hc.s1⟩, hN, hk.hole hc.lt (Hole.of_below hb), hl⟩

theorem Cur.more {w : World} {B : Nat} {a : Option Addr} {len cap : Nat} {N M : Int} (h : Cur w B a len cap N) (hM : N ≤ M) : Cur w B a len cap M := by
  obtain ⟨at_, seed, hc, hN, hk⟩ := h
  exact ⟨at_, seed, hc, Int.le_trans hN hM, hk⟩

theorem Cur.lt {w : World} {B : Nat} {a : Option Addr} {len cap : Nat} {N : Int} (h : Cur w B a len cap N) : B < w.heap.size := by
  obtain ⟨_, _, hc, _⟩ := h
  exact hc.lt

theorem mod_lt {x n : Int} (hn : 2 ≤ n) : 0 ≤ x % n ∧ x % n < n := ⟨Int.emod_nonneg _ (by omega), Int.emod_lt_of_pos _ (by omega)⟩

set_option maxHeartbeats 1000000 in
theorem pick_in (B : Nat) (b o len cap : Nat) (at_ n z : Int) (w : World) (c0 : w.cell? ⟨B, 0, none⟩ = some (.slice (some ⟨b, o, none⟩) len cap)) (c1 : w.cell? ⟨B, 1, none⟩ = some (.int .i64 at_)) (fz : ∀ o, w.frozen? ⟨B, o, none⟩ = false)
    (hz : w.cell? ⟨b, o + at_.toNat, none⟩ = some (.int .u8 z)) (z0 : 0 ≤ z) (z1 : z ≤ 255) (p0 : 0 ≤ at_) (p1 : at_ < len) (hl : len ≤ 1048576) (hn : 2 ≤ n) (hn' : n ≤ 100000) :
    Calls Try.prog 42 #[.pointer (some ⟨B, 0, none⟩), .int .i64 n] w fun e w' => e = .returned (.int .i64 (z % n)) ∧ ∃ m, w' = (w.drewN m).setCell ⟨B, 1, none⟩ (.int .i64 (at_ + 1)) := by
  go_enter Try.func42, Try.ntmps42
  go_wp2_with fail
  go_quiet (fail)
  go_wp2_with fail
  go_quiet (fail)
  go_wp2
  go_ret
  exact ⟨rfl, _, rfl⟩

set_option maxHeartbeats 1000000 in
theorem pick_out (B : Nat) (b o len cap : Nat) (at_ seed n z : Int) (w : World) (hne : b ≠ B) (c0 : w.cell? ⟨B, 0, none⟩ = some (.slice (some ⟨b, o, none⟩) len cap)) (c1 : w.cell? ⟨B, 1, none⟩ = some (.int .i64 at_)) (c2 : w.cell? ⟨B, 2, none⟩ = some (.int .i64 seed)) (fz : ∀ o, w.frozen? ⟨B, o, none⟩ = false)
    (hz : w.cell? ⟨b, o + (at_ % len).toNat, none⟩ = some (.int .u8 z)) (z0 : 0 ≤ z) (z1 : z ≤ 255) (p0 : 0 ≤ at_) (p2 : at_ ≤ 1000000) (p1 : (len : Int) ≤ at_) (s0 : 0 ≤ seed) (s1 : seed ≤ 65520) (hl0 : (0 : Int) < len) (hl : len ≤ 1048576) (hn : 2 ≤ n) (hn' : n ≤ 100000) :
    Calls Try.prog 42 #[.pointer (some ⟨B, 0, none⟩), .int .i64 n] w fun e w' => e = .returned (.int .i64 (((seed * 1103 + 12345) % 65521 / 7 + z) % n)) ∧ ∃ m m', w' = ((((w.drewN m).setCell ⟨B, 2, none⟩ (.int .i64 ((seed * 1103 + 12345) % 65521))).drewN m').setCell ⟨B, 1, none⟩ (.int .i64 (at_ + 1))) := by
  have i1 : (0 : Int) ≤ at_ % len := Int.emod_nonneg _ (by omega)
  have i2 : at_ % len < (len : Int) := Int.emod_lt_of_pos _ hl0
  go_enter Try.func42, Try.ntmps42
  go_wp2_with fail
  go_quiet (fail)
  go_wp2_with fail
  go_quiet (fail)
  go_wp2
  go_ret
  exact ⟨rfl, _, _, rfl⟩

set_option maxHeartbeats 1000000 in
theorem pick_nil (B : Nat) (a : Option Addr) (cap : Nat) (at_ seed n : Int) (w : World) (c0 : w.cell? ⟨B, 0, none⟩ = some (.slice a 0 cap)) (c1 : w.cell? ⟨B, 1, none⟩ = some (.int .i64 at_)) (c2 : w.cell? ⟨B, 2, none⟩ = some (.int .i64 seed)) (fz : ∀ o, w.frozen? ⟨B, o, none⟩ = false)
    (p0 : 0 ≤ at_) (p2 : at_ ≤ 1000000) (s0 : 0 ≤ seed) (s1 : seed ≤ 65520) (hn : 2 ≤ n) (hn' : n ≤ 100000) :
    Calls Try.prog 42 #[.pointer (some ⟨B, 0, none⟩), .int .i64 n] w fun e w' => e = .returned (.int .i64 (0 % n)) ∧ ∃ m m', w' = ((((w.drewN m).setCell ⟨B, 2, none⟩ (.int .i64 ((seed * 1103 + 12345) % 65521))).drewN m').setCell ⟨B, 1, none⟩ (.int .i64 (at_ + 1))) := by
  go_enter Try.func42, Try.ntmps42
  go_wp2_with fail
  go_quiet (fail)
  go_wp2
  go_ret
  exact ⟨by simp, _, 0, rfl⟩

theorem cell_set_same {w : World} {B o : Nat} {u v : Value} (h : w.cell? ⟨B, o, none⟩ = some u) : (w.setCell ⟨B, o, none⟩ v).cell? ⟨B, o, none⟩ = some v := World.cell?_setCell_same _ _ _ h

theorem cell_set_off {w : World} {B o o' : Nat} {u v : Value} (h : w.cell? ⟨B, o', none⟩ = some u) (hn : o ≠ o') : (w.setCell ⟨B, o, none⟩ v).cell? ⟨B, o', none⟩ = some u :=
  (World.cell?_setCell_other _ _ _ _ (fun e => hn (by injection e))).trans h

theorem cur_set1 {w : World} {B : Nat} {a : Option Addr} {len cap : Nat} {at_ seed p : Int} (h : CurAt w B a len cap at_ seed) (hp : 0 ≤ p) : CurAt (w.setCell ⟨B, 1, none⟩ (.int .i64 p)) B a len cap p seed :=
  ⟨by simpa [World.setCell] using h.lt, cell_set_off h.c0 (by omega), cell_set_same h.c1, cell_set_off h.c2 (by omega), fun o => by rw [World.frozen?_setCell]; exact h.fz o, hp, h.s0, h.s1⟩

theorem cur_set2 {w : World} {B : Nat} {a : Option Addr} {len cap : Nat} {at_ seed p : Int} (h : CurAt w B a len cap at_ seed) (hp : 0 ≤ p) (hq : p ≤ 65520) : CurAt (w.setCell ⟨B, 2, none⟩ (.int .i64 p)) B a len cap at_ p :=
  ⟨by simpa [World.setCell] using h.lt, cell_set_off h.c0 (by omega), cell_set_off h.c1 (by omega), cell_set_same h.c2, fun o => by rw [World.frozen?_setCell]; exact h.fz o, h.p0, hp, hq⟩

theorem cur_drewN {w : World} {B : Nat} {a : Option Addr} {len cap : Nat} {at_ seed : Int} (h : CurAt w B a len cap at_ seed) (n : Nat) : CurAt (w.drewN n) B a len cap at_ seed := by
  have hb : Below w.heap.size w (w.drewN n) := below_drewN (Below.refl _ _) n
  exact ⟨Nat.lt_of_lt_of_le h.lt hb.size, held_cell hb h.c0 h.lt, held_cell hb h.c1 h.lt, held_cell hb h.c2 h.lt, fun o => (hb.frozen (p := ⟨B, o, none⟩) h.lt).trans (h.fz o), h.p0, h.s0, h.s1⟩

theorem pick_any (B : Nat) (a : Option Addr) (len cap : Nat) (N n : Int) (w : World) (hN : N ≤ 1000000) (hn : 2 ≤ n) (hn' : n ≤ 100000) (h : Cur w B a len cap N) :
    Calls Try.prog 42 #[.pointer (some ⟨B, 0, none⟩), .int .i64 n] w fun e w' => ∃ r : Int, e = .returned (.int .i64 r) ∧ 0 ≤ r ∧ r < n ∧ Cur w' B a len cap (N + 1) ∧ Hole B w w' := by
  obtain ⟨at_, seed, hc, hN', hk, hl⟩ := h
  have hs : 0 ≤ (seed * 1103 + 12345) % 65521 ∧ (seed * 1103 + 12345) % 65521 ≤ 65520 := by
    have := hc.s0
    have := hc.s1
    omega
  have hp := hc.p0
  rcases hk with h0 | ⟨b, o, rfl, hb, hz⟩
  · subst h0
    refine (pick_nil B a cap at_ seed n w hc.c0 hc.c1 hc.c2 hc.fz hc.p0 (by omega) hc.s0 hc.s1 hn hn').mono ?_
    rintro e w' ⟨rfl, m, m', rfl⟩
    exact ⟨_, rfl, (mod_lt hn).1, (mod_lt hn).2, ⟨at_ + 1, _, cur_set1 (cur_drewN (cur_set2 (cur_drewN hc m) hs.1 hs.2) m') (by omega), by omega, .inl rfl, hl⟩, ((((Hole.refl B w).drewN m).set 2 _).drewN m').set 1 _⟩
  · by_cases hlt : at_ < len
    · obtain ⟨z, z0, z1, hzc⟩ := hz at_.toNat (by omega)
      refine (pick_in B b o len cap at_ n z w hc.c0 hc.c1 hc.fz hzc z0 z1 hc.p0 hlt hl hn hn').mono ?_
      rintro e w' ⟨rfl, m, rfl⟩
      have hh : Hole B w ((w.drewN m).setCell ⟨B, 1, none⟩ (.int .i64 (at_ + 1))) := ((Hole.refl B w).drewN m).set 1 _
      exact ⟨_, rfl, (mod_lt hn).1, (mod_lt hn).2, ⟨at_ + 1, seed, cur_set1 (cur_drewN hc m) (by omega), by omega, (CodeAt.hole (.inr ⟨b, o, rfl, hb, hz⟩) hc.lt hh), hl⟩, hh⟩
    · by_cases h0 : len = 0
      · subst h0
        refine (pick_nil B _ cap at_ seed n w hc.c0 hc.c1 hc.c2 hc.fz hc.p0 (by omega) hc.s0 hc.s1 hn hn').mono ?_
        rintro e w' ⟨rfl, m, m', rfl⟩
        exact ⟨_, rfl, (mod_lt hn).1, (mod_lt hn).2, ⟨at_ + 1, _, cur_set1 (cur_drewN (cur_set2 (cur_drewN hc m) hs.1 hs.2) m') (by omega), by omega, .inl rfl, hl⟩, ((((Hole.refl B w).drewN m).set 2 _).drewN m').set 1 _⟩
      · have hl0 : (0 : Int) < len := by omega
        have i1 : (0 : Int) ≤ at_ % len := Int.emod_nonneg _ (by omega)
        have i2 : at_ % len < (len : Int) := Int.emod_lt_of_pos _ hl0
        obtain ⟨z, z0, z1, hzc⟩ := hz (at_ % len).toNat (by omega)
        refine (pick_out B b o len cap at_ seed n z w (by omega) hc.c0 hc.c1 hc.c2 hc.fz hzc z0 z1 hc.p0 (by omega) (by omega) hc.s0 hc.s1 hl0 hl hn hn').mono ?_
        rintro e w' ⟨rfl, m, m', rfl⟩
        have hh : Hole B w ((((w.drewN m).setCell ⟨B, 2, none⟩ (.int .i64 ((seed * 1103 + 12345) % 65521))).drewN m').setCell ⟨B, 1, none⟩ (.int .i64 (at_ + 1))) := ((((Hole.refl B w).drewN m).set 2 _).drewN m').set 1 _
        exact ⟨_, rfl, (mod_lt hn).1, (mod_lt hn).2, ⟨at_ + 1, _, cur_set1 (cur_drewN (cur_set2 (cur_drewN hc m) hs.1 hs.2) m') (by omega), by omega, (CodeAt.hole (.inr ⟨b, o, rfl, hb, hz⟩) hc.lt hh), hl⟩, hh⟩

set_option maxHeartbeats 400000 in
theorem once_any (B : Nat) (a : Option Addr) (len cap : Nat) (N n : Int) (w : World) (hN : N ≤ 1000000) (hn : 2 ≤ n) (hn' : n ≤ 100000) (h : Cur w B a len cap N) :
    Calls Try.prog 44 #[.pointer (some ⟨B, 0, none⟩), .int .i64 n] w fun e w' => ∃ r : Bool, e = .returned (.bool r) ∧ Cur w' B a len cap (N + 1) ∧ Hole B w w' := by
  have HC : Hid (Cur w B a len cap N) := h
  clear h
  go_enter Try.func44, Try.ntmps44
  go_wp2_with fail
  refine (pick_any B a len cap N n _ hN hn hn' HC.out).mono ?_
  rintro e w1 ⟨r, rfl, r0, r1, hc1, hh1⟩
  have HC1 : Hid (Cur w1 B a len cap (N + 1)) := hc1
  have HH1 : Hid (Hole B w w1) := hh1
  clear hc1 hh1
  go_wp2
  go_ret
  exact ⟨_, rfl, HC1.out, HH1.out⟩

theorem Hole.setNew {B R : Nat} {w w' : World} (h : Hole B w w') (hR : w.heap.size ≤ R) (o : Nat) (v : Value) : Hole B w (w'.setCell ⟨R, o, none⟩ v) :=
  ⟨h.os, h.tape, h.output, by simpa [World.setCell] using h.size, fun k hk hn => (Below.heap_setCell _ _ _ _ (by show k ≠ R; omega)).trans (h.block k hk hn)⟩

theorem Cur.setOther {w : World} {B R : Nat} {a : Option Addr} {len cap : Nat} {N : Int} (h : Cur w B a len cap N) (hR : B < R) (o : Nat) (v : Value) : Cur (w.setCell ⟨R, o, none⟩ v) B a len cap N := by
  obtain ⟨at_, seed, hc, hN, hk, hl⟩ := h
  have hne : ∀ b o', b < R → (Addr.mk R o none) ≠ ⟨b, o', none⟩ := fun b o' hb e => by
    have : R = b := by injection e
    omega
  refine ⟨at_, seed, ⟨by simpa [World.setCell] using hc.lt, (World.cell?_setCell_other _ _ _ _ (hne _ _ hR)).trans hc.c0, (World.cell?_setCell_other _ _ _ _ (hne _ _ hR)).trans hc.c1, (World.cell?_setCell_other _ _ _ _ (hne _ _ hR)).trans hc.c2, fun o => by rw [World.frozen?_setCell]; exact hc.fz o, hc.p0, hc.s0, hc.s1⟩, hN, ?_, hl⟩
  rcases hk with h0 | ⟨b, o', ha, hb, hz⟩
  · exact .inl h0
  · refine .inr ⟨b, o', ha, hb, fun i hi => ?_⟩
    obtain ⟨z, z0, z1, hcz⟩ := hz i hi
    exact ⟨z, z0, z1, (World.cell?_setCell_other _ _ _ _ (hne _ _ (by omega))).trans hcz⟩

/-- A tag in a block of its own. -/
structure TagBox (w : World) (b : Nat) (c s q : Int) : Prop where
  lt : b < w.heap.size
  c0 : w.cell? ⟨b, 0, none⟩ = some (.int .i64 c)
  c1 : w.cell? ⟨b, 1, none⟩ = some (.int .i64 s)
  c2 : w.cell? ⟨b, 2, none⟩ = some (.int .i64 q)
  fz : ∀ o, w.frozen? ⟨b, o, none⟩ = false

theorem TagBox.start (w : World) (c s q : Int) (t : Nat) : TagBox (w.alloc (.cells #[.int .i64 c, .int .i64 s, .int .i64 q] t)) w.heap.size c s q :=
  ⟨by simp, by simp [go_sem], by simp [go_sem], by simp [go_sem], fun o => by simp [go_sem]⟩

theorem TagBox.hole {w w' : World} {B b : Nat} {c s q : Int} (h : TagBox w b c s q) (hh : Hole B w w') (hn : b ≠ B) : TagBox w' b c s q :=
  ⟨Nat.lt_of_lt_of_le h.lt hh.size, (hh.cell h.lt hn).trans h.c0, (hh.cell h.lt hn).trans h.c1, (hh.cell h.lt hn).trans h.c2, fun o => (hh.frozen h.lt hn).trans (h.fz o)⟩

theorem ints_cell (w : World) (l : List Int) (t i : Nat) (hi : i < l.length) : (w.alloc (.cells (l.map (Value.int .i64)).toArray t)).cell? ⟨w.heap.size, i, none⟩ = some (.int .i64 (l.getD i 0)) := by
  simp [go_sem, List.getD, hi]

set_option maxHeartbeats 1000000 in
theorem raw_any (B : Nat) (a : Option Addr) (len cap : Nat) (N : Int) (w : World) (hN : N ≤ 100000) (h : Cur w B a len cap N) :
    Calls Try.prog 46 #[.pointer (some ⟨B, 0, none⟩)] w fun e w' => ∃ r : Int, e = .returned (.int .i64 r) ∧ Cur w' B a len cap (N + 2) ∧ Hole B w w' := by
  have HC : Hid (Cur w B a len cap N) := h
  clear h
  go_enter Try.func46, Try.ntmps46
  go_wp2_with fail
  refine (pick_any B a len cap N 8 _ (by omega) (by omega) (by omega) HC.out).mono ?_
  rintro e w1 ⟨r, rfl, r0, r1, hc1, hh1⟩
  have HC1 : Hid (Cur w1 B a len cap (N + 1)) := hc1
  have HH1 : Hid (Hole B w w1) := hh1
  clear hc1 hh1
  by_cases k0 : r = 0
  · subst k0
    go_wp2_with fail
    refine (pick_any B a len cap (N + 1) 256 _ (by omega) (by omega) (by omega) HC1.out).mono ?_
    rintro e w2 ⟨r2, rfl, q0, q1, hc2, hh2⟩
    have HC2 : Hid (Cur w2 B a len cap (N + 2)) := hc2.more (by omega)
    have HH2 : Hid (Hole B w w2) := HH1.out.trans hh2
    clear hc2 hh2
    go_wp2
    go_ret
    exact ⟨_, rfl, HC2.out, HH2.out⟩
  · by_cases k1 : r = 1
    · subst k1
      go_wp2_with fail
      have HA : Hid (Below w1.heap.size w1 (w1.alloc (.cells ((([9223372036854775807, -9223372036854775808, 4611686018427387904, 1000, 1001, -1000, 100000, 100001] : List Int).map (Value.int .i64)).toArray) 3))) := (Below.refl _ _).alloc (Nat.le_refl _) _
      refine (pick_any B a len cap (N + 1) 8 _ (by omega) (by omega) (by omega) (HC1.out.below HA.out)).mono ?_
      rintro e w2 ⟨r2, rfl, q0, q1, hc2, hh2⟩
      have HC2 : Hid (Cur w2 B a len cap (N + 2)) := hc2.more (by omega)
      have HH2 : Hid (Hole B w w2) := (HH1.out.trans (Hole.of_below HA.out)).trans hh2
      have hcell : w2.cell? ⟨w1.heap.size, r2.toNat, none⟩ = some (.int .i64 _) := (hh2.cell (by simp) (by have := HC1.out.lt; omega)).trans (ints_cell w1 [9223372036854775807, -9223372036854775808, 4611686018427387904, 1000, 1001, -1000, 100000, 100001] _ r2.toNat (by simp; omega))
      generalize List.getD [9223372036854775807, -9223372036854775808, 4611686018427387904, 1000, 1001, -1000, 100000, 100001] r2.toNat 0 = v at hcell
      clear hc2 hh2 HA
      go_wp2
      go_ret
      exact ⟨_, rfl, HC2.out, HH2.out⟩
    · have k0' : (r == 0) = false := by simp [k0]
      have k1' : (r == 1) = false := by simp [k1]
      clear k0 k1
      go_wp2_with fail
      refine (pick_any B a len cap (N + 1) 14 _ (by omega) (by omega) (by omega) HC1.out).mono ?_
      rintro e w2 ⟨r2, rfl, q0, q1, hc2, hh2⟩
      have HC2 : Hid (Cur w2 B a len cap (N + 2)) := hc2.more (by omega)
      have HH2 : Hid (Hole B w w2) := HH1.out.trans hh2
      clear hc2 hh2
      go_wp2
      go_ret
      exact ⟨_, rfl, HC2.out, HH2.out⟩

end Go.Proofs.Ytbbmpfkijhhemaa
