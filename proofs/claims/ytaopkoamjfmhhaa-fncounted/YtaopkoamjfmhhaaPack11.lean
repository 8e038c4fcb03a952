import Derived.Test.YtaopkoamjfmhhaaPack10
import Derived.Test.YtaopkoamjfmhhaaPack8
import Derived.Test.YtaopkoamjfmhhaaPack2
import Derived.Lib.Hide
import Derived.Test.YtaopkoamjfmhhaaPack1
/- The draw of DrawCounterAdd. -/
namespace Go.Proofs.Ytaopkoamjfmhhaa
open Go.ChangeShapes Go.WideShapes Go.ChangeAt Go.RowKit Go.Joins

theorem isIs_block {w w' : World} {g : Nat} {zs : List Int} (hb : w'.heap[g]? = w.heap[g]?) (hs : w.heap.size ≤ w'.heap.size) (h : IsIs w (some ⟨g, 0, none⟩) zs) : IsIs w' (some ⟨g, 0, none⟩) zs := by
  rcases h with h | ⟨b, o, ha, hlt, hh⟩
  · exact .inl h
  · injection ha with ha
    injection ha with ha ho
    subst ha
    subst ho
    exact .inr ⟨g, 0, rfl, Nat.lt_of_lt_of_le hlt hs, fun i hi => (World.cell?_of_block (a := ⟨g, 0 + i, none⟩) hb).trans (hh i hi)⟩

/-- What an operation may do while a counter is handed over to the block D: the cursor moves on; the block D gets the counter. -/
def RD2 (D B : Nat) (a : Option Addr) (len cap : Nat) (v0 u0 : Value) (w w' : World) : Prop :=
  w'.os = w.os ∧ w'.tape = w.tape ∧ w'.output = w.output ∧ w.heap.size ≤ w'.heap.size ∧ (∀ k, k < w.heap.size → k ≠ B → k ≠ D → w'.heap[k]? = w.heap[k]?) ∧ (∀ K : Int, K ≤ 90000 → Cur w B a len cap K → Cur w' B a len cap (K + 300)) ∧ (D < w.heap.size → w'.heap[D]? = w.heap[D]? ∨ w'.heap[D]? = some (.cells #[v0, u0] 26 (0, 0)))

theorem rd2_cur {D B : Nat} {a : Option Addr} {len cap : Nat} {v0 u0 : Value} {w w' : World} (hD : D ≠ B) (h : CurK 300 B a len cap w w') : RD2 D B a len cap v0 u0 w w' :=
  ⟨h.1.os, h.1.tape, h.1.output, h.1.size, fun k hk hB _ => h.1.block k hk hB, h.2, fun hk => .inl (h.1.block D hk hD)⟩

theorem rd2_set {D B : Nat} {a : Option Addr} {len cap : Nat} {v0 u0 : Value} {x x' : Option Addr} {y z y' z' : Nat} {w : World} (hD : D < B) (hb : w.heap[D]? = some (.cells #[.slice x y z, .slice x' y' z'] 26 (0, 0))) : RD2 D B a len cap v0 u0 w ((w.setCell ⟨D, 0, none⟩ v0).setCell ⟨D, 1, none⟩ u0) := by
  refine ⟨rfl, rfl, rfl, by simp, fun k _ _ hk => (Below.heap_setCell _ _ _ _ hk).trans (Below.heap_setCell _ _ _ _ hk), fun K _ hK => ?_, fun _ => .inr (two_setCell1 (two_setCell0 hb))⟩
  obtain ⟨at_, seed, hcur, hN', hk, hl⟩ := hK
  have hne : ∀ q b o', b ≠ D → (Addr.mk D q none) ≠ ⟨b, o', none⟩ := fun q b o' h e => by
    have : D = b := by injection e
    exact h this.symm
  refine ⟨at_, seed, ⟨by simpa using hcur.lt, (World.cell?_setCell_other _ _ _ _ (hne _ _ _ (by omega))).trans ((World.cell?_setCell_other _ _ _ _ (hne _ _ _ (by omega))).trans hcur.c0), (World.cell?_setCell_other _ _ _ _ (hne _ _ _ (by omega))).trans ((World.cell?_setCell_other _ _ _ _ (hne _ _ _ (by omega))).trans hcur.c1), (World.cell?_setCell_other _ _ _ _ (hne _ _ _ (by omega))).trans ((World.cell?_setCell_other _ _ _ _ (hne _ _ _ (by omega))).trans hcur.c2), fun o => by rw [World.frozen?_setCell, World.frozen?_setCell]; exact hcur.fz o, hcur.p0, hcur.s0, hcur.s1⟩, by omega, ?_, hl⟩
  rcases hk with h0 | ⟨b, o, ha, hb', hz⟩
  · exact .inl h0
  · refine .inr ⟨b, o, ha, hb', fun i hi => ?_⟩
    obtain ⟨z, z0, z1, hcell⟩ := hz i hi
    by_cases e : b = D
    · subst e
      rw [cell_of_row w b (o + i) _ _ (0, 0) hb] at hcell
      generalize o + i = q at hcell
      match q with
      | 0 => simp at hcell
      | 1 => simp at hcell
      | q + 2 => simp at hcell
    · exact ⟨z, z0, z1, (World.cell?_setCell_other _ _ _ _ (hne _ _ _ e)).trans ((World.cell?_setCell_other _ _ _ _ (hne _ _ _ e)).trans hcell)⟩

/-- What holds while DrawCounterAdd's region goes on. -/
def SD2 (D B : Nat) (a : Option Addr) (len cap : Nat) (v0 u0 : Value) (V : World) (f : Nat) (w' : World) : Prop :=
  (w'.os = V.os ∧ w'.tape = V.tape ∧ w'.output = V.output ∧ V.heap.size ≤ w'.heap.size ∧ (∀ k, k < V.heap.size → k ≠ B → k ≠ D → w'.heap[k]? = V.heap[k]?)) ∧ Cur w' B a len cap (10000 - 300 * (f : Int)) ∧ f ≤ 30 ∧ D < V.heap.size ∧ (w'.heap[D]? = some (.cells #[.slice none 0 0, .slice none 0 0] 26 (0, 0)) ∨ w'.heap[D]? = some (.cells #[v0, u0] 26 (0, 0)))

theorem sd2_step {D B : Nat} {a : Option Addr} {len cap : Nat} {v0 u0 : Value} {V : World} (f : Nat) (w1 w2 : World) (h : SD2 D B a len cap v0 u0 V (f + 1) w1) (hr : RD2 D B a len cap v0 u0 w1 w2) : SD2 D B a len cap v0 u0 V f w2 := by
  obtain ⟨⟨h1, h2, h3, h4, h5⟩, hc, hf, hD, hv⟩ := h
  obtain ⟨r1, r2, r3, r4, r5, rc, rv⟩ := hr
  refine ⟨⟨r1.trans h1, r2.trans h2, r3.trans h3, Nat.le_trans h4 r4, fun k hk hB hkD => (r5 k (Nat.lt_of_lt_of_le hk h4) hB hkD).trans (h5 k hk hB hkD)⟩, (rc _ (by omega) hc).more (by push_cast; omega), by omega, hD, ?_⟩
  rcases rv (by omega) with e | e
  · rw [e]
    exact hv
  · exact .inr e

theorem laid_rd2 {D B n b : Nat} {a : Option Addr} {len cap : Nat} {v0 u0 : Value} {w w' : World} (h : LaidK B n b w) (hb : b ≠ D) (hr : RD2 D B a len cap v0 u0 w w') : LaidK B n b w' := by
  obtain ⟨h1, cs, h2, h3⟩ := h
  exact ⟨h1, cs, (hr.2.2.2.2.1 b (Array.getElem?_eq_some_iff.1 h2).1 (by omega) hb).trans h2, h3⟩

theorem lasts_builtD2 (D B n : Nat) (a : Option Addr) (len cap : Nat) (v0 u0 : Value) : lasts (RD2 D B a len cap v0 u0) (BuiltD D B n) := by
  rintro v w w' ⟨b, h1, h2, h3⟩ hr
  exact ⟨b, h1, h2, laid_rd2 h3 h2 hr⟩

theorem lasts_ptrD2 (D B n : Nat) (a : Option Addr) (len cap : Nat) (v0 u0 : Value) : lasts (RD2 D B a len cap v0 u0) (PtrD D B n) := by
  rintro v w w' ⟨b, q, h1, h0, h2, h3⟩ hr
  exact ⟨b, q, h1, h0, h2, laid_rd2 h3 h2 hr⟩

set_option maxRecDepth 100000 in
set_option maxHeartbeats 8000000 in
theorem drawCounterAdd_any (a : Option Addr) (len cap : Nat) (w : World) (h : Bytes w a len) (hl : len ≤ 1048576) :
    Calls Try.prog 13 #[.slice a len cap] w fun e w' => ∃ a1 c1 b1 d1 us1 ds1 si z, e = .returned (.tuple #[cntV a1 us1.length c1 b1 ds1.length d1, .int .i64 si, .int .i64 z]) ∧ us1.length ≤ 5 ∧ ds1.length ≤ 5 ∧ IsC w' a1 b1 us1 ds1 ∧ Below w.heap.size w w' := by
  have hres : Try.f13.results = #[.cell 2 26, .tmp 3, .tmp 4] := by kernel_rfl
  have HY := Lib.hid h
  clear h
  go_enter Try.func13, Try.ntmps13
  go_wp2_with fail
  have HB0 : Hid (Below w.heap.size w (w.alloc (.cells #[.slice none 0 0, .slice none 0 0] 26))) := (Below.refl _ _).alloc (Nat.le_refl _) _
  have rb : (w.alloc (.cells #[.slice none 0 0, .slice none 0 0] 26)).heap[w.heap.size]? = some (.cells #[.slice none 0 0, .slice none 0 0] 26 (0, 0)) := heap_alloc_new w _
  have hz0 : w.heap.size < (w.alloc (.cells #[.slice none 0 0, .slice none 0 0] 26)).heap.size := by simp
  generalize (w.alloc (.cells #[.slice none 0 0, .slice none 0 0] 26)) = V at *
  have HYV := Lib.hid (HY.out.below HB0.out)
  refine (open_any a len cap V HYV.out hl).mono ?_
  rintro e w1 ⟨rfl, hc1, hb1⟩
  have HC1 := Lib.hid hc1
  have HB1 := Lib.hid (below_step HB0.out HB0.out.size hb1)
  have hBV : w.heap.size < V.heap.size := by omega
  replace rb := (hb1.block _ hBV).trans rb
  have hV1 : V.heap.size < w1.heap.size := hc1.lt
  have hle1 : V.heap.size ≤ w1.heap.size := by omega
  clear hc1 hb1 HYV HY HB0
  generalize V.heap.size = B at *
  go_wp2_with fail
  refine (counter_any B a len cap 0 _ (by omega) HC1.out).mono ?_
  rintro e w2 ⟨g1, c1, h1, d1, us1, ds1, rfl, h51, h61, hr1, hc2, hh2⟩
  have HR2 := Lib.hid hr1
  have HC2 := Lib.hid hc2
  have HH2 := Lib.hid hh2
  have hle2 : w1.heap.size ≤ w2.heap.size := hh2.size
  replace rb := (hh2.block _ (by omega) (by omega)).trans rb
  clear hr1 hc2 hh2 HC1
  go_wp2_with fail
  have hA : Below w2.heap.size w2 (w2.alloc (.cells #[.slice (some ⟨g1, 0, none⟩) us1.length c1, .slice (some ⟨h1, 0, none⟩) ds1.length d1] 26)) := (Below.refl _ _).alloc (Nat.le_refl _) _
  have c5 : (w2.alloc (.cells #[.slice (some ⟨g1, 0, none⟩) us1.length c1, .slice (some ⟨h1, 0, none⟩) ds1.length d1] 26)).cell? ⟨w2.heap.size, 0, none⟩ = some (.slice (some ⟨g1, 0, none⟩) us1.length c1) := by go_simp
  have c6 : (w2.alloc (.cells #[.slice (some ⟨g1, 0, none⟩) us1.length c1, .slice (some ⟨h1, 0, none⟩) ds1.length d1] 26)).cell? ⟨w2.heap.size, 1, none⟩ = some (.slice (some ⟨h1, 0, none⟩) ds1.length d1) := by go_simp
  have hz5 : w2.heap.size < (w2.alloc (.cells #[.slice (some ⟨g1, 0, none⟩) us1.length c1, .slice (some ⟨h1, 0, none⟩) ds1.length d1] 26)).heap.size := by simp
  replace HR2 := Lib.hid (HR2.out.below hA)
  replace HC2 := Lib.hid (HC2.out.below hA)
  replace HH2 := Lib.hid (HH2.out.trans (Hole.of_below hA))
  replace rb := (hA.block _ (show w.heap.size < w2.heap.size by omega)).trans rb
  clear hA
  generalize (w2.alloc (.cells #[.slice (some ⟨g1, 0, none⟩) us1.length c1, .slice (some ⟨h1, 0, none⟩) ds1.length d1] 26)) = V2 at *
  have HREF : Hid (∀ W : World, RD2 w.heap.size B a len cap (.slice (some ⟨g1, 0, none⟩) us1.length c1) (.slice (some ⟨h1, 0, none⟩) ds1.length d1) W W) := fun W => rd2_cur (by omega) (curK_refl 300 (by omega) _ _ _ _ W)
  have hDV : w.heap.size < V2.heap.size := by omega
  have c5' : ∀ w' : World, (∀ k, k < V2.heap.size → k ≠ B → k ≠ w.heap.size → w'.heap[k]? = V2.heap[k]?) → w'.cell? ⟨w2.heap.size, 0, none⟩ = some (.slice (some ⟨g1, 0, none⟩) us1.length c1) ∧ w'.cell? ⟨w2.heap.size, 1, none⟩ = some (.slice (some ⟨h1, 0, none⟩) ds1.length d1) := fun w' hk => ⟨(World.cell?_of_block (a := ⟨w2.heap.size, 0, none⟩) (hk w2.heap.size hz5 (by omega) (by omega))).trans c5, (World.cell?_of_block (a := ⟨w2.heap.size, 1, none⟩) (hk w2.heap.size hz5 (by omega) (by omega))).trans c6⟩
  have HC5 := Lib.hid c5'
  clear c5 c6 c5'
  refine wp_region_slots_n 25 [[(6, false)], [(5, false)], [(12, true)], [(5, false)], [(14, true)], [(5, false)], [(16, true)], [(13, true), (15, true), (17, true)], [(5, false)], [(19, true)], [(18, true), (20, true)], [(21, true)], [(5, false)], [(23, true)], [(24, true)], [(5, false)], [(26, true)], [(25, true), (27, true)], [(5, false)], [(29, true)], [(28, true), (30, true)], [(31, true)], [(2, false), (11, true)], [(22, true)], [(32, true)]] (fun w' => ∃ f : Nat, f ≤ 26 ∧ SD2 w.heap.size B a len cap (.slice (some ⟨g1, 0, none⟩) us1.length c1) (.slice (some ⟨h1, 0, none⟩) ds1.length d1) V2 f w') (fun w' => ∃ f : Nat, SD2 w.heap.size B a len cap (.slice (some ⟨g1, 0, none⟩) us1.length c1) (.slice (some ⟨h1, 0, none⟩) ds1.length d1) V2 f w') (fun f w' => SD2 w.heap.size B a len cap (.slice (some ⟨g1, 0, none⟩) us1.length c1) (.slice (some ⟨h1, 0, none⟩) ds1.length d1) V2 f w') (RD2 w.heap.size B a len cap (.slice (some ⟨g1, 0, none⟩) us1.length c1) (.slice (some ⟨h1, 0, none⟩) ds1.length d1)) (by kernel_rfl) (by kernel_rfl) (by rfl) ⟨⟨rfl, rfl, rfl, Nat.le_refl _, fun _ _ _ _ => rfl⟩, (HC2.out.below (Below.refl _ _).drew).more (by simp), by simp, hDV, .inl rb⟩ (fun f w1 w2 h1 h2 => sd2_step f w1 w2 h1 h2) (fun f w1 hf h => ⟨f + 1, Nat.le_succ_of_le (Nat.succ_le_of_lt (by simpa using hf)), h⟩) (fun f w1 hf h => ⟨f, h⟩) ?_
  apply slot_eq
  · intro ρ w' ⟨p1, p2, p3⟩ ⟨f, hf, hS⟩ hn
    obtain ⟨d0, d1⟩ := HC5.out w' hS.1.2.2.2.2
    simp at hn
    go_simp
    exact ⟨HREF.out _, rfl⟩
  iterate 1 (apply slot_eq; · (intro ρ w' ⟨p1, p2, p3⟩ ⟨f, hf, hS⟩ hn; simp at hn; go_simp; exact ⟨HREF.out _, rfl⟩))
  refine slot_fact (LessK 4) (fun _ _ _ h _ => h) ?_ ?_
  · intro ρ w' ⟨p1, p2, p3⟩ ⟨f, hf, hS⟩ hn
    simp at hn
    go_simp
    exact got_call (pick_curK 300 (by omega) B a len cap _ 4 w' (by omega) (by omega) (by omega) hS.2.1) fun e w'' ⟨r, he, hr, hk⟩ => ⟨_, he, rd2_cur (by omega) hk, r, rfl, hr⟩
  iterate 1 (apply slot_eq; · (intro ρ w' ⟨p1, p2, p3⟩ ⟨f, hf, hS⟩ hn; simp at hn; go_simp; exact ⟨HREF.out _, rfl⟩))
  refine slot_fact (LessK 4) (fun _ _ _ h _ => h) ?_ ?_
  · intro ρ w' ⟨p1, p2, p3⟩ ⟨f, hf, hS⟩ hn
    simp at hn
    go_simp
    exact got_call (pick_curK 300 (by omega) B a len cap _ 4 w' (by omega) (by omega) (by omega) hS.2.1) fun e w'' ⟨r, he, hr, hk⟩ => ⟨_, he, rd2_cur (by omega) hk, r, rfl, hr⟩
  iterate 1 (apply slot_eq; · (intro ρ w' ⟨p1, p2, p3⟩ ⟨f, hf, hS⟩ hn; simp at hn; go_simp; exact ⟨HREF.out _, rfl⟩))
  refine slot_fact IntK (fun _ _ _ h _ => h) ?_ ?_
  · intro ρ w' ⟨p1, p2, p3⟩ ⟨f, hf, hS⟩ hn
    simp at hn
    go_simp
    exact got_call (raw_curK 300 (by omega) B a len cap _ w' (by omega) hS.2.1) fun e w'' ⟨r, he, hk⟩ => ⟨_, he, rd2_cur (by omega) hk, r, rfl⟩
  refine slot_fact (BuiltD w.heap.size B 3) (lasts_builtD2 _ _ _ _ _ _ _ _) ?_ ?_
  · intro ρ w' ⟨p1, p2, p3⟩ ⟨f, hf, hS⟩ hn
    simp at hn
    obtain ⟨⟨x, f12, -⟩, ⟨y, f14, -⟩, z, f16⟩ := hn
    have hbs := hS.2.1.lt
    have hsz := hS.1.2.2.2.1
    go_simp
    exact ⟨rd2_cur (by omega) (curK_below 300 (by omega) _ _ _ _ ((Below.refl _ _).alloc (Nat.le_refl _) _)), _, rfl, by omega, laid3v w' B _ _ _ hbs⟩
  iterate 1 (apply slot_eq; · (intro ρ w' ⟨p1, p2, p3⟩ ⟨f, hf, hS⟩ hn; simp at hn; go_simp; exact ⟨HREF.out _, rfl⟩))
  refine slot_fact (LessK 3) (fun _ _ _ h _ => h) ?_ ?_
  · intro ρ w' ⟨p1, p2, p3⟩ ⟨f, hf, hS⟩ hn
    simp at hn
    go_simp
    exact got_call (pick_curK 300 (by omega) B a len cap _ 3 w' (by omega) (by omega) (by omega) hS.2.1) fun e w'' ⟨r, he, hr, hk⟩ => ⟨_, he, rd2_cur (by omega) hk, r, rfl, hr⟩
  refine slot_fact (PtrD w.heap.size B 3) (lasts_ptrD2 _ _ _ _ _ _ _ _) ?_ ?_
  · intro ρ w' ⟨p1, p2, p3⟩ ⟨f, hf, hS⟩ hn
    simp at hn
    obtain ⟨⟨b, f17, hbD, hL⟩, q, f19, hq⟩ := hn
    have i1 : (0 : Int) ≤ (q : Int) := by omega
    go_simp
    exact ⟨HREF.out _, b, q, rfl, by omega, hbD, hL⟩
  refine slot_fact IntK (fun _ _ _ h _ => h) ?_ ?_
  · intro ρ w' ⟨p1, p2, p3⟩ ⟨f, hf, hS⟩ hn
    simp at hn
    obtain ⟨b, q, f20, hq, hbD, hL⟩ := hn
    obtain ⟨z, hz⟩ := hL.cell hq
    go_simp
    exact ⟨HREF.out _, z, rfl⟩
  iterate 1 (apply slot_eq; · (intro ρ w' ⟨p1, p2, p3⟩ ⟨f, hf, hS⟩ hn; simp at hn; go_simp; exact ⟨HREF.out _, rfl⟩))
  refine slot_fact (LessK 30) (fun _ _ _ h _ => h) ?_ ?_
  · intro ρ w' ⟨p1, p2, p3⟩ ⟨f, hf, hS⟩ hn
    simp at hn
    go_simp
    exact got_call (pick_curK 300 (by omega) B a len cap _ 30 w' (by omega) (by omega) (by omega) hS.2.1) fun e w'' ⟨r, he, hr, hk⟩ => ⟨_, he, rd2_cur (by omega) hk, r, rfl, hr⟩
  refine slot_fact IntK (fun _ _ _ h _ => h) ?_ ?_
  · intro ρ w' ⟨p1, p2, p3⟩ ⟨f, hf, hS⟩ hn
    simp at hn
    obtain ⟨r, f24, hr⟩ := hn
    go_simp
    exact ⟨HREF.out _, _, rfl⟩
  iterate 1 (apply slot_eq; · (intro ρ w' ⟨p1, p2, p3⟩ ⟨f, hf, hS⟩ hn; simp at hn; go_simp; exact ⟨HREF.out _, rfl⟩))
  refine slot_fact IntK (fun _ _ _ h _ => h) ?_ ?_
  · intro ρ w' ⟨p1, p2, p3⟩ ⟨f, hf, hS⟩ hn
    simp at hn
    go_simp
    exact got_call (raw_curK 300 (by omega) B a len cap _ w' (by omega) hS.2.1) fun e w'' ⟨r, he, hk⟩ => ⟨_, he, rd2_cur (by omega) hk, r, rfl⟩
  refine slot_fact (BuiltD w.heap.size B 3) (lasts_builtD2 _ _ _ _ _ _ _ _) ?_ ?_
  · intro ρ w' ⟨p1, p2, p3⟩ ⟨f, hf, hS⟩ hn
    simp at hn
    obtain ⟨⟨x, f25⟩, z, f27⟩ := hn
    have hbs := hS.2.1.lt
    have hsz := hS.1.2.2.2.1
    go_simp
    exact ⟨rd2_cur (by omega) (curK_below 300 (by omega) _ _ _ _ ((Below.refl _ _).alloc (Nat.le_refl _) _)), _, rfl, by omega, laid3v w' B _ _ _ hbs⟩
  iterate 1 (apply slot_eq; · (intro ρ w' ⟨p1, p2, p3⟩ ⟨f, hf, hS⟩ hn; simp at hn; go_simp; exact ⟨HREF.out _, rfl⟩))
  refine slot_fact (LessK 3) (fun _ _ _ h _ => h) ?_ ?_
  · intro ρ w' ⟨p1, p2, p3⟩ ⟨f, hf, hS⟩ hn
    simp at hn
    go_simp
    exact got_call (pick_curK 300 (by omega) B a len cap _ 3 w' (by omega) (by omega) (by omega) hS.2.1) fun e w'' ⟨r, he, hr, hk⟩ => ⟨_, he, rd2_cur (by omega) hk, r, rfl, hr⟩
  refine slot_fact (PtrD w.heap.size B 3) (lasts_ptrD2 _ _ _ _ _ _ _ _) ?_ ?_
  · intro ρ w' ⟨p1, p2, p3⟩ ⟨f, hf, hS⟩ hn
    simp at hn
    obtain ⟨⟨b, f17, hbD, hL⟩, q, f19, hq⟩ := hn
    have i1 : (0 : Int) ≤ (q : Int) := by omega
    go_simp
    exact ⟨HREF.out _, b, q, rfl, by omega, hbD, hL⟩
  refine slot_fact IntK (fun _ _ _ h _ => h) ?_ ?_
  · intro ρ w' ⟨p1, p2, p3⟩ ⟨f, hf, hS⟩ hn
    simp at hn
    obtain ⟨b, q, f20, hq, hbD, hL⟩ := hn
    obtain ⟨z, hz⟩ := hL.cell hq
    go_simp
    exact ⟨HREF.out _, z, rfl⟩
  refine slot_fact (fun _ _ => True) (fun _ _ _ h _ => h) ?_ ?_
  · intro ρ w' ⟨p1, p2, p3⟩ ⟨f, hf, hS⟩ hn
    simp at hn
    rcases hS.2.2.2.2 with hb | hb
    · obtain ⟨d0, d1, d2, -⟩ := cells_two hb
      go_simp
      exact rd2_set (by omega) hb
    · obtain ⟨d0, d1, d2, -⟩ := cells_two hb
      go_simp
      exact rd2_set (by omega) hb
  refine slot_fact IntK (fun _ _ _ h _ => h) ?_ ?_
  · intro ρ w' ⟨p1, p2, p3⟩ ⟨f, hf, hS⟩ hn
    simp at hn
    obtain ⟨z, f21⟩ := hn
    go_simp
    exact ⟨HREF.out _, z, rfl⟩
  refine slot_fact IntK (fun _ _ _ h _ => h) ?_ ?_
  · intro ρ w' ⟨p1, p2, p3⟩ ⟨f, hf, hS⟩ hn
    simp at hn
    obtain ⟨z, f21⟩ := hn
    go_simp
    exact ⟨HREF.out _, z, rfl⟩
  refine slot_end ?_
  rintro vs w4 ⟨f, hS⟩ hF
  simp at hF
  obtain ⟨⟨z4, f4⟩, ⟨z3, f3⟩, ⟨_, f32⟩, ⟨_, _, f31, -⟩, ⟨_, f30, -⟩, f29, ⟨_, f28, -⟩, ⟨_, f27⟩, f26, ⟨_, f25⟩, ⟨_, f24, -⟩, f23, ⟨_, f22⟩, ⟨_, _, f21, -⟩, ⟨_, f20, -⟩, f19, ⟨_, f18, -⟩, ⟨_, f17⟩, f16, ⟨_, f15, -⟩, f14, ⟨_, f13, -⟩, f12, f11⟩ := hF
  have HSX := Lib.hid hS
  clear hS
  simp only [List.take_succ_cons, List.take_zero, List.drop_succ_cons, List.drop_zero, putAll, f4, f3, f32, f31, f30, f29, f28, f27, f26, f25, f24, f23, f22, f21, f20, f19, f18, f17, f16, f15, f14, f13, f12, f11]
  clear f11 f12 f13 f14 f15 f16 f17 f18 f19 f20 f21 f22 f23 f24 f25 f26 f27 f28 f29 f30 f31 f32 f3 f4
  simp only [Act.put, List.setIfInBounds_toArray, List.set_cons_succ, List.set_cons_zero]
  have HB9 : Hid (Below w.heap.size w w4) := by
    obtain ⟨⟨h1, h2, h3, h4, h5⟩, -⟩ := HSX.out
    have hb2 := Hole.below HB1.out HH2.out (by omega) HB1.out.size
    exact hb2.trans ⟨h1, h2, h3, h4, fun k hk => h5 k (by omega) (by omega) (by omega)⟩
  have HI9 : Hid (IsC w4 (some ⟨g1, 0, none⟩) (some ⟨h1, 0, none⟩) us1 ds1) := by
    obtain ⟨⟨q1, q2, q3, q4, q5⟩, -⟩ := HSX.out
    have k1 := World.ownsRow.lt HR2.out.1 g1 rfl
    have k2 := World.ownsRow.lt HR2.out.2.1 h1 rfl
    exact ⟨isIs_block (q5 g1 k1.2 (by omega) (by omega)) q4 (row_int HR2.out.1).isIs, isIs_block (q5 h1 k2.2 (by omega) (by omega)) q4 (row_int HR2.out.2.1).isIs⟩
  rcases HSX.out.2.2.2.2 with hb | hb
  · obtain ⟨y0, y1, y2, y3⟩ := cells_two hb
    clear hb
    go_wp2
    refine bodyPost_ret (v := .tuple #[cntV none 0 0 none 0 0, .int .i64 z3, .int .i64 z4]) ?_ rfl ?_
    · simp only [results, hres]
      go_simp
    · exact ⟨none, 0, none, 0, [], [], z3, z4, rfl, by simp, by simp, ⟨.inl rfl, .inl rfl⟩, HB9.out⟩
  · obtain ⟨y0, y1, y2, y3⟩ := cells_two hb
    clear hb
    go_wp2
    refine bodyPost_ret (v := .tuple #[cntV (some ⟨g1, 0, none⟩) us1.length c1 (some ⟨h1, 0, none⟩) ds1.length d1, .int .i64 z3, .int .i64 z4]) ?_ rfl ?_
    · simp only [results, hres]
      go_simp
    · exact ⟨some ⟨g1, 0, none⟩, c1, some ⟨h1, 0, none⟩, d1, us1, ds1, z3, z4, rfl, h51, h61, HI9.out, HB9.out⟩

end Go.Proofs.Ytaopkoamjfmhhaa

/- Counters: the specification's CounterValue and CounterLeq. -/
namespace Go.Proofs.Ytaopkoamjfmhhaa
open Go.ChangeShapes Go.WideShapes Go.ChangeAt Go.RowKit Go.Joins
attribute [local go_sem ↓] Go.wp_at_zero Go.wp_at_succ

theorem list_same {xs ys : List Int} (hl : xs.length = ys.length) (h : ∀ j, j < xs.length → xs.getD j 0 = ys.getD j 0) : xs = ys := by
  refine List.ext_getElem hl fun i h1 h2 => ?_
  have := h i h1
  simpa [List.getD, h1, h2] using this

set_option maxRecDepth 100000 in
set_option maxHeartbeats 4000000 in
theorem specCounterValue_any (a : Option Addr) (n cap : Nat) (b : Option Addr) (m cb : Nat) (us ds : List Int) (w : World) (hl : us.length = n) (hn : n ≤ maxLen) (hl' : ds.length = m) (hm : m ≤ maxLen) (hh : IsC w a b us ds) :
    Calls Try.prog 17 #[cntV a n cap b m cb] w fun e w' => e = .returned (.int .i64 (valC us ds)) ∧ Below w.heap.size w w' := by
  have HK : Hid (∀ W, Below w.heap.size w W → Calls Try.prog 10 #[cntV a n cap b m cb] W fun e w' => e = .returned (.bool (cntB us ds)) ∧ Below W.heap.size W w') := fun W hW => specCounterOk_any a n cap b m cb us ds W hl hn hl' hm (hh.below hW)
  have HC := Lib.hid hh
  have HL := Lib.hid hl
  have HL' := Lib.hid hl'
  clear hh hl hl'
  cases hv : cntB us ds
  · have HJ : Hid (valC us ds = 0) := valC_bad hv
    rw [hv] at HK
    clear hv
    go_enter Try.func17, Try.ntmps17
    go_wp2_with fail
    have HB : Hid (Below w.heap.size w (w.alloc (.cells #[.slice a n cap, .slice b m cb] 26))) := ((Below.refl _ _).alloc (Nat.le_refl _) _)
    have cb1_0 : (w.alloc (.cells #[.slice a n cap, .slice b m cb] 26)).cell? ⟨w.heap.size, 0, none⟩ = some (.slice a n cap) := by go_simp
    have cb1_1 : (w.alloc (.cells #[.slice a n cap, .slice b m cb] 26)).cell? ⟨w.heap.size, 1, none⟩ = some (.slice b m cb) := by go_simp
    have zb1 : w.heap.size < (w.alloc (.cells #[.slice a n cap, .slice b m cb] 26)).heap.size := by simp
    have hsV0 : w.heap.size < (w.alloc (.cells #[.slice a n cap, .slice b m cb] 26)).heap.size := by simp
    generalize (w.alloc (.cells #[.slice a n cap, .slice b m cb] 26)) = V0 at *
    refine wp_loop_rounds 5 ?_
    rw [rounds_succ]
    go_wp2_with fail
    refine (HK.out _ HB.out).mono ?_
    rintro e w1 ⟨rfl, hb⟩
    have hsw1 : V0.heap.size ≤ w1.heap.size := hb.size
    replace cb1_0 := cells_of hb zb1 cb1_0
    replace cb1_1 := cells_of hb zb1 cb1_1
    replace zb1 := Nat.lt_of_lt_of_le zb1 hb.size
    replace HB := Lib.hid (below_step HB.out HB.out.size hb)
    clear hb
    go_wp2
    go_ret
    exact ⟨ret_int HJ.out.symm, HB.out⟩
  rw [hv] at HK
  obtain ⟨x0, x1, x2, x3, y0, y1, y2, y3, rfl, rfl, ⟨⟨hx0, kx0⟩, ⟨hx1, kx1⟩, ⟨hx2, kx2⟩, hx3, kx3⟩, ⟨hy0, ky0⟩, ⟨hy1, ky1⟩, ⟨hy2, ky2⟩, hy3, ky3⟩ := cntB_four hv
  have HJ : Hid (valC [x0, x1, x2, x3] [y0, y1, y2, y3] = sum4 x0 x1 x2 x3 - sum4 y0 y1 y2 y3) := valC_four hv
  have hn4 : n = 4 := HL.out.symm
  subst hn4
  have hm4 : m = 4 := HL'.out.symm
  subst hm4
  clear hv
  obtain ⟨hh1, hh2⟩ := HC.out
  rcases hh1 with h | ⟨b1, o1, rfl, z1, h1⟩
  · cases h
  rcases hh2 with h | ⟨b2, o2, rfl, z2, h2⟩
  · cases h
  have d0 : w.cell? ⟨b1, o1 + 0, none⟩ = some (.int .i64 x0) := h1 0 (by simp)
  have k0 : w.cell? ⟨b2, o2 + 0, none⟩ = some (.int .i64 y0) := h2 0 (by simp)
  have d1 : w.cell? ⟨b1, o1 + 1, none⟩ = some (.int .i64 x1) := h1 1 (by simp)
  have k1 : w.cell? ⟨b2, o2 + 1, none⟩ = some (.int .i64 y1) := h2 1 (by simp)
  have d2 : w.cell? ⟨b1, o1 + 2, none⟩ = some (.int .i64 x2) := h1 2 (by simp)
  have k2 : w.cell? ⟨b2, o2 + 2, none⟩ = some (.int .i64 y2) := h2 2 (by simp)
  have d3 : w.cell? ⟨b1, o1 + 3, none⟩ = some (.int .i64 x3) := h1 3 (by simp)
  have k3 : w.cell? ⟨b2, o2 + 3, none⟩ = some (.int .i64 y3) := h2 3 (by simp)
  simp only [Nat.add_zero] at d0 k0
  clear h1 h2
  go_enter Try.func17, Try.ntmps17
  go_wp2_with fail
  have HB : Hid (Below w.heap.size w (w.alloc (.cells #[.slice (some ⟨b1, o1, none⟩) 4 cap, .slice (some ⟨b2, o2, none⟩) 4 cb] 26))) := ((Below.refl _ _).alloc (Nat.le_refl _) _)
  have cb1_0 : (w.alloc (.cells #[.slice (some ⟨b1, o1, none⟩) 4 cap, .slice (some ⟨b2, o2, none⟩) 4 cb] 26)).cell? ⟨w.heap.size, 0, none⟩ = some (.slice (some ⟨b1, o1, none⟩) 4 cap) := by go_simp
  have cb1_1 : (w.alloc (.cells #[.slice (some ⟨b1, o1, none⟩) 4 cap, .slice (some ⟨b2, o2, none⟩) 4 cb] 26)).cell? ⟨w.heap.size, 1, none⟩ = some (.slice (some ⟨b2, o2, none⟩) 4 cb) := by go_simp
  have zb1 : w.heap.size < (w.alloc (.cells #[.slice (some ⟨b1, o1, none⟩) 4 cap, .slice (some ⟨b2, o2, none⟩) 4 cb] 26)).heap.size := by simp
  have hsV0 : w.heap.size < (w.alloc (.cells #[.slice (some ⟨b1, o1, none⟩) 4 cap, .slice (some ⟨b2, o2, none⟩) 4 cb] 26)).heap.size := by simp
  generalize (w.alloc (.cells #[.slice (some ⟨b1, o1, none⟩) 4 cap, .slice (some ⟨b2, o2, none⟩) 4 cb] 26)) = V0 at *
  refine wp_loop_rounds 5 ?_
  rw [rounds_succ]
  go_wp2_with fail
  refine (HK.out _ HB.out).mono ?_
  rintro e w1 ⟨rfl, hb⟩
  have hsw1 : V0.heap.size ≤ w1.heap.size := hb.size
  replace cb1_0 := cells_of hb zb1 cb1_0
  replace cb1_1 := cells_of hb zb1 cb1_1
  replace zb1 := Nat.lt_of_lt_of_le zb1 hb.size
  replace HB := Lib.hid (below_step HB.out HB.out.size hb)
  clear hb
  have e0 := cells_of HB.out z1 d0
  have f0 := cells_of HB.out z2 k0
  go_wp2_with fail
  go_region
  replace HB := Lib.hid HB.out.drew
  replace cb1_0 : w1.drew.cell? _ = _ := cb1_0
  replace cb1_1 : w1.drew.cell? _ = _ := cb1_1
  replace zb1 : w.heap.size < w1.drew.heap.size := zb1
  clear e0 f0
  generalize w1.drew = V1 at *
  go_wp2_with fail
  rw [rounds_succ]
  go_wp2_with fail
  refine (HK.out _ HB.out).mono ?_
  rintro e w2 ⟨rfl, hb⟩
  have hsw2 : V1.heap.size ≤ w2.heap.size := hb.size
  replace cb1_0 := cells_of hb zb1 cb1_0
  replace cb1_1 := cells_of hb zb1 cb1_1
  replace zb1 := Nat.lt_of_lt_of_le zb1 hb.size
  replace HB := Lib.hid (below_step HB.out HB.out.size hb)
  clear hb
  have e1 := cells_of HB.out z1 d1
  have f1 := cells_of HB.out z2 k1
  go_wp2_with fail
  go_region
  replace HB := Lib.hid HB.out.drew
  replace cb1_0 : w2.drew.cell? _ = _ := cb1_0
  replace cb1_1 : w2.drew.cell? _ = _ := cb1_1
  replace zb1 : w.heap.size < w2.drew.heap.size := zb1
  clear e1 f1
  generalize w2.drew = V2 at *
  go_wp2_with fail
  rw [rounds_succ]
  go_wp2_with fail
  refine (HK.out _ HB.out).mono ?_
  rintro e w3 ⟨rfl, hb⟩
  have hsw3 : V2.heap.size ≤ w3.heap.size := hb.size
  replace cb1_0 := cells_of hb zb1 cb1_0
  replace cb1_1 := cells_of hb zb1 cb1_1
  replace zb1 := Nat.lt_of_lt_of_le zb1 hb.size
  replace HB := Lib.hid (below_step HB.out HB.out.size hb)
  clear hb
  have e2 := cells_of HB.out z1 d2
  have f2 := cells_of HB.out z2 k2
  go_wp2_with fail
  go_region
  replace HB := Lib.hid HB.out.drew
  replace cb1_0 : w3.drew.cell? _ = _ := cb1_0
  replace cb1_1 : w3.drew.cell? _ = _ := cb1_1
  replace zb1 : w.heap.size < w3.drew.heap.size := zb1
  clear e2 f2
  generalize w3.drew = V3 at *
  go_wp2_with fail
  rw [rounds_succ]
  go_wp2_with fail
  refine (HK.out _ HB.out).mono ?_
  rintro e w4 ⟨rfl, hb⟩
  have hsw4 : V3.heap.size ≤ w4.heap.size := hb.size
  replace cb1_0 := cells_of hb zb1 cb1_0
  replace cb1_1 := cells_of hb zb1 cb1_1
  replace zb1 := Nat.lt_of_lt_of_le zb1 hb.size
  replace HB := Lib.hid (below_step HB.out HB.out.size hb)
  clear hb
  have e3 := cells_of HB.out z1 d3
  have f3 := cells_of HB.out z2 k3
  go_wp2_with fail
  go_region
  replace HB := Lib.hid HB.out.drew
  replace cb1_0 : w4.drew.cell? _ = _ := cb1_0
  replace cb1_1 : w4.drew.cell? _ = _ := cb1_1
  replace zb1 : w.heap.size < w4.drew.heap.size := zb1
  clear e3 f3
  generalize w4.drew = V4 at *
  go_wp2_with fail
  rw [rounds_succ]
  go_wp2
  go_ret
  exact ⟨ret_int (HJ.out.trans (by unfold sum4; omega)).symm, HB.out⟩

end Go.Proofs.Ytaopkoamjfmhhaa

/- The laws' same over lists of numbers: whether two lists are one. -/
namespace Go.Proofs.Ytaopkoamjfmhhaa
open Go.ChangeShapes Go.WideShapes Go.ChangeAt Go.RowKit Go.Joins
attribute [local go_sem ↓] Go.wp_at_zero Go.wp_at_succ

theorem same_lists {xs ys : List Int} (hl : xs.length = ys.length) (h : ∀ k, k < xs.length → xs.getD k 0 = ys.getD k 0) : xs = ys := by
  apply List.ext_getElem hl
  intro i h1 h2
  have := h i h1
  simpa [List.getD, h1, h2] using this

set_option maxRecDepth 100000 in
set_option maxHeartbeats 2000000 in
theorem same_dec (a a' : Option Addr) (cap cap' : Nat) (xs ys : List Int) (w : World) (hm : xs.length ≤ 1048576) (hm' : ys.length ≤ 1048576) (hh : IsIs w a xs) (hh' : IsIs w a' ys) :
    Calls Try.prog 24 #[.slice a xs.length cap, .slice a' ys.length cap'] w fun e w' => e = .returned (.bool (decide (xs = ys))) ∧ Below w.heap.size w w' := by
  have HH : Hid (IsIs w a xs) := hh
  have HH' : Hid (IsIs w a' ys) := hh'
  clear hh hh'
  obtain ⟨d, hd⟩ : ∃ d, decide (xs = ys) = d := ⟨_, rfl⟩
  rw [hd]
  obtain ⟨n, hn⟩ : ∃ n, xs.length = n := ⟨_, rfl⟩
  obtain ⟨n', hn'⟩ : ∃ n, ys.length = n := ⟨_, rfl⟩
  rw [hn] at hm ⊢
  rw [hn'] at hm' ⊢
  have HN := Lib.hid hn
  have HN' := Lib.hid hn'
  have HD := Lib.hid hd
  clear hn hn' hd
  by_cases hq : n = n'
  · subst hq
    go_enter Try.func24, Try.ntmps24
    go_wp2
    go_loopw [5] (fun i wr => ∃ k : Nat, k ≤ n ∧ i = .int .i64 k ∧ Hid (∀ j, j < k → xs.getD j 0 = ys.getD j 0) ∧ Hid (Below w.heap.size w wr)) (fun i _ => n - (intOf i).toNat)
    case atStart => exact ⟨0, Nat.zero_le _, rfl, fun j hj => absurd hj (Nat.not_lt_zero j), Below.refl _ _⟩
    case round =>
      obtain ⟨k, hk, rfl, HE, HB⟩ := hrel
      by_cases hk' : k < n
      · obtain ⟨b, o, rfl, hz, e0⟩ := HH.out.at HB.out (show k < xs.length by rw [HN.out]; exact hk')
        obtain ⟨b', o', rfl, hz', f0⟩ := HH'.out.at HB.out (show k < ys.length by rw [HN'.out]; exact hk')
        have i1 : (0 : Int) ≤ (k : Int) := by omega
        have i2 : (k : Int) < (n : Int) := by omega
        clear HH HH'
        by_cases hxy : xs.getD k 0 = ys.getD k 0
        · have HE2 : Hid (∀ j, j < k + 1 → xs.getD j 0 = ys.getD j 0) := fun j hj => by
            by_cases h : j < k
            · exact HE.out j h
            · have : j = k := by omega
              rw [this]
              exact hxy
          rw [← hxy] at f0
          clear hxy
          generalize xs.getD k 0 = x at *
          go_wp2_with fail
          have ge0 := aft_cell hz e0
          have gf0 := aft_cell hz' f0
          have ne := aft_some wr
          refine wp_region_aft (by kernel_rfl) (by kernel_rfl) ?_
          repeat (first | go_big_quiet_step (fail))
          refine wpQuiet_nil ?_
          intro wq hq
          have HBQ : Hid (Below w.heap.size w wq) := below_step HB.out HB.out.size hq
          clear hq
          go_wp2
          exact ⟨⟨k + 1, by omega, by go_num, HE2, HBQ⟩, by simp [intOf]; omega⟩
        · have HF : Hid (d = false) := by
            show d = false
            rw [← HD.out]
            exact decide_eq_false fun e => hxy (by rw [e])
          generalize xs.getD k 0 = x at *
          generalize ys.getD k 0 = y at *
          have hb1 : (x == y) = false := by simpa using hxy
          have hb2 : (x != y) = true := by simpa using hxy
          clear hxy
          go_wp2_with fail
          have ge0 := aft_cell hz e0
          have gf0 := aft_cell hz' f0
          have ne := aft_some wr
          refine wp_region_aft (by kernel_rfl) (by kernel_rfl) ?_
          repeat (first | go_big_quiet_step (fail))
          refine wpQuiet_nil ?_
          intro wq hq
          have HBQ : Hid (Below w.heap.size w wq) := below_step HB.out HB.out.size hq
          clear hq
          go_wp2
          go_ret
          exact ⟨by rw [HF.out]; rfl, HBQ.out⟩
      · have hkk : k = n := by omega
        subst hkk
        have HT : Hid (d = true) := by
          show d = true
          rw [← HD.out]
          exact decide_eq_true (same_lists (by rw [HN.out, HN'.out]) (fun j hj => HE.out j (by rw [HN.out] at hj; exact hj)))
        go_wp2
        go_ret
        exact ⟨by rw [HT.out]; rfl, HB.out⟩
  · have HF : Hid (d = false) := by
      show d = false
      rw [← HD.out]
      exact decide_eq_false fun e => hq (by rw [← HN.out, ← HN'.out, e])
    have h1 : ((n : Int) != (n' : Int)) = true := by simp; omega
    go_enter Try.func24, Try.ntmps24
    go_wp2
    go_ret
    exact ⟨by rw [HF.out]; rfl, Below.refl _ _⟩

end Go.Proofs.Ytaopkoamjfmhhaa

/- Counters, as plain facts: joined, in whatever order; what is at most what. And the laws' comparison of two. -/
namespace Go.Proofs.Ytaopkoamjfmhhaa
open Go.ChangeShapes Go.WideShapes Go.ChangeAt Go.RowKit Go.Joins
attribute [local go_sem ↓] Go.wp_at_zero Go.wp_at_succ

theorem zip_comm (xs ys : List Int) : List.zipWith max xs ys = List.zipWith max ys xs := by
  rw [List.zipWith_comm]
  congr 1
  funext a b
  exact Int.max_comm b a

theorem zip_assoc : ∀ (xs ys zs : List Int), List.zipWith max (List.zipWith max xs ys) zs = List.zipWith max xs (List.zipWith max ys zs)
  | [], _, _ => by simp
  | _ :: _, [], _ => by simp
  | _ :: _, _ :: _, [] => by simp
  | x :: xs, y :: ys, z :: zs => by
    simp only [List.zipWith_cons_cons, zip_assoc xs ys zs]
    congr 1
    omega

theorem zip_self : ∀ xs : List Int, List.zipWith max xs xs = xs
  | [] => rfl
  | x :: xs => by
    simp only [List.zipWith_cons_cons, zip_self xs]
    congr 1
    omega

theorem cj_comm (us ds us' ds' : List Int) : cjU us ds us' ds' = cjU us' ds' us ds ∧ cjD us ds us' ds' = cjD us' ds' us ds := by
  unfold cjU cjD
  rw [Bool.and_comm (cntB us ds), zip_comm us us', zip_comm ds ds']
  exact ⟨rfl, rfl⟩

theorem perB_zip {M : Int} {xs ys : List Int} (h : perB M xs = true) (h' : perB M ys = true) : perB M (List.zipWith max xs ys) = true := by
  obtain ⟨x0, x1, x2, x3, rfl, a0, a1, a2, a3⟩ := perB_four h
  obtain ⟨y0, y1, y2, y3, rfl, b0, b1, b2, b3⟩ := perB_four h'
  exact (perB_is _ _ _ _ _).2 ⟨by omega, by omega, by omega, by omega⟩

theorem cj_ok {us ds us' ds' : List Int} (h : cntB us ds = true) (h' : cntB us' ds' = true) : cntB (cjU us ds us' ds') (cjD us ds us' ds') = true := by
  rw [(cj_good h h').1, (cj_good h h').2]
  unfold cntB at h h' ⊢
  rw [Bool.and_eq_true] at h h' ⊢
  exact ⟨perB_zip h.1 h'.1, perB_zip h.2 h'.2⟩

theorem cj_self {us ds : List Int} (h : cntB us ds = true) : cjU us ds us ds = us ∧ cjD us ds us ds = ds := by
  rw [(cj_good h h).1, (cj_good h h).2]
  exact ⟨zip_self _, zip_self _⟩

theorem leq_join {us ds us' ds' : List Int} (h : cntB us ds = true) (h' : cntB us' ds' = true) : leqC us ds (cjU us ds us' ds') (cjD us ds us' ds') = true := by
  unfold leqC
  rw [h, cj_ok h h', (cj_good h h').1, (cj_good h h').2, ← zip_assoc, ← zip_assoc, zip_self, zip_self]
  simp

theorem cj_assoc {us ds us' ds' us2 ds2 : List Int} (h : cntB us ds = true) (h' : cntB us' ds' = true) (h2 : cntB us2 ds2 = true) :
    cjU (cjU us ds us' ds') (cjD us ds us' ds') us2 ds2 = cjU us ds (cjU us' ds' us2 ds2) (cjD us' ds' us2 ds2) ∧ cjD (cjU us ds us' ds') (cjD us ds us' ds') us2 ds2 = cjD us ds (cjU us' ds' us2 ds2) (cjD us' ds' us2 ds2) := by
  rw [(cj_good (cj_ok h h') h2).1, (cj_good (cj_ok h h') h2).2, (cj_good h (cj_ok h' h2)).1, (cj_good h (cj_ok h' h2)).2, (cj_good h h').1, (cj_good h h').2, (cj_good h' h2).1, (cj_good h' h2).2]
  exact ⟨zip_assoc _ _ _, zip_assoc _ _ _⟩

theorem cj_few (us ds us' ds' : List Int) : (cjU us ds us' ds').length ≤ 4 ∧ (cjD us ds us' ds').length ≤ 4 := by
  cases h : (cntB us ds && cntB us' ds')
  · rw [(cj_bad h).1, (cj_bad h).2]
    simp
  · rw [Bool.and_eq_true] at h
    rw [(cj_good h.1 h.2).1, (cj_good h.1 h.2).2]
    obtain ⟨x0, x1, x2, x3, y0, y1, y2, y3, rfl, rfl, -⟩ := cntB_four h.1
    simp
    omega

set_option maxRecDepth 100000 in
theorem sameCounter_dec (a : Option Addr) (cap : Nat) (b : Option Addr) (cb : Nat) (a' : Option Addr) (cap' : Nat) (b' : Option Addr) (cb' : Nat) (us ds us' ds' : List Int) (w : World) (h1 : us.length ≤ 1048576) (h2 : ds.length ≤ 1048576) (h3 : us'.length ≤ 1048576) (h4 : ds'.length ≤ 1048576) (hh : IsC w a b us ds) (hg : IsC w a' b' us' ds') :
    Calls Try.prog 8 #[cntV a us.length cap b ds.length cb, cntV a' us'.length cap' b' ds'.length cb'] w fun e w' => e = .returned (.bool (decide (us = us') && decide (ds = ds'))) ∧ Below w.heap.size w w' := by
  have HB0 : Hid (Below w.heap.size w ((w.alloc (.cells #[.slice a us.length cap, .slice b ds.length cb] 26)).alloc (.cells #[.slice a' us'.length cap', .slice b' ds'.length cb'] 26))) := ((Below.refl _ _).alloc (Nat.le_refl _) _).alloc (by simp) _
  have HH := Lib.hid hh
  have HG := Lib.hid hg
  clear hh hg
  have KD := Lib.hid (fun W h h' => same_dec b b' cb cb' ds ds' W h2 h4 h h')
  have KU := Lib.hid (fun W h h' => same_dec a a' cap cap' us us' W h1 h3 h h')
  have hz : w.heap.size < ((w.alloc (.cells #[.slice a us.length cap, .slice b ds.length cb] 26)).alloc (.cells #[.slice a' us'.length cap', .slice b' ds'.length cb'] 26)).heap.size := by simp; omega
  have hz1 : w.heap.size + 1 < ((w.alloc (.cells #[.slice a us.length cap, .slice b ds.length cb] 26)).alloc (.cells #[.slice a' us'.length cap', .slice b' ds'.length cb'] 26)).heap.size := by simp
  have c1 : ((w.alloc (.cells #[.slice a us.length cap, .slice b ds.length cb] 26)).alloc (.cells #[.slice a' us'.length cap', .slice b' ds'.length cb'] 26)).cell? ⟨w.heap.size, 1, none⟩ = some (.slice b ds.length cb) := by go_simp
  have d1 : ((w.alloc (.cells #[.slice a us.length cap, .slice b ds.length cb] 26)).alloc (.cells #[.slice a' us'.length cap', .slice b' ds'.length cb'] 26)).cell? ⟨w.heap.size + 1, 1, none⟩ = some (.slice b' ds'.length cb') := by go_simp
  go_enter Try.func8, Try.ntmps8
  go_wp2_with fail
  generalize ((w.alloc (.cells #[.slice a us.length cap, .slice b ds.length cb] 26)).alloc (.cells #[.slice a' us'.length cap', .slice b' ds'.length cb'] 26)) = V at *
  refine (KU.out _ (HH.out.below HB0.out).1 (HG.out.below HB0.out).1).mono ?_
  rintro e w1 ⟨rfl, hb⟩
  have HB1 := Lib.hid (below_step HB0.out HB0.out.size hb)
  replace c1 := cells_of hb hz c1
  replace d1 := cells_of hb hz1 d1
  clear hb HB0
  cases hu : decide (us = us')
  · have HU := Lib.hid hu
    clear hu
    go_wp2
    go_ret
    exact ⟨ret_bool (by rw [HU.out]; rfl), HB1.out⟩
  · have HU := Lib.hid hu
    clear hu
    go_wp2_with fail
    refine (KD.out _ (HH.out.below HB1.out).2 (HG.out.below HB1.out).2).mono ?_
    rintro e w2 ⟨rfl, hb⟩
    have HB2 := Lib.hid (below_step HB1.out HB1.out.size hb)
    clear hb
    go_wp2
    go_ret
    exact ⟨ret_bool (by rw [HU.out, Bool.true_and]), HB2.out⟩

end Go.Proofs.Ytaopkoamjfmhhaa

/- What each site adds is counted once, as plain facts. -/
namespace Go.Proofs.Ytaopkoamjfmhhaa
open Go.ChangeShapes Go.WideShapes Go.ChangeAt Go.RowKit Go.Joins

theorem addOk_parts {us ds : List Int} {si n : Int} (h : addOk us ds si n = true) : cntB us ds = true ∧ (∃ q : Nat, q < 4 ∧ si = (q : Int)) ∧ (-1000000000 ≤ n ∧ n ≤ 1000000000) ∧ cntB (addU us si n) (addD ds si n) = true := by
  unfold addOk btw at h
  simp only [Bool.and_eq_true, decide_eq_true_eq] at h
  obtain ⟨h1, h2, h3, h4⟩ := h
  exact ⟨h1, ⟨si.toNat, by omega, by omega⟩, h3, h4⟩

theorem ca_val {us ds : List Int} {si n : Int} (h : addOk us ds si n = true) : valC (caU us ds si n) (caD us ds si n) = valC us ds + n := by
  obtain ⟨h1, ⟨q, hq, rfl⟩, hn, h4⟩ := addOk_parts h
  rw [(ca_good h).1, (ca_good h).2]
  unfold valC
  rw [if_pos h4, if_pos h1]
  obtain ⟨x0, x1, x2, x3, y0, y1, y2, y3, rfl, rfl, -⟩ := cntB_four h1
  unfold addU addD
  split <;> match q, hq with
    | 0, _ | 1, _ | 2, _ | 3, _ => simp <;> omega

theorem ca_leq {us ds : List Int} {si n : Int} (h : addOk us ds si n = true) : leqC us ds (caU us ds si n) (caD us ds si n) = true := by
  obtain ⟨h1, ⟨q, hq, rfl⟩, hn, h4⟩ := addOk_parts h
  rw [(ca_good h).1, (ca_good h).2]
  unfold leqC
  rw [h1, h4]
  obtain ⟨x0, x1, x2, x3, y0, y1, y2, y3, rfl, rfl, -⟩ := cntB_four h1
  unfold addU addD
  split <;> match q, hq with
    | 0, _ | 1, _ | 2, _ | 3, _ => simp <;> omega

theorem ca_cnt {us ds : List Int} {si n : Int} (h : addOk us ds si n = true) : cntB (caU us ds si n) (caD us ds si n) = true := by
  rw [(ca_good h).1, (ca_good h).2]
  exact (addOk_parts h).2.2.2

theorem val_rng (us ds : List Int) : -4000000000 ≤ valC us ds ∧ valC us ds ≤ 4000000000 := by
  unfold valC
  split
  · rename_i h
    obtain ⟨x0, x1, x2, x3, y0, y1, y2, y3, rfl, rfl, ⟨a0, a1, a2, a3⟩, b0, b1, b2, b3⟩ := cntB_four h
    simp
    omega
  · omega

theorem sum_one (x0 x1 x2 x3 n : Int) (p : Nat) (hp : p < 4) (hn : 0 ≤ n) : (List.zipWith max ([x0, x1, x2, x3].set p ([x0, x1, x2, x3].getD p 0 + n)) [x0, x1, x2, x3]).sum = x0 + x1 + x2 + x3 + n := by
  rcases (by omega : p = 0 ∨ p = 1 ∨ p = 2 ∨ p = 3) with rfl | rfl | rfl | rfl <;> simp <;> omega

set_option maxHeartbeats 4000000 in
theorem sum_two (x0 x1 x2 x3 n m : Int) (p q : Nat) (hp : p < 4) (hq : q < 4) (hpq : p ≠ q) (hn : 0 ≤ n) (hm : 0 ≤ m) : (List.zipWith max ([x0, x1, x2, x3].set p ([x0, x1, x2, x3].getD p 0 + n)) ([x0, x1, x2, x3].set q ([x0, x1, x2, x3].getD q 0 + m))).sum = x0 + x1 + x2 + x3 + n + m := by
  rcases (by omega : p = 0 ∨ p = 1 ∨ p = 2 ∨ p = 3) with rfl | rfl | rfl | rfl <;> rcases (by omega : q = 0 ∨ q = 1 ∨ q = 2 ∨ q = 3) with rfl | rfl | rfl | rfl <;> first
    | exact absurd rfl hpq
    | (simp <;> omega)

theorem sum4l (x0 x1 x2 x3 : Int) : [x0, x1, x2, x3].sum = x0 + x1 + x2 + x3 := by
  simp
  omega

/-- Two sites that aren't the same added: both numbers are there. -/
theorem two_val {us ds : List Int} {p q : Nat} {n m : Int} (hpq : p ≠ q) (h : addOk us ds (p : Int) n = true) (h' : addOk us ds (q : Int) m = true) :
    valC (cjU (caU us ds p n) (caD us ds p n) (caU us ds q m) (caD us ds q m)) (cjD (caU us ds p n) (caD us ds p n) (caU us ds q m) (caD us ds q m)) = valC us ds + n + m := by
  have k1 := ca_cnt h
  have k2 := ca_cnt h'
  have k3 := cj_ok k1 k2
  rw [(cj_good k1 k2).1, (cj_good k1 k2).2] at k3 ⊢
  obtain ⟨h1, ⟨p', hp, e⟩, hn, -⟩ := addOk_parts h
  obtain ⟨-, ⟨q', hq, e'⟩, hm, -⟩ := addOk_parts h'
  have e : p' = p := by omega
  have e' : q' = q := by omega
  subst e e'
  rw [(ca_good h).1, (ca_good h).2, (ca_good h').1, (ca_good h').2] at k3 ⊢
  unfold valC
  rw [if_pos k3, if_pos h1]
  obtain ⟨x0, x1, x2, x3, y0, y1, y2, y3, rfl, rfl, -⟩ := cntB_four h1
  clear k1 k2 k3 h h' h1
  unfold addU addD
  simp only [Int.toNat_natCast]
  rw [sum4l x0 x1 x2 x3, sum4l y0 y1 y2 y3]
  by_cases a1 : 0 ≤ n
  · by_cases a2 : 0 ≤ m
    · rw [if_pos a1, if_pos a2, if_pos a1, if_pos a2, sum_two x0 x1 x2 x3 n m p' q' hp hq hpq a1 a2, zip_self, sum4l]
      omega
    · rw [if_pos a1, if_neg a2, if_pos a1, if_neg a2, sum_one x0 x1 x2 x3 n p' hp a1, zip_comm, show [y0, y1, y2, y3].getD q' 0 - m = [y0, y1, y2, y3].getD q' 0 + (-m) by omega, sum_one y0 y1 y2 y3 (-m) q' hq (by omega)]
      omega
  · by_cases a2 : 0 ≤ m
    · rw [if_neg a1, if_pos a2, if_neg a1, if_pos a2, zip_comm [x0, x1, x2, x3], sum_one x0 x1 x2 x3 m q' hq a2, show [y0, y1, y2, y3].getD p' 0 - n = [y0, y1, y2, y3].getD p' 0 + (-n) by omega, sum_one y0 y1 y2 y3 (-n) p' hp (by omega)]
      omega
    · rw [if_neg a1, if_neg a2, if_neg a1, if_neg a2, zip_self, sum4l, show [y0, y1, y2, y3].getD p' 0 - n = [y0, y1, y2, y3].getD p' 0 + (-n) by omega, show [y0, y1, y2, y3].getD q' 0 - m = [y0, y1, y2, y3].getD q' 0 + (-m) by omega, sum_two y0 y1 y2 y3 (-n) (-m) p' q' hp hq hpq (by omega) (by omega)]
      omega

theorem cj_more {us ds us' ds' : List Int} (h : cntB us ds = true) (h' : cntB us' ds' = true) : cjU (cjU us ds us' ds') (cjD us ds us' ds') us ds = cjU us ds us' ds' ∧ cjD (cjU us ds us' ds') (cjD us ds us' ds') us ds = cjD us ds us' ds' := by
  have k := cj_ok h h'
  obtain ⟨c1, c2⟩ := cj_comm (cjU us ds us' ds') (cjD us ds us' ds') us ds
  obtain ⟨a1, a2⟩ := cj_assoc h h h'
  rw [(cj_self h).1, (cj_self h).2] at a1 a2
  rw [c1, c2, ← a1, ← a2]
  exact ⟨rfl, rfl⟩

theorem ca_few (us ds : List Int) (si n : Int) : (caU us ds si n).length ≤ 4 ∧ (caD us ds si n).length ≤ 4 := by
  cases h : addOk us ds si n
  · rw [(ca_bad h).1, (ca_bad h).2]
    simp
  · obtain ⟨x0, x1, x2, x3, y0, y1, y2, y3, e1, e2, -⟩ := cntB_four (ca_cnt h)
    rw [e1, e2]
    simp

end Go.Proofs.Ytaopkoamjfmhhaa

/- The laws' own big; a row's bytes, opened. -/
namespace Go.Proofs.Ytaopkoamjfmhhaa
open Go.ChangeShapes Go.WideShapes Go.ChangeAt Go.RowKit Go.Joins

namespace lawBytes

set_option maxRecDepth 100000 in
theorem big_is (a : Option Addr) (len cap : Nat) (r : Bool) (h : decide (1048576 < len) = r) (hm : len ≤ maxLen) (w : World) :
    Calls Try.prog 5 #[.slice a len cap] w fun e w' => e = .returned (.bool r) ∧ w' = w := by
  unfold maxLen at hm
  cases r
  · have h' : len ≤ 1048576 := by simpa using h
    clear h
    go_enter Try.func5, Try.ntmps5
    go_wp2
    go_ret
    exact ⟨by simp; omega, rfl⟩
  · have h' : 1048576 < len := by simpa using h
    clear h
    go_enter Try.func5, Try.ntmps5
    go_wp2
    go_ret
    exact ⟨by simp; omega, rfl⟩

set_option maxRecDepth 100000 in
theorem open_bytes {H : Type} {enc : TypeId × Value → H} {w : World} {base b0 : Nat} {held : Bool} {r : Go.Reach} {v : Value} {d : DataW H} {p : List MemPlace} (hv : Value.okWide Try.prog w r b0 22 v) (h : DataW.Trod enc Try.prog w base (fun _ => true) held 22 v d p) :
    ∃ (a : Option Addr) (len cap : Nat), v = .slice a len cap ∧ (len ≤ maxLen ∧ Bytes w a len) := by
  obtain ⟨a, len, cap, rfl⟩ := okWide_slice Try.underlying22 hv
  obtain ⟨fuel, hf⟩ := h
  refine ⟨a, len, cap, rfl, ?_⟩
  rcases open_ints Try.underlying22 Try.underlying5 (by kernel_rfl) hf with ⟨hcs, _⟩ | ⟨x, l, c, zs, hcs, _, hl, hm, hz, _, hcell, hwz⟩
  · simp [Value.cells] at hcs
    obtain ⟨rfl, rfl, rfl⟩ := hcs
    exact ⟨Nat.zero_le _, .inl rfl⟩
  · simp [Value.cells] at hcs
    obtain ⟨rfl, rfl, rfl⟩ := hcs
    refine ⟨by omega, ?_⟩
    by_cases h0 : len = 0
    · exact .inl h0
    · have hzl : zs.length = cap := by simpa using hz
      have hx : x = ⟨x.block, x.off, none⟩ := by
        have h1 := hcell 0 (by omega)
        simp [Addr.add] at h1
        cases x with
        | mk b o s =>
          cases s with
          | none => rfl
          | some s =>
            simp only [World.cell?] at h1
            split at h1 <;> simp at h1
      refine .inr ⟨x.block, x.off, by rw [← hx], ?_, fun i hi => ?_⟩
      · have h1 := hcell 0 (by omega)
        have := World.block_lt_of_cell? w _ h1
        simpa [Addr.add] using this
      · have h1 := hcell i (by omega)
        have hw : (Lit.int .u8 (zs.getD i 0)).wf = true := hwz _ (by rw [List.getD_eq_getElem?_getD, List.getElem?_eq_getElem (by omega)]; exact List.getElem_mem _)
        have hb := bounds_u8 hw
        refine ⟨zs.getD i 0, hb.1, hb.2, ?_⟩
        rw [hx] at h1
        have e : (Addr.mk x.block x.off none).add i = ⟨x.block, x.off + i, none⟩ := by
          unfold Addr.add
          split
          · rename_i h
            rw [h]
            rfl
          · rfl
        rw [e] at h1
        exact h1

end lawBytes

end Go.Proofs.Ytaopkoamjfmhhaa

/- The laws' own pick. -/
namespace Go.Proofs.Ytaopkoamjfmhhaa
open Go.ChangeShapes Go.WideShapes Go.ChangeAt Go.RowKit Go.Joins

theorem tmodB_nat (a b : Nat) : Int.tmod ((a : Nat) : Int) (b : Int) = ((a % b : Nat) : Int) := rfl

set_option maxRecDepth 100000 in
set_option maxHeartbeats 2000000 in
theorem pickB_any (a : Option Addr) (len cap n : Nat) (w : World) (h : Bytes w a len) (hl : len ≤ 1048576) (hn : n ≤ 100000) :
    Calls Try.prog 18 #[.slice a len cap, .int .i64 1, .int .i64 n] w fun e w' => ∃ k : Nat, e = .returned (.int .i64 (k : Int)) ∧ (1 ≤ n → k < n) ∧ w' = w := by
  have HY := Lib.hid h
  clear h
  go_enter Try.func18, Try.ntmps18
  by_cases h0 : len = 0
  · subst h0
    go_wp2
    go_ret
    exact ⟨0, rfl, fun h => h, rfl⟩
  by_cases h1 : n < 2
  · have e0 : ¬ ((len : Int) = 0) := by omega
    have e1 : (n : Int) < 2 := by omega
    go_wp2
    go_ret
    exact ⟨0, rfl, fun h => h, rfl⟩
  have e0 : ¬ ((len : Int) = 0) := by omega
  have e1 : ¬ ((n : Int) < 2) := by omega
  have e2 : ¬ ((n : Int) = 0) := by omega
  obtain ⟨b, o, rfl, hbl, hby⟩ := HY.out.resolve_left h0
  have HBY := Lib.hid hby
  clear hby HY
  go_wp2
  go_loopw [7, 8] (fun x i wr => ∃ k y : Nat, i = .int .i64 k ∧ x = .int .i64 y ∧ (k = 0 ∧ y = 0 ∨ k = 1 ∧ y ≤ 255 ∨ k = 2 ∧ y ≤ 8160 ∨ k = 3 ∧ y ≤ 253215) ∧ wr = w) (fun _ i _ => 3 - (intOf i).toNat)
  case atStart => exact ⟨0, 0, rfl, rfl, .inl ⟨rfl, rfl⟩, rfl⟩
  case round =>
    obtain ⟨k, y, rfl, rfl, hy, rfl⟩ := hrel
    by_cases hk : k < 3
    · have hlen : 0 < len := by omega
      have hmod : Int.tmod (1 + (k : Int)) (len : Int) = (((1 + k) % len : Nat) : Int) := tmodB_nat (1 + k) len
      obtain ⟨q, hq⟩ : ∃ q, (1 + k) % len = q := ⟨_, rfl⟩
      rw [hq] at hmod
      have hql : q < len := by rw [← hq]; exact Nat.mod_lt _ hlen
      clear hq
      have i1 : (0 : Int) ≤ (q : Int) := by omega
      have i2 : (q : Int) < (len : Int) := by omega
      obtain ⟨z, z0, z1, hz⟩ := HBY.out q hql
      have i3 : (k : Int) < 3 := by omega
      have hwz : wrap64 z = z := by unfold wrap64; omega
      go_wp2
      refine ⟨⟨k + 1, 31 * y + z.toNat, by go_num, ?_, by omega, trivial⟩, by simp [intOf]; omega⟩
      congr 1
      omega
    · have i3 : ¬ ((k : Int) < 3) := by omega
      have hmod : Int.tmod ((y : Int) + 1) (n : Int) = (((y + 1) % n : Nat) : Int) := tmodB_nat (y + 1) n
      have hml : (y + 1) % n < n := Nat.mod_lt _ (by omega)
      go_wp2
      go_ret
      exact ⟨_, rfl, fun _ => hml, rfl⟩

end Go.Proofs.Ytaopkoamjfmhhaa

/- Slots' law where some operations are guarded ('&&', '||'): the guard's slot is a fact that is told; where it does not want the operation, the slot is empty and the world stays. No Go text in sight. -/
namespace Go.Proofs.Ytaopkoamjfmhhaa

/-- One operation's word: where its guard does not want it, its slot is empty and the world stays. -/
def oblH (P : Program) (ops : Array Oper) (a0 : Act) (S : World → Prop) (R : World → World → Prop) (n : List (Tmp × Bool)) (o : Oper) (Ts : Facts) (T : Fact) : Prop :=
  ∀ ρ w, Plain ρ → S w → needs Ts a0 ρ w n → match o.guard with
    | none => got P (fun v w' => R w w' ∧ T v w') ((execOp ρ o).run P w)
    | some (gi, b) => ∃ d c, (ops[gi]?).bind (·.dst) = some d ∧ ρ (.tmp d) = .bool c ∧ (if c = b then got P (fun v w' => R w w' ∧ T v w') ((execOp ρ o).run P w) else R w w ∧ T undef w)

def wpSlotsH (P : Program) (ops : Array Oper) (a0 : Act) (S : World → Prop) (R : World → World → Prop) (Fin : Facts → Prop) : List (List (Tmp × Bool)) → List Oper → Facts → Prop
  | n :: N, o :: l, Ts => ∃ T : Fact, lasts R T ∧ oblH P ops a0 S R n o Ts T ∧ wpSlotsH P ops a0 S R Fin N l (addFact o T Ts)
  | [], [], Ts => Fin Ts
  | _, _, _ => False

def tidyH (ops : Array Oper) (m : Nat) (N : List (List (Tmp × Bool))) : Bool :=
  distB (ops.toList.take m) [] && (N.length == m) && decide (m ≤ ops.size) && sealB ops m &&
  ((List.range ops.size).all fun j => match ops[j]? with
    | some o => (o.after.all fun e => !Region.binds .any e || decide (e.on < j)) && (match N[j]? with | some n => tabRowB ops j o n | none => true)
    | _ => false)

theorem wanted_of {ops : Array Oper} {o : Oper} {gi : Nat} {b c : Bool} {d : Tmp} {a : Act} (hg : o.guard = some (gi, b)) (hd : (ops[gi]?).bind (·.dst) = some d) (hv : a.eval (.tmp d) = .bool c) : Region.wanted o (yielded ops a.tmps) = (c == b) := by
  have h1 : a.tmps[d]? = some (.bool c) := by
    have h2 : a.tmps.getD d undef = .bool c := hv
    rcases Nat.lt_or_ge d a.tmps.size with h | h
    · simpa [h] using h2
    · rw [Array.getD_eq_getD_getElem?, Array.getElem?_eq_none h] at h2
      cases h2
  unfold Region.wanted yielded
  rw [hg]
  simp only [hd, Option.bind_some, h1]
  cases c <;> cases b <;> rfl

theorem collectH {P : Program} {ops : Array Oper} {a0 : Act} {S : World → Prop} {R : World → World → Prop} {Fin : Facts → Prop} : ∀ (N : List (List (Tmp × Bool))) (l : List Oper) (Ts : Facts), wpSlotsH P ops a0 S R Fin N l Ts → distB l (Ts.map (·.1)) = true →
    ∃ Tf, Fin Tf ∧ (∀ x p, Ts.lookup x = some p → Tf.lookup x = some p) ∧ (∀ d p, (d, p) ∈ Tf → (d, p) ∈ Ts ∨ (Tf.lookup d = some p ∧ ∃ (k : Nat) (o : Oper), l[k]? = some o ∧ o.dst = some d)) ∧ ∀ (k : Nat) (n : List (Tmp × Bool)) (o : Oper), N[k]? = some n → l[k]? = some o → ∃ T : Fact, lasts R T ∧ oblH P ops a0 S R n o Tf T ∧ ∀ d, o.dst = some d → Tf.lookup d = some T
  | [], [], Ts, h, _ => ⟨Ts, h, fun _ _ h => h, fun _ _ h => .inl h, fun k n o hn _ => by simp at hn⟩
  | [], _ :: _, _, h, _ => h.elim
  | _ :: _, [], _, h, _ => h.elim
  | n :: N, o :: l, Ts, h, hd => by
    obtain ⟨T, hl, ho, hrest⟩ := h
    have hsub : ∀ x p, Ts.lookup x = some p → (addFact o T Ts).lookup x = some p := by
      intro x p hx
      unfold addFact
      cases hod : o.dst with
      | none => exact hx
      | some d =>
        simp only [distB, hod, Bool.and_eq_true, Bool.not_eq_true'] at hd
        have hne : x ≠ d := fun e => by rw [e, lookup_none_of hd.1] at hx; cases hx
        rw [List.lookup_cons, beq_eq_false_iff_ne.2 hne]
        exact hx
    have hd' : distB l ((addFact o T Ts).map (·.1)) = true := by
      unfold addFact
      cases hod : o.dst with
      | none => simpa [distB, hod] using hd
      | some d =>
        simp only [distB, hod, Bool.and_eq_true] at hd
        simpa using hd.2
    obtain ⟨Tf, hfin, hmono, hmem, hall⟩ := collectH N l (addFact o T Ts) hrest hd'
    have hhead : ∀ d, o.dst = some d → Tf.lookup d = some T := fun d hod => hmono d T (by unfold addFact; rw [hod]; simp)
    refine ⟨Tf, hfin, fun x p hx => hmono x p (hsub x p hx), fun d p hdp => ?_, fun k n' o' hn ho' => ?_⟩
    · rcases hmem d p hdp with h1 | ⟨h1, k, o', hk, hod⟩
      · unfold addFact at h1
        cases hod : o.dst with
        | none => rw [hod] at h1; exact .inl h1
        | some d' =>
          rw [hod] at h1
          rcases List.mem_cons.1 h1 with h2 | h2
          · obtain ⟨rfl, rfl⟩ := Prod.mk.inj h2
            exact .inr ⟨hhead _ hod, 0, o, rfl, hod⟩
          · exact .inl h2
      · exact .inr ⟨h1, k + 1, o', by simpa using hk, hod⟩
    cases k with
    | zero =>
      simp only [List.getElem?_cons_zero, Option.some.injEq] at hn ho'
      subst hn ho'
      refine ⟨T, hl, fun ρ w hp hS hn => ho ρ w hp hS (needs_mono (fun x p hx => hmono x p (hsub x p hx)) hn), hhead⟩
    | succ k =>
      exact hall k n' o' (by simpa using hn) (by simpa using ho')

/-- Whatever order is picked. -/
theorem any_slotsH {P : Program} {ops : Array Oper} {a0 : Act} {S SF : World → Prop} {SS : Nat → World → Prop} {R : World → World → Prop} {Tf : Facts} {Q : Exit → Act → World → Prop} {m : Nat} (hmle : m ≤ ops.size) (hseal : sealB ops m = true) (hstep : ∀ f w w', SS (f + 1) w → R w w' → SS f w') (hSS : ∀ f w, f < ops.size → SS (f + 1) w → S w) (hF : ∀ f w, f ≤ ops.size → SS f w → SF w) (hl : ∀ d p, Tf.lookup d = some p → lasts R p)
    (hbd : ∀ (i : Nat) (o : Oper) (d : Tmp), ops[i]? = some o → o.dst = some d → d < a0.tmps.size) (hlt : ∀ (i : Nat) (o : Oper), ops[i]? = some o → ∀ e ∈ o.after, Region.binds .any e = true → e.on < i)
    (hobl : ∀ (j : Nat) (o : Oper), j < m → ops[j]? = some o → ∃ n T, tabRowB ops j o n = true ∧ oblH P ops a0 S R n o Tf T ∧ ∀ d, o.dst = some d → Tf.lookup d = some T)
    (hfin : ∀ a w, SF w → a.defers = a0.defers → a.tmps.size = a0.tmps.size → (∀ (i : Nat) (o : Oper) (d : Tmp) p, i < m → ops[i]? = some o → o.dst = some d → Tf.lookup d = some p → p (a.eval (.tmp d)) w) → (∀ x, (∀ (i : Nat) (o : Oper), i < m → ops[i]? = some o → o.dst ≠ some x) → a.eval (.tmp x) = a0.eval (.tmp x)) → wpList P ops Q (ops.toList.drop m) a w) :
    ∀ (fuel : Nat) (listed : Array Bool) (a : Act) (w : World), listed.toList.count false = fuel → (∀ j, m ≤ j → j < ops.size → listed.getD j true = false) → Inv ops a0 (SS fuel) Tf listed a w → wpAny P .any ops Q fuel listed a w := by
  intro fuel
  induction fuel with
  | zero =>
    intro listed a w hc hm2 hI
    have hno : ∀ i, i < ops.size → listed.getD i false = true := fun i hi => by
      have hi' : i < listed.size := by rw [hI.size]; exact hi
      have : listed[i] ≠ false := fun h => by
        have := List.count_eq_zero.1 hc
        exact this (by rw [← h]; simp)
      simpa [hi'] using this
    have hms : m = ops.size := by
      rcases Nat.lt_or_ge m ops.size with h' | h'
      · have h3 := hno m h'
        rw [listed_ne hI.size h' (hm2 m (Nat.le_refl _) h')] at h3
        cases h3
      · omega
    refine any_tail hseal hlt 0 m listed a w (Nat.le_refl _) (by omega) hI.size (fun j hj => hno j (by omega)) hm2 ?_
    exact hfin a w (hF 0 w (Nat.zero_le _) hI.ok) hI.defers hI.len (fun i o d p _ ho hd hp => hI.fresh i o d p ho (hno i (Array.getElem?_eq_some_iff.1 ho).1) hd hp) (fun x hx => hI.old x fun i o ho _ => hx i o (by rw [hms]; exact (Array.getElem?_eq_some_iff.1 ho).1) ho)
  | succ fuel ih =>
    intro listed a w hc hm2 hI
    by_cases hdone : ∀ j, j < m → listed.getD j false = true
    · have hcnt := count_drop hI.size hmle hdone hm2
      refine any_tail hseal hlt (fuel + 1) m listed a w (Nat.le_refl _) (by omega) hI.size hdone hm2 ?_
      refine hfin a w (hF _ w (by have := List.count_le_length (a := false) (l := listed.toList); rw [hc, Array.length_toList, hI.size] at this; exact this) hI.ok) hI.defers hI.len (fun i o d p hi ho hd hp => hI.fresh i o d p ho (hdone i hi) hd hp) (fun x hx => hI.old x fun i o ho hli => ?_)
      refine hx i o ?_ ho
      rcases Nat.lt_or_ge i m with h' | h'
      · exact h'
      · have hil := (Array.getElem?_eq_some_iff.1 ho).1
        rw [listed_ne hI.size hil (hm2 i h' hil)] at hli
        cases hli
    · refine ⟨fun hr => absurd ?_ hdone, fun j hj => ?_⟩
      · -- the first that has not come up may come up
        have hall : ∀ k, k ≤ m → ∀ i, i < k → listed.getD i false = true := by
          intro k
          induction k with
          | zero => intro _ i hi; omega
          | succ k ihk =>
            intro hk i hi
            by_cases hik : i < k
            · exact ihk (by omega) i hik
            · have : i = k := by omega
              subst this
              have hi' : i < ops.size := by omega
              cases hb : listed.getD i true with
              | true =>
                have hi2 : i < listed.size := by rw [hI.size]; exact hi'
                simpa [hi2] using hb
              | false =>
                have hmem : i ∈ Region.ready .any ops listed := mem_ready.2 ⟨hb, ops[i], by simp [hi'], fun e he hbi => ihk (by omega) e.on (hlt i _ (by simp [hi']) e he hbi)⟩
                rw [hr] at hmem
                cases hmem
        exact hall m (Nat.le_refl _)
      · obtain ⟨h0, o, ho, hall⟩ := mem_ready.1 hj
        have hjlt := (Array.getElem?_eq_some_iff.1 ho).1
        have hjm : j < m := by
          rcases Nat.lt_or_ge j m with h' | h'
          · exact h'
          · exact absurd (fun i hi => sealed hseal hI.down ho h' hall (Nat.lt_of_lt_of_le hi h')) hdone
        obtain ⟨n, T, htab, hob, hT⟩ := hobl j o hjm ho
        have hun := listed_ne hI.size hjlt h0
        have hgot := hob a.eval w (plain_eval a) (hSS fuel w (by have := List.count_le_length (a := false) (l := listed.toList); rw [hc, Array.length_toList, hI.size] at this; exact this) hI.ok) (needs_iff.2 (needs_of hI ho hun hall n htab))
        unfold wpOp
        simp only [ho]
        have hkey : ∀ v w', R w w' ∧ T v w' → wpAny P .any ops Q fuel (listed.setIfInBounds j true) (a.put o.dst v) w' := fun v w' ⟨hR, hv⟩ => by
          have hI' := inv_step (hstep fuel) hl hbd hI ho hall hT hR hv
          refine ih _ _ _ ?_ (fun i hi hi2 => by rw [getD_set_ne true (by omega)]; exact hm2 i hi hi2) hI'
          have hcs := count_set (by rw [hI.size]; exact hjlt) h0
          omega
        cases hgd : o.guard with
        | none =>
          have h2 := hgot
          rw [hgd] at h2
          rw [if_pos (by simp [Region.wanted, hgd])]
          exact .inl (upon_of_got (got_mono hkey h2))
        | some gb =>
          obtain ⟨gi, b⟩ := gb
          have h2 := hgot
          rw [hgd] at h2
          obtain ⟨d, c, hd, hv, h3⟩ := h2
          rw [wanted_of hgd hd hv]
          by_cases hcb : c = b
          · rw [if_pos hcb] at h3
            rw [if_pos (by rw [hcb]; simp)]
            exact .inl (upon_of_got (got_mono hkey h3))
          · rw [if_neg hcb] at h3
            rw [if_neg (by simpa using hcb)]
            exact hkey undef w h3

/-- THE LAW, with a count of the operations that are still to come: the first operations 'l' in whatever order; those behind them ('r'), each of which waits for all ahead of it, in the order of the text. -/
theorem wp_region_slotsH_n {P : Program} {id : Nat} {Q : Exit → Act → World → Prop} {a0 : Act} {w0 : World} {all : List Oper} (m : Nat) (N : List (List (Tmp × Bool))) (S SF : World → Prop) (SS : Nat → World → Prop) (R : World → World → Prop)
    (hm : P.follows .mixedOrders = true) (hB : tidyH all.toArray m N = true) (hz : (all.all fun o => match o.dst with | some d => decide (d < a0.tmps.size) | none => true) = true)
    (h0 : SS all.length w0.drew) (hstep : ∀ f w w', SS (f + 1) w → R w w' → SS f w') (hSS : ∀ f w, f < all.length → SS (f + 1) w → S w) (hF : ∀ f w, f ≤ all.length → SS f w → SF w)
    (h : wpSlotsH P all.toArray a0 S R (fun Ts => ∀ vs w, SF w → factsAt vs w Ts → wpList P all.toArray Q (all.drop m) (putAll vs (all.take m) a0) w) N (all.take m) []) : (Code.region id all.toArray true).wp P Q a0 w0 := by
  simp only [tidyH, Bool.and_eq_true, beq_iff_eq, decide_eq_true_eq] at hB
  obtain ⟨⟨⟨⟨hdist, hlen⟩, hmle⟩, hseal⟩, htab⟩ := hB
  have hops : ∀ (i : Nat) (o : Oper), all.toArray[i]? = some o → all[i]? = some o := fun i o h => by simpa using h
  have hmemo : ∀ (i : Nat) (o : Oper), all.toArray[i]? = some o → o ∈ all := fun i o h => List.mem_of_getElem? (hops i o h)
  have htk : ∀ (i : Nat) (o : Oper), i < m → all.toArray[i]? = some o → (all.take m)[i]? = some o := fun i o hi h => by rw [List.getElem?_take_of_lt hi]; exact hops i o h
  have hbd : ∀ (i : Nat) (o : Oper) (d : Tmp), all.toArray[i]? = some o → o.dst = some d → d < a0.tmps.size := fun i o d ho hd => by
    have := List.all_eq_true.1 hz o (hmemo i o ho)
    simpa [hd] using this
  obtain ⟨Tf, hfin, _, hmem, hall⟩ := collectH N (all.take m) [] h (by simpa using hdist)
  have hrow : ∀ (j : Nat) (o : Oper), all.toArray[j]? = some o → (∀ e ∈ o.after, Region.binds .any e = true → e.on < j) ∧ (j < m → ∃ n, N[j]? = some n ∧ tabRowB all.toArray j o n = true) := fun j o ho => by
    have hj := (Array.getElem?_eq_some_iff.1 ho).1
    have h1 := List.all_eq_true.1 htab j (List.mem_range.2 hj)
    rw [ho] at h1
    simp only [Bool.and_eq_true] at h1
    refine ⟨fun e he hb => ?_, fun hjm => ?_⟩
    · have h2 := Array.all_eq_true'.1 h1.1 e he
      simpa [hb] using h2
    · have hjN : j < N.length := by rw [hlen]; exact hjm
      have h2 := h1.2
      rw [List.getElem?_eq_getElem hjN] at h2
      exact ⟨_, List.getElem?_eq_getElem hjN, h2⟩
  have hback : ∀ (k : Nat) (o : Oper), (all.take m)[k]? = some o → k < m ∧ all.toArray[k]? = some o := fun k o hk => by
    have hkl := (List.getElem?_eq_some_iff.1 hk).1
    have hkm : k < m := by
      rw [List.length_take] at hkl
      omega
    rw [List.getElem?_take_of_lt hkm] at hk
    exact ⟨hkm, by simpa using hk⟩
  refine wp_region_any hm ?_
  refine any_slotsH (m := m) (Tf := Tf) (a0 := a0) (SS := SS) (S := S) (SF := SF) hmle hseal hstep (fun f w hf => hSS f w (by simpa using hf)) (fun f w hf => hF f w (by simpa using hf)) (fun d p hp => ?_) hbd (fun i o ho => (hrow i o ho).1) (fun j o hj ho => ?_) (fun a w hSw hdef hsz hfr hold => ?_) _ _ _ _ ?_ ?_ ?_
  · -- each fact lasts
    rcases hmem d p (lookup_mem hp) with h1 | ⟨_, k, o, hk, hod⟩
    · cases h1
    · obtain ⟨hkm, hk'⟩ := hback k o hk
      obtain ⟨n, hn, _⟩ := (hrow k o hk').2 hkm
      obtain ⟨T, hT, _, hT2⟩ := hall k n o hn hk
      obtain rfl := Option.some.inj ((hT2 d hod).symm.trans hp)
      exact hT
  · obtain ⟨n, hn, h1⟩ := (hrow j o ho).2 hj
    obtain ⟨T, _, hT1, hT2⟩ := hall j n o hn (htk j o hj ho)
    exact ⟨n, T, h1, hT1, hT2⟩
  · obtain ⟨p1, p2, p3⟩ := putAll_spec (fun d => a.eval (.tmp d)) (all.take m) a0 (fun o ho d hd => by
      obtain ⟨i, hi, he⟩ := List.getElem_of_mem ho
      obtain ⟨_, hi'⟩ := hback i o (by rw [List.getElem?_eq_getElem hi, he])
      exact hbd i o d hi' hd)
    have e : a = putAll (fun d => a.eval (.tmp d)) (all.take m) a0 := by
      refine act_ext (hdef.trans p1.symm) (hsz.trans p2.symm) fun x => ?_
      by_cases hx : ∃ o ∈ all.take m, o.dst = some x
      · exact ((p3 x).1 hx).symm
      · rw [(p3 x).2 hx]
        exact hold x fun i o hi ho hd => hx ⟨o, List.mem_of_getElem? (htk i o hi ho), hd⟩
    rw [e]
    refine hfin _ w hSw (factsAt_of fun d p hdp => ?_)
    rcases hmem d p hdp with h1 | ⟨hlk, k, o, hk, hod⟩
    · cases h1
    · obtain ⟨hkm, hk'⟩ := hback k o hk
      exact hfr k o d p hkm hk' hod hlk
  · simp
  · intro j _ hj
    simp at hj
    simp [hj]
  · refine ⟨by simp, by simpa using h0, rfl, rfl, fun i o ho hli => ?_, fun i o d p ho hli => ?_, fun x _ => rfl⟩
    · rw [rep_false] at hli
      cases hli
    · rw [rep_false] at hli
      cases hli

/-- THE LAW: the first operations 'l' in whatever order; those behind them ('r'), each of which waits for all ahead of it, in the order of the text. -/
theorem wp_region_slotsH {P : Program} {id : Nat} {Q : Exit → Act → World → Prop} {a0 : Act} {w0 : World} {all : List Oper} (m : Nat) (N : List (List (Tmp × Bool))) (S : World → Prop) (R : World → World → Prop)
    (hm : P.follows .mixedOrders = true) (hB : tidyH all.toArray m N = true) (hz : (all.all fun o => match o.dst with | some d => decide (d < a0.tmps.size) | none => true) = true)
    (h0 : S w0.drew) (hS : ∀ w w', S w → R w w' → S w')
    (h : wpSlotsH P all.toArray a0 S R (fun Ts => ∀ vs w, S w → factsAt vs w Ts → wpList P all.toArray Q (all.drop m) (putAll vs (all.take m) a0) w) N (all.take m) []) : (Code.region id all.toArray true).wp P Q a0 w0 :=
  wp_region_slotsH_n m N S S (fun _ => S) R hm hB hz h0 (fun _ => hS) (fun _ _ _ h => h) (fun _ _ _ h => h) h

/-- One operation: its value is this one, whatever the world. -/
theorem slot_eq_h {P : Program} {ops : Array Oper} {a0 : Act} {S : World → Prop} {R : World → World → Prop} {Fin : Facts → Prop} {n : List (Tmp × Bool)} {N : List (List (Tmp × Bool))} {o : Oper} {l : List Oper} {Ts : Facts} {e : Value}
    (h : oblH P ops a0 S R n o Ts (fun v _ => v = e)) (hr : wpSlotsH P ops a0 S R Fin N l (addFact o (fun v _ => v = e) Ts)) : wpSlotsH P ops a0 S R Fin (n :: N) (o :: l) Ts :=
  ⟨_, lasts_eq _ _, h, hr⟩

/-- One operation: of its value this fact is told. -/
theorem slot_fact_h {P : Program} {ops : Array Oper} {a0 : Act} {S : World → Prop} {R : World → World → Prop} {Fin : Facts → Prop} {n : List (Tmp × Bool)} {N : List (List (Tmp × Bool))} {o : Oper} {l : List Oper} {Ts : Facts} (T : Fact) (hT : lasts R T)
    (h : oblH P ops a0 S R n o Ts T) (hr : wpSlotsH P ops a0 S R Fin N l (addFact o T Ts)) : wpSlotsH P ops a0 S R Fin (n :: N) (o :: l) Ts :=
  ⟨T, hT, h, hr⟩

theorem slot_end_h {P : Program} {ops : Array Oper} {a0 : Act} {S : World → Prop} {R : World → World → Prop} {Fin : Facts → Prop} {Ts : Facts} (h : Fin Ts) : wpSlotsH P ops a0 S R Fin [] [] Ts := h

end Go.Proofs.Ytaopkoamjfmhhaa
