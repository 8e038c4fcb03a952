/- The draw of Prefer. -/
import Derived.Test.YtofejfmfbifphacDoorRingD2
import Derived.Test.YtofejfmfbifphacDoorRingI
namespace Go.Proofs.YtofejfmfbifphacDoor
open Go.ChangeShapes Go.WideShapes Go.ChangeAt Go.RowKit Go.Joins

set_option maxRecDepth 100000 in
theorem RowI.ints {w : World} {base : Nat} {a : Option Addr} {n cap : Nat} {zs : List Int} (h : RowI w base (.slice a n cap) zs) : IsInts w a zs ∧ zs.length = n := by
  obtain ⟨a', c', e, ho⟩ := h.form
  injection e with e1 e2 e3
  subst e1 e2
  exact ⟨ho.isInts, rfl⟩

set_option maxRecDepth 100000 in
set_option maxHeartbeats 4000000 in
theorem drawPrefer_any (a : Option Addr) (len cap : Nat) (w : World) (h : Bytes w a len) (hl : len ≤ 1048576) :
    Calls Tryd.prog 6 #[.slice a len cap] w fun e w' => ∃ v s z, e = .returned (.tuple #[v, .string s, .int .i64 z]) ∧ s.size ≤ 100 ∧ Below w.heap.size w w' := by
  have HO := Lib.hid (open_any a len cap w h hl)
  clear h
  go_enter Tryd.func6, Tryd.ntmps6
  go_wp2_with fail
  refine HO.out.mono ?_
  rintro e w1 ⟨rfl, hc1, hb1⟩
  have HC1 := Lib.hid hc1
  have HB1 := Lib.hid hb1
  have hlt1 := hc1.lt
  clear hc1 hb1 HO
  go_wp2_with fail
  refine (nodes_any w.heap.size a len cap 0 _ (by omega) HC1.out).mono ?_
  rintro e w2 ⟨v, zs, rfl, hr, hzl, hc2, hh2⟩
  obtain ⟨az, cz, rfl, -⟩ := hr.form
  have HC2 := Lib.hid hc2
  have HH2 := Lib.hid hh2
  have hs2 : w1.heap.size ≤ w2.heap.size := hh2.size
  have HR2 := Lib.hid hr
  clear hr hc2 hh2 HC1
  go_wp2_with fail
  refine (pick_any w.heap.size a len cap 20 4 _ (by omega) (by omega) (by omega) (HC2.out.more (by omega))).mono ?_
  rintro e w3 ⟨r, rfl, r0, r1, hc3, hh3⟩
  have HR3 := Lib.hid (HR2.out.hole hh3 hlt1)
  have HC3 := Lib.hid hc3
  have HH3 := Lib.hid (HH2.out.trans hh3)
  clear hc3 hh3 HC2 HH2 HR2
  go_wp2_with fail
  refine (specRingOf_any _ _ _ zs (1 + r) _ rfl (by omega) HR3.out.ints.1).mono ?_
  rintro e w4 ⟨v4, rfl, -, hb4⟩
  have HC4 := Lib.hid (HC3.out.below hb4)
  have HH4 : Hid (Hole w.heap.size w1 w4) := HH3.out.trans (Hole.of_below hb4)
  clear hb4 HC3 HH3 HR3
  go_wp2_with fail
  refine (text_any w.heap.size a len cap 21 _ (by omega) (HC4.out.more (by omega))).mono ?_
  rintro e w5 ⟨s, rfl, hsz, hc5, hh5⟩
  have HC5 : Hid (Cur w5 w.heap.size a len cap (1000 - 3 * (14 : Nat))) := hc5.more (by omega)
  have HH5 := Lib.hid (HH4.out.trans hh5)
  have hs5 : w1.heap.size ≤ w5.heap.size := (HH4.out.trans hh5).size
  clear hc5 hh5 HC4 HH4
  go_wp2_with fail
  refine wp_region_slots_n 14 [[(6,false)],[(7,false)],[(5,false)],[(20,true)],[(5,false)],[(22,true)],[(21,true),(23,true)],[(5,false)],[(25,true)],[(24,true),(26,true)],[(27,true)],[(18,true)],[(19,true)],[(28,true)]] (CurL w5 w.heap.size a len cap 1000) (CurL w5 w.heap.size a len cap 1000) (CurT w5 w.heap.size a len cap 1000) (CurQ w.heap.size a len cap) (by kernel_rfl) (by kernel_rfl) (by rfl) (curT_start _ (by omega) HC5.out) curT_step (fun _ _ _ h => curT_any h) (fun _ _ _ h => curT_any h) ?_
  iterate 3 (apply slot_eq; · (intro ρ w' ⟨p1, p2, p3⟩ ⟨hH, hC⟩ hn; simp at hn; go_simp; exact ⟨curQ_refl _ _ _ _ _, rfl⟩))
  refine slot_fact (LessF 5) (fun _ _ _ h _ => h) ?_ ?_
  · intro ρ w' ⟨p1, p2, p3⟩ ⟨hH, hC⟩ hn
    simp at hn
    go_simp
    exact got_call (pick_curQ w.heap.size a len cap _ 5 _ (by omega) (by omega) (by omega) hC) fun e w'' ⟨r, he, hr, h1⟩ => ⟨_, he, h1, r, rfl, hr⟩
  apply slot_eq
  · intro ρ w' ⟨p1, p2, p3⟩ ⟨hH, hC⟩ hn
    simp at hn
    go_simp
    exact ⟨curQ_refl _ _ _ _ _, rfl⟩
  refine slot_fact IntF (fun _ _ _ h _ => h) ?_ ?_
  · intro ρ w' ⟨p1, p2, p3⟩ ⟨hH, hC⟩ hn
    simp at hn
    go_simp
    exact got_call (raw_curQ w.heap.size a len cap _ _ (by omega) hC) fun e w'' ⟨r, he, h1⟩ => ⟨_, he, h1, r, rfl⟩
  refine slot_fact (BuiltF w1.heap.size 2) (lasts_built _ _ _ _ _ _ hlt1) ?_ ?_
  · intro ρ w' ⟨p1, p2, p3⟩ ⟨hH, hC⟩ hn
    simp at hn
    obtain ⟨⟨q, f21, -⟩, r, f23⟩ := hn
    have hsz := hH.size
    go_simp
    exact ⟨curQ_alloc _ _ _ _ _ _, _, rfl, laid2 w' _ q r (by omega)⟩
  apply slot_eq
  · intro ρ w' ⟨p1, p2, p3⟩ ⟨hH, hC⟩ hn
    simp at hn
    go_simp
    exact ⟨curQ_refl _ _ _ _ _, rfl⟩
  refine slot_fact (LessF 2) (fun _ _ _ h _ => h) ?_ ?_
  · intro ρ w' ⟨p1, p2, p3⟩ ⟨hH, hC⟩ hn
    simp at hn
    go_simp
    exact got_call (pick_curQ w.heap.size a len cap _ 2 _ (by omega) (by omega) (by omega) hC) fun e w'' ⟨r, he, hr, h1⟩ => ⟨_, he, h1, r, rfl, hr⟩
  refine slot_fact (PtrF w1.heap.size 2) (lasts_ptr _ _ _ _ _ _ hlt1) ?_ ?_
  · intro ρ w' ⟨p1, p2, p3⟩ ⟨hH, hC⟩ hn
    simp at hn
    obtain ⟨⟨b, f13, hL⟩, q, f15, hq⟩ := hn
    have i1 : (0 : Int) ≤ (q : Int) := by omega
    go_simp
    exact ⟨curQ_refl _ _ _ _ _, b, q, rfl, by omega, hL⟩
  refine slot_fact IntF (fun _ _ _ h _ => h) ?_ ?_
  · intro ρ w' ⟨p1, p2, p3⟩ ⟨hH, hC⟩ hn
    simp at hn
    obtain ⟨b, q, f16, hq, hL⟩ := hn
    obtain ⟨z, hz⟩ := hL.cell hq
    go_simp
    exact ⟨curQ_refl _ _ _ _ _, z, rfl⟩
  iterate 2 (apply slot_eq; · (intro ρ w' ⟨p1, p2, p3⟩ ⟨hH, hC⟩ hn; simp at hn; go_simp; exact ⟨curQ_refl _ _ _ _ _, rfl⟩))
  refine slot_fact IntF (fun _ _ _ h _ => h) ?_ ?_
  · intro ρ w' ⟨p1, p2, p3⟩ ⟨hH, hC⟩ hn
    simp at hn
    obtain ⟨z, f17⟩ := hn
    go_simp
    exact ⟨curQ_refl _ _ _ _ _, z, rfl⟩
  refine slot_end ?_
  rintro tv w6 ⟨hH, hC⟩ hF
  simp at hF
  obtain ⟨⟨z, f4⟩, f3, f2, ⟨z28, f28⟩, ⟨b27, q27, f27, -⟩, ⟨q26, f26, -⟩, f25, ⟨b24, f24, -⟩, ⟨z23, f23⟩, f22, ⟨q21, f21, -⟩, f20, f19, f18⟩ := hF
  have HB6 : Hid (Below w.heap.size w w6) := Hole.below HB1.out (HH5.out.trans hH) (Nat.le_refl _) HB1.out.size
  simp only [List.take_succ_cons, List.take_zero, List.drop_succ_cons, List.drop_zero, putAll, f4, f3, f2, f28, f27, f26, f25, f24, f23, f22, f21, f20, f19, f18]
  clear f4 f3 f2 f28 f27 f26 f25 f24 f23 f22 f21 f20 f19 f18 hH hC
  simp only [Act.put, List.setIfInBounds_toArray, List.set_cons_succ, List.set_cons_zero]
  go_wp2
  exact bodyPost_ret (v := .tuple #[v4, .string s, .int .i64 z]) (by simp [results, Tryd.results6, go_sem]) rfl ⟨_, s, z, rfl, hsz, HB6.out⟩

end Go.Proofs.YtofejfmfbifphacDoor
