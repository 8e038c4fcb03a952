/- The contracts of the draws of maps. -/
import Derived.Test.YtfapebnilbdheabAmap
namespace Go.Proofs.Ytfapebnilbdheab
open Go.ChangeShapes Go.WideShapes Go.ChangeAt Go.RowKit Go.Joins
attribute [local go_sem ↓] Go.wp_at_zero Go.wp_at_succ

/-- A drawn map: a row of writes of one's own, a few, each with a few dependencies. -/
def DrawnM (w : World) (base : Nat) (v : Value) (es : List En) : Prop := ∃ g cp, v = .slice (some ⟨g, 0, none⟩) es.length cp ∧ es.length ≤ 40 ∧ (∀ d ∈ es, d.x.xs.length ≤ 10) ∧ RowEs w base g cp es

theorem joinW_len : ∀ (b a : List Wr), (joinW a b).length ≤ a.length + b.length
  | [], a => by simp [joinW]
  | x :: r, a => by
    have h1 := joinW_len r (putW a x)
    have h2 := put_len a x
    show (joinW (putW a x) r).length ≤ _
    simp only [List.length_cons]
    omega

theorem joinW_mem : ∀ (b a : List Wr) (z : Wr), z ∈ joinW a b → z ∈ a ∨ z ∈ b
  | [], a, z, h => .inl h
  | x :: r, a, z, h => by
    rcases joinW_mem r (putW a x) z h with h1 | h1
    · rcases put_mem a x z h1 with h2 | h2
      · exact .inr (by simp [h2])
      · exact .inl h2
    · exact .inr (by simp [h1])

theorem few_of {es : List En} (h : ∀ d ∈ es, d.x.xs.length ≤ 10) : Few (es.map (·.x)) := few_iff.2 fun y hy => by
  obtain ⟨d, hd, rfl⟩ := List.mem_map.1 hy
  have := h d hd
  omega

set_option maxHeartbeats 4000000 in
theorem drawJoin_any (a : Option Addr) (len cap : Nat) (w : World) (h : Bytes w a len) (hl : len ≤ 1048576) :
    Calls Try.prog 14 #[.slice a len cap] w fun e w' => ∃ v1 v2 es1 es2, e = .returned (.tuple #[v1, v2]) ∧ DrawnM w' w.heap.size v1 es1 ∧ DrawnM w' w.heap.size v2 es2 ∧ Below w.heap.size w w' := by
  have HO := Lib.hid (open_any a len cap w h hl)
  clear h
  go_enter Try.func14, Try.ntmps14
  go_wp2_with fail
  refine HO.out.mono ?_
  rintro e w1 ⟨rfl, hc1, hb1⟩
  have HC1 := Lib.hid hc1
  have HB1 := Lib.hid hb1
  have hlt1 := hc1.lt
  clear hc1 hb1 HO
  go_wp2_with fail
  refine (story_any w.heap.size a len cap 0 _ (by omega) HC1.out).mono ?_
  rintro e w2 ⟨v, es, rfl, hl1, hl2, hf, hr, hc2, hh2⟩
  obtain ⟨ag, cg, hv, -⟩ := hr.form
  subst hv
  have HF := Lib.hid hf
  have HR2 := Lib.hid hr
  have HC2 := Lib.hid hc2
  have HH2 := Lib.hid hh2
  clear hf hr hc2 hh2 HC1
  go_wp2_with fail
  refine (amap_any w.heap.size a len cap _ ag es.length cg w1.heap.size es _ (by omega) HC2.out HR2.out hlt1 rfl hl1 HF.out).mono ?_
  rintro e w3 ⟨g3, cp3, es3, L3, rfl, rfl, hL3, hf3, hr3, hc3, hh3⟩
  have HF3 := Lib.hid hf3
  have HR3 := Lib.hid hr3
  have HC3 := Lib.hid hc3
  have HH3 := Lib.hid hh3
  have hs2 : w1.heap.size ≤ w2.heap.size := HH2.out.size
  have HRS := Lib.hid (HR2.out.hole hh3 hlt1)
  clear hf3 hr3 hc3 hh3 HC2 HR2
  go_wp2_with fail
  refine (amap_any w.heap.size a len cap _ ag es.length cg w1.heap.size es _ (by omega) HC3.out HRS.out hlt1 rfl hl1 HF.out).mono ?_
  rintro e w4 ⟨g4, cp4, es4, L4, rfl, rfl, hL4, hf4, hr4, hc4, hh4⟩
  have hs3 : w2.heap.size ≤ w3.heap.size := HH3.out.size
  have HR5 := Lib.hid ((HR3.out.hole hh4 (by omega)).mono (base' := w.heap.size) (by omega))
  have HR4 := Lib.hid (hr4.mono (base' := w.heap.size) (by omega))
  have HF4 := Lib.hid hf4
  have HB4 : Hid (Below w.heap.size w w4) := Hole.below HB1.out ((HH2.out.trans HH3.out).trans hh4) (Nat.le_refl _) HB1.out.size
  clear hr4 hc4 hh4 hf4 HR3 HC3
  go_wp2
  exact bodyPost_ret (v := .tuple #[.slice (some ⟨g3, 0, none⟩) es3.length cp3, .slice (some ⟨g4, 0, none⟩) es4.length cp4]) (by simp [results, Try.results14, go_sem]) rfl ⟨_, _, es3, es4, rfl, ⟨g3, cp3, rfl, by omega, HF3.out, HR5.out⟩, ⟨g4, cp4, rfl, by omega, HF4.out, HR4.out⟩, HB4.out⟩

set_option maxHeartbeats 4000000 in
theorem drawWithin_any (a : Option Addr) (len cap : Nat) (w : World) (h : Bytes w a len) (hl : len ≤ 1048576) :
    Calls Try.prog 27 #[.slice a len cap] w fun e w' => ∃ v1 v2 es1 es2, e = .returned (.tuple #[v1, v2]) ∧ DrawnM w' w.heap.size v1 es1 ∧ DrawnM w' w.heap.size v2 es2 ∧ Below w.heap.size w w' := by
  have HO := Lib.hid (open_any a len cap w h hl)
  clear h
  go_enter Try.func27, Try.ntmps27
  go_wp2_with fail
  refine HO.out.mono ?_
  rintro e w1 ⟨rfl, hc1, hb1⟩
  have HC1 := Lib.hid hc1
  have HB1 := Lib.hid hb1
  have hlt1 := hc1.lt
  clear hc1 hb1 HO
  go_wp2_with fail
  refine (story_any w.heap.size a len cap 0 _ (by omega) HC1.out).mono ?_
  rintro e w2 ⟨v, es, rfl, hl1, hl2, hf, hr, hc2, hh2⟩
  obtain ⟨ag, cg, hv, -⟩ := hr.form
  subst hv
  have HF := Lib.hid hf
  have HR2 := Lib.hid hr
  have HC2 := Lib.hid hc2
  have HH2 := Lib.hid hh2
  clear hf hr hc2 hh2 HC1
  go_wp2_with fail
  refine (amap_any w.heap.size a len cap _ ag es.length cg w1.heap.size es _ (by omega) HC2.out HR2.out hlt1 rfl hl1 HF.out).mono ?_
  rintro e w3 ⟨g3, cp3, es3, L3, rfl, rfl, hL3, hf3, hr3, hc3, hh3⟩
  have HF3 := Lib.hid hf3
  have HR3 := Lib.hid hr3
  have HC3 := Lib.hid hc3
  have HH3 := Lib.hid hh3
  have hs2 : w1.heap.size ≤ w2.heap.size := HH2.out.size
  have HRS := Lib.hid (HR2.out.hole hh3 hlt1)
  clear hf3 hr3 hc3 hh3 HC2 HR2
  go_wp2_with fail
  refine (pick_any w.heap.size a len cap _ 2 _ (by omega) (by omega) (by omega) HC3.out).mono ?_
  rintro e w5 ⟨r5, rfl, r50, r51, hc5, hh5⟩
  have HC5 := Lib.hid hc5
  have HH5 := Lib.hid (HH3.out.trans hh5)
  have HR3' := Lib.hid (HR3.out.hole hh5 (by omega))
  have HRS' := Lib.hid (HRS.out.hole hh5 hlt1)
  have hs5 : w3.heap.size ≤ w5.heap.size := hh5.size
  have hs3 : w2.heap.size ≤ w3.heap.size := HH3.out.size
  clear hc5 hh5 HC3 HR3 HRS HH3
  by_cases hr5 : r5 = 0
  · subst hr5
    go_wp2_with fail
    refine (amap_any w.heap.size a len cap _ ag es.length cg w1.heap.size es _ (by omega) HC5.out HRS'.out hlt1 rfl hl1 HF.out).mono ?_
    rintro e w4 ⟨g4, cp4, es4, L4, rfl, rfl, hL4, hf4, hr4, hc4, hh4⟩
    have HR5 := Lib.hid ((HR3'.out.hole hh4 (by omega)).mono (base' := w.heap.size) (by omega))
    have HR4 := Lib.hid (hr4.mono (base' := w.heap.size) (by omega))
    have HF4 := Lib.hid hf4
    have HB4 : Hid (Below w.heap.size w w4) := Hole.below HB1.out ((HH2.out.trans HH5.out).trans hh4) (Nat.le_refl _) HB1.out.size
    have HX3 : Hid (Few (es3.map (·.x))) := few_of HF3.out
    have HX4 : Hid (Few (es4.map (·.x))) := few_of HF4.out
    clear hr4 hc4 hh4 hf4 HR3' HC5
    go_wp2_with fail
    refine (l02Join_gen _ _ es3.length es4.length cp3 cp4 (es3.map (·.x)) (es4.map (·.x)) _ (by simp) (by simp) (by omega) HX3.out HX4.out ((HR5.out.holds rfl).isWs HX3.out) ((HR4.out.holds rfl).isWs HX4.out)).mono ?_
    rintro e w6 ⟨g6, cp6, es6, L6, rfl, rfl, hm6, hr6, hb6⟩
    have hl6 : es6.length ≤ 40 := by
      have h1 := congrArg List.length hm6
      have h2 := joinW_len (es4.map (·.x)) (es3.map (·.x))
      simp only [List.length_map] at h1 h2
      omega
    have hf6 : ∀ d ∈ es6, d.x.xs.length ≤ 10 := fun d hd => by
      have h1 : d.x ∈ joinW (es3.map (·.x)) (es4.map (·.x)) := by
        rw [← hm6]
        exact List.mem_map.2 ⟨d, hd, rfl⟩
      rcases joinW_mem _ _ _ h1 with h2 | h2
      · obtain ⟨y, hy, e⟩ := List.mem_map.1 h2
        rw [← e]
        exact HF3.out y hy
      · obtain ⟨y, hy, e⟩ := List.mem_map.1 h2
        rw [← e]
        exact HF4.out y hy
    have HR7 := Lib.hid (HR5.out.below hb6)
    have HR6 := Lib.hid (hr6.mono (base' := w.heap.size) HB4.out.size)
    have HB6 := Lib.hid (below_step HB4.out HB4.out.size hb6)
    have HF6 := Lib.hid hf6
    clear hm6 hr6 hb6 hf6 HR4 HR5 HB4
    go_wp2
    exact bodyPost_ret (v := .tuple #[.slice (some ⟨g3, 0, none⟩) es3.length cp3, .slice (some ⟨g6, 0, none⟩) es6.length cp6]) (by simp [results, Try.results27, go_sem]) rfl ⟨_, _, es3, es6, rfl, ⟨g3, cp3, rfl, by omega, HF3.out, HR7.out⟩, ⟨g6, cp6, rfl, hl6, HF6.out, HR6.out⟩, HB6.out⟩
  · go_wp2_with fail
    refine (amap_any w.heap.size a len cap _ ag es.length cg w1.heap.size es _ (by omega) HC5.out HRS'.out hlt1 rfl hl1 HF.out).mono ?_
    rintro e w4 ⟨g4, cp4, es4, L4, rfl, rfl, hL4, hf4, hr4, hc4, hh4⟩
    have HR5 := Lib.hid ((HR3'.out.hole hh4 (by omega)).mono (base' := w.heap.size) (by omega))
    have HR4 := Lib.hid (hr4.mono (base' := w.heap.size) (by omega))
    have HF4 := Lib.hid hf4
    have HB4 : Hid (Below w.heap.size w w4) := Hole.below HB1.out ((HH2.out.trans HH5.out).trans hh4) (Nat.le_refl _) HB1.out.size
    clear hr4 hc4 hh4 hf4 HR3' HC5
    go_wp2
    exact bodyPost_ret (v := .tuple #[.slice (some ⟨g3, 0, none⟩) es3.length cp3, .slice (some ⟨g4, 0, none⟩) es4.length cp4]) (by simp [results, Try.results27, go_sem]) rfl ⟨_, _, es3, es4, rfl, ⟨g3, cp3, rfl, by omega, HF3.out, HR5.out⟩, ⟨g4, cp4, rfl, by omega, HF4.out, HR4.out⟩, HB4.out⟩

end Go.Proofs.Ytfapebnilbdheab
