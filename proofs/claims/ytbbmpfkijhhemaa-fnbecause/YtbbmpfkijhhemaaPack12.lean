import Derived.Test.YtbbmpfkijhhemaaPack11
import Derived.Test.YtbbmpfkijhhemaaPack9
import Derived.Test.YtbbmpfkijhhemaaPack2
import Derived.Test.YtbbmpfkijhhemaaPack1
import Derived.Test.YtbbmpfkijhhemaaPack8
import Derived.Test.YtbbmpfkijhhemaaPack4
import Derived.Test.YtbbmpfkijhhemaaPack7
/- The contract of the draw of a map and dependencies; the laws' sameDeps. -/
namespace Go.Proofs.Ytbbmpfkijhhemaa
open Go.ChangeShapes Go.WideShapes Go.ChangeAt Go.RowKit Go.Joins
attribute [local go_sem ↓] Go.wp_at_zero Go.wp_at_succ

/-- The place of a write's dependencies in a row of writes. -/
def PlaceFact6 (b n : Nat) : Fact := fun v _ => ∃ r : Nat, v = .pointer (some ⟨b, r * 7 + 6, none⟩) ∧ r < n

/-- Dependencies above base. -/
def DepsFact (base : Nat) : Fact := fun v w => ∃ (ds : List Dp) (ad : Option Addr) (g cp : Nat), v = .slice ad ds.length cp ∧ ds.length ≤ 10 ∧ FreshDeps base w ad g ds

theorem lasts_deps (B base : Nat) (a : Option Addr) (len cap : Nat) (hB : B < base) : lasts (CurR B a len cap) (DepsFact base) := by
  rintro v w w' ⟨x, ad, g, cp, h1, h2, h3⟩ hr
  exact ⟨x, ad, g, cp, h1, h2, h3.of_block hr.1.size fun hp => hr.1.block g (h3 hp).2.2.1 (by have := (h3 hp).2.1; omega)⟩

set_option maxRecDepth 100000 in
set_option maxHeartbeats 2000000 in
theorem sameDeps_same (a b : Option Addr) (n cap cap' : Nat) (ds : List Dp) (w : World) (hn : ds.length = n) (hm : n ≤ 1048576) (hi : IsDeps w a ds) (hj : IsDeps w b ds) :
    Calls Try.prog 8 #[.slice a n cap, .slice b n cap'] w fun e w' => e = .returned (.bool true) ∧ Below w.heap.size w w' := by
  have HI := Lib.hid hi
  have HJ := Lib.hid hj
  have HN := Lib.hid hn
  clear hi hj hn
  go_enter Try.func8, Try.ntmps8
  go_wp2
  go_loopw [5] (fun i wr => ∃ k : Nat, k ≤ n ∧ i = .int .i64 k ∧ Hid (Below w.heap.size w wr)) (fun i _ => n - (intOf i).toNat)
  case atStart => exact ⟨0, Nat.zero_le _, rfl, Below.refl _ _⟩
  case round =>
    obtain ⟨k, hk, rfl, HB⟩ := hrel
    by_cases hk' : k < n
    · have hkd : k < ds.length := by rw [HN.out]; exact hk'
      obtain ⟨b1, o1, rfl, hz, e0, e1, e2, e3⟩ := HI.out.at HB.out hkd
      obtain ⟨b2, o2, rfl, hz', f0, f1, f2, f3⟩ := HJ.out.at HB.out hkd
      clear HI HJ
      have i1 : (0 : Int) ≤ (k : Int) := by omega
      have i2 : (k : Int) < (n : Int) := by omega
      generalize (ds.getD k dz).k = x at *
      generalize (ds.getD k dz).c = c at *
      generalize (ds.getD k dz).s = s at *
      generalize (ds.getD k dz).q = q at *
      go_wp2_with fail
      have ge0 := aft_cell hz e0
      have ge1 := aft_cell hz e1
      have ge2 := aft_cell hz e2
      have ge3 := aft_cell hz e3
      have gf0 := aft_cell hz' f0
      have gf1 := aft_cell hz' f1
      have gf2 := aft_cell hz' f2
      have gf3 := aft_cell hz' f3
      have ne := aft_some wr
      refine wp_region_aft (by kernel_rfl) (by kernel_rfl) ?_
      repeat (first | go_big_quiet_step (fail))
      refine wpQuiet_nil ?_
      intro wq hq
      have HB2 := Lib.hid (below_step HB.out HB.out.size hq)
      clear hq
      go_wp2
      exact ⟨⟨k + 1, by omega, by go_num, HB2⟩, by simp [intOf]; omega⟩
    · go_wp2
      go_ret
      exact ⟨rfl, HB.out⟩

end Go.Proofs.Ytbbmpfkijhhemaa

/- The specification's list of dependencies by keys, of one key the last: plain facts; the contracts of spec.l07Bit and spec.l07Later. -/
namespace Go.Proofs.Ytbbmpfkijhhemaa
open Go.ChangeShapes Go.WideShapes Go.ChangeAt Go.RowKit Go.Joins
attribute [local go_sem ↓] Go.wp_at_zero Go.wp_at_succ

/-- Of two dependencies of one key the later one. -/
def lastD (x d : Dp) : Dp := if tcmp x.c x.s x.q d.c d.s d.q < 0 then d else x

def laterStep (d : Dp) (st : List Dp × Bool) (x : Dp) : List Dp × Bool :=
  if x.k = d.k then (st.1 ++ [lastD x d], true) else if d.k < x.k ∧ st.2 = false then (st.1 ++ [d] ++ [x], true) else (st.1 ++ [x], st.2)

def laterRun (xs : List Dp) (d : Dp) : List Dp × Bool := xs.foldl (laterStep d) ([], false)

def laterL (xs : List Dp) (d : Dp) : List Dp := if (laterRun xs d).2 = true then (laterRun xs d).1 else (laterRun xs d).1 ++ [d]

set_option maxRecDepth 100000 in
theorem laterRun_take (xs : List Dp) (d : Dp) (k : Nat) (h : k < xs.length) : laterRun (xs.take (k + 1)) d = laterStep d (laterRun (xs.take k) d) (xs.getD k dz) := by
  unfold laterRun
  have e : xs.take (k + 1) = xs.take k ++ [xs.getD k dz] := by
    rw [List.take_add_one, List.getElem?_eq_getElem h]
    simp [List.getD, h]
  rw [e, List.foldl_append]
  rfl

set_option maxRecDepth 100000 in
theorem laterStep_len (d : Dp) (st : List Dp × Bool) (x : Dp) : (laterStep d st x).1.length + (if (laterStep d st x).2 = true then 0 else 1) ≤ st.1.length + (if st.2 = true then 0 else 1) + 1 := by
  unfold laterStep
  split
  · cases st.2 <;> simp
  · split
    · rename_i h
      rw [h.2]
      simp
    · cases st.2 <;> simp

set_option maxRecDepth 100000 in
theorem laterRun_len (xs : List Dp) (d : Dp) : ∀ k, k ≤ xs.length → (laterRun (xs.take k) d).1.length + (if (laterRun (xs.take k) d).2 = true then 0 else 1) ≤ k + 1
  | 0, _ => by simp [laterRun]
  | k + 1, h => by
    have ih := laterRun_len xs d k (by omega)
    rw [laterRun_take xs d k (by omega)]
    have := laterStep_len d (laterRun (xs.take k) d) (xs.getD k dz)
    omega

/-- A dependency in a block of its own. -/
structure DBox (w : World) (b : Nat) (d : Dp) : Prop where
  lt : b < w.heap.size
  c0 : w.cell? ⟨b, 0, none⟩ = some (.int .i64 d.k)
  c1 : w.cell? ⟨b, 1, none⟩ = some (.int .i64 d.c)
  c2 : w.cell? ⟨b, 2, none⟩ = some (.int .i64 d.s)
  c3 : w.cell? ⟨b, 3, none⟩ = some (.int .i64 d.q)
  fz : ∀ o, w.frozen? ⟨b, o, none⟩ = false

set_option maxRecDepth 100000 in
theorem DBox.start (w : World) (d : Dp) (ty : Nat) : DBox (w.alloc (.cells #[.int .i64 d.k, .int .i64 d.c, .int .i64 d.s, .int .i64 d.q] ty)) w.heap.size d := by
  have h := heap_alloc_new w (.cells #[.int .i64 d.k, .int .i64 d.c, .int .i64 d.s, .int .i64 d.q] ty)
  refine ⟨by simp, ?_, ?_, ?_, ?_, fun o => by simp [go_sem]⟩ <;> (rw [cell_of_row _ _ _ _ ty (0, 0) h]; rfl)

set_option maxRecDepth 100000 in
theorem DBox.of_block {w w' : World} {b : Nat} {d : Dp} (h : DBox w b d) (hs : w.heap.size ≤ w'.heap.size) (hb : w'.heap[b]? = w.heap[b]?) : DBox w' b d := by
  have e : ∀ o, w'.cell? ⟨b, o, none⟩ = w.cell? ⟨b, o, none⟩ := fun o => World.cell?_of_block (a := ⟨b, o, none⟩) hb
  exact ⟨Nat.lt_of_lt_of_le h.lt hs, (e _).trans h.c0, (e _).trans h.c1, (e _).trans h.c2, (e _).trans h.c3, fun o => (World.frozen?_of_block (w := w) hb).trans (h.fz o)⟩

set_option maxRecDepth 100000 in
theorem DBox.below {w w' : World} {b : Nat} {d : Dp} (h : DBox w b d) (hb : Below w.heap.size w w') : DBox w' b d := h.of_block hb.size (hb.block b h.lt)

/-- A dependency stored as a whole. -/
def put4 (w : World) (b : Nat) (k c s q : Int) : World := (((w.setCell ⟨b, 0, none⟩ (.int .i64 k)).setCell ⟨b, 1, none⟩ (.int .i64 c)).setCell ⟨b, 2, none⟩ (.int .i64 s)).setCell ⟨b, 3, none⟩ (.int .i64 q)

set_option maxRecDepth 100000 in
theorem hole_put4 {B : Nat} {w w' : World} (h : Hole B w w') (k c s q : Int) : Hole B w (put4 w' B k c s q) := (((h.set 0 _).set 1 _).set 2 _).set 3 _

set_option maxRecDepth 100000 in
theorem dbox_put4 {w : World} {b : Nat} {d : Dp} (h : DBox w b d) (k c s q : Int) : DBox (put4 w b k c s q) b ⟨k, c, s, q⟩ := by
  have s0 := cell_set_same (v := .int .i64 k) h.c0
  have o1 := cell_set_off (o := 0) (v := .int .i64 k) h.c1 (by omega)
  have o2 := cell_set_off (o := 0) (v := .int .i64 k) h.c2 (by omega)
  have o3 := cell_set_off (o := 0) (v := .int .i64 k) h.c3 (by omega)
  have s1 := cell_set_same (v := .int .i64 c) o1
  have p0 := cell_set_off (o := 1) (v := .int .i64 c) s0 (by omega)
  have p2 := cell_set_off (o := 1) (v := .int .i64 c) o2 (by omega)
  have p3 := cell_set_off (o := 1) (v := .int .i64 c) o3 (by omega)
  have s2 := cell_set_same (v := .int .i64 s) p2
  have q0 := cell_set_off (o := 2) (v := .int .i64 s) p0 (by omega)
  have q1 := cell_set_off (o := 2) (v := .int .i64 s) s1 (by omega)
  have q3 := cell_set_off (o := 2) (v := .int .i64 s) p3 (by omega)
  refine ⟨?_, cell_set_off q0 (by omega), cell_set_off q1 (by omega), cell_set_off s2 (by omega), cell_set_same q3, fun o => ?_⟩
  · simpa [put4, World.setCell] using h.lt
  · unfold put4
    rw [World.frozen?_setCell, World.frozen?_setCell, World.frozen?_setCell, World.frozen?_setCell]
    exact h.fz o

set_option maxRecDepth 100000 in
theorem RowD.aside {w w' : World} {B base : Nat} {v : Value} {zs : List Dp} (h : RowD w base v zs) (hh : Hole B w w') (hne : v.ownBlock ≠ some B) : RowD w' base v zs :=
  World.ownsRow.kept (row := some B) h ⟨hh.os, hh.tape, hh.output, hh.size, fun k hk hn => hh.block k hk (fun e => hn (by rw [e]))⟩ (.inr hne)

set_option maxRecDepth 100000 in
set_option maxHeartbeats 16000000 in
theorem later_any (a : Option Addr) (n cap : Nat) (xs : List Dp) (d : Dp) (w : World) (hn : xs.length = n) (hm : n ≤ 1000000) (hi : IsDeps w a xs) :
    Calls Try.prog 31 #[.slice a n cap, depV d.k d.c d.s d.q] w fun e w' => ∃ v, e = .returned v ∧ RowD w' w.heap.size v (laterL xs d) ∧ Below w.heap.size w w' := by
  obtain ⟨dk, dc, ds, dq⟩ := d
  have HI := Lib.hid hi
  have HN := Lib.hid hn
  clear hi hn
  obtain ⟨i0, hi0, hx0⟩ := Option.map_eq_some_iff.1 infoDep
  simp only [Prod.mk.injEq] at hx0
  have HI0 := Lib.hid hi0
  have HX0 := Lib.hid hx0
  clear hi0 hx0
  have HB1 : Hid (Below w.heap.size w (w.alloc (.cells #[.int .i64 dk, .int .i64 dc, .int .i64 ds, .int .i64 dq] 36))) := (Below.refl _ _).alloc (Nat.le_refl _) _
  have hz1 : (w.alloc (.cells #[.int .i64 dk, .int .i64 dc, .int .i64 ds, .int .i64 dq] 36)).heap.size = w.heap.size + 1 := by simp
  have HD1 : Hid (DBox (w.alloc (.cells #[.int .i64 dk, .int .i64 dc, .int .i64 ds, .int .i64 dq] 36)) w.heap.size ⟨dk, dc, ds, dq⟩) := DBox.start w ⟨dk, dc, ds, dq⟩ 36
  have HB0 : Hid (Below w.heap.size w ((w.alloc (.cells #[.int .i64 dk, .int .i64 dc, .int .i64 ds, .int .i64 dq] 36)).alloc (.cells #[] 36))) := HB1.out.alloc (by simp) _
  have HD0 := Lib.hid (HD1.out.below ((Below.refl _ _).alloc (Nat.le_refl _) (.cells #[] 36)))
  have HR0 : Hid (RowD ((w.alloc (.cells #[.int .i64 dk, .int .i64 dc, .int .i64 ds, .int .i64 dq] 36)).alloc (.cells #[] 36)) (w.heap.size + 1) (.slice (some ⟨w.heap.size + 1, 0, none⟩) 0 0) []) := by
    have h := World.ownsRow_made (e := 36) (size := 4) (w.alloc (.cells #[.int .i64 dk, .int .i64 dc, .int .i64 ds, .int .i64 dq] 36)) #[] 0 (Nat.le_refl _) (by simp [maxLen]) (by simp)
    rw [hz1] at h
    exact Lib.hid h
  clear HB1 HD1 hz1
  unfold depV
  go_enter Try.func31, Try.ntmps31
  go_wp2
  generalize (w.alloc (.cells #[.int .i64 dk, .int .i64 dc, .int .i64 ds, .int .i64 dq] 36)).alloc (.cells #[] 36) = W0 at *
  go_loopw [5, 6, 7] (fun t pu i wr => ∃ (k : Nat) (v : Value) (zs : List Dp) (p : Bool), k ≤ n ∧ i = .int .i64 k ∧ v = t ∧ pu = .bool p ∧ zs.length ≤ k + 1 ∧ Hid (laterRun (xs.take k) ⟨dk, dc, ds, dq⟩ = (zs, p)) ∧ Hid (RowD wr (w.heap.size + 1) v zs) ∧ Hid (DBox wr w.heap.size ⟨dk, dc, ds, dq⟩) ∧ Hid (Below w.heap.size w wr)) (fun _ _ i _ => n - (intOf i).toNat)
  case atStart => exact ⟨0, _, [], false, Nat.zero_le _, rfl, rfl, rfl, by simp, rfl, HR0, HD0, HB0⟩
  case round =>
    clear HR0 HD0 HB0
    obtain ⟨k, v, zs, p, hk, rfl, rfl, rfl, hzl, HE, HR, HD, HB⟩ := hrel
    by_cases hk' : k < n
    · have hkx : k < xs.length := by rw [HN.out]; exact hk'
      have i1 : (0 : Int) ≤ (k : Int) := by omega
      have i2 : (k : Int) < (n : Int) := by omega
      obtain ⟨b, o, rfl, hz, e0, e1, e2, e3⟩ := HI.out.at HB.out hkx
      have HT := Lib.hid (laterRun_take xs ⟨dk, dc, ds, dq⟩ k hkx)
      have hlen := laterRun_len xs ⟨dk, dc, ds, dq⟩ (k + 1) hkx
      rw [HE.out] at HT
      generalize xs.getD k dz = x at *
      obtain ⟨yk, yc, ys, yq⟩ := x
      simp only at e0 e1 e2 e3 HT
      have HXB : Hid (Below wr.heap.size wr (wr.alloc (.cells #[.int .i64 yk, .int .i64 yc, .int .i64 ys, .int .i64 yq] 36))) := (Below.refl _ _).alloc (Nat.le_refl _) _
      have HXX : Hid (DBox (wr.alloc (.cells #[.int .i64 yk, .int .i64 yc, .int .i64 ys, .int .i64 yq] 36)) wr.heap.size ⟨yk, yc, ys, yq⟩) := DBox.start wr ⟨yk, yc, ys, yq⟩ 36
      have HRX := Lib.hid (HR.out.below HXB.out)
      have HDX := Lib.hid (HD.out.below HXB.out)
      have HBX := Lib.hid (below_step HB.out HB.out.size HXB.out)
      have hdl : w.heap.size < wr.heap.size := HD.out.lt
      have hobX : v.ownBlock ≠ some wr.heap.size := fun e => by have := (World.ownsRow.lt HR.out _ e).2; omega
      have d0 := HDX.out.c0
      have d1 := HDX.out.c1
      have d2 := HDX.out.c2
      have d3 := HDX.out.c3
      have x0 := HXX.out.c0
      have x1 := HXX.out.c1
      have x2 := HXX.out.c2
      have x3 := HXX.out.c3
      by_cases hkey : yk = dk
      · subst hkey
        have hnl : ¬ yk < yk := by omega
        go_wp2_with fail
        generalize (wr.alloc (.cells #[.int .i64 yk, .int .i64 yc, .int .i64 ys, .int .i64 yq] 36)) = V1 at *
        refine (specTagCmp_any _ _ _ _ _ _ _).mono ?_
        rintro e w2 ⟨rfl, hb⟩
        have HR2 := Lib.hid (HRX.out.below hb)
        have HD2 := Lib.hid (HDX.out.below hb)
        have HX2 := Lib.hid (HXX.out.below hb)
        have HB2 := Lib.hid (below_step HBX.out HBX.out.size hb)
        clear hb HRX HDX HXX HBX d0 d1 d2 d3 x0 x1 x2 x3 e0 e1 e2 e3
        have d0 := HD2.out.c0
        have d1 := HD2.out.c1
        have d2 := HD2.out.c2
        have d3 := HD2.out.c3
        have x0 := HX2.out.c0
        have x1 := HX2.out.c1
        have x2 := HX2.out.c2
        have x3 := HX2.out.c3
        have xf := HX2.out.fz
        have hsz2 : w.heap.size + 1 ≤ w2.heap.size := HD2.out.lt
        by_cases hlt : tcmp yc ys yq dc ds dq < 0
        · have HE2 : Hid (laterRun (xs.take (k + 1)) ⟨yk, dc, ds, dq⟩ = (zs ++ [⟨yk, dc, ds, dq⟩], true)) := by
            rw [HT.out]
            unfold laterStep lastD
            simp [hlt, Hid]
          have hl2 : (zs ++ [(⟨yk, dc, ds, dq⟩ : Dp)]).length ≤ k + 1 + 1 := by
            rw [HE2.out] at hlen
            simp at hlen ⊢
            omega
          generalize tcmp yc ys yq dc ds dq = tc at *
          have HH3 : Hid (Hole wr.heap.size w2 (put4 w2 wr.heap.size yk dc ds dq)) := hole_put4 (Hole.refl _ _) yk dc ds dq
          have HX3 : Hid (DBox (put4 w2 wr.heap.size yk dc ds dq) wr.heap.size ⟨yk, dc, ds, dq⟩) := dbox_put4 HX2.out yk dc ds dq
          have HR3 : Hid (RowD (put4 w2 wr.heap.size yk dc ds dq) (w.heap.size + 1) v zs) := HR2.out.aside HH3.out hobX
          have HD3 : Hid (DBox (put4 w2 wr.heap.size yk dc ds dq) w.heap.size ⟨yk, dc, ds, dq⟩) := HD2.out.of_block HH3.out.size (HH3.out.block _ HD2.out.lt (by omega))
          have HB3 : Hid (Below w.heap.size w (put4 w2 wr.heap.size yk dc ds dq)) := Hole.below HB2.out HH3.out (by omega) HB2.out.size
          go_wp2_with (at_builtin; refine Hid.out ?_)
          refine Lib.hid ?_
          have hP : (((w2.setCell ⟨wr.heap.size, 0, none⟩ (.int .i64 yk)).setCell ⟨wr.heap.size, 1, none⟩ (.int .i64 dc)).setCell ⟨wr.heap.size, 2, none⟩ (.int .i64 ds)).setCell ⟨wr.heap.size, 3, none⟩ (.int .i64 dq) = put4 w2 wr.heap.size yk dc ds dq := rfl
          rw [hP]
          clear hP
          have hs3 : (put4 w2 wr.heap.size yk dc ds dq).heap.size = w2.heap.size := by simp [put4, World.setCell]
          generalize put4 w2 wr.heap.size yk dc ds dq = w3 at *
          rw [← hs3]
          clear hs3
          clear HR2 HD2 HX2 HB2 HH3
          have u0 := HX3.out.c0
          have u1 := HX3.out.c1
          have u2 := HX3.out.c2
          have u3 := HX3.out.c3
          have v0 := HD3.out.c0
          have HBA5 : Hid (Below w3.heap.size w3 (w3.alloc (.cells #[.int .i64 yk, .int .i64 dc, .int .i64 ds, .int .i64 dq] 36))) := (Below.refl _ _).alloc (Nat.le_refl _) _
          have HRA5 := Lib.hid (HR3.out.below HBA5.out)
          have HDA5 := Lib.hid (HD3.out.below HBA5.out)
          have HB05 := Lib.hid (below_step HB3.out HB3.out.size HBA5.out)
          have hsz5 : w.heap.size + 1 ≤ w3.heap.size := HD3.out.lt
          go_wp2_with (at_builtin; refine wpList_append_lies _ (by rfl) _ _ _ (by rfl) (w.heap.size + 1) 36 i0 (depV 0 0 0 0) 4 32 Try.underlying27 HI0.out HX0.out.1 HX0.out.2.1 HX0.out.2.2 (by rfl) (by omega) v (zs).length ((zs).flatMap dpVals) (by rfl) HRA5.out ⟨w3.heap.size, 0, none⟩ 1 1 (dpVals ⟨yk, dc, ds, dq⟩) (by rfl) (by rfl) (oneD_cells w3 _ ⟨yk, dc, ds, dq⟩) (dp_one _) (by omega) (by unfold maxLen; (try simp); omega) (by (try simp); omega) (by (try simp); omega) _ rfl ?_; intro g5 cp5 w5 hown5 hgrow5 hg5 _; refine Hid.out ?_)
          refine Lib.hid ?_
          have HB5 : Hid (Below w.heap.size w w5) := HB05.out.grown hgrow5 HB05.out.size fun j hj => by have := (World.ownsRow.lt HRA5.out j hj).1; omega
          have HR5 : Hid (RowD w5 (w.heap.size + 1) (.slice (some ⟨g5, 0, none⟩) ((zs).length + 1) cp5) (zs ++ [⟨yk, dc, ds, dq⟩])) := by
            refine Lib.hid ?_
            unfold RowD
            rw [List.length_append, List.flatMap_append]
            simpa using hown5
          have hob5 : (v).ownBlock ≠ some w.heap.size := fun e => by have := (World.ownsRow.lt HRA5.out _ e).1; omega
          have HD5 : Hid (DBox w5 w.heap.size ⟨yk, dc, ds, dq⟩) := HDA5.out.of_block hgrow5.size (hgrow5.block _ HDA5.out.lt (fun e => hob5 e.symm))
          go_wp2
          exact ⟨⟨k + 1, _, _, true, by omega, by go_num, rfl, rfl, hl2, HE2, HR5, HD5, HB5⟩, by simp [intOf]; omega⟩
        · have HE2 : Hid (laterRun (xs.take (k + 1)) ⟨yk, dc, ds, dq⟩ = (zs ++ [⟨yk, yc, ys, yq⟩], true)) := by
            rw [HT.out]
            unfold laterStep lastD
            simp [hlt, Hid]
          have hl2 : (zs ++ [(⟨yk, yc, ys, yq⟩ : Dp)]).length ≤ k + 1 + 1 := by
            rw [HE2.out] at hlen
            simp at hlen ⊢
            omega
          generalize tcmp yc ys yq dc ds dq = tc at *
          have HBA5 : Hid (Below w2.heap.size w2 (w2.alloc (.cells #[.int .i64 yk, .int .i64 yc, .int .i64 ys, .int .i64 yq] 36))) := (Below.refl _ _).alloc (Nat.le_refl _) _
          have HRA5 := Lib.hid (HR2.out.below HBA5.out)
          have HDA5 := Lib.hid (HD2.out.below HBA5.out)
          have HB05 := Lib.hid (below_step HB2.out HB2.out.size HBA5.out)
          have hsz5 : w.heap.size + 1 ≤ w2.heap.size := HD2.out.lt
          go_wp2_with (at_builtin; refine wpList_append_lies _ (by rfl) _ _ _ (by rfl) (w.heap.size + 1) 36 i0 (depV 0 0 0 0) 4 32 Try.underlying27 HI0.out HX0.out.1 HX0.out.2.1 HX0.out.2.2 (by rfl) (by omega) v (zs).length ((zs).flatMap dpVals) (by rfl) HRA5.out ⟨w2.heap.size, 0, none⟩ 1 1 (dpVals ⟨yk, yc, ys, yq⟩) (by rfl) (by rfl) (oneD_cells w2 _ ⟨yk, yc, ys, yq⟩) (dp_one _) (by omega) (by unfold maxLen; (try simp); omega) (by (try simp); omega) (by (try simp); omega) _ rfl ?_; intro g5 cp5 w5 hown5 hgrow5 hg5 _; refine Hid.out ?_)
          refine Lib.hid ?_
          have HB5 : Hid (Below w.heap.size w w5) := HB05.out.grown hgrow5 HB05.out.size fun j hj => by have := (World.ownsRow.lt HRA5.out j hj).1; omega
          have HR5 : Hid (RowD w5 (w.heap.size + 1) (.slice (some ⟨g5, 0, none⟩) ((zs).length + 1) cp5) (zs ++ [⟨yk, yc, ys, yq⟩])) := by
            refine Lib.hid ?_
            unfold RowD
            rw [List.length_append, List.flatMap_append]
            simpa using hown5
          have hob5 : (v).ownBlock ≠ some w.heap.size := fun e => by have := (World.ownsRow.lt HRA5.out _ e).1; omega
          have HD5 : Hid (DBox w5 w.heap.size ⟨yk, dc, ds, dq⟩) := HDA5.out.of_block hgrow5.size (hgrow5.block _ HDA5.out.lt (fun e => hob5 e.symm))
          go_wp2
          exact ⟨⟨k + 1, _, _, true, by omega, by go_num, rfl, rfl, hl2, HE2, HR5, HD5, HB5⟩, by simp [intOf]; omega⟩
      · by_cases hb1 : dk < yk ∧ p = false
        · obtain ⟨hdy, rfl⟩ := hb1
          have HE2 : Hid (laterRun (xs.take (k + 1)) ⟨dk, dc, ds, dq⟩ = (zs ++ [⟨dk, dc, ds, dq⟩] ++ [⟨yk, yc, ys, yq⟩], true)) := by
            rw [HT.out]
            unfold laterStep
            simp [hkey, hdy, Hid]
          have hl2 : (zs ++ [(⟨dk, dc, ds, dq⟩ : Dp)] ++ [(⟨yk, yc, ys, yq⟩ : Dp)]).length ≤ k + 1 + 1 := by
            rw [HE2.out] at hlen
            simp at hlen ⊢
            omega
          go_wp2_with (at_builtin; refine Hid.out ?_)
          refine Lib.hid ?_
          have hs1 : (wr.alloc (.cells #[.int .i64 yk, .int .i64 yc, .int .i64 ys, .int .i64 yq] 36)).heap.size = wr.heap.size + 1 := by simp
          generalize (wr.alloc (.cells #[.int .i64 yk, .int .i64 yc, .int .i64 ys, .int .i64 yq] 36)) = V1 at *
          rw [← hs1]
          clear hs1
          have HBA4 : Hid (Below V1.heap.size V1 (V1.alloc (.cells #[.int .i64 dk, .int .i64 dc, .int .i64 ds, .int .i64 dq] 36))) := (Below.refl _ _).alloc (Nat.le_refl _) _
          have HRA4 := Lib.hid (HRX.out.below HBA4.out)
          have HDA4 := Lib.hid (HDX.out.below HBA4.out)
          have HB04 := Lib.hid (below_step HBX.out HBX.out.size HBA4.out)
          have hsz4 : w.heap.size + 1 ≤ V1.heap.size := HDX.out.lt
          go_wp2_with (at_builtin; refine wpList_append_lies _ (by rfl) _ _ _ (by rfl) (w.heap.size + 1) 36 i0 (depV 0 0 0 0) 4 32 Try.underlying27 HI0.out HX0.out.1 HX0.out.2.1 HX0.out.2.2 (by rfl) (by omega) v (zs).length ((zs).flatMap dpVals) (by rfl) HRA4.out ⟨V1.heap.size, 0, none⟩ 1 1 (dpVals ⟨dk, dc, ds, dq⟩) (by rfl) (by rfl) (oneD_cells V1 _ ⟨dk, dc, ds, dq⟩) (dp_one _) (by omega) (by unfold maxLen; (try simp); omega) (by (try simp); omega) (by (try simp); omega) _ rfl ?_; intro g4 cp4 w4 hown4 hgrow4 hg4 _; refine Hid.out ?_)
          refine Lib.hid ?_
          have HB4 : Hid (Below w.heap.size w w4) := HB04.out.grown hgrow4 HB04.out.size fun j hj => by have := (World.ownsRow.lt HRA4.out j hj).1; omega
          have HR4 : Hid (RowD w4 (w.heap.size + 1) (.slice (some ⟨g4, 0, none⟩) ((zs).length + 1) cp4) (zs ++ [⟨dk, dc, ds, dq⟩])) := by
            refine Lib.hid ?_
            unfold RowD
            rw [List.length_append, List.flatMap_append]
            simpa using hown4
          have hob4 : (v).ownBlock ≠ some w.heap.size := fun e => by have := (World.ownsRow.lt HRA4.out _ e).1; omega
          have HD4 : Hid (DBox w4 w.heap.size ⟨dk, dc, ds, dq⟩) := HDA4.out.of_block hgrow4.size (hgrow4.block _ HDA4.out.lt (fun e => hob4 e.symm))
          have HX4 : Hid (DBox w4 wr.heap.size ⟨yk, yc, ys, yq⟩) := (HXX.out.below HBA4.out).of_block hgrow4.size (hgrow4.block _ (HXX.out.below HBA4.out).lt (fun e => hobX e.symm))
          clear d0 d1 d2 d3 x0 x1 x2 x3 hown4 hgrow4 HRA4 HDA4 HBA4 HB04
          have x0 := HX4.out.c0
          have x1 := HX4.out.c1
          have x2 := HX4.out.c2
          have x3 := HX4.out.c3
          have HBA5 : Hid (Below w4.heap.size w4 (w4.alloc (.cells #[.int .i64 yk, .int .i64 yc, .int .i64 ys, .int .i64 yq] 36))) := (Below.refl _ _).alloc (Nat.le_refl _) _
          have HRA5 := Lib.hid (HR4.out.below HBA5.out)
          have HDA5 := Lib.hid (HD4.out.below HBA5.out)
          have HB05 := Lib.hid (below_step HB4.out HB4.out.size HBA5.out)
          have hsz5 : w.heap.size + 1 ≤ w4.heap.size := HD4.out.lt
          go_wp2_with (at_builtin; refine wpList_append_lies _ (by rfl) _ _ _ (by rfl) (w.heap.size + 1) 36 i0 (depV 0 0 0 0) 4 32 Try.underlying27 HI0.out HX0.out.1 HX0.out.2.1 HX0.out.2.2 (by rfl) (by omega) (Value.slice (some ⟨g4, 0, none⟩) (zs.length + 1) cp4) (zs ++ [(⟨dk, dc, ds, dq⟩ : Dp)]).length ((zs ++ [(⟨dk, dc, ds, dq⟩ : Dp)]).flatMap dpVals) (by rfl) HRA5.out ⟨w4.heap.size, 0, none⟩ 1 1 (dpVals ⟨yk, yc, ys, yq⟩) (by rfl) (by rfl) (oneD_cells w4 _ ⟨yk, yc, ys, yq⟩) (dp_one _) (by omega) (by unfold maxLen; (try simp); omega) (by (try simp); omega) (by (try simp); omega) _ rfl ?_; intro g5 cp5 w5 hown5 hgrow5 hg5 _; refine Hid.out ?_)
          refine Lib.hid ?_
          have HB5 : Hid (Below w.heap.size w w5) := HB05.out.grown hgrow5 HB05.out.size fun j hj => by have := (World.ownsRow.lt HRA5.out j hj).1; omega
          have HR5 : Hid (RowD w5 (w.heap.size + 1) (.slice (some ⟨g5, 0, none⟩) ((zs ++ [(⟨dk, dc, ds, dq⟩ : Dp)]).length + 1) cp5) (zs ++ [(⟨dk, dc, ds, dq⟩ : Dp)] ++ [⟨yk, yc, ys, yq⟩])) := by
            refine Lib.hid ?_
            unfold RowD
            rw [List.length_append, List.flatMap_append]
            simpa using hown5
          have hob5 : ((Value.slice (some ⟨g4, 0, none⟩) (zs.length + 1) cp4)).ownBlock ≠ some w.heap.size := fun e => by have := (World.ownsRow.lt HRA5.out _ e).1; omega
          have HD5 : Hid (DBox w5 w.heap.size ⟨dk, dc, ds, dq⟩) := HDA5.out.of_block hgrow5.size (hgrow5.block _ HDA5.out.lt (fun e => hob5 e.symm))
          have ez : (zs ++ [(⟨dk, dc, ds, dq⟩ : Dp)]).length + 1 = zs.length + 1 + 1 := by simp
          rw [ez] at HR5
          go_wp2
          exact ⟨⟨k + 1, _, _, true, by omega, by go_num, rfl, rfl, hl2, HE2, HR5, HD5, HB5⟩, by simp [intOf]; omega⟩
        · have HE2 : Hid (laterRun (xs.take (k + 1)) ⟨dk, dc, ds, dq⟩ = (zs ++ [⟨yk, yc, ys, yq⟩], p)) := by
            rw [HT.out]
            unfold laterStep
            simp only [if_neg hkey]
            rw [if_neg hb1]
            exact Lib.hid rfl
          have hl2 : (zs ++ [(⟨yk, yc, ys, yq⟩ : Dp)]).length ≤ k + 1 + 1 := by
            simp
            omega
          by_cases hdy : dk < yk
          · have hpt : p = true := by
              cases p
              · exact absurd ⟨hdy, rfl⟩ hb1
              · rfl
            subst hpt
            clear hb1
            go_wp2_with (at_builtin; refine Hid.out ?_)
            refine Lib.hid ?_
            have hs1 : (wr.alloc (.cells #[.int .i64 yk, .int .i64 yc, .int .i64 ys, .int .i64 yq] 36)).heap.size = wr.heap.size + 1 := by simp
            generalize (wr.alloc (.cells #[.int .i64 yk, .int .i64 yc, .int .i64 ys, .int .i64 yq] 36)) = V1 at *
            rw [← hs1]
            clear hs1
            have HBA5 : Hid (Below V1.heap.size V1 (V1.alloc (.cells #[.int .i64 yk, .int .i64 yc, .int .i64 ys, .int .i64 yq] 36))) := (Below.refl _ _).alloc (Nat.le_refl _) _
            have HRA5 := Lib.hid (HRX.out.below HBA5.out)
            have HDA5 := Lib.hid (HDX.out.below HBA5.out)
            have HB05 := Lib.hid (below_step HBX.out HBX.out.size HBA5.out)
            have hsz5 : w.heap.size + 1 ≤ V1.heap.size := HDX.out.lt
            go_wp2_with (at_builtin; refine wpList_append_lies _ (by rfl) _ _ _ (by rfl) (w.heap.size + 1) 36 i0 (depV 0 0 0 0) 4 32 Try.underlying27 HI0.out HX0.out.1 HX0.out.2.1 HX0.out.2.2 (by rfl) (by omega) v (zs).length ((zs).flatMap dpVals) (by rfl) HRA5.out ⟨V1.heap.size, 0, none⟩ 1 1 (dpVals ⟨yk, yc, ys, yq⟩) (by rfl) (by rfl) (oneD_cells V1 _ ⟨yk, yc, ys, yq⟩) (dp_one _) (by omega) (by unfold maxLen; (try simp); omega) (by (try simp); omega) (by (try simp); omega) _ rfl ?_; intro g5 cp5 w5 hown5 hgrow5 hg5 _; refine Hid.out ?_)
            refine Lib.hid ?_
            have HB5 : Hid (Below w.heap.size w w5) := HB05.out.grown hgrow5 HB05.out.size fun j hj => by have := (World.ownsRow.lt HRA5.out j hj).1; omega
            have HR5 : Hid (RowD w5 (w.heap.size + 1) (.slice (some ⟨g5, 0, none⟩) ((zs).length + 1) cp5) (zs ++ [⟨yk, yc, ys, yq⟩])) := by
              refine Lib.hid ?_
              unfold RowD
              rw [List.length_append, List.flatMap_append]
              simpa using hown5
            have hob5 : (v).ownBlock ≠ some w.heap.size := fun e => by have := (World.ownsRow.lt HRA5.out _ e).1; omega
            have HD5 : Hid (DBox w5 w.heap.size ⟨dk, dc, ds, dq⟩) := HDA5.out.of_block hgrow5.size (hgrow5.block _ HDA5.out.lt (fun e => hob5 e.symm))
            go_wp2
            exact ⟨⟨k + 1, _, _, true, by omega, by go_num, rfl, rfl, hl2, HE2, HR5, HD5, HB5⟩, by simp [intOf]; omega⟩
          · clear hb1
            go_wp2_with (at_builtin; refine Hid.out ?_)
            refine Lib.hid ?_
            have hs1 : (wr.alloc (.cells #[.int .i64 yk, .int .i64 yc, .int .i64 ys, .int .i64 yq] 36)).heap.size = wr.heap.size + 1 := by simp
            generalize (wr.alloc (.cells #[.int .i64 yk, .int .i64 yc, .int .i64 ys, .int .i64 yq] 36)) = V1 at *
            rw [← hs1]
            clear hs1
            have HBA5 : Hid (Below V1.heap.size V1 (V1.alloc (.cells #[.int .i64 yk, .int .i64 yc, .int .i64 ys, .int .i64 yq] 36))) := (Below.refl _ _).alloc (Nat.le_refl _) _
            have HRA5 := Lib.hid (HRX.out.below HBA5.out)
            have HDA5 := Lib.hid (HDX.out.below HBA5.out)
            have HB05 := Lib.hid (below_step HBX.out HBX.out.size HBA5.out)
            have hsz5 : w.heap.size + 1 ≤ V1.heap.size := HDX.out.lt
            go_wp2_with (at_builtin; refine wpList_append_lies _ (by rfl) _ _ _ (by rfl) (w.heap.size + 1) 36 i0 (depV 0 0 0 0) 4 32 Try.underlying27 HI0.out HX0.out.1 HX0.out.2.1 HX0.out.2.2 (by rfl) (by omega) v (zs).length ((zs).flatMap dpVals) (by rfl) HRA5.out ⟨V1.heap.size, 0, none⟩ 1 1 (dpVals ⟨yk, yc, ys, yq⟩) (by rfl) (by rfl) (oneD_cells V1 _ ⟨yk, yc, ys, yq⟩) (dp_one _) (by omega) (by unfold maxLen; (try simp); omega) (by (try simp); omega) (by (try simp); omega) _ rfl ?_; intro g5 cp5 w5 hown5 hgrow5 hg5 _; refine Hid.out ?_)
            refine Lib.hid ?_
            have HB5 : Hid (Below w.heap.size w w5) := HB05.out.grown hgrow5 HB05.out.size fun j hj => by have := (World.ownsRow.lt HRA5.out j hj).1; omega
            have HR5 : Hid (RowD w5 (w.heap.size + 1) (.slice (some ⟨g5, 0, none⟩) ((zs).length + 1) cp5) (zs ++ [⟨yk, yc, ys, yq⟩])) := by
              refine Lib.hid ?_
              unfold RowD
              rw [List.length_append, List.flatMap_append]
              simpa using hown5
            have hob5 : (v).ownBlock ≠ some w.heap.size := fun e => by have := (World.ownsRow.lt HRA5.out _ e).1; omega
            have HD5 : Hid (DBox w5 w.heap.size ⟨dk, dc, ds, dq⟩) := HDA5.out.of_block hgrow5.size (hgrow5.block _ HDA5.out.lt (fun e => hob5 e.symm))
            go_wp2
            exact ⟨⟨k + 1, _, _, p, by omega, by go_num, rfl, rfl, hl2, HE2, HR5, HD5, HB5⟩, by simp [intOf]; omega⟩
    · have hkn : k = n := by omega
      subst hkn
      have HF : Hid (laterRun xs ⟨dk, dc, ds, dq⟩ = (zs, p)) := by
        have h := HE.out
        rw [List.take_of_length_le (by rw [HN.out]; exact Nat.le_refl _)] at h
        exact Lib.hid h
      have d0 := HD.out.c0
      have d1 := HD.out.c1
      have d2 := HD.out.c2
      have d3 := HD.out.c3
      cases p
      · have HL : Hid (laterL xs ⟨dk, dc, ds, dq⟩ = zs ++ [⟨dk, dc, ds, dq⟩]) := by
          unfold laterL
          rw [HF.out]
          simp [Hid]
        have HBA5 : Hid (Below wr.heap.size wr (wr.alloc (.cells #[.int .i64 dk, .int .i64 dc, .int .i64 ds, .int .i64 dq] 36))) := (Below.refl _ _).alloc (Nat.le_refl _) _
        have HRA5 := Lib.hid (HR.out.below HBA5.out)
        have HDA5 := Lib.hid (HD.out.below HBA5.out)
        have HB05 := Lib.hid (below_step HB.out HB.out.size HBA5.out)
        have hsz5 : w.heap.size + 1 ≤ wr.heap.size := HD.out.lt
        go_wp2_with (at_builtin; refine wpList_append_lies _ (by rfl) _ _ _ (by rfl) (w.heap.size + 1) 36 i0 (depV 0 0 0 0) 4 32 Try.underlying27 HI0.out HX0.out.1 HX0.out.2.1 HX0.out.2.2 (by rfl) (by omega) v (zs).length ((zs).flatMap dpVals) (by rfl) HRA5.out ⟨wr.heap.size, 0, none⟩ 1 1 (dpVals ⟨dk, dc, ds, dq⟩) (by rfl) (by rfl) (oneD_cells wr _ ⟨dk, dc, ds, dq⟩) (dp_one _) (by omega) (by unfold maxLen; (try simp); omega) (by (try simp); omega) (by (try simp); omega) _ rfl ?_; intro g5 cp5 w5 hown5 hgrow5 hg5 _; refine Hid.out ?_)
        refine Lib.hid ?_
        have HB5 : Hid (Below w.heap.size w w5) := HB05.out.grown hgrow5 HB05.out.size fun j hj => by have := (World.ownsRow.lt HRA5.out j hj).1; omega
        have HR5 : Hid (RowD w5 (w.heap.size + 1) (.slice (some ⟨g5, 0, none⟩) ((zs).length + 1) cp5) (zs ++ [⟨dk, dc, ds, dq⟩])) := by
          refine Lib.hid ?_
          unfold RowD
          rw [List.length_append, List.flatMap_append]
          simpa using hown5
        have hob5 : (v).ownBlock ≠ some w.heap.size := fun e => by have := (World.ownsRow.lt HRA5.out _ e).1; omega
        have HD5 : Hid (DBox w5 w.heap.size ⟨dk, dc, ds, dq⟩) := HDA5.out.of_block hgrow5.size (hgrow5.block _ HDA5.out.lt (fun e => hob5 e.symm))
        rw [← HL.out] at HR5
        have HRF := Lib.hid (HR5.out.mono (Nat.le_succ _))
        go_wp2
        go_ret
        exact ⟨_, rfl, HRF.out, HB5.out⟩
      · have HL : Hid (laterL xs ⟨dk, dc, ds, dq⟩ = zs) := by
          unfold laterL
          rw [HF.out]
          simp [Hid]
        rw [← HL.out] at HR
        have HRF := Lib.hid (HR.out.mono (Nat.le_succ _))
        go_wp2
        go_ret
        exact ⟨_, rfl, HRF.out, HB.out⟩

end Go.Proofs.Ytbbmpfkijhhemaa

/- The contracts of spec.l07Bit and spec.Because. -/
namespace Go.Proofs.Ytbbmpfkijhhemaa
open Go.ChangeShapes Go.WideShapes Go.ChangeAt Go.RowKit Go.Joins
attribute [local go_sem ↓] Go.wp_at_zero Go.wp_at_succ

/-- Whether this bit is set. -/
def bitB (mask : Int) (k : Int) : Bool := decide (mask / 2 ^ k.toNat % 2 = 1)

def headD (x : Wr) : Dp := ⟨x.k, x.c, x.s, x.q⟩

def becRun (mask : Int) (out : List Dp) (x : Wr) : List Dp := if bitB mask x.k = true then x.xs.foldl laterL (laterL out (headD x)) else out

def becL (ws : List Wr) (mask : Int) : List Dp := ws.foldl (becRun mask) []

def becB (ws : List Wr) (mask : Int) : List Dp := if mapOkB ws = true ∧ 0 ≤ mask then becL ws mask else []

set_option maxRecDepth 100000 in
theorem laterL_len (xs : List Dp) (d : Dp) : (laterL xs d).length ≤ xs.length + 1 := by
  have h := laterRun_len xs d xs.length (Nat.le_refl _)
  rw [List.take_length] at h
  unfold laterL
  split
  · rename_i hp
    rw [if_pos hp] at h
    omega
  · rename_i hp
    rw [if_neg hp] at h
    simp
    omega

set_option maxRecDepth 100000 in
theorem becL_take (ws : List Wr) (mask : Int) (k : Nat) (h : k < ws.length) : becL (ws.take (k + 1)) mask = becRun mask (becL (ws.take k) mask) (ws.getD k wz) := by
  unfold becL
  have e : ws.take (k + 1) = ws.take k ++ [ws.getD k wz] := by
    rw [List.take_add_one, List.getElem?_eq_getElem h]
    simp [List.getD, h]
  rw [e, List.foldl_append]
  rfl

set_option maxRecDepth 100000 in
theorem laterF_take (xs out : List Dp) (k : Nat) (h : k < xs.length) : (xs.take (k + 1)).foldl laterL out = laterL ((xs.take k).foldl laterL out) (xs.getD k dz) := by
  have e : xs.take (k + 1) = xs.take k ++ [xs.getD k dz] := by
    rw [List.take_add_one, List.getElem?_eq_getElem h]
    simp [List.getD, h]
  rw [e, List.foldl_append]
  rfl

set_option maxRecDepth 100000 in
set_option maxHeartbeats 1000000 in
theorem bit7_any (mask : Int) (k : Nat) (w : World) (h0 : 0 ≤ mask) (_h1 : mask ≤ 9223372036854775807) (hk : k ≤ 5) :
    Calls Try.prog 30 #[.int .i64 mask, .int .i64 (k : Int)] w fun e w' => e = .returned (.bool (bitB mask (k : Int))) ∧ w' = w := by
  have hp : (0 : Int) < 2 ^ k := Int.pow_pos (by omega)
  have hd0 : 0 ≤ mask / 2 ^ k := Int.ediv_nonneg h0 (by omega)
  have hd1 : mask / 2 ^ k ≤ mask := Int.ediv_le_self _ h0
  have hm : (mask / 2 ^ k).tmod 2 = mask / 2 ^ k % 2 := Int.tmod_eq_emod_of_nonneg hd0
  have k0 : (0 : Int) ≤ (k : Int) := by omega
  have hb : bitB mask (k : Int) = decide (mask / 2 ^ k % 2 = 1) := rfl
  rw [hb]
  clear hb
  go_enter Try.func30, Try.ntmps30
  go_wp2
  go_ret
  exact ⟨rfl, rfl⟩

end Go.Proofs.Ytbbmpfkijhhemaa

/- What the latest writes of each key cover, with no program in sight: striking out the latest of a key while it lacks something ends at what fits. -/
namespace Go.Proofs.Ytbbmpfkijhhemaa
open Go.ChangeShapes Go.WideShapes Go.ChangeAt Go.RowKit Go.Joins

def wrd (x : Wr) : Int := x.c * 4096 + x.s * 1024 + x.q

def wrdD (d : Dp) : Int := d.c * 4096 + d.s * 1024 + d.q

def headW : List Wr → Int
  | [] => 0
  | x :: _ => wrd x

/-- What the cover c has. -/
def chas (c : Nat → Int) (ds : List Dp) : Bool := ds.all fun d => decide (wrdD d ≤ c d.k.toNat)

def tops (L : Nat → List Wr) (k : Nat) : Int := headW (L k)

def strip (x : Wr) : Wr := ⟨x.k, x.c, x.s, x.q, 0, false, []⟩

theorem okW_parts {x : Wr} (h : okW x = true) : (0 ≤ x.k ∧ x.k ≤ 5) ∧ tagOkB x.c x.s x.q = true ∧ depsOkB x.xs = true := by
  have hk := okW_key h
  unfold okW writeOkB at h
  simp only [Bool.and_eq_true] at h
  exact ⟨hk, h.2.1, h.2.2.2.1⟩

theorem depsOk_each {xs : List Dp} (h : depsOkB xs = true) {d : Dp} (hd : d ∈ xs) : (0 ≤ d.k ∧ d.k ≤ 5) ∧ tagOkB d.c d.s d.q = true := by
  unfold depsOkB at h
  rw [List.all_eq_true] at h
  obtain ⟨i, hi, rfl⟩ := List.mem_iff_getElem.1 hd
  have h1 := h i (List.mem_range.2 hi)
  have e : xs.getD i dz = xs[i] := by simp [List.getD, hi]
  unfold depGood at h1
  rw [e] at h1
  simp only [Bool.and_eq_true, btw, decide_eq_true_eq] at h1
  exact ⟨by omega, by simp_all⟩

theorem chas_iff (c : Nat → Int) (ds : List Dp) : chas c ds = true ↔ ∀ d ∈ ds, wrdD d ≤ c d.k.toNat := by
  unfold chas
  rw [List.all_eq_true]
  exact ⟨fun h d hd => by simpa using h d hd, fun h d hd => by simpa using h d hd⟩

theorem findW_mem_rise : ∀ {ws : List Wr}, Rise ws → ∀ {u : Wr}, u ∈ ws → findW ws u.k = some u
  | [], _, _, h => by simp at h
  | x :: r, hr, u, h => by
    rw [findW_cons]
    have hr' := List.pairwise_cons.1 hr
    rcases List.mem_cons.1 h with rfl | h
    · rw [if_pos rfl]
    · have := hr'.1 u h
      rw [if_neg (by omega)]
      exact findW_mem_rise hr'.2 h

theorem has_of_mem {us : List Wr} (hr : Rise us) {u : Wr} (hu : u ∈ us) {c s q : Int} (h : 0 ≤ tcmp u.c u.s u.q c s q) : hasB us u.k c s q = true := by
  unfold hasB
  rw [findW_mem_rise hr hu]
  simpa using h

theorem mem_of_has {us : List Wr} {key c s q : Int} (h : hasB us key c s q = true) : ∃ u ∈ us, u.k = key ∧ 0 ≤ tcmp u.c u.s u.q c s q := by
  unfold hasB at h
  cases hf : findW us key with
  | none => rw [hf] at h; cases h
  | some u =>
    rw [hf] at h
    exact ⟨u, findW_mem hf, findW_key hf, by simpa using h⟩

/-- Of each key some of the writes that came, the latest first: all that m has, and all that fits. -/
structure Rows6 (us vs : List Wr) (L : Nat → List Wr) : Prop where
  src : ∀ k x, x ∈ L k → x.k = (k : Int) ∧ tagOkB x.c x.s x.q = true ∧ ((x.xs = [] ∧ ∃ u ∈ us, u.k = x.k ∧ u.c = x.c ∧ u.s = x.s ∧ u.q = x.q) ∨ x ∈ vs)
  olds : ∀ u ∈ us, ∃ x ∈ L u.k.toNat, x.xs = [] ∧ x.c = u.c ∧ x.s = u.s ∧ x.q = u.q
  news : ∀ j, j < vs.length → fixS us vs j = true → vs.getD j wz ∈ L (vs.getD j wz).k.toNat
  down : ∀ k, (L k).Pairwise fun x y => wrd y ≤ wrd x

theorem getV_mem {vs : List Wr} {j : Nat} (h : j < vs.length) : vs.getD j wz ∈ vs := by
  have e : vs.getD j wz = vs[j] := by simp [List.getD, h]
  rw [e]
  exact List.getElem_mem h

theorem Rows6.top {us vs : List Wr} {L : Nat → List Wr} (h : Rows6 us vs L) {k : Nat} {x : Wr} (hx : x ∈ L k) : wrd x ≤ tops L k := by
  unfold tops
  have hd := h.down k
  cases hl : L k with
  | nil => rw [hl] at hx; simp at hx
  | cons y r =>
    rw [hl] at hx hd
    show wrd x ≤ wrd y
    rcases List.mem_cons.1 hx with rfl | hx
    · exact Int.le_refl _
    · exact (List.pairwise_cons.1 hd).1 x hx

theorem word_le {x : Wr} {d : Dp} (hx : tagOkB x.c x.s x.q = true) (hd : tagOkB d.c d.s d.q = true) : wrdD d ≤ wrd x ↔ 0 ≤ tcmp x.c x.s x.q d.c d.s d.q := word_order hx hd

/-- What all that fits covers is covered by the tops. -/
theorem Rows6.up {us vs : List Wr} {L : Nat → List Wr} (hr : Rise us) (hu : ∀ x ∈ us, okW x = true) (hv : ∀ x ∈ vs, okW x = true) (h : Rows6 us vs L) {d : Dp} (hd : tagOkB d.c d.s d.q = true) (hc : hasB (allOf us vs (fixS us vs)) d.k d.c d.s d.q = true) : wrdD d ≤ tops L d.k.toNat := by
  unfold allOf at hc
  rw [has_allTo vs _ hr] at hc
  rcases hc with hc | ⟨j, hj, h1, h2, h3⟩
  · obtain ⟨u, hm, hk, ht⟩ := mem_of_has hc
    obtain ⟨x, hx, -, e1, e2, e3⟩ := h.olds u hm
    have hok := (okW_parts (hu u hm)).2.1
    rw [← hk]
    refine Int.le_trans ?_ (h.top hx)
    refine (word_le ?_ hd).2 ?_
    · rw [e1, e2, e3]; exact hok
    · rw [e1, e2, e3]; exact ht
  · have hm := h.news j hj h1
    have hok := (okW_parts (hv _ (getV_mem hj))).2.1
    rw [h2] at hm
    exact Int.le_trans ((word_le hok hd).2 h3) (h.top hm)

theorem Rows6.fits {us vs : List Wr} {L : Nat → List Wr} (hr : Rise us) (hu : ∀ x ∈ us, okW x = true) (hv : ∀ x ∈ vs, okW x = true) (h : Rows6 us vs L) {j : Nat} (hj : j < vs.length) (hf : fixS us vs j = true) : chas (tops L) (vs.getD j wz).xs = true := by
  rw [chas_iff]
  intro d hd
  have h1 := fix_fixed us vs j hj
  rw [hf] at h1
  unfold nextS at h1
  rw [Bool.and_eq_true] at h1
  exact h.up hr hu hv (depsOk_each (okW_parts (hv _ (getV_mem hj))).2.2 hd).2 ((cov_iff _ _).1 h1.2 d hd)

/-- The latest of a key, which lacks something, goes. -/
theorem Rows6.step {us vs : List Wr} {L : Nat → List Wr} (hr : Rise us) (hu : ∀ x ∈ us, okW x = true) (hv : ∀ x ∈ vs, okW x = true) (h : Rows6 us vs L) {k : Nat} {x : Wr} {t : List Wr} (hk : L k = x :: t) (hc : chas (tops L) x.xs = false) : Rows6 us vs (fun i => if i = k then t else L i) where
  src i y hy := by
    by_cases e : i = k
    · subst e
      simp only [if_true] at hy
      exact h.src i y (by rw [hk]; exact List.mem_cons_of_mem _ hy)
    · simp only [if_neg e] at hy
      exact h.src i y hy
  olds u hm := by
    obtain ⟨y, hy, e0, e1⟩ := h.olds u hm
    refine ⟨y, ?_, e0, e1⟩
    by_cases e : u.k.toNat = k
    · simp only [if_pos e]
      rw [e, hk] at hy
      rcases List.mem_cons.1 hy with rfl | hy
      · rw [e0] at hc
        simp [chas] at hc
      · exact hy
    · simp only [if_neg e]
      exact hy
  news j hj hf := by
    have hm := h.news j hj hf
    have hh := h.fits hr hu hv hj hf
    by_cases e : (vs.getD j wz).k.toNat = k
    · simp only [if_pos e]
      rw [e, hk] at hm
      rcases List.mem_cons.1 hm with hm | hm
      · rw [hm, hc] at hh
        cases hh
      · exact hm
    · simp only [if_neg e]
      exact hm
  down i := by
    by_cases e : i = k
    · subst e
      simp only [if_true]
      have := h.down i
      rw [hk] at this
      exact (List.pairwise_cons.1 this).2
    · simp only [if_neg e]
      exact h.down i

/-- Where no latest lacks anything, what the tops cover is what fits. -/
theorem Rows6.done {us vs : List Wr} {L : Nat → List Wr} (hr : Rise us) (hu : ∀ x ∈ us, okW x = true) (hv : ∀ x ∈ vs, okW x = true) (h : Rows6 us vs L) (hE : ∀ k x t, k < 6 → L k = x :: t → chas (tops L) x.xs = true) : ∀ j, j < vs.length → chas (tops L) (vs.getD j wz).xs = fixS us vs j := by
  intro j hj
  cases hf : fixS us vs j
  · cases hc : chas (tops L) (vs.getD j wz).xs
    · rfl
    · have hT := fix_great (us := us) (vs := vs) hr (T := fun i => chas (tops L) (vs.getD i wz).xs) (fun i hi hci => by
        rw [cov_iff]
        intro d hd
        have hdk := depsOk_each (okW_parts (hv _ (getV_mem hi))).2.2 hd
        have hle := (chas_iff _ _).1 hci d hd
        have hb := tagOk_bounds hdk.2
        have hkk : ((d.k.toNat : Nat) : Int) = d.k := by omega
        unfold allOf
        rw [has_allTo vs _ hr]
        cases hl : L d.k.toNat with
        | nil =>
          unfold tops at hle
          rw [hl] at hle
          have h0 : wrdD d ≤ 0 := hle
          unfold wrdD at h0
          omega
        | cons y r =>
          have hy : y ∈ L d.k.toNat := by rw [hl]; exact List.mem_cons_self
          obtain ⟨e1, e2, e3⟩ := h.src _ y hy
          have hle2 : wrdD d ≤ wrd y := by
            unfold tops at hle
            rw [hl] at hle
            exact hle
          have ht := (word_le e2 hdk.2).1 hle2
          rcases e3 with ⟨-, u, hm, k1, k2, k3, k4⟩ | hm
          · refine .inl ?_
            have := has_of_mem hr hm (c := d.c) (s := d.s) (q := d.q) (by rw [k2, k3, k4]; exact ht)
            rw [k1, e1, hkk] at this
            exact this
          · obtain ⟨p, hp, rfl⟩ := List.mem_iff_getElem.1 hm
            have eg : vs.getD p wz = vs[p] := by simp [List.getD, hp]
            refine .inr ⟨p, hp, ?_, ?_, ?_⟩
            · simp only [eg]
              exact hE _ _ _ (by omega) hl
            · rw [eg, e1, hkk]
            · rw [eg]; exact ht) vs.length j hj hc
      unfold fixS at hf
      rw [hT] at hf
      cases hf
  · exact h.fits hr hu hv hj hf

/-- The rows at the start, ahead of their sorting. -/
def startL (us vs : List Wr) (k : Nat) : List Wr := (us.filter fun x => x.k == (k : Int)).map strip ++ vs.filter fun x => x.k == (k : Int)

theorem rows6_start {us vs : List Wr} {L : Nat → List Wr} (hu : ∀ x ∈ us, okW x = true) (hv : ∀ x ∈ vs, okW x = true) (hp : ∀ k, k < 6 → (L k).Perm (startL us vs k)) (h6 : ∀ k, 6 ≤ k → L k = []) (hs : ∀ k, (L k).Pairwise fun x y => wrd y ≤ wrd x) : Rows6 us vs L where
  src k x hx := by
    by_cases h : k < 6
    · have hm := (hp k h).mem_iff.1 hx
      unfold startL at hm
      rcases List.mem_append.1 hm with hm | hm
      · obtain ⟨u, h1, rfl⟩ := List.mem_map.1 hm
        rw [List.mem_filter] at h1
        have hk : u.k = (k : Int) := by simpa using h1.2
        exact ⟨hk, (okW_parts (hu u h1.1)).2.1, .inl ⟨rfl, u, h1.1, rfl, rfl, rfl, rfl⟩⟩
      · rw [List.mem_filter] at hm
        have hk : x.k = (k : Int) := by simpa using hm.2
        exact ⟨hk, (okW_parts (hv x hm.1)).2.1, .inr hm.1⟩
    · rw [h6 k (by omega)] at hx
      simp at hx
  olds u hm := by
    have hk := (okW_parts (hu u hm)).1
    refine ⟨strip u, (hp _ (by omega)).mem_iff.2 ?_, rfl, rfl, rfl, rfl⟩
    unfold startL
    refine List.mem_append_left _ (List.mem_map.2 ⟨u, List.mem_filter.2 ⟨hm, ?_⟩, rfl⟩)
    simp
    omega
  news j hj _ := by
    have hm := getV_mem hj
    have hk := (okW_parts (hv _ hm)).1
    refine (hp _ (by omega)).mem_iff.2 ?_
    unfold startL
    refine List.mem_append_right _ (List.mem_filter.2 ⟨hm, ?_⟩)
    simp only [beq_iff_eq]
    omega
  down := hs

end Go.Proofs.Ytbbmpfkijhhemaa

/- Causes: the lists of dependencies by keys, of one key the last, and the six tags of the program's causes. No Go in sight. -/
namespace Go.Proofs.Ytbbmpfkijhhemaa

/-- The keys rise. -/
def RiseD (xs : List Dp) : Prop := xs.Pairwise fun x y => x.k < y.k

/-- A dependency put to a list by keys, said by recursion. -/
def insD : List Dp → Dp → List Dp
  | [], d => [d]
  | x :: r, d => if x.k = d.k then lastD x d :: r else if d.k < x.k then d :: x :: r else x :: insD r d

theorem laterStep_past (d : Dp) : ∀ (xs acc : List Dp), (∀ y ∈ xs, d.k < y.k) → xs.foldl (laterStep d) (acc, true) = (acc ++ xs, true)
  | [], acc, _ => by simp
  | y :: r, acc, h => by
    have hy : d.k < y.k := h y (by simp)
    have e : laterStep d (acc, true) y = (acc ++ [y], true) := by
      unfold laterStep
      rw [if_neg (by omega), if_neg (by simp)]
    rw [List.foldl_cons, e, laterStep_past d r _ fun z hz => h z (by simp [hz])]
    simp

theorem laterStep_fold (d : Dp) : ∀ (xs acc : List Dp), RiseD xs → (if (xs.foldl (laterStep d) (acc, false)).2 = true then (xs.foldl (laterStep d) (acc, false)).1 else (xs.foldl (laterStep d) (acc, false)).1 ++ [d]) = acc ++ insD xs d
  | [], acc, _ => by simp [insD]
  | y :: r, acc, h => by
    have hp := List.pairwise_cons.1 h
    rw [List.foldl_cons]
    unfold insD
    by_cases h1 : y.k = d.k
    · have hr : ∀ z ∈ r, d.k < z.k := fun z hz => by have := hp.1 z hz; omega
      have e : laterStep d (acc, false) y = (acc ++ [lastD y d], true) := by simp [laterStep, h1]
      rw [e, laterStep_past d r _ hr]
      simp [h1]
    · by_cases h2 : d.k < y.k
      · have hr : ∀ z ∈ r, d.k < z.k := fun z hz => by have := hp.1 z hz; omega
        have e : laterStep d (acc, false) y = (acc ++ [d] ++ [y], true) := by simp [laterStep, h1, h2]
        rw [e, laterStep_past d r _ hr]
        simp [h1, h2]
      · have e : laterStep d (acc, false) y = (acc ++ [y], false) := by simp [laterStep, h1, h2]
        rw [e, laterStep_fold d r _ hp.2]
        simp [h1, h2]

theorem laterL_eq {xs : List Dp} (h : RiseD xs) (d : Dp) : laterL xs d = insD xs d := by
  have := laterStep_fold d xs [] h
  rw [List.nil_append] at this
  exact this

/-- Three numbers of a tag; all 0 of none. -/
structure Tg where
  c : Int
  s : Int
  q : Int

def tgz : Tg := ⟨0, 0, 0⟩

def putC (ts : List Tg) (d : Dp) : List Tg := if 0 < tcmp d.c d.s d.q (ts.getD d.k.toNat tgz).c (ts.getD d.k.toNat tgz).s (ts.getD d.k.toNat tgz).q then ts.set d.k.toNat ⟨d.c, d.s, d.q⟩ else ts

theorem putC_len (ts : List Tg) (d : Dp) : (putC ts d).length = ts.length := by
  unfold putC
  split <;> simp

/-- Whether a tag is none. -/
def isZ (t : Tg) : Bool := decide (t.c = 0 ∧ t.s = 0 ∧ t.q = 0)

def tellAt : Nat → List Tg → List Dp
  | _, [] => []
  | i, t :: r => (if isZ t = true then [] else [⟨(i : Int), t.c, t.s, t.q⟩]) ++ tellAt (i + 1) r

theorem tellAt_ge : ∀ (ts : List Tg) (i : Nat), ∀ x ∈ tellAt i ts, (i : Int) ≤ x.k ∧ x.k < i + ts.length
  | [], i, x, h => by simp [tellAt] at h
  | t :: r, i, x, h => by
    unfold tellAt at h
    rcases List.mem_append.1 h with h | h
    · split at h
      · simp at h
      · simp at h
        rw [h]
        simp
        omega
    · have := tellAt_ge r (i + 1) x h
      simp
      omega

theorem tellAt_rise : ∀ (ts : List Tg) (i : Nat), RiseD (tellAt i ts)
  | [], _ => List.Pairwise.nil
  | t :: r, i => by
    unfold tellAt
    split
    · simpa using tellAt_rise r (i + 1)
    · refine List.Pairwise.cons (fun z hz => ?_) (tellAt_rise r (i + 1))
      have := (tellAt_ge r (i + 1) z hz).1
      simp
      omega

theorem insD_past : ∀ (xs : List Dp) (d : Dp), (∀ x ∈ xs, d.k < x.k) → insD xs d = d :: xs
  | [], _, _ => rfl
  | x :: r, d, h => by
    have := h x (by simp)
    unfold insD
    rw [if_neg (by omega), if_pos this]

theorem tellAt_put : ∀ (ts : List Tg) (i : Nat) (d : Dp) (j : Nat), d.k = ((i + j : Nat) : Int) → j < ts.length → 1 ≤ d.c →
    tellAt i (if 0 < tcmp d.c d.s d.q (ts.getD j tgz).c (ts.getD j tgz).s (ts.getD j tgz).q then ts.set j ⟨d.c, d.s, d.q⟩ else ts) = insD (tellAt i ts) d
  | [], i, d, j, _, h, _ => by simp at h
  | t :: r, i, d, 0, hk, _, hc => by
    have hnz : isZ ⟨d.c, d.s, d.q⟩ = false := by
      unfold isZ
      simp
      omega
    have hd : (⟨(i : Int), d.c, d.s, d.q⟩ : Dp) = d := by
      obtain ⟨dk, dc, ds, dq⟩ := d
      simp at hk ⊢
      omega
    have hpast : ∀ x ∈ tellAt (i + 1) r, d.k < x.k := fun x hx => by have := (tellAt_ge r (i + 1) x hx).1; omega
    by_cases hz : isZ t = true
    · have hz' : t = tgz := by
        unfold isZ at hz
        obtain ⟨c, s, q⟩ := t
        simp at hz
        simp [tgz, hz]
      subst hz'
      have hpos : 0 < tcmp d.c d.s d.q 0 0 0 := by
        have h1 : sgn d.c 0 = 1 := by
          unfold sgn
          rw [if_neg (by omega), if_pos (by omega)]
        rw [tcmp_lex, h1]
        unfold lexI
        rw [if_pos (by decide)]
        decide
      simp only [List.getD_cons_zero, List.set_cons_zero, tgz, hpos, if_true]
      unfold tellAt
      rw [hnz]
      simp only [isZ]
      simp [insD_past _ _ hpast, hd]
    · simp only [List.getD_cons_zero, List.set_cons_zero]
      have hzf : isZ t = false := by simpa using hz
      have hneg := tcmp_neg d.c d.s d.q t.c t.s t.q
      conv => rhs; unfold tellAt
      simp only [hzf, Bool.false_eq_true, if_false, List.singleton_append]
      have hins : insD (⟨(i : Int), t.c, t.s, t.q⟩ :: tellAt (i + 1) r) d = lastD ⟨(i : Int), t.c, t.s, t.q⟩ d :: tellAt (i + 1) r := by
        unfold insD
        exact if_pos (by simp [hk])
      rw [hins]
      by_cases hp : 0 < tcmp d.c d.s d.q t.c t.s t.q
      · rw [if_pos hp]
        have hl : lastD ⟨(i : Int), t.c, t.s, t.q⟩ d = d := by
          unfold lastD
          exact if_pos (by show tcmp t.c t.s t.q d.c d.s d.q < 0; omega)
        rw [hl]
        conv => lhs; unfold tellAt
        simp only [hnz, Bool.false_eq_true, if_false, List.singleton_append, hd]
      · rw [if_neg hp]
        have hl : lastD ⟨(i : Int), t.c, t.s, t.q⟩ d = ⟨(i : Int), t.c, t.s, t.q⟩ := by
          unfold lastD
          exact if_neg (by show ¬ tcmp t.c t.s t.q d.c d.s d.q < 0; omega)
        rw [hl]
        conv => lhs; unfold tellAt
        simp only [hzf, Bool.false_eq_true, if_false, List.singleton_append]
  | t :: r, i, d, j + 1, hk, hj, hc => by
    have ih := tellAt_put r (i + 1) d j (by rw [hk]; omega) (by simpa using hj) hc
    simp only [List.getD_cons_succ, List.set_cons_succ]
    have hins : insD (tellAt i (t :: r)) d = (if isZ t = true then [] else [⟨(i : Int), t.c, t.s, t.q⟩]) ++ insD (tellAt (i + 1) r) d := by
      conv => lhs; unfold tellAt
      split
      · rfl
      · simp only [List.singleton_append]
        conv => lhs; unfold insD
        rw [if_neg (by simp; omega), if_neg (by simp; omega)]
    rw [hins, ← ih]
    split
    · rw [tellAt]
    · rw [tellAt]

def tellC (ts : List Tg) : List Dp := tellAt 0 ts

theorem tell_put (ts : List Tg) (d : Dp) (hl : ts.length = 6) (h0 : 0 ≤ d.k) (h1 : d.k ≤ 5) (hc : 1 ≤ d.c) : tellC (putC ts d) = laterL (tellC ts) d := by
  unfold tellC
  rw [laterL_eq (tellAt_rise ts 0)]
  exact tellAt_put ts 0 d d.k.toNat (by omega) (by omega) hc

theorem tell_puts : ∀ (xs : List Dp) (ts : List Tg), ts.length = 6 → (∀ d ∈ xs, (0 ≤ d.k ∧ d.k ≤ 5) ∧ 1 ≤ d.c) → tellC (xs.foldl putC ts) = xs.foldl laterL (tellC ts) ∧ (xs.foldl putC ts).length = 6
  | [], _, hl, _ => ⟨rfl, hl⟩
  | d :: r, ts, hl, h => by
    have hd := h d (by simp)
    have := tell_puts r (putC ts d) (by rw [putC_len]; exact hl) fun x hx => h x (by simp [hx])
    rw [tell_put ts d hl hd.1.1 hd.1.2 hd.2] at this
    exact this

def cz : List Tg := [tgz, tgz, tgz, tgz, tgz, tgz]

theorem tell_cz : tellC cz = [] := by decide

/-- The program's causes behind one write. -/
def cauRun (mask : Int) (ts : List Tg) (x : Wr) : List Tg := if bitB mask x.k = true then x.xs.foldl putC (putC ts (headD x)) else ts

def cauL (ws : List Wr) (mask : Int) : List Tg := ws.foldl (cauRun mask) cz

theorem tagOk_c {c s q : Int} (h : tagOkB c s q = true) : 1 ≤ c := by
  simp [tagOkB, btw] at h
  omega

theorem cau_run {x : Wr} (hx : okW x = true) (mask : Int) (ts : List Tg) (hl : ts.length = 6) : tellC (cauRun mask ts x) = becRun mask (tellC ts) x ∧ (cauRun mask ts x).length = 6 := by
  unfold cauRun becRun
  obtain ⟨hk, ht, hd⟩ := okW_parts hx
  split
  · have h1 := tell_put ts (headD x) hl hk.1 hk.2 (tagOk_c ht)
    have := tell_puts x.xs (putC ts (headD x)) (by rw [putC_len]; exact hl) fun d hd' => ⟨(depsOk_each hd hd').1, tagOk_c (depsOk_each hd hd').2⟩
    rw [h1] at this
    exact this
  · exact ⟨rfl, hl⟩

theorem cau_fold (mask : Int) : ∀ (ws : List Wr) (ts : List Tg), ts.length = 6 → (∀ x ∈ ws, okW x = true) → tellC (ws.foldl (cauRun mask) ts) = ws.foldl (becRun mask) (tellC ts) ∧ (ws.foldl (cauRun mask) ts).length = 6
  | [], _, hl, _ => ⟨rfl, hl⟩
  | x :: r, ts, hl, h => by
    obtain ⟨h1, h2⟩ := cau_run (h x (by simp)) mask ts hl
    have := cau_fold mask r (cauRun mask ts x) h2 fun y hy => h y (by simp [hy])
    rw [h1] at this
    exact this

/-- What the causes tell is what the specification gathers. -/
theorem cau_tell {ws : List Wr} (h : mapOkB ws = true) (mask : Int) : tellC (cauL ws mask) = becL ws mask := by
  have := (cau_fold mask ws cz rfl ((mapOk_iff ws).1 h).1).1
  rw [tell_cz] at this
  exact this

end Go.Proofs.Ytbbmpfkijhhemaa

/- Marks of a row of dependencies of one's own, of whatever length. -/
namespace Go.Proofs.Ytbbmpfkijhhemaa
open Go.ChangeShapes Go.WideShapes Go.ChangeAt Go.RowKit Go.Joins

theorem OwnD.below {w w' : World} {lo hi : Nat} {a : Option Addr} {ds : List Dp} (h : OwnD w lo hi a ds) (hb : Below w.heap.size w w') : OwnD w' lo hi a ds := by
  rcases h with h | ⟨g, ha, h1, h2, h3, h4, h5⟩
  · exact .inl h
  · exact .inr ⟨g, ha, h1, h2, Nat.lt_of_lt_of_le h3 hb.size, h4.below hb h3, fun o => (hb.frozen (p := ⟨g, o, none⟩) h3).trans (h5 o)⟩

theorem OwnD.only {w w' : World} {S : Nat → Prop} {lo hi : Nat} {a : Option Addr} {ds : List Dp} (h : OwnD w lo hi a ds) (ho : Only S w w') (hS : ∀ x, S x → x < lo ∨ hi ≤ x) : OwnD w' lo hi a ds := by
  rcases h with h | ⟨g, ha, h1, h2, h3, h4, h5⟩
  · exact .inl h
  · have hb := ho.block g fun hs => by have := hS g hs; omega
    refine .inr ⟨g, ha, h1, h2, by rw [ho.size]; exact h3, fun i hi => ?_, fun o => (ho.frozen _).trans (h5 o)⟩
    have e : ∀ o, w'.cell? ⟨g, o, none⟩ = w.cell? ⟨g, o, none⟩ := fun o => World.cell?_of_block (a := ⟨g, o, none⟩) hb
    obtain ⟨a0, a1, a2, a3⟩ := h4 i hi
    exact ⟨(e _).trans a0, (e _).trans a1, (e _).trans a2, (e _).trans a3⟩

def MarkedD (w : World) (a : Option Addr) (ds : List Dp) (k : Int) : Prop := ds = [] ∨ ∃ g, a = some ⟨g, 0, none⟩ ∧ g < w.heap.size ∧ CellsAre w g (ds.length * 4) (markFn k)

theorem MarkedD.below {w w' : World} {a : Option Addr} {ds : List Dp} {k : Int} (h : MarkedD w a ds k) (hb : Below w.heap.size w w') : MarkedD w' a ds k := by
  rcases h with h | ⟨g, ha, h1, h2⟩
  · exact .inl h
  · exact .inr ⟨g, ha, Nat.lt_of_lt_of_le h1 hb.size, h2.of_block (hb.block g h1)⟩

theorem deps_cellsAre {w : World} {g : Nat} {ds : List Dp} (h : HoldsDeps w g 0 ds) : CellsAre w g (ds.length * 4) (fun o => (w.cell? ⟨g, o, none⟩).getD undef) := fun o ho => by
  obtain ⟨a0, a1, a2, a3⟩ := h (o / 4) (by omega)
  have hs : ∃ v, w.cell? ⟨g, o, none⟩ = some v := by
    have : o = 0 + o / 4 * 4 ∨ o = 0 + o / 4 * 4 + 1 ∨ o = 0 + o / 4 * 4 + 2 ∨ o = 0 + o / 4 * 4 + 3 := by omega
    rcases this with e | e | e | e <;> rw [e]
    · exact ⟨_, a0⟩
    · exact ⟨_, a1⟩
    · exact ⟨_, a2⟩
    · exact ⟨_, a3⟩
  obtain ⟨v, hv⟩ := hs
  show w.cell? ⟨g, o, none⟩ = some ((w.cell? ⟨g, o, none⟩).getD undef)
  rw [hv]
  rfl

theorem markDepS_all (lo hi n cap : Nat) (a : Option Addr) (k : Int) (ds : List Dp) (w : World) (hn : ds.length = n) (hm : n ≤ 1048576) (h0 : 0 ≤ k) (h1 : k ≤ 1099511627776) (h : OwnD w lo hi a ds) :
    Calls Try.prog 20 #[.slice a n cap, .int .i64 k] w fun e w' => e = .returned (.int .i64 (k + 4 * n)) ∧ MarkedD w' a ds k ∧ Only (fun b => lo ≤ b ∧ b < hi) w w' := by
  rcases h with h | ⟨g, ha, g1, g2, g3, g4, g5⟩
  · subst h
    have hn0 : n = 0 := by rw [← hn]; rfl
    subst hn0
    refine (markDepS_any a 0 0 cap k (fun _ => undef) w (by omega) h0 h1 (fun h => absurd h (Nat.lt_irrefl 0)) (fun o ho => by omega) (fun h => absurd h (Nat.lt_irrefl 0))).mono ?_
    rintro e w' ⟨he, -, ho⟩
    exact ⟨he, .inl rfl, ⟨ho.os, ho.tape, ho.output, ho.size, fun b _ => ho.block b (by rintro ⟨h, _⟩; omega), ho.frozen⟩⟩
  · have hc := deps_cellsAre g4
    rw [hn] at hc
    refine (markDepS_any a g n cap k _ w hm h0 h1 (fun _ => ha) hc (fun _ => g5)).mono ?_
    rintro e w' ⟨he, hk, ho⟩
    refine ⟨he, .inr ⟨g, ha, by rw [ho.size]; exact g3, by rw [hn]; exact hk⟩, ⟨ho.os, ho.tape, ho.output, ho.size, fun b hb => ho.block b (by rintro ⟨_, rfl⟩; exact hb ⟨g1, g2⟩), ho.frozen⟩⟩

theorem heldDepS_all (n cap : Nat) (a : Option Addr) (k : Int) (ds : List Dp) (w : World) (hn : ds.length = n) (hm : n ≤ 1048576) (h0 : 0 ≤ k) (h1 : k ≤ 1099511627776) (h : MarkedD w a ds k) :
    Calls Try.prog 21 #[.slice a n cap, .int .i64 k] w fun e w' => e = .returned (.int .i64 (k + 4 * n)) ∧ w' = w := by
  rcases h with h | ⟨g, ha, g1, g2⟩
  · subst h
    have hn0 : n = 0 := by rw [← hn]; rfl
    subst hn0
    exact heldDepS_any a 0 0 cap k w (by omega) h0 h1 (fun h => absurd h (Nat.lt_irrefl 0)) (fun o ho => by omega)
  · rw [hn] at g2
    exact heldDepS_any a g n cap k w hm h0 h1 (fun _ => ha) g2

end Go.Proofs.Ytbbmpfkijhhemaa
