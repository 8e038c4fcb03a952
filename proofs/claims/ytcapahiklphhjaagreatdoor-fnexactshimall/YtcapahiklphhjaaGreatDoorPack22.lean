import Derived.Test.YtcapahiklphhjaaGreatDoorPack8
import Derived.Test.YtcapahiklphhjaaGreatDoorPack1
import Derived.Test.YtcapahiklphhjaaGreatDoorPack14
import Derived.Test.YtcapahiklphhjaaGreatDoorPack9
import Derived.Test.YtcapahiklphhjaaGreatDoorPack2
import Derived.Test.YtcapahiklphhjaaGreatDoorPack6
import Derived.Test.YtcapahiklphhjaaGreatDoorPack15
import Derived.Test.YtcapahiklphhjaaGreatDoorPack13
import Derived.Test.YtcapahiklphhjaaGreatDoorPack7
/- The specification's list of dependencies by keys, of one key the last: plain facts; the contracts of spec.l07Bit and spec.l07Later. -/
namespace Go.Proofs.YtcapahiklphhjaaGreatDoor
open Go.ChangeShapes Go.WideShapes Go.ChangeAt Go.RowKit Go.Joins
attribute [local go_sem ↓] Go.wp_at_zero Go.wp_at_succ

/-- Of two dependencies of one key the later one. -/
def lastD (x d : Dp) : Dp := if tcmp x.c x.s x.q d.c d.s d.q < 0 then d else x

def laterStep (d : Dp) (st : List Dp × Bool) (x : Dp) : List Dp × Bool :=
  if x.k = d.k then (st.1 ++ [lastD x d], true) else if d.k < x.k ∧ st.2 = false then (st.1 ++ [d] ++ [x], true) else (st.1 ++ [x], st.2)

def laterRun (xs : List Dp) (d : Dp) : List Dp × Bool := xs.foldl (laterStep d) ([], false)

def laterL (xs : List Dp) (d : Dp) : List Dp := if (laterRun xs d).2 = true then (laterRun xs d).1 else (laterRun xs d).1 ++ [d]

set_option maxRecDepth 100000 in
theorem laterRun_take (xs : List Dp) (d : Dp) (k : Nat) (h : k < xs.length) : laterRun (xs.take (k + 1)) d = laterStep d (laterRun (xs.take k) d) (xs.getD k dz) := by
  unfold laterRun
  have e : xs.take (k + 1) = xs.take k ++ [xs.getD k dz] := by
    rw [List.take_add_one, List.getElem?_eq_getElem h]
    simp [List.getD, h]
  rw [e, List.foldl_append]
  rfl

set_option maxRecDepth 100000 in
theorem laterStep_len (d : Dp) (st : List Dp × Bool) (x : Dp) : (laterStep d st x).1.length + (if (laterStep d st x).2 = true then 0 else 1) ≤ st.1.length + (if st.2 = true then 0 else 1) + 1 := by
  unfold laterStep
  split
  · cases st.2 <;> simp
  · split
    · rename_i h
      rw [h.2]
      simp
    · cases st.2 <;> simp

set_option maxRecDepth 100000 in
theorem laterRun_len (xs : List Dp) (d : Dp) : ∀ k, k ≤ xs.length → (laterRun (xs.take k) d).1.length + (if (laterRun (xs.take k) d).2 = true then 0 else 1) ≤ k + 1
  | 0, _ => by simp [laterRun]
  | k + 1, h => by
    have ih := laterRun_len xs d k (by omega)
    rw [laterRun_take xs d k (by omega)]
    have := laterStep_len d (laterRun (xs.take k) d) (xs.getD k dz)
    omega

/-- A dependency in a block of its own. -/
structure DBox (w : World) (b : Nat) (d : Dp) : Prop where
  lt : b < w.heap.size
  c0 : w.cell? ⟨b, 0, none⟩ = some (.int .i64 d.k)
  c1 : w.cell? ⟨b, 1, none⟩ = some (.int .i64 d.c)
  c2 : w.cell? ⟨b, 2, none⟩ = some (.int .i64 d.s)
  c3 : w.cell? ⟨b, 3, none⟩ = some (.int .i64 d.q)
  fz : ∀ o, w.frozen? ⟨b, o, none⟩ = false

set_option maxRecDepth 100000 in
theorem DBox.start (w : World) (d : Dp) (ty : Nat) : DBox (w.alloc (.cells #[.int .i64 d.k, .int .i64 d.c, .int .i64 d.s, .int .i64 d.q] ty)) w.heap.size d := by
  have h := heap_alloc_new w (.cells #[.int .i64 d.k, .int .i64 d.c, .int .i64 d.s, .int .i64 d.q] ty)
  refine ⟨by simp, ?_, ?_, ?_, ?_, fun o => by simp [go_sem]⟩ <;> (rw [cell_of_row _ _ _ _ ty (0, 0) h]; rfl)

set_option maxRecDepth 100000 in
theorem DBox.of_block {w w' : World} {b : Nat} {d : Dp} (h : DBox w b d) (hs : w.heap.size ≤ w'.heap.size) (hb : w'.heap[b]? = w.heap[b]?) : DBox w' b d := by
  have e : ∀ o, w'.cell? ⟨b, o, none⟩ = w.cell? ⟨b, o, none⟩ := fun o => World.cell?_of_block (a := ⟨b, o, none⟩) hb
  exact ⟨Nat.lt_of_lt_of_le h.lt hs, (e _).trans h.c0, (e _).trans h.c1, (e _).trans h.c2, (e _).trans h.c3, fun o => (World.frozen?_of_block (w := w) hb).trans (h.fz o)⟩

set_option maxRecDepth 100000 in
theorem DBox.below {w w' : World} {b : Nat} {d : Dp} (h : DBox w b d) (hb : Below w.heap.size w w') : DBox w' b d := h.of_block hb.size (hb.block b h.lt)

/-- A dependency stored as a whole. -/
def put4 (w : World) (b : Nat) (k c s q : Int) : World := (((w.setCell ⟨b, 0, none⟩ (.int .i64 k)).setCell ⟨b, 1, none⟩ (.int .i64 c)).setCell ⟨b, 2, none⟩ (.int .i64 s)).setCell ⟨b, 3, none⟩ (.int .i64 q)

set_option maxRecDepth 100000 in
theorem hole_put4 {B : Nat} {w w' : World} (h : Hole B w w') (k c s q : Int) : Hole B w (put4 w' B k c s q) := (((h.set 0 _).set 1 _).set 2 _).set 3 _

set_option maxRecDepth 100000 in
theorem dbox_put4 {w : World} {b : Nat} {d : Dp} (h : DBox w b d) (k c s q : Int) : DBox (put4 w b k c s q) b ⟨k, c, s, q⟩ := by
  have s0 := cell_set_same (v := .int .i64 k) h.c0
  have o1 := cell_set_off (o := 0) (v := .int .i64 k) h.c1 (by omega)
  have o2 := cell_set_off (o := 0) (v := .int .i64 k) h.c2 (by omega)
  have o3 := cell_set_off (o := 0) (v := .int .i64 k) h.c3 (by omega)
  have s1 := cell_set_same (v := .int .i64 c) o1
  have p0 := cell_set_off (o := 1) (v := .int .i64 c) s0 (by omega)
  have p2 := cell_set_off (o := 1) (v := .int .i64 c) o2 (by omega)
  have p3 := cell_set_off (o := 1) (v := .int .i64 c) o3 (by omega)
  have s2 := cell_set_same (v := .int .i64 s) p2
  have q0 := cell_set_off (o := 2) (v := .int .i64 s) p0 (by omega)
  have q1 := cell_set_off (o := 2) (v := .int .i64 s) s1 (by omega)
  have q3 := cell_set_off (o := 2) (v := .int .i64 s) p3 (by omega)
  refine ⟨?_, cell_set_off q0 (by omega), cell_set_off q1 (by omega), cell_set_off s2 (by omega), cell_set_same q3, fun o => ?_⟩
  · simpa [put4, World.setCell] using h.lt
  · unfold put4
    rw [World.frozen?_setCell, World.frozen?_setCell, World.frozen?_setCell, World.frozen?_setCell]
    exact h.fz o

set_option maxRecDepth 100000 in
theorem RowD.aside {w w' : World} {B base : Nat} {v : Value} {zs : List Dp} (h : RowD w base v zs) (hh : Hole B w w') (hne : v.ownBlock ≠ some B) : RowD w' base v zs :=
  World.ownsRow.kept (row := some B) h ⟨hh.os, hh.tape, hh.output, hh.size, fun k hk hn => hh.block k hk (fun e => hn (by rw [e]))⟩ (.inr hne)

set_option maxRecDepth 100000 in
set_option maxHeartbeats 16000000 in
theorem later_any (a : Option Addr) (n cap : Nat) (xs : List Dp) (d : Dp) (w : World) (hn : xs.length = n) (hm : n ≤ 1000000) (hi : IsDeps w a xs) :
    Calls Tryz.prog 113 #[.slice a n cap, depV d.k d.c d.s d.q] w fun e w' => ∃ v, e = .returned v ∧ RowD w' w.heap.size v (laterL xs d) ∧ Below w.heap.size w w' := by
  obtain ⟨dk, dc, ds, dq⟩ := d
  have HI := Lib.hid hi
  have HN := Lib.hid hn
  clear hi hn
  obtain ⟨i0, hi0, hx0⟩ := Option.map_eq_some_iff.1 infoDep
  simp only [Prod.mk.injEq] at hx0
  have HI0 := Lib.hid hi0
  have HX0 := Lib.hid hx0
  clear hi0 hx0
  have HB1 : Hid (Below w.heap.size w (w.alloc (.cells #[.int .i64 dk, .int .i64 dc, .int .i64 ds, .int .i64 dq] 99))) := (Below.refl _ _).alloc (Nat.le_refl _) _
  have hz1 : (w.alloc (.cells #[.int .i64 dk, .int .i64 dc, .int .i64 ds, .int .i64 dq] 99)).heap.size = w.heap.size + 1 := by simp
  have HD1 : Hid (DBox (w.alloc (.cells #[.int .i64 dk, .int .i64 dc, .int .i64 ds, .int .i64 dq] 99)) w.heap.size ⟨dk, dc, ds, dq⟩) := DBox.start w ⟨dk, dc, ds, dq⟩ 99
  have HB0 : Hid (Below w.heap.size w ((w.alloc (.cells #[.int .i64 dk, .int .i64 dc, .int .i64 ds, .int .i64 dq] 99)).alloc (.cells #[] 99))) := HB1.out.alloc (by simp) _
  have HD0 := Lib.hid (HD1.out.below ((Below.refl _ _).alloc (Nat.le_refl _) (.cells #[] 99)))
  have HR0 : Hid (RowD ((w.alloc (.cells #[.int .i64 dk, .int .i64 dc, .int .i64 ds, .int .i64 dq] 99)).alloc (.cells #[] 99)) (w.heap.size + 1) (.slice (some ⟨w.heap.size + 1, 0, none⟩) 0 0) []) := by
    have h := World.ownsRow_made (e := 99) (size := 4) (w.alloc (.cells #[.int .i64 dk, .int .i64 dc, .int .i64 ds, .int .i64 dq] 99)) #[] 0 (Nat.le_refl _) (by simp [maxLen]) (by simp)
    rw [hz1] at h
    exact Lib.hid h
  clear HB1 HD1 hz1
  unfold depV
  go_enter Tryz.func113, Tryz.ntmps113
  go_wp2
  generalize (w.alloc (.cells #[.int .i64 dk, .int .i64 dc, .int .i64 ds, .int .i64 dq] 99)).alloc (.cells #[] 99) = W0 at *
  go_loopw [5, 6, 7] (fun t pu i wr => ∃ (k : Nat) (v : Value) (zs : List Dp) (p : Bool), k ≤ n ∧ i = .int .i64 k ∧ v = t ∧ pu = .bool p ∧ zs.length ≤ k + 1 ∧ Hid (laterRun (xs.take k) ⟨dk, dc, ds, dq⟩ = (zs, p)) ∧ Hid (RowD wr (w.heap.size + 1) v zs) ∧ Hid (DBox wr w.heap.size ⟨dk, dc, ds, dq⟩) ∧ Hid (Below w.heap.size w wr)) (fun _ _ i _ => n - (intOf i).toNat)
  case atStart => exact ⟨0, _, [], false, Nat.zero_le _, rfl, rfl, rfl, by simp, rfl, HR0, HD0, HB0⟩
  case round =>
    clear HR0 HD0 HB0
    obtain ⟨k, v, zs, p, hk, rfl, rfl, rfl, hzl, HE, HR, HD, HB⟩ := hrel
    by_cases hk' : k < n
    · have hkx : k < xs.length := by rw [HN.out]; exact hk'
      have i1 : (0 : Int) ≤ (k : Int) := by omega
      have i2 : (k : Int) < (n : Int) := by omega
      obtain ⟨b, o, rfl, hz, e0, e1, e2, e3⟩ := HI.out.at HB.out hkx
      have HT := Lib.hid (laterRun_take xs ⟨dk, dc, ds, dq⟩ k hkx)
      have hlen := laterRun_len xs ⟨dk, dc, ds, dq⟩ (k + 1) hkx
      rw [HE.out] at HT
      generalize xs.getD k dz = x at *
      obtain ⟨yk, yc, ys, yq⟩ := x
      simp only at e0 e1 e2 e3 HT
      have HXB : Hid (Below wr.heap.size wr (wr.alloc (.cells #[.int .i64 yk, .int .i64 yc, .int .i64 ys, .int .i64 yq] 99))) := (Below.refl _ _).alloc (Nat.le_refl _) _
      have HXX : Hid (DBox (wr.alloc (.cells #[.int .i64 yk, .int .i64 yc, .int .i64 ys, .int .i64 yq] 99)) wr.heap.size ⟨yk, yc, ys, yq⟩) := DBox.start wr ⟨yk, yc, ys, yq⟩ 99
      have HRX := Lib.hid (HR.out.below HXB.out)
      have HDX := Lib.hid (HD.out.below HXB.out)
      have HBX := Lib.hid (below_step HB.out HB.out.size HXB.out)
      have hdl : w.heap.size < wr.heap.size := HD.out.lt
      have hobX : v.ownBlock ≠ some wr.heap.size := fun e => by have := (World.ownsRow.lt HR.out _ e).2; omega
      have d0 := HDX.out.c0
      have d1 := HDX.out.c1
      have d2 := HDX.out.c2
      have d3 := HDX.out.c3
      have x0 := HXX.out.c0
      have x1 := HXX.out.c1
      have x2 := HXX.out.c2
      have x3 := HXX.out.c3
      by_cases hkey : yk = dk
      · subst hkey
        have hnl : ¬ yk < yk := by omega
        go_wp2_with fail
        generalize (wr.alloc (.cells #[.int .i64 yk, .int .i64 yc, .int .i64 ys, .int .i64 yq] 99)) = V1 at *
        refine (specTagCmp_any _ _ _ _ _ _ _).mono ?_
        rintro e w2 ⟨rfl, hb⟩
        have HR2 := Lib.hid (HRX.out.below hb)
        have HD2 := Lib.hid (HDX.out.below hb)
        have HX2 := Lib.hid (HXX.out.below hb)
        have HB2 := Lib.hid (below_step HBX.out HBX.out.size hb)
        clear hb HRX HDX HXX HBX d0 d1 d2 d3 x0 x1 x2 x3 e0 e1 e2 e3
        have d0 := HD2.out.c0
        have d1 := HD2.out.c1
        have d2 := HD2.out.c2
        have d3 := HD2.out.c3
        have x0 := HX2.out.c0
        have x1 := HX2.out.c1
        have x2 := HX2.out.c2
        have x3 := HX2.out.c3
        have xf := HX2.out.fz
        have hsz2 : w.heap.size + 1 ≤ w2.heap.size := HD2.out.lt
        by_cases hlt : tcmp yc ys yq dc ds dq < 0
        · have HE2 : Hid (laterRun (xs.take (k + 1)) ⟨yk, dc, ds, dq⟩ = (zs ++ [⟨yk, dc, ds, dq⟩], true)) := by
            rw [HT.out]
            unfold laterStep lastD
            simp [hlt, Hid]
          have hl2 : (zs ++ [(⟨yk, dc, ds, dq⟩ : Dp)]).length ≤ k + 1 + 1 := by
            rw [HE2.out] at hlen
            simp at hlen ⊢
            omega
          generalize tcmp yc ys yq dc ds dq = tc at *
          have HH3 : Hid (Hole wr.heap.size w2 (put4 w2 wr.heap.size yk dc ds dq)) := hole_put4 (Hole.refl _ _) yk dc ds dq
          have HX3 : Hid (DBox (put4 w2 wr.heap.size yk dc ds dq) wr.heap.size ⟨yk, dc, ds, dq⟩) := dbox_put4 HX2.out yk dc ds dq
          have HR3 : Hid (RowD (put4 w2 wr.heap.size yk dc ds dq) (w.heap.size + 1) v zs) := HR2.out.aside HH3.out hobX
          have HD3 : Hid (DBox (put4 w2 wr.heap.size yk dc ds dq) w.heap.size ⟨yk, dc, ds, dq⟩) := HD2.out.of_block HH3.out.size (HH3.out.block _ HD2.out.lt (by omega))
          have HB3 : Hid (Below w.heap.size w (put4 w2 wr.heap.size yk dc ds dq)) := Hole.below HB2.out HH3.out (by omega) HB2.out.size
          go_wp2_with (at_builtin; refine Hid.out ?_)
          refine Lib.hid ?_
          have hP : (((w2.setCell ⟨wr.heap.size, 0, none⟩ (.int .i64 yk)).setCell ⟨wr.heap.size, 1, none⟩ (.int .i64 dc)).setCell ⟨wr.heap.size, 2, none⟩ (.int .i64 ds)).setCell ⟨wr.heap.size, 3, none⟩ (.int .i64 dq) = put4 w2 wr.heap.size yk dc ds dq := rfl
          rw [hP]
          clear hP
          have hs3 : (put4 w2 wr.heap.size yk dc ds dq).heap.size = w2.heap.size := by simp [put4, World.setCell]
          generalize put4 w2 wr.heap.size yk dc ds dq = w3 at *
          rw [← hs3]
          clear hs3
          clear HR2 HD2 HX2 HB2 HH3
          have u0 := HX3.out.c0
          have u1 := HX3.out.c1
          have u2 := HX3.out.c2
          have u3 := HX3.out.c3
          have v0 := HD3.out.c0
          have HBA5 : Hid (Below w3.heap.size w3 (w3.alloc (.cells #[.int .i64 yk, .int .i64 dc, .int .i64 ds, .int .i64 dq] 99))) := (Below.refl _ _).alloc (Nat.le_refl _) _
          have HRA5 := Lib.hid (HR3.out.below HBA5.out)
          have HDA5 := Lib.hid (HD3.out.below HBA5.out)
          have HB05 := Lib.hid (below_step HB3.out HB3.out.size HBA5.out)
          have hsz5 : w.heap.size + 1 ≤ w3.heap.size := HD3.out.lt
          go_wp2_with (at_builtin; refine wpList_append_lies _ (by rfl) _ _ _ (by rfl) (w.heap.size + 1) 99 i0 (depV 0 0 0 0) 4 32 Tryz.underlying35 HI0.out HX0.out.1 HX0.out.2.1 HX0.out.2.2 (by rfl) (by omega) v (zs).length ((zs).flatMap dpVals) (by rfl) HRA5.out ⟨w3.heap.size, 0, none⟩ 1 1 (dpVals ⟨yk, dc, ds, dq⟩) (by rfl) (by rfl) (oneD_cells w3 _ ⟨yk, dc, ds, dq⟩) (dp_one _) (by omega) (by unfold maxLen; (try simp); omega) (by (try simp); omega) (by (try simp); omega) _ rfl ?_; intro g5 cp5 w5 hown5 hgrow5 hg5 _; refine Hid.out ?_)
          refine Lib.hid ?_
          have HB5 : Hid (Below w.heap.size w w5) := HB05.out.grown hgrow5 HB05.out.size fun j hj => by have := (World.ownsRow.lt HRA5.out j hj).1; omega
          have HR5 : Hid (RowD w5 (w.heap.size + 1) (.slice (some ⟨g5, 0, none⟩) ((zs).length + 1) cp5) (zs ++ [⟨yk, dc, ds, dq⟩])) := by
            refine Lib.hid ?_
            unfold RowD
            rw [List.length_append, List.flatMap_append]
            simpa using hown5
          have hob5 : (v).ownBlock ≠ some w.heap.size := fun e => by have := (World.ownsRow.lt HRA5.out _ e).1; omega
          have HD5 : Hid (DBox w5 w.heap.size ⟨yk, dc, ds, dq⟩) := HDA5.out.of_block hgrow5.size (hgrow5.block _ HDA5.out.lt (fun e => hob5 e.symm))
          go_wp2
          exact ⟨⟨k + 1, _, _, true, by omega, by go_num, rfl, rfl, hl2, HE2, HR5, HD5, HB5⟩, by simp [intOf]; omega⟩
        · have HE2 : Hid (laterRun (xs.take (k + 1)) ⟨yk, dc, ds, dq⟩ = (zs ++ [⟨yk, yc, ys, yq⟩], true)) := by
            rw [HT.out]
            unfold laterStep lastD
            simp [hlt, Hid]
          have hl2 : (zs ++ [(⟨yk, yc, ys, yq⟩ : Dp)]).length ≤ k + 1 + 1 := by
            rw [HE2.out] at hlen
            simp at hlen ⊢
            omega
          generalize tcmp yc ys yq dc ds dq = tc at *
          have HBA5 : Hid (Below w2.heap.size w2 (w2.alloc (.cells #[.int .i64 yk, .int .i64 yc, .int .i64 ys, .int .i64 yq] 99))) := (Below.refl _ _).alloc (Nat.le_refl _) _
          have HRA5 := Lib.hid (HR2.out.below HBA5.out)
          have HDA5 := Lib.hid (HD2.out.below HBA5.out)
          have HB05 := Lib.hid (below_step HB2.out HB2.out.size HBA5.out)
          have hsz5 : w.heap.size + 1 ≤ w2.heap.size := HD2.out.lt
          go_wp2_with (at_builtin; refine wpList_append_lies _ (by rfl) _ _ _ (by rfl) (w.heap.size + 1) 99 i0 (depV 0 0 0 0) 4 32 Tryz.underlying35 HI0.out HX0.out.1 HX0.out.2.1 HX0.out.2.2 (by rfl) (by omega) v (zs).length ((zs).flatMap dpVals) (by rfl) HRA5.out ⟨w2.heap.size, 0, none⟩ 1 1 (dpVals ⟨yk, yc, ys, yq⟩) (by rfl) (by rfl) (oneD_cells w2 _ ⟨yk, yc, ys, yq⟩) (dp_one _) (by omega) (by unfold maxLen; (try simp); omega) (by (try simp); omega) (by (try simp); omega) _ rfl ?_; intro g5 cp5 w5 hown5 hgrow5 hg5 _; refine Hid.out ?_)
          refine Lib.hid ?_
          have HB5 : Hid (Below w.heap.size w w5) := HB05.out.grown hgrow5 HB05.out.size fun j hj => by have := (World.ownsRow.lt HRA5.out j hj).1; omega
          have HR5 : Hid (RowD w5 (w.heap.size + 1) (.slice (some ⟨g5, 0, none⟩) ((zs).length + 1) cp5) (zs ++ [⟨yk, yc, ys, yq⟩])) := by
            refine Lib.hid ?_
            unfold RowD
            rw [List.length_append, List.flatMap_append]
            simpa using hown5
          have hob5 : (v).ownBlock ≠ some w.heap.size := fun e => by have := (World.ownsRow.lt HRA5.out _ e).1; omega
          have HD5 : Hid (DBox w5 w.heap.size ⟨yk, dc, ds, dq⟩) := HDA5.out.of_block hgrow5.size (hgrow5.block _ HDA5.out.lt (fun e => hob5 e.symm))
          go_wp2
          exact ⟨⟨k + 1, _, _, true, by omega, by go_num, rfl, rfl, hl2, HE2, HR5, HD5, HB5⟩, by simp [intOf]; omega⟩
      · by_cases hb1 : dk < yk ∧ p = false
        · obtain ⟨hdy, rfl⟩ := hb1
          have HE2 : Hid (laterRun (xs.take (k + 1)) ⟨dk, dc, ds, dq⟩ = (zs ++ [⟨dk, dc, ds, dq⟩] ++ [⟨yk, yc, ys, yq⟩], true)) := by
            rw [HT.out]
            unfold laterStep
            simp [hkey, hdy, Hid]
          have hl2 : (zs ++ [(⟨dk, dc, ds, dq⟩ : Dp)] ++ [(⟨yk, yc, ys, yq⟩ : Dp)]).length ≤ k + 1 + 1 := by
            rw [HE2.out] at hlen
            simp at hlen ⊢
            omega
          go_wp2_with (at_builtin; refine Hid.out ?_)
          refine Lib.hid ?_
          have hs1 : (wr.alloc (.cells #[.int .i64 yk, .int .i64 yc, .int .i64 ys, .int .i64 yq] 99)).heap.size = wr.heap.size + 1 := by simp
          generalize (wr.alloc (.cells #[.int .i64 yk, .int .i64 yc, .int .i64 ys, .int .i64 yq] 99)) = V1 at *
          rw [← hs1]
          clear hs1
          have HBA4 : Hid (Below V1.heap.size V1 (V1.alloc (.cells #[.int .i64 dk, .int .i64 dc, .int .i64 ds, .int .i64 dq] 99))) := (Below.refl _ _).alloc (Nat.le_refl _) _
          have HRA4 := Lib.hid (HRX.out.below HBA4.out)
          have HDA4 := Lib.hid (HDX.out.below HBA4.out)
          have HB04 := Lib.hid (below_step HBX.out HBX.out.size HBA4.out)
          have hsz4 : w.heap.size + 1 ≤ V1.heap.size := HDX.out.lt
          go_wp2_with (at_builtin; refine wpList_append_lies _ (by rfl) _ _ _ (by rfl) (w.heap.size + 1) 99 i0 (depV 0 0 0 0) 4 32 Tryz.underlying35 HI0.out HX0.out.1 HX0.out.2.1 HX0.out.2.2 (by rfl) (by omega) v (zs).length ((zs).flatMap dpVals) (by rfl) HRA4.out ⟨V1.heap.size, 0, none⟩ 1 1 (dpVals ⟨dk, dc, ds, dq⟩) (by rfl) (by rfl) (oneD_cells V1 _ ⟨dk, dc, ds, dq⟩) (dp_one _) (by omega) (by unfold maxLen; (try simp); omega) (by (try simp); omega) (by (try simp); omega) _ rfl ?_; intro g4 cp4 w4 hown4 hgrow4 hg4 _; refine Hid.out ?_)
          refine Lib.hid ?_
          have HB4 : Hid (Below w.heap.size w w4) := HB04.out.grown hgrow4 HB04.out.size fun j hj => by have := (World.ownsRow.lt HRA4.out j hj).1; omega
          have HR4 : Hid (RowD w4 (w.heap.size + 1) (.slice (some ⟨g4, 0, none⟩) ((zs).length + 1) cp4) (zs ++ [⟨dk, dc, ds, dq⟩])) := by
            refine Lib.hid ?_
            unfold RowD
            rw [List.length_append, List.flatMap_append]
            simpa using hown4
          have hob4 : (v).ownBlock ≠ some w.heap.size := fun e => by have := (World.ownsRow.lt HRA4.out _ e).1; omega
          have HD4 : Hid (DBox w4 w.heap.size ⟨dk, dc, ds, dq⟩) := HDA4.out.of_block hgrow4.size (hgrow4.block _ HDA4.out.lt (fun e => hob4 e.symm))
          have HX4 : Hid (DBox w4 wr.heap.size ⟨yk, yc, ys, yq⟩) := (HXX.out.below HBA4.out).of_block hgrow4.size (hgrow4.block _ (HXX.out.below HBA4.out).lt (fun e => hobX e.symm))
          clear d0 d1 d2 d3 x0 x1 x2 x3 hown4 hgrow4 HRA4 HDA4 HBA4 HB04
          have x0 := HX4.out.c0
          have x1 := HX4.out.c1
          have x2 := HX4.out.c2
          have x3 := HX4.out.c3
          have HBA5 : Hid (Below w4.heap.size w4 (w4.alloc (.cells #[.int .i64 yk, .int .i64 yc, .int .i64 ys, .int .i64 yq] 99))) := (Below.refl _ _).alloc (Nat.le_refl _) _
          have HRA5 := Lib.hid (HR4.out.below HBA5.out)
          have HDA5 := Lib.hid (HD4.out.below HBA5.out)
          have HB05 := Lib.hid (below_step HB4.out HB4.out.size HBA5.out)
          have hsz5 : w.heap.size + 1 ≤ w4.heap.size := HD4.out.lt
          go_wp2_with (at_builtin; refine wpList_append_lies _ (by rfl) _ _ _ (by rfl) (w.heap.size + 1) 99 i0 (depV 0 0 0 0) 4 32 Tryz.underlying35 HI0.out HX0.out.1 HX0.out.2.1 HX0.out.2.2 (by rfl) (by omega) (Value.slice (some ⟨g4, 0, none⟩) (zs.length + 1) cp4) (zs ++ [(⟨dk, dc, ds, dq⟩ : Dp)]).length ((zs ++ [(⟨dk, dc, ds, dq⟩ : Dp)]).flatMap dpVals) (by rfl) HRA5.out ⟨w4.heap.size, 0, none⟩ 1 1 (dpVals ⟨yk, yc, ys, yq⟩) (by rfl) (by rfl) (oneD_cells w4 _ ⟨yk, yc, ys, yq⟩) (dp_one _) (by omega) (by unfold maxLen; (try simp); omega) (by (try simp); omega) (by (try simp); omega) _ rfl ?_; intro g5 cp5 w5 hown5 hgrow5 hg5 _; refine Hid.out ?_)
          refine Lib.hid ?_
          have HB5 : Hid (Below w.heap.size w w5) := HB05.out.grown hgrow5 HB05.out.size fun j hj => by have := (World.ownsRow.lt HRA5.out j hj).1; omega
          have HR5 : Hid (RowD w5 (w.heap.size + 1) (.slice (some ⟨g5, 0, none⟩) ((zs ++ [(⟨dk, dc, ds, dq⟩ : Dp)]).length + 1) cp5) (zs ++ [(⟨dk, dc, ds, dq⟩ : Dp)] ++ [⟨yk, yc, ys, yq⟩])) := by
            refine Lib.hid ?_
            unfold RowD
            rw [List.length_append, List.flatMap_append]
            simpa using hown5
          have hob5 : ((Value.slice (some ⟨g4, 0, none⟩) (zs.length + 1) cp4)).ownBlock ≠ some w.heap.size := fun e => by have := (World.ownsRow.lt HRA5.out _ e).1; omega
          have HD5 : Hid (DBox w5 w.heap.size ⟨dk, dc, ds, dq⟩) := HDA5.out.of_block hgrow5.size (hgrow5.block _ HDA5.out.lt (fun e => hob5 e.symm))
          have ez : (zs ++ [(⟨dk, dc, ds, dq⟩ : Dp)]).length + 1 = zs.length + 1 + 1 := by simp
          rw [ez] at HR5
          go_wp2
          exact ⟨⟨k + 1, _, _, true, by omega, by go_num, rfl, rfl, hl2, HE2, HR5, HD5, HB5⟩, by simp [intOf]; omega⟩
        · have HE2 : Hid (laterRun (xs.take (k + 1)) ⟨dk, dc, ds, dq⟩ = (zs ++ [⟨yk, yc, ys, yq⟩], p)) := by
            rw [HT.out]
            unfold laterStep
            simp only [if_neg hkey]
            rw [if_neg hb1]
            exact Lib.hid rfl
          have hl2 : (zs ++ [(⟨yk, yc, ys, yq⟩ : Dp)]).length ≤ k + 1 + 1 := by
            simp
            omega
          by_cases hdy : dk < yk
          · have hpt : p = true := by
              cases p
              · exact absurd ⟨hdy, rfl⟩ hb1
              · rfl
            subst hpt
            clear hb1
            go_wp2_with (at_builtin; refine Hid.out ?_)
            refine Lib.hid ?_
            have hs1 : (wr.alloc (.cells #[.int .i64 yk, .int .i64 yc, .int .i64 ys, .int .i64 yq] 99)).heap.size = wr.heap.size + 1 := by simp
            generalize (wr.alloc (.cells #[.int .i64 yk, .int .i64 yc, .int .i64 ys, .int .i64 yq] 99)) = V1 at *
            rw [← hs1]
            clear hs1
            have HBA5 : Hid (Below V1.heap.size V1 (V1.alloc (.cells #[.int .i64 yk, .int .i64 yc, .int .i64 ys, .int .i64 yq] 99))) := (Below.refl _ _).alloc (Nat.le_refl _) _
            have HRA5 := Lib.hid (HRX.out.below HBA5.out)
            have HDA5 := Lib.hid (HDX.out.below HBA5.out)
            have HB05 := Lib.hid (below_step HBX.out HBX.out.size HBA5.out)
            have hsz5 : w.heap.size + 1 ≤ V1.heap.size := HDX.out.lt
            go_wp2_with (at_builtin; refine wpList_append_lies _ (by rfl) _ _ _ (by rfl) (w.heap.size + 1) 99 i0 (depV 0 0 0 0) 4 32 Tryz.underlying35 HI0.out HX0.out.1 HX0.out.2.1 HX0.out.2.2 (by rfl) (by omega) v (zs).length ((zs).flatMap dpVals) (by rfl) HRA5.out ⟨V1.heap.size, 0, none⟩ 1 1 (dpVals ⟨yk, yc, ys, yq⟩) (by rfl) (by rfl) (oneD_cells V1 _ ⟨yk, yc, ys, yq⟩) (dp_one _) (by omega) (by unfold maxLen; (try simp); omega) (by (try simp); omega) (by (try simp); omega) _ rfl ?_; intro g5 cp5 w5 hown5 hgrow5 hg5 _; refine Hid.out ?_)
            refine Lib.hid ?_
            have HB5 : Hid (Below w.heap.size w w5) := HB05.out.grown hgrow5 HB05.out.size fun j hj => by have := (World.ownsRow.lt HRA5.out j hj).1; omega
            have HR5 : Hid (RowD w5 (w.heap.size + 1) (.slice (some ⟨g5, 0, none⟩) ((zs).length + 1) cp5) (zs ++ [⟨yk, yc, ys, yq⟩])) := by
              refine Lib.hid ?_
              unfold RowD
              rw [List.length_append, List.flatMap_append]
              simpa using hown5
            have hob5 : (v).ownBlock ≠ some w.heap.size := fun e => by have := (World.ownsRow.lt HRA5.out _ e).1; omega
            have HD5 : Hid (DBox w5 w.heap.size ⟨dk, dc, ds, dq⟩) := HDA5.out.of_block hgrow5.size (hgrow5.block _ HDA5.out.lt (fun e => hob5 e.symm))
            go_wp2
            exact ⟨⟨k + 1, _, _, true, by omega, by go_num, rfl, rfl, hl2, HE2, HR5, HD5, HB5⟩, by simp [intOf]; omega⟩
          · clear hb1
            go_wp2_with (at_builtin; refine Hid.out ?_)
            refine Lib.hid ?_
            have hs1 : (wr.alloc (.cells #[.int .i64 yk, .int .i64 yc, .int .i64 ys, .int .i64 yq] 99)).heap.size = wr.heap.size + 1 := by simp
            generalize (wr.alloc (.cells #[.int .i64 yk, .int .i64 yc, .int .i64 ys, .int .i64 yq] 99)) = V1 at *
            rw [← hs1]
            clear hs1
            have HBA5 : Hid (Below V1.heap.size V1 (V1.alloc (.cells #[.int .i64 yk, .int .i64 yc, .int .i64 ys, .int .i64 yq] 99))) := (Below.refl _ _).alloc (Nat.le_refl _) _
            have HRA5 := Lib.hid (HRX.out.below HBA5.out)
            have HDA5 := Lib.hid (HDX.out.below HBA5.out)
            have HB05 := Lib.hid (below_step HBX.out HBX.out.size HBA5.out)
            have hsz5 : w.heap.size + 1 ≤ V1.heap.size := HDX.out.lt
            go_wp2_with (at_builtin; refine wpList_append_lies _ (by rfl) _ _ _ (by rfl) (w.heap.size + 1) 99 i0 (depV 0 0 0 0) 4 32 Tryz.underlying35 HI0.out HX0.out.1 HX0.out.2.1 HX0.out.2.2 (by rfl) (by omega) v (zs).length ((zs).flatMap dpVals) (by rfl) HRA5.out ⟨V1.heap.size, 0, none⟩ 1 1 (dpVals ⟨yk, yc, ys, yq⟩) (by rfl) (by rfl) (oneD_cells V1 _ ⟨yk, yc, ys, yq⟩) (dp_one _) (by omega) (by unfold maxLen; (try simp); omega) (by (try simp); omega) (by (try simp); omega) _ rfl ?_; intro g5 cp5 w5 hown5 hgrow5 hg5 _; refine Hid.out ?_)
            refine Lib.hid ?_
            have HB5 : Hid (Below w.heap.size w w5) := HB05.out.grown hgrow5 HB05.out.size fun j hj => by have := (World.ownsRow.lt HRA5.out j hj).1; omega
            have HR5 : Hid (RowD w5 (w.heap.size + 1) (.slice (some ⟨g5, 0, none⟩) ((zs).length + 1) cp5) (zs ++ [⟨yk, yc, ys, yq⟩])) := by
              refine Lib.hid ?_
              unfold RowD
              rw [List.length_append, List.flatMap_append]
              simpa using hown5
            have hob5 : (v).ownBlock ≠ some w.heap.size := fun e => by have := (World.ownsRow.lt HRA5.out _ e).1; omega
            have HD5 : Hid (DBox w5 w.heap.size ⟨dk, dc, ds, dq⟩) := HDA5.out.of_block hgrow5.size (hgrow5.block _ HDA5.out.lt (fun e => hob5 e.symm))
            go_wp2
            exact ⟨⟨k + 1, _, _, p, by omega, by go_num, rfl, rfl, hl2, HE2, HR5, HD5, HB5⟩, by simp [intOf]; omega⟩
    · have hkn : k = n := by omega
      subst hkn
      have HF : Hid (laterRun xs ⟨dk, dc, ds, dq⟩ = (zs, p)) := by
        have h := HE.out
        rw [List.take_of_length_le (by rw [HN.out]; exact Nat.le_refl _)] at h
        exact Lib.hid h
      have d0 := HD.out.c0
      have d1 := HD.out.c1
      have d2 := HD.out.c2
      have d3 := HD.out.c3
      cases p
      · have HL : Hid (laterL xs ⟨dk, dc, ds, dq⟩ = zs ++ [⟨dk, dc, ds, dq⟩]) := by
          unfold laterL
          rw [HF.out]
          simp [Hid]
        have HBA5 : Hid (Below wr.heap.size wr (wr.alloc (.cells #[.int .i64 dk, .int .i64 dc, .int .i64 ds, .int .i64 dq] 99))) := (Below.refl _ _).alloc (Nat.le_refl _) _
        have HRA5 := Lib.hid (HR.out.below HBA5.out)
        have HDA5 := Lib.hid (HD.out.below HBA5.out)
        have HB05 := Lib.hid (below_step HB.out HB.out.size HBA5.out)
        have hsz5 : w.heap.size + 1 ≤ wr.heap.size := HD.out.lt
        go_wp2_with (at_builtin; refine wpList_append_lies _ (by rfl) _ _ _ (by rfl) (w.heap.size + 1) 99 i0 (depV 0 0 0 0) 4 32 Tryz.underlying35 HI0.out HX0.out.1 HX0.out.2.1 HX0.out.2.2 (by rfl) (by omega) v (zs).length ((zs).flatMap dpVals) (by rfl) HRA5.out ⟨wr.heap.size, 0, none⟩ 1 1 (dpVals ⟨dk, dc, ds, dq⟩) (by rfl) (by rfl) (oneD_cells wr _ ⟨dk, dc, ds, dq⟩) (dp_one _) (by omega) (by unfold maxLen; (try simp); omega) (by (try simp); omega) (by (try simp); omega) _ rfl ?_; intro g5 cp5 w5 hown5 hgrow5 hg5 _; refine Hid.out ?_)
        refine Lib.hid ?_
        have HB5 : Hid (Below w.heap.size w w5) := HB05.out.grown hgrow5 HB05.out.size fun j hj => by have := (World.ownsRow.lt HRA5.out j hj).1; omega
        have HR5 : Hid (RowD w5 (w.heap.size + 1) (.slice (some ⟨g5, 0, none⟩) ((zs).length + 1) cp5) (zs ++ [⟨dk, dc, ds, dq⟩])) := by
          refine Lib.hid ?_
          unfold RowD
          rw [List.length_append, List.flatMap_append]
          simpa using hown5
        have hob5 : (v).ownBlock ≠ some w.heap.size := fun e => by have := (World.ownsRow.lt HRA5.out _ e).1; omega
        have HD5 : Hid (DBox w5 w.heap.size ⟨dk, dc, ds, dq⟩) := HDA5.out.of_block hgrow5.size (hgrow5.block _ HDA5.out.lt (fun e => hob5 e.symm))
        rw [← HL.out] at HR5
        have HRF := Lib.hid (HR5.out.mono (Nat.le_succ _))
        go_wp2
        go_ret
        exact ⟨_, rfl, HRF.out, HB5.out⟩
      · have HL : Hid (laterL xs ⟨dk, dc, ds, dq⟩ = zs) := by
          unfold laterL
          rw [HF.out]
          simp [Hid]
        rw [← HL.out] at HR
        have HRF := Lib.hid (HR.out.mono (Nat.le_succ _))
        go_wp2
        go_ret
        exact ⟨_, rfl, HRF.out, HB.out⟩

end Go.Proofs.YtcapahiklphhjaaGreatDoor

/- The contracts of spec.l07Bit and spec.Because. -/
namespace Go.Proofs.YtcapahiklphhjaaGreatDoor
open Go.ChangeShapes Go.WideShapes Go.ChangeAt Go.RowKit Go.Joins
attribute [local go_sem ↓] Go.wp_at_zero Go.wp_at_succ

/-- Whether this bit is set. -/
def bitB (mask : Int) (k : Int) : Bool := decide (mask / 2 ^ k.toNat % 2 = 1)

def headD (x : Wr) : Dp := ⟨x.k, x.c, x.s, x.q⟩

def becRun (mask : Int) (out : List Dp) (x : Wr) : List Dp := if bitB mask x.k = true then x.xs.foldl laterL (laterL out (headD x)) else out

def becL (ws : List Wr) (mask : Int) : List Dp := ws.foldl (becRun mask) []

def becB (ws : List Wr) (mask : Int) : List Dp := if mapOkB ws = true ∧ 0 ≤ mask then becL ws mask else []

set_option maxRecDepth 100000 in
theorem laterL_len (xs : List Dp) (d : Dp) : (laterL xs d).length ≤ xs.length + 1 := by
  have h := laterRun_len xs d xs.length (Nat.le_refl _)
  rw [List.take_length] at h
  unfold laterL
  split
  · rename_i hp
    rw [if_pos hp] at h
    omega
  · rename_i hp
    rw [if_neg hp] at h
    simp
    omega

set_option maxRecDepth 100000 in
theorem becL_take (ws : List Wr) (mask : Int) (k : Nat) (h : k < ws.length) : becL (ws.take (k + 1)) mask = becRun mask (becL (ws.take k) mask) (ws.getD k wz) := by
  unfold becL
  have e : ws.take (k + 1) = ws.take k ++ [ws.getD k wz] := by
    rw [List.take_add_one, List.getElem?_eq_getElem h]
    simp [List.getD, h]
  rw [e, List.foldl_append]
  rfl

set_option maxRecDepth 100000 in
theorem laterF_take (xs out : List Dp) (k : Nat) (h : k < xs.length) : (xs.take (k + 1)).foldl laterL out = laterL ((xs.take k).foldl laterL out) (xs.getD k dz) := by
  have e : xs.take (k + 1) = xs.take k ++ [xs.getD k dz] := by
    rw [List.take_add_one, List.getElem?_eq_getElem h]
    simp [List.getD, h]
  rw [e, List.foldl_append]
  rfl

set_option maxRecDepth 100000 in
set_option maxHeartbeats 1000000 in
theorem bit7_any (mask : Int) (k : Nat) (w : World) (h0 : 0 ≤ mask) (_h1 : mask ≤ 9223372036854775807) (hk : k ≤ 5) :
    Calls Tryz.prog 67 #[.int .i64 mask, .int .i64 (k : Int)] w fun e w' => e = .returned (.bool (bitB mask (k : Int))) ∧ w' = w := by
  have hp : (0 : Int) < 2 ^ k := Int.pow_pos (by omega)
  have hd0 : 0 ≤ mask / 2 ^ k := Int.ediv_nonneg h0 (by omega)
  have hd1 : mask / 2 ^ k ≤ mask := Int.ediv_le_self _ h0
  have hm : (mask / 2 ^ k).tmod 2 = mask / 2 ^ k % 2 := Int.tmod_eq_emod_of_nonneg hd0
  have k0 : (0 : Int) ≤ (k : Int) := by omega
  have hb : bitB mask (k : Int) = decide (mask / 2 ^ k % 2 = 1) := rfl
  rw [hb]
  clear hb
  go_enter Tryz.func67, Tryz.ntmps67
  go_wp2
  go_ret
  exact ⟨rfl, rfl⟩

end Go.Proofs.YtcapahiklphhjaaGreatDoor

/- Causes: the lists of dependencies by keys, of one key the last, and the six tags of the program's causes. No Go in sight. -/
namespace Go.Proofs.YtcapahiklphhjaaGreatDoor

/-- The keys rise. -/
def RiseD (xs : List Dp) : Prop := xs.Pairwise fun x y => x.k < y.k

/-- A dependency put to a list by keys, said by recursion. -/
def insD : List Dp → Dp → List Dp
  | [], d => [d]
  | x :: r, d => if x.k = d.k then lastD x d :: r else if d.k < x.k then d :: x :: r else x :: insD r d

theorem laterStep_past (d : Dp) : ∀ (xs acc : List Dp), (∀ y ∈ xs, d.k < y.k) → xs.foldl (laterStep d) (acc, true) = (acc ++ xs, true)
  | [], acc, _ => by simp
  | y :: r, acc, h => by
    have hy : d.k < y.k := h y (by simp)
    have e : laterStep d (acc, true) y = (acc ++ [y], true) := by
      unfold laterStep
      rw [if_neg (by omega), if_neg (by simp)]
    rw [List.foldl_cons, e, laterStep_past d r _ fun z hz => h z (by simp [hz])]
    simp

theorem laterStep_fold (d : Dp) : ∀ (xs acc : List Dp), RiseD xs → (if (xs.foldl (laterStep d) (acc, false)).2 = true then (xs.foldl (laterStep d) (acc, false)).1 else (xs.foldl (laterStep d) (acc, false)).1 ++ [d]) = acc ++ insD xs d
  | [], acc, _ => by simp [insD]
  | y :: r, acc, h => by
    have hp := List.pairwise_cons.1 h
    rw [List.foldl_cons]
    unfold insD
    by_cases h1 : y.k = d.k
    · have hr : ∀ z ∈ r, d.k < z.k := fun z hz => by have := hp.1 z hz; omega
      have e : laterStep d (acc, false) y = (acc ++ [lastD y d], true) := by simp [laterStep, h1]
      rw [e, laterStep_past d r _ hr]
      simp [h1]
    · by_cases h2 : d.k < y.k
      · have hr : ∀ z ∈ r, d.k < z.k := fun z hz => by have := hp.1 z hz; omega
        have e : laterStep d (acc, false) y = (acc ++ [d] ++ [y], true) := by simp [laterStep, h1, h2]
        rw [e, laterStep_past d r _ hr]
        simp [h1, h2]
      · have e : laterStep d (acc, false) y = (acc ++ [y], false) := by simp [laterStep, h1, h2]
        rw [e, laterStep_fold d r _ hp.2]
        simp [h1, h2]

theorem laterL_eq {xs : List Dp} (h : RiseD xs) (d : Dp) : laterL xs d = insD xs d := by
  have := laterStep_fold d xs [] h
  rw [List.nil_append] at this
  exact this

/-- Three numbers of a tag; all 0 of none. -/
structure Tg where
  c : Int
  s : Int
  q : Int

def tgz : Tg := ⟨0, 0, 0⟩

def putC (ts : List Tg) (d : Dp) : List Tg := if 0 < tcmp d.c d.s d.q (ts.getD d.k.toNat tgz).c (ts.getD d.k.toNat tgz).s (ts.getD d.k.toNat tgz).q then ts.set d.k.toNat ⟨d.c, d.s, d.q⟩ else ts

theorem putC_len (ts : List Tg) (d : Dp) : (putC ts d).length = ts.length := by
  unfold putC
  split <;> simp

/-- Whether a tag is none. -/
def isZ (t : Tg) : Bool := decide (t.c = 0 ∧ t.s = 0 ∧ t.q = 0)

def tellAt : Nat → List Tg → List Dp
  | _, [] => []
  | i, t :: r => (if isZ t = true then [] else [⟨(i : Int), t.c, t.s, t.q⟩]) ++ tellAt (i + 1) r

theorem tellAt_ge : ∀ (ts : List Tg) (i : Nat), ∀ x ∈ tellAt i ts, (i : Int) ≤ x.k ∧ x.k < i + ts.length
  | [], i, x, h => by simp [tellAt] at h
  | t :: r, i, x, h => by
    unfold tellAt at h
    rcases List.mem_append.1 h with h | h
    · split at h
      · simp at h
      · simp at h
        rw [h]
        simp
        omega
    · have := tellAt_ge r (i + 1) x h
      simp
      omega

theorem tellAt_rise : ∀ (ts : List Tg) (i : Nat), RiseD (tellAt i ts)
  | [], _ => List.Pairwise.nil
  | t :: r, i => by
    unfold tellAt
    split
    · simpa using tellAt_rise r (i + 1)
    · refine List.Pairwise.cons (fun z hz => ?_) (tellAt_rise r (i + 1))
      have := (tellAt_ge r (i + 1) z hz).1
      simp
      omega

theorem insD_past : ∀ (xs : List Dp) (d : Dp), (∀ x ∈ xs, d.k < x.k) → insD xs d = d :: xs
  | [], _, _ => rfl
  | x :: r, d, h => by
    have := h x (by simp)
    unfold insD
    rw [if_neg (by omega), if_pos this]

theorem tellAt_put : ∀ (ts : List Tg) (i : Nat) (d : Dp) (j : Nat), d.k = ((i + j : Nat) : Int) → j < ts.length → 1 ≤ d.c →
    tellAt i (if 0 < tcmp d.c d.s d.q (ts.getD j tgz).c (ts.getD j tgz).s (ts.getD j tgz).q then ts.set j ⟨d.c, d.s, d.q⟩ else ts) = insD (tellAt i ts) d
  | [], i, d, j, _, h, _ => by simp at h
  | t :: r, i, d, 0, hk, _, hc => by
    have hnz : isZ ⟨d.c, d.s, d.q⟩ = false := by
      unfold isZ
      simp
      omega
    have hd : (⟨(i : Int), d.c, d.s, d.q⟩ : Dp) = d := by
      obtain ⟨dk, dc, ds, dq⟩ := d
      simp at hk ⊢
      omega
    have hpast : ∀ x ∈ tellAt (i + 1) r, d.k < x.k := fun x hx => by have := (tellAt_ge r (i + 1) x hx).1; omega
    by_cases hz : isZ t = true
    · have hz' : t = tgz := by
        unfold isZ at hz
        obtain ⟨c, s, q⟩ := t
        simp at hz
        simp [tgz, hz]
      subst hz'
      have hpos : 0 < tcmp d.c d.s d.q 0 0 0 := by
        have h1 : sgn d.c 0 = 1 := by
          unfold sgn
          rw [if_neg (by omega), if_pos (by omega)]
        rw [tcmp_lex, h1]
        unfold lexI
        rw [if_pos (by decide)]
        decide
      simp only [List.getD_cons_zero, List.set_cons_zero, tgz, hpos, if_true]
      unfold tellAt
      rw [hnz]
      simp only [isZ]
      simp [insD_past _ _ hpast, hd]
    · simp only [List.getD_cons_zero, List.set_cons_zero]
      have hzf : isZ t = false := by simpa using hz
      have hneg := tcmp_neg d.c d.s d.q t.c t.s t.q
      conv => rhs; unfold tellAt
      simp only [hzf, Bool.false_eq_true, if_false, List.singleton_append]
      have hins : insD (⟨(i : Int), t.c, t.s, t.q⟩ :: tellAt (i + 1) r) d = lastD ⟨(i : Int), t.c, t.s, t.q⟩ d :: tellAt (i + 1) r := by
        unfold insD
        exact if_pos (by simp [hk])
      rw [hins]
      by_cases hp : 0 < tcmp d.c d.s d.q t.c t.s t.q
      · rw [if_pos hp]
        have hl : lastD ⟨(i : Int), t.c, t.s, t.q⟩ d = d := by
          unfold lastD
          exact if_pos (by show tcmp t.c t.s t.q d.c d.s d.q < 0; omega)
        rw [hl]
        conv => lhs; unfold tellAt
        simp only [hnz, Bool.false_eq_true, if_false, List.singleton_append, hd]
      · rw [if_neg hp]
        have hl : lastD ⟨(i : Int), t.c, t.s, t.q⟩ d = ⟨(i : Int), t.c, t.s, t.q⟩ := by
          unfold lastD
          exact if_neg (by show ¬ tcmp t.c t.s t.q d.c d.s d.q < 0; omega)
        rw [hl]
        conv => lhs; unfold tellAt
        simp only [hzf, Bool.false_eq_true, if_false, List.singleton_append]
  | t :: r, i, d, j + 1, hk, hj, hc => by
    have ih := tellAt_put r (i + 1) d j (by rw [hk]; omega) (by simpa using hj) hc
    simp only [List.getD_cons_succ, List.set_cons_succ]
    have hins : insD (tellAt i (t :: r)) d = (if isZ t = true then [] else [⟨(i : Int), t.c, t.s, t.q⟩]) ++ insD (tellAt (i + 1) r) d := by
      conv => lhs; unfold tellAt
      split
      · rfl
      · simp only [List.singleton_append]
        conv => lhs; unfold insD
        rw [if_neg (by simp; omega), if_neg (by simp; omega)]
    rw [hins, ← ih]
    split
    · rw [tellAt]
    · rw [tellAt]

def tellC (ts : List Tg) : List Dp := tellAt 0 ts

theorem tell_put (ts : List Tg) (d : Dp) (hl : ts.length = 6) (h0 : 0 ≤ d.k) (h1 : d.k ≤ 5) (hc : 1 ≤ d.c) : tellC (putC ts d) = laterL (tellC ts) d := by
  unfold tellC
  rw [laterL_eq (tellAt_rise ts 0)]
  exact tellAt_put ts 0 d d.k.toNat (by omega) (by omega) hc

theorem tell_puts : ∀ (xs : List Dp) (ts : List Tg), ts.length = 6 → (∀ d ∈ xs, (0 ≤ d.k ∧ d.k ≤ 5) ∧ 1 ≤ d.c) → tellC (xs.foldl putC ts) = xs.foldl laterL (tellC ts) ∧ (xs.foldl putC ts).length = 6
  | [], _, hl, _ => ⟨rfl, hl⟩
  | d :: r, ts, hl, h => by
    have hd := h d (by simp)
    have := tell_puts r (putC ts d) (by rw [putC_len]; exact hl) fun x hx => h x (by simp [hx])
    rw [tell_put ts d hl hd.1.1 hd.1.2 hd.2] at this
    exact this

def cz : List Tg := [tgz, tgz, tgz, tgz, tgz, tgz]

theorem tell_cz : tellC cz = [] := by decide

/-- The program's causes behind one write. -/
def cauRun (mask : Int) (ts : List Tg) (x : Wr) : List Tg := if bitB mask x.k = true then x.xs.foldl putC (putC ts (headD x)) else ts

def cauL (ws : List Wr) (mask : Int) : List Tg := ws.foldl (cauRun mask) cz

theorem tagOk_c {c s q : Int} (h : tagOkB c s q = true) : 1 ≤ c := by
  simp [tagOkB, btw] at h
  omega

theorem cau_run {x : Wr} (hx : okW x = true) (mask : Int) (ts : List Tg) (hl : ts.length = 6) : tellC (cauRun mask ts x) = becRun mask (tellC ts) x ∧ (cauRun mask ts x).length = 6 := by
  unfold cauRun becRun
  obtain ⟨hk, ht, hd⟩ := okW_parts hx
  split
  · have h1 := tell_put ts (headD x) hl hk.1 hk.2 (tagOk_c ht)
    have := tell_puts x.xs (putC ts (headD x)) (by rw [putC_len]; exact hl) fun d hd' => ⟨(depsOk_each hd hd').1, tagOk_c (depsOk_each hd hd').2⟩
    rw [h1] at this
    exact this
  · exact ⟨rfl, hl⟩

theorem cau_fold (mask : Int) : ∀ (ws : List Wr) (ts : List Tg), ts.length = 6 → (∀ x ∈ ws, okW x = true) → tellC (ws.foldl (cauRun mask) ts) = ws.foldl (becRun mask) (tellC ts) ∧ (ws.foldl (cauRun mask) ts).length = 6
  | [], _, hl, _ => ⟨rfl, hl⟩
  | x :: r, ts, hl, h => by
    obtain ⟨h1, h2⟩ := cau_run (h x (by simp)) mask ts hl
    have := cau_fold mask r (cauRun mask ts x) h2 fun y hy => h y (by simp [hy])
    rw [h1] at this
    exact this

/-- What the causes tell is what the specification gathers. -/
theorem cau_tell {ws : List Wr} (h : mapOkB ws = true) (mask : Int) : tellC (cauL ws mask) = becL ws mask := by
  have := (cau_fold mask ws cz rfl ((mapOk_iff ws).1 h).1).1
  rw [tell_cz] at this
  exact this

end Go.Proofs.YtcapahiklphhjaaGreatDoor

/- Marks of a row of dependencies of one's own, of whatever length. -/
namespace Go.Proofs.YtcapahiklphhjaaGreatDoor
open Go.ChangeShapes Go.WideShapes Go.ChangeAt Go.RowKit Go.Joins

theorem OwnD.below {w w' : World} {lo hi : Nat} {a : Option Addr} {ds : List Dp} (h : OwnD w lo hi a ds) (hb : Below w.heap.size w w') : OwnD w' lo hi a ds := by
  rcases h with h | ⟨g, ha, h1, h2, h3, h4, h5⟩
  · exact .inl h
  · exact .inr ⟨g, ha, h1, h2, Nat.lt_of_lt_of_le h3 hb.size, h4.below hb h3, fun o => (hb.frozen (p := ⟨g, o, none⟩) h3).trans (h5 o)⟩

theorem OwnD.only {w w' : World} {S : Nat → Prop} {lo hi : Nat} {a : Option Addr} {ds : List Dp} (h : OwnD w lo hi a ds) (ho : Only S w w') (hS : ∀ x, S x → x < lo ∨ hi ≤ x) : OwnD w' lo hi a ds := by
  rcases h with h | ⟨g, ha, h1, h2, h3, h4, h5⟩
  · exact .inl h
  · have hb := ho.block g fun hs => by have := hS g hs; omega
    refine .inr ⟨g, ha, h1, h2, by rw [ho.size]; exact h3, fun i hi => ?_, fun o => (ho.frozen _).trans (h5 o)⟩
    have e : ∀ o, w'.cell? ⟨g, o, none⟩ = w.cell? ⟨g, o, none⟩ := fun o => World.cell?_of_block (a := ⟨g, o, none⟩) hb
    obtain ⟨a0, a1, a2, a3⟩ := h4 i hi
    exact ⟨(e _).trans a0, (e _).trans a1, (e _).trans a2, (e _).trans a3⟩

def MarkedD (w : World) (a : Option Addr) (ds : List Dp) (k : Int) : Prop := ds = [] ∨ ∃ g, a = some ⟨g, 0, none⟩ ∧ g < w.heap.size ∧ CellsAre w g (ds.length * 4) (markFn k)

theorem MarkedD.below {w w' : World} {a : Option Addr} {ds : List Dp} {k : Int} (h : MarkedD w a ds k) (hb : Below w.heap.size w w') : MarkedD w' a ds k := by
  rcases h with h | ⟨g, ha, h1, h2⟩
  · exact .inl h
  · exact .inr ⟨g, ha, Nat.lt_of_lt_of_le h1 hb.size, h2.of_block (hb.block g h1)⟩

theorem deps_cellsAre {w : World} {g : Nat} {ds : List Dp} (h : HoldsDeps w g 0 ds) : CellsAre w g (ds.length * 4) (fun o => (w.cell? ⟨g, o, none⟩).getD undef) := fun o ho => by
  obtain ⟨a0, a1, a2, a3⟩ := h (o / 4) (by omega)
  have hs : ∃ v, w.cell? ⟨g, o, none⟩ = some v := by
    have : o = 0 + o / 4 * 4 ∨ o = 0 + o / 4 * 4 + 1 ∨ o = 0 + o / 4 * 4 + 2 ∨ o = 0 + o / 4 * 4 + 3 := by omega
    rcases this with e | e | e | e <;> rw [e]
    · exact ⟨_, a0⟩
    · exact ⟨_, a1⟩
    · exact ⟨_, a2⟩
    · exact ⟨_, a3⟩
  obtain ⟨v, hv⟩ := hs
  show w.cell? ⟨g, o, none⟩ = some ((w.cell? ⟨g, o, none⟩).getD undef)
  rw [hv]
  rfl

theorem markDepS_all (lo hi n cap : Nat) (a : Option Addr) (k : Int) (ds : List Dp) (w : World) (hn : ds.length = n) (hm : n ≤ 1048576) (h0 : 0 ≤ k) (h1 : k ≤ 1099511627776) (h : OwnD w lo hi a ds) :
    Calls Tryz.prog 51 #[.slice a n cap, .int .i64 k] w fun e w' => e = .returned (.int .i64 (k + 4 * n)) ∧ MarkedD w' a ds k ∧ Only (fun b => lo ≤ b ∧ b < hi) w w' := by
  rcases h with h | ⟨g, ha, g1, g2, g3, g4, g5⟩
  · subst h
    have hn0 : n = 0 := by rw [← hn]; rfl
    subst hn0
    refine (markDepS_any a 0 0 cap k (fun _ => undef) w (by omega) h0 h1 (fun h => absurd h (Nat.lt_irrefl 0)) (fun o ho => by omega) (fun h => absurd h (Nat.lt_irrefl 0))).mono ?_
    rintro e w' ⟨he, -, ho⟩
    exact ⟨he, .inl rfl, ⟨ho.os, ho.tape, ho.output, ho.size, fun b _ => ho.block b (by rintro ⟨h, _⟩; omega), ho.frozen⟩⟩
  · have hc := deps_cellsAre g4
    rw [hn] at hc
    refine (markDepS_any a g n cap k _ w hm h0 h1 (fun _ => ha) hc (fun _ => g5)).mono ?_
    rintro e w' ⟨he, hk, ho⟩
    refine ⟨he, .inr ⟨g, ha, by rw [ho.size]; exact g3, by rw [hn]; exact hk⟩, ⟨ho.os, ho.tape, ho.output, ho.size, fun b hb => ho.block b (by rintro ⟨_, rfl⟩; exact hb ⟨g1, g2⟩), ho.frozen⟩⟩

theorem heldDepS_all (n cap : Nat) (a : Option Addr) (k : Int) (ds : List Dp) (w : World) (hn : ds.length = n) (hm : n ≤ 1048576) (h0 : 0 ≤ k) (h1 : k ≤ 1099511627776) (h : MarkedD w a ds k) :
    Calls Tryz.prog 52 #[.slice a n cap, .int .i64 k] w fun e w' => e = .returned (.int .i64 (k + 4 * n)) ∧ w' = w := by
  rcases h with h | ⟨g, ha, g1, g2⟩
  · subst h
    have hn0 : n = 0 := by rw [← hn]; rfl
    subst hn0
    exact heldDepS_any a 0 0 cap k w (by omega) h0 h1 (fun h => absurd h (Nat.lt_irrefl 0)) (fun o ho => by omega)
  · rw [hn] at g2
    exact heldDepS_any a g n cap k w hm h0 h1 (fun _ => ha) g2

end Go.Proofs.YtcapahiklphhjaaGreatDoor

/- The contract of spec.Because. -/
namespace Go.Proofs.YtcapahiklphhjaaGreatDoor
open Go.ChangeShapes Go.WideShapes Go.ChangeAt Go.RowKit Go.Joins
attribute [local go_sem ↓] Go.wp_at_zero Go.wp_at_succ

theorem laterF_len : ∀ (xs out : List Dp), (xs.foldl laterL out).length ≤ out.length + xs.length
  | [], out => by simp
  | d :: r, out => by
    have h1 := laterF_len r (laterL out d)
    have h2 := laterL_len out d
    simp only [List.foldl_cons, List.length_cons]
    omega

theorem becRun_len {x : Wr} (h : x.xs.length ≤ 6) (mask : Int) (out : List Dp) : (becRun mask out x).length ≤ out.length + 7 := by
  unfold becRun
  split
  · have h1 := laterF_len x.xs (laterL out (headD x))
    have h2 := laterL_len out (headD x)
    omega
  · omega

theorem becF_len (mask : Int) : ∀ (ws : List Wr) (out : List Dp), (∀ x ∈ ws, x.xs.length ≤ 6) → (ws.foldl (becRun mask) out).length ≤ out.length + 7 * ws.length
  | [], out, _ => by simp
  | x :: r, out, h => by
    have h1 := becF_len mask r (becRun mask out x) fun y hy => h y (by simp [hy])
    have h2 := becRun_len (h x (by simp)) mask out
    simp only [List.foldl_cons, List.length_cons]
    omega

theorem becL_len {ws : List Wr} (h : mapOkB ws = true) (mask : Int) (k : Nat) : (becL (ws.take k) mask).length ≤ 42 := by
  have hx := ((mapOk_iff ws).1 h).1
  have h1 := becF_len mask (ws.take k) [] fun y hy => okW_len (hx y (List.mem_of_mem_take hy))
  have h2 := mapOk_len h
  have h3 : (ws.take k).length ≤ ws.length := by simp; omega
  unfold becL
  simp only [List.length_nil] at h1
  omega

set_option maxRecDepth 100000 in
set_option maxHeartbeats 8000000 in
theorem specBecause_any (a : Option Addr) (n cap : Nat) (ws : List Wr) (mask : Int) (w : World) (hn : ws.length = n) (hm : n ≤ 1048576) (hx : Few ws) (hh : IsWs w a ws) (hM : mask ≤ 9223372036854775807) :
    Calls Tryz.prog 76 #[.slice a n cap, .int .i64 mask] w fun e w' => ∃ v, e = .returned v ∧ RowD w' w.heap.size v (becB ws mask) ∧ Below w.heap.size w w' := by
  have HH := Lib.hid hh
  have HN := Lib.hid hn
  have HX := Lib.hid hx
  clear hh hn hx
  have HB0 : Hid (Below w.heap.size w (w.alloc (.cells #[] 99))) := (Below.refl _ _).alloc (Nat.le_refl _) _
  have HR0 : Hid (RowD (w.alloc (.cells #[] 99)) w.heap.size (.slice (some ⟨w.heap.size, 0, none⟩) 0 0) []) := World.ownsRow_made (e := 99) (size := 4) w #[] 0 (Nat.le_refl _) (by simp [maxLen]) (by simp)
  go_enter Tryz.func76, Tryz.ntmps76
  go_wp2_with fail
  generalize w.alloc (.cells #[] 99) = W0 at *
  refine (specMapOk_gen _ n _ ws _ HN.out hm HX.out (HH.out.below HB0.out)).mono ?_
  rintro e w1 ⟨rfl, hb⟩
  have HB1 := Lib.hid (below_step HB0.out HB0.out.size hb)
  have HR1 := Lib.hid (HR0.out.below hb)
  clear hb HB0 HR0
  by_cases hok : mapOkB ws = true
  rotate_left
  · have hokf : mapOkB ws = false := by simpa using hok
    have HE : Hid (becB ws mask = []) := by unfold becB; rw [if_neg (by simp [hokf])]; exact Lib.hid rfl
    rw [hokf]
    clear hok hokf
    go_wp2
    go_ret
    exact ⟨_, rfl, by rw [HE.out]; exact HR1.out, HB1.out⟩
  by_cases hm0 : mask < 0
  · have HE : Hid (becB ws mask = []) := by unfold becB; rw [if_neg (by omega)]; exact Lib.hid rfl
    rw [hok]
    clear hok
    go_wp2
    go_ret
    exact ⟨_, rfl, by rw [HE.out]; exact HR1.out, HB1.out⟩
  have hm0' : 0 ≤ mask := by omega
  have HE : Hid (becB ws mask = becL ws mask) := by unfold becB; rw [if_pos ⟨hok, hm0'⟩]; exact Lib.hid rfl
  have HLN : Hid (∀ k, (becL (ws.take k) mask).length ≤ 42) := fun k => becL_len hok mask k
  have HOK : Hid (∀ x ∈ ws, okW x = true) := ((mapOk_iff ws).1 hok).1
  rw [hok]
  clear hok
  go_wp2
  go_loopw [5, 6, 7] (fun t i _ wr => ∃ (k : Nat) (v : Value), k ≤ n ∧ i = .int .i64 k ∧ v = t ∧ Hid (RowD wr w.heap.size v (becL (ws.take k) mask)) ∧ Hid (Below w.heap.size w wr)) (fun _ i _ _ => n - (intOf i).toNat)
  case atStart => exact ⟨0, _, Nat.zero_le _, rfl, rfl, HR1, HB1⟩
  case round =>
    clear HR1 HB1
    obtain ⟨k, v, hk, rfl, rfl, HR, HB⟩ := hrel
    by_cases hk' : k < n
    · have hkw : k < ws.length := by rw [HN.out]; exact hk'
      have i1 : (0 : Int) ≤ (k : Int) := by omega
      have i2 : (k : Int) < (n : Int) := by omega
      obtain ⟨b, o, ad, cp, rfl, hz, ⟨e0, e1, e2, e3, e4, e5, e6⟩, hde⟩ := HH.out.at HB.out HN.out hk'
      have HT := Lib.hid (becL_take ws mask k hkw)
      have hok1 := HOK.out (ws.getD k wz) (by simp [List.getD, hkw])
      have hkey := okW_key hok1
      have hxl := okW_len hok1
      have hlk := HLN.out k
      clear hok1
      obtain ⟨zs, hzs⟩ : ∃ zs, zs = becL (ws.take k) mask := ⟨_, rfl⟩
      rw [← hzs] at HT HR hlk
      clear hzs
      generalize ws.getD k wz = x at *
      obtain ⟨xk, xc, xs', xq, xv, xd, xx⟩ := x
      simp only at e0 e1 e2 e3 e4 e5 e6 HT hkey hxl hde
      obtain ⟨kk, rfl⟩ : ∃ kk : Nat, xk = (kk : Int) := ⟨xk.toNat, by omega⟩
      have hk5 : kk ≤ 5 := by omega
      go_wp2_with fail
      refine (bit7_any mask kk _ hm0' hM hk5).mono ?_
      rintro e w2 ⟨rfl, hw⟩
      subst w2
      by_cases hbit : bitB mask (kk : Int) = true
      rotate_left
      · have hbf : bitB mask (kk : Int) = false := by simpa using hbit
        rw [hbf]
        have HR2 : Hid (RowD wr w.heap.size v (becL (ws.take (k + 1)) mask)) := by
          rw [HT.out]
          unfold becRun
          rw [if_neg (by simpa using hbf)]
          exact HR
        clear hbit hbf
        go_wp2
        exact ⟨⟨k + 1, v, by omega, by go_num, rfl, HR2, HB⟩, by simp [intOf]; omega⟩
      rw [hbit]
      have HT2 : Hid (becL (ws.take (k + 1)) mask = xx.foldl laterL (laterL zs ⟨(kk : Int), xc, xs', xq⟩)) := by
        rw [HT.out]
        unfold becRun
        rw [if_pos hbit]
        exact Lib.hid rfl
      clear hbit HT
      obtain ⟨sa, sc, rfl, hs⟩ := HR.out.form
      have HSD : Hid (IsDeps wr sa zs) := hs.isDeps
      have HDE := Lib.hid hde
      clear hs hde HR
      go_wp2_with fail
      refine wp_region_slots 12 [[(5, false)], [(0, false)], [(6, false)], [(32, true), (33, true)], [(34, true)], [(35, true)], [(0, false)], [(6, false)], [(37, true), (38, true)], [(39, true)], [(40, true)], [(36, true), (41, true)]] (fun w' => w' = wr.drew) (fun w w' => w' = w) (by kernel_rfl) (by kernel_rfl) (by rfl) rfl (fun w w' h1 h2 => h2.trans h1) ?_
      iterate 12 (apply slot_eq; · (rintro ρ w' ⟨p1, p2, p3⟩ rfl hn; simp at hn; go_simp; exact ⟨rfl, rfl⟩))
      refine slot_end ?_
      rintro tv w4 rfl hF
      simp at hF
      obtain ⟨f42, f41, f40, f39, f38, f37, f36, f35, f34, f33, f32, f31⟩ := hF
      simp only [List.take_succ_cons, List.take_zero, List.drop_succ_cons, List.drop_zero, putAll, f42, f41, f40, f39, f38, f37, f36, f35, f34, f33, f32, f31]
      clear f42 f41 f40 f39 f38 f37 f36 f35 f34 f33 f32 f31
      simp only [Act.put, List.setIfInBounds_toArray, List.set_cons_succ, List.set_cons_zero]
      go_wp2_with fail
      refine (later_any sa zs.length sc zs ⟨(kk : Int), xc, xs', xq⟩ wr.drew rfl (by omega) HSD.out).mono ?_
      rintro e w5 ⟨v5, rfl, hrow, hb⟩
      have hb' : Below wr.heap.size wr w5 := below_step (Below.refl _ _).drew (Nat.le_refl _) hb
      have HB5 := Lib.hid (below_step HB.out HB.out.size hb')
      have hsw : w.heap.size ≤ wr.heap.size := HB.out.size
      have HR5 : Hid (RowD w5 w.heap.size v5 (laterL zs ⟨(kk : Int), xc, xs', xq⟩)) := hrow.mono hsw
      have HDE5 := Lib.hid (HDE.out.below hb')
      have hl5 := laterL_len zs ⟨(kk : Int), xc, xs', xq⟩
      have hz5 : b < w5.heap.size := Nat.lt_of_lt_of_le hz hb'.size
      have HBW : Hid (Below wr.heap.size wr w5) := hb'
      clear hb hb' hrow HSD HDE
      generalize laterL zs ⟨(kk : Int), xc, xs', xq⟩ = ys at *
      obtain ⟨W1, hW1⟩ : ∃ W1, W1 = wr := ⟨wr, rfl⟩
      rw [← hW1] at e0 e1 e2 e3 e4 e5 e6 HBW HB hz
      clear hW1
      have HC6 : Hid (∀ w', Below W1.heap.size W1 w' → w'.cell? ⟨b, o + k * 7 + 6, none⟩ = some (.slice ad xx.length cp)) := fun w' hb => (World.cell?_of_block (hb.block b hz)).trans e6
      clear e0 e1 e2 e3 e4 e5 e6
      go_wp2
      go_loopw [5, 7] (fun t j wr => ∃ (p : Nat) (u : Value), p ≤ xx.length ∧ j = .int .i64 p ∧ u = t ∧ Hid (RowD wr w.heap.size u ((xx.take p).foldl laterL ys)) ∧ Hid (Below w.heap.size w wr) ∧ Hid (Below W1.heap.size W1 wr) ∧ Hid (IsDeps wr ad xx)) (fun _ j _ => xx.length - (intOf j).toNat)
      case atStart => exact ⟨0, _, Nat.zero_le _, rfl, rfl, HR5, HB5, HBW, HDE5⟩
      case round =>
        clear HR5 HB5 HBW HDE5 hz5
        obtain ⟨p, u, hp, rfl, rfl, HR5, HB5, HBW, HDE5⟩ := hrel
        have c6 := HC6.out wr HBW.out
        have hz5 : b < wr.heap.size := Nat.lt_of_lt_of_le hz HBW.out.size
        by_cases hp' : p < xx.length
        · have j1 : (0 : Int) ≤ (p : Int) := by omega
          have j2 : (p : Int) < (xx.length : Int) := by omega
          obtain ⟨b', o', rfl, hz', d0, d1, d2, d3⟩ := HDE5.out.at (Below.refl _ _) hp'
          have HT3 := Lib.hid (laterF_take xx ys p hp')
          have hlf := laterF_len (xx.take p) ys
          have hlt : (xx.take p).length ≤ 6 := by simp; omega
          obtain ⟨us, hus⟩ : ∃ us, us = (xx.take p).foldl laterL ys := ⟨_, rfl⟩
          rw [← hus] at HT3 HR5 hlf
          clear hus
          generalize xx.getD p dz = d at *
          obtain ⟨dk, dc, ds, dq⟩ := d
          simp only at d0 d1 d2 d3
          obtain ⟨ua, uc, rfl, hu⟩ := HR5.out.form
          have HSD : Hid (IsDeps wr ua us) := hu.isDeps
          clear hu
          go_wp2_with fail
          refine (later_any ua us.length uc us ⟨dk, dc, ds, dq⟩ _ rfl (by omega) HSD.out).mono ?_
          rintro e w6 ⟨v6, rfl, hrow, hb⟩
          have HB6 := Lib.hid (below_step HB5.out HB5.out.size hb)
          have HBW6 := Lib.hid (below_step HBW.out HBW.out.size hb)
          have hsw6 : w.heap.size ≤ wr.heap.size := HB5.out.size
          have HR6 : Hid (RowD w6 w.heap.size v6 ((xx.take (p + 1)).foldl laterL ys)) := by
            rw [HT3.out]
            exact hrow.mono hsw6
          have HDE6 := Lib.hid (HDE5.out.below hb)
          clear hb hrow
          go_wp2
          exact ⟨⟨p + 1, v6, by omega, by go_num, rfl, HR6, HB6, HBW6, HDE6⟩, by simp [intOf]; omega⟩
        · have hpp : p = xx.length := by omega
          subst hpp
          rw [List.take_length, ← HT2.out] at HR5
          go_wp2
          exact ⟨⟨k + 1, _, by omega, by go_num, rfl, HR5, HB5⟩, by simp [intOf]; omega⟩
    · have hkk : k = n := by omega
      subst hkk
      have e : ws.take k = ws := List.take_of_length_le (by rw [HN.out]; exact Nat.le_refl _)
      rw [e] at HR
      go_wp2
      go_ret
      exact ⟨_, rfl, by rw [HE.out]; exact HR.out, HB.out⟩

end Go.Proofs.YtcapahiklphhjaaGreatDoor

/- The registers' putAll over a list that was made behind the registers. -/
namespace Go.Proofs.YtcapahiklphhjaaGreatDoor
open Go.ChangeShapes Go.WideShapes Go.ChangeAt Go.RowKit Go.Joins
attribute [local go_sem ↓] Go.wp_at_zero Go.wp_at_succ

/-- Dependencies that lie in no cell of block b. -/
def IsDepsX (b : Nat) (w : World) (a : Option Addr) (xs : List Dp) : Prop := xs = [] ∨ ∃ g o, a = some ⟨g, o, none⟩ ∧ g ≠ b ∧ g < w.heap.size ∧ HoldsDeps w g o xs

/-- Writes that lie, with their dependencies, in no cell of block b. -/
def IsWsX (b : Nat) (w : World) (a : Option Addr) (ws : List Wr) : Prop :=
  ws = [] ∨ ∃ g o, a = some ⟨g, o, none⟩ ∧ g ≠ b ∧ g < w.heap.size ∧ ∀ i, i < ws.length → ∃ a' cap, WrAt w g (o + i * 7) (ws.getD i wz) a' cap ∧ IsDepsX b w a' (ws.getD i wz).xs

theorem holdsDeps_block {w w' : World} {g o : Nat} {xs : List Dp} (h : HoldsDeps w g o xs) (hb : w'.heap[g]? = w.heap[g]?) : HoldsDeps w' g o xs := fun i hi => by
  have e : ∀ o, w'.cell? ⟨g, o, none⟩ = w.cell? ⟨g, o, none⟩ := fun o => World.cell?_of_block (a := ⟨g, o, none⟩) hb
  obtain ⟨a0, a1, a2, a3⟩ := h i hi
  exact ⟨(e _).trans a0, (e _).trans a1, (e _).trans a2, (e _).trans a3⟩

theorem IsDepsX.now {b : Nat} {w w' : World} {a : Option Addr} {xs : List Dp} (h : IsDepsX b w a xs) (hg : w.grownBy w' (some b)) : IsDeps w' a xs := by
  rcases h with h | ⟨g, o, ha, hne, hlt, hh⟩
  · exact .inl h
  · exact .inr ⟨g, o, ha, Nat.lt_of_lt_of_le hlt hg.size, holdsDeps_block hh (hg.block g hlt (by simpa using hne))⟩

theorem IsDeps.away {b : Nat} {w : World} {a : Option Addr} {xs : List Dp} (h : IsDeps w a xs) {w' : World} (hb : Below w.heap.size w w') (hB : w.heap.size ≤ b) : IsDepsX b w' a xs := by
  rcases h with h | ⟨g, o, ha, hlt, hh⟩
  · exact .inl h
  · exact .inr ⟨g, o, ha, by omega, Nat.lt_of_lt_of_le hlt hb.size, hh.below hb hlt⟩

theorem IsWs.away {b : Nat} {w : World} {a : Option Addr} {ws : List Wr} (h : IsWs w a ws) {w' : World} (hb : Below w.heap.size w w') (hB : w.heap.size ≤ b) : IsWsX b w' a ws := by
  rcases h with h | ⟨g, o, ha, hlt, hh⟩
  · exact .inl h
  · refine .inr ⟨g, o, ha, by omega, Nat.lt_of_lt_of_le hlt hb.size, fun i hi => ?_⟩
    obtain ⟨a', cap, h1, _, h3⟩ := hh i hi
    exact ⟨a', cap, h1.of_block (hb.block _ hlt), h3.away hb hB⟩

/-- One write of a slice, in a later world; its dependencies in the world of the slice. -/
theorem IsWsX.base {b : Nat} {w w' : World} {a : Option Addr} {ws : List Wr} (h : IsWsX b w a ws) (hb : w.grownBy w' (some b)) {k n : Nat} (hn : ws.length = n) (hk : k < n) :
    ∃ g o a' cap, a = some ⟨g, o, none⟩ ∧ g < w'.heap.size ∧ WrAt w' g (o + k * 7) (ws.getD k wz) a' cap ∧ IsDepsX b w a' (ws.getD k wz).xs := by
  rcases h with h | ⟨g, o, ha, hne, hlt, hh⟩
  · subst h
    simp at hn
    omega
  · obtain ⟨a', cap, h1, h3⟩ := hh k (by omega)
    exact ⟨g, o, a', cap, ha, Nat.lt_of_lt_of_le hlt hb.size, h1.of_block (hb.block g hlt (by simpa using hne)), h3⟩

/-- A row of one's own that was made behind block b. -/
theorem RowG.away {b base : Nat} {w : World} {v : Value} {es : List EnG} (h : RowG w base v es) (hB : b < base) {ws : List Wr} (hw : es.map (·.x) = ws) (hl : ∀ x ∈ ws, x.xs.length ≤ 1048576) : ∃ a cap, v = .slice a ws.length cap ∧ IsWsX b w a ws := by
  subst hw
  rcases h.own.2 with ⟨h1, h2⟩ | ⟨g, cap, cur, h1, h2, h3, _⟩
  · have : es = [] := List.length_eq_zero_iff.1 h2
    subst this
    exact ⟨none, 0, h1, .inl rfl⟩
  · subst h1
    have hlt : g < w.heap.size := (h.own.lt g rfl).2
    refine ⟨_, cap, by rw [List.length_map], .inr ⟨g, 0, rfl, by omega, hlt, fun i hi => ?_⟩⟩
    have hi' : i < es.length := by simpa using hi
    have hm : es.getD i ezG ∈ es := by simp [List.getD, hi']
    have hx : (es.map (·.x)).getD i wz = (es.getD i ezG).x := by simp [List.getD, hi']
    rw [hx, Nat.zero_add]
    have c : ∀ c, c < 7 → w.cell? ⟨g, i * 7 + c, none⟩ = (wrValsG (es.getD i ezG))[c]? := fun c hc => by rw [h.own.cellAt _ (by omega), valsG_at es i c hi' hc]
    refine ⟨(es.getD i ezG).a, (es.getD i ezG).cp, ⟨c 0 (by omega), c 1 (by omega), c 2 (by omega), c 3 (by omega), c 4 (by omega), c 5 (by omega), c 6 (by omega)⟩, ?_⟩
    by_cases hp : 0 < (es.getD i ezG).x.xs.length
    · obtain ⟨h4, h5, h6, h7, _⟩ := (h.deps _ hm).1 hp
      exact .inr ⟨_, 0, h4, by omega, h6, h7⟩
    · exact .inl (List.length_eq_zero_iff.1 (by omega))

/-- Registers that hold the writes M, whose dependencies lie in the world w0, off the registers. -/
def RegsX (w0 w : World) (b n : Nat) (M : Int → Option Wr) : Prop :=
  ∃ f, RegsAre w b n f ∧ ∀ k, (M k = none → f k = none) ∧ ∀ x, M k = some x → ∃ ad cp, f k = some (wrOf x ad cp) ∧ IsDepsX b w0 ad x.xs ∧ x.xs.length ≤ 1048576

theorem RegsX.of_block {w0 w w' : World} {b n : Nat} {M : Int → Option Wr} (h : RegsX w0 w b n M) (hb : w'.heap[b]? = w.heap[b]?) : RegsX w0 w' b n M := by
  obtain ⟨f, h1, h2⟩ := h
  exact ⟨f, h1.of_block hb, h2⟩

theorem RegsX.lt {w0 w : World} {b n : Nat} {M : Int → Option Wr} (h : RegsX w0 w b n M) : b < w.heap.size := by
  obtain ⟨f, h1, _⟩ := h
  exact h1.lt

theorem RegsX.below {w0 w w' : World} {b n : Nat} {M : Int → Option Wr} (h : RegsX w0 w b n M) (hb : Below w.heap.size w w') : RegsX w0 w' b n M := h.of_block (hb.block b h.lt)

/-- .. as they lie in a later world. -/
theorem RegsX.now {w0 w : World} {b n : Nat} {M : Int → Option Wr} (h : RegsX w0 w b n M) (hg : w0.grownBy w (some b)) : RegsW w w b n M := by
  obtain ⟨f, h1, h2⟩ := h
  refine ⟨f, h1, fun k => ⟨(h2 k).1, fun x hx => ?_⟩⟩
  obtain ⟨ad, cp, h3, h4, h5⟩ := (h2 k).2 x hx
  exact ⟨ad, cp, h3, h4.now hg, h5⟩

theorem RegsW.away {w0 w : World} {b n : Nat} {M : Int → Option Wr} (h : RegsW w0 w b n M) (hb : Below w0.heap.size w0 w) (hB : w0.heap.size ≤ b) : RegsX w w b n M := by
  obtain ⟨f, h1, h2⟩ := h
  refine ⟨f, h1, fun k => ⟨(h2 k).1, fun x hx => ?_⟩⟩
  obtain ⟨ad, cp, h3, h4, h5⟩ := (h2 k).2 x hx
  exact ⟨ad, cp, h3, h4.away hb hB, h5⟩

/-- .. a later world takes the place of the one in which they lie. -/
theorem RegsX.later {w0 w w' : World} {b n : Nat} {M : Int → Option Wr} (h : RegsX w0 w b n M) (hb : Below w0.heap.size w0 w') (hb' : w'.heap[b]? = w.heap[b]?) : RegsX w' w' b n M := by
  obtain ⟨f, h1, h2⟩ := h
  refine ⟨f, h1.of_block hb', fun k => ⟨(h2 k).1, fun x hx => ?_⟩⟩
  obtain ⟨ad, cp, h3, h4, h5⟩ := (h2 k).2 x hx
  refine ⟨ad, cp, h3, ?_, h5⟩
  rcases h4 with h4 | ⟨g, o, ha, hne, hlt, hh⟩
  · exact .inl h4
  · exact .inr ⟨g, o, ha, hne, Nat.lt_of_lt_of_le hlt hb.size, holdsDeps_block hh (hb.block g hlt)⟩

set_option maxRecDepth 100000 in
theorem put_x (w0 : World) (b m : Nat) (M : Int → Option Wr) (x : Wr) (ad : Option Addr) (cp : Nat) (w : World) (hmm : m ≤ 4611686018427387904) (hxl : x.xs.length ≤ 1048576) (hk : 0 ≤ x.k ∧ x.k ≤ 5) (hd : IsDepsX b w0 ad x.xs) (hb : w0.grownBy w (some b)) (hr : RegsX w0 w b m M) :
    Calls Tryz.prog 101 #[.map (some b), wrOf x ad cp] w fun e w' => e = .returned (.tuple #[]) ∧ RegsX w0 w' b (m + 1) (regPut M x) ∧ w0.grownBy w' (some b) := by
  refine (put_p (IsDepsX b w0) b m M x ad cp w hmm hxl hk hd (fun w' h ad xs hx => hx.now (grown_trans hb (grown_of_below h (some b)))) hr).mono ?_
  rintro e w' ⟨he, h1, h2⟩
  exact ⟨he, h1, grown_trans hb h2⟩

set_option maxRecDepth 100000 in
set_option maxHeartbeats 8000000 in
theorem putAll_x (w0 : World) (b m : Nat) (M : Int → Option Wr) (a : Option Addr) (n cap : Nat) (ws : List Wr) (w : World) (hn : ws.length = n) (hm : n ≤ 1048576) (hmm : m ≤ 1048576) (hx : Few ws) (hk : ∀ i, i < ws.length → 0 ≤ (ws.getD i wz).k ∧ (ws.getD i wz).k ≤ 5)
    (hi : IsWsX b w0 a ws) (hb : w0.grownBy w (some b)) (hr : RegsX w0 w b m M) :
    Calls Tryz.prog 85 #[.map (some b), .slice a n cap] w fun e w' => e = .returned (.tuple #[]) ∧ RegsX w0 w' b (m + n) (ws.foldl regPut M) ∧ w0.grownBy w' (some b) := by
  have HI : Hid (IsWsX b w0 a ws) := hi
  have HN : Hid (ws.length = n) := hn
  have HX : Hid (Few ws) := hx
  have HKY : Hid (∀ i, i < ws.length → 0 ≤ (ws.getD i wz).k ∧ (ws.getD i wz).k ≤ 5) := hk
  have HR0 : Hid (RegsX w0 w b m M) := hr
  have HB0 : Hid (w0.grownBy w (some b)) := hb
  clear hi hn hx hk hr hb
  go_enter Tryz.func85, Tryz.ntmps85
  go_wp2
  go_loopw [8] (fun i wr => ∃ k : Nat, k ≤ n ∧ i = .int .i64 k ∧ Hid (RegsX w0 wr b (m + k) ((ws.take k).foldl regPut M)) ∧ Hid (w0.grownBy wr (some b))) (fun i _ => n - (intOf i).toNat)
  case atStart => exact ⟨0, Nat.zero_le _, rfl, HR0, HB0⟩
  case round =>
    clear HR0 HB0
    obtain ⟨k, hk, rfl, HR, HB⟩ := hrel
    by_cases hk' : k < n
    · obtain ⟨bl, o, ad, cp, rfl, hz, ⟨e0, e1, e2, e3, e4, e5, e6⟩, hd⟩ := HI.out.base HB.out HN.out hk'
      have HD := Lib.hid hd
      have i1 : (0 : Int) ≤ (k : Int) := by omega
      have i2 : (k : Int) < (n : Int) := by omega
      have hkw : k < ws.length := by rw [HN.out]; exact hk'
      have hxl := HX.out k hkw
      have hky := HKY.out k hkw
      have HT : Hid ((ws.take (k + 1)).foldl regPut M = regPut ((ws.take k).foldl regPut M) (ws.getD k wz)) := foldl_take regPut ws M k hkw
      clear hd HI
      generalize ws.getD k wz = x at *
      obtain ⟨xk, xc, xs', xq, xv, xd, xx⟩ := x
      simp only at e0 e1 e2 e3 e4 e5 e6 HD hxl hky
      generalize (ws.take k).foldl regPut M = M1 at *
      have HBA : Hid (Below wr.heap.size wr (wr.alloc (.cells #[.int .i64 xk, .int .i64 xc, .int .i64 xs', .int .i64 xq, .int .i64 xv, .bool xd, .slice ad xx.length cp] 37))) := (Below.refl _ _).alloc (Nat.le_refl _) _
      have HRA := Lib.hid (HR.out.below HBA.out)
      have HB1 := Lib.hid (grown_trans HB.out (grown_of_below HBA.out (some b)))
      go_wp2_with fail
      refine (put_x w0 b (m + k) M1 ⟨xk, xc, xs', xq, xv, xd, xx⟩ ad cp _ (by omega) hxl hky HD.out HB1.out HRA.out).mono ?_
      rintro e w2 ⟨rfl, hr2, hb2⟩
      have HR2 : Hid (RegsX w0 w2 b (m + (k + 1)) ((ws.take (k + 1)).foldl regPut M)) := by
        rw [HT.out]
        exact hr2
      have HB2 := Lib.hid hb2
      clear hr2 hb2
      go_wp2
      exact ⟨⟨k + 1, by omega, by go_num, HR2, HB2⟩, by simp [intOf]; omega⟩
    · have hkk : k = n := by omega
      subst hkk
      have HE : Hid (ws.take k = ws) := List.take_of_length_le (by rw [HN.out]; exact Nat.le_refl _)
      rw [HE.out] at HR
      go_wp2
      exact bodyPost_end (v := .tuple #[]) (by simp [results, Tryz.results85]) rfl ⟨rfl, HR.out, HB.out⟩

end Go.Proofs.YtcapahiklphhjaaGreatDoor
