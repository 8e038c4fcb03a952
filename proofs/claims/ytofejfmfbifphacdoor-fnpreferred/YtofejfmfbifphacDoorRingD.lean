/- The cursor's draws for the ring: nodes, a text; the draws of RingOf and Prefer. -/
import Derived.Test.YtofejfmfbifphacDoorCurTag
import Derived.Test.YtofejfmfbifphacDoorCurDeps
import Derived.Test.YtofejfmfbifphacDoorRingC
namespace Go.Proofs.YtofejfmfbifphacDoor
open Go.ChangeShapes Go.WideShapes Go.ChangeAt Go.RowKit Go.Joins
attribute [local go_sem ↓] Go.wp_at_zero Go.wp_at_succ

set_option maxRecDepth 100000 in
theorem RowI.hole {w w' : World} {base B : Nat} {v : Value} {zs : List Int} (h : RowI w base v zs) (hh : Hole B w w') (hB : B < base) : RowI w' base v zs :=
  World.ownsRow.kept (row := some B) h ⟨hh.os, hh.tape, hh.output, hh.size, fun k hk hn => hh.block k hk (fun e => hn (by rw [e]))⟩ (.inr fun e => by
    have := (World.ownsRow.lt h B e).1
    omega)

set_option maxRecDepth 100000 in
set_option maxHeartbeats 4000000 in
theorem nodes_any (B : Nat) (a : Option Addr) (len cap : Nat) (N : Int) (w : World) (hN : N ≤ 5000) (h : Cur w B a len cap N) :
    Calls Tryd.prog 14 #[.pointer (some ⟨B, 0, none⟩)] w fun e w' => ∃ v zs, e = .returned v ∧ RowI w' w.heap.size v zs ∧ zs.length ≤ 9 ∧ Cur w' B a len cap (N + 20) ∧ Hole B w w' := by
  have HC : Hid (Cur w B a len cap N) := h
  have hBl : B < w.heap.size := h.lt
  clear h
  obtain ⟨i0, hi0, hx0⟩ := Option.map_eq_some_iff.1 infoInt
  simp only [Prod.mk.injEq] at hx0
  have HI0 := Lib.hid hi0
  have HX0 := Lib.hid hx0
  clear hi0 hx0
  have HR0 : Hid (RowI (w.alloc (.cells #[] 3)) w.heap.size (.slice (some ⟨w.heap.size, 0, none⟩) 0 0) []) := World.ownsRow_made w #[] 0 (Nat.le_refl _) (by simp [maxLen]) (by simp)
  have HA0 : Hid (Below w.heap.size w (w.alloc (.cells #[] 3))) := (Below.refl _ _).alloc (Nat.le_refl _) _
  have HC0 := Lib.hid (HC.out.below HA0.out)
  have HH0 : Hid (Hole B w (w.alloc (.cells #[] 3))) := Hole.of_below HA0.out
  clear HC HA0
  go_enter Tryd.func14, Tryd.ntmps14
  go_wp2
  go_loopw [3, 4] (fun t i wr => ∃ (k : Nat) (v : Value) (zs : List Int), k ≤ 8 ∧ i = .int .i64 k ∧ v = t ∧ zs.length ≤ k ∧ Hid (RowI wr w.heap.size v zs) ∧ Hid (Cur wr B a len cap (N + 2 * k)) ∧ Hid (Hole B w wr)) (fun _ i _ => 8 - (intOf i).toNat)
  case atStart => exact ⟨0, _, [], Nat.zero_le _, rfl, rfl, Nat.le_refl _, HR0, HC0.out.more (by omega), HH0⟩
  case round =>
    clear HR0 HC0 HH0
    obtain ⟨k, v, zs, hk, rfl, rfl, hzl, HR, HC, HH⟩ := hrel
    by_cases hk' : k < 8
    · have i1 : (k : Int) < 8 := by omega
      go_wp2_with fail
      refine (pick_any B a len cap _ 2 _ (by omega) (by omega) (by omega) HC.out).mono ?_
      rintro e w1 ⟨r, rfl, r0, r1, hc1, hh1⟩
      have HR1 := Lib.hid (HR.out.hole hh1 hBl)
      have HC1 := Lib.hid hc1
      have HH1 := Lib.hid (HH.out.trans hh1)
      clear hc1 hh1 HR HC HH
      by_cases hr0 : r = 0
      · subst hr0
        go_wp2_with fail
        refine (pick_any B a len cap _ 3 _ (by omega) (by omega) (by omega) HC1.out).mono ?_
        rintro e w2 ⟨r2, rfl, q0, q1, hc2, hh2⟩
        have HR2 := Lib.hid (HR1.out.hole hh2 hBl)
        have HC2 := Lib.hid hc2
        have HH2 := Lib.hid (HH1.out.trans hh2)
        have hw2 : w.heap.size ≤ w2.heap.size := HH2.out.size
        have HBC : Hid (Below w2.heap.size w2 (w2.alloc (.cells #[.int .i64 (3 * (k : Int) + r2)] 3))) := (Below.refl _ _).alloc (Nat.le_refl _) _
        have HRC := Lib.hid (HR2.out.below HBC.out)
        have HCC := Lib.hid (oneI_cells w2 3 (3 * (k : Int) + r2))
        clear hc2 hh2 HR1 HC1 HH1
        go_wp2_with (at_builtin; refine wpList_append_lies _ (by rfl) _ _ _ (by rfl) w.heap.size 3 i0 (.int .i64 0) 1 8 Tryd.underlying24 HI0.out HX0.out.1 HX0.out.2.1 HX0.out.2.2 (by rfl) (by omega) v zs.length (zs.map intV) (by rfl) HRC.out ⟨w2.heap.size, 0, none⟩ 1 1 [intV (3 * (k : Int) + r2)] (by rfl) (by rfl) HCC.out (intV_one [3 * (k : Int) + r2]) (by omega) (by unfold maxLen; omega) (by omega) (by simp; omega) _ rfl ?_; intro g3 cp3 w5 hown hgrow hg3 _; refine Hid.out ?_)
        refine Lib.hid ?_
        have hb5 : Below w.heap.size w2 w5 := (HBC.out.mono hw2).grown hgrow (by simp; omega) fun j hj => (World.ownsRow.lt HRC.out j hj).1
        have HR5 : Hid (RowI w5 w.heap.size (.slice (some ⟨g3, 0, none⟩) (zs.length + 1) cp3) (zs ++ [3 * (k : Int) + r2])) := by
          unfold RowI
          rw [List.length_append, List.map_append]
          exact hown
        have HC5 := Lib.hid ((HC2.out.belowAt hb5 hBl).more (M := N + 2 * ((k + 1 : Nat) : Int)) (by push_cast; omega))
        have HH5 := Lib.hid (HH2.out.belowAt hb5)
        clear hown hgrow hb5
        go_wp2
        exact ⟨⟨k + 1, _, zs ++ [3 * (k : Int) + r2], by omega, by go_num, rfl, by simp; omega, HR5, HC5, HH5⟩, by simp [intOf]; omega⟩
      · have hr0' : (r == 0) = false := by simp [hr0]
        have HC5 := Lib.hid (HC1.out.more (M := N + 2 * ((k + 1 : Nat) : Int)) (by push_cast; omega))
        go_wp2
        exact ⟨⟨k + 1, _, zs, by omega, by go_num, rfl, by omega, HR1, HC5, HH1⟩, by simp [intOf]; omega⟩
    · have hke : k = 8 := by omega
      subst hke
      go_wp2_with fail
      refine (once_any B a len cap _ 14 _ (by omega) (by omega) (by omega) HC.out).mono ?_
      rintro e w1 ⟨r, rfl, hc1, hh1⟩
      have HR1 := Lib.hid (HR.out.hole hh1 hBl)
      have HC1 := Lib.hid hc1
      have HH1 := Lib.hid (HH.out.trans hh1)
      clear hc1 hh1 HR HC HH
      cases r
      · go_wp2
        go_ret
        exact ⟨_, zs, rfl, HR1.out, by omega, HC1.out.more (by push_cast; omega), HH1.out⟩
      · go_wp2_with fail
        refine (raw_any B a len cap _ _ (by push_cast; omega) HC1.out).mono ?_
        rintro e w2 ⟨r2, rfl, hc2, hh2⟩
        have HR2 := Lib.hid (HR1.out.hole hh2 hBl)
        have HC2 := Lib.hid hc2
        have HH2 := Lib.hid (HH1.out.trans hh2)
        have hw2 : w.heap.size ≤ w2.heap.size := HH2.out.size
        have HBC : Hid (Below w2.heap.size w2 (w2.alloc (.cells #[.int .i64 r2] 3))) := (Below.refl _ _).alloc (Nat.le_refl _) _
        have HRC := Lib.hid (HR2.out.below HBC.out)
        have HCC := Lib.hid (oneI_cells w2 3 r2)
        clear hc2 hh2 HR1 HC1 HH1
        go_wp2_with (at_builtin; refine wpList_append_lies _ (by rfl) _ _ _ (by rfl) w.heap.size 3 i0 (.int .i64 0) 1 8 Tryd.underlying24 HI0.out HX0.out.1 HX0.out.2.1 HX0.out.2.2 (by rfl) (by omega) v zs.length (zs.map intV) (by rfl) HRC.out ⟨w2.heap.size, 0, none⟩ 1 1 [intV r2] (by rfl) (by rfl) HCC.out (intV_one [r2]) (by omega) (by unfold maxLen; omega) (by omega) (by simp; omega) _ rfl ?_; intro g3 cp3 w5 hown hgrow hg3 _; refine Hid.out ?_)
        refine Lib.hid ?_
        have hb5 : Below w.heap.size w2 w5 := (HBC.out.mono hw2).grown hgrow (by simp; omega) fun j hj => (World.ownsRow.lt HRC.out j hj).1
        have HR5 : Hid (RowI w5 w.heap.size (.slice (some ⟨g3, 0, none⟩) (zs.length + 1) cp3) (zs ++ [r2])) := by
          unfold RowI
          rw [List.length_append, List.map_append]
          exact hown
        have HC5 := Lib.hid ((HC2.out.belowAt hb5 hBl).more (M := N + 20) (by push_cast; omega))
        have HH5 := Lib.hid (HH2.out.belowAt hb5)
        clear hown hgrow hb5
        go_wp2
        go_ret
        exact ⟨_, zs ++ [r2], rfl, HR5.out, by simp; omega, HC5.out, HH5.out⟩

set_option maxRecDepth 100000 in
theorem strs_cell (w : World) (l : List ByteArray) (t i : Nat) (hi : i < l.length) : (w.alloc (.cells (l.map Value.string).toArray t)).cell? ⟨w.heap.size, i, none⟩ = some (.string (l.getD i ⟨#[]⟩)) := by
  rw [cell_of_row _ _ i _ t (0, 0) (heap_alloc_new w _)]
  simp [List.getD, hi]

set_option maxRecDepth 100000 in
theorem texts_size (s : ByteArray) (hs : s.size ≤ 100) (i : Nat) : (([⟨#[]⟩, ⟨#[97]⟩, ⟨#[107, 101, 121]⟩, ⟨#[107, 49]⟩, ⟨#[122, 122]⟩, ⟨#[195, 169]⟩, s] : List ByteArray).getD i ⟨#[]⟩).size ≤ 100 := by
  match i with
  | 0 => exact (by decide : (0 : Nat) ≤ 100)
  | 1 => exact (by decide : (1 : Nat) ≤ 100)
  | 2 => exact (by decide : (3 : Nat) ≤ 100)
  | 3 => exact (by decide : (2 : Nat) ≤ 100)
  | 4 => exact (by decide : (2 : Nat) ≤ 100)
  | 5 => exact (by decide : (2 : Nat) ≤ 100)
  | 6 => exact hs
  | _ + 7 => exact (by decide : (0 : Nat) ≤ 100)

set_option maxRecDepth 100000 in
set_option maxHeartbeats 2000000 in
theorem text_any (B : Nat) (a : Option Addr) (len cap : Nat) (N : Int) (w : World) (hN : N ≤ 5000) (h : Cur w B a len cap N) :
    Calls Tryd.prog 17 #[.pointer (some ⟨B, 0, none⟩)] w fun e w' => ∃ s : ByteArray, e = .returned (.string s) ∧ s.size ≤ 100 ∧ Cur w' B a len cap (N + 2) ∧ Hole B w w' := by
  have HC : Hid (Cur w B a len cap N) := h
  have hBl : B < w.heap.size := h.lt
  clear h
  go_enter Tryd.func17, Tryd.ntmps17
  go_wp2_with fail
  refine (pick_any B a len cap N 256 _ (by omega) (by omega) (by omega) HC.out).mono ?_
  rintro e w1 ⟨r, rfl, r0, r1, hc1, hh1⟩
  have HC1 := Lib.hid hc1
  have HH1 := Lib.hid hh1
  clear hc1 hh1 HC
  go_wp2_with fail
  refine (specNum' r _ ⟨by omega, by omega⟩).mono ?_
  rintro e w2 ⟨rfl, hb⟩
  have hsz : (str (Lib.itoa r)).size ≤ 100 := by
    rw [str_size]
    have := Lib.itoa_length_le r (by omega) (by omega)
    omega
  generalize str (Lib.itoa r) = s at *
  obtain ⟨W3, hW3⟩ : ∃ W3, w2.alloc (.cells (([⟨#[]⟩, ⟨#[97]⟩, ⟨#[107, 101, 121]⟩, ⟨#[107, 49]⟩, ⟨#[122, 122]⟩, ⟨#[195, 169]⟩, s] : List ByteArray).map Value.string).toArray 9) = W3 := ⟨_, rfl⟩
  have hb3 : Below w2.heap.size w2 W3 := by rw [← hW3]; exact (Below.refl _ _).alloc (Nat.le_refl _) _
  have HC3 := Lib.hid ((HC1.out.below hb).below hb3)
  have HH3 := Lib.hid ((HH1.out.trans (Hole.of_below hb)).trans (Hole.of_below hb3))
  have HST : Hid (∀ i, i < 7 → W3.cell? ⟨w2.heap.size, i, none⟩ = some (.string (([⟨#[]⟩, ⟨#[97]⟩, ⟨#[107, 101, 121]⟩, ⟨#[107, 49]⟩, ⟨#[122, 122]⟩, ⟨#[195, 169]⟩, s] : List ByteArray).getD i ⟨#[]⟩))) := fun i hi => by rw [← hW3]; exact strs_cell w2 _ _ i (by simpa using hi)
  have hl3 : w2.heap.size < W3.heap.size := by rw [← hW3]; simp
  have hb2 : B < w2.heap.size := Nat.lt_of_lt_of_le HC1.out.lt hb.size
  have HSZ := Lib.hid (texts_size s hsz)
  clear hb hb3 HC1 HH1
  simp only [List.map_cons, List.map_nil] at hW3
  go_wp2_with fail
  refine (pick_any B a len cap _ 7 _ (by omega) (by omega) (by omega) HC3.out).mono ?_
  rintro e w4 ⟨q, rfl, q0, q1, hc4, hh4⟩
  obtain ⟨qn, rfl⟩ : ∃ qn : Nat, q = (qn : Int) := ⟨q.toNat, by omega⟩
  have hcell := (hh4.cell (o := qn) hl3 (by omega)).trans (HST.out qn (by omega))
  have hfin := HSZ.out qn
  generalize ([⟨#[]⟩, ⟨#[97]⟩, ⟨#[107, 101, 121]⟩, ⟨#[107, 49]⟩, ⟨#[122, 122]⟩, ⟨#[195, 169]⟩, s] : List ByteArray).getD qn ⟨#[]⟩ = t at *
  have HC4 := Lib.hid (hc4.more (M := N + 2) (by omega))
  have HH4 := Lib.hid (HH3.out.trans hh4)
  clear hc4 hh4 HC3 HH3 hW3 HST
  go_wp2
  go_ret
  exact ⟨_, rfl, hfin, HC4.out, HH4.out⟩

end Go.Proofs.YtofejfmfbifphacDoor
