import Derived.Test.YtbbmpfkijhhemaaGreatDoorPack20
import Derived.Test.YtbbmpfkijhhemaaGreatDoorPack19
import Derived.Test.YtbbmpfkijhhemaaGreatDoorPack12
import Derived.Test.YtbbmpfkijhhemaaGreatDoorPack17
import Derived.Test.YtbbmpfkijhhemaaGreatDoorPack13
import Derived.Test.YtbbmpfkijhhemaaGreatDoorPack15
import Derived.Test.YtbbmpfkijhhemaaGreatDoorPack7
import Derived.Test.YtbbmpfkijhhemaaGreatDoorPack11
namespace Go.Proofs.YtbbmpfkijhhemaaGreatDoor
open Go.ChangeShapes Go.WideShapes Go.ChangeAt Go.RowKit Go.Joins
set_option maxRecDepth 100000
attribute [local go_sem ↓] Go.wp_at_zero Go.wp_at_succ

def kpV (si cl sq la : Int) (a : Option Addr) (n cap : Nat) (t : ByteArray) (m : Nat) : Value := .agg #[.int .i64 si, .int .i64 cl, .int .i64 sq, .int .i64 la, .slice a n cap, .string t, .map (some m)]

structure KBox (w : World) (b : Nat) (si cl sq la : Int) (a : Option Addr) (n cap : Nat) (t : ByteArray) (m : Option Nat) : Prop where
  sh : SBox w b si cl sq la a n cap t
  c6 : w.cell? ⟨b, 6, none⟩ = some (.map m)

theorem KBox.start (w : World) (si cl sq la : Int) (a : Option Addr) (n cap : Nat) (t : ByteArray) (m : Option Nat) (ty : Nat) : KBox (w.alloc (.cells #[.int .i64 si, .int .i64 cl, .int .i64 sq, .int .i64 la, .slice a n cap, .string t, .map m] ty)) w.heap.size si cl sq la a n cap t m := by
  have h := heap_alloc_new w (.cells #[.int .i64 si, .int .i64 cl, .int .i64 sq, .int .i64 la, .slice a n cap, .string t, .map m] ty)
  refine ⟨⟨by simp, ?_, ?_, ?_, ?_, ?_, ?_, fun o => by simp [go_sem]⟩, ?_⟩ <;> (rw [cell_of_row _ _ _ _ ty (0, 0) h]; rfl)

theorem KBox.of_block {w w' : World} {b : Nat} {si cl sq la : Int} {a : Option Addr} {n cap : Nat} {t : ByteArray} {m : Option Nat} (h : KBox w b si cl sq la a n cap t m) (hs : w.heap.size ≤ w'.heap.size) (hb : w'.heap[b]? = w.heap[b]?) : KBox w' b si cl sq la a n cap t m :=
  ⟨h.sh.of_block hs hb, (World.cell?_of_block (a := ⟨b, 6, none⟩) hb).trans h.c6⟩

theorem KBox.below {w w' : World} {b : Nat} {si cl sq la : Int} {a : Option Addr} {n cap : Nat} {t : ByteArray} {m : Option Nat} (h : KBox w b si cl sq la a n cap t m) (hb : Below w.heap.size w w') : KBox w' b si cl sq la a n cap t m := h.of_block hb.size (hb.block b h.sh.lt)

def putK (w : World) (b : Nat) (si cl sq la : Int) (a : Option Addr) (n cap : Nat) (t : ByteArray) (m : Option Nat) : World := (putS w b si cl sq la a n cap t).setCell ⟨b, 6, none⟩ (.map m)

theorem hole_putK {B : Nat} {w w' : World} (h : Hole B w w') (si cl sq la : Int) (a : Option Addr) (n cap : Nat) (t : ByteArray) (m : Option Nat) : Hole B w (putK w' B si cl sq la a n cap t m) := (hole_putS h _ _ _ _ _ _ _ _).set 6 _

theorem kbox_putK {w : World} {b : Nat} {si cl sq la : Int} {a : Option Addr} {n cap : Nat} {t : ByteArray} {m : Option Nat} (h : KBox w b si cl sq la a n cap t m) (si' cl' sq' la' : Int) (a' : Option Addr) (n' cap' : Nat) (t' : ByteArray) (m' : Option Nat) : KBox (putK w b si' cl' sq' la' a' n' cap' t' m') b si' cl' sq' la' a' n' cap' t' m' := by
  have h1 := sbox_putS h.sh si' cl' sq' la' a' n' cap' t'
  have c6 : (putS w b si' cl' sq' la' a' n' cap' t').cell? ⟨b, 6, none⟩ = some (.map m) := cell_set_off (cell_set_off (cell_set_off (cell_set_off (cell_set_off (cell_set_off h.c6 (by omega)) (by omega)) (by omega)) (by omega)) (by omega)) (by omega)
  unfold putK
  exact ⟨⟨by simpa [World.setCell] using h1.lt, cell_set_off h1.c0 (by omega), cell_set_off h1.c1 (by omega), cell_set_off h1.c2 (by omega), cell_set_off h1.c3 (by omega), cell_set_off h1.c4 (by omega), cell_set_off h1.c5 (by omega), fun o => by rw [World.frozen?_setCell]; exact h1.fz o⟩, cell_set_same c6⟩

set_option maxHeartbeats 8000000 in
theorem putAll_g (w0 : World) (b m : Nat) (M : Int → Option Wr) (a : Option Addr) (n cap : Nat) (ws : List Wr) (w : World) (hn : ws.length = n) (hm : n ≤ 1048576) (hmm : m ≤ 1048576) (hx : Few ws) (hk : ∀ i, i < ws.length → 0 ≤ (ws.getD i wz).k ∧ (ws.getD i wz).k ≤ 5)
    (hi : IsWs w0 a ws) (hb : Below w0.heap.size w0 w) (hB : w0.heap.size ≤ b) (hr : RegsW w0 w b m M) :
    Calls Tryz.prog 103 #[.map (some b), .slice a n cap] w fun e w' => e = .returned (.tuple #[]) ∧ RegsW w0 w' b (m + n) (ws.foldl regPut M) ∧ Below w0.heap.size w0 w' ∧ w.grownBy w' (some b) := by
  have HI : Hid (IsWs w0 a ws) := hi
  have HN : Hid (ws.length = n) := hn
  have HX : Hid (Few ws) := hx
  have HKY : Hid (∀ i, i < ws.length → 0 ≤ (ws.getD i wz).k ∧ (ws.getD i wz).k ≤ 5) := hk
  have HR0 : Hid (RegsW w0 w b m M) := hr
  have HB0 : Hid (Below w0.heap.size w0 w) := hb
  clear hi hn hx hk hr hb
  go_enter Tryz.func103, Tryz.ntmps103
  go_wp2
  go_loopw [8] (fun i wr => ∃ k : Nat, k ≤ n ∧ i = .int .i64 k ∧ Hid (RegsW w0 wr b (m + k) ((ws.take k).foldl regPut M)) ∧ Hid (Below w0.heap.size w0 wr) ∧ Hid (w.grownBy wr (some b))) (fun i _ => n - (intOf i).toNat)
  case atStart => exact ⟨0, Nat.zero_le _, rfl, HR0, HB0, grown_of_below (Below.refl _ _) _⟩
  case round =>
    clear HR0 HB0
    obtain ⟨k, hk, rfl, HR, HB, HGR⟩ := hrel
    by_cases hk' : k < n
    · obtain ⟨bl, o, ad, cp, rfl, hz, ⟨e0, e1, e2, e3, e4, e5, e6⟩, hd⟩ := HI.out.base HB.out HN.out hk'
      have HD := Lib.hid hd
      have i1 : (0 : Int) ≤ (k : Int) := by omega
      have i2 : (k : Int) < (n : Int) := by omega
      have hkw : k < ws.length := by rw [HN.out]; exact hk'
      have hxl := HX.out k hkw
      have hky := HKY.out k hkw
      have HT : Hid ((ws.take (k + 1)).foldl regPut M = regPut ((ws.take k).foldl regPut M) (ws.getD k wz)) := foldl_take regPut ws M k hkw
      clear hd HI
      generalize ws.getD k wz = x at *
      obtain ⟨xk, xc, xs', xq, xv, xd, xx⟩ := x
      simp only at e0 e1 e2 e3 e4 e5 e6 HD hxl hky
      generalize (ws.take k).foldl regPut M = M1 at *
      have HBA : Hid (Below wr.heap.size wr (wr.alloc (.cells #[.int .i64 xk, .int .i64 xc, .int .i64 xs', .int .i64 xq, .int .i64 xv, .bool xd, .slice ad xx.length cp] 33))) := (Below.refl _ _).alloc (Nat.le_refl _) _
      have HRA := Lib.hid (HR.out.below HBA.out)
      have HB1 := Lib.hid (below_step HB.out HB.out.size HBA.out)
      go_wp2_with fail
      refine (put_p (IsDeps w0) b (m + k) M1 ⟨xk, xc, xs', xq, xv, xd, xx⟩ ad cp _ (by omega) hxl hky HD.out (fun w' h ad xs hx => hx.below (below_step HB1.out HB1.out.size h)) HRA.out).mono ?_
      rintro e w2 ⟨rfl, hr2, hg2⟩
      have hb2 : Below w0.heap.size w0 w2 := HB1.out.grown hg2 HB1.out.size fun j hj => by injection hj with hj; omega
      have HG2 : Hid (w.grownBy w2 (some b)) := grown_trans HGR.out (grown_trans (grown_of_below HBA.out _) hg2)
      have HR2 : Hid (RegsW w0 w2 b (m + (k + 1)) ((ws.take (k + 1)).foldl regPut M)) := by
        rw [HT.out]
        exact hr2
      have HB2 := Lib.hid hb2
      clear hr2 hb2
      go_wp2
      exact ⟨⟨k + 1, by omega, by go_num, HR2, HB2, HG2⟩, by simp [intOf]; omega⟩
    · have hkk : k = n := by omega
      subst hkk
      have HE : Hid (ws.take k = ws) := List.take_of_length_le (by rw [HN.out]; exact Nat.le_refl _)
      rw [HE.out] at HR
      go_wp2
      exact bodyPost_end (v := .tuple #[]) (by simp [results, Tryz.results103]) rfl ⟨rfl, HR.out, HB.out, HGR.out⟩

set_option maxHeartbeats 8000000 in
theorem keeperOf_any (x : Sm) (a : Option Addr) (cap : Nat) (w : World) (hmap : mapOkB x.ws = true) (h : IsWs w a x.ws) :
    Calls Tryz.prog 46 #[smV x a cap] w fun e w' => ∃ b, e = .returned (kpV x.si x.cl x.sq x.la a x.ws.length cap x.t b) ∧ w.heap.size ≤ b ∧ RegsW w w' b x.ws.length (findW x.ws) ∧ Below w.heap.size w w' := by
  obtain ⟨si, cl, sq, la, ws, t⟩ := x
  simp only at hmap h ⊢
  have H := Lib.hid h
  have HFW := Lib.hid (ok_few hmap)
  have HKY := Lib.hid (mapOk_keys' hmap)
  have HRM := Lib.hid (regs_map ((mapOk_iff ws).1 hmap).2)
  have hn6 := mapOk_len hmap
  clear h hmap
  unfold smV
  simp only
  obtain ⟨n, hnn⟩ : ∃ n, ws.length = n := ⟨_, rfl⟩
  rw [hnn] at hn6
  rw [hnn]
  have HN := Lib.hid hnn
  clear hnn
  unfold shV
  have HB1 : Below w.heap.size w (w.alloc (.cells #[.int .i64 si, .int .i64 cl, .int .i64 sq, .int .i64 la, .slice a n cap, .string t] 26)) := (Below.refl _ _).alloc (Nat.le_refl _) _
  have hz1 : (w.alloc (.cells #[.int .i64 si, .int .i64 cl, .int .i64 sq, .int .i64 la, .slice a n cap, .string t] 26)).heap.size = w.heap.size + 1 := by simp
  have hS1 := SBox.start w si cl sq la a n cap t 26
  obtain ⟨U1, hU1⟩ : ∃ U1, w.alloc (.cells #[.int .i64 si, .int .i64 cl, .int .i64 sq, .int .i64 la, .slice a n cap, .string t] 26) = U1 := ⟨_, rfl⟩
  rw [hU1] at HB1 hz1 hS1
  have hA1 : Below U1.heap.size U1 (U1.alloc (.cells #[.int .i64 0, .int .i64 0, .int .i64 0, .int .i64 0, .slice none 0 0, .string ⟨#[]⟩, .map none] 76)) := (Below.refl _ _).alloc (Nat.le_refl _) _
  have HB2 : Below w.heap.size w (U1.alloc (.cells #[.int .i64 0, .int .i64 0, .int .i64 0, .int .i64 0, .slice none 0 0, .string ⟨#[]⟩, .map none] 76)) := HB1.alloc (by omega) _
  have hz2 : (U1.alloc (.cells #[.int .i64 0, .int .i64 0, .int .i64 0, .int .i64 0, .slice none 0 0, .string ⟨#[]⟩, .map none] 76)).heap.size = w.heap.size + 1 + 1 := by simp [hz1]
  have hK2 : KBox (U1.alloc (.cells #[.int .i64 0, .int .i64 0, .int .i64 0, .int .i64 0, .slice none 0 0, .string ⟨#[]⟩, .map none] 76)) (w.heap.size + 1) 0 0 0 0 none 0 0 ⟨#[]⟩ none := by have := KBox.start U1 0 0 0 0 none 0 0 ⟨#[]⟩ none 76; rw [hz1] at this; exact this
  have hS2 := hS1.below hA1
  obtain ⟨U2, hU2⟩ : ∃ U2, U1.alloc (.cells #[.int .i64 0, .int .i64 0, .int .i64 0, .int .i64 0, .slice none 0 0, .string ⟨#[]⟩, .map none] 76) = U2 := ⟨_, rfl⟩
  rw [hU2] at HB2 hz2 hK2 hS2
  have hA2 : Below U2.heap.size U2 (U2.alloc (.map #[] 0)) := (Below.refl _ _).alloc (Nat.le_refl _) _
  have HB3 : Below w.heap.size w (U2.alloc (.map #[] 0)) := HB2.alloc (by omega) _
  have hz3 : (U2.alloc (.map #[] 0)).heap.size = w.heap.size + 1 + 1 + 1 := by simp [hz2]
  have hM3 : RegsAre (U2.alloc (.map #[] 0)) (w.heap.size + 1 + 1) 0 (fun _ => none) := by have := regs_made U2; rw [hz2] at this; exact this
  have hK3 := hK2.below hA2
  have hS3 := hS2.below hA2
  obtain ⟨U3, hU3⟩ : ∃ U3, U2.alloc (.map #[] 0) = U3 := ⟨_, rfl⟩
  rw [hU3] at HB3 hz3 hM3 hK3 hS3
  have hA3 : Below U3.heap.size U3 (U3.alloc (.cells #[.int .i64 si, .int .i64 cl, .int .i64 sq, .int .i64 la, .slice a n cap, .string t, .map (some (w.heap.size + 1 + 1))] 76)) := (Below.refl _ _).alloc (Nat.le_refl _) _
  have HB4 : Below w.heap.size w (U3.alloc (.cells #[.int .i64 si, .int .i64 cl, .int .i64 sq, .int .i64 la, .slice a n cap, .string t, .map (some (w.heap.size + 1 + 1))] 76)) := HB3.alloc (by omega) _
  have hz4 : (U3.alloc (.cells #[.int .i64 si, .int .i64 cl, .int .i64 sq, .int .i64 la, .slice a n cap, .string t, .map (some (w.heap.size + 1 + 1))] 76)).heap.size = w.heap.size + 1 + 1 + 1 + 1 := by simp [hz3]
  have hQ4 : KBox (U3.alloc (.cells #[.int .i64 si, .int .i64 cl, .int .i64 sq, .int .i64 la, .slice a n cap, .string t, .map (some (w.heap.size + 1 + 1))] 76)) (w.heap.size + 1 + 1 + 1) si cl sq la a n cap t (some (w.heap.size + 1 + 1)) := by have := KBox.start U3 si cl sq la a n cap t (some (w.heap.size + 1 + 1)) 76; rw [hz3] at this; exact this
  have hK4 := hK3.below hA3
  have hS4 := hS3.below hA3
  have hM4 : RegsAre (U3.alloc (.cells #[.int .i64 si, .int .i64 cl, .int .i64 sq, .int .i64 la, .slice a n cap, .string t, .map (some (w.heap.size + 1 + 1))] 76)) (w.heap.size + 1 + 1) 0 (fun _ => none) := hM3.of_block (hA3.block _ hM3.lt)
  obtain ⟨U4, hU4⟩ : ∃ U4, U3.alloc (.cells #[.int .i64 si, .int .i64 cl, .int .i64 sq, .int .i64 la, .slice a n cap, .string t, .map (some (w.heap.size + 1 + 1))] 76) = U4 := ⟨_, rfl⟩
  rw [hU4] at HB4 hz4 hQ4 hK4 hS4 hM4
  have HB := Lib.hid HB4
  have HQ := Lib.hid hQ4
  have HK := Lib.hid hK4
  have HMR := Lib.hid hM4
  obtain ⟨-, p0, p1, p2, p3, p4, p5, -⟩ := hS2
  clear hA1 hA2 hA3 HB1 HB2 HB3 hS1 hS3 hK2 hK3 hM3
  obtain ⟨⟨-, x0, x1, x2, x3, x4, x5, -⟩, x6⟩ := hQ4
  obtain ⟨-, y0, y1, y2, y3, y4, y5, -⟩ := hS4
  have hmm := @run_makeMap Tryz.prog
  go_enter Tryz.func46, Tryz.ntmps46
  go_wp2_with fail
  clear hmm hU1 hU2 hU3 hU4 p0 p1 p2 p3 p4 p5 x0 x1 x2 x3 x4 x5 x6 y0 y1 y2 y3 y4 y5 hK4 hM4
  refine (putAll_g w (w.heap.size + 1 + 1) 0 (fun _ => none) a n cap ws _ HN.out (by omega) (by omega) HFW.out HKY.out H.out HB.out (by omega) ⟨_, HMR.out, fun k => ⟨fun _ => rfl, fun x h => by cases h⟩⟩).mono ?_
  rintro e w5 ⟨rfl, hr5, hb5, hg5⟩
  rw [HRM.out] at hr5
  have HR5 := Lib.hid hr5
  have HB5 := Lib.hid hb5
  have hz5 : w.heap.size + 1 + 1 + 1 < w5.heap.size := by have := hg5.size; omega
  have hQ5 := HQ.out.of_block hg5.size (hg5.block _ HQ.out.sh.lt (by simp))
  have hK5 := HK.out.of_block hg5.size (hg5.block _ HK.out.sh.lt (by simp))
  have hP := kbox_putK hK5 si cl sq la a n cap t (some (w.heap.size + 1 + 1))
  have hH := hole_putK (Hole.refl (w.heap.size + 1) w5) si cl sq la a n cap t (some (w.heap.size + 1 + 1))
  have HRE := Lib.hid (HR5.out.of_block (hH.block _ HR5.out.lt (by omega)))
  have HBE := Lib.hid (Hole.below HB5.out hH (by omega) HB5.out.size)
  obtain ⟨V, hV⟩ : ∃ V, putK w5 (w.heap.size + 1) si cl sq la a n cap t (some (w.heap.size + 1 + 1)) = V := ⟨_, rfl⟩
  rw [hV] at hP HRE HBE
  unfold putK putS at hV
  obtain ⟨⟨-, x0, x1, x2, x3, x4, x5, -⟩, x6⟩ := hQ5
  obtain ⟨⟨-, y0, y1, y2, y3, y4, y5, yf⟩, y6⟩ := hK5
  obtain ⟨⟨-, o0, o1, o2, o3, o4, o5, -⟩, o6⟩ := hP
  clear hr5 hb5 hg5 hH hz1 hz2 hz3 hz4
  go_wp2_with fail
  exact bodyPost_ret (v := kpV si cl sq la a n cap t (w.heap.size + 1 + 1)) (by simp [results, Tryz.results46, kpV, go_sem, o0, o1, o2, o3, o4, o5, o6]) rfl ⟨w.heap.size + 1 + 1, rfl, by omega, by have := HRE.out; rwa [Nat.zero_add] at this, HBE.out⟩

end Go.Proofs.YtbbmpfkijhhemaaGreatDoor

namespace Go.Proofs.YtbbmpfkijhhemaaGreatDoor
open Go.ChangeShapes Go.WideShapes Go.ChangeAt Go.RowKit Go.Joins
attribute [local go_sem ↓] Go.wp_at_zero Go.wp_at_succ

theorem all_false {vs : List Wr} {k : Nat} (h : k < vs.length) (hk : okW (vs.getD k wz) = false) : vs.all okW = false := by
  rw [List.all_eq_false]
  refine ⟨vs.getD k wz, ?_, by rw [hk]; simp⟩
  have e : vs.getD k wz = vs[k] := by simp [List.getD, h]
  rw [e]
  exact List.getElem_mem h

theorem all_true {vs : List Wr} {n : Nat} (hn : vs.length = n) (h : ∀ j, j < n → okW (vs.getD j wz) = true) : vs.all okW = true := by
  rw [List.all_eq_true]
  intro x hx
  obtain ⟨i, hi, rfl⟩ := List.mem_iff_getElem.1 hx
  have := h i (by rw [← hn]; exact hi)
  simpa [List.getD, hi] using this

set_option maxHeartbeats 2000000 in
theorem allOk_any (a : Option Addr) (n cap : Nat) (ws : List Wr) (w : World) (hn : ws.length = n) (hm : n ≤ 1048576) (hx : Few ws) (hh : IsWs w a ws) :
    Calls Tryz.prog 71 #[.slice a n cap] w fun e w' => e = .returned (.bool (ws.all okW)) ∧ Below w.heap.size w w' := by
  have HH : Hid (IsWs w a ws) := hh
  have HN : Hid (ws.length = n) := hn
  have HX : Hid (Few ws) := hx
  clear hh hn hx
  go_enter Tryz.func71, Tryz.ntmps71
  go_wp2
  go_loopw [7] (fun i wr => ∃ k : Nat, k ≤ n ∧ i = .int .i64 k ∧ Hid (∀ j, j < k → okW (ws.getD j wz) = true) ∧ Hid (Below w.heap.size w wr)) (fun i _ => n - (intOf i).toNat)
  case atStart => exact ⟨0, Nat.zero_le _, rfl, fun j hj => absurd hj (Nat.not_lt_zero j), Below.refl _ _⟩
  case round =>
    obtain ⟨k, hk, rfl, HK, HB⟩ := hrel
    by_cases hk' : k < n
    · obtain ⟨b, o, ad, cp, rfl, hz, ⟨e0, e1, e2, e3, e4, e5, e6⟩, hd⟩ := HH.out.at HB.out HN.out hk'
      have i1 : (0 : Int) ≤ (k : Int) := by omega
      have i2 : (k : Int) < (n : Int) := by omega
      have hkm : k < ws.length := by rw [HN.out]; exact hk'
      have HC : Hid (∀ W, Below wr.heap.size wr W → Calls Tryz.prog 45 #[wrOf (ws.getD k wz) ad cp] W fun e w' => e = .returned (.bool (okW (ws.getD k wz))) ∧ Below W.heap.size W w') := fun W hW =>
        implWriteOk_gen _ _ _ _ _ _ _ (ws.getD k wz).xs _ _ _ rfl (HX.out k hkm) (hd.below hW)
      have HK1 : Hid (okW (ws.getD k wz) = true → ∀ j, j < k + 1 → okW (ws.getD j wz) = true) := fun h1 => upto_next HK.out h1
      have HF1 : Hid (okW (ws.getD k wz) = false → ws.all okW = false) := fun h1 => all_false hkm h1
      clear hd HH HK
      cases h1 : okW (ws.getD k wz)
      · have HF := Lib.hid (HF1.out h1)
        rw [h1] at HC
        clear h1 HK1 HF1
        generalize ws.getD k wz = x at *
        obtain ⟨xk, xc, xs', xq, xv, xd, xx⟩ := x
        simp only at e0 e1 e2 e3 e4 e5 e6 HC
        go_wp2_with fail
        refine (HC.out _ ((Below.refl _ _).alloc (Nat.le_refl _) _)).mono ?_
        rintro e w2 ⟨rfl, hb⟩
        have HB2 : Hid (Below w.heap.size w w2) := below_step HB.out HB.out.size (BoxIn.start hb).below
        clear hb
        go_wp2
        go_ret
        exact ⟨ret_bool HF.out.symm, HB2.out⟩
      · have HK2 := Lib.hid (HK1.out h1)
        rw [h1] at HC
        clear h1 HK1 HF1
        generalize ws.getD k wz = x at *
        obtain ⟨xk, xc, xs', xq, xv, xd, xx⟩ := x
        simp only at e0 e1 e2 e3 e4 e5 e6 HC
        go_wp2_with fail
        refine (HC.out _ ((Below.refl _ _).alloc (Nat.le_refl _) _)).mono ?_
        rintro e w2 ⟨rfl, hb⟩
        have HB2 : Hid (Below w.heap.size w w2) := below_step HB.out HB.out.size (BoxIn.start hb).below
        clear hb
        go_wp2
        exact ⟨⟨k + 1, by omega, by go_num, HK2, HB2⟩, by simp [intOf]; omega⟩
    · have hkk : k = n := by omega
      subst hkk
      have HF : Hid (ws.all okW = true) := all_true HN.out HK.out
      go_wp2
      go_ret
      exact ⟨ret_bool HF.out.symm, HB.out⟩

end Go.Proofs.YtbbmpfkijhhemaaGreatDoor

namespace Go.Proofs.YtbbmpfkijhhemaaGreatDoor
open Go.ChangeShapes Go.WideShapes Go.ChangeAt Go.RowKit Go.Joins
set_option maxRecDepth 100000
attribute [local go_sem ↓] Go.wp_at_zero Go.wp_at_succ

theorem IsWs0.isWs {w : World} {a : Option Addr} {ws : List Wr} (h : IsWs0 w a ws) (hx : Few ws) : IsWs w a ws := by
  rcases h with h | ⟨b, o, ha, hlt, hh⟩
  · exact .inl h
  · refine .inr ⟨b, o, ha, hlt, fun i hi => ?_⟩
    obtain ⟨a', cap, h1, h2⟩ := hh i hi
    have h3 := hx i hi
    exact ⟨a', cap, h1, by unfold maxLen; omega, h2.isDeps⟩

set_option maxHeartbeats 4000000 in
theorem implBatch_any (a : Option Addr) (n cap : Nat) (ws : List Wr) (w : World) (hn : ws.length = n) (hm : n ≤ 1048576) (hx : Few ws) (hh : IsWs0 w a ws) (ht : Tab w) :
    Calls Tryz.prog 104 #[.slice a n cap] w fun e w' => e = .returned (.string (str (batchT ws))) ∧ Below w.heap.size w w' := by
  have hlt : 6 < w.heap.size := ht.lt
  have HT := Lib.hid ht
  have HN := Lib.hid hn
  have HX := Lib.hid hx
  have HH := Lib.hid hh
  clear ht hn hx hh
  by_cases hr : 1 ≤ n ∧ n ≤ 6
  rotate_left
  · have HE : Hid (batchT ws = []) := by
      show _ = _
      unfold batchT
      rw [if_neg fun h => hr (by rw [← HN.out]; exact okWs_len h)]
    have hb : btw (n : Int) 1 6 = false := by
      cases h : btw (n : Int) 1 6
      · rfl
      · exact absurd (by have := btw_bounds h; omega) hr
    go_enter Tryz.func104, Tryz.ntmps104
    go_wp2_with fail
    refine (inRange_any _ _ _ _).mono ?_
    rintro e w1 ⟨rfl, hw⟩
    subst w1
    rw [hb]
    go_wp2
    go_ret
    exact ⟨by rw [HE.out]; rfl, Below.refl _ _⟩
  have hb : btw (n : Int) 1 6 = true := by unfold btw; simp; omega
  cases hall : ws.all okW
  · have HE : Hid (batchT ws = []) := by
      show _ = _
      unfold batchT
      rw [if_neg fun h => by
        have h2 : ws.all okW = true := List.all_eq_true.2 (okWs_all h)
        rw [hall] at h2
        cases h2]
    go_enter Tryz.func104, Tryz.ntmps104
    go_wp2_with fail
    refine (inRange_any _ _ _ _).mono ?_
    rintro e w1 ⟨rfl, hw⟩
    subst w1
    rw [hb]
    go_wp2_with fail
    refine (allOk_any a n cap ws _ HN.out hm HX.out (HH.out.isWs HX.out)).mono ?_
    rintro e w1 ⟨rfl, hbl⟩
    have HB1 := Lib.hid hbl
    clear hbl
    rw [hall]
    go_wp2
    go_ret
    exact ⟨by rw [HE.out]; rfl, HB1.out⟩
  have HOK : Hid (okWs ws = true) := by
    show _ = _
    unfold okWs
    simp only [Bool.and_eq_true, decide_eq_true_eq]
    exact ⟨by rw [HN.out]; exact hr, hall⟩
  have HA0 : Hid (str (headB n ++ [10]) = str (accB ws 0)) := by
    show _ = _
    unfold accB
    rw [HN.out]
    simp
  have z0 : (str (headB n ++ [10])).size ≤ 28 := by
    have := Lib.itoa_length_le (n : Int) (by omega) (by omega)
    rw [str_size]
    unfold headB
    simp
    omega
  go_enter Tryz.func104, Tryz.ntmps104
  go_wp2_with fail
  refine (inRange_any _ _ _ _).mono ?_
  rintro e w1 ⟨rfl, hw⟩
  subst w1
  rw [hb]
  go_wp2_with fail
  refine (allOk_any a n cap ws _ HN.out hm HX.out (HH.out.isWs HX.out)).mono ?_
  rintro e w1 ⟨rfl, hbl⟩
  have HB1 := Lib.hid hbl
  clear hbl
  rw [hall]
  clear hall hb
  go_wp2_with fail
  refine (headLine_any n _ hr.2 (HT.out.below HB1.out hlt)).mono ?_
  rintro e w2 ⟨rfl, hbl⟩
  have HB2 := Lib.hid (below_step HB1.out HB1.out.size hbl)
  clear hbl HB1
  generalize str (headB n ++ [10]) = t0 at *
  go_wp2
  go_loopw [3, 20] (fun t i wr => ∃ (j : Nat) (acc : ByteArray), j ≤ n ∧ i = .int .i64 j ∧ t = .string acc ∧ acc.size ≤ 28 + 401 * j ∧ Hid (acc = str (accB ws j)) ∧ Hid (Below w.heap.size w wr)) (fun _ i _ => n - (intOf i).toNat)
  case atStart => exact ⟨0, _, Nat.zero_le _, rfl, rfl, by omega, HA0, HB2⟩
  case round =>
    clear HA0 HB2 z0
    obtain ⟨j, acc, hj, rfl, rfl, hsz, HA, HB⟩ := hrel
    by_cases hj' : j < n
    · have hjj : j < ws.length := by rw [HN.out]; exact hj'
      have i1 : (0 : Int) ≤ (j : Int) := by omega
      have i2 : (j : Int) < (n : Int) := by omega
      obtain ⟨b, o, rfl, hz, hall⟩ : ∃ b o, a = some ⟨b, o, none⟩ ∧ b < wr.heap.size ∧ ∀ i, i < ws.length → ∃ a' cap, WrAt wr b (o + i * 7) (ws.getD i wz) a' cap ∧ Deps0 wr a' (ws.getD i wz).xs := by
        rcases HH.out.below HB.out with h | h
        · rw [h] at hjj
          simp at hjj
        · exact h
      obtain ⟨ad, cp, ⟨e0, e1, e2, e3, e4, e5, e6⟩, hd⟩ := hall j hjj
      have hxl := HX.out j hjj
      have HD := Lib.hid hd
      have HNX := Lib.hid (accB_next ws hjj)
      have HT4 := Lib.hid (text_400 (x := ws.getD j wz))
      clear hall hd
      generalize ws.getD j wz = x at *
      obtain ⟨xk, xc, xs', xq, xv, xd, xx⟩ := x
      simp only at e0 e1 e2 e3 e4 e5 e6 hxl HD
      have HAB : Hid (Below wr.heap.size wr (wr.alloc (.cells #[.int .i64 xk, .int .i64 xc, .int .i64 xs', .int .i64 xq, .int .i64 xv, .bool xd, .slice ad xx.length cp] 33))) := (Below.refl _ _).alloc (Nat.le_refl _) _
      have HBA := Lib.hid (below_step HB.out HB.out.size HAB.out)
      have HDA := Lib.hid (deps0_stay HD.out HAB.out)
      go_wp2_with fail
      refine (implText_gen xk xc xs' xq xv xd ad xx _ cp _ rfl hxl HDA.out (HT.out.below HBA.out hlt)).mono ?_
      rintro e w2 ⟨rfl, hbl⟩
      have HB2 := Lib.hid (below_step HBA.out HBA.out.size hbl)
      clear hbl HB HD HDA HBA HAB e0 e1 e2 e3 e4 e5 e6
      have HTX : Hid (textR ⟨xk, xc, xs', xq, xv, xd, xx⟩ = writeText xk xc xs' xq xv xd xx) := rfl
      have h4 := HT4.out
      rw [HTX.out] at h4 HNX
      have hs : (str (writeText xk xc xs' xq xv xd xx)).size ≤ 400 := by rw [str_size]; exact h4
      have HSA : Hid (acc ++ (str (writeText xk xc xs' xq xv xd xx) ++ ⟨#[10]⟩) = str (accB ws (j + 1))) := by
        have e3 : (⟨#[10]⟩ : ByteArray) = str [10] := rfl
        show _ = _
        rw [HA.out, e3, str_add, str_add, HNX.out]
      clear h4 HNX HT4 HTX
      generalize str (writeText xk xc xs' xq xv xd xx) = tx at *
      have y1 : (tx ++ ⟨#[10]⟩).size ≤ 401 := by
        rw [ByteArray.size_append]
        have : (⟨#[10]⟩ : ByteArray).size = 1 := rfl
        omega
      have y2 : (acc ++ (tx ++ ⟨#[10]⟩)).size ≤ 28 + 401 * (j + 1) := by
        rw [ByteArray.size_append]
        omega
      go_wp2
      exact ⟨⟨j + 1, _, by omega, by go_num, rfl, y2, HSA, HB2⟩, by simp [intOf]; omega⟩
    · have hjn : j = n := by omega
      subst hjn
      have hacc : acc.size ≤ 3000 := by omega
      have HBD : Hid (accB ws j = bodyB ws) := by
        show _ = _
        unfold accB bodyB
        rw [List.take_of_length_le (by rw [HN.out]; exact Nat.le_refl _)]
      have HAL : Hid (acc.data.toList = bodyB ws) := by
        show _ = _
        rw [HA.out, HBD.out]
        simp [str]
      have HFE : Hid (acc ++ str (sumL (bodyB ws) ++ [10]) = str (batchT ws)) := by
        show _ = _
        unfold batchT
        rw [if_pos HOK.out, HA.out, HBD.out, str_add]
        rfl
      have z4 : (str (sumL (bodyB ws) ++ [10])).size ≤ 26 := by
        have := sumL_size (bodyB ws)
        rw [str_size]
        simp
        omega
      go_wp2_with fail
      refine (sumLine_any acc _ (by omega) (HT.out.below HB.out hlt)).mono ?_
      rintro e w2 ⟨rfl, hbl⟩
      have HB2 := Lib.hid (below_step HB.out HB.out.size hbl)
      clear hbl
      rw [HAL.out]
      generalize str (sumL (bodyB ws) ++ [10]) = tc at *
      have z5 : (acc ++ tc).size ≤ 3100 := by rw [ByteArray.size_append]; omega
      go_wp2
      go_ret
      exact ⟨by rw [← HFE.out]; rfl, HB2.out⟩

end Go.Proofs.YtbbmpfkijhhemaaGreatDoor

namespace Go.Proofs.YtbbmpfkijhhemaaGreatDoor
open Go.ChangeShapes Go.WideShapes Go.ChangeAt Go.RowKit Go.Joins
set_option maxRecDepth 100000
attribute [local go_sem ↓] Go.wp_at_zero Go.wp_at_succ

theorem wsX_below {b : Nat} {w w' : World} {a : Option Addr} {ws : List Wr} (h : IsWsX b w a ws) (hb : Below w.heap.size w w') : IsWsX b w' a ws := by
  rcases h with h | ⟨g, o, ha, hne, hlt, hh⟩
  · exact .inl h
  · refine .inr ⟨g, o, ha, hne, Nat.lt_of_lt_of_le hlt hb.size, fun i hi => ?_⟩
    obtain ⟨a', cp, h1, h2⟩ := hh i hi
    refine ⟨a', cp, h1.of_block (hb.block g hlt), ?_⟩
    rcases h2 with h2 | ⟨g', o', ha', hne', hlt', hh'⟩
    · exact .inl h2
    · exact .inr ⟨g', o', ha', hne', Nat.lt_of_lt_of_le hlt' hb.size, hh'.below hb hlt'⟩

theorem RowG.formK {w : World} {base : Nat} {v : Value} {es : List EnG} (h : RowG w base v es) : ∃ a cp, v = .slice a es.length cp := by
  obtain ⟨a, cap, n, h1, h2, -⟩ := h.ownA rfl
  exact ⟨a, cap, by rw [h1, ← h2]; simp⟩

set_option maxHeartbeats 16000000 in
theorem kept_any (si cl sq la : Int) (a : Option Addr) (n cap : Nat) (t : ByteArray) (b N : Nat) (M : Int → Option Wr) (al : Option Addr) (m cpl : Nat) (ls : List Wr) (w : World) (hm : ls.length = m) (hm1 : m ≤ 1048576) (hN : N ≤ 1048576) (hts : t.size ≤ 60000) (hf : Few ls) (hk : ∀ i, i < ls.length → 0 ≤ (ls.getD i wz).k ∧ (ls.getD i wz).k ≤ 5) (hl : IsWsX b w al ls) (hl0 : IsWs0 w al ls) (hr : RegsX w w b N M) (hL : LV w) :
    Calls Tryz.prog 47 #[kpV si cl sq la a n cap t b, .slice al m cpl] w fun e w' => ((60000 < (t ++ str (batchT ls)).size ∧ e = .returned (.tuple #[shV 0 0 0 0 none 0 0 ⟨#[]⟩, .bool false])) ∨ ((t ++ str (batchT ls)).size ≤ 60000 ∧ ∃ a' n' cp' es, e = .returned (.tuple #[shV si cl sq la a' n' cp' (t ++ str (batchT ls)), .bool true]) ∧ es.length = n' ∧ es.map (·.x) = toldM (ls.foldl regPut M) ∧ RowG w' w.heap.size (.slice a' n' cp') es)) ∧ Hole b w w' := by
  have hbl := hr.lt
  have HX := Lib.hid hr
  have HLX := Lib.hid hl
  have HL0 := Lib.hid hl0
  have HM := Lib.hid hm
  have HF := Lib.hid hf
  have HKY := Lib.hid hk
  have HLV := Lib.hid hL
  clear hr hl hl0 hm hf hk hL
  unfold kpV
  have HB1 : Below w.heap.size w (w.alloc (.cells #[.int .i64 si, .int .i64 cl, .int .i64 sq, .int .i64 la, .slice a n cap, .string t, .map (some b)] 76)) := (Below.refl _ _).alloc (Nat.le_refl _) _
  have hz1 : (w.alloc (.cells #[.int .i64 si, .int .i64 cl, .int .i64 sq, .int .i64 la, .slice a n cap, .string t, .map (some b)] 76)).heap.size = w.heap.size + 1 := by simp
  have hK1 := KBox.start w si cl sq la a n cap t (some b) 76
  obtain ⟨U1, hU1⟩ : ∃ U1, w.alloc (.cells #[.int .i64 si, .int .i64 cl, .int .i64 sq, .int .i64 la, .slice a n cap, .string t, .map (some b)] 76) = U1 := ⟨_, rfl⟩
  rw [hU1] at HB1 hz1 hK1
  have hA1 : Below U1.heap.size U1 (U1.alloc (.cells #[.int .i64 0, .int .i64 0, .int .i64 0, .int .i64 0, .slice none 0 0, .string ⟨#[]⟩] 26)) := (Below.refl _ _).alloc (Nat.le_refl _) _
  have HB2 : Below w.heap.size w (U1.alloc (.cells #[.int .i64 0, .int .i64 0, .int .i64 0, .int .i64 0, .slice none 0 0, .string ⟨#[]⟩] 26)) := HB1.alloc (by omega) _
  have hz2 : (U1.alloc (.cells #[.int .i64 0, .int .i64 0, .int .i64 0, .int .i64 0, .slice none 0 0, .string ⟨#[]⟩] 26)).heap.size = w.heap.size + 1 + 1 := by simp [hz1]
  have hR2 : SBox (U1.alloc (.cells #[.int .i64 0, .int .i64 0, .int .i64 0, .int .i64 0, .slice none 0 0, .string ⟨#[]⟩] 26)) (w.heap.size + 1) 0 0 0 0 none 0 0 ⟨#[]⟩ := by have := SBox.start U1 0 0 0 0 none 0 0 ⟨#[]⟩ 26; rw [hz1] at this; exact this
  have hK2 := hK1.below hA1
  obtain ⟨U2, hU2⟩ : ∃ U2, U1.alloc (.cells #[.int .i64 0, .int .i64 0, .int .i64 0, .int .i64 0, .slice none 0 0, .string ⟨#[]⟩] 26) = U2 := ⟨_, rfl⟩
  rw [hU2] at HB2 hz2 hR2 hK2
  have hA2 : Below U2.heap.size U2 (U2.alloc (.cells #[.int .i64 si, .int .i64 cl, .int .i64 sq, .int .i64 la, .slice a n cap, .string t] 26)) := (Below.refl _ _).alloc (Nat.le_refl _) _
  have HB3 : Below w.heap.size w (U2.alloc (.cells #[.int .i64 si, .int .i64 cl, .int .i64 sq, .int .i64 la, .slice a n cap, .string t] 26)) := HB2.alloc (by omega) _
  have hz3 : (U2.alloc (.cells #[.int .i64 si, .int .i64 cl, .int .i64 sq, .int .i64 la, .slice a n cap, .string t] 26)).heap.size = w.heap.size + 1 + 1 + 1 := by simp [hz2]
  have hS3 : SBox (U2.alloc (.cells #[.int .i64 si, .int .i64 cl, .int .i64 sq, .int .i64 la, .slice a n cap, .string t] 26)) (w.heap.size + 1 + 1) si cl sq la a n cap t := by have := SBox.start U2 si cl sq la a n cap t 26; rw [hz2] at this; exact this
  have hK3 := hK2.below hA2
  have hR3 := hR2.below hA2
  obtain ⟨U3, hU3⟩ : ∃ U3, U2.alloc (.cells #[.int .i64 si, .int .i64 cl, .int .i64 sq, .int .i64 la, .slice a n cap, .string t] 26) = U3 := ⟨_, rfl⟩
  rw [hU3] at HB3 hz3 hS3 hK3 hR3
  have HB := Lib.hid HB3
  have HS := Lib.hid hS3
  have HK := Lib.hid hK3
  have HR := Lib.hid hR3
  obtain ⟨⟨-, p0, p1, p2, p3, p4, p5, -⟩, p6⟩ := hK2
  have hzl : w.heap.size + 1 + 1 < U3.heap.size := by omega
  clear hA1 hA2 HB1 HB2 HB3 hK1 hK3 hR2 hR3 hS3
  go_enter Tryz.func47, Tryz.ntmps47
  go_wp2_with fail
  clear hU1 hU2 hU3 p0 p1 p2 p3 p4 p5 p6 hz1 hz2 hz3
  obtain ⟨T, hT⟩ : ∃ T, T = str (batchT ls) := ⟨_, rfl⟩
  have hTs : T.size ≤ 2500 := by
    rw [hT]
    have := batchT_sz ls
    simpa [str, ByteArray.size] using this
  have HBT : Hid (∀ W, Below U3.heap.size U3 W → Calls Tryz.prog 104 #[.slice al m cpl] W fun e w' => e = .returned (.string T) ∧ Below W.heap.size W w') := fun W hW => by
    rw [hT]
    have hB := below_step HB.out HB.out.size hW
    exact implBatch_any al m cpl ls W HM.out hm1 HF.out (HL0.out.below hB) (HLV.out.below hB).2.2.1
  have hts2 : (t ++ T).size = t.size + T.size := ByteArray.size_append
  have HT := Lib.hid hT
  clear hT
  refine wp_region_slots 6 [[(6, false)], [(9, true)], [(1, false)], [(11, true)], [(10, true), (12, true)], [(6, false)]] (fun w' => Below U3.heap.size U3 w') (fun w w' => Below w.heap.size w w') (by kernel_rfl) (by kernel_rfl) (by rfl) (Below.refl _ _).drew (fun _ _ h hr => below_step h h.size hr) ?_
  iterate 3 (apply slot_eq; · (intro ρ w' ⟨p1, p2, p3⟩ hS hn; obtain ⟨-, x0, x1, x2, x3, x4, x5, -⟩ := HS.out.below hS; simp at hn; go_simp; exact ⟨Below.refl _ _, rfl⟩))
  apply slot_eq
  · intro ρ w' ⟨p1, p2, p3⟩ hS hn
    simp at hn
    go_simp
    exact got_call (HBT.out w' hS) fun e w'' ⟨he, hb⟩ => ⟨_, he, hb, rfl⟩
  apply slot_eq
  · intro ρ w' ⟨p1, p2, p3⟩ hS hn
    simp at hn
    go_simp
    rw [if_neg (by omega)]
    exact ⟨Below.refl _ _, rfl⟩
  iterate 1 (apply slot_eq; · (intro ρ w' ⟨p1, p2, p3⟩ hS hn; simp at hn; go_simp; exact ⟨Below.refl _ _, rfl⟩))
  refine slot_end ?_
  intro tv w4 hS hF
  simp at hF
  obtain ⟨f14, f13, f12, f11, f10, f9⟩ := hF
  simp only [List.take_succ_cons, List.take_zero, List.drop_succ_cons, List.drop_zero, putAll, f14, f13, f12, f11, f10, f9]
  clear f14 f13 f12 f11 f10 f9
  simp only [Act.put, List.setIfInBounds_toArray, List.set_cons_succ, List.set_cons_zero]
  obtain ⟨L, hLd⟩ : ∃ L, L = t ++ T := ⟨_, rfl⟩
  rw [← hLd] at hts2
  rw [← hLd]
  have HLd := Lib.hid hLd
  clear hLd
  have hS4 := HS.out.below hS
  have hB4 := below_step HB.out HB.out.size hS
  have HS5 := Lib.hid (hS4.set5 L)
  have HB5 : Hid (Below w.heap.size w (w4.setCell ⟨w.heap.size + 1 + 1, 5, none⟩ (.string L))) := Hole.below hB4 ((Hole.refl _ _).set 5 _) (by omega) hB4.size
  have HR5 : Hid (SBox (w4.setCell ⟨w.heap.size + 1 + 1, 5, none⟩ (.string L)) (w.heap.size + 1) 0 0 0 0 none 0 0 ⟨#[]⟩) := (HR.out.below hS).of_block (((Hole.refl (w.heap.size + 1 + 1) w4).set 5 (.string L)).size) (((Hole.refl (w.heap.size + 1 + 1) w4).set 5 (.string L)).block _ (HR.out.below hS).lt (by omega))
  have HK5 : Hid (KBox (w4.setCell ⟨w.heap.size + 1 + 1, 5, none⟩ (.string L)) w.heap.size si cl sq la a n cap t (some b)) := (HK.out.below hS).of_block (((Hole.refl (w.heap.size + 1 + 1) w4).set 5 (.string L)).size) (((Hole.refl (w.heap.size + 1 + 1) w4).set 5 (.string L)).block _ (HK.out.below hS).sh.lt (by omega))
  have hz5 : w.heap.size + 1 + 1 < (w4.setCell ⟨w.heap.size + 1 + 1, 5, none⟩ (.string L)).heap.size := HS5.out.lt
  obtain ⟨W5, hW5⟩ : ∃ W5, w4.setCell ⟨w.heap.size + 1 + 1, 5, none⟩ (.string L) = W5 := ⟨_, rfl⟩
  rw [hW5] at HS5 HB5 HR5 HK5 hz5
  obtain ⟨-, x0, x1, x2, x3, x4, x5, xf⟩ := hS4
  obtain ⟨-, y0, y1, y2, y3, y4, y5, yf⟩ := HS5.out
  obtain ⟨⟨-, k0, k1, k2, k3, k4, k5, kf⟩, k6⟩ := HK5.out
  by_cases hbig : L.size ≤ 60000
  · have hb' : ¬ (60000 : Int) < (L.size : Int) := by omega
    go_wp2_with fail
    refine (putAll_x W5 b N M al m cpl ls W5 HM.out hm1 hN HF.out HKY.out (wsX_below HLX.out HB5.out) (grown_of_below (Below.refl _ _) _) (HX.out.later HB5.out (HB5.out.block b hbl))).mono ?_
    rintro e w6 ⟨rfl, hr6, hg6⟩
    have HRG := Lib.hid (RegsX.now hr6 hg6)
    have hH6 : Hole b W5 w6 := ⟨hg6.os, hg6.tape, hg6.output, hg6.size, fun k hk hn => hg6.block k hk (by simp; omega)⟩
    have HS6 := Lib.hid (HS5.out.of_block hH6.size (hH6.block _ HS5.out.lt (by omega)))
    have HR6 := Lib.hid (HR5.out.of_block hH6.size (hH6.block _ HR5.out.lt (by omega)))
    have HK6 := Lib.hid (HK5.out.of_block hH6.size (hH6.block _ HK5.out.sh.lt (by omega)))
    have HH6 : Hid (Hole b w w6) := (Hole.of_below HB5.out).trans hH6
    have hz6 : w.heap.size + 1 + 1 < w6.heap.size := HS6.out.lt
    clear hr6 hg6 hH6 x0 x1 x2 x3 x4 x5 xf y0 y1 y2 y3 y4 y5 yf k0 k1 k2 k3 k4 k5 kf k6
    obtain ⟨⟨-, l0, l1, l2, l3, l4, l5, lf⟩, l6⟩ := HK6.out
    go_wp2_with fail
    refine (told_any w6 b _ _ w6 (Below.refl _ _) HRG.out).mono ?_
    rintro e w7 ⟨v, es, rfl, hes, hrow, hb7⟩
    obtain ⟨a', cp', rfl⟩ := hrow.formK
    have hS7 := HS6.out.below hb7
    have hR7 := HR6.out.below hb7
    have HS8 := Lib.hid (hS7.set4 a' es.length cp')
    have hH8 : Hole (w.heap.size + 1 + 1) w7 (w7.setCell ⟨w.heap.size + 1 + 1, 4, none⟩ (.slice a' es.length cp')) := (Hole.refl _ _).set 4 _
    have HR8 := Lib.hid (hR7.of_block hH8.size (hH8.block _ hR7.lt (by omega)))
    have hrow8 := hrow.holeQ hH8 hz6
    have hh8 : Hole b w (w7.setCell ⟨w.heap.size + 1 + 1, 4, none⟩ (.slice a' es.length cp')) := (HH6.out.trans (Hole.of_below hb7)).setNew (by omega) 4 _
    obtain ⟨W8, hW8⟩ : ∃ W8, w7.setCell ⟨w.heap.size + 1 + 1, 4, none⟩ (.slice a' es.length cp') = W8 := ⟨_, rfl⟩
    rw [hW8] at HS8 HR8 hrow8 hh8 hH8
    have hP := sbox_putS HR8.out si cl sq la a' es.length cp' L
    have hH9 := hole_putS (Hole.refl (w.heap.size + 1) W8) si cl sq la a' es.length cp' L
    have HR9 := Lib.hid (hrow8.holeQ hH9 (by omega))
    have HH9 : Hid (Hole b w (putS W8 (w.heap.size + 1) si cl sq la a' es.length cp' L)) := ⟨hH9.os.trans hh8.os, hH9.tape.trans hh8.tape, hH9.output.trans hh8.output, Nat.le_trans hh8.size hH9.size, fun k hk hn => (hH9.block k (Nat.lt_of_lt_of_le hk hh8.size) (by omega)).trans (hh8.block k hk hn)⟩
    obtain ⟨V, hV⟩ : ∃ V, putS W8 (w.heap.size + 1) si cl sq la a' es.length cp' L = V := ⟨_, rfl⟩
    rw [hV] at hP HR9 HH9
    unfold putS at hV
    obtain ⟨-, o0, o1, o2, o3, o4, o5, -⟩ := hP
    obtain ⟨-, x0, x1, x2, x3, x4, x5, xf⟩ := hS7
    obtain ⟨-, y0, y1, y2, y3, y4, y5, yf⟩ := HS8.out
    obtain ⟨-, z0, z1, z2, z3, z4, z5, zf⟩ := HR8.out
    have HES := Lib.hid hes
    clear hH9 hH8 hrow8 hh8 hrow hes hb7 l0 l1 l2 l3 l4 l5 lf l6 hR7
    go_wp2_with fail
    have HRM := HR9.out.mono (base' := w.heap.size) (by omega)
    exact bodyPost_ret (v := .tuple #[shV si cl sq la a' es.length cp' L, .bool true]) (by simp [results, Tryz.results47, shV, go_sem, o0, o1, o2, o3, o4, o5]) rfl ⟨.inr ⟨by rw [← HT.out, ← HLd.out]; omega, a', es.length, cp', es, by rw [← HT.out, ← HLd.out], rfl, HES.out, HRM⟩, HH9.out⟩
  · have hb' : (60000 : Int) < (L.size : Int) := by omega
    obtain ⟨-, z0, z1, z2, z3, z4, z5, zf⟩ := HR5.out
    have hP := sbox_putS HR5.out 0 0 0 0 none 0 0 ⟨#[]⟩
    have hH := hole_putS (Hole.refl (w.heap.size + 1) W5) 0 0 0 0 none 0 0 ⟨#[]⟩
    have HBE := Lib.hid (Hole.below HB5.out hH (by omega) HB5.out.size)
    obtain ⟨V, hV⟩ : ∃ V, putS W5 (w.heap.size + 1) 0 0 0 0 none 0 0 ⟨#[]⟩ = V := ⟨_, rfl⟩
    rw [hV] at hP HBE
    unfold putS at hV
    obtain ⟨-, o0, o1, o2, o3, o4, o5, -⟩ := hP
    clear hH
    go_wp2_with fail
    exact bodyPost_ret (v := .tuple #[shV 0 0 0 0 none 0 0 ⟨#[]⟩, .bool false]) (by simp [results, Tryz.results47, shV, go_sem, o0, o1, o2, o3, o4, o5]) rfl ⟨.inl ⟨by rw [← HT.out, ← HLd.out]; omega, rfl⟩, Hole.of_below HBE.out⟩

end Go.Proofs.YtbbmpfkijhhemaaGreatDoor

namespace Go.Proofs.YtbbmpfkijhhemaaGreatDoor
open Go.ChangeShapes Go.WideShapes Go.ChangeAt Go.RowKit Go.Joins

def Turn (B : Nat) (w w' : World) : Prop := ∃ b, B ≤ b ∧ (∃ es c, w.heap[b]? = some (.map es c)) ∧ Hole b w w'

def RQ (B : Nat) (u : Tmp) : ReachU := fun d w w' => (d = some u ∧ Turn B w w') ∨ (d ≠ some u ∧ Below w.heap.size w w')

theorem rq_below {B : Nat} {u : Tmp} {d : Option Tmp} {w w' : World} (hd : d ≠ some u) (h : Below w.heap.size w w') : RQ B u d w w' := .inr ⟨hd, h⟩

theorem rq_turn {B : Nat} {u : Tmp} {w w' : World} (h : Turn B w w') : RQ B u (some u) w w' := .inl ⟨rfl, h⟩

theorem rq_step {B : Nat} {u : Tmp} {d : Option Tmp} {w0 w w' : World} (h : Below B w0 w) (hB : B ≤ w.heap.size) (hr : RQ B u d w w') : Below B w0 w' := by
  rcases hr with ⟨-, b, hb, -, hh⟩ | ⟨-, hb⟩
  · exact Hole.below h hh hb hB
  · exact below_step h hB hb

theorem lastsU_until {B : Nat} {u d : Tmp} {U : Tmp → Option Tmp} {T : Fact} (hU : U d = some u) (h : lasts (fun w w' => Below w.heap.size w w') T) : lastsU U (RQ B u) (some d) T := by
  intro d' _ h2 v w w' hv hr
  rcases hr with ⟨h3, -⟩ | ⟨-, hb⟩
  · exact absurd h3 (h2 d u rfl hU)
  · exact h v w w' hv hb

theorem lastsU_own {B : Nat} {u : Tmp} {U : Tmp → Option Tmp} {T : Fact} (h : lasts (fun w w' => Below w.heap.size w w') T) : lastsU U (RQ B u) (some u) T := by
  intro d' h1 _ v w w' hv hr
  rcases hr with ⟨h3, -⟩ | ⟨-, hb⟩
  · exact absurd h3 h1
  · exact h v w w' hv hb

theorem lastsU_both {B : Nat} {u : Tmp} {d : Option Tmp} {U : Tmp → Option Tmp} {T : Fact} (h : lasts (fun w w' => Below w.heap.size w w') T) (ht : lasts (Turn B) T) : lastsU U (RQ B u) d T := by
  intro d' _ _ v w w' hv hr
  rcases hr with ⟨-, h4⟩ | ⟨-, hb⟩
  · exact ht v w w' hv h4
  · exact h v w w' hv hb

def onlyB (all : List Oper) (N : List (List (Tmp × Bool))) (U : Tmp → Option Tmp) : Bool :=
  (List.range N.length).all fun j => (N.getD j []).all fun p => !p.2 || (match U p.1 with | none => true | some u => (List.range all.length).all fun i => match all[i]? with | some o => (o.dst != some u) || (i == j) | none => true)

theorem onlyB_of {all : List Oper} {N : List (List (Tmp × Bool))} {U : Tmp → Option Tmp} (h : onlyB all N U = true) :
    ∀ (j : Nat) (n : List (Tmp × Bool)), N[j]? = some n → ∀ x, (x, true) ∈ n → ∀ u, U x = some u → ∀ (i : Nat) (o' : Oper), all[i]? = some o' → o'.dst = some u → i = j := by
  intro j n hj x hx u hu i o' ho hd
  have hjl : j < N.length := (List.getElem?_eq_some_iff.1 hj).1
  have h1 := List.all_eq_true.1 h j (List.mem_range.2 hjl)
  have e : N.getD j [] = n := by simp [List.getD, hj]
  rw [e] at h1
  have h2 := List.all_eq_true.1 h1 _ hx
  simp only [hu, Bool.not_true, Bool.false_or] at h2
  have hil : i < all.length := (List.getElem?_eq_some_iff.1 ho).1
  have h3 := List.all_eq_true.1 h2 i (List.mem_range.2 hil)
  rw [ho] at h3
  simp only [hd, bne_self_eq_false, Bool.false_or, beq_iff_eq] at h3
  exact h3

theorem map_no_cell {w : World} {b o : Nat} {es : _} {c : _} (h : w.heap[b]? = some (.map es c)) : w.cell? ⟨b, o, none⟩ = none := by
  simp [World.cell?, h]

theorem map_ne_deps {w : World} {b g o : Nat} {xs : List Dp} (hm : ∃ es c, w.heap[b]? = some (.map es c)) (hp : 0 < xs.length) (h : HoldsDeps w g o xs) : g ≠ b := by
  rintro rfl
  obtain ⟨es, c, hm⟩ := hm
  obtain ⟨h0, -⟩ := h 0 hp
  rw [map_no_cell hm] at h0
  cases h0

theorem map_ne_cells {w : World} {b g : Nat} {cs : Array Value} {t : Nat} {fr : Nat × Nat} (hm : ∃ es c, w.heap[b]? = some (.map es c)) (h : w.heap[g]? = some (.cells cs t fr)) : g ≠ b := by
  rintro rfl
  obtain ⟨es, c, hm⟩ := hm
  rw [hm] at h
  cases h

theorem RowG.turn {w w' : World} {B base : Nat} {v : Value} {es : List EnG} (h : RowG w base v es) (ht : Turn B w w') : RowG w' base v es := by
  obtain ⟨b, -, hm, hh⟩ := ht
  refine h.aside hh ⟨?_, fun e he hp => map_ne_deps hm hp ((h.deps e he).1 hp).2.2.2.1⟩
  intro e
  rcases h.own.2 with ⟨h1, -⟩ | ⟨g, cap, cur, h1, -, h3, -⟩
  · rw [h1] at e
    simp [Value.ownBlock] at e
  · rw [h1] at e
    have e2 : g = b := by simpa [Value.ownBlock] using e
    exact map_ne_cells hm h3 e2

theorem shim_turn (B lo : Nat) : lasts (Turn B) (ShimF lo) := by
  rintro v w w' ⟨b, h1, h2, h3⟩ ⟨m, -, hm, hh⟩
  exact ⟨b, h1, h2, (hh.block b (Array.getElem?_eq_some_iff.1 h3).1 (map_ne_cells hm h3)).trans h3⟩

theorem ws0_away {w : World} {b : Nat} {a : Option Addr} {ws : List Wr} (h : IsWs0 w a ws) (hm : ∃ es c, w.heap[b]? = some (.map es c)) : IsWsX b w a ws := by
  rcases h with h | ⟨g, o, ha, hlt, hh⟩
  · exact .inl h
  · by_cases hp : 0 < ws.length
    · refine .inr ⟨g, o, ha, ?_, hlt, fun i hi => ?_⟩
      · rintro rfl
        obtain ⟨a', cap, ⟨h1, -⟩, -⟩ := hh 0 hp
        obtain ⟨es, c, hm⟩ := hm
        rw [map_no_cell hm] at h1
        cases h1
      · obtain ⟨a', cap, h1, h2⟩ := hh i hi
        refine ⟨a', cap, h1, ?_⟩
        rcases h2 with h2 | ⟨g2, h3, h4, h5⟩
        · exact .inl h2
        · by_cases hq : 0 < (ws.getD i wz).xs.length
          · exact .inr ⟨g2, 0, h3, map_ne_deps hm hq h5, h4, h5⟩
          · exact .inl (List.length_eq_zero_iff.1 (by omega))
    · exact .inl (List.length_eq_zero_iff.1 (by omega))

theorem RegsX.isMap {w0 w : World} {b n : Nat} {M : Int → Option Wr} (h : RegsX w0 w b n M) : ∃ es c, w.heap[b]? = some (.map es c) := by
  obtain ⟨f, ⟨D, ⟨es, c, h1, -⟩, -⟩, -⟩ := h
  exact ⟨es, c, h1⟩

def KpF (B : Nat) (si cl sq la : Int) (a : Option Addr) (n cap : Nat) (t : ByteArray) (N : Nat) (M : Int → Option Wr) : Fact := fun v w => ∃ b, v = kpV si cl sq la a n cap t b ∧ B ≤ b ∧ RegsX w w b N M

theorem lasts_kp (B : Nat) (si cl sq la : Int) (a : Option Addr) (n cap : Nat) (t : ByteArray) (N : Nat) (M : Int → Option Wr) : lasts (fun w w' => Below w.heap.size w w') (KpF B si cl sq la a n cap t N M) := by
  rintro v w w' ⟨b, h1, h2, h3⟩ hr
  exact ⟨b, h1, h2, h3.later hr (hr.block b h3.lt)⟩

def KeF (base : Nat) (si cl sq la : Int) (t : ByteArray) (m : List Wr) : Fact := fun v w => ∃ a' n' cp' es, v = .tuple #[shV si cl sq la a' n' cp' t, .bool true] ∧ es.length = n' ∧ es.map (·.x) = m ∧ RowG w base (.slice a' n' cp') es

def KsF (base : Nat) (si cl sq la : Int) (t : ByteArray) (m : List Wr) : Fact := fun v w => ∃ a' n' cp' es, v = shV si cl sq la a' n' cp' t ∧ es.length = n' ∧ es.map (·.x) = m ∧ RowG w base (.slice a' n' cp') es

theorem lasts_ke (base : Nat) (si cl sq la : Int) (t : ByteArray) (m : List Wr) : lasts (fun w w' => Below w.heap.size w w') (KeF base si cl sq la t m) := by
  rintro v w w' ⟨a', n', cp', es, h1, h2, h3, h4⟩ hr
  exact ⟨a', n', cp', es, h1, h2, h3, h4.below hr⟩

theorem turn_ke (B base : Nat) (si cl sq la : Int) (t : ByteArray) (m : List Wr) : lasts (Turn B) (KeF base si cl sq la t m) := by
  rintro v w w' ⟨a', n', cp', es, h1, h2, h3, h4⟩ hr
  exact ⟨a', n', cp', es, h1, h2, h3, h4.turn hr⟩

theorem lasts_ks (base : Nat) (si cl sq la : Int) (t : ByteArray) (m : List Wr) : lasts (fun w w' => Below w.heap.size w w') (KsF base si cl sq la t m) := by
  rintro v w w' ⟨a', n', cp', es, h1, h2, h3, h4⟩ hr
  exact ⟨a', n', cp', es, h1, h2, h3, h4.below hr⟩

theorem turn_ks (B base : Nat) (si cl sq la : Int) (t : ByteArray) (m : List Wr) : lasts (Turn B) (KsF base si cl sq la t m) := by
  rintro v w w' ⟨a', n', cp', es, h1, h2, h3, h4⟩ hr
  exact ⟨a', n', cp', es, h1, h2, h3, h4.turn hr⟩

theorem OwnD.holeD {w w' : World} {C lo hi : Nat} {a : Option Addr} {ds : List Dp} (h : OwnD w lo hi a ds) (hh : Hole C w w') (hC : C < lo ∨ hi ≤ C) : OwnD w' lo hi a ds := by
  rcases h with h | ⟨g, ha, h1, h2, h3, h4, h5⟩
  · exact .inl h
  · have hb := hh.block g h3 (by omega)
    refine .inr ⟨g, ha, h1, h2, Nat.lt_of_lt_of_le h3 hh.size, holdsDeps_block h4 hb, fun o => ?_⟩
    have := h5 o
    simp only [World.frozen?, hb] at this ⊢
    exact this

theorem OwnD.mono {w : World} {lo lo' hi hi' : Nat} {a : Option Addr} {ds : List Dp} (h : OwnD w lo hi a ds) (h1 : lo' ≤ lo) (h2 : hi ≤ hi') : OwnD w lo' hi' a ds := by
  rcases h with h | ⟨g, ha, g1, g2, g3, g4, g5⟩
  · exact .inl h
  · exact .inr ⟨g, ha, by omega, by omega, g3, g4, g5⟩

theorem told_put {ws : List Wr} (hm : mapOkB ws = true) {y : Wr} (hy : 0 ≤ y.k ∧ y.k ≤ 5) : toldM ([y].foldl regPut (findW ws)) = putW ws y := by
  have h := (mapOk_iff ws).1 hm
  have hk : ∀ x ∈ ws, 0 ≤ x.k ∧ x.k ≤ 5 := mapOk_keys hm
  have := told_join h.2 hk (b := [y]) (by intro x hx; rw [List.mem_singleton.1 hx]; exact hy)
  rw [regs_map h.2] at this
  rw [this]
  rfl

end Go.Proofs.YtbbmpfkijhhemaaGreatDoor
