import Derived.Test.YteladgfdedlmjaaGreatDoorPack20
import Derived.Test.YteladgfdedlmjaaGreatDoorPack23
import Derived.Deep.DeepCutAuto
namespace Go.Proofs.YteladgfdedlmjaaGreatDoor
open Go.ChangeShapes Go.WideShapes Go.ChangeAt Go.RowKit Go.Joins
set_option maxRecDepth 100000
attribute [local go_sem ↓] Go.wp_at_zero Go.wp_at_succ
set_option maxHeartbeats 4000000 in
theorem l07Copy_any (si cl sq la : Int) (a : Option Addr) (n cap : Nat) (t : ByteArray) (ws : List Wr) (w : World) (hn : ws.length = n) (hm : n ≤ 1048576) (hx : Few ws) (hh : IsWs w a ws) :
  Calls Tryz.prog 125 #[shV si cl sq la a n cap t] w fun e w' => ∃ g cp, e = .returned (shV si cl sq la (some ⟨g, 0, none⟩) n cp t) ∧ Below w.heap.size w w' := by
 have HH := Lib.hid hh
 have HN := Lib.hid hn
 have HX := Lib.hid hx
 clear hh hn hx
 unfold shV
 have HB1 : Below w.heap.size w (w.alloc (.cells #[.int .i64 si, .int .i64 cl, .int .i64 sq, .int .i64 la, .slice a n cap, .string t] 26)) := (Below.refl _ _).alloc (Nat.le_refl _) _
 have hz1 : (w.alloc (.cells #[.int .i64 si, .int .i64 cl, .int .i64 sq, .int .i64 la, .slice a n cap, .string t] 26)).heap.size = w.heap.size + 1 := by simp
 have hS1 := SBox.start w si cl sq la a n cap t 26
 obtain ⟨W1, hW1⟩ : ∃ W1, w.alloc (.cells #[.int .i64 si, .int .i64 cl, .int .i64 sq, .int .i64 la, .slice a n cap, .string t] 26) = W1 := ⟨_, rfl⟩
 rw [hW1] at HB1 hz1 hS1
 have hA1 : Below W1.heap.size W1 (W1.alloc (.cells #[.int .i64 0, .int .i64 0, .int .i64 0, .int .i64 0, .slice none 0 0, .string ⟨#[]⟩] 26)) := (Below.refl _ _).alloc (Nat.le_refl _) _
 have HB2 : Below w.heap.size w (W1.alloc (.cells #[.int .i64 0, .int .i64 0, .int .i64 0, .int .i64 0, .slice none 0 0, .string ⟨#[]⟩] 26)) := HB1.alloc (by omega) _
 have hz2 : (W1.alloc (.cells #[.int .i64 0, .int .i64 0, .int .i64 0, .int .i64 0, .slice none 0 0, .string ⟨#[]⟩] 26)).heap.size = w.heap.size + 1 + 1 := by simp [hz1]
 have hR2 : SBox (W1.alloc (.cells #[.int .i64 0, .int .i64 0, .int .i64 0, .int .i64 0, .slice none 0 0, .string ⟨#[]⟩] 26)) (w.heap.size + 1) 0 0 0 0 none 0 0 ⟨#[]⟩ := by have := SBox.start W1 0 0 0 0 none 0 0 ⟨#[]⟩ 26; rw [hz1] at this; exact this
 have hS2 := hS1.below hA1
 obtain ⟨W2, hW2⟩ : ∃ W2, W1.alloc (.cells #[.int .i64 0, .int .i64 0, .int .i64 0, .int .i64 0, .slice none 0 0, .string ⟨#[]⟩] 26) = W2 := ⟨_, rfl⟩
 rw [hW2] at HB2 hz2 hR2 hS2
 have HB := Lib.hid HB2
 have HS := Lib.hid hS2
 have HRS := Lib.hid hR2
 have HI := Lib.hid (HH.out.below HB2)
 obtain ⟨-, x0, x1, x2, x3, x4, x5, -⟩ := hS2
 clear hA1 HB1 HB2 hS1 hR2
 go_enter Tryz.func125, Tryz.ntmps125
 go_wp2_with fail
 clear hW1 hW2 x0 x1 x2 x3 x4 x5
 refine (copies_gen a n cap ws _ HN.out hm HX.out HI.out).mono ?_
 rintro e w3 ⟨g, cp, es, rfl, -, -, hb⟩
 have h3s := hb.size
 have hB3 := below_step HB.out HB.out.size hb
 have hS3 := HS.out.below hb
 have hR3 := HRS.out.below hb
 have hS4 := hS3.set4 (some ⟨g, 0, none⟩) n cp
 have hH4 : Hole w.heap.size w3 (w3.setCell ⟨w.heap.size, 4, none⟩ (.slice (some ⟨g, 0, none⟩) n cp)) := (Hole.refl _ _).set 4 _
 obtain ⟨W4, hW4⟩ : ∃ W4, w3.setCell ⟨w.heap.size, 4, none⟩ (.slice (some ⟨g, 0, none⟩) n cp) = W4 := ⟨_, rfl⟩
 rw [hW4] at hS4 hH4
 have hR4 := hR3.of_block hH4.size (hH4.block _ hR3.lt (by omega))
 have hP5 := sbox_putS hR4 si cl sq la (some ⟨g, 0, none⟩) n cp t
 have hH5 := hole_putS (Hole.refl (w.heap.size + 1) W4) si cl sq la (some ⟨g, 0, none⟩) n cp t
 obtain ⟨V5, hV5⟩ : ∃ V5, putS W4 (w.heap.size + 1) si cl sq la (some ⟨g, 0, none⟩) n cp t = V5 := ⟨_, rfl⟩
 rw [hV5] at hP5 hH5
 have hs4 := hH4.size
 have HBE : Hid (Below w.heap.size w V5) := Hole.below (Hole.below hB3 hH4 (Nat.le_refl _) (by omega)) hH5 (by omega) (by omega)
 unfold putS at hV5
 obtain ⟨-, x0, x1, x2, x3, x4, x5, xf⟩ := hS3
 obtain ⟨-, y0, y1, y2, y3, y4, y5, -⟩ := hS4
 obtain ⟨-, z0, z1, z2, z3, z4, z5, zf⟩ := hR4
 obtain ⟨-, o0, o1, o2, o3, o4, o5, -⟩ := hP5
 clear hb hB3 hR3 hH4 hH5
 go_wp2_with fail
 exact bodyPost_ret (v := shV si cl sq la (some ⟨g, 0, none⟩) n cp t) (by simp [results, Tryz.results125, shV, go_sem, o0, o1, o2, o3, o4, o5]) rfl ⟨g, cp, rfl, HBE.out⟩
def TolF (ws : List Wr) (key : Int) (ok : Bool) : Fact := fun v w => ∃ x a cp, v = .tuple #[wrOf x a cp, .bool ok] ∧ IsDeps w a x.xs ∧ (∀ y, findW ws key = some y → x = y) ∧ (x.xs = [] ∨ okW x = true)
def TowF (ws : List Wr) (key : Int) : Fact := fun v w => ∃ x a cp, v = wrOf x a cp ∧ IsDeps w a x.xs ∧ (∀ y, findW ws key = some y → x = y) ∧ (x.xs = [] ∨ okW x = true)
theorem lasts_tol (ws : List Wr) (key : Int) (ok : Bool) : lasts (fun w w' => Below w.heap.size w w') (TolF ws key ok) := by
 rintro v w w' ⟨x, a, cp, h1, h2, h3⟩ hr
 exact ⟨x, a, cp, h1, h2.below hr, h3⟩
theorem lasts_tow (ws : List Wr) (key : Int) : lasts (fun w w' => Below w.heap.size w w') (TowF ws key) := by
 rintro v w w' ⟨x, a, cp, h1, h2, h3⟩ hr
 exact ⟨x, a, cp, h1, h2.below hr, h3⟩
theorem lastsU_bel {U : Tmp → Option Tmp} {d : Option Tmp} {T : Fact} (h : lasts (fun w w' => Below w.heap.size w w') T) : lastsU U (fun _ w w' => Below w.heap.size w w') d T := fun _ _ _ => h
theorem told_tol {ws : List Wr} {key : Int} {w w' : World} {v : Value} (h : Told ws key w w' v) (hx : ∀ z ∈ ws, okW z = true) : TolF ws key (findW ws key).isSome v w' := by
 rcases h with ⟨i, g, cp, h1, h2, _, h3, h4⟩ | ⟨h1, h2⟩
 ·have e := find_first h1
  have hm : ws.getD i wz ∈ ws := by have := h1.1; simp [List.getD, this]
  refine ⟨_, _, cp, by rw [e]; exact h2, .inr ⟨g, 0, rfl, h3, h4⟩, fun y hy => ?_, .inr (hx _ hm)⟩
  rw [e] at hy
  exact Option.some.inj hy
 ·have e := find_none h1
  refine ⟨wz, none, 0, by rw [e]; exact h2, .inl rfl, fun y hy => ?_, .inl rfl⟩
  rw [e] at hy
  cases hy
theorem zero_int : ∀ (j : Nat) (c : Int), zeroWr[j]? = some (Value.int .i64 c) → c = 0
 | 0, c, h => by simp [zeroWr] at h; exact h.symm
 | 1, c, h => by simp [zeroWr] at h; exact h.symm
 | 2, c, h => by simp [zeroWr] at h; exact h.symm
 | 3, c, h => by simp [zeroWr] at h; exact h.symm
 | 4, c, h => by simp [zeroWr] at h; exact h.symm
 | 5, c, h => by simp [zeroWr] at h
 | 6, c, h => by simp [zeroWr] at h
 | j + 7, c, h => by simp [zeroWr] at h
theorem deps_offZ {w : World} {b ty : Nat} {a : Option Addr} {x : Wr} (h : IsDeps w a x.xs) (hok : x.xs = [] ∨ okW x = true) (hb : w.heap[b]? = some (.cells zeroWr ty (0, 0))) {w' : World} (hh : Hole b w w') : IsDeps w' a x.xs := by
 rcases h with h | ⟨g, o, ha, hlt, hd⟩
 ·exact .inl h
 ·by_cases hp : 0 < x.xs.length
  ·rcases hok with h0 | hok
   ·exact .inl h0
   ·have hne : g ≠ b := by
     rintro rfl
     obtain ⟨-, h1, -, -⟩ := hd 0 hp
     rw [cell_of_row _ _ _ _ ty (0, 0) hb] at h1
     have h2 := zero_int _ _ h1
     have h3 := dep_c hok hp
     omega
    exact .inr ⟨g, o, ha, Nat.lt_of_lt_of_le hlt hh.size, holdsDeps_block hd (hh.block g hlt hne)⟩
  ·exact .inl (List.length_eq_zero_iff.1 (by omega))
theorem one_es (w : World) (e : En) (hg : e.g < w.heap.size) (hd : HoldsDeps w e.g 0 e.x.xs) : RowEs (w.alloc (.cells (wrVals e).toArray 33)) 0 w.heap.size 1 [e] where
 le := Nat.zero_le _
 lt := by simp
 own := ⟨by simp [wrVals], .inr ⟨w.heap.size, 1, _, rfl, Nat.zero_le _, heap_alloc_new w _, by simp, by simp [maxLen], by simp [wrVals], by simp [wrVals]⟩⟩
 deps := fun e' he => by
  rw [List.mem_singleton.1 he]
  have hb : Below w.heap.size w (w.alloc (.cells (wrVals e).toArray 33)) := (Below.refl _ _).alloc (Nat.le_refl _) _
  exact ⟨Nat.zero_le _, Nat.lt_of_lt_of_le hg hb.size, by omega, hd.below hb hg⟩
theorem es_ws0 {w : World} {base g cap : Nat} {es : List En} (h : RowEs w base g cap es) {ws : List Wr} (hw : es.map (·.x) = ws) : IsWs0 w (some ⟨g, 0, none⟩) ws := by
 subst hw
 refine .inr ⟨g, 0, rfl, h.lt, fun i hi => ?_⟩
 have hi' : i < es.length := by simpa using hi
 have hx : (es.map (·.x)).getD i wz = (es.getD i ez).x := by simp [List.getD, hi']
 have hm : es.getD i ez ∈ es := by simp [List.getD, hi']
 rw [hx, Nat.zero_add]
 have c : ∀ c, c < 7 → w.cell? ⟨g, i * 7 + c, none⟩ = (wrVals (es.getD i ez))[c]? := fun c hc => by rw [h.own.cellAt _ (by omega), vals_at es i c hi' hc]
 exact ⟨_, (es.getD i ez).cp, ⟨c 0 (by omega), c 1 (by omega), c 2 (by omega), c 3 (by omega), c 4 (by omega), c 5 (by omega), c 6 (by omega)⟩, .inr ⟨_, rfl, (h.deps _ hm).2.1, (h.deps _ hm).2.2.2⟩⟩
def SeenAt (wr : World) (ws : List Wr) (key : Int) (v : Value) (w : World) : Prop := ∃ b x a cp, v = .pointer (some ⟨b, 0, none⟩) ∧ wr.heap.size ≤ b ∧ RBox w b x.k x.c x.s x.q x.v x.de a x.xs.length cp ∧ IsDeps w a x.xs ∧ (∀ y, findW ws key = some y → x = y) ∧ (x.xs = [] ∨ okW x = true) ∧ Below wr.heap.size wr w
def SeeAns (w : World) (A : Sm × Int) (e : Ending) (w' : World) : Prop := ∃ a' cp', e = .returned (.tuple #[smV A.1 a' cp', .int .i64 A.2]) ∧ FreshWs w.heap.size w' a' A.1.ws ∧ Below w.heap.size w w'
theorem nothing_see {w w' : World} {A : Sm × Int} {c : Int} (h : A = (smz, c)) (hb : Below w.heap.size w w') : SeeAns w A (.returned (.tuple #[smV smz none 0, .int .i64 c])) w' := by
 subst h
 exact ⟨none, 0, rfl, .inl rfl, hb⟩
set_option maxHeartbeats 32000000 in
theorem l07See_any (x : Sm) (a : Option Addr) (cap : Nat) (b : Option Addr) (m capm : Nat) (vs : List Wr) (w : World) (hx : RightS x) (h : IsWs w a x.ws) (hm : vs.length = m) (hm1 : x.ws.length + m ≤ 1048576) (hy : Few vs) (hj : IsWs w b vs) :
  Calls Tryz.prog 81 #[smV x a cap, .slice b m capm] w fun e w' => SeeAns w (seeGo x vs) e w' := by
 obtain ⟨hmap, hsi, hcl, hsq, hla, hts⟩ := hx
 obtain ⟨A, hA⟩ : ∃ A, A = seeGo x vs := ⟨_, rfl⟩
 rw [← hA]
 obtain ⟨ms, hms⟩ : ∃ ms, ms = widL x.ws vs := ⟨_, rfl⟩
 obtain ⟨fr, hfr⟩ : ∃ fr, fr = ms.filter (lackB (findW x.ws)) := ⟨_, rfl⟩
 have HA : Hid (A = if (x.t ++ str (batchT fr)).size ≤ 60000 then (⟨x.si, max x.cl (clockL ms), x.sq, x.la, ms, x.t ++ str (batchT fr)⟩, 0) else (smz, 2)) := by rw [hA, hfr, hms]; exact Lib.hid rfl
 have HWI : Hid (∀ W a cap b capm, IsWs W a x.ws → IsWs W b vs → Calls Tryz.prog 126 #[.slice a x.ws.length cap, .slice b m capm] W fun e w' => ∃ g cp es L, e = .returned (.slice (some ⟨g, 0, none⟩) L cp) ∧ es.length = L ∧ es.map (·.x) = ms ∧ RowEs w' W.heap.size g cp es ∧ Below W.heap.size W w') := fun W a cap b capm h1 h2 => by
  rw [hms]
  exact specWidest_any a b _ m cap capm x.ws vs W rfl hm hm1 (ok_few hmap) hy h1 h2
 have hmok : mapOkB ms = true := by rw [hms]; exact wid_ok _ _
 have HMOK := Lib.hid hmok
 have HMF := Lib.hid (ok_few hmok)
 have hm6 := mapOk_len hmok
 have HFR := Lib.hid hfr
 have HFF : Hid (Few fr) := fun i hi => by
  have h1 : fr.getD i wz ∈ fr := by simp [List.getD, hi]
  rw [HFR.out] at h1
  have h2 := okW_len (((mapOk_iff _).1 hmok).1 _ (List.mem_filter.1 h1).1)
  rw [← HFR.out] at h2
  omega
 have hfl : fr.length ≤ 6 := by rw [hfr]; exact Nat.le_trans (List.length_filter_le _ _) hm6
 clear hA hms hfr hmok
 obtain ⟨si, cl, sq, la, ws, t⟩ := x
 simp only at hmap hsi hcl hsq hla hts h HA HWI HFR
 have H := Lib.hid h
 have HJ := Lib.hid hj
 have HFW := Lib.hid (ok_few hmap)
 have HWO := Lib.hid ((mapOk_iff ws).1 hmap).1
 have hn6 := mapOk_len hmap
 clear h hj hmap
 unfold smV
 simp only
 obtain ⟨n, hnn⟩ : ∃ n, ws.length = n := ⟨_, rfl⟩
 rw [hnn] at hn6 HWI
 rw [hnn]
 have HN := Lib.hid hnn
 clear hnn
 unfold shV
 have HB1 : Below w.heap.size w (w.alloc (.cells #[.int .i64 si, .int .i64 cl, .int .i64 sq, .int .i64 la, .slice a n cap, .string t] 26)) := (Below.refl _ _).alloc (Nat.le_refl _) _
 have hz1 : (w.alloc (.cells #[.int .i64 si, .int .i64 cl, .int .i64 sq, .int .i64 la, .slice a n cap, .string t] 26)).heap.size = w.heap.size + 1 := by simp
 have hS1 := SBox.start w si cl sq la a n cap t 26
 obtain ⟨W1, hW1⟩ : ∃ W1, w.alloc (.cells #[.int .i64 si, .int .i64 cl, .int .i64 sq, .int .i64 la, .slice a n cap, .string t] 26) = W1 := ⟨_, rfl⟩
 rw [hW1] at HB1 hz1 hS1
 have hA1 : Below W1.heap.size W1 (W1.alloc (.cells #[.int .i64 0, .int .i64 0, .int .i64 0, .int .i64 0, .slice none 0 0, .string ⟨#[]⟩] 26)) := (Below.refl _ _).alloc (Nat.le_refl _) _
 have HB2 : Below w.heap.size w (W1.alloc (.cells #[.int .i64 0, .int .i64 0, .int .i64 0, .int .i64 0, .slice none 0 0, .string ⟨#[]⟩] 26)) := HB1.alloc (by omega) _
 have hz2 : (W1.alloc (.cells #[.int .i64 0, .int .i64 0, .int .i64 0, .int .i64 0, .slice none 0 0, .string ⟨#[]⟩] 26)).heap.size = w.heap.size + 1 + 1 := by simp [hz1]
 have hR2 : SBox (W1.alloc (.cells #[.int .i64 0, .int .i64 0, .int .i64 0, .int .i64 0, .slice none 0 0, .string ⟨#[]⟩] 26)) (w.heap.size + 1) 0 0 0 0 none 0 0 ⟨#[]⟩ := by have := SBox.start W1 0 0 0 0 none 0 0 ⟨#[]⟩ 26; rw [hz1] at this; exact this
 have hS2 := hS1.below hA1
 obtain ⟨W2, hW2⟩ : ∃ W2, W1.alloc (.cells #[.int .i64 0, .int .i64 0, .int .i64 0, .int .i64 0, .slice none 0 0, .string ⟨#[]⟩] 26) = W2 := ⟨_, rfl⟩
 rw [hW2] at HB2 hz2 hR2 hS2
 have HB := Lib.hid HB2
 have HS := Lib.hid hS2
 have HRS := Lib.hid hR2
 obtain ⟨-, x0, x1, x2, x3, x4, x5, -⟩ := hS2
 clear hA1 HB1 HB2 hS1 hR2
 go_enter Tryz.func81, Tryz.ntmps81
 go_wp2_with fail
 clear hW1 hW2 x0 x1 x2 x3 x4 x5
 refine (l07Copy_any si cl sq la a n cap t ws _ HN.out (by omega) HFW.out (H.out.below HB.out)).mono ?_
 rintro e w3 ⟨g3, c3, rfl, hb⟩
 have h3s := hb.size
 have hB3 := below_step HB.out HB.out.size hb
 have hS3 := HS.out.below hb
 have hR3 := HRS.out.below hb
 unfold shV
 have hA4 : Below w3.heap.size w3 (w3.alloc (.cells #[.int .i64 si, .int .i64 cl, .int .i64 sq, .int .i64 la, .slice (some ⟨g3, 0, none⟩) n c3, .string t] 26)) := (Below.refl _ _).alloc (Nat.le_refl _) _
 have hX4 := SBox.start w3 si cl sq la (some ⟨g3, 0, none⟩) n c3 t 26
 have hz4 : (w3.alloc (.cells #[.int .i64 si, .int .i64 cl, .int .i64 sq, .int .i64 la, .slice (some ⟨g3, 0, none⟩) n c3, .string t] 26)).heap.size = w3.heap.size + 1 := by simp
 obtain ⟨W4, hW4⟩ : ∃ W4, w3.alloc (.cells #[.int .i64 si, .int .i64 cl, .int .i64 sq, .int .i64 la, .slice (some ⟨g3, 0, none⟩) n c3, .string t] 26) = W4 := ⟨_, rfl⟩
 rw [hW4] at hA4 hX4 hz4
 have HB4 := Lib.hid (below_step hB3 hB3.size hA4)
 have HS4 := Lib.hid (hS3.below hA4)
 have HR4 := Lib.hid (hR3.below hA4)
 have HX4 := Lib.hid hX4
 obtain ⟨-, x0, x1, x2, x3, x4, x5, -⟩ := HS4.out
 clear hb hB3 hS3 hR3 hA4 hX4 HB HS HRS
 go_wp2_with fail
 clear hW4 x0 x1 x2 x3 x4 x5
 refine (HWI.out _ a cap b capm (H.out.below HB4.out) (HJ.out.below HB4.out)).mono ?_
 rintro e w5 ⟨g5, c5, es5, L5, rfl, hl5, hm5, hr5, hb⟩
 have h5s := hb.size
 have hB5 := below_step HB4.out HB4.out.size hb
 have hS5 := HS4.out.below hb
 have hR5 := HR4.out.below hb
 have hX5 := HX4.out.below hb
 have hX6 := hX5.set4 (some ⟨g5, 0, none⟩) L5 c5
 have hH6 : Hole w3.heap.size w5 (w5.setCell ⟨w3.heap.size, 4, none⟩ (.slice (some ⟨g5, 0, none⟩) L5 c5)) := (Hole.refl _ _).set 4 _
 obtain ⟨-, z0, z1, z2, z3, z4, z5, zf⟩ := hX5
 obtain ⟨W5, hW5⟩ : ∃ W5, w5.setCell ⟨w3.heap.size, 4, none⟩ (.slice (some ⟨g5, 0, none⟩) L5 c5) = W5 := ⟨_, rfl⟩
 rw [hW5] at hX6 hH6
 have h6s := hH6.size
 have HB5 := Lib.hid (Hole.below hB5 hH6 (by omega) (by omega))
 have HS5 := Lib.hid (hS5.of_block hH6.size (hH6.block _ hS5.lt (by omega)))
 have HR5 := Lib.hid (hR5.of_block hH6.size (hH6.block _ hR5.lt (by omega)))
 have HX5 := Lib.hid hX6
 have HE5 := Lib.hid (hr5.holeE hH6 (by omega))
 have hlm : ms.length = L5 := by rw [← hm5, List.length_map]; exact hl5
 have HLM := Lib.hid hlm
 rw [hlm] at hm6
 have HM5 := Lib.hid hm5
 have HL5 := Lib.hid hl5
 have HI5 := Lib.hid (HE5.out.isWs hm5 HMF.out)
 have HH5 := Lib.hid (H.out.below HB5.out)
 have HR0 : Hid (RowEs (W5.alloc (.cells #[] 33)) 0 W5.heap.size 0 []) := rowEs_start W5 0 (Nat.zero_le _)
 have HB0 : Hid (Below W5.heap.size W5 (W5.alloc (.cells #[] 33))) := (Below.refl _ _).alloc (Nat.le_refl _) _
 clear hb hB5 hS5 hR5 hX6 hH6 hm5 hl5 hlm hr5 HB4 HS4 HR4 HX4 HWI
 go_wp2
 clear z0 z1 z2 z3 z4 z5 zf hW5
 go_loopw [7, 8] (fun t i wr => ∃ (k L g7 c7 : Nat) (es7 : List En), k ≤ L5 ∧ L ≤ k ∧ i = .int .i64 k ∧ t = .slice (some ⟨g7, 0, none⟩) L c7 ∧ W5.heap.size ≤ g7 ∧ Hid (es7.length = L) ∧ Hid (es7.map (·.x) = (ms.take k).filter (lackB (findW ws))) ∧ Hid (RowEs wr 0 g7 c7 es7) ∧ Hid (Below W5.heap.size W5 wr)) (fun _ i _ => L5 - (intOf i).toNat)
 case atStart => exact ⟨0, 0, W5.heap.size, 0, [], Nat.zero_le _, Nat.le_refl _, rfl, rfl, Nat.le_refl _, rfl, rfl, HR0, HB0⟩
 case round =>
  clear HR0 HB0
  obtain ⟨k, L, g7, c7, es7, hk, hL, rfl, rfl, hg7, HL7, HM7, HR7, HBW⟩ := hrel
  obtain ⟨-, x0, x1, x2, x3, x4, x5, -⟩ := HX5.out.below HBW.out
  by_cases hk' : k < L5
  ·have hk1 : (k : Int) < (L5 : Int) := by omega
   have hkm : k < ms.length := by rw [HLM.out]; exact hk'
   have hke : k < es5.length := by rw [HL5.out]; exact hk'
   have HTF := Lib.hid (take_filter (P := lackB (findW ws)) hkm)
   have hye : ms.getD k wz = (es5.getD k ez).x := by
    rw [← HM5.out]
    simp [List.getD, hke]
   have HYM : Hid (ms.getD k wz ∈ ms) := by simp [Hid, List.getD, hkm]
   have hmem : es5.getD k ez ∈ es5 := by simp [List.getD, hke]
   have HD5 := Lib.hid (HE5.out.deps _ hmem)
   have HCE : Hid (∀ c, c < 7 → W5.cell? ⟨g5, k * 7 + c, none⟩ = (wrVals (es5.getD k ez))[c]?) := fun c hc => by rw [HE5.out.own.cellAt _ (by omega), vals_at es5 k c hke hc]
   rw [hye] at HTF HYM
   generalize es5.getD k ez = y5 at *
   obtain ⟨⟨yk, yc, ys, yq, yv, yd, yy⟩, yg, yp⟩ := y5
   simp only at HTF HYM HD5
   have hg5 : g5 < W5.heap.size := HE5.out.lt
   have HYO := Lib.hid (((mapOk_iff _).1 HMOK.out).1 _ HYM.out)
   have HSB : Hid (∀ w', Below wr.heap.size wr w' → SBox w' w.heap.size si cl sq la a n cap t ∧ SBox w' w3.heap.size si cl sq la (some ⟨g5, 0, none⟩) L5 c5 t ∧ ∀ c, c < 7 → w'.cell? ⟨g5, k * 7 + c, none⟩ = (wrVals ⟨⟨yk, yc, ys, yq, yv, yd, yy⟩, yg, yp⟩)[c]?) := fun w' hb => by
    have hb' := below_step HBW.out HBW.out.size hb
    exact ⟨HS5.out.below hb', HX5.out.below hb', fun c hc => (hb'.cell (p := ⟨g5, k * 7 + c, none⟩) hg5).trans (HCE.out c hc)⟩
   have HMA : Hid (∀ w', Below wr.heap.size wr w' → Calls Tryz.prog 127 #[.slice a n cap, .int .i64 yk] w' fun e w'' => ∃ v, e = .returned v ∧ TolF ws yk (findW ws yk).isSome v w'' ∧ Below w'.heap.size w' w'') := fun w' hb => by
    refine (specMapAt_gen a n cap yk ws w' HN.out (by omega) HFW.out (HH5.out.below (below_step HBW.out HBW.out.size hb))).mono ?_
    rintro e w'' ⟨v, he, ht, hb2⟩
    exact ⟨v, he, told_tol ht HWO.out, hb2⟩
   obtain ⟨ok, hok⟩ : ∃ ok, ok = (findW ws yk).isSome := ⟨_, rfl⟩
   rw [← hok] at HMA
   have HOK := Lib.hid hok
   clear hok HCE
   go_upto_region 7 with fail
   clear x0 x1 x2 x3 x4 x5
   go_cut [9, 10] (fun s9 s10 wx => s10 = .bool ok ∧ SeenAt wr ws yk s9 wx)
   case first =>
    refine wp_region_slots_v 13 11 (0, 0) [[(2, false)], [(27, true)], [(6, false)], [(29, true)], [(8, false)], [(30, true), (31, true)], [(32, true)], [(33, true)], [(28, true), (34, true)], [(35, true)], [(26, true)], [(26, true)], []] (fun w' => Below wr.heap.size wr w') (fun w' => Below wr.heap.size wr w') (fun _ w' => Below wr.heap.size wr w') (fun _ _ => True) (fun _ => none) (fun _ w w' => Below w.heap.size w w') (by kernel_rfl) (by kernel_rfl) (by rfl) (Below.refl _ _).drew (by kernel_rfl) (fun _ => trivial) (fun _ => trivial) (by kernel_rfl) (fun _ _ _ _ _ _ _ _ => trivial) (fun _ _ _ _ _ _ h => by cases h) (fun _ _ _ _ h1 h2 => below_step h1 h1.size h2) (fun _ _ _ h => h) (fun _ _ _ h => h) ?_
    iterate 8 (apply slotU_eq; · (intro ρ w' ⟨p1, p2, p3⟩ hS _ hn; obtain ⟨⟨-, s0, s1, s2, s3, s4, s5, -⟩, ⟨-, x0, x1, x2, x3, x4, x5, -⟩, hy⟩ := HSB.out w' hS; have y0 := hy 0 (by omega); simp only [wrVals, List.getElem?_cons_zero, Nat.add_zero] at y0; have i1 : (0 : Int) ≤ (k : Int) := (by omega); simp at hn; go_simp; exact ⟨Below.refl _ _, rfl⟩))
    refine slotU_fact (TolF ws yk ok) (lastsU_bel (lasts_tol _ _ _)) ?_ ?_
    ·intro ρ w' ⟨p1, p2, p3⟩ hS _ hn
     simp at hn
     go_simp
     exact got_call (HMA.out w' hS) fun e w'' ⟨v, he, ht, hb⟩ => ⟨_, he, hb, ht⟩
    refine slotU_fact (TolF ws yk ok) (lastsU_bel (lasts_tol _ _ _)) ?_ ?_
    ·intro ρ w' ⟨p1, p2, p3⟩ hS _ hn
     simp at hn
     obtain ⟨x9, a9, c9, f35, h9⟩ := hn
     go_simp
     exact ⟨Below.refl _ _, x9, a9, c9, rfl, h9⟩
    refine slotU_fact (TowF ws yk) (lastsU_bel (lasts_tow _ _)) ?_ ?_
    ·intro ρ w' ⟨p1, p2, p3⟩ hS _ hn
     simp at hn
     obtain ⟨x9, a9, c9, f26, h9⟩ := hn
     go_simp
     exact ⟨Below.refl _ _, x9, a9, c9, rfl, h9⟩
    apply slotU_eq
    ·intro ρ w' ⟨p1, p2, p3⟩ hS _ hn
     simp at hn
     obtain ⟨x9, a9, c9, f26, h9⟩ := hn
     go_simp
     exact ⟨Below.refl _ _, rfl⟩
    refine slotU_fact (WrZF wr.heap.size) (lastsU_bel (lasts_wrz _)) ?_ ?_
    ·intro ρ w' ⟨p1, p2, p3⟩ hS _ hn
     have hsz := hS.size
     go_simp
     exact ⟨(Below.refl _ _).alloc (Nat.le_refl _) _, wrz_mk w' _ hsz⟩
    refine slotU_end ?_
    intro tv w9 hS
    constructor
    ·intro hF
     simp at hF
     obtain ⟨⟨b9, f9, hb9, hbox⟩, f37, ⟨x9, a9, c9, f36, hd9, hq9, hl9⟩, ⟨x26, a26, c26, f26, -⟩, ⟨x35, a35, c35, f35, -⟩, f34, f33, f32, f31, f30, f29, f28, f27⟩ := hF
     simp only [List.take_succ_cons, List.take_zero, List.drop_succ_cons, List.drop_zero, putAll, f9, f37, f36, f26, f35, f34, f33, f32, f31, f30, f29, f28, f27]
     clear f9 f37 f36 f26 f35 f34 f33 f32 f31 f30 f29 f28 f27
     simp only [Act.put, List.setIfInBounds_toArray, List.set_cons_succ, List.set_cons_zero]
     have hX9 := rbox_zero hbox
     have hK : SeenAt wr ws yk (.pointer (some ⟨b9, 0, none⟩)) (put7 w9 b9 x9.k x9.c x9.s x9.q x9.v x9.de a9 x9.xs.length c9) := ⟨b9, x9, a9, c9, rfl, hb9, hX9.put7 _ _ _ _ _ _ _ _ _, deps_offZ hd9 hl9 hbox ((Hole.refl _ _).put7 _ _ _ _ _ _ _ _ _), hq9, hl9, Hole.below hS ((Hole.refl _ _).put7 _ _ _ _ _ _ _ _ _) hb9 hS.size⟩
     unfold put7 at hK
     have HK := Lib.hid hK
     clear hK
     obtain ⟨-, v0, v1, v2, v3, v4, v5, v6, vf⟩ := hX9
     unfold wrOf
     go_wp2_with fail
     go_meet
     exact ⟨rfl, HK.out⟩
    ·intro hF
     simp at hF
     obtain ⟨⟨b9, f9, hb9, hbox⟩, ⟨x9, a9, c9, f36, hd9, hq9, hl9⟩, ⟨x26, a26, c26, f26, -⟩, ⟨x35, a35, c35, f35, -⟩, f34, f33, f32, f31, f30, f29, f28, f27⟩ := hF
     simp only [List.take_succ_cons, List.take_zero, List.drop_succ_cons, List.drop_zero, putAll, List.eraseIdx_cons_succ, List.eraseIdx_cons_zero, List.getElem?_cons_succ, List.getElem?_cons_zero, Option.toList_some, List.cons_append, List.nil_append, f9, f36, f26, f35, f34, f33, f32, f31, f30, f29, f28, f27]
     clear f9 f36 f26 f35 f34 f33 f32 f31 f30 f29 f28 f27
     simp only [Act.put, List.setIfInBounds_toArray, List.set_cons_succ, List.set_cons_zero]
     have hX9 := rbox_zero hbox
     have hK : SeenAt wr ws yk (.pointer (some ⟨b9, 0, none⟩)) (put7 w9 b9 x9.k x9.c x9.s x9.q x9.v x9.de a9 x9.xs.length c9) := ⟨b9, x9, a9, c9, rfl, hb9, hX9.put7 _ _ _ _ _ _ _ _ _, deps_offZ hd9 hl9 hbox ((Hole.refl _ _).put7 _ _ _ _ _ _ _ _ _), hq9, hl9, Hole.below hS ((Hole.refl _ _).put7 _ _ _ _ _ _ _ _ _) hb9 hS.size⟩
     unfold put7 at hK
     have HK := Lib.hid hK
     clear hK
     obtain ⟨-, v0, v1, v2, v3, v4, v5, v6, vf⟩ := hX9
     unfold wrOf
     go_wp2_with fail
     go_meet
     exact ⟨rfl, HK.out⟩
   case rest =>
    obtain ⟨rfl, b9, x9, a9, c9, rfl, hb9, hX9, hd9, hq9, hl9, hbw⟩ := hcut
    obtain ⟨wA, rfl⟩ : ∃ wA : World, wA = wc := ⟨_, rfl⟩
    have HBC := Lib.hid (below_step HBW.out HBW.out.size hbw)
    have HR8 := Lib.hid (HR7.out.below hbw)
    have HSC : Hid (∀ w', Below wA.heap.size wA w' → SBox w' w3.heap.size si cl sq la (some ⟨g5, 0, none⟩) L5 c5 t ∧ ∀ c, c < 7 → w'.cell? ⟨g5, k * 7 + c, none⟩ = (wrVals ⟨⟨yk, yc, ys, yq, yv, yd, yy⟩, yg, yp⟩)[c]?) := fun w' hb => (HSB.out w' (below_step hbw hbw.size hb)).2
    have HYD : Hid (∀ w', Below wA.heap.size wA w' → IsDeps w' (some ⟨yg, 0, none⟩) yy) := fun w' hb => .inr ⟨yg, 0, rfl, by have := (below_step HBC.out HBC.out.size hb).size; have := HD5.out.2.1; omega, HD5.out.2.2.2.below (below_step HBC.out HBC.out.size hb) HD5.out.2.1⟩
    obtain ⟨r, hr⟩ : ∃ r, r = lackB (findW ws) ⟨yk, yc, ys, yq, yv, yd, yy⟩ := ⟨_, rfl⟩
    rw [← hr] at HTF
    have HRR : Hid (r = match findW ws yk with
     | none => true
     | some x => !(cmpW x ⟨yk, yc, ys, yq, yv, yd, yy⟩ == 0)) := by rw [hr]; exact Lib.hid rfl
    clear hr HMA HSB HR7 HBW
    have hy42 : yy.length ≤ 1048576 := by have := okW_len HYO.out; simp only at this; omega
    have hx42 : x9.xs.length ≤ 1048576 := by
     rcases hl9 with h0 | h0
     ·rw [h0]; simp
     ·have := okW_len h0; omega
    have i1 : (0 : Int) ≤ (k : Int) := by omega
    go_upto_region 8 with fail
    go_cut [49] (fun s49 wx => s49 = .bool r ∧ Below wA.heap.size wA wx)
    case first =>
     cases ok
     ·have HE : Hid (r = true) := by
       have hf : findW ws yk = none := by
        have := HOK.out
        cases h : findW ws yk with
        | none => rfl
        | some _ => rw [h] at this; simp at this
       rw [HRR.out, hf]
       exact Lib.hid rfl
      have ne := aft_some wA
      refine wp_region_aft (by kernel_rfl) (by kernel_rfl) ?_
      repeat (first | go_big_quiet_step (fail))
      refine wpQuiet_nil ?_
      intro wq hq
      go_wp2
      go_meet
      exact ⟨by rw [HE.out], hq⟩
     ·obtain ⟨xf, hf⟩ : ∃ xf, findW ws yk = some xf := by
       have := HOK.out
       cases h : findW ws yk with
       | none => rw [h] at this; simp at this
       | some x => exact ⟨x, rfl⟩
      obtain rfl : x9 = xf := hq9 xf hf
      have HE : Hid (r = !(cmpW x9 ⟨yk, yc, ys, yq, yv, yd, yy⟩ == 0)) := by rw [HRR.out, hf]; exact Lib.hid rfl
      have HC : Hid (∀ p : Aft wA.heap.size wA, Calls Tryz.prog 13 #[wrOf x9 a9 c9, wrOf ⟨yk, yc, ys, yq, yv, yd, yy⟩ (some ⟨yg, 0, none⟩) yp] p.now fun e w' => e = .returned (.int .i64 (cmpW x9 ⟨yk, yc, ys, yq, yv, yd, yy⟩)) ∧ Below p.now.heap.size p.now w') := fun p => specWriteCmp_gen _ _ _ _ _ _ _ x9.xs _ _ _ _ _ _ _ _ _ yy _ _ _ rfl rfl hx42 hy42 (hd9.below p.below) (HYD.out _ p.below)
      obtain ⟨⟨hbx, -, -, -, -, x4, -, -⟩, hy⟩ := HSC.out wA (Below.refl _ _)
      obtain ⟨hb9l, u0, u1, u2, u3, u4, u5, u6, -⟩ := hX9
      have hgl : g5 < wA.heap.size := by have := HBC.out.size; omega
      have y0 := hy 0 (by omega)
      have y1 := hy 1 (by omega)
      have y2 := hy 2 (by omega)
      have y3 := hy 3 (by omega)
      have y4 := hy 4 (by omega)
      have y5 := hy 5 (by omega)
      have y6 := hy 6 (by omega)
      simp only [wrVals, List.getElem?_cons_zero, List.getElem?_cons_succ, Nat.add_zero] at y0 y1 y2 y3 y4 y5 y6
      clear hq9 hl9 hd9 hf hy HRR HOK
      generalize cmpW x9 ⟨yk, yc, ys, yq, yv, yd, yy⟩ = z at *
      obtain ⟨xk, xc, xs', xq, xv, xd, xx⟩ := x9
      simp only at u0 u1 u2 u3 u4 u5 u6 HC
      have gx4 := aft_cell hbx x4
      have gu0 := aft_cell hb9l u0
      have gu1 := aft_cell hb9l u1
      have gu2 := aft_cell hb9l u2
      have gu3 := aft_cell hb9l u3
      have gu4 := aft_cell hb9l u4
      have gu5 := aft_cell hb9l u5
      have gu6 := aft_cell hb9l u6
      have gy0 := aft_cell hgl y0
      have gy1 := aft_cell hgl y1
      have gy2 := aft_cell hgl y2
      have gy3 := aft_cell hgl y3
      have gy4 := aft_cell hgl y4
      have gy5 := aft_cell hgl y5
      have gy6 := aft_cell hgl y6
      have ne := aft_some wA
      refine wp_region_aft (by kernel_rfl) (by kernel_rfl) ?_
      repeat (first | go_big_quiet_step (first | (go_at_call 13; exact aft_of (HC.out _))))
      refine wpQuiet_nil ?_
      intro wq hq
      go_wp2
      go_meet
      exact ⟨by rw [HE.out]; rfl, hq⟩
    case rest =>
     obtain ⟨rfl, hbd⟩ := hcut
     have HBD := Lib.hid (below_step HBC.out HBC.out.size hbd)
     have HR9 := Lib.hid (HR8.out.below hbd)
     obtain ⟨⟨-, -, -, -, -, x4, -, -⟩, hy⟩ := HSC.out wc hbd
     clear HBC HR8 HSC HYD HOK hX9 hd9 hq9 hl9 HRR
     cases r
     ·have HF2 : Hid (es7.map (·.x) = (ms.take (k + 1)).filter (lackB (findW ws))) := by rw [HTF.out, HM7.out]; exact Lib.hid (by simp)
      clear hy
      go_wp2
      exact ⟨⟨k + 1, L, g7, c7, es7, by omega, by omega, by go_num, rfl, hg7, HL7, HF2, HR9, HBD⟩, by simp [intOf]; omega⟩
     ·have y0 := hy 0 (by omega)
      have y1 := hy 1 (by omega)
      have y2 := hy 2 (by omega)
      have y3 := hy 3 (by omega)
      have y4 := hy 4 (by omega)
      have y5 := hy 5 (by omega)
      have y6 := hy 6 (by omega)
      simp only [wrVals, List.getElem?_cons_zero, List.getElem?_cons_succ, Nat.add_zero] at y0 y1 y2 y3 y4 y5 y6
      have hA9 : Below wc.heap.size wc (wc.alloc (.cells #[.int .i64 yk, .int .i64 yc, .int .i64 ys, .int .i64 yq, .int .i64 yv, .bool yd, .slice (some ⟨yg, 0, none⟩) yy.length yp] 33)) := (Below.refl _ _).alloc (Nat.le_refl _) _
      have HRA := Lib.hid (HR9.out.below hA9)
      have HBA := Lib.hid (below_step HBD.out HBD.out.size hA9)
      have HSR : Hid (RowEs (wc.alloc (.cells #[.int .i64 yk, .int .i64 yc, .int .i64 ys, .int .i64 yq, .int .i64 yv, .bool yd, .slice (some ⟨yg, 0, none⟩) yy.length yp] 33)) 0 wc.heap.size 1 [⟨⟨yk, yc, ys, yq, yv, yd, yy⟩, yg, yp⟩]) := one_es wc ⟨⟨yk, yc, ys, yq, yv, yd, yy⟩, yg, yp⟩ (by have := HBD.out.size; have := HD5.out.2.1; show yg < wc.heap.size; omega) (HD5.out.2.2.2.below HBD.out HD5.out.2.1)
      have HAP : Hid (∀ e ∈ [(⟨⟨yk, yc, ys, yq, yv, yd, yy⟩, yg, yp⟩ : En)], e.g < W5.heap.size) := fun e he => by rw [List.mem_singleton.1 he]; exact HD5.out.2.1
      have HF2 : Hid ((es7 ++ [(⟨⟨yk, yc, ys, yq, yv, yd, yy⟩, yg, yp⟩ : En)]).map (·.x) = (ms.take (k + 1)).filter (lackB (findW ws))) := by rw [HTF.out, List.map_append, HM7.out]; exact Lib.hid (by simp)
      have HL2 : Hid ((es7 ++ [(⟨⟨yk, yc, ys, yq, yv, yd, yy⟩, yg, yp⟩ : En)]).length = L + 1) := by rw [List.length_append, HL7.out]; exact Lib.hid rfl
      clear hy hA9 HTF HM7
      go_wp2_with (at_builtin; refine append_es (by rfl) _ _ (by rfl) W5.heap.size g7 c7 L es7 HL7.out (by rfl) HRA.out hg7 wc.heap.size 1 1 [⟨⟨yk, yc, ys, yq, yv, yd, yy⟩, yg, yp⟩] rfl (by rfl) HSR.out HAP.out (L + 1) rfl (by omega) ?_; intro g8 c8 w8 hrow hg8 hbb; refine Hid.out ?_)
      refine Lib.hid ?_
      have HRW := Lib.hid hrow
      have HBW := Lib.hid (HBA.out.trans hbb)
      clear hrow hbb HRA HBA HSR
      go_wp2
      exact ⟨⟨k + 1, L + 1, g8, c8, _, by omega, by omega, by go_num, rfl, hg8, HL2, HF2, HRW, HBW⟩, by simp [intOf]; omega⟩
  ·have hkk : k = L5 := by omega
   subst hkk
   have HFE : Hid (es7.map (·.x) = fr) := by
    rw [HM7.out, HFR.out, List.take_of_length_le (by rw [HLM.out]; exact Nat.le_refl _)]
    exact Lib.hid rfl
   have hfl2 : fr.length = L := by rw [← HFE.out, List.length_map]; exact HL7.out
   have HFL := Lib.hid hfl2
   have HB7 := Lib.hid (HB5.out.trans (HBW.out.mono (by have := HB5.out.size; omega)))
   obtain ⟨T, hT⟩ : ∃ T, T = str (batchT fr) := ⟨_, rfl⟩
   have hTs : T.size ≤ 2500 := by
    rw [hT]
    have := batchT_sz fr
    simpa [str, ByteArray.size] using this
   rw [← hT] at HA
   have HBT : Hid (∀ w', Below wr.heap.size wr w' → Calls Tryz.prog 110 #[.slice (some ⟨g7, 0, none⟩) L c7] w' fun e w'' => e = .returned (.string T) ∧ Below w'.heap.size w' w'') := fun w' hb => by
    rw [hT]
    exact specBatch_any _ L c7 fr w' HFL.out (by omega) HFF.out (es_ws0 (HR7.out.below hb) HFE.out)
   clear hT hfl2 HM7 HL7
   have HSB : Hid (∀ w', Below wr.heap.size wr w' → SBox w' w.heap.size si cl sq la a n cap t ∧ SBox w' w3.heap.size si cl sq la (some ⟨g5, 0, none⟩) k c5 t) := fun w' hb => by
    have hb' := below_step HBW.out HBW.out.size hb
    exact ⟨HS5.out.below hb', HX5.out.below hb'⟩
   have hwr5 := HBW.out.size
   have hts2 : (t ++ T).size = t.size + T.size := ByteArray.size_append
   go_upto_region 10 with fail
   clear x0 x1 x2 x3 x4 x5
   refine wp_region_slots 6 [[(2, false)], [(58, true)], [(7, false)], [(60, true)], [(59, true), (61, true)], [(6, false)]] (fun w' => Below wr.heap.size wr w') (fun w w' => Below w.heap.size w w') (by kernel_rfl) (by kernel_rfl) (by rfl) (Below.refl _ _).drew (fun _ _ h hr => below_step h h.size hr) ?_
   iterate 3 (apply slot_eq; · (intro ρ w' ⟨p1, p2, p3⟩ hS hn; obtain ⟨⟨-, s0, s1, s2, s3, s4, s5, -⟩, -⟩ := HSB.out w' hS; simp at hn; go_simp; exact ⟨Below.refl _ _, rfl⟩))
   apply slot_eq
   ·intro ρ w' ⟨p1, p2, p3⟩ hS hn
    simp at hn
    go_simp
    exact got_call (HBT.out w' hS) fun e w'' ⟨he, hb⟩ => ⟨_, he, hb, rfl⟩
   apply slot_eq
   ·intro ρ w' ⟨p1, p2, p3⟩ hS hn
    simp at hn
    go_simp
    rw [if_neg (by omega)]
    exact ⟨Below.refl _ _, rfl⟩
   iterate 1 (apply slot_eq; · (intro ρ w' ⟨p1, p2, p3⟩ hS hn; simp at hn; go_simp; exact ⟨Below.refl _ _, rfl⟩))
   refine slot_end ?_
   intro tv w8 hS hF
   simp at hF
   obtain ⟨f63, f62, f61, f60, f59, f58⟩ := hF
   simp only [List.take_succ_cons, List.take_zero, List.drop_succ_cons, List.drop_zero, putAll, f63, f62, f61, f60, f59, f58]
   clear f63 f62 f61 f60 f59 f58
   simp only [Act.put, List.setIfInBounds_toArray, List.set_cons_succ, List.set_cons_zero]
   obtain ⟨L9, hL9⟩ : ∃ L9, L9 = t ++ T := ⟨_, rfl⟩
   rw [← hL9] at HA hts2
   rw [← hL9]
   clear hL9
   have h8s := hS.size
   have hX8 := (HSB.out w8 hS).2
   have hX9 := hX8.set5 L9
   have hH9 : Hole w3.heap.size w8 (w8.setCell ⟨w3.heap.size, 5, none⟩ (.string L9)) := (Hole.refl _ _).set 5 _
   obtain ⟨-, z0, z1, z2, z3, z4, z5, zf⟩ := hX8
   obtain ⟨W9, hW9⟩ : ∃ W9, w8.setCell ⟨w3.heap.size, 5, none⟩ (.string L9) = W9 := ⟨_, rfl⟩
   rw [hW9] at hX9 hH9
   have h9s := hH9.size
   have hb8 := below_step HBW.out HBW.out.size hS
   have HS9 := Lib.hid ((HS5.out.below hb8).of_block hH9.size (hH9.block _ (HS5.out.below hb8).lt (by omega)))
   have HR9 := Lib.hid ((HR5.out.below hb8).of_block hH9.size (hH9.block _ (HR5.out.below hb8).lt (by omega)))
   have HE9 := Lib.hid ((HE5.out.below hb8).holeE hH9 (by omega))
   have HB9 := Lib.hid (Hole.below (HB5.out.trans (hb8.mono (by have := HB5.out.size; omega))) hH9 (by omega) (by have := HB5.out.size; omega))
   have HX9 := Lib.hid hX9
   have HI9 := Lib.hid (HE9.out.isWs HM5.out HMF.out)
   go_upto_region 11 with fail
   try rw [hW9]
   clear z0 z1 z2 z3 z4 z5 zf hW9 hX9 hH9 hS hb8 HSB HBT HR7
   have HCL : Hid (∀ w', Below W9.heap.size W9 w' → Calls Tryz.prog 128 #[.slice (some ⟨g5, 0, none⟩) k c5] w' fun e w'' => e = .returned (.int .i64 (clockL ms)) ∧ w'' = w') := fun w' hb => clock_any _ k c5 ms w' HLM.out (by omega) (HI9.out.below hb)
   generalize clockL ms = cm at *
   have HSD : Hid (∀ w', Below W9.heap.size W9 w' → SBox w' w.heap.size si cl sq la a n cap t ∧ SBox w' w3.heap.size si cl sq la (some ⟨g5, 0, none⟩) k c5 L9) := fun w' hb => ⟨HS9.out.below hb, HX9.out.below hb⟩
   refine wp_region_slots 7 [[(2, false)], [(64, true)], [(6, false)], [(66, true)], [(67, true)], [(65, true), (68, true)], [(6, false)]] (fun w' => Below W9.heap.size W9 w') (fun w w' => Below w.heap.size w w') (by kernel_rfl) (by kernel_rfl) (by rfl) (Below.refl _ _).drew (fun _ _ h hr => below_step h h.size hr) ?_
   iterate 4 (apply slot_eq; · (intro ρ w' ⟨p1, p2, p3⟩ hS hn; obtain ⟨⟨-, s0, s1, s2, s3, s4, s5, -⟩, ⟨-, x0, x1, x2, x3, x4, x5, -⟩⟩ := HSD.out w' hS; simp at hn; go_simp; exact ⟨Below.refl _ _, rfl⟩))
   apply slot_eq
   ·intro ρ w' ⟨p1, p2, p3⟩ hS hn
    simp at hn
    go_simp
    exact got_call (HCL.out w' hS) fun e w'' ⟨he, hb⟩ => ⟨_, he, by rw [hb]; exact Below.refl _ _, rfl⟩
   iterate 2 (apply slot_eq; · (intro ρ w' ⟨p1, p2, p3⟩ hS hn; simp at hn; go_simp; exact ⟨Below.refl _ _, rfl⟩))
   refine slot_end ?_
   intro tv w10 hS hF
   simp at hF
   obtain ⟨f70, f69, f68, f67, f66, f65, f64⟩ := hF
   simp only [List.take_succ_cons, List.take_zero, List.drop_succ_cons, List.drop_zero, putAll, f70, f69, f68, f67, f66, f65, f64]
   clear f70 f69 f68 f67 f66 f65 f64
   simp only [Act.put, List.setIfInBounds_toArray, List.set_cons_succ, List.set_cons_zero]
   generalize max cl cm = M at *
   have h10s := hS.size
   have hX10 := (HSD.out w10 hS).2
   have hX11 := hX10.set1 M
   have hH11 : Hole w3.heap.size w10 (w10.setCell ⟨w3.heap.size, 1, none⟩ (.int .i64 M)) := (Hole.refl _ _).set 1 _
   obtain ⟨-, z0, z1, z2, z3, z4, z5, zf⟩ := hX10
   obtain ⟨W11, hW11⟩ : ∃ W11, w10.setCell ⟨w3.heap.size, 1, none⟩ (.int .i64 M) = W11 := ⟨_, rfl⟩
   rw [hW11] at hX11 hH11
   have h11s := hH11.size
   have hR11 := (HR9.out.below hS).of_block hH11.size (hH11.block _ (HR9.out.below hS).lt (by omega))
   have HE11 := Lib.hid ((HE9.out.below hS).holeE hH11 (by omega))
   have h5b := HB5.out.size
   have HB11 := Lib.hid (Hole.below (below_step HB9.out HB9.out.size hS) hH11 (by omega) (by omega))
   have h9b := HB9.out.size
   clear HS9 HR9 HE9 HX9 HI9 HSD HCL hS
   by_cases hbig : L9.size ≤ 60000
   ·have HE : Hid (A = (⟨si, M, sq, la, ms, L9⟩, 0)) := by rw [HA.out, if_pos hbig]; exact Lib.hid rfl
    have hbi : ¬ (60000 : Int) < (L9.size : Int) := by omega
    have hP1 := sbox_putS hR11 si M sq la (some ⟨g5, 0, none⟩) k c5 L9
    have hH1 := hole_putS (Hole.refl (w.heap.size + 1) W11) si M sq la (some ⟨g5, 0, none⟩) k c5 L9
    obtain ⟨V1, hV1⟩ : ∃ V1, putS W11 (w.heap.size + 1) si M sq la (some ⟨g5, 0, none⟩) k c5 L9 = V1 := ⟨_, rfl⟩
    rw [hV1] at hP1 hH1
    have HBE : Hid (Below w.heap.size w V1) := Hole.below HB11.out hH1 (by omega) HB11.out.size
    have HEE := Lib.hid (HE11.out.holeE hH1 (by omega))
    unfold putS at hV1
    obtain ⟨-, y0, y1, y2, y3, y4, y5, yf⟩ := hR11
    obtain ⟨-, x0, x1, x2, x3, x4, x5, -⟩ := hX11
    obtain ⟨-, o0, o1, o2, o3, o4, o5, -⟩ := hP1
    clear hH1 hH11
    go_wp2_with fail
    refine bodyPost_ret (v := .tuple #[shV si M sq la (some ⟨g5, 0, none⟩) k c5 L9, .int .i64 0]) (by simp [results, Tryz.results81, shV, go_sem, o0, o1, o2, o3, o4, o5]) rfl ⟨some ⟨g5, 0, none⟩, c5, ?_, ?_, HBE.out⟩
    ·rw [HE.out]
     unfold smV
     simp only
     rw [HLM.out]
    ·rw [HE.out]
     exact .inr ⟨g5, c5, es5, rfl, HM5.out, HEE.out.monoE (by omega)⟩
   ·have HE : Hid (A = (smz, 2)) := by rw [HA.out, if_neg hbig]; exact Lib.hid rfl
    have hbi : (60000 : Int) < (L9.size : Int) := by omega
    have hP1 := sbox_putS hR11 0 0 0 0 none 0 0 ⟨#[]⟩
    have hH1 := hole_putS (Hole.refl (w.heap.size + 1) W11) 0 0 0 0 none 0 0 ⟨#[]⟩
    obtain ⟨V1, hV1⟩ : ∃ V1, putS W11 (w.heap.size + 1) 0 0 0 0 none 0 0 ⟨#[]⟩ = V1 := ⟨_, rfl⟩
    rw [hV1] at hP1 hH1
    have HBE : Hid (Below w.heap.size w V1) := Hole.below HB11.out hH1 (by omega) HB11.out.size
    unfold putS at hV1
    obtain ⟨-, y0, y1, y2, y3, y4, y5, yf⟩ := hR11
    obtain ⟨-, x0, x1, x2, x3, x4, x5, -⟩ := hX11
    obtain ⟨-, o0, o1, o2, o3, o4, o5, -⟩ := hP1
    clear hH1 hH11
    go_wp2_with fail
    exact bodyPost_ret (v := .tuple #[smV smz none 0, .int .i64 2]) (by simp [results, Tryz.results81, smV, smz, shV, go_sem, o0, o1, o2, o3, o4, o5]) rfl (nothing_see HE.out HBE.out)
end Go.Proofs.YteladgfdedlmjaaGreatDoor
namespace Go.Proofs.YteladgfdedlmjaaGreatDoor
open Go.ChangeShapes Go.WideShapes Go.ChangeAt Go.RowKit Go.Joins
set_option maxRecDepth 100000
attribute [local go_sem ↓] Go.wp_at_zero Go.wp_at_succ
set_option maxHeartbeats 8000000 in
theorem specSee_x (x : Sm) (a : Option Addr) (cap : Nat) (b : Option Addr) (m capm : Nat) (vs : List Wr) (w : World) (hs : x.ws.length + m ≤ 1048576) (hx : Few x.ws) (ht : x.t.size ≤ 1048576) (h : IsWs w a x.ws) (hm : vs.length = m) (hy : Few vs) (hj : IsWs w b vs) :
  Calls Tryz.prog 23 #[smV x a cap, .slice b m capm] w fun e w' => SeeAns w (seeAns x vs) e w' := by
 obtain ⟨A, hA⟩ : ∃ A, A = seeAns x vs := ⟨_, rfl⟩
 rw [← hA]
 obtain ⟨ok, hok⟩ : ∃ ok, ok = smOkB x := ⟨_, rfl⟩
 obtain ⟨rt, hrt⟩ : ∃ rt, rt = rightB x.ws vs := ⟨_, rfl⟩
 obtain ⟨G, hG⟩ : ∃ G, G = seeGo x vs := ⟨_, rfl⟩
 have HA : Hid (A = if (ok && rt) = true then G else (smz, 1)) := by rw [hA, hok, hrt, hG]; exact Lib.hid rfl
 have HSP : Hid (∀ W a cap, IsWs W a x.ws → Calls Tryz.prog 27 #[smV x a cap] W fun e w' => e = .returned (.bool ok) ∧ Below W.heap.size W w') := fun W a cap hw => by rw [hok]; exact specOk_x x a cap W (by omega) hx ht hw
 have HRT : Hid (∀ W a cap, IsWs W a x.ws → IsWs W b vs → Calls Tryz.prog 80 #[.slice a x.ws.length cap, .slice b m capm] W fun e w' => e = .returned (.bool rt) ∧ Below W.heap.size W w') := fun W a cap h1 h2 => by rw [hrt]; exact l03Right_any a b _ m cap capm x.ws vs W rfl hm (by omega) (by omega) hx hy h1 h2
 have HSE : Hid (ok = true → ∀ W a cap, IsWs W a x.ws → IsWs W b vs → Calls Tryz.prog 81 #[smV x a cap, .slice b m capm] W fun e w' => SeeAns W G e w') := fun h1 W a cap h2 h3 => by rw [hG]; exact l07See_any x a cap b m capm vs W (right_of (by rw [← hok]; exact h1)) h2 hm hs hy h3
 have HW := Lib.hid h
 have HJ := Lib.hid hj
 clear hA hok hrt hG h hj hx ht hy
 obtain ⟨si, cl, sq, la, ws, t⟩ := x
 unfold smV at HSP HSE ⊢
 simp only at hs HW HSP HRT HSE ⊢
 obtain ⟨n, hnn⟩ : ∃ n, ws.length = n := ⟨_, rfl⟩
 rw [hnn] at hs HSP HRT HSE ⊢
 clear hnn
 unfold shV at HSP HSE ⊢
 have HB1 : Below w.heap.size w (w.alloc (.cells #[.int .i64 si, .int .i64 cl, .int .i64 sq, .int .i64 la, .slice a n cap, .string t] 26)) := (Below.refl _ _).alloc (Nat.le_refl _) _
 have hz1 : (w.alloc (.cells #[.int .i64 si, .int .i64 cl, .int .i64 sq, .int .i64 la, .slice a n cap, .string t] 26)).heap.size = w.heap.size + 1 := by simp
 have hS1 := SBox.start w si cl sq la a n cap t 26
 obtain ⟨W1, hW1⟩ : ∃ W1, w.alloc (.cells #[.int .i64 si, .int .i64 cl, .int .i64 sq, .int .i64 la, .slice a n cap, .string t] 26) = W1 := ⟨_, rfl⟩
 rw [hW1] at HB1 hz1 hS1
 have hA1 : Below W1.heap.size W1 (W1.alloc (.cells #[.int .i64 0, .int .i64 0, .int .i64 0, .int .i64 0, .slice none 0 0, .string ⟨#[]⟩] 26)) := (Below.refl _ _).alloc (Nat.le_refl _) _
 have HB2 : Below w.heap.size w (W1.alloc (.cells #[.int .i64 0, .int .i64 0, .int .i64 0, .int .i64 0, .slice none 0 0, .string ⟨#[]⟩] 26)) := HB1.alloc (by omega) _
 have hz2 : (W1.alloc (.cells #[.int .i64 0, .int .i64 0, .int .i64 0, .int .i64 0, .slice none 0 0, .string ⟨#[]⟩] 26)).heap.size = w.heap.size + 1 + 1 := by simp [hz1]
 have hR2 : SBox (W1.alloc (.cells #[.int .i64 0, .int .i64 0, .int .i64 0, .int .i64 0, .slice none 0 0, .string ⟨#[]⟩] 26)) (w.heap.size + 1) 0 0 0 0 none 0 0 ⟨#[]⟩ := by have := SBox.start W1 0 0 0 0 none 0 0 ⟨#[]⟩ 26; rw [hz1] at this; exact this
 have hS2 := hS1.below hA1
 obtain ⟨W2, hW2⟩ : ∃ W2, W1.alloc (.cells #[.int .i64 0, .int .i64 0, .int .i64 0, .int .i64 0, .slice none 0 0, .string ⟨#[]⟩] 26) = W2 := ⟨_, rfl⟩
 rw [hW2] at HB2 hz2 hR2 hS2
 have HB := Lib.hid HB2
 have HS := Lib.hid hS2
 have HRS := Lib.hid hR2
 have hzl : w.heap.size + 1 < W2.heap.size := by omega
 obtain ⟨-, x0, x1, x2, x3, x4, x5, -⟩ := hS2
 clear hA1 HB1 HB2 hS1 hR2
 go_enter Tryz.func23, Tryz.ntmps23
 go_wp2_with fail
 clear hW1 hW2 hz1 hz2 x0 x1 x2 x3 x4 x5
 refine (HSP.out _ a cap (HW.out.below HB.out)).mono ?_
 rintro e w3 ⟨rfl, hb⟩
 have HB3 := Lib.hid hb
 clear hb
 cases ok
 ·have HE : Hid (A = (smz, 1)) := by rw [HA.out]; exact Lib.hid (by simp)
  have hRS := HRS.out.below HB3.out
  have h8s := HB3.out.size
  have hP1 := sbox_putS hRS 0 0 0 0 none 0 0 ⟨#[]⟩
  have hH1 := hole_putS (Hole.refl (w.heap.size + 1) w3) 0 0 0 0 none 0 0 ⟨#[]⟩
  obtain ⟨-, z0, z1, z2, z3, z4, z5, zf⟩ := hRS
  obtain ⟨V1, hV1⟩ : ∃ V1, putS w3 (w.heap.size + 1) 0 0 0 0 none 0 0 ⟨#[]⟩ = V1 := ⟨_, rfl⟩
  rw [hV1] at hP1 hH1
  have HBE : Hid (Below w.heap.size w V1) := Hole.below (HB.out.trans (HB3.out.mono (by omega))) hH1 (by omega) (by omega)
  unfold putS at hV1
  obtain ⟨-, o0, o1, o2, o3, o4, o5, -⟩ := hP1
  clear hH1
  go_wp2_with fail
  exact bodyPost_ret (v := .tuple #[smV smz none 0, .int .i64 1]) (by simp [results, Tryz.results23, smV, smz, shV, go_sem, o0, o1, o2, o3, o4, o5]) rfl (nothing_see HE.out HBE.out)
 obtain ⟨-, x0, x1, x2, x3, x4, x5, -⟩ := HS.out.below HB3.out
 go_wp2_with fail
 clear x0 x1 x2 x3 x4 x5
 have hB3 := HB.out.trans (HB3.out.mono (by omega))
 refine (HRT.out _ a cap (HW.out.below hB3) (HJ.out.below hB3)).mono ?_
 rintro e w4 ⟨rfl, hb⟩
 have HB4 := Lib.hid (below_step HB3.out HB3.out.size hb)
 clear hb hB3
 cases rt
 ·have HE : Hid (A = (smz, 1)) := by rw [HA.out]; exact Lib.hid (by simp)
  have hRS := HRS.out.below HB4.out
  have h8s := HB4.out.size
  have hP1 := sbox_putS hRS 0 0 0 0 none 0 0 ⟨#[]⟩
  have hH1 := hole_putS (Hole.refl (w.heap.size + 1) w4) 0 0 0 0 none 0 0 ⟨#[]⟩
  obtain ⟨-, z0, z1, z2, z3, z4, z5, zf⟩ := hRS
  obtain ⟨V1, hV1⟩ : ∃ V1, putS w4 (w.heap.size + 1) 0 0 0 0 none 0 0 ⟨#[]⟩ = V1 := ⟨_, rfl⟩
  rw [hV1] at hP1 hH1
  have HBE : Hid (Below w.heap.size w V1) := Hole.below (HB.out.trans (HB4.out.mono (by omega))) hH1 (by omega) (by omega)
  unfold putS at hV1
  obtain ⟨-, o0, o1, o2, o3, o4, o5, -⟩ := hP1
  clear hH1
  go_wp2_with fail
  exact bodyPost_ret (v := .tuple #[smV smz none 0, .int .i64 1]) (by simp [results, Tryz.results23, smV, smz, shV, go_sem, o0, o1, o2, o3, o4, o5]) rfl (nothing_see HE.out HBE.out)
 have HE : Hid (A = G) := by rw [HA.out]; exact Lib.hid (by simp)
 obtain ⟨-, x0, x1, x2, x3, x4, x5, -⟩ := HS.out.below HB4.out
 go_wp2_with fail
 clear x0 x1 x2 x3 x4 x5
 have hB4 := HB.out.trans (HB4.out.mono (by omega))
 refine (HSE.out (by trivial) _ a cap (HW.out.below hB4) (HJ.out.below hB4)).mono ?_
 rintro e w5 ⟨a5, c5, rfl, hf5, hb⟩
 have HB5 := Lib.hid (below_step HB4.out HB4.out.size hb)
 have h4s := HB4.out.size
 clear hb hB4
 obtain ⟨⟨s0, s1, s2, s3, s4, s5⟩, c⟩ := G
 simp only at hf5
 unfold smV
 simp only
 obtain ⟨L, hl⟩ : ∃ L, s4.length = L := ⟨_, rfl⟩
 rw [hl]
 have HLL := Lib.hid hl
 clear hl
 have hRS := HRS.out.below HB5.out
 have h8s := HB5.out.size
 have hP1 := sbox_putS hRS s0 s1 s2 s3 a5 L c5 s5
 have hH1 := hole_putS (Hole.refl (w.heap.size + 1) w5) s0 s1 s2 s3 a5 L c5 s5
 obtain ⟨-, z0, z1, z2, z3, z4, z5, zf⟩ := hRS
 obtain ⟨V1, hV1⟩ : ∃ V1, putS w5 (w.heap.size + 1) s0 s1 s2 s3 a5 L c5 s5 = V1 := ⟨_, rfl⟩
 rw [hV1] at hP1 hH1
 have HBE : Hid (Below w.heap.size w V1) := Hole.below (HB.out.trans (HB5.out.mono (by omega))) hH1 (by omega) (by omega)
 have HFW := Lib.hid ((hf5.hole hH1 (by omega)).mono (B' := w.heap.size) (by omega))
 unfold putS at hV1
 unfold shV
 obtain ⟨-, o0, o1, o2, o3, o4, o5, -⟩ := hP1
 clear hH1 hf5
 go_wp2_with fail
 refine bodyPost_ret (v := .tuple #[shV s0 s1 s2 s3 a5 L c5 s5, .int .i64 c]) (by simp [results, Tryz.results23, shV, go_sem, o0, o1, o2, o3, o4, o5]) rfl ⟨a5, c5, ?_, ?_, HBE.out⟩
 ·rw [HE.out]
  unfold smV
  simp only
  rw [HLL.out]
 ·rw [HE.out]
  exact HFW.out
end Go.Proofs.YteladgfdedlmjaaGreatDoor
