import Derived.Test.YtbbmpfkijhhemaaGreatDoorPack21
import Derived.Test.YtbbmpfkijhhemaaGreatDoorPack20
import Derived.Test.YtbbmpfkijhhemaaGreatDoorPack18
import Derived.Test.YtbbmpfkijhhemaaGreatDoorPack22
import Derived.Deep.DeepCutAuto
import Derived.Test.YtbbmpfkijhhemaaGreatDoorPack19
import Derived.Test.YtbbmpfkijhhemaaGreatDoorPack11
import Derived.Test.YtbbmpfkijhhemaaGreatDoorPack10
namespace Go.Proofs.YtbbmpfkijhhemaaGreatDoor
open Go.ChangeShapes Go.WideShapes Go.ChangeAt Go.RowKit Go.Joins
set_option maxRecDepth 100000
attribute [local go_sem ↓] Go.wp_at_zero Go.wp_at_succ

theorem rightP_eq (x : Sm) (key val : Int) (de : Bool) (mask : Int) : rightP x key val de mask = (btw key 0 5 && valOkB val de && btw mask 0 63 && smOkB x) := by
  have e : valOkB val de = (btw val (-1000000) 1000000 && !(de && decide (val ≠ 0))) := by
    cases de
    · simp [valOkB]
    · by_cases h : val = 0
      · subst h
        rfl
      · have : (val == 0) = false := by simpa using h
        simp [valOkB, h]
  rw [e]
  unfold rightP
  cases smOkB x <;> cases btw key 0 5 <;> cases btw val (-1000000) 1000000 <;> cases (de && decide (val ≠ 0)) <;> cases btw mask 0 63 <;> rfl

def PutAns (w : World) (A : Sm × Wr × Int) (e : Ending) (w' : World) : Prop :=
  ∃ a' cp' ad cd mid γ, e = .returned (.tuple #[smV A.1 a' cp', wrOf A.2.1 ad cd, .int .i64 A.2.2]) ∧ w.heap.size ≤ mid ∧ mid ≤ w'.heap.size ∧ OwnD w' w.heap.size mid ad A.2.1.xs ∧ OwnA w' mid w'.heap.size a' A.1.ws γ ∧ Below w.heap.size w w'

theorem nothing_put {w w' : World} {A : Sm × Wr × Int} {c : Int} (h : A = (smz, wz, c)) (hb : Below w.heap.size w w') : PutAns w A (.returned (.tuple #[smV smz none 0, wrOf wz none 0, .int .i64 c])) w' := by
  subst h
  exact ⟨none, 0, none, 0, w.heap.size, fun _ => 0, rfl, Nat.le_refl _, hb.size, .inl rfl, .inl rfl, hb⟩

def KeptAt (w8 : World) (si cl sq la : Int) (t : ByteArray) (m : List Wr) (v : Value) (w : World) : Prop := ∃ b a' n' cp' es, v = .pointer (some ⟨b, 0, none⟩) ∧ w8.heap.size ≤ b ∧ SBox w b si cl sq la a' n' cp' t ∧ es.length = n' ∧ es.map (·.x) = m ∧ RowG w w8.heap.size (.slice a' n' cp') es ∧ ((Value.slice a' n' cp').ownBlock ≠ some b ∧ ∀ e ∈ es, 0 < e.x.xs.length → e.g ≠ b) ∧ Below w8.heap.size w8 w

theorem becB_42 (ws : List Wr) (M : Int) : (becB ws M).length ≤ 42 := by
  unfold becB
  split
  · rename_i h
    have := becL_len h.1 M ws.length
    rwa [List.take_length] at this
  · simp

set_option maxHeartbeats 32000000 in
theorem implPut_x (x : Sm) (a : Option Addr) (cap : Nat) (key val : Int) (de : Bool) (mask : Int) (w : World) (hn : x.ws.length ≤ 1048576) (hx : Few x.ws) (ht : x.t.size ≤ 1048576) (h : IsWs w a x.ws) (hL : LV w) :
    Calls Tryz.prog 9 #[smV x a cap, .int .i64 key, .int .i64 val, .bool de, .int .i64 mask] w fun e w' => PutAns w (putAns x key val de mask) e w' := by
  obtain ⟨A, hA⟩ : ∃ A, A = putAns x key val de mask := ⟨_, rfl⟩
  rw [← hA]
  obtain ⟨ok, hok⟩ : ∃ ok, ok = smOkB x := ⟨_, rfl⟩
  have HSP : Hid (∀ W a cap, LV W → IsWs W a x.ws → Calls Tryz.prog 14 #[smV x a cap] W fun e w' => e = .returned (.bool ok) ∧ Below W.heap.size W w') := fun W a cap hl hw => by rw [hok]; exact implOk_x x a cap W hn hx ht hw hl
  have HRI : Hid (ok = true → RightS x) := fun h1 => right_of (by rw [← hok]; exact h1)
  have HKO : Hid (mapOkB x.ws = true → ∀ W a cap, IsWs W a x.ws → Calls Tryz.prog 46 #[smV x a cap] W fun e w' => ∃ b, e = .returned (kpV x.si x.cl x.sq x.la a x.ws.length cap x.t b) ∧ W.heap.size ≤ b ∧ RegsW W w' b x.ws.length (findW x.ws) ∧ Below W.heap.size W w') := fun hm W a cap hw => keeperOf_any x a cap W hm hw
  have HA : Hid (A = if (btw key 0 5 && valOkB val de && btw mask 0 63 && ok) = true then (if putGo x (putWr x key val de mask) = true then (putXs x (putWr x key val de mask), putWr x key val de mask, 0) else (smz, wz, 2)) else (smz, wz, 1)) := by rw [hA, hok, ← rightP_eq]; exact Lib.hid rfl
  have HW := Lib.hid h
  have HL := Lib.hid hL
  clear hA hok h hx ht hL
  obtain ⟨D, hD⟩ : ∃ D, D = (putWr x key val de mask).xs := ⟨_, rfl⟩
  have HDE : Hid (putWr x key val de mask = ⟨key, x.cl + 1, x.si, x.sq + 1, val, de, D⟩) := by rw [hD]; exact Lib.hid rfl
  have HDB : Hid (D = becB x.ws (maskL mask x.la)) := by rw [hD]; exact Lib.hid rfl
  rw [HDE.out] at HA
  clear hD HDE
  obtain ⟨si, cl, sq, la, ws, t⟩ := x
  unfold smV at HSP HKO ⊢
  simp only at hn HW HSP HRI HKO HDB HA ⊢
  obtain ⟨n, hnn⟩ : ∃ n, ws.length = n := ⟨_, rfl⟩
  rw [hnn] at hn HSP HKO ⊢
  have HN := Lib.hid hnn
  clear hnn
  unfold shV at HSP HKO ⊢
  have HB1 : Below w.heap.size w (w.alloc (.cells #[.int .i64 si, .int .i64 cl, .int .i64 sq, .int .i64 la, .slice a n cap, .string t] 26)) := (Below.refl _ _).alloc (Nat.le_refl _) _
  have hz1 : (w.alloc (.cells #[.int .i64 si, .int .i64 cl, .int .i64 sq, .int .i64 la, .slice a n cap, .string t] 26)).heap.size = w.heap.size + 1 := by simp
  have hS1 := SBox.start w si cl sq la a n cap t 26
  obtain ⟨W1, hW1⟩ : ∃ W1, w.alloc (.cells #[.int .i64 si, .int .i64 cl, .int .i64 sq, .int .i64 la, .slice a n cap, .string t] 26) = W1 := ⟨_, rfl⟩
  rw [hW1] at HB1 hz1 hS1
  have hA1 : Below W1.heap.size W1 (W1.alloc (.cells #[.int .i64 0, .int .i64 0, .int .i64 0, .int .i64 0, .slice none 0 0, .string ⟨#[]⟩] 26)) := (Below.refl _ _).alloc (Nat.le_refl _) _
  have HB2 : Below w.heap.size w (W1.alloc (.cells #[.int .i64 0, .int .i64 0, .int .i64 0, .int .i64 0, .slice none 0 0, .string ⟨#[]⟩] 26)) := HB1.alloc (by omega) _
  have hz2 : (W1.alloc (.cells #[.int .i64 0, .int .i64 0, .int .i64 0, .int .i64 0, .slice none 0 0, .string ⟨#[]⟩] 26)).heap.size = w.heap.size + 1 + 1 := by simp [hz1]
  have hR2 : SBox (W1.alloc (.cells #[.int .i64 0, .int .i64 0, .int .i64 0, .int .i64 0, .slice none 0 0, .string ⟨#[]⟩] 26)) (w.heap.size + 1) 0 0 0 0 none 0 0 ⟨#[]⟩ := by have := SBox.start W1 0 0 0 0 none 0 0 ⟨#[]⟩ 26; rw [hz1] at this; exact this
  have hS2 := hS1.below hA1
  obtain ⟨W2, hW2⟩ : ∃ W2, W1.alloc (.cells #[.int .i64 0, .int .i64 0, .int .i64 0, .int .i64 0, .slice none 0 0, .string ⟨#[]⟩] 26) = W2 := ⟨_, rfl⟩
  rw [hW2] at HB2 hz2 hR2 hS2
  have hA2 : Below W2.heap.size W2 (W2.alloc (.cells #[.int .i64 0, .int .i64 0, .int .i64 0, .int .i64 0, .int .i64 0, .bool false, .slice none 0 0] 33)) := (Below.refl _ _).alloc (Nat.le_refl _) _
  have HB3 : Below w.heap.size w (W2.alloc (.cells #[.int .i64 0, .int .i64 0, .int .i64 0, .int .i64 0, .int .i64 0, .bool false, .slice none 0 0] 33)) := HB2.alloc (by omega) _
  have hz3 : (W2.alloc (.cells #[.int .i64 0, .int .i64 0, .int .i64 0, .int .i64 0, .int .i64 0, .bool false, .slice none 0 0] 33)).heap.size = w.heap.size + 1 + 1 + 1 := by simp [hz2]
  have hQ3 : RBox (W2.alloc (.cells #[.int .i64 0, .int .i64 0, .int .i64 0, .int .i64 0, .int .i64 0, .bool false, .slice none 0 0] 33)) (w.heap.size + 1 + 1) 0 0 0 0 0 false none 0 0 := by have := RBox.start W2 0 0 0 0 0 false none 0 0 33; rw [hz2] at this; exact this
  have hS3 := hS2.below hA2
  have hR3 := hR2.below hA2
  obtain ⟨W3, hW3⟩ : ∃ W3, W2.alloc (.cells #[.int .i64 0, .int .i64 0, .int .i64 0, .int .i64 0, .int .i64 0, .bool false, .slice none 0 0] 33) = W3 := ⟨_, rfl⟩
  rw [hW3] at HB3 hz3 hQ3 hS3 hR3
  have HB := Lib.hid HB3
  have HS := Lib.hid hS3
  have HRS := Lib.hid hR3
  have HRW := Lib.hid hQ3
  have HI := Lib.hid (HW.out.below HB3)
  have hzl : w.heap.size + 1 + 1 < W3.heap.size := by omega
  clear hA1 hA2 HB1 HB2 HB3 hS1 hS2 hR2 hR3 hQ3
  have HB0 : Hid (Below W3.heap.size W3 W3) := Below.refl _ _
  obtain ⟨-, x0, x1, x2, x3, x4, x5, -⟩ := hS3
  go_enter Tryz.func9, Tryz.ntmps9
  go_wp2_with fail
  clear hW1 hW2 hW3 hz1 hz2 hz3
  refine (keyOk_any key _).mono ?_
  rintro e w5 ⟨rfl, hw⟩
  subst w5
  cases hk : btw key 0 5
  · have HE : Hid (A = (smz, wz, 1)) := by rw [HA.out, hk]; exact Lib.hid (by simp)
    clear hk
    have hRS := HRS.out.below HB0.out
    have hRW := HRW.out.below HB0.out HRW.out.lt
    have h8s := HB0.out.size
    have hP1 := sbox_putS hRS 0 0 0 0 none 0 0 ⟨#[]⟩
    have hH1 := hole_putS (Hole.refl (w.heap.size + 1) W3) 0 0 0 0 none 0 0 ⟨#[]⟩
    have hQ1 := hRW.hole hH1 (by omega)
    obtain ⟨-, z0, z1, z2, z3, z4, z5, zf⟩ := hRS
    obtain ⟨V1, hV1⟩ : ∃ V1, putS W3 (w.heap.size + 1) 0 0 0 0 none 0 0 ⟨#[]⟩ = V1 := ⟨_, rfl⟩
    rw [hV1] at hP1 hQ1 hH1
    have hQ2 := hQ1.put7 0 0 0 0 0 false none 0 0
    have hH2 : Hole (w.heap.size + 1 + 1) V1 (put7 V1 (w.heap.size + 1 + 1) 0 0 0 0 0 false none 0 0) := (Hole.refl _ _).put7 _ _ _ _ _ _ _ _ _
    obtain ⟨V2, hV2⟩ : ∃ V2, put7 V1 (w.heap.size + 1 + 1) 0 0 0 0 0 false none 0 0 = V2 := ⟨_, rfl⟩
    rw [hV2] at hQ2 hH2
    have hP2 := hP1.of_block hH2.size (hH2.block _ hP1.lt (by omega))
    have hs1 := hH1.size
    have HBE : Hid (Below w.heap.size w V2) := Hole.below (Hole.below (HB.out.trans (HB0.out.mono (by omega))) hH1 (by omega) (by omega)) hH2 (by omega) (by omega)
    unfold putS at hV1
    unfold put7 at hV2
    obtain ⟨-, u0, u1, u2, u3, u4, u5, u6, uf⟩ := hQ1
    obtain ⟨-, q0, q1, q2, q3, q4, q5, q6, -⟩ := hQ2
    obtain ⟨-, o0, o1, o2, o3, o4, o5, -⟩ := hP2
    clear hP1 hH1 hH2 hRW hs1
    go_wp2_with fail
    exact bodyPost_ret (v := .tuple #[smV smz none 0, wrOf wz none 0, .int .i64 1]) (by simp [results, Tryz.results9, smV, smz, shV, wrOf, wz, go_sem, o0, o1, o2, o3, o4, o5, q0, q1, q2, q3, q4, q5, q6]) rfl (nothing_put (HE.out) HBE.out)
  rw [hk] at HA
  go_wp2_with fail
  refine (valOk_any val de _).mono ?_
  rintro e w5 ⟨rfl, hw⟩
  subst w5
  cases hv : valOkB val de
  · have HE : Hid (A = (smz, wz, 1)) := by rw [HA.out, hv]; exact Lib.hid (by simp)
    clear hv
    have hRS := HRS.out.below HB0.out
    have hRW := HRW.out.below HB0.out HRW.out.lt
    have h8s := HB0.out.size
    have hP1 := sbox_putS hRS 0 0 0 0 none 0 0 ⟨#[]⟩
    have hH1 := hole_putS (Hole.refl (w.heap.size + 1) W3) 0 0 0 0 none 0 0 ⟨#[]⟩
    have hQ1 := hRW.hole hH1 (by omega)
    obtain ⟨-, z0, z1, z2, z3, z4, z5, zf⟩ := hRS
    obtain ⟨V1, hV1⟩ : ∃ V1, putS W3 (w.heap.size + 1) 0 0 0 0 none 0 0 ⟨#[]⟩ = V1 := ⟨_, rfl⟩
    rw [hV1] at hP1 hQ1 hH1
    have hQ2 := hQ1.put7 0 0 0 0 0 false none 0 0
    have hH2 : Hole (w.heap.size + 1 + 1) V1 (put7 V1 (w.heap.size + 1 + 1) 0 0 0 0 0 false none 0 0) := (Hole.refl _ _).put7 _ _ _ _ _ _ _ _ _
    obtain ⟨V2, hV2⟩ : ∃ V2, put7 V1 (w.heap.size + 1 + 1) 0 0 0 0 0 false none 0 0 = V2 := ⟨_, rfl⟩
    rw [hV2] at hQ2 hH2
    have hP2 := hP1.of_block hH2.size (hH2.block _ hP1.lt (by omega))
    have hs1 := hH1.size
    have HBE : Hid (Below w.heap.size w V2) := Hole.below (Hole.below (HB.out.trans (HB0.out.mono (by omega))) hH1 (by omega) (by omega)) hH2 (by omega) (by omega)
    unfold putS at hV1
    unfold put7 at hV2
    obtain ⟨-, u0, u1, u2, u3, u4, u5, u6, uf⟩ := hQ1
    obtain ⟨-, q0, q1, q2, q3, q4, q5, q6, -⟩ := hQ2
    obtain ⟨-, o0, o1, o2, o3, o4, o5, -⟩ := hP2
    clear hP1 hH1 hH2 hRW hs1
    go_wp2_with fail
    exact bodyPost_ret (v := .tuple #[smV smz none 0, wrOf wz none 0, .int .i64 1]) (by simp [results, Tryz.results9, smV, smz, shV, wrOf, wz, go_sem, o0, o1, o2, o3, o4, o5, q0, q1, q2, q3, q4, q5, q6]) rfl (nothing_put (HE.out) HBE.out)
  rw [hv] at HA
  go_wp2_with fail
  refine (inRange_any _ _ _ _).mono ?_
  rintro e w5 ⟨rfl, hw⟩
  subst w5
  cases hmk : btw mask 0 63
  · have HE : Hid (A = (smz, wz, 1)) := by rw [HA.out, hmk]; exact Lib.hid (by simp)
    clear hmk
    have hRS := HRS.out.below HB0.out
    have hRW := HRW.out.below HB0.out HRW.out.lt
    have h8s := HB0.out.size
    have hP1 := sbox_putS hRS 0 0 0 0 none 0 0 ⟨#[]⟩
    have hH1 := hole_putS (Hole.refl (w.heap.size + 1) W3) 0 0 0 0 none 0 0 ⟨#[]⟩
    have hQ1 := hRW.hole hH1 (by omega)
    obtain ⟨-, z0, z1, z2, z3, z4, z5, zf⟩ := hRS
    obtain ⟨V1, hV1⟩ : ∃ V1, putS W3 (w.heap.size + 1) 0 0 0 0 none 0 0 ⟨#[]⟩ = V1 := ⟨_, rfl⟩
    rw [hV1] at hP1 hQ1 hH1
    have hQ2 := hQ1.put7 0 0 0 0 0 false none 0 0
    have hH2 : Hole (w.heap.size + 1 + 1) V1 (put7 V1 (w.heap.size + 1 + 1) 0 0 0 0 0 false none 0 0) := (Hole.refl _ _).put7 _ _ _ _ _ _ _ _ _
    obtain ⟨V2, hV2⟩ : ∃ V2, put7 V1 (w.heap.size + 1 + 1) 0 0 0 0 0 false none 0 0 = V2 := ⟨_, rfl⟩
    rw [hV2] at hQ2 hH2
    have hP2 := hP1.of_block hH2.size (hH2.block _ hP1.lt (by omega))
    have hs1 := hH1.size
    have HBE : Hid (Below w.heap.size w V2) := Hole.below (Hole.below (HB.out.trans (HB0.out.mono (by omega))) hH1 (by omega) (by omega)) hH2 (by omega) (by omega)
    unfold putS at hV1
    unfold put7 at hV2
    obtain ⟨-, u0, u1, u2, u3, u4, u5, u6, uf⟩ := hQ1
    obtain ⟨-, q0, q1, q2, q3, q4, q5, q6, -⟩ := hQ2
    obtain ⟨-, o0, o1, o2, o3, o4, o5, -⟩ := hP2
    clear hP1 hH1 hH2 hRW hs1
    go_wp2_with fail
    exact bodyPost_ret (v := .tuple #[smV smz none 0, wrOf wz none 0, .int .i64 1]) (by simp [results, Tryz.results9, smV, smz, shV, wrOf, wz, go_sem, o0, o1, o2, o3, o4, o5, q0, q1, q2, q3, q4, q5, q6]) rfl (nothing_put (HE.out) HBE.out)
  rw [hmk] at HA
  go_wp2_with fail
  clear x0 x1 x2 x3 x4 x5
  refine (HSP.out _ a cap (HL.out.below HB.out) HI.out).mono ?_
  rintro e w4 ⟨rfl, hb⟩
  have HB4 := Lib.hid hb
  clear hb HSP
  cases ok
  · have HE : Hid (A = (smz, wz, 1)) := by rw [HA.out]; exact Lib.hid (by simp)
    have hRS := HRS.out.below HB4.out
    have hRW := HRW.out.below HB4.out HRW.out.lt
    have h8s := HB4.out.size
    have hP1 := sbox_putS hRS 0 0 0 0 none 0 0 ⟨#[]⟩
    have hH1 := hole_putS (Hole.refl (w.heap.size + 1) w4) 0 0 0 0 none 0 0 ⟨#[]⟩
    have hQ1 := hRW.hole hH1 (by omega)
    obtain ⟨-, z0, z1, z2, z3, z4, z5, zf⟩ := hRS
    obtain ⟨V1, hV1⟩ : ∃ V1, putS w4 (w.heap.size + 1) 0 0 0 0 none 0 0 ⟨#[]⟩ = V1 := ⟨_, rfl⟩
    rw [hV1] at hP1 hQ1 hH1
    have hQ2 := hQ1.put7 0 0 0 0 0 false none 0 0
    have hH2 : Hole (w.heap.size + 1 + 1) V1 (put7 V1 (w.heap.size + 1 + 1) 0 0 0 0 0 false none 0 0) := (Hole.refl _ _).put7 _ _ _ _ _ _ _ _ _
    obtain ⟨V2, hV2⟩ : ∃ V2, put7 V1 (w.heap.size + 1 + 1) 0 0 0 0 0 false none 0 0 = V2 := ⟨_, rfl⟩
    rw [hV2] at hQ2 hH2
    have hP2 := hP1.of_block hH2.size (hH2.block _ hP1.lt (by omega))
    have hs1 := hH1.size
    have HBE : Hid (Below w.heap.size w V2) := Hole.below (Hole.below (HB.out.trans (HB4.out.mono (by omega))) hH1 (by omega) (by omega)) hH2 (by omega) (by omega)
    unfold putS at hV1
    unfold put7 at hV2
    obtain ⟨-, u0, u1, u2, u3, u4, u5, u6, uf⟩ := hQ1
    obtain ⟨-, q0, q1, q2, q3, q4, q5, q6, -⟩ := hQ2
    obtain ⟨-, o0, o1, o2, o3, o4, o5, -⟩ := hP2
    clear hP1 hH1 hH2 hRW hs1
    go_wp2_with fail
    exact bodyPost_ret (v := .tuple #[smV smz none 0, wrOf wz none 0, .int .i64 1]) (by simp [results, Tryz.results9, smV, smz, shV, wrOf, wz, go_sem, o0, o1, o2, o3, o4, o5, q0, q1, q2, q3, q4, q5, q6]) rfl (nothing_put (HE.out) HBE.out)
  obtain ⟨hmap, hsi, hcl, hsq, hla, hts⟩ := HRI.out rfl
  simp only at hmap hsi hcl hsq hla hts
  have HMAP := Lib.hid hmap
  have HFW := Lib.hid (ok_few hmap)
  have hn6 := mapOk_len hmap
  have hkb := btw_bounds hk
  have hmb := btw_bounds hmk
  have hla2 : -1 ≤ la ∧ la ≤ 5 := hla
  clear hmap hk hv hmk
  obtain ⟨M, hM⟩ : ∃ M, M = maskL mask la := ⟨_, rfl⟩
  have hMb := maskL_bd hmb hla.2
  have HWL : Hid (∀ W, Calls Tryz.prog 44 #[.int .i64 mask, .int .i64 la] W fun e w' => e = .returned (.int .i64 M) ∧ w' = W) := fun W => by rw [hM]; exact withLast_any mask la W hmb hla2
  rw [← hM] at hMb HDB
  clear hM hla2
  have hD42 : D.length ≤ 42 := by rw [HDB.out]; exact becB_42 ws M
  have hwz : w.heap.size + 1 + 1 < w4.heap.size := by have := HB4.out.size; omega
  have HSD : Hid (∀ w', Below w4.heap.size w4 w' → SBox w' w.heap.size si cl sq la a n cap t) := fun w' hb => (HS.out.below HB4.out).below hb
  have HI4 := Lib.hid (HI.out.below HB4.out)
  have HCB : Hid (∀ W, Below w4.heap.size w4 W → Calls Tryz.prog 43 #[.slice a n cap, .int .i64 M] W fun e w' => ∃ v, e = .returned v ∧ RowD w' W.heap.size v D ∧ Below W.heap.size W w') := fun W hW => by rw [HDB.out]; exact implBecause_any a n cap ws M W HN.out (by omega) HFW.out (HI4.out.below hW) (by omega)
  have w1' : IntKind.i64.wrap (cl + 1) = cl + 1 := IntWalk.i64_in _ (by omega)
  have w2' : IntKind.i64.wrap (sq + 1) = sq + 1 := IntWalk.i64_in _ (by omega)
  have HA2 : Hid (A = if putGo ⟨si, cl, sq, la, ws, t⟩ ⟨key, cl + 1, si, sq + 1, val, de, D⟩ = true then (putXs ⟨si, cl, sq, la, ws, t⟩ ⟨key, cl + 1, si, sq + 1, val, de, D⟩, ⟨key, cl + 1, si, sq + 1, val, de, D⟩, 0) else (smz, wz, 2)) := by rw [HA.out]; exact Lib.hid (by simp)
  clear HDB HA
  go_wp2_with fail
  refine wp_region_slots 21 [[(1, false)], [(5, false)], [(38, true)], [(39, true)], [(5, false)], [(41, true)], [(5, false)], [(43, true)], [(44, true)], [(40, true), (42, true), (45, true)], [(2, false)], [(3, false)], [(5, false)], [(49, true)], [(4, false)], [(5, false)], [(52, true)], [(51, true), (53, true)], [(50, true), (54, true)], [(37, true), (46, true), (47, true), (48, true), (55, true)], []] (fun w' => Below w4.heap.size w4 w') (fun w w' => Below w.heap.size w w') (by kernel_rfl) (by kernel_rfl) (by rfl) (Below.refl _ _).drew (fun _ _ h hr => below_step h h.size hr) ?_
  iterate 17 (apply slot_eq; · (intro ρ w' ⟨p1, p2, p3⟩ hS hn; obtain ⟨-, x0, x1, x2, x3, x4, x5, -⟩ := HSD.out w' hS; simp at hn; go_simp; exact ⟨Below.refl _ _, rfl⟩))
  apply slot_eq
  · intro ρ w' ⟨p1, p2, p3⟩ hS hn
    simp at hn
    go_simp
    exact got_call (HWL.out w') fun e w'' ⟨he, hb⟩ => ⟨_, he, by rw [hb]; exact Below.refl _ _, rfl⟩
  refine slot_fact (DepRF w4.heap.size D) (lasts_depr _ _) ?_ ?_
  · intro ρ w' ⟨p1, p2, p3⟩ hS hn
    simp at hn
    go_simp
    exact got_call (HCB.out w' hS) fun e w'' ⟨v, he, hr, hb⟩ => by
      obtain ⟨a1, cp1, rfl, -⟩ := hr.form
      exact ⟨_, he, hb, a1, cp1, rfl, hr.mono hS.size⟩
  refine slot_fact (WrBF w4.heap.size key (cl + 1) si (sq + 1) val de D) (lasts_wrb _ _ _ _ _ _ _ _) ?_ ?_
  · intro ρ w' ⟨p1, p2, p3⟩ hS hn
    simp at hn
    obtain ⟨f37, f46, f47, f48, a1, cp1, f55, hr⟩ := hn
    rw [f55] at hr
    go_simp
    exact ⟨Below.refl _ _, a1, cp1, rfl, hr⟩
  refine slot_fact (WrZF w4.heap.size) (lasts_wrz _) ?_ ?_
  · intro ρ w' ⟨p1, p2, p3⟩ hS hn
    have hsz := hS.size
    go_simp
    exact ⟨(Below.refl _ _).alloc (Nat.le_refl _) _, wrz_mk w' _ hsz⟩
  refine slot_end ?_
  intro tv w5 hS hF
  simp at hF
  obtain ⟨⟨b, f13, hbl, hbox⟩, ⟨ad, cd, f56, hrd⟩, ⟨a55, c55, f55, -⟩, f54, f53, f52, f51, f50, f49, f48, f47, f46, f45, f44, f43, f42, f41, f40, f39, f38, f37⟩ := hF
  simp only [List.take_succ_cons, List.take_zero, List.drop_succ_cons, List.drop_zero, putAll, f13, f56, f55, f54, f53, f52, f51, f50, f49, f48, f47, f46, f45, f44, f43, f42, f41, f40, f39, f38, f37]
  clear f13 f56 f55 f54 f53 f52 f51 f50 f49 f48 f47 f46 f45 f44 f43 f42 f41 f40 f39 f38 f37
  simp only [Act.put, List.setIfInBounds_toArray, List.set_cons_succ, List.set_cons_zero]
  have hne := rowD_apart hbox hrd
  have HX5 := Lib.hid (rbox_zero hbox)
  obtain ⟨W6, hW6⟩ : ∃ W6, put7 w5 b key (cl + 1) si (sq + 1) val de ad D.length cd = W6 := ⟨_, rfl⟩
  have HX6 : Hid (RBox W6 b key (cl + 1) si (sq + 1) val de ad D.length cd) := by rw [← hW6]; exact HX5.out.put7 _ _ _ _ _ _ _ _ _
  have hH6 : Hole b w5 W6 := by rw [← hW6]; exact (Hole.refl _ _).put7 _ _ _ _ _ _ _ _ _
  have HR6 : Hid (RowD W6 w4.heap.size (.slice ad D.length cd) D) := hrd.aside hH6 hne
  have HB6 : Hid (Below w4.heap.size w4 W6) := Hole.below hS hH6 hbl hS.size
  have HD6 : Hid (OwnD W6 w4.heap.size W6.heap.size ad D) := by
    obtain ⟨a9, c9, e9, h9⟩ := HR6.out.form
    injection e9 with e9 _ _
    rw [e9]
    exact h9
  obtain ⟨-, y0, y1, y2, y3, y4, y5, y6, yf⟩ := HX5.out
  unfold put7 at hW6
  go_upto_region 4 with fail
  try rw [hW6]
  clear hW6 hH6 y0 y1 y2 y3 y4 y5 y6 yf HX5 hS hbox hrd hne HR6 HCB HWL
  generalize hlen : D.length = dl at *
  have HDL := Lib.hid hlen
  clear hlen
  obtain ⟨T, hT⟩ : ∃ T, T = str (batchT [(⟨key, cl + 1, si, sq + 1, val, de, D⟩ : Wr)]) := ⟨_, rfl⟩
  have hTs : T.size ≤ 2500 := by
    rw [hT]
    have := batchT_sz [(⟨key, cl + 1, si, sq + 1, val, de, D⟩ : Wr)]
    simpa [str, ByteArray.size] using this
  have hlog : putLog ⟨si, cl, sq, la, ws, t⟩ ⟨key, cl + 1, si, sq + 1, val, de, D⟩ = t ++ T := by rw [hT]; rfl
  have hpg : putGo ⟨si, cl, sq, la, ws, t⟩ ⟨key, cl + 1, si, sq + 1, val, de, D⟩ = (okW ⟨key, cl + 1, si, sq + 1, val, de, D⟩ && decide ((t ++ T).size ≤ 60000)) := by unfold putGo; rw [hlog]
  have HPG := Lib.hid hpg
  have HLG := Lib.hid hlog
  have HTE := Lib.hid hT
  clear hpg hlog hT
  obtain ⟨r, hr⟩ : ∃ r, okW ⟨key, cl + 1, si, sq + 1, val, de, D⟩ = r := ⟨_, rfl⟩
  rw [hr] at HPG
  have HWK : Hid (∀ W, IsDeps W ad D → Calls Tryz.prog 45 #[.agg #[.int .i64 key, .int .i64 (cl + 1), .int .i64 si, .int .i64 (sq + 1), .int .i64 val, .bool de, .slice ad dl cd]] W fun e w' => e = .returned (.bool r) ∧ Below W.heap.size W w') := fun W hW => by
    have := implWriteOk_is ⟨key, cl + 1, si, sq + 1, val, de, D⟩ r hr ad cd W (by show D.length ≤ 1048576; rw [HDL.out]; omega) hW
    unfold wrOf at this
    simp only at this
    rw [HDL.out] at this
    exact this
  have HRK := Lib.hid hr
  clear hr
  obtain ⟨-, y0, y1, y2, y3, y4, y5, y6, -⟩ := HX6.out
  go_wp2_with fail
  refine (HWK.out _ HD6.out.isDeps).mono ?_
  rintro e w8 ⟨rfl, hb⟩
  have HB8 := Lib.hid (below_step HB6.out HB6.out.size hb)
  have HX8 := Lib.hid (HX6.out.below hb HX6.out.lt)
  have HD8 : Hid (OwnD w8 w4.heap.size w8.heap.size ad D) := (HD6.out.below hb).mono (Nat.le_refl _) hb.size
  have HC8 := Lib.hid (below_step HB4.out HB4.out.size (HB8.out.mono (Nat.le_refl _)))
  clear hb HB6 HX6 HD6 y0 y1 y2 y3 y4 y5 y6 HWK
  cases r
  · have HE : Hid (A = (smz, wz, 2)) := by rw [HA2.out, HPG.out]; exact Lib.hid (by simp)
    have hRS := HRS.out.below HC8.out
    have hRW := HRW.out.below HC8.out HRW.out.lt
    have h8s := HC8.out.size
    have hP1 := sbox_putS hRS 0 0 0 0 none 0 0 ⟨#[]⟩
    have hH1 := hole_putS (Hole.refl (w.heap.size + 1) w8) 0 0 0 0 none 0 0 ⟨#[]⟩
    have hQ1 := hRW.hole hH1 (by omega)
    obtain ⟨-, z0, z1, z2, z3, z4, z5, zf⟩ := hRS
    obtain ⟨V1, hV1⟩ : ∃ V1, putS w8 (w.heap.size + 1) 0 0 0 0 none 0 0 ⟨#[]⟩ = V1 := ⟨_, rfl⟩
    rw [hV1] at hP1 hQ1 hH1
    have hQ2 := hQ1.put7 0 0 0 0 0 false none 0 0
    have hH2 : Hole (w.heap.size + 1 + 1) V1 (put7 V1 (w.heap.size + 1 + 1) 0 0 0 0 0 false none 0 0) := (Hole.refl _ _).put7 _ _ _ _ _ _ _ _ _
    obtain ⟨V2, hV2⟩ : ∃ V2, put7 V1 (w.heap.size + 1 + 1) 0 0 0 0 0 false none 0 0 = V2 := ⟨_, rfl⟩
    rw [hV2] at hQ2 hH2
    have hP2 := hP1.of_block hH2.size (hH2.block _ hP1.lt (by omega))
    have hs1 := hH1.size
    have HBE : Hid (Below w.heap.size w V2) := Hole.below (Hole.below (HB.out.trans (HC8.out.mono (by omega))) hH1 (by omega) (by omega)) hH2 (by omega) (by omega)
    unfold putS at hV1
    unfold put7 at hV2
    obtain ⟨-, u0, u1, u2, u3, u4, u5, u6, uf⟩ := hQ1
    obtain ⟨-, q0, q1, q2, q3, q4, q5, q6, -⟩ := hQ2
    obtain ⟨-, o0, o1, o2, o3, o4, o5, -⟩ := hP2
    clear hP1 hH1 hH2 hRW hs1
    go_wp2_with fail
    exact bodyPost_ret (v := .tuple #[smV smz none 0, wrOf wz none 0, .int .i64 2]) (by simp [results, Tryz.results9, smV, smz, shV, wrOf, wz, go_sem, o0, o1, o2, o3, o4, o5, q0, q1, q2, q3, q4, q5, q6]) rfl (nothing_put (HE.out) HBE.out)
  have HKE : Hid (∀ W b6 al, Below W3.heap.size W3 W → IsWs0 W al [(⟨key, cl + 1, si, sq + 1, val, de, D⟩ : Wr)] → RegsX W W b6 n (findW ws) → Calls Tryz.prog 47 #[kpV si cl sq la a n cap t b6, .slice al 1 1] W fun e w' => ((60000 < (t ++ T).size ∧ e = .returned (.tuple #[shV 0 0 0 0 none 0 0 ⟨#[]⟩, .bool false])) ∨ ((t ++ T).size ≤ 60000 ∧ ∃ a' n' cp' es, e = .returned (.tuple #[shV si cl sq la a' n' cp' (t ++ T), .bool true]) ∧ es.length = n' ∧ es.map (·.x) = putW ws ⟨key, cl + 1, si, sq + 1, val, de, D⟩ ∧ RowG w' W.heap.size (.slice a' n' cp') es)) ∧ Hole b6 W w') := fun W b6 al hb hw hr => by
    rw [HTE.out, ← told_put HMAP.out (y := ⟨key, cl + 1, si, sq + 1, val, de, D⟩) hkb]
    exact kept_any si cl sq la a n cap t b6 n (findW ws) al 1 1 [(⟨key, cl + 1, si, sq + 1, val, de, D⟩ : Wr)] W rfl (by omega) (by omega) hts (fun i hi => by have e : i = 0 := (by simp at hi; omega); subst e; show D.length ≤ 1048576; rw [HDL.out]; omega) (fun i hi => by have e : i = 0 := (by simp at hi; omega); subst e; exact hkb) (ws0_away hw hr.isMap) hw hr ((HL.out.below HB.out).below hb)
  have HO8 : Hid (Deps0 w8 ad D) := by
    rcases HD8.out with h1 | ⟨g, h1, h2, h3, h4, h5, h6⟩
    · exact .inl h1
    · exact .inr ⟨g, h1, h4, h5⟩
  have HKO2 : Hid (∀ W, Below w8.heap.size w8 W → Calls Tryz.prog 46 #[.agg #[.int .i64 si, .int .i64 cl, .int .i64 sq, .int .i64 la, .slice a n cap, .string t]] W fun e w' => ∃ b, e = .returned (kpV si cl sq la a n cap t b) ∧ W.heap.size ≤ b ∧ RegsW W w' b n (findW ws) ∧ Below W.heap.size W w') := fun W hW => HKO.out HMAP.out W a cap (HI4.out.below (below_step HB8.out HB8.out.size hW))
  clear HKO
  go_upto_region 6 with fail
  by_cases hbig : (t ++ T).size ≤ 60000
  rotate_left
  · have HE : Hid (A = (smz, wz, 2)) := by rw [HA2.out, HPG.out, decide_eq_false hbig]; exact Lib.hid (by simp)
    go_cut [14, 15] (fun s14 s15 wx => s15 = .bool false ∧ ∃ b14, s14 = .pointer (some ⟨b14, 0, none⟩) ∧ Below w8.heap.size w8 wx)
    case first =>
      refine wp_region_slots_v 9 7 (0, 0) [[(5, false)], [(63, true)], [(13, false)], [(65, true)], [(64, true), (66, true)], [(67, true)], [(62, true)], [(62, true)], []] (fun w' => Below w8.heap.size w8 w') (fun w' => Below w8.heap.size w8 w') (fun _ w' => Below w8.heap.size w8 w') (fun _ _ => True) (fun d => if d = 64 then some 67 else if d = 66 then some 67 else none) (RQ w8.heap.size 67) (by kernel_rfl) (by kernel_rfl) (by rfl) (Below.refl _ _).drew (by kernel_rfl) (fun _ => trivial) (fun _ => trivial) (by kernel_rfl) (fun _ _ _ _ _ _ _ _ => trivial) (onlyB_of (by kernel_rfl)) (fun d f w w' h1 h2 => rq_step h1 h1.size h2) (fun _ _ _ h => h) (fun _ _ _ h => h) ?_
      apply slotU_eq
      · intro ρ w' ⟨p1, p2, p3⟩ hS _ hn
        obtain ⟨-, x0, x1, x2, x3, x4, x5, -⟩ := HSD.out w' (below_step HB8.out HB8.out.size hS)
        simp at hn
        go_simp
        exact ⟨rq_below (by simp) (Below.refl _ _), rfl⟩
      refine slotU_fact (KpF w8.heap.size si cl sq la a n cap t n (findW ws)) (lastsU_until (by rfl) (lasts_kp _ _ _ _ _ _ _ _ _ _ _)) ?_ ?_
      · intro ρ w' ⟨p1, p2, p3⟩ hS _ hn
        simp at hn
        go_simp
        exact got_call (HKO2.out w' hS) fun e w'' ⟨b6, he, hle, hreg, hb⟩ => ⟨_, he, rq_below (by simp) hb, b6, rfl, Nat.le_trans hS.size hle, hreg.away hb hle⟩
      apply slotU_eq
      · intro ρ w' ⟨p1, p2, p3⟩ hS _ hn
        obtain ⟨-, y0, y1, y2, y3, y4, y5, y6, -⟩ := HX8.out.below hS HX8.out.lt
        simp at hn
        go_simp
        exact ⟨rq_below (by simp) (Below.refl _ _), rfl⟩
      refine slotU_fact (OneF ⟨key, cl + 1, si, sq + 1, val, de, D⟩) (lastsU_until (by rfl) (lasts_one _)) ?_ ?_
      · intro ρ w' ⟨p1, p2, p3⟩ hS _ hn
        simp at hn
        go_simp
        have hA7 : Below w'.heap.size w' (w'.alloc (.cells #[.int .i64 key, .int .i64 (cl + 1), .int .i64 si, .int .i64 (sq + 1), .int .i64 val, .bool de, .slice ad dl cd] 33)) := (Below.refl _ _).alloc (Nat.le_refl _) _
        refine ⟨rq_below (by simp) hA7, w'.heap.size, rfl, .inr ⟨w'.heap.size, 0, rfl, by simp, fun i hi => ?_⟩⟩
        have e : i = 0 := by simp at hi; omega
        subst e
        refine ⟨ad, cd, ?_, deps0_stay (deps0_stay HO8.out hS) hA7⟩
        have h := heap_alloc_new w' (.cells #[.int .i64 key, .int .i64 (cl + 1), .int .i64 si, .int .i64 (sq + 1), .int .i64 val, .bool de, .slice ad dl cd] 33)
        refine ⟨?_, ?_, ?_, ?_, ?_, ?_, ?_⟩ <;> (rw [cell_of_row _ _ _ _ _ (0, 0) h]; first | rfl | (rw [← HDL.out]; rfl))
      apply slotU_eq
      · intro ρ w' ⟨p1, p2, p3⟩ hS _ hn
        simp at hn
        obtain ⟨⟨b6, f64, hb6, hreg⟩, b1, f66, hw1⟩ := hn
        go_simp
        exact got_call (HKE.out w' b6 _ (below_step HC8.out HC8.out.size hS) hw1 hreg) fun e w'' ⟨hh, hH⟩ => by
          rcases hh with ⟨-, he⟩ | ⟨h2, -⟩
          · exact ⟨_, he, rq_turn ⟨b6, hb6, hreg.isMap, hH⟩, rfl⟩
          · exact absurd h2 hbig
      iterate 3 (apply slotU_eq; · (intro ρ w' ⟨p1, p2, p3⟩ hS _ hn; simp at hn; go_simp; exact ⟨rq_below (by simp) (Below.refl _ _), rfl⟩))
      refine slotU_fact (ShimF w8.heap.size) (lastsU_both (lasts_shim _) (shim_turn _ _)) ?_ ?_
      · intro ρ w' ⟨p1, p2, p3⟩ hS _ hn
        have hsz := hS.size
        go_simp
        exact ⟨rq_below (by simp) ((Below.refl _ _).alloc (Nat.le_refl _) _), shim_mk w' _ hsz⟩
      refine slotU_end ?_
      intro tv w9 hS
      constructor
      · intro hF
        simp at hF
        obtain ⟨⟨b14, f14, hb14, hbox⟩, f69, f68, f62, f67, f65, f63⟩ := hF
        simp only [List.take_succ_cons, List.take_zero, List.drop_succ_cons, List.drop_zero, putAll, f14, f69, f68, f62, f67, f65, f63]
        clear f14 f69 f68 f62 f67 f65 f63
        simp only [Act.put, List.setIfInBounds_toArray, List.set_cons_succ, List.set_cons_zero]
        have hX9 := sbox_zero hbox
        have hB10 : Below w8.heap.size w8 (putS w9 b14 0 0 0 0 none 0 0 ⟨#[]⟩) := Hole.below hS (hole_putS (Hole.refl _ _) _ _ _ _ _ _ _ _) hb14 hS.size
        unfold putS at hB10
        have HB10 := Lib.hid hB10
        clear hB10
        obtain ⟨-, v0, v1, v2, v3, v4, v5, vf⟩ := hX9
        unfold shV
        go_wp2_with fail
        go_meet
        exact ⟨rfl, b14, rfl, HB10.out⟩
      · intro hF
        simp at hF
        obtain ⟨⟨b14, f14, hb14, hbox⟩, f68, f62, f67, f65, f63⟩ := hF
        simp only [List.take_succ_cons, List.take_zero, List.drop_succ_cons, List.drop_zero, putAll, List.eraseIdx_cons_succ, List.eraseIdx_cons_zero, List.getElem?_cons_succ, List.getElem?_cons_zero, Option.toList_some, List.cons_append, List.nil_append, f14, f68, f62, f67, f65, f63]
        clear f14 f68 f62 f67 f65 f63
        simp only [Act.put, List.setIfInBounds_toArray, List.set_cons_succ, List.set_cons_zero]
        have hX9 := sbox_zero hbox
        have hB10 : Below w8.heap.size w8 (putS w9 b14 0 0 0 0 none 0 0 ⟨#[]⟩) := Hole.below hS (hole_putS (Hole.refl _ _) _ _ _ _ _ _ _ _) hb14 hS.size
        unfold putS at hB10
        have HB10 := Lib.hid hB10
        clear hB10
        obtain ⟨-, v0, v1, v2, v3, v4, v5, vf⟩ := hX9
        unfold shV
        go_wp2_with fail
        go_meet
        exact ⟨rfl, b14, rfl, HB10.out⟩
    case rest =>
      obtain ⟨rfl, b14, rfl, hb10⟩ := hcut
      have HC10 : Hid (Below W3.heap.size W3 wc) := below_step HC8.out HC8.out.size hb10
      clear hb10
      have hRS := HRS.out.below HC10.out
      have hRW := HRW.out.below HC10.out HRW.out.lt
      have h8s := HC10.out.size
      have hP1 := sbox_putS hRS 0 0 0 0 none 0 0 ⟨#[]⟩
      have hH1 := hole_putS (Hole.refl (w.heap.size + 1) wc) 0 0 0 0 none 0 0 ⟨#[]⟩
      have hQ1 := hRW.hole hH1 (by omega)
      obtain ⟨-, z0, z1, z2, z3, z4, z5, zf⟩ := hRS
      obtain ⟨V1, hV1⟩ : ∃ V1, putS wc (w.heap.size + 1) 0 0 0 0 none 0 0 ⟨#[]⟩ = V1 := ⟨_, rfl⟩
      rw [hV1] at hP1 hQ1 hH1
      have hQ2 := hQ1.put7 0 0 0 0 0 false none 0 0
      have hH2 : Hole (w.heap.size + 1 + 1) V1 (put7 V1 (w.heap.size + 1 + 1) 0 0 0 0 0 false none 0 0) := (Hole.refl _ _).put7 _ _ _ _ _ _ _ _ _
      obtain ⟨V2, hV2⟩ : ∃ V2, put7 V1 (w.heap.size + 1 + 1) 0 0 0 0 0 false none 0 0 = V2 := ⟨_, rfl⟩
      rw [hV2] at hQ2 hH2
      have hP2 := hP1.of_block hH2.size (hH2.block _ hP1.lt (by omega))
      have hs1 := hH1.size
      have HBE : Hid (Below w.heap.size w V2) := Hole.below (Hole.below (HB.out.trans (HC10.out.mono (by omega))) hH1 (by omega) (by omega)) hH2 (by omega) (by omega)
      unfold putS at hV1
      unfold put7 at hV2
      obtain ⟨-, u0, u1, u2, u3, u4, u5, u6, uf⟩ := hQ1
      obtain ⟨-, q0, q1, q2, q3, q4, q5, q6, -⟩ := hQ2
      obtain ⟨-, o0, o1, o2, o3, o4, o5, -⟩ := hP2
      clear hP1 hH1 hH2 hRW hs1
      go_wp2_with fail
      exact bodyPost_ret (v := .tuple #[smV smz none 0, wrOf wz none 0, .int .i64 2]) (by simp [results, Tryz.results9, smV, smz, shV, wrOf, wz, go_sem, o0, o1, o2, o3, o4, o5, q0, q1, q2, q3, q4, q5, q6]) rfl (nothing_put (HE.out) HBE.out)
  have HGO : Hid (A = (putXs ⟨si, cl, sq, la, ws, t⟩ ⟨key, cl + 1, si, sq + 1, val, de, D⟩, ⟨key, cl + 1, si, sq + 1, val, de, D⟩, 0)) := by rw [HA2.out, HPG.out, decide_eq_true hbig]; exact Lib.hid (by simp)
  have HOA : Hid (∀ z ∈ putW ws ⟨key, cl + 1, si, sq + 1, val, de, D⟩, okW z = true) := fun z hz => by
    have hr := (mapOk_iff ws).1 HMAP.out
    rcases putW_mem hr.2 hz with rfl | hz
    · exact HRK.out
    · exact hr.1 z hz
  go_cut [14, 15] (fun s14 s15 wx => s15 = .bool true ∧ KeptAt w8 si cl sq la (t ++ T) (putW ws ⟨key, cl + 1, si, sq + 1, val, de, D⟩) s14 wx)
  case first =>
    refine wp_region_slots_v 9 7 (0, 0) [[(5, false)], [(63, true)], [(13, false)], [(65, true)], [(64, true), (66, true)], [(67, true)], [(62, true)], [(62, true)], []] (fun w' => Below w8.heap.size w8 w') (fun w' => Below w8.heap.size w8 w') (fun _ w' => Below w8.heap.size w8 w') (fun _ _ => True) (fun d => if d = 64 then some 67 else if d = 66 then some 67 else none) (RQ w8.heap.size 67) (by kernel_rfl) (by kernel_rfl) (by rfl) (Below.refl _ _).drew (by kernel_rfl) (fun _ => trivial) (fun _ => trivial) (by kernel_rfl) (fun _ _ _ _ _ _ _ _ => trivial) (onlyB_of (by kernel_rfl)) (fun d f w w' h1 h2 => rq_step h1 h1.size h2) (fun _ _ _ h => h) (fun _ _ _ h => h) ?_
    apply slotU_eq
    · intro ρ w' ⟨p1, p2, p3⟩ hS _ hn
      obtain ⟨-, x0, x1, x2, x3, x4, x5, -⟩ := HSD.out w' (below_step HB8.out HB8.out.size hS)
      simp at hn
      go_simp
      exact ⟨rq_below (by simp) (Below.refl _ _), rfl⟩
    refine slotU_fact (KpF w8.heap.size si cl sq la a n cap t n (findW ws)) (lastsU_until (by rfl) (lasts_kp _ _ _ _ _ _ _ _ _ _ _)) ?_ ?_
    · intro ρ w' ⟨p1, p2, p3⟩ hS _ hn
      simp at hn
      go_simp
      exact got_call (HKO2.out w' hS) fun e w'' ⟨b6, he, hle, hreg, hb⟩ => ⟨_, he, rq_below (by simp) hb, b6, rfl, Nat.le_trans hS.size hle, hreg.away hb hle⟩
    apply slotU_eq
    · intro ρ w' ⟨p1, p2, p3⟩ hS _ hn
      obtain ⟨-, y0, y1, y2, y3, y4, y5, y6, -⟩ := HX8.out.below hS HX8.out.lt
      simp at hn
      go_simp
      exact ⟨rq_below (by simp) (Below.refl _ _), rfl⟩
    refine slotU_fact (OneF ⟨key, cl + 1, si, sq + 1, val, de, D⟩) (lastsU_until (by rfl) (lasts_one _)) ?_ ?_
    · intro ρ w' ⟨p1, p2, p3⟩ hS _ hn
      simp at hn
      go_simp
      have hA7 : Below w'.heap.size w' (w'.alloc (.cells #[.int .i64 key, .int .i64 (cl + 1), .int .i64 si, .int .i64 (sq + 1), .int .i64 val, .bool de, .slice ad dl cd] 33)) := (Below.refl _ _).alloc (Nat.le_refl _) _
      refine ⟨rq_below (by simp) hA7, w'.heap.size, rfl, .inr ⟨w'.heap.size, 0, rfl, by simp, fun i hi => ?_⟩⟩
      have e : i = 0 := by simp at hi; omega
      subst e
      refine ⟨ad, cd, ?_, deps0_stay (deps0_stay HO8.out hS) hA7⟩
      have h := heap_alloc_new w' (.cells #[.int .i64 key, .int .i64 (cl + 1), .int .i64 si, .int .i64 (sq + 1), .int .i64 val, .bool de, .slice ad dl cd] 33)
      refine ⟨?_, ?_, ?_, ?_, ?_, ?_, ?_⟩ <;> (rw [cell_of_row _ _ _ _ _ (0, 0) h]; first | rfl | (rw [← HDL.out]; rfl))
    refine slotU_fact (KeF w8.heap.size si cl sq la (t ++ T) (putW ws ⟨key, cl + 1, si, sq + 1, val, de, D⟩)) (lastsU_own (lasts_ke _ _ _ _ _ _ _)) ?_ ?_
    · intro ρ w' ⟨p1, p2, p3⟩ hS _ hn
      simp at hn
      obtain ⟨⟨b6, f64, hb6, hreg⟩, b1, f66, hw1⟩ := hn
      have hsz := hS.size
      go_simp
      exact got_call (HKE.out w' b6 _ (below_step HC8.out HC8.out.size hS) hw1 hreg) fun e w'' ⟨hh, hH⟩ => by
        rcases hh with ⟨h2, -⟩ | ⟨-, a', n', cp', es, he, hl, hm, hr⟩
        · omega
        · exact ⟨_, he, rq_turn ⟨b6, hb6, hreg.isMap, hH⟩, a', n', cp', es, rfl, hl, hm, hr.mono hsz⟩
    refine slotU_fact (KeF w8.heap.size si cl sq la (t ++ T) (putW ws ⟨key, cl + 1, si, sq + 1, val, de, D⟩)) (lastsU_both (lasts_ke _ _ _ _ _ _ _) (turn_ke _ _ _ _ _ _ _ _)) ?_ ?_
    · intro ρ w' ⟨p1, p2, p3⟩ hS _ hn
      simp at hn
      obtain ⟨a', n', cp', es, f67, hl, hm, hr⟩ := hn
      go_simp
      exact ⟨rq_below (by simp) (Below.refl _ _), a', n', cp', es, rfl, hl, hm, hr⟩
    refine slotU_fact (KsF w8.heap.size si cl sq la (t ++ T) (putW ws ⟨key, cl + 1, si, sq + 1, val, de, D⟩)) (lastsU_both (lasts_ks _ _ _ _ _ _ _) (turn_ks _ _ _ _ _ _ _ _)) ?_ ?_
    · intro ρ w' ⟨p1, p2, p3⟩ hS _ hn
      simp at hn
      obtain ⟨a', n', cp', es, f62, hl, hm, hr⟩ := hn
      go_simp
      exact ⟨rq_below (by simp) (Below.refl _ _), a', n', cp', es, rfl, hl, hm, hr⟩
    apply slotU_eq
    · intro ρ w' ⟨p1, p2, p3⟩ hS _ hn
      simp at hn
      obtain ⟨a', n', cp', es, f62, hl, hm, hr⟩ := hn
      go_simp
      exact ⟨rq_below (by simp) (Below.refl _ _), rfl⟩
    refine slotU_fact (ShimF w8.heap.size) (lastsU_both (lasts_shim _) (shim_turn _ _)) ?_ ?_
    · intro ρ w' ⟨p1, p2, p3⟩ hS _ hn
      have hsz := hS.size
      go_simp
      exact ⟨rq_below (by simp) ((Below.refl _ _).alloc (Nat.le_refl _) _), shim_mk w' _ hsz⟩
    refine slotU_end ?_
    intro tv w9 hS
    constructor
    · intro hF
      simp at hF
      obtain ⟨⟨b14, f14, hb14, hbox⟩, f69, ⟨a', n', cp', es, f68, hl, hm, hr⟩, ⟨a62, n62, c62, e62, f62, -⟩, ⟨a67, n67, c67, e67, f67, -⟩, f65, f63⟩ := hF
      simp only [List.take_succ_cons, List.take_zero, List.drop_succ_cons, List.drop_zero, putAll, f14, f69, f68, f62, f67, f65, f63]
      clear f14 f69 f68 f62 f67 f65 f63
      simp only [Act.put, List.setIfInBounds_toArray, List.set_cons_succ, List.set_cons_zero]
      have HOE : Hid (∀ e ∈ es, okW e.x = true) := fun e he => HOA.out _ (by rw [← hm]; exact List.mem_map_of_mem he)
      have hAP := hr.apartS hbox HOE.out
      have hX9 := sbox_zero hbox
      have hH10 : Hole b14 w9 (putS w9 b14 si cl sq la a' n' cp' (t ++ T)) := hole_putS (Hole.refl _ _) _ _ _ _ _ _ _ _
      have hX10 := sbox_putS hX9 si cl sq la a' n' cp' (t ++ T)
      have hR10 := hr.aside hH10 hAP
      have hB10 : Below w8.heap.size w8 (putS w9 b14 si cl sq la a' n' cp' (t ++ T)) := Hole.below hS hH10 hb14 hS.size
      have hK : KeptAt w8 si cl sq la (t ++ T) (putW ws ⟨key, cl + 1, si, sq + 1, val, de, D⟩) (.pointer (some ⟨b14, 0, none⟩)) (putS w9 b14 si cl sq la a' n' cp' (t ++ T)) := ⟨b14, a', n', cp', es, rfl, hb14, hX10, hl, hm, hR10, hAP, hB10⟩
      unfold putS at hK
      have HK := Lib.hid hK
      clear hK hH10 hX10 hR10 hB10 hr hm hl hAP
      obtain ⟨-, v0, v1, v2, v3, v4, v5, vf⟩ := hX9
      unfold shV
      go_wp2_with fail
      go_meet
      exact ⟨rfl, HK.out⟩
    · intro hF
      simp at hF
      obtain ⟨⟨b14, f14, hb14, hbox⟩, ⟨a', n', cp', es, f68, hl, hm, hr⟩, ⟨a62, n62, c62, e62, f62, -⟩, ⟨a67, n67, c67, e67, f67, -⟩, f65, f63⟩ := hF
      simp only [List.take_succ_cons, List.take_zero, List.drop_succ_cons, List.drop_zero, putAll, List.eraseIdx_cons_succ, List.eraseIdx_cons_zero, List.getElem?_cons_succ, List.getElem?_cons_zero, Option.toList_some, List.cons_append, List.nil_append, f14, f68, f62, f67, f65, f63]
      clear f14 f68 f62 f67 f65 f63
      simp only [Act.put, List.setIfInBounds_toArray, List.set_cons_succ, List.set_cons_zero]
      have HOE : Hid (∀ e ∈ es, okW e.x = true) := fun e he => HOA.out _ (by rw [← hm]; exact List.mem_map_of_mem he)
      have hAP := hr.apartS hbox HOE.out
      have hX9 := sbox_zero hbox
      have hH10 : Hole b14 w9 (putS w9 b14 si cl sq la a' n' cp' (t ++ T)) := hole_putS (Hole.refl _ _) _ _ _ _ _ _ _ _
      have hX10 := sbox_putS hX9 si cl sq la a' n' cp' (t ++ T)
      have hR10 := hr.aside hH10 hAP
      have hB10 : Below w8.heap.size w8 (putS w9 b14 si cl sq la a' n' cp' (t ++ T)) := Hole.below hS hH10 hb14 hS.size
      have hK : KeptAt w8 si cl sq la (t ++ T) (putW ws ⟨key, cl + 1, si, sq + 1, val, de, D⟩) (.pointer (some ⟨b14, 0, none⟩)) (putS w9 b14 si cl sq la a' n' cp' (t ++ T)) := ⟨b14, a', n', cp', es, rfl, hb14, hX10, hl, hm, hR10, hAP, hB10⟩
      unfold putS at hK
      have HK := Lib.hid hK
      clear hK hH10 hX10 hR10 hB10 hr hm hl hAP
      obtain ⟨-, v0, v1, v2, v3, v4, v5, vf⟩ := hX9
      unfold shV
      go_wp2_with fail
      go_meet
      exact ⟨rfl, HK.out⟩
  case rest =>
    obtain ⟨rfl, b14, a', n', cp', es, rfl, hb14, hX10, hl, hm, hr, hAP, hB10⟩ := hcut
    have HC10 := Lib.hid (below_step HC8.out HC8.out.size hB10)
    have hY10 := HX8.out.below hB10 HX8.out.lt
    have HD10 := Lib.hid (HD8.out.below hB10)
    have hb8 := HX8.out.lt
    have h10s := hB10.size
    have h8s := HC8.out.size
    have hX11 := ((hX10.set1 (cl + 1)).set2 (sq + 1)).set3 key
    have hH11 : Hole b14 wc (((wc.setCell ⟨b14, 1, none⟩ (.int .i64 (cl + 1))).setCell ⟨b14, 2, none⟩ (.int .i64 (sq + 1))).setCell ⟨b14, 3, none⟩ (.int .i64 key)) := (((Hole.refl _ _).set 1 _).set 2 _).set 3 _
    obtain ⟨-, z0, z1, z2, z3, z4, z5, zf⟩ := hX10
    obtain ⟨-, y0, y1, y2, y3, y4, y5, y6, yf⟩ := hY10
    obtain ⟨W11, hW11⟩ : ∃ W11, (((wc.setCell ⟨b14, 1, none⟩ (.int .i64 (cl + 1))).setCell ⟨b14, 2, none⟩ (.int .i64 (sq + 1))).setCell ⟨b14, 3, none⟩ (.int .i64 key)) = W11 := ⟨_, rfl⟩
    rw [hW11] at hX11 hH11
    go_upto_region 9 with fail
    go_region
    all_goals
      go_upto_region 10 with fail
    have hdr : Below W11.heap.size W11 W11.drew := (Below.refl _ _).drew
    have hXd := hX11.below hdr
    have hYd : RBox W11.drew b key (cl + 1) si (sq + 1) val de ad dl cd := ((HX8.out.below hB10 HX8.out.lt).hole hH11 (by omega)).drew
    have hEd := (hr.aside hH11 hAP).below hdr
    have hDd := (HD10.out.holeD hH11 (.inr hb14)).below hdr
    have hCd : Below W3.heap.size W3 W11.drew := (Hole.below HC10.out hH11 (by omega) HC10.out.size).drew
    have h8d : w8.heap.size ≤ W11.drew.heap.size := by
      show w8.heap.size ≤ W11.heap.size
      have := hH11.size
      omega
    have HL1 := Lib.hid hl
    have HM1 := Lib.hid hm
    clear z0 z1 z2 z3 z4 z5 zf y0 y1 y2 y3 y4 y5 y6 yf hW11 hX11 hH11 hdr hr hAP HC10 hl hm HD10 hB10
    generalize W11.drew = Wd at *
    have hds := hCd.size
    have hRS := HRS.out.below hCd
    have hRW := HRW.out.below hCd HRW.out.lt
    have hP1 := sbox_putS hRS si (cl + 1) (sq + 1) key a' n' cp' (t ++ T)
    have hH1 := hole_putS (Hole.refl (w.heap.size + 1) Wd) si (cl + 1) (sq + 1) key a' n' cp' (t ++ T)
    have hQ1 := hRW.hole hH1 (by omega)
    have hQB := hYd.hole hH1 (by omega)
    obtain ⟨-, z0, z1, z2, z3, z4, z5, zf⟩ := hRS
    obtain ⟨V1, hV1⟩ : ∃ V1, putS Wd (w.heap.size + 1) si (cl + 1) (sq + 1) key a' n' cp' (t ++ T) = V1 := ⟨_, rfl⟩
    rw [hV1] at hP1 hQ1 hH1 hQB
    have hQ2 := hQ1.put7 key (cl + 1) si (sq + 1) val de ad dl cd
    have hH2 : Hole (w.heap.size + 1 + 1) V1 (put7 V1 (w.heap.size + 1 + 1) key (cl + 1) si (sq + 1) val de ad dl cd) := (Hole.refl _ _).put7 _ _ _ _ _ _ _ _ _
    obtain ⟨V2, hV2⟩ : ∃ V2, put7 V1 (w.heap.size + 1 + 1) key (cl + 1) si (sq + 1) val de ad dl cd = V2 := ⟨_, rfl⟩
    rw [hV2] at hQ2 hH2
    have hP2 := hP1.of_block hH2.size (hH2.block _ hP1.lt (by omega))
    have hs1 := hH1.size
    have hs2 := hH2.size
    have hdr : Below V2.heap.size V2 V2.drew := (Below.refl _ _).drew
    have hBE0 : Below w.heap.size w V2 := Hole.below (Hole.below (HB.out.trans (hCd.mono (by omega))) hH1 (by omega) (by omega)) hH2 (by omega) (by omega)
    have HBE : Hid (Below w.heap.size w V2.drew) := below_step hBE0 hBE0.size hdr
    have HEE : Hid (RowG V2.drew w8.heap.size (.slice a' n' cp') es) := ((hEd.holeQ hH1 (by omega)).holeQ hH2 (by omega)).below hdr
    have HDD : Hid (OwnD V2.drew w.heap.size w8.heap.size ad D) := (((hDd.holeD hH1 (.inl (by omega))).holeD hH2 (.inl (by omega))).below hdr).mono (by omega) (Nat.le_refl _)
    have HSZ : Hid (w.heap.size ≤ w8.heap.size ∧ w8.heap.size ≤ V2.drew.heap.size) := ⟨by omega, by show w8.heap.size ≤ V2.heap.size; omega⟩
    have HLP : Hid ((putW ws ⟨key, cl + 1, si, sq + 1, val, de, D⟩).length = n') := by rw [← HM1.out, List.length_map]; exact HL1
    unfold putS at hV1
    unfold put7 at hV2
    obtain ⟨-, u0, u1, u2, u3, u4, u5, u6, uf⟩ := hQ1
    obtain ⟨-, q0, q1, q2, q3, q4, q5, q6, -⟩ := hQ2
    obtain ⟨-, o0, o1, o2, o3, o4, o5, -⟩ := hP2
    obtain ⟨-, k0, k1, k2, k3, k4, k5, k6, kf⟩ := hQB
    obtain ⟨-, x0, x1, x2, x3, x4, x5, xf⟩ := hXd
    obtain ⟨-, y0, y1, y2, y3, y4, y5, y6, yf⟩ := hYd
    clear hP1 hH1 hH2 hRW hs1 hdr hBE0 hEd hDd hCd
    go_region
    all_goals
      go_wp2_with fail
      refine bodyPost_ret (v := .tuple #[shV si (cl + 1) (sq + 1) key a' n' cp' (t ++ T), .agg #[.int .i64 key, .int .i64 (cl + 1), .int .i64 si, .int .i64 (sq + 1), .int .i64 val, .bool de, .slice ad dl cd], .int .i64 0]) (by simp [results, Tryz.results9, shV, go_sem, o0, o1, o2, o3, o4, o5, q0, q1, q2, q3, q4, q5, q6]) rfl ?_
      obtain ⟨a9, c9, n9, e9, hn9, hO9⟩ := HEE.out.ownA HM1.out
      injection e9 with e1 e2 e3
      subst e1
      refine ⟨a', cp', ad, cd, w8.heap.size, gammaG es, ?_, HSZ.out.1, HSZ.out.2, ?_, ?_, HBE.out⟩
      · rw [HGO.out]
        unfold putXs wrOf smV
        simp only
        rw [HLP.out, HLG.out, HDL.out]
      · rw [HGO.out]
        exact HDD.out
      · rw [HGO.out]
        exact hO9

end Go.Proofs.YtbbmpfkijhhemaaGreatDoor

namespace Go.Proofs.YtbbmpfkijhhemaaGreatDoor
open Go.ChangeShapes Go.WideShapes Go.ChangeAt Go.RowKit Go.Joins

theorem RBox.only {w w' : World} {S : Nat → Prop} {b : Nat} {k c s q v : Int} {de : Bool} {x : Option Addr} {len cap : Nat} (h : RBox w b k c s q v de x len cap) (ho : Only S w w') (hn : ¬ S b) : RBox w' b k c s q v de x len cap := h.of_block (by rw [ho.size]; exact Nat.le_refl _) (ho.block b hn)

theorem MarkedA.onlyM {w0 w w' : World} {S : Nat → Prop} {lo hi : Nat} {a : Option Addr} {ws : List Wr} {γ : Nat → Nat} {k : Int} (h : MarkedA w a ws γ k) (hO : OwnA w0 lo hi a ws γ) (ho : Only S w w') (hS : ∀ x, S x → x < lo) : MarkedA w' a ws γ k := by
  rcases h with h | ⟨b, ha, h1, h2, h3⟩
  · exact .inl h
  · rcases hO with hO | ⟨b', ha', hO, -, -⟩
    · exact .inl hO
    · obtain rfl : b' = b := by
        rw [ha] at ha'
        injection ha' with e
        injection e with e
        exact e.symm
      have hb : ¬ S b' := fun h => by have := hS _ h; have := hO.le; omega
      have hg : ∀ i, i < ws.length → 0 < (ws.getD i wz).xs.length → ¬ S (γ i) := fun i hi hp h => by have := hS _ h; have := (hO.deps i hi hp).1; omega
      exact .inr ⟨b', ha, h1.of_blocks (ho.block _ hb) (fun i hi hp => ho.block _ (hg i hi hp)), by rw [ho.size]; exact h2, fun i hi hp => by rw [ho.size]; exact h3 i hi hp⟩

theorem markWrite_all (k0 c0 s0 q0 v0 : Int) (d0 : Bool) (lo hi n cap : Nat) (a : Option Addr) (k : Int) (ds : List Dp) (w : World) (hn : ds.length = n) (hm : n ≤ 1048576) (h0 : 0 ≤ k) (h1 : k ≤ 1099511627776) (h : OwnD w lo hi a ds) :
    Calls Tryz.prog 32 #[.agg #[.int .i64 k0, .int .i64 c0, .int .i64 s0, .int .i64 q0, .int .i64 v0, .bool d0, .slice a n cap], .int .i64 k] w fun e w' => e = .returned (.int .i64 (k + 4 * n)) ∧ MarkedD w' a ds k ∧ ∃ w1, Below w.heap.size w w1 ∧ Only (fun b => lo ≤ b ∧ b < hi) w1 w' := by
  rcases h with h | ⟨g, ha, g1, g2, g3, g4, g5⟩
  · subst h
    have hn0 : n = 0 := by rw [← hn]; rfl
    subst hn0
    refine (markWrite_any k0 c0 s0 q0 v0 d0 a 0 0 cap k (fun _ => undef) w (by omega) h0 h1 (fun h => absurd h (Nat.lt_irrefl 0)) (fun h => absurd h (Nat.lt_irrefl 0)) (fun o ho => by omega) (fun h => absurd h (Nat.lt_irrefl 0))).mono ?_
    rintro e w' ⟨w1, he, -, hb, ho⟩
    exact ⟨he, .inl rfl, w1, hb, ⟨ho.os, ho.tape, ho.output, ho.size, fun b _ => ho.block b (by rintro ⟨h, _⟩; omega), ho.frozen⟩⟩
  · have hc := deps_cellsAre g4
    rw [hn] at hc
    refine (markWrite_any k0 c0 s0 q0 v0 d0 a g n cap k _ w hm h0 h1 (fun _ => g3) (fun _ => ha) hc (fun _ => g5)).mono ?_
    rintro e w' ⟨w1, he, hk, hb, ho⟩
    refine ⟨he, .inr ⟨g, ha, ?_, by rw [hn]; exact hk⟩, w1, hb, ⟨ho.os, ho.tape, ho.output, ho.size, fun b hb => ho.block b (by rintro ⟨_, rfl⟩; exact hb ⟨g1, g2⟩), ho.frozen⟩⟩
    rw [ho.size]
    exact Nat.lt_of_lt_of_le g3 hb.size

theorem heldWrite_all (k0 c0 s0 q0 v0 : Int) (d0 : Bool) (n cap : Nat) (a : Option Addr) (k : Int) (ds : List Dp) (w : World) (hn : ds.length = n) (hm : n ≤ 1048576) (h0 : 0 ≤ k) (h1 : k ≤ 1099511627776) (h : MarkedD w a ds k) :
    Calls Tryz.prog 34 #[.agg #[.int .i64 k0, .int .i64 c0, .int .i64 s0, .int .i64 q0, .int .i64 v0, .bool d0, .slice a n cap], .int .i64 k] w fun e w' => e = .returned (.int .i64 (k + 4 * n)) ∧ Below w.heap.size w w' := by
  rcases h with h | ⟨g, ha, g1, g2⟩
  · subst h
    have hn0 : n = 0 := by rw [← hn]; rfl
    subst hn0
    exact heldWrite_any k0 c0 s0 q0 v0 d0 a 0 0 cap k w (by omega) h0 h1 (fun h => absurd h (Nat.lt_irrefl 0)) (fun h => absurd h (Nat.lt_irrefl 0)) (fun o ho => by omega)
  · rw [hn] at g2
    exact heldWrite_any k0 c0 s0 q0 v0 d0 a g n cap k w hm h0 h1 (fun _ => g1) (fun _ => ha) g2

end Go.Proofs.YtbbmpfkijhhemaaGreatDoor
