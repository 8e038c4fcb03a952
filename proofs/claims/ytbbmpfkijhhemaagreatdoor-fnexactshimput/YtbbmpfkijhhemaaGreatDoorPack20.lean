import Derived.Test.YtbbmpfkijhhemaaGreatDoorPack19
import Derived.Deep.DeepCutAuto
import Derived.RegionTactic
import Derived.ChangeAlike
import Derived.WalkKit
import Derived.Test.YtbbmpfkijhhemaaGreatDoorPack11
namespace Go.Proofs.YtbbmpfkijhhemaaGreatDoor
open Go.ChangeShapes Go.WideShapes Go.ChangeAt Go.RowKit Go.Joins
set_option maxRecDepth 100000
attribute [local go_sem ↓] Go.wp_at_zero Go.wp_at_succ

theorem lines_sz : ∀ (ws : List Wr), (ws.flatMap lineW).length ≤ 401 * ws.length
  | [] => by simp
  | x :: r => by
    have h1 := lines_sz r
    have h2 := text_400 (x := x)
    simp only [List.flatMap_cons, List.length_append, List.length_cons, lineW, List.length_nil] at *
    omega

theorem batchT_sz (ws : List Wr) : (batchT ws).length ≤ 2500 := by
  unfold batchT
  split
  · rename_i h
    have h1 := okWs_len h
    have h2 := lines_sz ws
    have h3 := Lib.itoa_length_le (ws.length : Int) (by omega) (by omega)
    have h5 := crcL_bd (bodyB ws)
    have h4 := Lib.itoa_length_le ((crcL (bodyB ws) : Nat) : Int) (by omega) (by omega)
    have e1 : (bodyB ws).length = 6 + (Lib.itoa (ws.length : Int)).length + 1 + (ws.flatMap lineW).length := by
      unfold bodyB headB
      simp
      omega
    have e2 : (sumB ws).length = 4 + (Lib.itoa ((crcL (bodyB ws) : Nat) : Int)).length := by
      unfold sumB
      simp
      omega
    rw [List.length_append, List.length_append, e1, e2]
    simp only [List.length_cons, List.length_nil]
    omega
  · simp

def FreshWs (B : Nat) (w : World) (a : Option Addr) (ws : List Wr) : Prop := ws = [] ∨ ∃ g cp es, a = some ⟨g, 0, none⟩ ∧ es.map (·.x) = ws ∧ RowEs w B g cp es

def FreshDs (B : Nat) (w : World) (a : Option Addr) (xs : List Dp) : Prop := xs = [] ∨ ∃ cd, RowD w B (.slice a xs.length cd) xs

theorem FreshWs.below {B : Nat} {w w' : World} {a : Option Addr} {ws : List Wr} (h : FreshWs B w a ws) (hb : Below w.heap.size w w') : FreshWs B w' a ws := by
  rcases h with h | ⟨g, cp, es, h1, h2, h3⟩
  · exact .inl h
  · exact .inr ⟨g, cp, es, h1, h2, h3.below hb⟩

theorem FreshWs.hole {B C : Nat} {w w' : World} {a : Option Addr} {ws : List Wr} (h : FreshWs B w a ws) (hh : Hole C w w') (hC : C < B) : FreshWs B w' a ws := by
  rcases h with h | ⟨g, cp, es, h1, h2, h3⟩
  · exact .inl h
  · exact .inr ⟨g, cp, es, h1, h2, h3.holeE hh hC⟩

theorem FreshWs.mono {B B' : Nat} {w : World} {a : Option Addr} {ws : List Wr} (h : FreshWs B w a ws) (hB : B' ≤ B) : FreshWs B' w a ws := by
  rcases h with h | ⟨g, cp, es, h1, h2, h3⟩
  · exact .inl h
  · exact .inr ⟨g, cp, es, h1, h2, h3.monoE hB⟩

theorem FreshWs.isWs {B : Nat} {w : World} {a : Option Addr} {ws : List Wr} (h : FreshWs B w a ws) (hx : Few ws) : IsWs w a ws := by
  rcases h with h | ⟨g, cp, es, h1, h2, h3⟩
  · exact .inl h
  · rw [h1]
    exact h3.isWs h2 hx

theorem FreshDs.below {B : Nat} {w w' : World} {a : Option Addr} {xs : List Dp} (h : FreshDs B w a xs) (hb : Below w.heap.size w w') : FreshDs B w' a xs := by
  rcases h with h | ⟨cd, h⟩
  · exact .inl h
  · exact .inr ⟨cd, h.below hb⟩

theorem FreshDs.hole {B C : Nat} {w w' : World} {a : Option Addr} {xs : List Dp} (h : FreshDs B w a xs) (hh : Hole C w w') (hC : C < B) : FreshDs B w' a xs := by
  rcases h with h | ⟨cd, h⟩
  · exact .inl h
  · exact .inr ⟨cd, h.holeQ hh hC⟩

theorem FreshDs.mono {B B' : Nat} {w : World} {a : Option Addr} {xs : List Dp} (h : FreshDs B w a xs) (hB : B' ≤ B) : FreshDs B' w a xs := by
  rcases h with h | ⟨cd, h⟩
  · exact .inl h
  · exact .inr ⟨cd, h.mono hB⟩

theorem FreshDs.isDeps {B : Nat} {w : World} {a : Option Addr} {xs : List Dp} (h : FreshDs B w a xs) : IsDeps w a xs := by
  rcases h with h | ⟨cd, h⟩
  · exact .inl h
  · obtain ⟨a9, c9, e9, h9⟩ := h.form
    injection e9 with e9 _ _
    rw [e9]
    exact h9.isDeps

def OneF (y : Wr) : Fact := fun v w => ∃ b, v = .slice (some ⟨b, 0, none⟩) 1 1 ∧ IsWs0 w (some ⟨b, 0, none⟩) [y]

theorem lasts_one (y : Wr) : lasts (fun w w' => Below w.heap.size w w') (OneF y) := by
  rintro v w w' ⟨b, h1, h2⟩ hr
  exact ⟨b, h1, h2.below hr⟩

def PutRF (base : Nat) (m : List Wr) : Fact := fun v w => ∃ g cp es L, v = .slice (some ⟨g, 0, none⟩) L cp ∧ es.length = L ∧ es.map (·.x) = m ∧ RowEs w base g cp es

theorem lasts_putr (base : Nat) (m : List Wr) : lasts (fun w w' => Below w.heap.size w w') (PutRF base m) := by
  rintro v w w' ⟨g, cp, es, L, h1, h2, h3, h4⟩ hr
  exact ⟨g, cp, es, L, h1, h2, h3, h4.below hr⟩

def PutBF (base : Nat) (si cl sq la : Int) (t : ByteArray) (m : List Wr) : Fact := fun v w => ∃ g cp es L, v = shV si cl sq la (some ⟨g, 0, none⟩) L cp t ∧ es.length = L ∧ es.map (·.x) = m ∧ RowEs w base g cp es

theorem lasts_putb (base : Nat) (si cl sq la : Int) (t : ByteArray) (m : List Wr) : lasts (fun w w' => Below w.heap.size w w') (PutBF base si cl sq la t m) := by
  rintro v w w' ⟨g, cp, es, L, h1, h2, h3, h4⟩ hr
  exact ⟨g, cp, es, L, h1, h2, h3, h4.below hr⟩

set_option maxHeartbeats 32000000 in
theorem l07Put_any (x : Sm) (a : Option Addr) (cap : Nat) (key val : Int) (de : Bool) (mask : Int) (w : World) (hx : RightS x) (h : IsWs w a x.ws) (hmk : 0 ≤ mask ∧ mask ≤ 63) :
    Calls Tryz.prog 50 #[smV x a cap, .int .i64 key, .int .i64 val, .bool de, .int .i64 mask] w fun e w' =>
      ((putGo x (putWr x key val de mask) = false ∧ e = .returned (.tuple #[smV smz none 0, wrOf wz none 0, .int .i64 2])) ∨ (putGo x (putWr x key val de mask) = true ∧ ∃ a' cp' ad cd, e = .returned (.tuple #[smV (putXs x (putWr x key val de mask)) a' cp', wrOf (putWr x key val de mask) ad cd, .int .i64 0]) ∧ FreshWs w.heap.size w' a' (putW x.ws (putWr x key val de mask)) ∧ FreshDs w.heap.size w' ad (putWr x key val de mask).xs)) ∧ Below w.heap.size w w' := by
  obtain ⟨hmap, hsi, hcl, hsq, hla, hts⟩ := hx
  obtain ⟨D, hD⟩ : ∃ D, D = (putWr x key val de mask).xs := ⟨_, rfl⟩
  have HDE : Hid (putWr x key val de mask = ⟨key, x.cl + 1, x.si, x.sq + 1, val, de, D⟩) := by rw [hD]; exact Lib.hid rfl
  have HDB : Hid (D = becB x.ws (maskL mask x.la)) := by rw [hD]; exact Lib.hid rfl
  rw [HDE.out]
  clear hD
  obtain ⟨si, cl, sq, la, ws, t⟩ := x
  simp only at hmap hsi hcl hsq hla hts h HDB
  clear HDE
  have H := Lib.hid h
  have HMAP := Lib.hid hmap
  have HFW := Lib.hid (ok_few hmap)
  have hn6 := mapOk_len hmap
  clear h hmap
  unfold smV
  simp only
  obtain ⟨n, hnn⟩ : ∃ n, ws.length = n := ⟨_, rfl⟩
  rw [hnn] at hn6
  have HN := Lib.hid hnn
  have HNB := Lib.hid hnn
  clear hnn
  have hshv : shV si cl sq la a ws.length cap t = .agg #[.int .i64 si, .int .i64 cl, .int .i64 sq, .int .i64 la, .slice a n cap, .string t] := by rw [HN.out]; rfl
  rw [hshv]
  clear hshv
  have HB1 : Below w.heap.size w (w.alloc (.cells #[.int .i64 si, .int .i64 cl, .int .i64 sq, .int .i64 la, .slice a n cap, .string t] 26)) := (Below.refl _ _).alloc (Nat.le_refl _) _
  have hz1 : (w.alloc (.cells #[.int .i64 si, .int .i64 cl, .int .i64 sq, .int .i64 la, .slice a n cap, .string t] 26)).heap.size = w.heap.size + 1 := by simp
  have hS1 := SBox.start w si cl sq la a n cap t 26
  obtain ⟨W1, hW1⟩ : ∃ W1, w.alloc (.cells #[.int .i64 si, .int .i64 cl, .int .i64 sq, .int .i64 la, .slice a n cap, .string t] 26) = W1 := ⟨_, rfl⟩
  rw [hW1] at HB1 hz1 hS1
  have hA1 : Below W1.heap.size W1 (W1.alloc (.cells #[.int .i64 0, .int .i64 0, .int .i64 0, .int .i64 0, .slice none 0 0, .string ⟨#[]⟩] 26)) := (Below.refl _ _).alloc (Nat.le_refl _) _
  have HB2 : Below w.heap.size w (W1.alloc (.cells #[.int .i64 0, .int .i64 0, .int .i64 0, .int .i64 0, .slice none 0 0, .string ⟨#[]⟩] 26)) := HB1.alloc (by omega) _
  have hz2 : (W1.alloc (.cells #[.int .i64 0, .int .i64 0, .int .i64 0, .int .i64 0, .slice none 0 0, .string ⟨#[]⟩] 26)).heap.size = w.heap.size + 1 + 1 := by simp [hz1]
  have hR2 : SBox (W1.alloc (.cells #[.int .i64 0, .int .i64 0, .int .i64 0, .int .i64 0, .slice none 0 0, .string ⟨#[]⟩] 26)) (w.heap.size + 1) 0 0 0 0 none 0 0 ⟨#[]⟩ := by have := SBox.start W1 0 0 0 0 none 0 0 ⟨#[]⟩ 26; rw [hz1] at this; exact this
  have hS2 := hS1.below hA1
  obtain ⟨W2, hW2⟩ : ∃ W2, W1.alloc (.cells #[.int .i64 0, .int .i64 0, .int .i64 0, .int .i64 0, .slice none 0 0, .string ⟨#[]⟩] 26) = W2 := ⟨_, rfl⟩
  rw [hW2] at HB2 hz2 hR2 hS2
  have hA2 : Below W2.heap.size W2 (W2.alloc (.cells #[.int .i64 0, .int .i64 0, .int .i64 0, .int .i64 0, .int .i64 0, .bool false, .slice none 0 0] 33)) := (Below.refl _ _).alloc (Nat.le_refl _) _
  have HB3 : Below w.heap.size w (W2.alloc (.cells #[.int .i64 0, .int .i64 0, .int .i64 0, .int .i64 0, .int .i64 0, .bool false, .slice none 0 0] 33)) := HB2.alloc (by omega) _
  have hz3 : (W2.alloc (.cells #[.int .i64 0, .int .i64 0, .int .i64 0, .int .i64 0, .int .i64 0, .bool false, .slice none 0 0] 33)).heap.size = w.heap.size + 1 + 1 + 1 := by simp [hz2]
  have hQ3 : RBox (W2.alloc (.cells #[.int .i64 0, .int .i64 0, .int .i64 0, .int .i64 0, .int .i64 0, .bool false, .slice none 0 0] 33)) (w.heap.size + 1 + 1) 0 0 0 0 0 false none 0 0 := by have := RBox.start W2 0 0 0 0 0 false none 0 0 33; rw [hz2] at this; exact this
  have hS3 := hS2.below hA2
  have hR3 := hR2.below hA2
  obtain ⟨W3, hW3⟩ : ∃ W3, W2.alloc (.cells #[.int .i64 0, .int .i64 0, .int .i64 0, .int .i64 0, .int .i64 0, .bool false, .slice none 0 0] 33) = W3 := ⟨_, rfl⟩
  rw [hW3] at HB3 hz3 hQ3 hS3 hR3
  have HB := Lib.hid HB3
  have HS := Lib.hid hS3
  have HRS := Lib.hid hR3
  have HRW := Lib.hid hQ3
  have HI := Lib.hid (H.out.below HB3)
  clear hA1 hA2 HB1 HB2 HB3 hS1 hS2 hS3 hR2 hR3 hQ3
  go_enter Tryz.func50, Tryz.ntmps50
  go_upto_region 1 with fail
  obtain ⟨cnd, hcnd⟩ : ∃ cnd, cnd = (decide (0 ≤ la) && !bitB mask la) := ⟨_, rfl⟩
  have HCN := Lib.hid hcnd
  clear hcnd
  go_cut [25] (fun s25 wx => s25 = .bool cnd ∧ wx = W3)
  case first =>
    obtain ⟨-, x0, x1, x2, x3, x4, x5, -⟩ := HS.out
    by_cases hl0 : 0 ≤ la
    · obtain ⟨kk, rfl⟩ : ∃ kk : Nat, la = (kk : Int) := ⟨la.toNat, by omega⟩
      have HE : Hid (cnd = !bitB mask (kk : Int)) := by rw [HCN.out]; exact Lib.hid (by simp)
      go_wp2_with fail
      refine (bit7_any mask kk _ hmk.1 (by omega) (by omega)).mono ?_
      rintro e w2 ⟨rfl, hw⟩
      subst w2
      go_wp2_with fail
      go_meet
      exact ⟨by rw [HE.out], rfl⟩
    · have HE : Hid (cnd = false) := by rw [HCN.out]; exact Lib.hid (by simp [hl0])
      go_wp2_with fail
      go_meet
      exact ⟨by rw [HE.out], rfl⟩
  case rest =>
    obtain ⟨rfl, rfl⟩ := hcut
    obtain ⟨M, hM⟩ : ∃ M, M = maskL mask la := ⟨_, rfl⟩
    have hMb := maskL_bd hmk hla.2
    rw [← hM] at hMb HDB
    have HMM := Lib.hid hM
    clear hM
    go_upto_if 25 with fail
    go_cut [4] (fun s4 wx => s4 = .int .i64 M ∧ wx = wc)
    case first =>
      obtain ⟨-, x0, x1, x2, x3, x4, x5, -⟩ := HS.out
      cases cnd
      · have HE : Hid (M = mask) := by
          rw [HMM.out]
          unfold maskL
          have hc := HCN.out
          exact Lib.hid (if_neg (fun h => by rw [decide_eq_true h.1, h.2] at hc; simp at hc))
        go_wp2_with fail
        go_meet
        exact ⟨by rw [HE.out], rfl⟩
      · have hc := HCN.out
        have hl0 : 0 ≤ la := by
          by_cases h : 0 ≤ la
          · exact h
          · rw [decide_eq_false h] at hc
            simp at hc
        have hbf : bitB mask la = false := by
          rw [decide_eq_true hl0] at hc
          simpa using hc.symm
        obtain ⟨kk, rfl⟩ : ∃ kk : Nat, la = (kk : Int) := ⟨la.toNat, by omega⟩
        have HE : Hid (M = mask + 2 ^ kk) := by
          rw [HMM.out]
          unfold maskL
          exact Lib.hid (if_pos ⟨hl0, hbf⟩)
        have hp := pow_six (k := kk) (by omega)
        clear hc hbf
        go_wp2_with fail
        go_meet
        exact ⟨by rw [HE.out], rfl⟩
    case rest =>
      obtain ⟨rfl, rfl⟩ := hcut
      have hzl : w.heap.size + 1 + 1 < wc.heap.size := by omega
      clear hz1 hz2 hz3
      have HSD : Hid (∀ w', Below wc.heap.size wc w' → SBox w' w.heap.size si cl sq la a n cap t) := fun w' hb => HS.out.below hb
      have HCB : Hid (∀ W, Below wc.heap.size wc W → Calls Tryz.prog 106 #[.slice a n cap, .int .i64 M] W fun e w' => ∃ v, e = .returned v ∧ RowD w' W.heap.size v D ∧ Below W.heap.size W w') := fun W hW => by rw [HDB.out]; exact specBecause_any a n cap ws M W HN.out (by omega) HFW.out (HI.out.below hW) (by omega)
      have w1' : IntKind.i64.wrap (cl + 1) = cl + 1 := IntWalk.i64_in _ (by omega)
      have w2' : IntKind.i64.wrap (sq + 1) = sq + 1 := IntWalk.i64_in _ (by omega)
      have hD42 : D.length ≤ 42 := by
        rw [HDB.out]
        unfold becB
        split
        · rename_i h
          have := becL_len h.1 M ws.length
          rwa [List.take_length] at this
        · simp
      clear HCN HMM HDB
      go_wp2_with fail
      refine wp_region_slots 18 [[(1, false)], [(5, false)], [(32, true)], [(33, true)], [(5, false)], [(35, true)], [(5, false)], [(37, true)], [(38, true)], [(34, true), (36, true), (39, true)], [(2, false)], [(3, false)], [(5, false)], [(43, true)], [(4, false)], [(44, true), (45, true)], [(31, true), (40, true), (41, true), (42, true), (46, true)], []] (fun w' => Below wc.heap.size wc w') (fun w w' => Below w.heap.size w w') (by kernel_rfl) (by kernel_rfl) (by rfl) (Below.refl _ _).drew (fun _ _ h hr => below_step h h.size hr) ?_
      iterate 15 (apply slot_eq; · (intro ρ w' ⟨p1, p2, p3⟩ hS hn; obtain ⟨-, x0, x1, x2, x3, x4, x5, -⟩ := HSD.out w' hS; simp at hn; go_simp; exact ⟨Below.refl _ _, rfl⟩))
      refine slot_fact (DepRF wc.heap.size D) (lasts_depr _ _) ?_ ?_
      · intro ρ w' ⟨p1, p2, p3⟩ hS hn
        simp at hn
        go_simp
        exact got_call (HCB.out w' hS) fun e w'' ⟨v, he, hr, hb⟩ => by
          obtain ⟨a1, cp1, rfl, -⟩ := hr.form
          exact ⟨_, he, hb, a1, cp1, rfl, hr.mono hS.size⟩
      refine slot_fact (WrBF wc.heap.size key (cl + 1) si (sq + 1) val de D) (lasts_wrb _ _ _ _ _ _ _ _) ?_ ?_
      · intro ρ w' ⟨p1, p2, p3⟩ hS hn
        simp at hn
        obtain ⟨f31, f40, f41, f42, a1, cp1, f46, hr⟩ := hn
        rw [f46] at hr
        go_simp
        exact ⟨Below.refl _ _, a1, cp1, rfl, hr⟩
      refine slot_fact (WrZF wc.heap.size) (lasts_wrz _) ?_ ?_
      · intro ρ w' ⟨p1, p2, p3⟩ hS hn
        have hsz := hS.size
        go_simp
        exact ⟨(Below.refl _ _).alloc (Nat.le_refl _) _, wrz_mk w' _ hsz⟩
      refine slot_end ?_
      intro tv w5 hS hF
      simp at hF
      obtain ⟨⟨b, f13, hbl, hbox⟩, ⟨ad, cd, f47, hrd⟩, ⟨a46, c46, f46, -⟩, f45, f44, f43, f42, f41, f40, f39, f38, f37, f36, f35, f34, f33, f32, f31⟩ := hF
      simp only [List.take_succ_cons, List.take_zero, List.drop_succ_cons, List.drop_zero, putAll, f13, f47, f46, f45, f44, f43, f42, f41, f40, f39, f38, f37, f36, f35, f34, f33, f32, f31]
      clear f13 f47 f46 f45 f44 f43 f42 f41 f40 f39 f38 f37 f36 f35 f34 f33 f32 f31
      simp only [Act.put, List.setIfInBounds_toArray, List.set_cons_succ, List.set_cons_zero]
      have hne := rowD_apart hbox hrd
      have HX5 := Lib.hid (rbox_zero hbox)
      obtain ⟨W6, hW6⟩ : ∃ W6, put7 w5 b key (cl + 1) si (sq + 1) val de ad D.length cd = W6 := ⟨_, rfl⟩
      have HX6 : Hid (RBox W6 b key (cl + 1) si (sq + 1) val de ad D.length cd) := by rw [← hW6]; exact HX5.out.put7 _ _ _ _ _ _ _ _ _
      have hH6 : Hole b w5 W6 := by rw [← hW6]; exact (Hole.refl _ _).put7 _ _ _ _ _ _ _ _ _
      have HR6 : Hid (RowD W6 wc.heap.size (.slice ad D.length cd) D) := hrd.aside hH6 hne
      have HB6 : Hid (Below wc.heap.size wc W6) := Hole.below hS hH6 hbl hS.size
      have HD6 : Hid (IsDeps W6 ad D) := by
        obtain ⟨a9, c9, e9, h9⟩ := HR6.out.form
        injection e9 with e9 _ _
        rw [e9]
        exact h9.isDeps
      have HO6 : Hid (Deps0 W6 ad D) := by
        rcases HR6.out.2 with ⟨h1, h2⟩ | ⟨g, cp, cur, h1, h2, h3, _⟩
        · exact .inl (List.length_eq_zero_iff.1 h2)
        · obtain ⟨a9, c9, e9, h9⟩ := HR6.out.form
          rcases h9 with h9 | ⟨g9, e8, _, _, h7, h6, _⟩
          · exact .inl h9
          · injection e9 with e9 _ _
            exact .inr ⟨g9, by rw [e9, e8], h7, h6⟩
      obtain ⟨-, y0, y1, y2, y3, y4, y5, y6, yf⟩ := HX5.out
      unfold put7 at hW6
      go_wp2_with fail
      try rw [hW6]
      clear hW6 hH6 y0 y1 y2 y3 y4 y5 y6 yf HX5 hS hbox hrd hne
      generalize hlen : D.length = dl at *
      have HDL := Lib.hid hlen
      clear hlen
      obtain ⟨T, hT⟩ : ∃ T, T = str (batchT [(⟨key, cl + 1, si, sq + 1, val, de, D⟩ : Wr)]) := ⟨_, rfl⟩
      have hTs : T.size ≤ 2500 := by
        rw [hT]
        have := batchT_sz [(⟨key, cl + 1, si, sq + 1, val, de, D⟩ : Wr)]
        simpa [str, ByteArray.size] using this
      have HBT : Hid (∀ W A, IsWs0 W A [(⟨key, cl + 1, si, sq + 1, val, de, D⟩ : Wr)] → Calls Tryz.prog 107 #[.slice A 1 1] W fun e w' => e = .returned (.string T) ∧ Below W.heap.size W w') := fun W A hA => by
        rw [hT]
        exact specBatch_any A 1 1 [(⟨key, cl + 1, si, sq + 1, val, de, D⟩ : Wr)] W rfl (by omega) (fun i hi => by have e : i = 0 := (by simp at hi; omega); subst e; show D.length ≤ 1048576; rw [HDL.out]; omega) hA
      have HTE := Lib.hid hT
      clear hT
      refine wp_region_slots 7 [[(5, false)], [(48, true)], [(13, false)], [(50, true)], [(51, true)], [(49, true), (52, true)], [(53, true)]] (fun w' => Below W6.heap.size W6 w') (fun w w' => Below w.heap.size w w') (by kernel_rfl) (by kernel_rfl) (by rfl) (Below.refl _ _).drew (fun _ _ h hr => below_step h h.size hr) ?_
      iterate 3 (apply slot_eq; · (intro ρ w' ⟨p1, p2, p3⟩ hS hn; obtain ⟨-, x0, x1, x2, x3, x4, x5, -⟩ := HSD.out w' (below_step HB6.out HB6.out.size hS); obtain ⟨-, y0, y1, y2, y3, y4, y5, y6, -⟩ := HX6.out.below hS HX6.out.lt; simp at hn; go_simp; exact ⟨Below.refl _ _, rfl⟩))
      refine slot_fact (OneF ⟨key, cl + 1, si, sq + 1, val, de, D⟩) (lasts_one _) ?_ ?_
      · intro ρ w' ⟨p1, p2, p3⟩ hS hn
        simp at hn
        go_simp
        have hA7 : Below w'.heap.size w' (w'.alloc (.cells #[.int .i64 key, .int .i64 (cl + 1), .int .i64 si, .int .i64 (sq + 1), .int .i64 val, .bool de, .slice ad dl cd] 33)) := (Below.refl _ _).alloc (Nat.le_refl _) _
        refine ⟨hA7, w'.heap.size, rfl, .inr ⟨w'.heap.size, 0, rfl, by simp, fun i hi => ?_⟩⟩
        have e : i = 0 := by simp at hi; omega
        subst e
        refine ⟨ad, cd, ?_, deps0_stay (deps0_stay HO6.out hS) hA7⟩
        have h := heap_alloc_new w' (.cells #[.int .i64 key, .int .i64 (cl + 1), .int .i64 si, .int .i64 (sq + 1), .int .i64 val, .bool de, .slice ad dl cd] 33)
        refine ⟨?_, ?_, ?_, ?_, ?_, ?_, ?_⟩ <;> (rw [cell_of_row _ _ _ _ _ (0, 0) h]; first | rfl | (rw [← HDL.out]; rfl))
      apply slot_eq
      · intro ρ w' ⟨p1, p2, p3⟩ hS hn
        simp at hn
        obtain ⟨b1, f51, hw1⟩ := hn
        go_simp
        exact got_call (HBT.out w' _ hw1) fun e w'' ⟨he, hb⟩ => ⟨_, he, hb, rfl⟩
      apply slot_eq
      · intro ρ w' ⟨p1, p2, p3⟩ hS hn
        simp at hn
        go_simp
        rw [if_neg (by omega)]
        exact ⟨Below.refl _ _, rfl⟩
      iterate 1 (apply slot_eq; · (intro ρ w' ⟨p1, p2, p3⟩ hS hn; simp at hn; go_simp; exact ⟨Below.refl _ _, rfl⟩))
      refine slot_end ?_
      intro tv w7 hS hF
      simp at hF
      obtain ⟨f14, f53, f52, ⟨b51, f51, -⟩, f50, f49, f48⟩ := hF
      simp only [List.take_succ_cons, List.take_zero, List.drop_succ_cons, List.drop_zero, putAll, f14, f53, f52, f51, f50, f49, f48]
      clear f14 f53 f52 f51 f50 f49 f48
      simp only [Act.put, List.setIfInBounds_toArray, List.set_cons_succ, List.set_cons_zero]
      have HB7 := Lib.hid (below_step HB6.out HB6.out.size hS)
      have HX7 := Lib.hid (HX6.out.below hS HX6.out.lt)
      have HD7 := Lib.hid (HD6.out.below hS)
      have HR7 := Lib.hid (HR6.out.below hS)
      clear hS HB6 HX6 HR6 HD6 HO6
      have hts2 : (t ++ T).size = t.size + T.size := ByteArray.size_append
      have hlog : putLog ⟨si, cl, sq, la, ws, t⟩ ⟨key, cl + 1, si, sq + 1, val, de, D⟩ = t ++ T := by rw [HTE.out]; rfl
      have hpg : putGo ⟨si, cl, sq, la, ws, t⟩ ⟨key, cl + 1, si, sq + 1, val, de, D⟩ = (okW ⟨key, cl + 1, si, sq + 1, val, de, D⟩ && decide ((t ++ T).size ≤ 60000)) := by unfold putGo; rw [hlog]
      have HPG := Lib.hid hpg
      have HLG := Lib.hid hlog
      clear hpg hlog
      obtain ⟨L, hL⟩ : ∃ L, L = t ++ T := ⟨_, rfl⟩
      rw [← hL] at HPG HLG hts2
      rw [← hL]
      clear hL
      obtain ⟨r, hr⟩ : ∃ r, okW ⟨key, cl + 1, si, sq + 1, val, de, D⟩ = r := ⟨_, rfl⟩
      rw [hr] at HPG
      have HWK : Hid (∀ W, IsDeps W ad D → Calls Tryz.prog 108 #[.agg #[.int .i64 key, .int .i64 (cl + 1), .int .i64 si, .int .i64 (sq + 1), .int .i64 val, .bool de, .slice ad dl cd]] W fun e w' => e = .returned (.bool r) ∧ Below W.heap.size W w') := fun W hW => by
        have := specWriteOk_is ⟨key, cl + 1, si, sq + 1, val, de, D⟩ r hr ad cd W (by show D.length ≤ 1048576; rw [HDL.out]; omega) hW
        unfold wrOf at this
        simp only at this
        rw [HDL.out] at this
        exact this
      have HRK := Lib.hid hr
      clear hr
      obtain ⟨-, y0, y1, y2, y3, y4, y5, y6, -⟩ := HX7.out
      go_wp2_with fail
      refine (HWK.out _ HD7.out).mono ?_
      rintro e w8 ⟨rfl, hb⟩
      have HB8 := Lib.hid (below_step HB7.out HB7.out.size hb)
      have HX8 := Lib.hid (HX7.out.below hb HX7.out.lt)
      have HD8 := Lib.hid (HD7.out.below hb)
      have HR8 := Lib.hid (HR7.out.below hb)
      clear hb HB7 HX7 HD7 HR7 y0 y1 y2 y3 y4 y5 y6
      cases r
      · have HF : Hid (putGo ⟨si, cl, sq, la, ws, t⟩ ⟨key, cl + 1, si, sq + 1, val, de, D⟩ = false) := by rw [HPG.out]; exact Lib.hid (by simp)
        have h8s := HB8.out.size
        obtain ⟨-, z0, z1, z2, z3, z4, z5, zf⟩ := HRS.out.below HB8.out
        have hRS := HRS.out.below HB8.out
        have hRW := HRW.out.below HB8.out HRW.out.lt
        have hP1 := sbox_putS hRS 0 0 0 0 none 0 0 ⟨#[]⟩
        have hH1 := hole_putS (Hole.refl (w.heap.size + 1) w8) 0 0 0 0 none 0 0 ⟨#[]⟩
        have hQ1 := hRW.hole hH1 (by omega)
        have hQ2 := hQ1.put7 0 0 0 0 0 false none 0 0
        have hH2 : Hole (w.heap.size + 1 + 1) (putS w8 (w.heap.size + 1) 0 0 0 0 none 0 0 ⟨#[]⟩) (put7 (putS w8 (w.heap.size + 1) 0 0 0 0 none 0 0 ⟨#[]⟩) (w.heap.size + 1 + 1) 0 0 0 0 0 false none 0 0) := (Hole.refl _ _).put7 _ _ _ _ _ _ _ _ _
        have hP2 := hP1.of_block hH2.size (hH2.block _ hP1.lt (by omega))
        have HBE : Hid (Below w.heap.size w (put7 (putS w8 (w.heap.size + 1) 0 0 0 0 none 0 0 ⟨#[]⟩) (w.heap.size + 1 + 1) 0 0 0 0 0 false none 0 0)) := Hole.below (Hole.below (HB.out.trans (HB8.out.mono (by omega))) hH1 (by omega) (by omega)) hH2 (by omega) (by have := hH1.size; omega)
        obtain ⟨V1, hV1⟩ : ∃ V1, putS w8 (w.heap.size + 1) 0 0 0 0 none 0 0 ⟨#[]⟩ = V1 := ⟨_, rfl⟩
        rw [hV1] at hP1 hQ1 hQ2 hP2 HBE
        obtain ⟨V2, hV2⟩ : ∃ V2, put7 V1 (w.heap.size + 1 + 1) 0 0 0 0 0 false none 0 0 = V2 := ⟨_, rfl⟩
        rw [hV2] at hQ2 hP2 HBE
        unfold putS at hV1
        unfold put7 at hV2
        obtain ⟨-, u0, u1, u2, u3, u4, u5, u6, uf⟩ := hQ1
        obtain ⟨-, q0, q1, q2, q3, q4, q5, q6, -⟩ := hQ2
        obtain ⟨-, o0, o1, o2, o3, o4, o5, -⟩ := hP2
        clear hRS hRW hP1 hH1 hH2
        go_wp2_with fail
        exact bodyPost_ret (v := .tuple #[smV smz none 0, wrOf wz none 0, .int .i64 2]) (by simp [results, Tryz.results50, smV, smz, shV, wrOf, wz, go_sem, o0, o1, o2, o3, o4, o5, q0, q1, q2, q3, q4, q5, q6]) rfl ⟨.inl ⟨HF.out, rfl⟩, HBE.out⟩
      by_cases hbig : L.size ≤ 60000
      rotate_left
      · have HF : Hid (putGo ⟨si, cl, sq, la, ws, t⟩ ⟨key, cl + 1, si, sq + 1, val, de, D⟩ = false) := by rw [HPG.out, decide_eq_false hbig]; exact Lib.hid (by simp)
        have hbig' : (60000 : Int) < (L.size : Int) := by omega
        have h8s := HB8.out.size
        obtain ⟨-, z0, z1, z2, z3, z4, z5, zf⟩ := HRS.out.below HB8.out
        have hRS := HRS.out.below HB8.out
        have hRW := HRW.out.below HB8.out HRW.out.lt
        have hP1 := sbox_putS hRS 0 0 0 0 none 0 0 ⟨#[]⟩
        have hH1 := hole_putS (Hole.refl (w.heap.size + 1) w8) 0 0 0 0 none 0 0 ⟨#[]⟩
        have hQ1 := hRW.hole hH1 (by omega)
        have hQ2 := hQ1.put7 0 0 0 0 0 false none 0 0
        have hH2 : Hole (w.heap.size + 1 + 1) (putS w8 (w.heap.size + 1) 0 0 0 0 none 0 0 ⟨#[]⟩) (put7 (putS w8 (w.heap.size + 1) 0 0 0 0 none 0 0 ⟨#[]⟩) (w.heap.size + 1 + 1) 0 0 0 0 0 false none 0 0) := (Hole.refl _ _).put7 _ _ _ _ _ _ _ _ _
        have hP2 := hP1.of_block hH2.size (hH2.block _ hP1.lt (by omega))
        have HBE : Hid (Below w.heap.size w (put7 (putS w8 (w.heap.size + 1) 0 0 0 0 none 0 0 ⟨#[]⟩) (w.heap.size + 1 + 1) 0 0 0 0 0 false none 0 0)) := Hole.below (Hole.below (HB.out.trans (HB8.out.mono (by omega))) hH1 (by omega) (by omega)) hH2 (by omega) (by have := hH1.size; omega)
        obtain ⟨V1, hV1⟩ : ∃ V1, putS w8 (w.heap.size + 1) 0 0 0 0 none 0 0 ⟨#[]⟩ = V1 := ⟨_, rfl⟩
        rw [hV1] at hP1 hQ1 hQ2 hP2 HBE
        obtain ⟨V2, hV2⟩ : ∃ V2, put7 V1 (w.heap.size + 1 + 1) 0 0 0 0 0 false none 0 0 = V2 := ⟨_, rfl⟩
        rw [hV2] at hQ2 hP2 HBE
        unfold putS at hV1
        unfold put7 at hV2
        obtain ⟨-, u0, u1, u2, u3, u4, u5, u6, uf⟩ := hQ1
        obtain ⟨-, q0, q1, q2, q3, q4, q5, q6, -⟩ := hQ2
        obtain ⟨-, o0, o1, o2, o3, o4, o5, -⟩ := hP2
        clear hRS hRW hP1 hH1 hH2
        go_wp2_with fail
        exact bodyPost_ret (v := .tuple #[smV smz none 0, wrOf wz none 0, .int .i64 2]) (by simp [results, Tryz.results50, smV, smz, shV, wrOf, wz, go_sem, o0, o1, o2, o3, o4, o5, q0, q1, q2, q3, q4, q5, q6]) rfl ⟨.inl ⟨HF.out, rfl⟩, HBE.out⟩
      have HF : Hid (putGo ⟨si, cl, sq, la, ws, t⟩ ⟨key, cl + 1, si, sq + 1, val, de, D⟩ = true) := by rw [HPG.out, decide_eq_true hbig]; exact Lib.hid (by simp)
      have hbig' : ¬ (60000 : Int) < (L.size : Int) := by omega
      have h8s := HB8.out.size
      have h8b := HX8.out.lt
      have HPT : Hid (∀ W, Below w8.heap.size w8 W → Calls Tryz.prog 109 #[.slice a n cap, .agg #[.int .i64 key, .int .i64 (cl + 1), .int .i64 si, .int .i64 (sq + 1), .int .i64 val, .bool de, .slice ad dl cd]] W fun e w' => ∃ g cp es L, e = .returned (.slice (some ⟨g, 0, none⟩) L cp) ∧ es.length = L ∧ es.map (·.x) = putW ws ⟨key, cl + 1, si, sq + 1, val, de, D⟩ ∧ RowEs w' (W.heap.size + 1) g cp es ∧ Below W.heap.size W w') := fun W hW => by
        have := put_gen a n cap ws ⟨key, cl + 1, si, sq + 1, val, de, D⟩ ad cd W HN.out (by omega) HFW.out (HI.out.below (below_step HB8.out HB8.out.size hW)) (by show D.length ≤ 1048576; rw [HDL.out]; omega) (HD8.out.below hW)
        unfold wrOf at this
        simp only at this
        rw [HDL.out] at this
        exact this
      have HOA : Hid (∀ z ∈ putW ws ⟨key, cl + 1, si, sq + 1, val, de, D⟩, okW z = true) := fun z hz => by
        rcases putW_mem ((mapOk_iff ws).1 HMAP.out).2 hz with h | h
        · rw [h]; exact HRK.out
        · exact ((mapOk_iff ws).1 HMAP.out).1 z h
      have HFP : Hid (Few (putW ws ⟨key, cl + 1, si, sq + 1, val, de, D⟩)) := fun i hi => by
        have := okW_len (HOA.out ((putW ws ⟨key, cl + 1, si, sq + 1, val, de, D⟩).getD i wz) (by simp [List.getD, hi]))
        omega
      go_wp2_with fail
      refine wp_region_slots 16 [[(5, false)], [(64, true)], [(13, false)], [(66, true)], [(67, true)], [(13, false)], [(69, true)], [(70, true)], [(1, false)], [(5, false)], [(73, true)], [(13, false)], [(74, true), (75, true)], [(14, false)], [(65, true), (68, true), (71, true), (72, true), (76, true), (77, true)], []] (fun w' => Below w8.heap.size w8 w') (fun w w' => Below w.heap.size w w') (by kernel_rfl) (by kernel_rfl) (by rfl) (Below.refl _ _).drew (fun _ _ h hr => below_step h h.size hr) ?_
      iterate 12 (apply slot_eq; · (intro ρ w' ⟨p1, p2, p3⟩ hS hn; obtain ⟨-, x0, x1, x2, x3, x4, x5, -⟩ := HSD.out w' (below_step HB8.out HB8.out.size hS); obtain ⟨-, y0, y1, y2, y3, y4, y5, y6, -⟩ := HX8.out.below hS HX8.out.lt; simp at hn; go_simp; exact ⟨Below.refl _ _, rfl⟩))
      refine slot_fact (PutRF w8.heap.size (putW ws ⟨key, cl + 1, si, sq + 1, val, de, D⟩)) (lasts_putr _ _) ?_ ?_
      · intro ρ w' ⟨p1, p2, p3⟩ hS hn
        simp at hn
        go_simp
        exact got_call (HPT.out w' hS) fun e w'' ⟨g, cp, es, L', he, hl, hm, hr, hb⟩ => ⟨_, he, hb, g, cp, es, L', rfl, hl, hm, hr.mono (Nat.le_trans hS.size (Nat.le_succ _))⟩
      iterate 1 (apply slot_eq; · (intro ρ w' ⟨p1, p2, p3⟩ hS hn; simp at hn; go_simp; exact ⟨Below.refl _ _, rfl⟩))
      refine slot_fact (PutBF w8.heap.size si (cl + 1) (sq + 1) key L (putW ws ⟨key, cl + 1, si, sq + 1, val, de, D⟩)) (lasts_putb _ _ _ _ _ _ _) ?_ ?_
      · intro ρ w' ⟨p1, p2, p3⟩ hS hn
        simp at hn
        obtain ⟨f65, f68, f71, f72, ⟨g, cp, es, L', f76, hl, hm, hr⟩, f77⟩ := hn
        go_simp
        exact ⟨Below.refl _ _, g, cp, es, L', rfl, hl, hm, hr⟩
      refine slot_fact (ShimF w8.heap.size) (lasts_shim _) ?_ ?_
      · intro ρ w' ⟨p1, p2, p3⟩ hS hn
        have hsz := hS.size
        go_simp
        exact ⟨(Below.refl _ _).alloc (Nat.le_refl _) _, shim_mk w' _ hsz⟩
      refine slot_end ?_
      intro tv w9 hS hF
      simp at hF
      obtain ⟨⟨b15, f15, hb15, hbox⟩, ⟨g, cp, es, L', f78, hl, hm, hr⟩, f77, ⟨g2, cp2, es2, L2, f76, -, -, -⟩, f75, f74, f73, f72, f71, f70, f69, f68, f67, f66, f65, f64⟩ := hF
      simp only [List.take_succ_cons, List.take_zero, List.drop_succ_cons, List.drop_zero, putAll, f15, f78, f77, f76, f75, f74, f73, f72, f71, f70, f69, f68, f67, f66, f65, f64]
      clear f15 f78 f77 f76 f75 f74 f73 f72 f71 f70 f69 f68 f67 f66 f65 f64
      simp only [Act.put, List.setIfInBounds_toArray, List.set_cons_succ, List.set_cons_zero]
      have HOE : Hid (∀ e ∈ es, okW e.x = true) := fun e he => HOA.out _ (by rw [← hm]; exact List.mem_map_of_mem he)
      have hAP := hr.apartS hbox HOE.out
      have HM := Lib.hid hm
      have HLL := Lib.hid hl
      have HX9 := Lib.hid (sbox_zero hbox)
      obtain ⟨W10, hW10⟩ : ∃ W10, putS w9 b15 si (cl + 1) (sq + 1) key (some ⟨g, 0, none⟩) L' cp L = W10 := ⟨_, rfl⟩
      have HX10 : Hid (SBox W10 b15 si (cl + 1) (sq + 1) key (some ⟨g, 0, none⟩) L' cp L) := by rw [← hW10]; exact sbox_putS HX9.out _ _ _ _ _ _ _ _
      have hH10 : Hole b15 w9 W10 := by rw [← hW10]; exact hole_putS (Hole.refl _ _) _ _ _ _ _ _ _ _
      have HE10 : Hid (RowEs W10 w8.heap.size g cp es) := hr.aside hH10 hAP
      have HB10 : Hid (Below w8.heap.size w8 W10) := Hole.below hS hH10 hb15 hS.size
      have HQ10 : Hid (RBox W10 b key (cl + 1) si (sq + 1) val de ad dl cd) := HX8.out.below HB10.out HX8.out.lt
      have HR10 := Lib.hid (HR8.out.below HB10.out)
      have HC10 := Lib.hid (below_step HB8.out HB8.out.size HB10.out)
      obtain ⟨-, v0, v1, v2, v3, v4, v5, vf⟩ := HX9.out
      unfold putS at hW10
      unfold shV
      go_wp2_with fail
      try rw [hW10]
      clear hW10 hH10 hS hbox hr hm hl hAP v0 v1 v2 v3 v4 v5 vf HX9
      have h10s := HB10.out.size
      have hRS := HRS.out.below HC10.out
      have hRW := HRW.out.below HC10.out HRW.out.lt
      have hP1 := sbox_putS hRS si (cl + 1) (sq + 1) key (some ⟨g, 0, none⟩) L' cp L
      have hH1 := hole_putS (Hole.refl (w.heap.size + 1) W10) si (cl + 1) (sq + 1) key (some ⟨g, 0, none⟩) L' cp L
      have hQ1 := hRW.hole hH1 (by omega)
      have hQB := HQ10.out.hole hH1 (by omega)
      obtain ⟨-, z0, z1, z2, z3, z4, z5, zf⟩ := hRS
      obtain ⟨V1, hV1⟩ : ∃ V1, putS W10 (w.heap.size + 1) si (cl + 1) (sq + 1) key (some ⟨g, 0, none⟩) L' cp L = V1 := ⟨_, rfl⟩
      rw [hV1] at hP1 hQ1 hH1 hQB
      have hQ2 := hQ1.put7 key (cl + 1) si (sq + 1) val de ad dl cd
      have hH2 : Hole (w.heap.size + 1 + 1) V1 (put7 V1 (w.heap.size + 1 + 1) key (cl + 1) si (sq + 1) val de ad dl cd) := (Hole.refl _ _).put7 _ _ _ _ _ _ _ _ _
      obtain ⟨V2, hV2⟩ : ∃ V2, put7 V1 (w.heap.size + 1 + 1) key (cl + 1) si (sq + 1) val de ad dl cd = V2 := ⟨_, rfl⟩
      rw [hV2] at hQ2 hH2
      have hP2 := hP1.of_block hH2.size (hH2.block _ hP1.lt (by omega))
      have hs1 := hH1.size
      have hdr : Below V2.heap.size V2 V2.drew := (Below.refl _ _).drew
      have hBE0 : Below w.heap.size w V2 := Hole.below (Hole.below (HB.out.trans (HC10.out.mono (by omega))) hH1 (by omega) (by omega)) hH2 (by omega) (by omega)
      have HBE : Hid (Below w.heap.size w V2.drew) := below_step hBE0 hBE0.size hdr
      have HEE : Hid (RowEs V2.drew w8.heap.size g cp es) := ((HE10.out.holeE hH1 (by omega)).holeE hH2 (by omega)).below hdr
      have HRR : Hid (RowD V2.drew wc.heap.size (.slice ad dl cd) D) := ((HR10.out.holeQ hH1 (by omega)).holeQ hH2 (by omega)).below hdr
      have HLP : Hid ((putW ws ⟨key, cl + 1, si, sq + 1, val, de, D⟩).length = L') := by rw [← HM.out, List.length_map]; exact HLL
      unfold putS at hV1
      unfold put7 at hV2
      obtain ⟨-, u0, u1, u2, u3, u4, u5, u6, uf⟩ := hQ1
      obtain ⟨-, q0, q1, q2, q3, q4, q5, q6, -⟩ := hQ2
      obtain ⟨-, o0, o1, o2, o3, o4, o5, -⟩ := hP2
      obtain ⟨-, k0, k1, k2, k3, k4, k5, k6, kf⟩ := hQB
      obtain ⟨-, x0, x1, x2, x3, x4, x5, xf⟩ := HX10.out
      obtain ⟨-, y0, y1, y2, y3, y4, y5, y6, yf⟩ := HQ10.out
      clear hP1 hH1 hH2 hRW hs1 hdr hBE0
      go_region
      all_goals
        go_wp2_with fail
        refine bodyPost_ret (v := .tuple #[shV si (cl + 1) (sq + 1) key (some ⟨g, 0, none⟩) L' cp L, .agg #[.int .i64 key, .int .i64 (cl + 1), .int .i64 si, .int .i64 (sq + 1), .int .i64 val, .bool de, .slice ad dl cd], .int .i64 0]) (by simp [results, Tryz.results50, shV, go_sem, o0, o1, o2, o3, o4, o5, q0, q1, q2, q3, q4, q5, q6]) rfl ⟨.inr ⟨HF.out, some ⟨g, 0, none⟩, cp, ad, cd, ?_, .inr ⟨g, cp, es, rfl, HM.out, HEE.out.monoE (by omega)⟩, .inr ⟨cd, by show RowD V2.drew w.heap.size (.slice ad D.length cd) D; rw [HDL.out]; exact HRR.out.mono (by omega)⟩⟩, HBE.out⟩
        unfold putXs wrOf
        simp only
        rw [HLP.out, HLG.out, HDL.out]

end Go.Proofs.YtbbmpfkijhhemaaGreatDoor

namespace Go.Proofs.YtbbmpfkijhhemaaGreatDoor
open Go.ChangeShapes Go.WideShapes Go.ChangeAt Go.RowKit Go.Joins
set_option maxRecDepth 100000
attribute [local go_sem ↓] Go.wp_at_zero Go.wp_at_succ

noncomputable def rightP (x : Sm) (key val : Int) (de : Bool) (mask : Int) : Bool := smOkB x && btw key 0 5 && btw val (-1000000) 1000000 && !(de && decide (val ≠ 0)) && btw mask 0 63

noncomputable def putAns (x : Sm) (key val : Int) (de : Bool) (mask : Int) : Sm × Wr × Int := if rightP x key val de mask = true then (if putGo x (putWr x key val de mask) = true then (putXs x (putWr x key val de mask), putWr x key val de mask, 0) else (smz, wz, 2)) else (smz, wz, 1)

set_option maxHeartbeats 32000000 in
theorem specPut_x (x : Sm) (a : Option Addr) (cap : Nat) (key val : Int) (de : Bool) (mask : Int) (w : World) (hn : x.ws.length ≤ 1048576) (hx : Few x.ws) (ht : x.t.size ≤ 1048576) (h : IsWs w a x.ws) :
    Calls Tryz.prog 10 #[smV x a cap, .int .i64 key, .int .i64 val, .bool de, .int .i64 mask] w fun e w' => ∃ a' cp' ad cd, e = .returned (.tuple #[smV (putAns x key val de mask).1 a' cp', wrOf (putAns x key val de mask).2.1 ad cd, .int .i64 (putAns x key val de mask).2.2]) ∧ FreshWs w.heap.size w' a' (putAns x key val de mask).1.ws ∧ FreshDs w.heap.size w' ad (putAns x key val de mask).2.1.xs ∧ Below w.heap.size w w' := by
  obtain ⟨A, hA⟩ : ∃ A, A = putAns x key val de mask := ⟨_, rfl⟩
  rw [← hA]
  obtain ⟨ok, hok⟩ : ∃ ok, ok = smOkB x := ⟨_, rfl⟩
  have HSP : Hid (∀ W a cap, IsWs W a x.ws → Calls Tryz.prog 26 #[smV x a cap] W fun e w' => e = .returned (.bool ok) ∧ Below W.heap.size W w') := fun W a cap hw => by rw [hok]; exact specOk_x x a cap W hn hx ht hw
  have HPU : Hid (ok = true → 0 ≤ mask ∧ mask ≤ 63 → ∀ W a cap, IsWs W a x.ws → Calls Tryz.prog 50 #[smV x a cap, .int .i64 key, .int .i64 val, .bool de, .int .i64 mask] W fun e w' => ((putGo x (putWr x key val de mask) = false ∧ e = .returned (.tuple #[smV smz none 0, wrOf wz none 0, .int .i64 2])) ∨ (putGo x (putWr x key val de mask) = true ∧ ∃ a' cp' ad cd, e = .returned (.tuple #[smV (putXs x (putWr x key val de mask)) a' cp', wrOf (putWr x key val de mask) ad cd, .int .i64 0]) ∧ FreshWs W.heap.size w' a' (putW x.ws (putWr x key val de mask)) ∧ FreshDs W.heap.size w' ad (putWr x key val de mask).xs)) ∧ Below W.heap.size W w') := fun h1 h2 W a cap hw => l07Put_any x a cap key val de mask W (right_of (by rw [← hok]; exact h1)) hw h2
  have HA : Hid (A = if (ok && btw key 0 5 && btw val (-1000000) 1000000 && !(de && decide (val ≠ 0)) && btw mask 0 63) = true then (if putGo x (putWr x key val de mask) = true then (putXs x (putWr x key val de mask), putWr x key val de mask, 0) else (smz, wz, 2)) else (smz, wz, 1)) := by rw [hA, hok]; exact Lib.hid rfl
  have HW := Lib.hid h
  clear hA hok h hx ht
  obtain ⟨PG, hPG⟩ : ∃ PG, PG = putGo x (putWr x key val de mask) := ⟨_, rfl⟩
  rw [← hPG] at HPU HA
  have hXs : putW x.ws (putWr x key val de mask) = (putXs x (putWr x key val de mask)).ws := rfl
  rw [hXs] at HPU
  obtain ⟨X2, hX2⟩ : ∃ X2, X2 = putXs x (putWr x key val de mask) := ⟨_, rfl⟩
  obtain ⟨Y2, hY2⟩ : ∃ Y2, Y2 = putWr x key val de mask := ⟨_, rfl⟩
  rw [← hX2, ← hY2] at HPU HA
  clear hPG hXs hX2 hY2
  obtain ⟨si, cl, sq, la, ws, t⟩ := x
  unfold smV at HSP HPU ⊢
  simp only at hn HW HSP HPU ⊢
  obtain ⟨n, hnn⟩ : ∃ n, ws.length = n := ⟨_, rfl⟩
  rw [hnn] at hn HSP HPU ⊢
  clear hnn
  unfold shV
  have HB1 : Below w.heap.size w (w.alloc (.cells #[.int .i64 si, .int .i64 cl, .int .i64 sq, .int .i64 la, .slice a n cap, .string t] 26)) := (Below.refl _ _).alloc (Nat.le_refl _) _
  have hz1 : (w.alloc (.cells #[.int .i64 si, .int .i64 cl, .int .i64 sq, .int .i64 la, .slice a n cap, .string t] 26)).heap.size = w.heap.size + 1 := by simp
  have hS1 := SBox.start w si cl sq la a n cap t 26
  obtain ⟨W1, hW1⟩ : ∃ W1, w.alloc (.cells #[.int .i64 si, .int .i64 cl, .int .i64 sq, .int .i64 la, .slice a n cap, .string t] 26) = W1 := ⟨_, rfl⟩
  rw [hW1] at HB1 hz1 hS1
  have hA1 : Below W1.heap.size W1 (W1.alloc (.cells #[.int .i64 0, .int .i64 0, .int .i64 0, .int .i64 0, .slice none 0 0, .string ⟨#[]⟩] 26)) := (Below.refl _ _).alloc (Nat.le_refl _) _
  have HB2 : Below w.heap.size w (W1.alloc (.cells #[.int .i64 0, .int .i64 0, .int .i64 0, .int .i64 0, .slice none 0 0, .string ⟨#[]⟩] 26)) := HB1.alloc (by omega) _
  have hz2 : (W1.alloc (.cells #[.int .i64 0, .int .i64 0, .int .i64 0, .int .i64 0, .slice none 0 0, .string ⟨#[]⟩] 26)).heap.size = w.heap.size + 1 + 1 := by simp [hz1]
  have hR2 : SBox (W1.alloc (.cells #[.int .i64 0, .int .i64 0, .int .i64 0, .int .i64 0, .slice none 0 0, .string ⟨#[]⟩] 26)) (w.heap.size + 1) 0 0 0 0 none 0 0 ⟨#[]⟩ := by have := SBox.start W1 0 0 0 0 none 0 0 ⟨#[]⟩ 26; rw [hz1] at this; exact this
  have hS2 := hS1.below hA1
  obtain ⟨W2, hW2⟩ : ∃ W2, W1.alloc (.cells #[.int .i64 0, .int .i64 0, .int .i64 0, .int .i64 0, .slice none 0 0, .string ⟨#[]⟩] 26) = W2 := ⟨_, rfl⟩
  rw [hW2] at HB2 hz2 hR2 hS2
  have hA2 : Below W2.heap.size W2 (W2.alloc (.cells #[.int .i64 0, .int .i64 0, .int .i64 0, .int .i64 0, .int .i64 0, .bool false, .slice none 0 0] 33)) := (Below.refl _ _).alloc (Nat.le_refl _) _
  have HB3 : Below w.heap.size w (W2.alloc (.cells #[.int .i64 0, .int .i64 0, .int .i64 0, .int .i64 0, .int .i64 0, .bool false, .slice none 0 0] 33)) := HB2.alloc (by omega) _
  have hz3 : (W2.alloc (.cells #[.int .i64 0, .int .i64 0, .int .i64 0, .int .i64 0, .int .i64 0, .bool false, .slice none 0 0] 33)).heap.size = w.heap.size + 1 + 1 + 1 := by simp [hz2]
  have hQ3 : RBox (W2.alloc (.cells #[.int .i64 0, .int .i64 0, .int .i64 0, .int .i64 0, .int .i64 0, .bool false, .slice none 0 0] 33)) (w.heap.size + 1 + 1) 0 0 0 0 0 false none 0 0 := by have := RBox.start W2 0 0 0 0 0 false none 0 0 33; rw [hz2] at this; exact this
  have hS3 := hS2.below hA2
  have hR3 := hR2.below hA2
  obtain ⟨W3, hW3⟩ : ∃ W3, W2.alloc (.cells #[.int .i64 0, .int .i64 0, .int .i64 0, .int .i64 0, .int .i64 0, .bool false, .slice none 0 0] 33) = W3 := ⟨_, rfl⟩
  rw [hW3] at HB3 hz3 hQ3 hS3 hR3
  have HB := Lib.hid HB3
  have HS := Lib.hid hS3
  have HRS := Lib.hid hR3
  have HRW := Lib.hid hQ3
  have HI := Lib.hid (HW.out.below HB3)
  have hzl : w.heap.size + 1 + 1 < W3.heap.size := by omega
  clear hA1 hA2 HB1 HB2 HB3 hS1 hS2 hR2 hR3 hQ3
  obtain ⟨-, x0, x1, x2, x3, x4, x5, -⟩ := hS3
  go_enter Tryz.func10, Tryz.ntmps10
  go_wp2_with fail
  clear hW1 hW2 hW3 hz1 hz2 hz3 x0 x1 x2 x3 x4 x5
  refine (HSP.out _ a cap HI.out).mono ?_
  rintro e w4 ⟨rfl, hb⟩
  have HB4 := Lib.hid hb
  clear hb
  cases ok
  · have HE : Hid (A = (smz, wz, 1)) := by rw [HA.out]; exact Lib.hid (by simp)
    have hRS := HRS.out.below HB4.out
    have hRW := HRW.out.below HB4.out HRW.out.lt
    have h8s := HB4.out.size
    have hP1 := sbox_putS hRS 0 0 0 0 none 0 0 ⟨#[]⟩
    have hH1 := hole_putS (Hole.refl (w.heap.size + 1) w4) 0 0 0 0 none 0 0 ⟨#[]⟩
    have hQ1 := hRW.hole hH1 (by omega)
    obtain ⟨-, z0, z1, z2, z3, z4, z5, zf⟩ := hRS
    obtain ⟨V1, hV1⟩ : ∃ V1, putS w4 (w.heap.size + 1) 0 0 0 0 none 0 0 ⟨#[]⟩ = V1 := ⟨_, rfl⟩
    rw [hV1] at hP1 hQ1 hH1
    have hQ2 := hQ1.put7 0 0 0 0 0 false none 0 0
    have hH2 : Hole (w.heap.size + 1 + 1) V1 (put7 V1 (w.heap.size + 1 + 1) 0 0 0 0 0 false none 0 0) := (Hole.refl _ _).put7 _ _ _ _ _ _ _ _ _
    obtain ⟨V2, hV2⟩ : ∃ V2, put7 V1 (w.heap.size + 1 + 1) 0 0 0 0 0 false none 0 0 = V2 := ⟨_, rfl⟩
    rw [hV2] at hQ2 hH2
    have hP2 := hP1.of_block hH2.size (hH2.block _ hP1.lt (by omega))
    have hs1 := hH1.size
    have HBE : Hid (Below w.heap.size w V2) := Hole.below (Hole.below (HB.out.trans (HB4.out.mono (by omega))) hH1 (by omega) (by omega)) hH2 (by omega) (by omega)
    unfold putS at hV1
    unfold put7 at hV2
    obtain ⟨-, u0, u1, u2, u3, u4, u5, u6, uf⟩ := hQ1
    obtain ⟨-, q0, q1, q2, q3, q4, q5, q6, -⟩ := hQ2
    obtain ⟨-, o0, o1, o2, o3, o4, o5, -⟩ := hP2
    clear hP1 hH1 hH2 hRW hs1
    go_wp2_with fail
    exact bodyPost_ret (v := .tuple #[smV smz none 0, wrOf wz none 0, .int .i64 1]) (by simp [results, Tryz.results10, smV, smz, shV, wrOf, wz, go_sem, o0, o1, o2, o3, o4, o5, q0, q1, q2, q3, q4, q5, q6]) rfl ⟨none, 0, none, 0, by rw [HE.out]; rfl, by rw [HE.out]; exact .inl rfl, by rw [HE.out]; exact .inl rfl, HBE.out⟩
  go_wp2_with fail
  refine (key_any key _).mono ?_
  rintro e w5 ⟨rfl, hw⟩
  subst w5
  cases hk : btw key 0 5
  · have HE : Hid (A = (smz, wz, 1)) := by rw [HA.out, hk]; exact Lib.hid (by simp)
    clear hk
    have hRS := HRS.out.below HB4.out
    have hRW := HRW.out.below HB4.out HRW.out.lt
    have h8s := HB4.out.size
    have hP1 := sbox_putS hRS 0 0 0 0 none 0 0 ⟨#[]⟩
    have hH1 := hole_putS (Hole.refl (w.heap.size + 1) w4) 0 0 0 0 none 0 0 ⟨#[]⟩
    have hQ1 := hRW.hole hH1 (by omega)
    obtain ⟨-, z0, z1, z2, z3, z4, z5, zf⟩ := hRS
    obtain ⟨V1, hV1⟩ : ∃ V1, putS w4 (w.heap.size + 1) 0 0 0 0 none 0 0 ⟨#[]⟩ = V1 := ⟨_, rfl⟩
    rw [hV1] at hP1 hQ1 hH1
    have hQ2 := hQ1.put7 0 0 0 0 0 false none 0 0
    have hH2 : Hole (w.heap.size + 1 + 1) V1 (put7 V1 (w.heap.size + 1 + 1) 0 0 0 0 0 false none 0 0) := (Hole.refl _ _).put7 _ _ _ _ _ _ _ _ _
    obtain ⟨V2, hV2⟩ : ∃ V2, put7 V1 (w.heap.size + 1 + 1) 0 0 0 0 0 false none 0 0 = V2 := ⟨_, rfl⟩
    rw [hV2] at hQ2 hH2
    have hP2 := hP1.of_block hH2.size (hH2.block _ hP1.lt (by omega))
    have hs1 := hH1.size
    have HBE : Hid (Below w.heap.size w V2) := Hole.below (Hole.below (HB.out.trans (HB4.out.mono (by omega))) hH1 (by omega) (by omega)) hH2 (by omega) (by omega)
    unfold putS at hV1
    unfold put7 at hV2
    obtain ⟨-, u0, u1, u2, u3, u4, u5, u6, uf⟩ := hQ1
    obtain ⟨-, q0, q1, q2, q3, q4, q5, q6, -⟩ := hQ2
    obtain ⟨-, o0, o1, o2, o3, o4, o5, -⟩ := hP2
    clear hP1 hH1 hH2 hRW hs1
    go_wp2_with fail
    exact bodyPost_ret (v := .tuple #[smV smz none 0, wrOf wz none 0, .int .i64 1]) (by simp [results, Tryz.results10, smV, smz, shV, wrOf, wz, go_sem, o0, o1, o2, o3, o4, o5, q0, q1, q2, q3, q4, q5, q6]) rfl ⟨none, 0, none, 0, by rw [HE.out]; rfl, by rw [HE.out]; exact .inl rfl, by rw [HE.out]; exact .inl rfl, HBE.out⟩
  rw [hk] at HA
  go_wp2_with fail
  refine (between_any _ _ _ _).mono ?_
  rintro e w5 ⟨rfl, hw⟩
  subst w5
  cases hv : btw val (-1000000) 1000000
  · have HE : Hid (A = (smz, wz, 1)) := by rw [HA.out, hv]; exact Lib.hid (by simp)
    clear hv
    have hRS := HRS.out.below HB4.out
    have hRW := HRW.out.below HB4.out HRW.out.lt
    have h8s := HB4.out.size
    have hP1 := sbox_putS hRS 0 0 0 0 none 0 0 ⟨#[]⟩
    have hH1 := hole_putS (Hole.refl (w.heap.size + 1) w4) 0 0 0 0 none 0 0 ⟨#[]⟩
    have hQ1 := hRW.hole hH1 (by omega)
    obtain ⟨-, z0, z1, z2, z3, z4, z5, zf⟩ := hRS
    obtain ⟨V1, hV1⟩ : ∃ V1, putS w4 (w.heap.size + 1) 0 0 0 0 none 0 0 ⟨#[]⟩ = V1 := ⟨_, rfl⟩
    rw [hV1] at hP1 hQ1 hH1
    have hQ2 := hQ1.put7 0 0 0 0 0 false none 0 0
    have hH2 : Hole (w.heap.size + 1 + 1) V1 (put7 V1 (w.heap.size + 1 + 1) 0 0 0 0 0 false none 0 0) := (Hole.refl _ _).put7 _ _ _ _ _ _ _ _ _
    obtain ⟨V2, hV2⟩ : ∃ V2, put7 V1 (w.heap.size + 1 + 1) 0 0 0 0 0 false none 0 0 = V2 := ⟨_, rfl⟩
    rw [hV2] at hQ2 hH2
    have hP2 := hP1.of_block hH2.size (hH2.block _ hP1.lt (by omega))
    have hs1 := hH1.size
    have HBE : Hid (Below w.heap.size w V2) := Hole.below (Hole.below (HB.out.trans (HB4.out.mono (by omega))) hH1 (by omega) (by omega)) hH2 (by omega) (by omega)
    unfold putS at hV1
    unfold put7 at hV2
    obtain ⟨-, u0, u1, u2, u3, u4, u5, u6, uf⟩ := hQ1
    obtain ⟨-, q0, q1, q2, q3, q4, q5, q6, -⟩ := hQ2
    obtain ⟨-, o0, o1, o2, o3, o4, o5, -⟩ := hP2
    clear hP1 hH1 hH2 hRW hs1
    go_wp2_with fail
    exact bodyPost_ret (v := .tuple #[smV smz none 0, wrOf wz none 0, .int .i64 1]) (by simp [results, Tryz.results10, smV, smz, shV, wrOf, wz, go_sem, o0, o1, o2, o3, o4, o5, q0, q1, q2, q3, q4, q5, q6]) rfl ⟨none, 0, none, 0, by rw [HE.out]; rfl, by rw [HE.out]; exact .inl rfl, by rw [HE.out]; exact .inl rfl, HBE.out⟩
  rw [hv] at HA
  by_cases hde : de = true ∧ val ≠ 0
  · obtain ⟨rfl, hv0⟩ := hde
    have HE : Hid (A = (smz, wz, 1)) := by rw [HA.out]; exact Lib.hid (by simp [hv0])
    have hv0' : (val != 0) = true := by simpa using hv0
    have hRS := HRS.out.below HB4.out
    have hRW := HRW.out.below HB4.out HRW.out.lt
    have h8s := HB4.out.size
    have hP1 := sbox_putS hRS 0 0 0 0 none 0 0 ⟨#[]⟩
    have hH1 := hole_putS (Hole.refl (w.heap.size + 1) w4) 0 0 0 0 none 0 0 ⟨#[]⟩
    have hQ1 := hRW.hole hH1 (by omega)
    obtain ⟨-, z0, z1, z2, z3, z4, z5, zf⟩ := hRS
    obtain ⟨V1, hV1⟩ : ∃ V1, putS w4 (w.heap.size + 1) 0 0 0 0 none 0 0 ⟨#[]⟩ = V1 := ⟨_, rfl⟩
    rw [hV1] at hP1 hQ1 hH1
    have hQ2 := hQ1.put7 0 0 0 0 0 false none 0 0
    have hH2 : Hole (w.heap.size + 1 + 1) V1 (put7 V1 (w.heap.size + 1 + 1) 0 0 0 0 0 false none 0 0) := (Hole.refl _ _).put7 _ _ _ _ _ _ _ _ _
    obtain ⟨V2, hV2⟩ : ∃ V2, put7 V1 (w.heap.size + 1 + 1) 0 0 0 0 0 false none 0 0 = V2 := ⟨_, rfl⟩
    rw [hV2] at hQ2 hH2
    have hP2 := hP1.of_block hH2.size (hH2.block _ hP1.lt (by omega))
    have hs1 := hH1.size
    have HBE : Hid (Below w.heap.size w V2) := Hole.below (Hole.below (HB.out.trans (HB4.out.mono (by omega))) hH1 (by omega) (by omega)) hH2 (by omega) (by omega)
    unfold putS at hV1
    unfold put7 at hV2
    obtain ⟨-, u0, u1, u2, u3, u4, u5, u6, uf⟩ := hQ1
    obtain ⟨-, q0, q1, q2, q3, q4, q5, q6, -⟩ := hQ2
    obtain ⟨-, o0, o1, o2, o3, o4, o5, -⟩ := hP2
    clear hP1 hH1 hH2 hRW hs1
    go_wp2_with fail
    exact bodyPost_ret (v := .tuple #[smV smz none 0, wrOf wz none 0, .int .i64 1]) (by simp [results, Tryz.results10, smV, smz, shV, wrOf, wz, go_sem, o0, o1, o2, o3, o4, o5, q0, q1, q2, q3, q4, q5, q6]) rfl ⟨none, 0, none, 0, by rw [HE.out]; rfl, by rw [HE.out]; exact .inl rfl, by rw [HE.out]; exact .inl rfl, HBE.out⟩
  have HA2 : Hid (A = if btw mask 0 63 = true then (if PG = true then (X2, Y2, 0) else (smz, wz, 2)) else (smz, wz, 1)) := by
    rw [HA.out]
    have : (de && decide (val ≠ 0)) = false := by
      cases de
      · rfl
      · simp at hde ⊢
        exact hde
    rw [this]
    exact Lib.hid (by simp)
  have hdv : de = false ∨ (de = true ∧ val = 0) := by
    cases de
    · exact .inl rfl
    · exact .inr ⟨rfl, by simpa using hde⟩
  clear HA hde
  rcases hdv with rfl | ⟨rfl, rfl⟩
  all_goals
    go_wp2_with fail
    refine (between_any _ _ _ _).mono ?_
    rintro e w5 ⟨rfl, hw⟩
    subst w5
    cases hmk : btw mask 0 63
    case' false =>
      have HE : Hid (A = (smz, wz, 1)) := by rw [HA2.out, hmk]; exact Lib.hid (by simp)
      clear hmk
      have hRS := HRS.out.below HB4.out
      have hRW := HRW.out.below HB4.out HRW.out.lt
      have h8s := HB4.out.size
      have hP1 := sbox_putS hRS 0 0 0 0 none 0 0 ⟨#[]⟩
      have hH1 := hole_putS (Hole.refl (w.heap.size + 1) w4) 0 0 0 0 none 0 0 ⟨#[]⟩
      have hQ1 := hRW.hole hH1 (by omega)
      obtain ⟨-, z0, z1, z2, z3, z4, z5, zf⟩ := hRS
      obtain ⟨V1, hV1⟩ : ∃ V1, putS w4 (w.heap.size + 1) 0 0 0 0 none 0 0 ⟨#[]⟩ = V1 := ⟨_, rfl⟩
      rw [hV1] at hP1 hQ1 hH1
      have hQ2 := hQ1.put7 0 0 0 0 0 false none 0 0
      have hH2 : Hole (w.heap.size + 1 + 1) V1 (put7 V1 (w.heap.size + 1 + 1) 0 0 0 0 0 false none 0 0) := (Hole.refl _ _).put7 _ _ _ _ _ _ _ _ _
      obtain ⟨V2, hV2⟩ : ∃ V2, put7 V1 (w.heap.size + 1 + 1) 0 0 0 0 0 false none 0 0 = V2 := ⟨_, rfl⟩
      rw [hV2] at hQ2 hH2
      have hP2 := hP1.of_block hH2.size (hH2.block _ hP1.lt (by omega))
      have hs1 := hH1.size
      have HBE : Hid (Below w.heap.size w V2) := Hole.below (Hole.below (HB.out.trans (HB4.out.mono (by omega))) hH1 (by omega) (by omega)) hH2 (by omega) (by omega)
      unfold putS at hV1
      unfold put7 at hV2
      obtain ⟨-, u0, u1, u2, u3, u4, u5, u6, uf⟩ := hQ1
      obtain ⟨-, q0, q1, q2, q3, q4, q5, q6, -⟩ := hQ2
      obtain ⟨-, o0, o1, o2, o3, o4, o5, -⟩ := hP2
      clear hP1 hH1 hH2 hRW hs1
      go_wp2_with fail
      exact bodyPost_ret (v := .tuple #[smV smz none 0, wrOf wz none 0, .int .i64 1]) (by simp [results, Tryz.results10, smV, smz, shV, wrOf, wz, go_sem, o0, o1, o2, o3, o4, o5, q0, q1, q2, q3, q4, q5, q6]) rfl ⟨none, 0, none, 0, by rw [HE.out]; rfl, by rw [HE.out]; exact .inl rfl, by rw [HE.out]; exact .inl rfl, HBE.out⟩
    case' true =>
      have HMK : Hid (0 ≤ mask ∧ mask ≤ 63) := by simp [btw] at hmk; exact Lib.hid hmk
      rw [hmk] at HA2
      clear hmk
      have HP2 := Lib.hid (HPU.out (by trivial) HMK.out w4 a cap (HI.out.below HB4.out))
      obtain ⟨-, x0, x1, x2, x3, x4, x5, -⟩ := HS.out.below HB4.out
      go_wp2_with fail
      refine HP2.out.mono ?_
      rintro e w5 ⟨hres, hb⟩
      have HRES : Hid (∃ X' Y' c a' cp' ad cd, e = .returned (.tuple #[smV X' a' cp', wrOf Y' ad cd, .int .i64 c]) ∧ FreshWs w4.heap.size w5 a' X'.ws ∧ FreshDs w4.heap.size w5 ad Y'.xs ∧ A = (X', Y', c)) := by
        rcases hres with ⟨h1, rfl⟩ | ⟨h1, a', cp', ad, cd, rfl, h2, h3⟩
        · exact ⟨smz, wz, 2, none, 0, none, 0, rfl, .inl rfl, .inl rfl, by rw [HA2.out, h1]; simp⟩
        · exact ⟨X2, Y2, 0, a', cp', ad, cd, rfl, h2, h3, by rw [HA2.out, h1]; simp⟩
      have HB5 := Lib.hid (below_step HB4.out HB4.out.size hb)
      clear hres hb HP2 x0 x1 x2 x3 x4 x5 HPU HSP HA2
      obtain ⟨X', Y', c, a', cp', ad, cd, rfl, hfw, hfd, hAA⟩ := HRES.out
      have HAA := Lib.hid hAA
      clear hAA HRES
      obtain ⟨s0, s1, s2, s3, s4, s5⟩ := X'
      obtain ⟨r0, r1, r2, r3, r4, r5, r6⟩ := Y'
      simp only at hfw hfd
      unfold smV wrOf
      simp only
      obtain ⟨ln, hln⟩ : ∃ ln, s4.length = ln := ⟨_, rfl⟩
      obtain ⟨ld, hld⟩ : ∃ ld, r6.length = ld := ⟨_, rfl⟩
      rw [hln, hld]
      have HLN := Lib.hid hln
      have HLD := Lib.hid hld
      clear hln hld
      have hRS := HRS.out.below HB5.out
      have hRW := HRW.out.below HB5.out HRW.out.lt
      have h8s := HB5.out.size
      have h4s := HB4.out.size
      have hP1 := sbox_putS hRS s0 s1 s2 s3 a' ln cp' s5
      have hH1 := hole_putS (Hole.refl (w.heap.size + 1) w5) s0 s1 s2 s3 a' ln cp' s5
      have hQ1 := hRW.hole hH1 (by omega)
      obtain ⟨-, z0, z1, z2, z3, z4, z5, zf⟩ := hRS
      obtain ⟨V1, hV1⟩ : ∃ V1, putS w5 (w.heap.size + 1) s0 s1 s2 s3 a' ln cp' s5 = V1 := ⟨_, rfl⟩
      rw [hV1] at hP1 hQ1 hH1
      have hQ2 := hQ1.put7 r0 r1 r2 r3 r4 r5 ad ld cd
      have hH2 : Hole (w.heap.size + 1 + 1) V1 (put7 V1 (w.heap.size + 1 + 1) r0 r1 r2 r3 r4 r5 ad ld cd) := (Hole.refl _ _).put7 _ _ _ _ _ _ _ _ _
      obtain ⟨V2, hV2⟩ : ∃ V2, put7 V1 (w.heap.size + 1 + 1) r0 r1 r2 r3 r4 r5 ad ld cd = V2 := ⟨_, rfl⟩
      rw [hV2] at hQ2 hH2
      have hP2 := hP1.of_block hH2.size (hH2.block _ hP1.lt (by omega))
      have hs1 := hH1.size
      have HBE : Hid (Below w.heap.size w V2) := Hole.below (Hole.below (HB.out.trans (HB5.out.mono (by omega))) hH1 (by omega) (by omega)) hH2 (by omega) (by omega)
      have HFW := Lib.hid (((hfw.hole hH1 (by omega)).hole hH2 (by omega)).mono (B' := w.heap.size) (by omega))
      have HFD := Lib.hid (((hfd.hole hH1 (by omega)).hole hH2 (by omega)).mono (B' := w.heap.size) (by omega))
      unfold putS at hV1
      unfold put7 at hV2
      unfold shV
      obtain ⟨-, u0, u1, u2, u3, u4, u5, u6, uf⟩ := hQ1
      obtain ⟨-, q0, q1, q2, q3, q4, q5, q6, -⟩ := hQ2
      obtain ⟨-, o0, o1, o2, o3, o4, o5, -⟩ := hP2
      clear hP1 hH1 hH2 hRW hs1 hfw hfd
      go_wp2_with fail
      refine bodyPost_ret (v := .tuple #[shV s0 s1 s2 s3 a' ln cp' s5, .agg #[.int .i64 r0, .int .i64 r1, .int .i64 r2, .int .i64 r3, .int .i64 r4, .bool r5, .slice ad ld cd], .int .i64 c]) (by simp [results, Tryz.results10, shV, go_sem, o0, o1, o2, o3, o4, o5, q0, q1, q2, q3, q4, q5, q6]) rfl ⟨a', cp', ad, cd, ?_, ?_, ?_, HBE.out⟩
      · rw [HAA.out]
        simp only [wrOf]
        rw [HLN.out, HLD.out]
        rfl
      · rw [HAA.out]
        exact HFW.out
      · rw [HAA.out]
        exact HFD.out

end Go.Proofs.YtbbmpfkijhhemaaGreatDoor

namespace Go.Proofs.YtbbmpfkijhhemaaGreatDoor
open Go.ChangeShapes Go.WideShapes Go.ChangeAt Go.RowKit Go.Joins
set_option maxRecDepth 100000
attribute [local go_sem ↓] Go.wp_at_zero Go.wp_at_succ

theorem or_nat : ∀ a, a < 64 → ∀ k, k < 6 → (a ||| 2 ^ k : Nat) = if a / 2 ^ k % 2 = 1 then a else a + 2 ^ k := by decide

theorem or_mask {mask : Int} (h : 0 ≤ mask ∧ mask ≤ 63) {k : Nat} (hk : k ≤ 5) : bits .or .i64 mask (2 ^ k) = maskL mask (k : Int) := by
  obtain ⟨a, rfl⟩ := Int.eq_ofNat_of_zero_le h.1
  have ha : a < 64 := by omega
  have hp := pow_six hk
  have e0 : ((2 : Int) ^ k) = ((2 ^ k : Nat) : Int) := by simp
  have h1 := or_nat a ha k (by omega)
  have h2 : (2 ^ k : Nat) ≤ 32 := by rw [e0] at hp; omega
  have hb : bitB ((a : Nat) : Int) (k : Int) = decide (a / 2 ^ k % 2 = 1) := by
    unfold bitB
    have e3 : ((k : Int)).toNat = k := by omega
    rw [e3, e0]
    rw [Bool.eq_iff_iff, decide_eq_true_iff, decide_eq_true_iff]
    omega
  have e1 : (BitVec.ofInt 64 ((a : Nat) : Int)).toNat = a := by
    rw [BitVec.toNat_ofInt]
    omega
  have e2 : (BitVec.ofInt 64 (((2 ^ k : Nat)) : Int)).toNat = 2 ^ k := by
    rw [BitVec.toNat_ofInt]
    generalize (2 ^ k : Nat) = p at *
    omega
  rw [e0]
  show IntKind.i64.wrap ((BitVec.ofInt 64 ((a : Nat) : Int) ||| BitVec.ofInt 64 (((2 ^ k : Nat)) : Int)).toNat : Int) = _
  rw [BitVec.toNat_or, e1, e2, h1]
  unfold maskL
  rw [hb]
  have e3 : ((k : Int)).toNat = k := by omega
  rw [e3, e0]
  by_cases hc : a / 2 ^ k % 2 = 1
  · rw [if_pos hc, if_neg (by simp [hc]), IntKind.wrap_i64]
    omega
  · rw [if_neg hc, if_pos ⟨by omega, by simp [hc]⟩, IntKind.wrap_i64]
    generalize (2 ^ k : Nat) = p at *
    omega

set_option maxHeartbeats 2000000 in
theorem withLast_any (mask la : Int) (w : World) (h : 0 ≤ mask ∧ mask ≤ 63) (hla : -1 ≤ la ∧ la ≤ 5) :
    Calls Tryz.prog 44 #[.int .i64 mask, .int .i64 la] w fun e w' => e = .returned (.int .i64 (maskL mask la)) ∧ w' = w := by
  by_cases h0 : la = -1
  · subst h0
    have HE : Hid (maskL mask (-1) = mask) := by unfold maskL; exact Lib.hid (if_neg (by omega))
    go_enter Tryz.func44, Tryz.ntmps44
    go_wp2
    go_ret
    exact ⟨by rw [HE.out]; rfl, rfl⟩
  · obtain ⟨k, rfl⟩ : ∃ k : Nat, la = (k : Int) := ⟨la.toNat, by omega⟩
    have hk : k ≤ 5 := by omega
    have hp := pow_six hk
    have hor := or_mask h hk
    have k0 : (0 : Int) ≤ (k : Int) := by omega
    have hne : ((k : Int) == -1) = false := by simp
    obtain ⟨M, hM⟩ : ∃ M, M = maskL mask (k : Int) := ⟨_, rfl⟩
    rw [← hM] at hor ⊢
    clear hM h0
    go_enter Tryz.func44, Tryz.ntmps44
    go_wp2
    go_ret
    exact ⟨rfl, rfl⟩

end Go.Proofs.YtbbmpfkijhhemaaGreatDoor
