import Derived.Test.YtbbmpfkijhhemaaGreatDoorPack7
import Derived.Test.YtbbmpfkijhhemaaGreatDoorPack5
import Derived.Test.YtbbmpfkijhhemaaGreatDoorPack18
import Derived.Test.YtbbmpfkijhhemaaGreatDoorPack11
import Derived.Test.YtbbmpfkijhhemaaGreatDoorPack2
import Derived.Lib.RabinKarpLaws
import Derived.Test.YtbbmpfkijhhemaaGreatDoorPack3
import Derived.Test.YtbbmpfkijhhemaaGreatDoorPack12
import Derived.Test.YtbbmpfkijhhemaaGreatDoorPack17
import Derived.Test.YtbbmpfkijhhemaaGreatDoorPack9
import Derived.Test.YtbbmpfkijhhemaaGreatDoorPack10
namespace Go.Proofs.YtbbmpfkijhhemaaGreatDoor
open Go.ChangeShapes Go.WideShapes Go.ChangeAt Go.RowKit Go.Joins

theorem OwnD.below {w w' : World} {lo hi : Nat} {a : Option Addr} {ds : List Dp} (h : OwnD w lo hi a ds) (hb : Below w.heap.size w w') : OwnD w' lo hi a ds := by
  rcases h with h | ⟨g, ha, h1, h2, h3, h4, h5⟩
  · exact .inl h
  · exact .inr ⟨g, ha, h1, h2, Nat.lt_of_lt_of_le h3 hb.size, h4.below hb h3, fun o => (hb.frozen (p := ⟨g, o, none⟩) h3).trans (h5 o)⟩

theorem OwnD.only {w w' : World} {S : Nat → Prop} {lo hi : Nat} {a : Option Addr} {ds : List Dp} (h : OwnD w lo hi a ds) (ho : Only S w w') (hS : ∀ x, S x → x < lo ∨ hi ≤ x) : OwnD w' lo hi a ds := by
  rcases h with h | ⟨g, ha, h1, h2, h3, h4, h5⟩
  · exact .inl h
  · have hb := ho.block g fun hs => by have := hS g hs; omega
    refine .inr ⟨g, ha, h1, h2, by rw [ho.size]; exact h3, fun i hi => ?_, fun o => (ho.frozen _).trans (h5 o)⟩
    have e : ∀ o, w'.cell? ⟨g, o, none⟩ = w.cell? ⟨g, o, none⟩ := fun o => World.cell?_of_block (a := ⟨g, o, none⟩) hb
    obtain ⟨a0, a1, a2, a3⟩ := h4 i hi
    exact ⟨(e _).trans a0, (e _).trans a1, (e _).trans a2, (e _).trans a3⟩

def MarkedD (w : World) (a : Option Addr) (ds : List Dp) (k : Int) : Prop := ds = [] ∨ ∃ g, a = some ⟨g, 0, none⟩ ∧ g < w.heap.size ∧ CellsAre w g (ds.length * 4) (markFn k)

theorem MarkedD.below {w w' : World} {a : Option Addr} {ds : List Dp} {k : Int} (h : MarkedD w a ds k) (hb : Below w.heap.size w w') : MarkedD w' a ds k := by
  rcases h with h | ⟨g, ha, h1, h2⟩
  · exact .inl h
  · exact .inr ⟨g, ha, Nat.lt_of_lt_of_le h1 hb.size, h2.of_block (hb.block g h1)⟩

theorem deps_cellsAre {w : World} {g : Nat} {ds : List Dp} (h : HoldsDeps w g 0 ds) : CellsAre w g (ds.length * 4) (fun o => (w.cell? ⟨g, o, none⟩).getD undef) := fun o ho => by
  obtain ⟨a0, a1, a2, a3⟩ := h (o / 4) (by omega)
  have hs : ∃ v, w.cell? ⟨g, o, none⟩ = some v := by
    have : o = 0 + o / 4 * 4 ∨ o = 0 + o / 4 * 4 + 1 ∨ o = 0 + o / 4 * 4 + 2 ∨ o = 0 + o / 4 * 4 + 3 := by omega
    rcases this with e | e | e | e <;> rw [e]
    · exact ⟨_, a0⟩
    · exact ⟨_, a1⟩
    · exact ⟨_, a2⟩
    · exact ⟨_, a3⟩
  obtain ⟨v, hv⟩ := hs
  show w.cell? ⟨g, o, none⟩ = some ((w.cell? ⟨g, o, none⟩).getD undef)
  rw [hv]
  rfl

end Go.Proofs.YtbbmpfkijhhemaaGreatDoor

namespace Go.Proofs.YtbbmpfkijhhemaaGreatDoor
open Go.ChangeShapes Go.WideShapes Go.ChangeAt Go.RowKit Go.Joins
set_option maxRecDepth 100000
attribute [local go_sem ↓] Go.wp_at_zero Go.wp_at_succ

theorem laterF_len : ∀ (xs out : List Dp), (xs.foldl laterL out).length ≤ out.length + xs.length
  | [], out => by simp
  | d :: r, out => by
    have h1 := laterF_len r (laterL out d)
    have h2 := laterL_len out d
    simp only [List.foldl_cons, List.length_cons]
    omega

theorem becRun_len {x : Wr} (h : x.xs.length ≤ 6) (mask : Int) (out : List Dp) : (becRun mask out x).length ≤ out.length + 7 := by
  unfold becRun
  split
  · have h1 := laterF_len x.xs (laterL out (headD x))
    have h2 := laterL_len out (headD x)
    omega
  · omega

theorem becF_len (mask : Int) : ∀ (ws : List Wr) (out : List Dp), (∀ x ∈ ws, x.xs.length ≤ 6) → (ws.foldl (becRun mask) out).length ≤ out.length + 7 * ws.length
  | [], out, _ => by simp
  | x :: r, out, h => by
    have h1 := becF_len mask r (becRun mask out x) fun y hy => h y (by simp [hy])
    have h2 := becRun_len (h x (by simp)) mask out
    simp only [List.foldl_cons, List.length_cons]
    omega

theorem becL_len {ws : List Wr} (h : mapOkB ws = true) (mask : Int) (k : Nat) : (becL (ws.take k) mask).length ≤ 42 := by
  have hx := ((mapOk_iff ws).1 h).1
  have h1 := becF_len mask (ws.take k) [] fun y hy => okW_len (hx y (List.mem_of_mem_take hy))
  have h2 := mapOk_len h
  have h3 : (ws.take k).length ≤ ws.length := by simp; omega
  unfold becL
  simp only [List.length_nil] at h1
  omega

set_option maxHeartbeats 8000000 in
theorem specBecause_any (a : Option Addr) (n cap : Nat) (ws : List Wr) (mask : Int) (w : World) (hn : ws.length = n) (hm : n ≤ 1048576) (hx : Few ws) (hh : IsWs w a ws) (hM : mask ≤ 9223372036854775807) :
    Calls Tryz.prog 106 #[.slice a n cap, .int .i64 mask] w fun e w' => ∃ v, e = .returned v ∧ RowD w' w.heap.size v (becB ws mask) ∧ Below w.heap.size w w' := by
  have HH := Lib.hid hh
  have HN := Lib.hid hn
  have HX := Lib.hid hx
  clear hh hn hx
  have HB0 : Hid (Below w.heap.size w (w.alloc (.cells #[] 81))) := (Below.refl _ _).alloc (Nat.le_refl _) _
  have HR0 : Hid (RowD (w.alloc (.cells #[] 81)) w.heap.size (.slice (some ⟨w.heap.size, 0, none⟩) 0 0) []) := World.ownsRow_made (e := 81) (size := 4) w #[] 0 (Nat.le_refl _) (by simp [maxLen]) (by simp)
  go_enter Tryz.func106, Tryz.ntmps106
  go_wp2_with fail
  generalize w.alloc (.cells #[] 81) = W0 at *
  refine (specMapOk_gen _ n _ ws _ HN.out hm HX.out (HH.out.below HB0.out)).mono ?_
  rintro e w1 ⟨rfl, hb⟩
  have HB1 := Lib.hid (below_step HB0.out HB0.out.size hb)
  have HR1 := Lib.hid (HR0.out.below hb)
  clear hb HB0 HR0
  by_cases hok : mapOkB ws = true
  rotate_left
  · have hokf : mapOkB ws = false := by simpa using hok
    have HE : Hid (becB ws mask = []) := by unfold becB; rw [if_neg (by simp [hokf])]; exact Lib.hid rfl
    rw [hokf]
    clear hok hokf
    go_wp2
    go_ret
    exact ⟨_, rfl, by rw [HE.out]; exact HR1.out, HB1.out⟩
  by_cases hm0 : mask < 0
  · have HE : Hid (becB ws mask = []) := by unfold becB; rw [if_neg (by omega)]; exact Lib.hid rfl
    rw [hok]
    clear hok
    go_wp2
    go_ret
    exact ⟨_, rfl, by rw [HE.out]; exact HR1.out, HB1.out⟩
  have hm0' : 0 ≤ mask := by omega
  have HE : Hid (becB ws mask = becL ws mask) := by unfold becB; rw [if_pos ⟨hok, hm0'⟩]; exact Lib.hid rfl
  have HLN : Hid (∀ k, (becL (ws.take k) mask).length ≤ 42) := fun k => becL_len hok mask k
  have HOK : Hid (∀ x ∈ ws, okW x = true) := ((mapOk_iff ws).1 hok).1
  rw [hok]
  clear hok
  go_wp2
  go_loopw [5, 6, 7] (fun t i _ wr => ∃ (k : Nat) (v : Value), k ≤ n ∧ i = .int .i64 k ∧ v = t ∧ Hid (RowD wr w.heap.size v (becL (ws.take k) mask)) ∧ Hid (Below w.heap.size w wr)) (fun _ i _ _ => n - (intOf i).toNat)
  case atStart => exact ⟨0, _, Nat.zero_le _, rfl, rfl, HR1, HB1⟩
  case round =>
    clear HR1 HB1
    obtain ⟨k, v, hk, rfl, rfl, HR, HB⟩ := hrel
    by_cases hk' : k < n
    · have hkw : k < ws.length := by rw [HN.out]; exact hk'
      have i1 : (0 : Int) ≤ (k : Int) := by omega
      have i2 : (k : Int) < (n : Int) := by omega
      obtain ⟨b, o, ad, cp, rfl, hz, ⟨e0, e1, e2, e3, e4, e5, e6⟩, hde⟩ := HH.out.at HB.out HN.out hk'
      have HT := Lib.hid (becL_take ws mask k hkw)
      have hok1 := HOK.out (ws.getD k wz) (by simp [List.getD, hkw])
      have hkey := okW_key hok1
      have hxl := okW_len hok1
      have hlk := HLN.out k
      clear hok1
      obtain ⟨zs, hzs⟩ : ∃ zs, zs = becL (ws.take k) mask := ⟨_, rfl⟩
      rw [← hzs] at HT HR hlk
      clear hzs
      generalize ws.getD k wz = x at *
      obtain ⟨xk, xc, xs', xq, xv, xd, xx⟩ := x
      simp only at e0 e1 e2 e3 e4 e5 e6 HT hkey hxl hde
      obtain ⟨kk, rfl⟩ : ∃ kk : Nat, xk = (kk : Int) := ⟨xk.toNat, by omega⟩
      have hk5 : kk ≤ 5 := by omega
      go_wp2_with fail
      refine (bit7_any mask kk _ hm0' hM hk5).mono ?_
      rintro e w2 ⟨rfl, hw⟩
      subst w2
      by_cases hbit : bitB mask (kk : Int) = true
      rotate_left
      · have hbf : bitB mask (kk : Int) = false := by simpa using hbit
        rw [hbf]
        have HR2 : Hid (RowD wr w.heap.size v (becL (ws.take (k + 1)) mask)) := by
          rw [HT.out]
          unfold becRun
          rw [if_neg (by simpa using hbf)]
          exact HR
        clear hbit hbf
        go_wp2
        exact ⟨⟨k + 1, v, by omega, by go_num, rfl, HR2, HB⟩, by simp [intOf]; omega⟩
      rw [hbit]
      have HT2 : Hid (becL (ws.take (k + 1)) mask = xx.foldl laterL (laterL zs ⟨(kk : Int), xc, xs', xq⟩)) := by
        rw [HT.out]
        unfold becRun
        rw [if_pos hbit]
        exact Lib.hid rfl
      clear hbit HT
      obtain ⟨sa, sc, rfl, hs⟩ := HR.out.form
      have HSD : Hid (IsDeps wr sa zs) := hs.isDeps
      have HDE := Lib.hid hde
      clear hs hde HR
      go_wp2_with fail
      refine wp_region_slots 12 [[(5, false)], [(0, false)], [(6, false)], [(32, true), (33, true)], [(34, true)], [(35, true)], [(0, false)], [(6, false)], [(37, true), (38, true)], [(39, true)], [(40, true)], [(36, true), (41, true)]] (fun w' => w' = wr.drew) (fun w w' => w' = w) (by kernel_rfl) (by kernel_rfl) (by rfl) rfl (fun w w' h1 h2 => h2.trans h1) ?_
      iterate 12 (apply slot_eq; · (rintro ρ w' ⟨p1, p2, p3⟩ rfl hn; simp at hn; go_simp; exact ⟨rfl, rfl⟩))
      refine slot_end ?_
      rintro tv w4 rfl hF
      simp at hF
      obtain ⟨f42, f41, f40, f39, f38, f37, f36, f35, f34, f33, f32, f31⟩ := hF
      simp only [List.take_succ_cons, List.take_zero, List.drop_succ_cons, List.drop_zero, putAll, f42, f41, f40, f39, f38, f37, f36, f35, f34, f33, f32, f31]
      clear f42 f41 f40 f39 f38 f37 f36 f35 f34 f33 f32 f31
      simp only [Act.put, List.setIfInBounds_toArray, List.set_cons_succ, List.set_cons_zero]
      go_wp2_with fail
      refine (later_any sa zs.length sc zs ⟨(kk : Int), xc, xs', xq⟩ wr.drew rfl (by omega) HSD.out).mono ?_
      rintro e w5 ⟨v5, rfl, hrow, hb⟩
      have hb' : Below wr.heap.size wr w5 := below_step (Below.refl _ _).drew (Nat.le_refl _) hb
      have HB5 := Lib.hid (below_step HB.out HB.out.size hb')
      have hsw : w.heap.size ≤ wr.heap.size := HB.out.size
      have HR5 : Hid (RowD w5 w.heap.size v5 (laterL zs ⟨(kk : Int), xc, xs', xq⟩)) := hrow.mono hsw
      have HDE5 := Lib.hid (HDE.out.below hb')
      have hl5 := laterL_len zs ⟨(kk : Int), xc, xs', xq⟩
      have hz5 : b < w5.heap.size := Nat.lt_of_lt_of_le hz hb'.size
      have HBW : Hid (Below wr.heap.size wr w5) := hb'
      clear hb hb' hrow HSD HDE
      generalize laterL zs ⟨(kk : Int), xc, xs', xq⟩ = ys at *
      obtain ⟨W1, hW1⟩ : ∃ W1, W1 = wr := ⟨wr, rfl⟩
      rw [← hW1] at e0 e1 e2 e3 e4 e5 e6 HBW HB hz
      clear hW1
      have HC6 : Hid (∀ w', Below W1.heap.size W1 w' → w'.cell? ⟨b, o + k * 7 + 6, none⟩ = some (.slice ad xx.length cp)) := fun w' hb => (World.cell?_of_block (hb.block b hz)).trans e6
      clear e0 e1 e2 e3 e4 e5 e6
      go_wp2
      go_loopw [5, 7] (fun t j wr => ∃ (p : Nat) (u : Value), p ≤ xx.length ∧ j = .int .i64 p ∧ u = t ∧ Hid (RowD wr w.heap.size u ((xx.take p).foldl laterL ys)) ∧ Hid (Below w.heap.size w wr) ∧ Hid (Below W1.heap.size W1 wr) ∧ Hid (IsDeps wr ad xx)) (fun _ j _ => xx.length - (intOf j).toNat)
      case atStart => exact ⟨0, _, Nat.zero_le _, rfl, rfl, HR5, HB5, HBW, HDE5⟩
      case round =>
        clear HR5 HB5 HBW HDE5 hz5
        obtain ⟨p, u, hp, rfl, rfl, HR5, HB5, HBW, HDE5⟩ := hrel
        have c6 := HC6.out wr HBW.out
        have hz5 : b < wr.heap.size := Nat.lt_of_lt_of_le hz HBW.out.size
        by_cases hp' : p < xx.length
        · have j1 : (0 : Int) ≤ (p : Int) := by omega
          have j2 : (p : Int) < (xx.length : Int) := by omega
          obtain ⟨b', o', rfl, hz', d0, d1, d2, d3⟩ := HDE5.out.at (Below.refl _ _) hp'
          have HT3 := Lib.hid (laterF_take xx ys p hp')
          have hlf := laterF_len (xx.take p) ys
          have hlt : (xx.take p).length ≤ 6 := by simp; omega
          obtain ⟨us, hus⟩ : ∃ us, us = (xx.take p).foldl laterL ys := ⟨_, rfl⟩
          rw [← hus] at HT3 HR5 hlf
          clear hus
          generalize xx.getD p dz = d at *
          obtain ⟨dk, dc, ds, dq⟩ := d
          simp only at d0 d1 d2 d3
          obtain ⟨ua, uc, rfl, hu⟩ := HR5.out.form
          have HSD : Hid (IsDeps wr ua us) := hu.isDeps
          clear hu
          go_wp2_with fail
          refine (later_any ua us.length uc us ⟨dk, dc, ds, dq⟩ _ rfl (by omega) HSD.out).mono ?_
          rintro e w6 ⟨v6, rfl, hrow, hb⟩
          have HB6 := Lib.hid (below_step HB5.out HB5.out.size hb)
          have HBW6 := Lib.hid (below_step HBW.out HBW.out.size hb)
          have hsw6 : w.heap.size ≤ wr.heap.size := HB5.out.size
          have HR6 : Hid (RowD w6 w.heap.size v6 ((xx.take (p + 1)).foldl laterL ys)) := by
            rw [HT3.out]
            exact hrow.mono hsw6
          have HDE6 := Lib.hid (HDE5.out.below hb)
          clear hb hrow
          go_wp2
          exact ⟨⟨p + 1, v6, by omega, by go_num, rfl, HR6, HB6, HBW6, HDE6⟩, by simp [intOf]; omega⟩
        · have hpp : p = xx.length := by omega
          subst hpp
          rw [List.take_length, ← HT2.out] at HR5
          go_wp2
          exact ⟨⟨k + 1, _, by omega, by go_num, rfl, HR5, HB5⟩, by simp [intOf]; omega⟩
    · have hkk : k = n := by omega
      subst hkk
      have e : ws.take k = ws := List.take_of_length_le (by rw [HN.out]; exact Nat.le_refl _)
      rw [e] at HR
      go_wp2
      go_ret
      exact ⟨_, rfl, by rw [HE.out]; exact HR.out, HB.out⟩

end Go.Proofs.YtbbmpfkijhhemaaGreatDoor

namespace Go.Proofs.YtbbmpfkijhhemaaGreatDoor
open Go.ChangeShapes Go.WideShapes Go.ChangeAt Go.RowKit Go.Joins
set_option maxRecDepth 100000
attribute [local go_sem ↓] Go.wp_at_zero Go.wp_at_succ

def IsDepsX (b : Nat) (w : World) (a : Option Addr) (xs : List Dp) : Prop := xs = [] ∨ ∃ g o, a = some ⟨g, o, none⟩ ∧ g ≠ b ∧ g < w.heap.size ∧ HoldsDeps w g o xs

def IsWsX (b : Nat) (w : World) (a : Option Addr) (ws : List Wr) : Prop :=
  ws = [] ∨ ∃ g o, a = some ⟨g, o, none⟩ ∧ g ≠ b ∧ g < w.heap.size ∧ ∀ i, i < ws.length → ∃ a' cap, WrAt w g (o + i * 7) (ws.getD i wz) a' cap ∧ IsDepsX b w a' (ws.getD i wz).xs

theorem holdsDeps_block {w w' : World} {g o : Nat} {xs : List Dp} (h : HoldsDeps w g o xs) (hb : w'.heap[g]? = w.heap[g]?) : HoldsDeps w' g o xs := fun i hi => by
  have e : ∀ o, w'.cell? ⟨g, o, none⟩ = w.cell? ⟨g, o, none⟩ := fun o => World.cell?_of_block (a := ⟨g, o, none⟩) hb
  obtain ⟨a0, a1, a2, a3⟩ := h i hi
  exact ⟨(e _).trans a0, (e _).trans a1, (e _).trans a2, (e _).trans a3⟩

theorem IsDepsX.now {b : Nat} {w w' : World} {a : Option Addr} {xs : List Dp} (h : IsDepsX b w a xs) (hg : w.grownBy w' (some b)) : IsDeps w' a xs := by
  rcases h with h | ⟨g, o, ha, hne, hlt, hh⟩
  · exact .inl h
  · exact .inr ⟨g, o, ha, Nat.lt_of_lt_of_le hlt hg.size, holdsDeps_block hh (hg.block g hlt (by simpa using hne))⟩

theorem IsDeps.away {b : Nat} {w : World} {a : Option Addr} {xs : List Dp} (h : IsDeps w a xs) {w' : World} (hb : Below w.heap.size w w') (hB : w.heap.size ≤ b) : IsDepsX b w' a xs := by
  rcases h with h | ⟨g, o, ha, hlt, hh⟩
  · exact .inl h
  · exact .inr ⟨g, o, ha, by omega, Nat.lt_of_lt_of_le hlt hb.size, hh.below hb hlt⟩

theorem IsWs.away {b : Nat} {w : World} {a : Option Addr} {ws : List Wr} (h : IsWs w a ws) {w' : World} (hb : Below w.heap.size w w') (hB : w.heap.size ≤ b) : IsWsX b w' a ws := by
  rcases h with h | ⟨g, o, ha, hlt, hh⟩
  · exact .inl h
  · refine .inr ⟨g, o, ha, by omega, Nat.lt_of_lt_of_le hlt hb.size, fun i hi => ?_⟩
    obtain ⟨a', cap, h1, _, h3⟩ := hh i hi
    exact ⟨a', cap, h1.of_block (hb.block _ hlt), h3.away hb hB⟩

theorem IsWsX.base {b : Nat} {w w' : World} {a : Option Addr} {ws : List Wr} (h : IsWsX b w a ws) (hb : w.grownBy w' (some b)) {k n : Nat} (hn : ws.length = n) (hk : k < n) :
    ∃ g o a' cap, a = some ⟨g, o, none⟩ ∧ g < w'.heap.size ∧ WrAt w' g (o + k * 7) (ws.getD k wz) a' cap ∧ IsDepsX b w a' (ws.getD k wz).xs := by
  rcases h with h | ⟨g, o, ha, hne, hlt, hh⟩
  · subst h
    simp at hn
    omega
  · obtain ⟨a', cap, h1, h3⟩ := hh k (by omega)
    exact ⟨g, o, a', cap, ha, Nat.lt_of_lt_of_le hlt hb.size, h1.of_block (hb.block g hlt (by simpa using hne)), h3⟩

theorem RowG.away {b base : Nat} {w : World} {v : Value} {es : List EnG} (h : RowG w base v es) (hB : b < base) {ws : List Wr} (hw : es.map (·.x) = ws) (hl : ∀ x ∈ ws, x.xs.length ≤ 1048576) : ∃ a cap, v = .slice a ws.length cap ∧ IsWsX b w a ws := by
  subst hw
  rcases h.own.2 with ⟨h1, h2⟩ | ⟨g, cap, cur, h1, h2, h3, _⟩
  · have : es = [] := List.length_eq_zero_iff.1 h2
    subst this
    exact ⟨none, 0, h1, .inl rfl⟩
  · subst h1
    have hlt : g < w.heap.size := (h.own.lt g rfl).2
    refine ⟨_, cap, by rw [List.length_map], .inr ⟨g, 0, rfl, by omega, hlt, fun i hi => ?_⟩⟩
    have hi' : i < es.length := by simpa using hi
    have hm : es.getD i ezG ∈ es := by simp [List.getD, hi']
    have hx : (es.map (·.x)).getD i wz = (es.getD i ezG).x := by simp [List.getD, hi']
    rw [hx, Nat.zero_add]
    have c : ∀ c, c < 7 → w.cell? ⟨g, i * 7 + c, none⟩ = (wrValsG (es.getD i ezG))[c]? := fun c hc => by rw [h.own.cellAt _ (by omega), valsG_at es i c hi' hc]
    refine ⟨(es.getD i ezG).a, (es.getD i ezG).cp, ⟨c 0 (by omega), c 1 (by omega), c 2 (by omega), c 3 (by omega), c 4 (by omega), c 5 (by omega), c 6 (by omega)⟩, ?_⟩
    by_cases hp : 0 < (es.getD i ezG).x.xs.length
    · obtain ⟨h4, h5, h6, h7, _⟩ := (h.deps _ hm).1 hp
      exact .inr ⟨_, 0, h4, by omega, h6, h7⟩
    · exact .inl (List.length_eq_zero_iff.1 (by omega))

def RegsX (w0 w : World) (b n : Nat) (M : Int → Option Wr) : Prop :=
  ∃ f, RegsAre w b n f ∧ ∀ k, (M k = none → f k = none) ∧ ∀ x, M k = some x → ∃ ad cp, f k = some (wrOf x ad cp) ∧ IsDepsX b w0 ad x.xs ∧ x.xs.length ≤ 1048576

theorem RegsX.of_block {w0 w w' : World} {b n : Nat} {M : Int → Option Wr} (h : RegsX w0 w b n M) (hb : w'.heap[b]? = w.heap[b]?) : RegsX w0 w' b n M := by
  obtain ⟨f, h1, h2⟩ := h
  exact ⟨f, h1.of_block hb, h2⟩

theorem RegsX.lt {w0 w : World} {b n : Nat} {M : Int → Option Wr} (h : RegsX w0 w b n M) : b < w.heap.size := by
  obtain ⟨f, h1, _⟩ := h
  exact h1.lt

theorem RegsX.below {w0 w w' : World} {b n : Nat} {M : Int → Option Wr} (h : RegsX w0 w b n M) (hb : Below w.heap.size w w') : RegsX w0 w' b n M := h.of_block (hb.block b h.lt)

theorem RegsX.now {w0 w : World} {b n : Nat} {M : Int → Option Wr} (h : RegsX w0 w b n M) (hg : w0.grownBy w (some b)) : RegsW w w b n M := by
  obtain ⟨f, h1, h2⟩ := h
  refine ⟨f, h1, fun k => ⟨(h2 k).1, fun x hx => ?_⟩⟩
  obtain ⟨ad, cp, h3, h4, h5⟩ := (h2 k).2 x hx
  exact ⟨ad, cp, h3, h4.now hg, h5⟩

theorem RegsW.away {w0 w : World} {b n : Nat} {M : Int → Option Wr} (h : RegsW w0 w b n M) (hb : Below w0.heap.size w0 w) (hB : w0.heap.size ≤ b) : RegsX w w b n M := by
  obtain ⟨f, h1, h2⟩ := h
  refine ⟨f, h1, fun k => ⟨(h2 k).1, fun x hx => ?_⟩⟩
  obtain ⟨ad, cp, h3, h4, h5⟩ := (h2 k).2 x hx
  exact ⟨ad, cp, h3, h4.away hb hB, h5⟩

theorem RegsX.later {w0 w w' : World} {b n : Nat} {M : Int → Option Wr} (h : RegsX w0 w b n M) (hb : Below w0.heap.size w0 w') (hb' : w'.heap[b]? = w.heap[b]?) : RegsX w' w' b n M := by
  obtain ⟨f, h1, h2⟩ := h
  refine ⟨f, h1.of_block hb', fun k => ⟨(h2 k).1, fun x hx => ?_⟩⟩
  obtain ⟨ad, cp, h3, h4, h5⟩ := (h2 k).2 x hx
  refine ⟨ad, cp, h3, ?_, h5⟩
  rcases h4 with h4 | ⟨g, o, ha, hne, hlt, hh⟩
  · exact .inl h4
  · exact .inr ⟨g, o, ha, hne, Nat.lt_of_lt_of_le hlt hb.size, holdsDeps_block hh (hb.block g hlt)⟩

theorem put_x (w0 : World) (b m : Nat) (M : Int → Option Wr) (x : Wr) (ad : Option Addr) (cp : Nat) (w : World) (hmm : m ≤ 4611686018427387904) (hxl : x.xs.length ≤ 1048576) (hk : 0 ≤ x.k ∧ x.k ≤ 5) (hd : IsDepsX b w0 ad x.xs) (hb : w0.grownBy w (some b)) (hr : RegsX w0 w b m M) :
    Calls Tryz.prog 117 #[.map (some b), wrOf x ad cp] w fun e w' => e = .returned (.tuple #[]) ∧ RegsX w0 w' b (m + 1) (regPut M x) ∧ w0.grownBy w' (some b) := by
  refine (put_p (IsDepsX b w0) b m M x ad cp w hmm hxl hk hd (fun w' h ad xs hx => hx.now (grown_trans hb (grown_of_below h (some b)))) hr).mono ?_
  rintro e w' ⟨he, h1, h2⟩
  exact ⟨he, h1, grown_trans hb h2⟩

set_option maxHeartbeats 8000000 in
theorem putAll_x (w0 : World) (b m : Nat) (M : Int → Option Wr) (a : Option Addr) (n cap : Nat) (ws : List Wr) (w : World) (hn : ws.length = n) (hm : n ≤ 1048576) (hmm : m ≤ 1048576) (hx : Few ws) (hk : ∀ i, i < ws.length → 0 ≤ (ws.getD i wz).k ∧ (ws.getD i wz).k ≤ 5)
    (hi : IsWsX b w0 a ws) (hb : w0.grownBy w (some b)) (hr : RegsX w0 w b m M) :
    Calls Tryz.prog 103 #[.map (some b), .slice a n cap] w fun e w' => e = .returned (.tuple #[]) ∧ RegsX w0 w' b (m + n) (ws.foldl regPut M) ∧ w0.grownBy w' (some b) := by
  have HI : Hid (IsWsX b w0 a ws) := hi
  have HN : Hid (ws.length = n) := hn
  have HX : Hid (Few ws) := hx
  have HKY : Hid (∀ i, i < ws.length → 0 ≤ (ws.getD i wz).k ∧ (ws.getD i wz).k ≤ 5) := hk
  have HR0 : Hid (RegsX w0 w b m M) := hr
  have HB0 : Hid (w0.grownBy w (some b)) := hb
  clear hi hn hx hk hr hb
  go_enter Tryz.func103, Tryz.ntmps103
  go_wp2
  go_loopw [8] (fun i wr => ∃ k : Nat, k ≤ n ∧ i = .int .i64 k ∧ Hid (RegsX w0 wr b (m + k) ((ws.take k).foldl regPut M)) ∧ Hid (w0.grownBy wr (some b))) (fun i _ => n - (intOf i).toNat)
  case atStart => exact ⟨0, Nat.zero_le _, rfl, HR0, HB0⟩
  case round =>
    clear HR0 HB0
    obtain ⟨k, hk, rfl, HR, HB⟩ := hrel
    by_cases hk' : k < n
    · obtain ⟨bl, o, ad, cp, rfl, hz, ⟨e0, e1, e2, e3, e4, e5, e6⟩, hd⟩ := HI.out.base HB.out HN.out hk'
      have HD := Lib.hid hd
      have i1 : (0 : Int) ≤ (k : Int) := by omega
      have i2 : (k : Int) < (n : Int) := by omega
      have hkw : k < ws.length := by rw [HN.out]; exact hk'
      have hxl := HX.out k hkw
      have hky := HKY.out k hkw
      have HT : Hid ((ws.take (k + 1)).foldl regPut M = regPut ((ws.take k).foldl regPut M) (ws.getD k wz)) := foldl_take regPut ws M k hkw
      clear hd HI
      generalize ws.getD k wz = x at *
      obtain ⟨xk, xc, xs', xq, xv, xd, xx⟩ := x
      simp only at e0 e1 e2 e3 e4 e5 e6 HD hxl hky
      generalize (ws.take k).foldl regPut M = M1 at *
      have HBA : Hid (Below wr.heap.size wr (wr.alloc (.cells #[.int .i64 xk, .int .i64 xc, .int .i64 xs', .int .i64 xq, .int .i64 xv, .bool xd, .slice ad xx.length cp] 33))) := (Below.refl _ _).alloc (Nat.le_refl _) _
      have HRA := Lib.hid (HR.out.below HBA.out)
      have HB1 := Lib.hid (grown_trans HB.out (grown_of_below HBA.out (some b)))
      go_wp2_with fail
      refine (put_x w0 b (m + k) M1 ⟨xk, xc, xs', xq, xv, xd, xx⟩ ad cp _ (by omega) hxl hky HD.out HB1.out HRA.out).mono ?_
      rintro e w2 ⟨rfl, hr2, hb2⟩
      have HR2 : Hid (RegsX w0 w2 b (m + (k + 1)) ((ws.take (k + 1)).foldl regPut M)) := by
        rw [HT.out]
        exact hr2
      have HB2 := Lib.hid hb2
      clear hr2 hb2
      go_wp2
      exact ⟨⟨k + 1, by omega, by go_num, HR2, HB2⟩, by simp [intOf]; omega⟩
    · have hkk : k = n := by omega
      subst hkk
      have HE : Hid (ws.take k = ws) := List.take_of_length_le (by rw [HN.out]; exact Nat.le_refl _)
      rw [HE.out] at HR
      go_wp2
      exact bodyPost_end (v := .tuple #[]) (by simp [results, Tryz.results103]) rfl ⟨rfl, HR.out, HB.out⟩

end Go.Proofs.YtbbmpfkijhhemaaGreatDoor

namespace Go.Proofs.YtbbmpfkijhhemaaGreatDoor
open Go.ChangeShapes Go.WideShapes Go.ChangeAt Go.RowKit Go.Joins
set_option maxRecDepth 100000
attribute [local go_sem ↓] Go.wp_at_zero Go.wp_at_succ

def bitG (mask : Int) (k : Int) : Bool := decide (0 ≤ mask) && (decide (0 ≤ k) && decide (mask / 2 ^ k.toNat % 2 = 1))

theorem bitG_neg {mask k : Int} (h : ¬ 0 ≤ mask) : bitG mask k = false := by
  unfold bitG
  rw [decide_eq_false h, Bool.false_and]

theorem bitG_key {mask k : Int} (h : ¬ 0 ≤ k) : bitG mask k = false := by
  unfold bitG
  rw [decide_eq_false h, Bool.false_and, Bool.and_false]

theorem bitG_pos {mask : Int} {k : Nat} (h : 0 ≤ mask) : bitG mask (k : Int) = decide (mask / 2 ^ k % 2 = 1) := by
  unfold bitG
  rw [decide_eq_true h, decide_eq_true (Int.natCast_nonneg k)]
  rfl

theorem shift_min {mask : Int} {k : Nat} (h0 : 0 ≤ mask) (h1 : mask ≤ 9223372036854775807) : mask / 2 ^ min k 64 = mask / 2 ^ k := by
  by_cases hk : k ≤ 64
  · rw [Nat.min_eq_left hk]
  · rw [Nat.min_eq_right (by omega)]
    have e1 : ((2 ^ k : Nat) : Int) = (2 : Int) ^ k := by push_cast; rfl
    have e2 : 2 ^ 64 ≤ 2 ^ k := Nat.pow_le_pow_right (by omega) (by omega)
    have e3 : (2 : Nat) ^ 64 = 18446744073709551616 := by decide
    rw [← e1, Int.ediv_eq_zero_of_lt h0 (by omega), Int.ediv_eq_zero_of_lt h0 (by rw [e3] at e2; omega)]

set_option maxHeartbeats 2000000 in
theorem has_any (mask key : Int) (w : World) (h1 : mask ≤ 9223372036854775807) :
    Calls Tryz.prog 126 #[.int .i64 mask, .int .i64 key] w fun e w' => e = .returned (.bool (bitG mask key)) ∧ w' = w := by
  by_cases h0 : 0 ≤ mask
  rotate_left
  · rw [bitG_neg h0]
    have hd : decide (0 ≤ mask) = false := decide_eq_false h0
    go_enter Tryz.func126, Tryz.ntmps126
    go_wp2
    go_ret
    exact ⟨rfl, rfl⟩
  by_cases hk : 0 ≤ key
  rotate_left
  · rw [bitG_key hk]
    have hd : decide (0 ≤ key) = false := decide_eq_false hk
    go_enter Tryz.func126, Tryz.ntmps126
    go_wp2
    go_ret
    exact ⟨rfl, rfl⟩
  obtain ⟨k, rfl⟩ : ∃ k : Nat, key = (k : Int) := ⟨key.toNat, by omega⟩
  have hp : (0 : Int) < 2 ^ k := Int.pow_pos (by omega)
  have hd0 : 0 ≤ mask / 2 ^ k := Int.ediv_nonneg h0 (by omega)
  have hd1 : mask / 2 ^ k ≤ mask := Int.ediv_le_self _ h0
  have hand : bits BinOp.and IntKind.i64 (mask / 2 ^ k) 1 = mask / 2 ^ k % 2 := by
    have := and_one (mask / 2 ^ k).toNat (by omega)
    rw [Int.toNat_of_nonneg hd0] at this
    rw [this]
    omega
  rw [bitG_pos h0]
  have hmn := shift_min (k := k) h0 h1
  generalize mask / 2 ^ k = z at *
  go_enter Tryz.func126, Tryz.ntmps126
  go_wp2
  go_ret
  exact ⟨rfl, rfl⟩

set_option maxHeartbeats 2000000 in
theorem wants_gen (mask : Int) (x : Wr) (a : Option Addr) (cp : Nat) (w : World) (h1 : mask ≤ 9223372036854775807) :
    Calls Tryz.prog 77 #[.int .i64 mask, wrOf x a cp] w fun e w' => e = .returned (.bool (bitG mask x.k)) ∧ Below w.heap.size w w' := by
  obtain ⟨xk, xc, xs', xq, xv, xd, xx⟩ := x
  simp only
  have HB : Hid (Below w.heap.size w (w.alloc (.cells #[.int .i64 xk, .int .i64 xc, .int .i64 xs', .int .i64 xq, .int .i64 xv, .bool xd, .slice a xx.length cp] 33))) := (Below.refl _ _).alloc (Nat.le_refl _) _
  unfold wrOf
  go_enter Tryz.func77, Tryz.ntmps77
  go_wp2_with fail
  refine (has_any mask xk _ h1).mono ?_
  rintro e w1 ⟨rfl, rfl⟩
  go_wp2
  go_ret
  exact ⟨rfl, HB.out⟩

end Go.Proofs.YtbbmpfkijhhemaaGreatDoor

namespace Go.Proofs.YtbbmpfkijhhemaaGreatDoor
open Go.ChangeShapes Go.WideShapes Go.ChangeAt Go.RowKit Go.Joins
set_option maxRecDepth 100000
attribute [local go_sem ↓] Go.wp_at_zero Go.wp_at_succ

theorem bitG_bitB {mask k : Int} (h0 : 0 ≤ mask) (hk : 0 ≤ k) : bitG mask k = bitB mask k := by
  unfold bitG bitB
  rw [decide_eq_true h0, decide_eq_true hk]
  rfl

theorem wants_any (mask : Int) (x : Wr) (a : Option Addr) (cp : Nat) (w : World) (h0 : 0 ≤ mask) (h1 : mask ≤ 9223372036854775807) (hk : 0 ≤ x.k ∧ x.k ≤ 5) :
    Calls Tryz.prog 77 #[.int .i64 mask, wrOf x a cp] w fun e w' => e = .returned (.bool (bitB mask x.k)) ∧ Below w.heap.size w w' := by
  rw [← bitG_bitB h0 hk.1]
  exact wants_gen mask x a cp w h1

def tgN (t : Tg) : Nat → Int
  | 0 => t.c
  | 1 => t.s
  | _ => t.q

def fillT (ts : List Tg) (j : Nat) : Value := .int .i64 (tgN (ts.getD (j / 3) tgz) (j % 3))

theorem fillT_0 (ts : List Tg) (k : Nat) : fillT ts (k * 3) = .int .i64 (ts.getD k tgz).c := by
  unfold fillT
  have h1 : k * 3 / 3 = k := by omega
  have h2 : k * 3 % 3 = 0 := by omega
  rw [h1, h2]
  rfl

theorem fillT_1 (ts : List Tg) (k : Nat) : fillT ts (k * 3 + 1) = .int .i64 (ts.getD k tgz).s := by
  unfold fillT
  have h1 : (k * 3 + 1) / 3 = k := by omega
  have h2 : (k * 3 + 1) % 3 = 1 := by omega
  rw [h1, h2]
  rfl

theorem fillT_2 (ts : List Tg) (k : Nat) : fillT ts (k * 3 + 2) = .int .i64 (ts.getD k tgz).q := by
  unfold fillT
  have h1 : (k * 3 + 2) / 3 = k := by omega
  have h2 : (k * 3 + 2) % 3 = 2 := by omega
  rw [h1, h2]
  rfl

def putT (w : World) (b o : Nat) (c s q : Int) : World := ((w.setCell ⟨b, o, none⟩ (.int .i64 c)).setCell ⟨b, o + 1, none⟩ (.int .i64 s)).setCell ⟨b, o + 2, none⟩ (.int .i64 q)

theorem hole_putT {B : Nat} {w w' : World} (h : Hole B w w') (o : Nat) (c s q : Int) : Hole B w (putT w' B o c s q) := ((h.set o _).set (o + 1) _).set (o + 2) _

theorem row_putT {w : World} {b t : Nat} {ts : List Tg} (h : w.rowIs b t 18 (fillT ts)) (hl : ts.length = 6) {k : Nat} (hk : k < 6) (c s q : Int) : (putT w b (k * 3) c s q).rowIs b t 18 (fillT (ts.set k ⟨c, s, q⟩)) := by
  refine (((h.set (k * 3) _).set (k * 3 + 1) _).set (k * 3 + 2) _).congr fun j hj => ?_
  by_cases e : j / 3 = k
  · have hg : (ts.set k ⟨c, s, q⟩).getD (j / 3) tgz = ⟨c, s, q⟩ := by
      rw [e]
      simp [List.getD, hl, hk]
    unfold fillT
    rw [hg]
    have h3 : j % 3 = 0 ∨ j % 3 = 1 ∨ j % 3 = 2 := by omega
    rcases h3 with h3 | h3 | h3
    · rw [if_neg (by omega), if_neg (by omega), if_pos (by omega), h3]
      rfl
    · rw [if_neg (by omega), if_pos (by omega), h3]
      rfl
    · rw [if_pos (by omega), h3]
      rfl
  · rw [if_neg (by omega), if_neg (by omega), if_neg (by omega)]
    unfold fillT
    have hg : (ts.set k ⟨c, s, q⟩).getD (j / 3) tgz = ts.getD (j / 3) tgz := by
      simp [List.getD, Ne.symm e]
    rw [hg]

theorem hole_grown {b : Nat} {w w' : World} (h : Hole b w w') : w.grownBy w' (some b) := ⟨h.os, h.tape, h.output, h.size, fun k hk hn => h.block k hk (fun e => hn (by rw [e]))⟩

theorem row_below {w w' : World} {b t n : Nat} {f : Nat → Value} (h : w.rowIs b t n f) (hb : Below w.heap.size w w') : w'.rowIs b t n f := h.of_block (hb.block b h.lt)

theorem putC_take (xs : List Dp) (ts : List Tg) (k : Nat) (h : k < xs.length) : (xs.take (k + 1)).foldl putC ts = putC ((xs.take k).foldl putC ts) (xs.getD k dz) := by
  have e : xs.take (k + 1) = xs.take k ++ [xs.getD k dz] := by
    rw [List.take_add_one, List.getElem?_eq_getElem h]
    simp [List.getD, h]
  rw [e, List.foldl_append]
  rfl

theorem putF_len : ∀ (xs : List Dp) (ts : List Tg), (xs.foldl putC ts).length = ts.length
  | [], _ => rfl
  | d :: r, ts => by
    have := putF_len r (putC ts d)
    rw [putC_len] at this
    exact this

set_option maxHeartbeats 8000000 in
theorem causAdd_any (b : Nat) (ts : List Tg) (a : Option Addr) (n cap : Nat) (xs : List Dp) (w : World) (hl : ts.length = 6) (hn : xs.length = n) (hm : n ≤ 1048576) (hok : ∀ d ∈ xs, 0 ≤ d.k ∧ d.k ≤ 5) (hi : IsDepsX b w a xs) (hr : w.rowIs b 112 18 (fillT ts)) :
    Calls Tryz.prog 98 #[.pointer (some ⟨b, 0, none⟩), .slice a n cap] w fun e w' => e = .returned (.tuple #[]) ∧ w'.rowIs b 112 18 (fillT (xs.foldl putC ts)) ∧ Hole b w w' := by
  have HI := Lib.hid hi
  have HN := Lib.hid hn
  have HO := Lib.hid hok
  have HR0 := Lib.hid hr
  have HL := Lib.hid hl
  clear hi hn hok hr hl
  go_enter Tryz.func98, Tryz.ntmps98
  go_wp2
  go_loopw [8] (fun i wr => ∃ k : Nat, k ≤ n ∧ i = .int .i64 k ∧ Hid (wr.rowIs b 112 18 (fillT ((xs.take k).foldl putC ts))) ∧ Hid (Hole b w wr)) (fun i _ => n - (intOf i).toNat)
  case atStart => exact ⟨0, Nat.zero_le _, rfl, HR0, Hole.refl _ _⟩
  case round =>
    clear HR0
    obtain ⟨k, hk, rfl, HR, HH⟩ := hrel
    by_cases hk' : k < n
    · have hkx : k < xs.length := by rw [HN.out]; exact hk'
      have i1 : (0 : Int) ≤ (k : Int) := by omega
      have i2 : (k : Int) < (n : Int) := by omega
      obtain ⟨g, o, rfl, hz, e0, e1, e2, e3⟩ := (HI.out.now (hole_grown HH.out)).at (Below.refl _ _) hkx
      have HT := Lib.hid (putC_take xs ts k hkx)
      have hkey := HO.out (xs.getD k dz) (by simp [List.getD, hkx])
      have HL2 : Hid (((xs.take k).foldl putC ts).length = 6) := by rw [putF_len]; exact HL
      generalize (xs.take k).foldl putC ts = us at *
      generalize xs.getD k dz = d at *
      obtain ⟨dk, dc, ds, dq⟩ := d
      simp only at e0 e1 e2 e3 HT hkey
      obtain ⟨kk, rfl⟩ : ∃ kk : Nat, dk = (kk : Int) := ⟨dk.toNat, by omega⟩
      have hk6 : kk < 6 := by omega
      have q1 : (0 : Int) ≤ (kk : Int) := by omega
      have q2 : (kk : Int) < 6 := by omega
      have HBA : Hid (Below wr.heap.size wr (wr.alloc (.cells #[.int .i64 (kk : Int), .int .i64 dc, .int .i64 ds, .int .i64 dq] 81))) := (Below.refl _ _).alloc (Nat.le_refl _) _
      have HRA := Lib.hid (row_below HR.out HBA.out)
      have HDA : Hid (DBox (wr.alloc (.cells #[.int .i64 (kk : Int), .int .i64 dc, .int .i64 ds, .int .i64 dq] 81)) wr.heap.size ⟨(kk : Int), dc, ds, dq⟩) := DBox.start wr ⟨(kk : Int), dc, ds, dq⟩ 81
      have HHA := Lib.hid (HH.out.alloc (.cells #[.int .i64 (kk : Int), .int .i64 dc, .int .i64 ds, .int .i64 dq] 81))
      have hbl : b < wr.heap.size := HR.out.lt
      have HC : Hid (∀ w', Below (wr.heap.size + 1) (wr.alloc (.cells #[.int .i64 (kk : Int), .int .i64 dc, .int .i64 ds, .int .i64 dq] 81)) w' → (w'.cell? ⟨b, kk * 3, none⟩ = some (.int .i64 (us.getD kk tgz).c) ∧ w'.cell? ⟨b, kk * 3 + 1, none⟩ = some (.int .i64 (us.getD kk tgz).s) ∧ w'.cell? ⟨b, kk * 3 + 2, none⟩ = some (.int .i64 (us.getD kk tgz).q)) ∧ DBox w' wr.heap.size ⟨(kk : Int), dc, ds, dq⟩) := fun w' hb => by
        have hzz : (wr.alloc (.cells #[.int .i64 (kk : Int), .int .i64 dc, .int .i64 ds, .int .i64 dq] 81)).heap.size = wr.heap.size + 1 := by simp
        have hb2 : Below (wr.alloc (.cells #[.int .i64 (kk : Int), .int .i64 dc, .int .i64 ds, .int .i64 dq] 81)).heap.size (wr.alloc (.cells #[.int .i64 (kk : Int), .int .i64 dc, .int .i64 ds, .int .i64 dq] 81)) w' := by rw [hzz]; exact hb
        have hr2 := row_below HRA.out hb2
        have c0 := hr2.cell (i := kk * 3) (by omega)
        have c1 := hr2.cell (i := kk * 3 + 1) (by omega)
        have c2 := hr2.cell (i := kk * 3 + 2) (by omega)
        rw [fillT_0] at c0
        rw [fillT_1] at c1
        rw [fillT_2] at c2
        exact ⟨⟨c0, c1, c2⟩, HDA.out.below hb2⟩
      have HPC : Hid (putC us ⟨(kk : Int), dc, ds, dq⟩ = if 0 < tcmp dc ds dq (us.getD kk tgz).c (us.getD kk tgz).s (us.getD kk tgz).q then us.set kk ⟨dc, ds, dq⟩ else us) := Lib.hid rfl
      generalize us.getD kk tgz = y at *
      obtain ⟨yc, ys, yq⟩ := y
      simp only at HC HPC
      go_wp2_with fail
      have hzz : (wr.alloc (.cells #[.int .i64 (kk : Int), .int .i64 dc, .int .i64 ds, .int .i64 dq] 81)).heap.size = wr.heap.size + 1 := by simp
      generalize (wr.alloc (.cells #[.int .i64 (kk : Int), .int .i64 dc, .int .i64 ds, .int .i64 dq] 81)) = V1 at *
      refine wp_region_slots 9 [[(5, false)], [(12, true)], [(0, false)], [(5, false)], [(15, true)], [(14, true)], [(17, true), (16, true)], [(18, true)], [(13, true), (19, true)]] (fun w' => Below V1.heap.size V1 w') (fun w w' => Below w.heap.size w w') (by kernel_rfl) (by kernel_rfl) (by rfl) ((Below.refl _ _).drew) (fun _ _ h hb => below_step h h.size hb) ?_
      rw [← hzz] at HC
      iterate 8 (apply slot_eq; · (intro ρ w' ⟨p1, p2, p3⟩ hbl hn; obtain ⟨⟨c0, c1, c2⟩, ⟨_, x0, x1, x2, x3, _⟩⟩ := HC.out w' hbl; simp at hn; go_simp; exact ⟨Below.refl _ _, rfl⟩))
      apply slot_eq
      · intro ρ w' ⟨p1, p2, p3⟩ hbl hn
        simp at hn
        go_simp
        exact got_call (implTagCmp_any dc ds dq yc ys yq w') fun e w'' ⟨he, hb⟩ => ⟨_, he, hb, rfl⟩
      refine slot_end ?_
      rintro tv w4 hb4 hF
      simp at hF
      obtain ⟨f20, f19, f18, f17, f16, f15, f14, f13, f12⟩ := hF
      simp only [List.take_succ_cons, List.take_zero, List.drop_succ_cons, List.drop_zero, putAll, f20, f19, f18, f17, f16, f15, f14, f13, f12]
      clear f20 f19 f18 f17 f16 f15 f14 f13 f12
      simp only [Act.put, List.setIfInBounds_toArray, List.set_cons_succ, List.set_cons_zero]
      obtain ⟨⟨c0, c1, c2⟩, ⟨_, x0, x1, x2, x3, _⟩⟩ := HC.out w4 hb4
      have HR4 := Lib.hid (row_below HRA.out hb4)
      have HH4 : Hid (Hole b w w4) := HHA.out.trans (Hole.of_below hb4)
      have hfz : ∀ i, w4.frozen? ⟨b, i, none⟩ = false := HR4.out.frozen
      clear hb4 HRA HHA HC HDA HBA
      by_cases hpos : 0 < tcmp dc ds dq yc ys yq
      · rw [if_pos hpos] at HPC
        generalize tcmp dc ds dq yc ys yq = z at *
        go_wp2_with fail
        refine wp_region_slots 7 [[(0, false)], [(5, false)], [(23, true)], [(5, false)], [(25, true)], [(22, true)], [(27, true), (24, true)]] (fun w' => w' = w4.drew) (fun w w' => w' = w) (by kernel_rfl) (by kernel_rfl) (by rfl) rfl (fun w w' h1 h2 => h2.trans h1) ?_
        iterate 7 (apply slot_eq; · (rintro ρ w' ⟨p1, p2, p3⟩ rfl hn; simp at hn; go_simp; exact ⟨rfl, rfl⟩))
        refine slot_end ?_
        rintro tv w5 rfl hF
        simp at hF
        obtain ⟨f28, f27, f26, f25, f24, f23, f22⟩ := hF
        simp only [List.take_succ_cons, List.take_zero, List.drop_succ_cons, List.drop_zero, putAll, f28, f27, f26, f25, f24, f23, f22]
        clear f28 f27 f26 f25 f24 f23 f22
        simp only [Act.put, List.setIfInBounds_toArray, List.set_cons_succ, List.set_cons_zero]
        have HR6 : Hid ((putT w4.drew b (kk * 3) dc ds dq).rowIs b 112 18 (fillT ((xs.take (k + 1)).foldl putC ts))) := by
          rw [HT.out, HPC.out]
          exact row_putT HR4.out.drew HL2.out hk6 dc ds dq
        have HH6 : Hid (Hole b w (putT w4.drew b (kk * 3) dc ds dq)) := hole_putT HH4.out.drew _ dc ds dq
        go_wp2
        exact ⟨⟨k + 1, by omega, by go_num, HR6, HH6⟩, by simp [intOf]; omega⟩
      · rw [if_neg hpos] at HPC
        have HR5 : Hid (w4.rowIs b 112 18 (fillT ((xs.take (k + 1)).foldl putC ts))) := by
          rw [HT.out, HPC.out]
          exact HR4
        generalize tcmp dc ds dq yc ys yq = z at *
        go_wp2
        exact ⟨⟨k + 1, by omega, by go_num, HR5, HH4⟩, by simp [intOf]; omega⟩
    · have hkk : k = n := by omega
      subst hkk
      have HE : Hid (xs.take k = xs) := List.take_of_length_le (by rw [HN.out]; exact Nat.le_refl _)
      rw [HE.out] at HR
      go_wp2
      exact bodyPost_end (v := .tuple #[]) (by simp [results, Tryz.results98]) rfl ⟨rfl, HR.out, HH.out⟩

def IsTgs (cs : Array Value) (ts : List Tg) : Prop := cs.size = 18 ∧ ts.length = 6 ∧ ∀ j, j < 18 → cs[j]? = some (fillT ts j)

theorem under_causes : Tryz.prog.underlying 112 = some (.array 6 30) := by kernel_rfl

theorem infoCauses : (Tryz.prog.info? 112).map (·.size) = some 18 := by kernel_rfl

theorem run_indexT {cs : Array Value} {ts : List Tg} (h : IsTgs cs ts) {q : Nat} (hq : q < 6) (w : World) : (Instr.index 112 (.agg cs) (.int .i64 (q : Int))).run Tryz.prog w = .ok (tagV (ts.getD q tgz).c (ts.getD q tgz).s (ts.getD q tgz).q) w := by
  obtain ⟨h1, h2, h3⟩ := h
  have c0 := h3 (q * 3) (by omega)
  have c1 := h3 (q * 3 + 1) (by omega)
  have c2 := h3 (q * 3 + 2) (by omega)
  rw [fillT_0] at c0
  rw [fillT_1] at c1
  rw [fillT_2] at c2
  have he : cs.extract (q * 3) (q * 3 + 3) = #[.int .i64 (ts.getD q tgz).c, .int .i64 (ts.getD q tgz).s, .int .i64 (ts.getD q tgz).q] := by
    apply Array.ext_getElem?
    intro i
    rw [Array.getElem?_extract]
    have hm : min (q * 3 + 3) cs.size - q * 3 = 3 := by omega
    rw [hm]
    match i with
    | 0 => rw [if_pos (by omega)]; exact c0
    | 1 => rw [if_pos (by omega)]; exact c1
    | 2 => rw [if_pos (by omega)]; exact c2
    | i + 3 => rw [if_neg (by omega)]; simp
  simp [Instr.index, go_sem, Go.part]
  rw [if_pos hq, he]
  simp [tagV, List.getD]

theorem tgs_of_row {w : World} {b t : Nat} {ts : List Tg} (h : w.rowIs b t 18 (fillT ts)) (hl : ts.length = 6) : ∃ cs, w.heap[b]? = some (.cells cs t (0, 0)) ∧ IsTgs cs ts := by
  obtain ⟨c, h1, h2, h3⟩ := h
  exact ⟨c, h1, h2, hl, h3⟩

theorem tellAt_app : ∀ (us vs : List Tg) (i : Nat), tellAt i (us ++ vs) = tellAt i us ++ tellAt (i + us.length) vs
  | [], vs, i => by simp [tellAt]
  | t :: r, vs, i => by
    have := tellAt_app r vs (i + 1)
    simp only [List.cons_append, tellAt, List.length_cons, List.append_assoc]
    rw [this, show i + 1 + r.length = i + (r.length + 1) by omega]

theorem tell_take (ts : List Tg) (k : Nat) (h : k < ts.length) : tellC (ts.take (k + 1)) = tellC (ts.take k) ++ (if isZ (ts.getD k tgz) = true then [] else [⟨(k : Int), (ts.getD k tgz).c, (ts.getD k tgz).s, (ts.getD k tgz).q⟩]) := by
  have e : ts.take (k + 1) = ts.take k ++ [ts.getD k tgz] := by
    rw [List.take_add_one, List.getElem?_eq_getElem h]
    simp [List.getD, h]
  unfold tellC
  rw [e, tellAt_app]
  have hl : 0 + (ts.take k).length = k := by simp; omega
  rw [hl]
  simp only [tellAt, List.append_nil]

theorem tell_len (ts : List Tg) : (tellC ts).length ≤ ts.length := by
  have : ∀ (ts : List Tg) (i : Nat), (tellAt i ts).length ≤ ts.length := by
    intro ts
    induction ts with
    | nil => intro i; simp [tellAt]
    | cons t r ih =>
      intro i
      have := ih (i + 1)
      unfold tellAt
      split <;> simp <;> omega
  exact this ts 0

theorem tag_eql (d : Nat) (yc ys yq : Int) (w : World) (h : isZ ⟨yc, ys, yq⟩ = false) : (Op.equalIn (d + 2) 30 (.agg #[.int .i64 yc, .int .i64 ys, .int .i64 yq]) (.agg #[.int .i64 0, .int .i64 0, .int .i64 0])).run Tryz.prog w = .ok false w := by
  simp [isZ] at h
  go_simp
  by_cases h1 : yc = 0
  · by_cases h2 : ys = 0
    · simp [h1, h2, h h1 h2]
    · simp [h1, h2]
  · simp [h1]

set_option maxHeartbeats 4000000 in
theorem causTold_any (cs : Array Value) (ts : List Tg) (w : World) (h : IsTgs cs ts) :
    Calls Tryz.prog 99 #[.agg cs] w fun e w' => ∃ v, e = .returned v ∧ RowD w' w.heap.size v (tellC ts) ∧ Below w.heap.size w w' := by
  have H := Lib.hid h
  clear h
  obtain ⟨i0, hi0, hx0⟩ := Option.map_eq_some_iff.1 infoDep
  simp only [Prod.mk.injEq] at hx0
  have HI0 := Lib.hid hi0
  have HX0 := Lib.hid hx0
  clear hi0 hx0
  have HB0 : Hid (Below w.heap.size w (w.alloc (.cells cs 112))) := (Below.refl _ _).alloc (Nat.le_refl _) _
  have hg : (w.alloc (.cells cs 112)).heap[w.heap.size]? = some (.cells cs 112 (0, 0)) := heap_alloc_new w _
  have s0 : (Tryz.prog.info? 112).map (·.size) = some cs.size := by rw [infoCauses, H.out.1]
  go_enter Tryz.func99, Tryz.ntmps99
  go_wp2_with (refine wpList_load_row rfl 112 _ rfl w.heap.size rfl _ cs _ _ hg under_causes rfl s0 ?_)
  clear hg
  generalize w.alloc (.cells cs 112) = W0 at *
  go_loopw [3, 7] (fun t i wr => ∃ (k : Nat) (v : Value), k ≤ 6 ∧ i = .int .i64 k ∧ v = t ∧ Hid (RowD wr w.heap.size v (tellC (ts.take k))) ∧ Hid (Below w.heap.size w wr)) (fun _ i _ => 6 - (intOf i).toNat)
  case atStart => exact ⟨0, _, Nat.zero_le _, rfl, rfl, World.ownsRow_nil _ _ _ _, HB0⟩
  case round =>
    clear HB0
    obtain ⟨k, v, hk, rfl, rfl, HR, HB⟩ := hrel
    by_cases hk' : k < 6
    · have i1 : (0 : Int) ≤ (k : Int) := by omega
      have i2 : (k : Int) < 6 := by omega
      have hix := fun w => run_indexT H.out hk' w
      have HT := Lib.hid (tell_take ts k (by have := H.out.2.1; omega))
      have hlen := tell_len (ts.take k)
      have hlt : (ts.take k).length ≤ 6 := by simp; omega
      obtain ⟨zs, hzs⟩ : ∃ zs, zs = tellC (ts.take k) := ⟨_, rfl⟩
      rw [← hzs] at HT HR hlen
      clear hzs
      generalize ts.getD k tgz = y at *
      obtain ⟨yc, ys, yq⟩ := y
      simp only at HT hix
      have hsw : w.heap.size ≤ wr.heap.size := HB.out.size
      unfold tagV at hix
      by_cases hz : isZ ⟨yc, ys, yq⟩ = true
      · rw [if_pos hz, List.append_nil] at HT
        rw [← HT.out] at HR
        have hz2 : yc = 0 ∧ ys = 0 ∧ yq = 0 := by simpa [isZ] using hz
        obtain ⟨rfl, rfl, rfl⟩ := hz2
        have HB2 : Hid (Below w.heap.size w (wr.alloc (.cells #[.int .i64 0, .int .i64 0, .int .i64 0] 30))) := HB.out.alloc hsw _
        have HR2 : Hid (RowD (wr.alloc (.cells #[.int .i64 0, .int .i64 0, .int .i64 0] 30)) w.heap.size v (tellC (ts.take (k + 1)))) := HR.out.below ((Below.refl _ _).alloc (Nat.le_refl _) _)
        go_wp2
        exact ⟨⟨k + 1, v, by omega, by go_num, rfl, HR2, HB2⟩, by simp [intOf]; omega⟩
      · rw [if_neg hz] at HT
        have heq : ∀ w, (Op.equalIn 10000 30 (.agg #[.int .i64 yc, .int .i64 ys, .int .i64 yq]) (.agg #[.int .i64 0, .int .i64 0, .int .i64 0])).run Tryz.prog w = .ok false w := fun w => tag_eql 9998 yc ys yq w (by simpa using hz)
        have HBA : Hid (Below wr.heap.size wr (wr.alloc (.cells #[.int .i64 yc, .int .i64 ys, .int .i64 yq] 30))) := (Below.refl _ _).alloc (Nat.le_refl _) _
        have hsA : (wr.alloc (.cells #[.int .i64 yc, .int .i64 ys, .int .i64 yq] 30)).heap.size = wr.heap.size + 1 := by simp
        have HR2 := Lib.hid (HR.out.below HBA.out)
        have HB2 := Lib.hid (below_step HB.out HB.out.size HBA.out)
        clear HBA hz
        have HBA4 : Hid (Below (wr.alloc (.cells #[.int .i64 yc, .int .i64 ys, .int .i64 yq] 30)).heap.size (wr.alloc (.cells #[.int .i64 yc, .int .i64 ys, .int .i64 yq] 30)) ((wr.alloc (.cells #[.int .i64 yc, .int .i64 ys, .int .i64 yq] 30)).alloc (.cells #[.int .i64 (k : Int), .int .i64 yc, .int .i64 ys, .int .i64 yq] 81))) := (Below.refl _ _).alloc (Nat.le_refl _) _
        have HRA4 := Lib.hid (HR2.out.below HBA4.out)
        have HB04 := Lib.hid (below_step HB2.out HB2.out.size HBA4.out)
        have HC4 := Lib.hid (oneD_cells (wr.alloc (.cells #[.int .i64 yc, .int .i64 ys, .int .i64 yq] 30)) 81 ⟨(k : Int), yc, ys, yq⟩)
        rw [hsA] at HC4
        clear HBA4 hsA HR2 HB2
        go_wp2_with (at_builtin; refine wpList_append_lies _ (by rfl) _ _ _ (by rfl) w.heap.size 81 i0 (depV 0 0 0 0) 4 32 Tryz.underlying31 HI0.out HX0.out.1 HX0.out.2.1 HX0.out.2.2 (by rfl) (by omega) v (zs).length ((zs).flatMap dpVals) (by rfl) HRA4.out ⟨wr.heap.size + 1, 0, none⟩ 1 1 (dpVals ⟨(k : Int), yc, ys, yq⟩) (by rfl) (by rfl) HC4.out (dp_one _) (by omega) (by unfold maxLen; (try simp); omega) (by (try simp); omega) (by (try simp); omega) _ rfl ?_; intro g4 cp4 w4 hown4 hgrow4 hg4 _; refine Hid.out ?_)
        refine Lib.hid ?_
        have HB4 : Hid (Below w.heap.size w w4) := HB04.out.grown hgrow4 HB04.out.size fun j hj => by have := (World.ownsRow.lt HRA4.out j hj).1; omega
        have HR4 : Hid (RowD w4 w.heap.size (.slice (some ⟨g4, 0, none⟩) ((zs).length + 1) cp4) (tellC (ts.take (k + 1)))) := by
          rw [HT.out]
          refine Lib.hid ?_
          unfold RowD
          rw [List.length_append, List.flatMap_append]
          simpa using hown4
        go_wp2
        exact ⟨⟨k + 1, _, by omega, by go_num, rfl, HR4, HB4⟩, by simp [intOf]; omega⟩
    · have hkk : k = 6 := by omega
      have e : ts.take k = ts := List.take_of_length_le (by have := H.out.2.1; omega)
      rw [e] at HR
      have hk6 : ¬ (k : Int) < 6 := by omega
      go_wp2
      go_ret
      exact ⟨_, rfl, HR.out, HB.out⟩

theorem cauL_take (ws : List Wr) (mask : Int) (k : Nat) (h : k < ws.length) : cauL (ws.take (k + 1)) mask = cauRun mask (cauL (ws.take k) mask) (ws.getD k wz) := by
  unfold cauL
  have e : ws.take (k + 1) = ws.take k ++ [ws.getD k wz] := by
    rw [List.take_add_one, List.getElem?_eq_getElem h]
    simp [List.getD, h]
  rw [e, List.foldl_append]
  rfl

theorem cauRun_len (mask : Int) (ts : List Tg) (x : Wr) : (cauRun mask ts x).length = ts.length := by
  unfold cauRun
  split
  · rw [putF_len, putC_len]
  · rfl

theorem cauF_len (mask : Int) : ∀ (ws : List Wr) (ts : List Tg), (ws.foldl (cauRun mask) ts).length = ts.length
  | [], _ => rfl
  | x :: r, ts => by
    have := cauF_len mask r (cauRun mask ts x)
    rw [cauRun_len] at this
    exact this

theorem holds_one (w : World) (d : Dp) (ty : Nat) : HoldsDeps (w.alloc (.cells #[.int .i64 d.k, .int .i64 d.c, .int .i64 d.s, .int .i64 d.q] ty)) w.heap.size 0 [d] := fun i hi => by
  have e : i = 0 := by simp at hi; omega
  subst e
  have h := DBox.start w d ty
  exact ⟨h.c0, h.c1, h.c2, h.c3⟩

set_option maxHeartbeats 8000000 in
theorem implBecause_any (a : Option Addr) (n cap : Nat) (ws : List Wr) (mask : Int) (w : World) (hn : ws.length = n) (hm : n ≤ 1048576) (hx : Few ws) (hh : IsWs w a ws) (hM : mask ≤ 9223372036854775807) :
    Calls Tryz.prog 43 #[.slice a n cap, .int .i64 mask] w fun e w' => ∃ v, e = .returned v ∧ RowD w' w.heap.size v (becB ws mask) ∧ Below w.heap.size w w' := by
  have HH := Lib.hid hh
  have HN := Lib.hid hn
  have HX := Lib.hid hx
  clear hh hn hx
  go_enter Tryz.func43, Tryz.ntmps43
  by_cases hm0 : mask < 0
  · have HE : Hid (becB ws mask = []) := by unfold becB; rw [if_neg (by omega)]; exact Lib.hid rfl
    go_wp2
    go_ret
    exact ⟨_, rfl, by rw [HE.out]; exact World.ownsRow_nil _ _ _ _, Below.refl _ _⟩
  have hm0' : 0 ≤ mask := by omega
  go_wp2_with fail
  refine (implMapOk_any _ n _ ws _ HN.out hm HX.out HH.out).mono ?_
  rintro e w1 ⟨rfl, hb⟩
  have HB1 := Lib.hid hb
  clear hb
  by_cases hok : mapOkB ws = true
  rotate_left
  · have hokf : mapOkB ws = false := by simpa using hok
    have HE : Hid (becB ws mask = []) := by unfold becB; rw [if_neg (by simp [hokf])]; exact Lib.hid rfl
    rw [hokf]
    clear hok hokf
    go_wp2
    go_ret
    exact ⟨_, rfl, by rw [HE.out]; exact World.ownsRow_nil _ _ _ _, HB1.out⟩
  have HE : Hid (becB ws mask = tellC (cauL ws mask)) := by unfold becB; rw [if_pos ⟨hok, hm0'⟩, cau_tell hok]; exact Lib.hid rfl
  have HOK : Hid (∀ x ∈ ws, okW x = true) := ((mapOk_iff ws).1 hok).1
  rw [hok]
  clear hok
  have hsz1 : w.heap.size ≤ w1.heap.size := HB1.out.size
  have HBA : Hid (Below w.heap.size w (w1.alloc (.cells #[.int .i64 0, .int .i64 0, .int .i64 0, .int .i64 0, .int .i64 0, .int .i64 0, .int .i64 0, .int .i64 0, .int .i64 0, .int .i64 0, .int .i64 0, .int .i64 0, .int .i64 0, .int .i64 0, .int .i64 0, .int .i64 0, .int .i64 0, .int .i64 0] 112))) := HB1.out.alloc hsz1 _
  have HRA : Hid ((w1.alloc (.cells #[.int .i64 0, .int .i64 0, .int .i64 0, .int .i64 0, .int .i64 0, .int .i64 0, .int .i64 0, .int .i64 0, .int .i64 0, .int .i64 0, .int .i64 0, .int .i64 0, .int .i64 0, .int .i64 0, .int .i64 0, .int .i64 0, .int .i64 0, .int .i64 0] 112)).rowIs w1.heap.size 112 18 (fillT cz)) := World.rowIs_alloc w1 _ _ _ (by intro i hi; have hi' : i < 18 := hi; match i, hi' with | 0, _ => rfl | 1, _ => rfl | 2, _ => rfl | 3, _ => rfl | 4, _ => rfl | 5, _ => rfl | 6, _ => rfl | 7, _ => rfl | 8, _ => rfl | 9, _ => rfl | 10, _ => rfl | 11, _ => rfl | 12, _ => rfl | 13, _ => rfl | 14, _ => rfl | 15, _ => rfl | 16, _ => rfl | 17, _ => rfl | j + 18, h => exact absurd h (by omega))
  go_wp2
  generalize (w1.alloc (.cells #[.int .i64 0, .int .i64 0, .int .i64 0, .int .i64 0, .int .i64 0, .int .i64 0, .int .i64 0, .int .i64 0, .int .i64 0, .int .i64 0, .int .i64 0, .int .i64 0, .int .i64 0, .int .i64 0, .int .i64 0, .int .i64 0, .int .i64 0, .int .i64 0] 112)) = W0 at *
  generalize w1.heap.size = B at *
  clear HB1
  go_loopw [17] (fun i wr => ∃ k : Nat, k ≤ n ∧ i = .int .i64 k ∧ Hid (wr.rowIs B 112 18 (fillT (cauL (ws.take k) mask))) ∧ Hid (Below w.heap.size w wr)) (fun i _ => n - (intOf i).toNat)
  case atStart => exact ⟨0, Nat.zero_le _, rfl, HRA, HBA⟩
  case round =>
    clear HRA HBA
    obtain ⟨k, hk, rfl, HR, HB⟩ := hrel
    by_cases hk' : k < n
    · have hkw : k < ws.length := by rw [HN.out]; exact hk'
      have i1 : (0 : Int) ≤ (k : Int) := by omega
      have i2 : (k : Int) < (n : Int) := by omega
      obtain ⟨b, o, ad, cp, rfl, hz, ⟨e0, e1, e2, e3, e4, e5, e6⟩, hde⟩ := HH.out.base HB.out HN.out hk'
      have HDE := Lib.hid hde
      have HT := Lib.hid (cauL_take ws mask k hkw)
      have hok1 := HOK.out (ws.getD k wz) (by simp [List.getD, hkw])
      have hkey := okW_key hok1
      have hxl := okW_len hok1
      have HXD : Hid (∀ d ∈ (ws.getD k wz).xs, 0 ≤ d.k ∧ d.k ≤ 5) := fun d hd => (depsOk_each (okW_parts hok1).2.2 hd).1
      have HLL : Hid ((cauL (ws.take k) mask).length = 6) := cauF_len mask _ cz
      clear hok1 hde
      generalize cauL (ws.take k) mask = us at *
      generalize ws.getD k wz = x at *
      obtain ⟨xk, xc, xs', xq, xv, xd, xx⟩ := x
      simp only at e0 e1 e2 e3 e4 e5 e6 HT hkey hxl HDE HXD
      have HBX : Hid (Below wr.heap.size wr (wr.alloc (.cells #[.int .i64 xk, .int .i64 xc, .int .i64 xs', .int .i64 xq, .int .i64 xv, .bool xd, .slice ad xx.length cp] 33))) := (Below.refl _ _).alloc (Nat.le_refl _) _
      have HXX : Hid (WrAt (wr.alloc (.cells #[.int .i64 xk, .int .i64 xc, .int .i64 xs', .int .i64 xq, .int .i64 xv, .bool xd, .slice ad xx.length cp] 33)) wr.heap.size 0 ⟨xk, xc, xs', xq, xv, xd, xx⟩ ad cp) := by
        have h := heap_alloc_new wr (.cells #[.int .i64 xk, .int .i64 xc, .int .i64 xs', .int .i64 xq, .int .i64 xv, .bool xd, .slice ad xx.length cp] 33)
        refine ⟨?_, ?_, ?_, ?_, ?_, ?_, ?_⟩ <;> (rw [cell_of_row _ _ _ _ _ (0, 0) h]; rfl)
      have hxs : wr.heap.size < (wr.alloc (.cells #[.int .i64 xk, .int .i64 xc, .int .i64 xs', .int .i64 xq, .int .i64 xv, .bool xd, .slice ad xx.length cp] 33)).heap.size := by simp
      have HR2 := Lib.hid (row_below HR.out HBX.out)
      have HB2 := Lib.hid (below_step HB.out HB.out.size HBX.out)
      go_wp2_with fail
      generalize (wr.alloc (.cells #[.int .i64 xk, .int .i64 xc, .int .i64 xs', .int .i64 xq, .int .i64 xv, .bool xd, .slice ad xx.length cp] 33)) = V1 at *
      refine (wants_any mask ⟨xk, xc, xs', xq, xv, xd, xx⟩ ad cp _ hm0' hM hkey).mono ?_
      rintro e w3 ⟨rfl, hb⟩
      have HR3 := Lib.hid (row_below HR2.out hb)
      have HB3 := Lib.hid (below_step HB2.out HB2.out.size hb)
      have hx3 : wr.heap.size < w3.heap.size := Nat.lt_of_lt_of_le hxs hb.size
      have HX3 : Hid (WrAt w3 wr.heap.size 0 ⟨xk, xc, xs', xq, xv, xd, xx⟩ ad cp) := HXX.out.of_block (hb.block _ hxs)
      clear hb HXX HR2 HB2 HBX e0 e1 e2 e3 e4 e5 e6
      simp only
      by_cases hbit : bitB mask xk = true
      rotate_left
      · have hbf : bitB mask xk = false := by simpa using hbit
        rw [hbf]
        have HR4 : Hid (w3.rowIs B 112 18 (fillT (cauL (ws.take (k + 1)) mask))) := by
          rw [HT.out]
          unfold cauRun
          rw [if_neg (by simpa using hbf)]
          exact HR3
        clear hbit hbf
        go_wp2
        exact ⟨⟨k + 1, by omega, by go_num, HR4, HB3⟩, by simp [intOf]; omega⟩
      rw [hbit]
      have HT2 : Hid (cauL (ws.take (k + 1)) mask = xx.foldl putC (putC us ⟨xk, xc, xs', xq⟩)) := by
        rw [HT.out]
        unfold cauRun
        rw [if_pos hbit]
        exact Lib.hid rfl
      clear hbit HT
      obtain ⟨c0, c1, c2, c3, c4, c5, c6⟩ := HX3.out
      simp only [Nat.zero_add] at c0 c1 c2 c3 c4 c5 c6
      have hBl : B < w3.heap.size := HR3.out.lt
      have HBS : Hid (Below w3.heap.size w3 (w3.alloc (.cells #[.int .i64 xk, .int .i64 xc, .int .i64 xs', .int .i64 xq] 81))) := (Below.refl _ _).alloc (Nat.le_refl _) _
      have HR4 := Lib.hid (row_below HR3.out HBS.out)
      have HB4 := Lib.hid (below_step HB3.out HB3.out.size HBS.out)
      have HX4 : Hid (WrAt (w3.alloc (.cells #[.int .i64 xk, .int .i64 xc, .int .i64 xs', .int .i64 xq] 81)) wr.heap.size 0 ⟨xk, xc, xs', xq, xv, xd, xx⟩ ad cp) := HX3.out.of_block (HBS.out.block _ hx3)
      have hs4 : (w3.alloc (.cells #[.int .i64 xk, .int .i64 xc, .int .i64 xs', .int .i64 xq] 81)).heap.size = w3.heap.size + 1 := by simp
      have HD4 : Hid (IsDepsX B (w3.alloc (.cells #[.int .i64 xk, .int .i64 xc, .int .i64 xs', .int .i64 xq] 81)) (some ⟨w3.heap.size, 0, none⟩) [⟨xk, xc, xs', xq⟩]) := .inr ⟨w3.heap.size, 0, rfl, by omega, by rw [hs4]; omega, holds_one w3 ⟨xk, xc, xs', xq⟩ _⟩
      go_wp2_with fail
      generalize (w3.alloc (.cells #[.int .i64 xk, .int .i64 xc, .int .i64 xs', .int .i64 xq] 81)) = V2 at *
      refine (causAdd_any B us _ 1 1 [⟨xk, xc, xs', xq⟩] _ HLL.out rfl (by omega) (fun d hd => by have e : d = ⟨xk, xc, xs', xq⟩ := (by simpa using hd); rw [e]; exact hkey) HD4.out HR4.out).mono ?_
      rintro e w5 ⟨rfl, hr5, hh5⟩
      have HR5 : Hid (w5.rowIs B 112 18 (fillT (putC us ⟨xk, xc, xs', xq⟩))) := hr5
      have HB5 : Hid (Below w.heap.size w w5) := Hole.below HB4.out hh5 hsz1 HB4.out.size
      have hx4 : wr.heap.size < V2.heap.size := by rw [hs4]; omega
      have hne : wr.heap.size ≠ B := by have := HR.out.lt; omega
      have HX5 : Hid (WrAt w5 wr.heap.size 0 ⟨xk, xc, xs', xq, xv, xd, xx⟩ ad cp) := HX4.out.of_block (hh5.block _ hx4 hne)
      clear hr5 hh5 HR4 HB4 HD4 HX4 HBS c0 c1 c2 c3 c4 c5 c6
      obtain ⟨c0, c1, c2, c3, c4, c5, c6⟩ := HX5.out
      simp only [Nat.zero_add] at c0 c1 c2 c3 c4 c5 c6
      have HD5 : Hid (IsDepsX B w5 ad xx) := HDE.out.away HB5.out hsz1
      have HL5 : Hid ((putC us ⟨xk, xc, xs', xq⟩).length = 6) := by rw [putC_len]; exact HLL
      go_wp2_with fail
      refine (causAdd_any B _ ad xx.length cp xx _ HL5.out rfl (by omega) HXD.out HD5.out HR5.out).mono ?_
      rintro e w6 ⟨rfl, hr6, hh6⟩
      have HR6 : Hid (w6.rowIs B 112 18 (fillT (cauL (ws.take (k + 1)) mask))) := by rw [HT2.out]; exact hr6
      have HB6 : Hid (Below w.heap.size w w6) := Hole.below HB5.out hh6 hsz1 HB5.out.size
      clear hr6 hh6
      go_wp2
      exact ⟨⟨k + 1, by omega, by go_num, HR6, HB6⟩, by simp [intOf]; omega⟩
    · have hkk : k = n := by omega
      subst hkk
      have e : ws.take k = ws := List.take_of_length_le (by rw [HN.out]; exact Nat.le_refl _)
      rw [e] at HR
      obtain ⟨cs, hg, hT⟩ := tgs_of_row HR.out (cauF_len mask ws cz)
      have HTG := Lib.hid hT
      have s0 : (Tryz.prog.info? 112).map (·.size) = some cs.size := by rw [infoCauses, hT.1]
      have hB0 : B < wr.heap.size := HR.out.lt
      clear hT
      go_wp2_with (refine wpList_load_row rfl 112 _ rfl B rfl _ cs _ _ hg under_causes rfl s0 ?_)
      refine (causTold_any cs _ _ HTG.out).mono ?_
      rintro e w7 ⟨v7, rfl, hr7, hb⟩
      have HB7 := Lib.hid (below_step HB.out HB.out.size hb)
      have hsr : w.heap.size ≤ wr.heap.size := HB.out.size
      have HR7 := Lib.hid (hr7.mono hsr)
      clear hb hr7
      go_wp2
      go_ret
      exact ⟨_, rfl, by rw [HE.out]; exact HR7.out, HB7.out⟩

end Go.Proofs.YtbbmpfkijhhemaaGreatDoor

namespace Go.Proofs.YtbbmpfkijhhemaaGreatDoor
open Go.ChangeShapes Go.WideShapes Go.ChangeAt Go.RowKit Go.Joins

theorem cut_parts {ws : List Wr} (h : cutB ws = true) : mapOkB ws = true ∧ ∀ x ∈ ws, covB ws x.xs = true := by
  unfold cutB at h
  rw [Bool.and_eq_true] at h
  exact ⟨h.1, fun x hx => List.all_eq_true.1 h.2 x hx⟩

end Go.Proofs.YtbbmpfkijhhemaaGreatDoor

namespace Go.Proofs.YtbbmpfkijhhemaaGreatDoor
open Go.ChangeShapes Go.WideShapes Go.ChangeAt Go.RowKit Go.Joins
attribute [local go_sem ↓] Go.wp_at_zero Go.wp_at_succ

theorem ok_map {x : Sm} (h : smOkB x = true) : mapOkB x.ws = true := by
  unfold smOkB at h
  simp only [Bool.and_eq_true] at h
  exact (cut_parts h.1.1.1.1.1.1.1.2).1

end Go.Proofs.YtbbmpfkijhhemaaGreatDoor

namespace Go.Proofs.YtbbmpfkijhhemaaGreatDoor
open Go.ChangeShapes Go.WideShapes Go.ChangeAt Go.RowKit Go.Joins
attribute [local go_sem ↓] Go.wp_at_zero Go.wp_at_succ

end Go.Proofs.YtbbmpfkijhhemaaGreatDoor

namespace Go.Proofs.YtbbmpfkijhhemaaGreatDoor
open Go.ChangeShapes Go.WideShapes Go.ChangeAt Go.RowKit Go.Joins
set_option maxRecDepth 100000

structure RightS (x : Sm) : Prop where
  map : mapOkB x.ws = true
  si : 0 ≤ x.si ∧ x.si ≤ 3
  cl : 0 ≤ x.cl ∧ x.cl ≤ 100000
  sq : 0 ≤ x.sq ∧ x.sq ≤ 1000
  la : -1 ≤ x.la ∧ x.la ≤ 5
  t : x.t.size ≤ 60000

theorem back_bd (si : Int) : ∀ (ws : List Wr) (st : Int × Int), (∀ x ∈ ws, okW x = true) → (0 ≤ st.1 ∧ st.1 ≤ 1000 ∧ -1 ≤ st.2 ∧ st.2 ≤ 5) → (0 ≤ (backRun si st ws).1 ∧ (backRun si st ws).1 ≤ 1000 ∧ -1 ≤ (backRun si st ws).2 ∧ (backRun si st ws).2 ≤ 5)
  | [], _, _, h => h
  | x :: r, st, hx, h => by
    refine back_bd si r (backStep si st x) (fun y hy => hx y (by simp [hy])) ?_
    unfold backStep
    split
    · have h1 := okW_parts (hx x (by simp))
      have h2 := h1.2.1
      simp [tagOkB, btw] at h2
      simp only
      omega
    · exact h

theorem backF_bd (si : Int) : ∀ (bs : List (List Wr)) (st : Int × Int), (∀ b ∈ bs, okWs b = true) → (0 ≤ st.1 ∧ st.1 ≤ 1000 ∧ -1 ≤ st.2 ∧ st.2 ≤ 5) → (0 ≤ (bs.foldl (backRun si) st).1 ∧ (bs.foldl (backRun si) st).1 ≤ 1000 ∧ -1 ≤ (bs.foldl (backRun si) st).2 ∧ (bs.foldl (backRun si) st).2 ≤ 5)
  | [], _, _, h => h
  | b :: r, st, hb, h => backF_bd si r (backRun si st b) (fun c hc => hb c (by simp [hc])) (back_bd si b st (okWs_all (hb b (by simp))) h)

theorem right_of {x : Sm} (h : smOkB x = true) : RightS x := by
  have hm := ok_map h
  unfold smOkB at h
  simp only [Bool.and_eq_true, decide_eq_true_eq] at h
  obtain ⟨⟨⟨⟨⟨⟨⟨⟨h1, _⟩, h3⟩, h4⟩, _⟩, _⟩, h7⟩, h8⟩, _⟩ := h
  have hb : (backX x.si x.t).sq = (backF x.si (logOf x.t.data.toList)).1 ∧ (backX x.si x.t).la = (backF x.si (logOf x.t.data.toList)).2 := by
    unfold backX
    rw [if_pos h1]
    exact ⟨rfl, rfl⟩
  have hbd := backF_bd x.si (logOf x.t.data.toList) (0, -1) (logOf_is _).1 ⟨by decide, by decide, by decide, by decide⟩
  have e : backF x.si (logOf x.t.data.toList) = (logOf x.t.data.toList).foldl (backRun x.si) (0, -1) := rfl
  rw [← e, ← hb.1, ← hb.2, h7, h8] at hbd
  simp [btw] at h1 h4
  exact ⟨hm, by omega, by omega, by omega, by omega, h3⟩

def maskL (mask la : Int) : Int := if 0 ≤ la ∧ bitB mask la = false then mask + 2 ^ la.toNat else mask

theorem pow_six {k : Nat} (h : k ≤ 5) : (1 : Int) ≤ 2 ^ k ∧ (2 : Int) ^ k ≤ 32 := by
  have : k = 0 ∨ k = 1 ∨ k = 2 ∨ k = 3 ∨ k = 4 ∨ k = 5 := by omega
  rcases this with rfl | rfl | rfl | rfl | rfl | rfl <;> decide

theorem maskL_bd {mask la : Int} (h : 0 ≤ mask ∧ mask ≤ 63) (h2 : la ≤ 5) : 0 ≤ maskL mask la ∧ maskL mask la ≤ 95 := by
  unfold maskL
  split
  · rename_i hc
    have := pow_six (k := la.toNat) (by omega)
    omega
  · omega

def putWr (x : Sm) (key val : Int) (de : Bool) (mask : Int) : Wr := ⟨key, x.cl + 1, x.si, x.sq + 1, val, de, becB x.ws (maskL mask x.la)⟩

def putLog (x : Sm) (y : Wr) : ByteArray := x.t ++ str (batchT [y])

def putXs (x : Sm) (y : Wr) : Sm := ⟨x.si, y.c, y.q, y.k, putW x.ws y, putLog x y⟩

def putGo (x : Sm) (y : Wr) : Bool := okW y && decide ((putLog x y).size ≤ 60000)

def zeroWr : Array Value := #[.int .i64 0, .int .i64 0, .int .i64 0, .int .i64 0, .int .i64 0, .bool false, .slice none 0 0]

def WrZF (lo : Nat) : Fact := fun v w => ∃ b, v = .pointer (some ⟨b, 0, none⟩) ∧ lo ≤ b ∧ w.heap[b]? = some (.cells zeroWr 33 (0, 0))

theorem lasts_wrz (lo : Nat) : lasts (fun w w' => Below w.heap.size w w') (WrZF lo) := by
  rintro v w w' ⟨b, h1, h2, h3⟩ hr
  exact ⟨b, h1, h2, (hr.block b (Array.getElem?_eq_some_iff.1 h3).1).trans h3⟩

theorem wrz_mk (w : World) (lo : Nat) (h : lo ≤ w.heap.size) : WrZF lo (.pointer (some ⟨w.heap.size, 0, none⟩)) (w.alloc (.cells #[.int .i64 0, .int .i64 0, .int .i64 0, .int .i64 0, .int .i64 0, .bool false, .slice none 0 0] 33)) := ⟨_, rfl, h, heap_alloc_new w _⟩

theorem rbox_zero {w : World} {b ty : Nat} (h : w.heap[b]? = some (.cells zeroWr ty (0, 0))) : RBox w b 0 0 0 0 0 false none 0 0 := by
  have hlt : b < w.heap.size := (Array.getElem?_eq_some_iff.1 h).1
  refine ⟨hlt, ?_, ?_, ?_, ?_, ?_, ?_, ?_, fun o => by simp [World.frozen?, h]⟩ <;> (rw [cell_of_row _ _ _ _ ty (0, 0) h]; rfl)

theorem rowD_apart {w : World} {b base : Nat} {v : Value} {ds : List Dp} (hb : w.heap[b]? = some (.cells zeroWr 33 (0, 0))) (h : RowD w base v ds) : v.ownBlock ≠ some b := by
  intro e
  rcases h.2 with ⟨h1, -⟩ | ⟨g, cap, cur, h1, -, h3, -⟩
  · rw [h1] at e
    simp [Value.ownBlock] at e
  · rw [h1] at e
    have e2 : g = b := by simpa [Value.ownBlock] using e
    subst e2
    rw [hb] at h3
    injection h3 with h3
    injection h3 with _ h4 _
    exact absurd h4 (by decide)

def DepRF (base : Nat) (D : List Dp) : Fact := fun v w => ∃ a cp, v = .slice a D.length cp ∧ RowD w base v D

theorem lasts_depr (base : Nat) (D : List Dp) : lasts (fun w w' => Below w.heap.size w w') (DepRF base D) := by
  rintro v w w' ⟨a, cp, h1, h2⟩ hr
  exact ⟨a, cp, h1, h2.below hr⟩

def WrBF (base : Nat) (k c s q va : Int) (de : Bool) (D : List Dp) : Fact := fun v w => ∃ a cp, v = .agg #[.int .i64 k, .int .i64 c, .int .i64 s, .int .i64 q, .int .i64 va, .bool de, .slice a D.length cp] ∧ RowD w base (.slice a D.length cp) D

theorem lasts_wrb (base : Nat) (k c s q va : Int) (de : Bool) (D : List Dp) : lasts (fun w w' => Below w.heap.size w w') (WrBF base k c s q va de D) := by
  rintro v w w' ⟨a, cp, h1, h2⟩ hr
  exact ⟨a, cp, h1, h2.below hr⟩

end Go.Proofs.YtbbmpfkijhhemaaGreatDoor
