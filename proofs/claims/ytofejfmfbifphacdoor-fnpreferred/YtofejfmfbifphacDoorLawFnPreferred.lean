/- At every two codes the law FnPreferred answers true: the ring is the document's and lies in order; the nodes that are preferred are all nodes, each once; without one node the others come in the same order; the first is the same however many are asked for. -/
import Derived.Test.YtofejfmfbifphacDoorPrefA
import Derived.Test.YtofejfmfbifphacDoorPrefH
import Derived.Test.YtofejfmfbifphacDoorPrefQ
import Derived.Test.YtofejfmfbifphacDoorPreferI
import Derived.Test.YtofejfmfbifphacDoorPreferS
import Derived.Test.YtofejfmfbifphacDoorRingI
import Derived.Test.YtofejfmfbifphacDoorTie
import Derived.Test.YtofejfmfbifphacDoorCards
import Derived.LaidMore
import Derived.Stop.LaidErr
import Derived.Lib.LaidTab
import Derived.SevenTiedAt
namespace Go.Proofs.YtofejfmfbifphacDoor.lawPreferred
open Go.ChangeShapes Go.WideShapes Go.ChangeAt Go.RowKit Go.Joins
open Go.Proofs.YtofejfmfbifphacDoor.lawFnPreferred
attribute [local go_sem ↓] Go.wp_at_zero Go.wp_at_succ

set_option maxRecDepth 100000 in
set_option maxHeartbeats 8000000 in
theorem walk_small (a : Option Addr) (len cap : Nat) (a' : Option Addr) (len' cap' : Nat) (w : World) (h : Bytes w a len) (h' : Bytes w a' len') (hl : len ≤ 1048576) (hl' : len' ≤ 1048576) (ht : Tab w) :
    Calls Tryd.prog 3 #[.slice a len cap, .slice a' len' cap'] w fun e w' => e = .returned (.bool true) ∧ Below w.heap.size w w' := by
  have HO := Lib.hid (drawRingOf_any a len cap w h hl)
  have HY := Lib.hid h'
  have HT := Lib.hid ht
  have hlt : 0 < w.heap.size := ht.lt
  have d1 : decide (1048576 < len) = false := by simpa using hl
  have d2 : decide (1048576 < len') = false := by simpa using hl'
  clear h h' ht
  go_enter Tryd.func3, Tryd.ntmps3
  go_wp2_with fail
  refine (big_is _ _ _ false d1 (by unfold maxLen; omega) _).mono ?_
  rintro e w1 ⟨rfl, hw⟩
  subst w1
  go_wp2_with fail
  refine (big_is _ _ _ false d2 (by unfold maxLen; omega) _).mono ?_
  rintro e w1 ⟨rfl, hw⟩
  subst w1
  go_wp2_with fail
  refine HO.out.mono ?_
  rintro e w2 ⟨v, zs, m, rfl, hr, hz9, hb⟩
  obtain ⟨az, cz, rfl, -⟩ := hr.form
  have HI2 := Lib.hid hr.ints.1
  have HB2 := Lib.hid hb
  obtain ⟨n, hn⟩ : ∃ n, zs.length = n := ⟨_, rfl⟩
  have hcz := hr.room
  rw [hn] at hz9 hcz ⊢
  obtain ⟨hcz, hcm⟩ := hcz
  unfold maxLen at hcm
  have HN := Lib.hid hn
  clear hb hr HO hn d1 d2
  go_wp2_with fail
  refine (drawPrefer_any a' len' cap' _ (HY.out.below HB2.out) hl').mono ?_
  rintro e w3 ⟨vq, s, zq, rfl, hs, hb⟩
  have HI3 := Lib.hid (HI2.out.below hb)
  have HB3 : Hid (Below w.heap.size w w3) := below_step HB2.out HB2.out.size hb
  have HT3 := Lib.hid (HT.out.below HB3.out hlt)
  clear hb HI2 HB2
  go_wp2_with fail
  refine (implRingOf_any _ n _ zs m _ HN.out (by omega) HI3.out HT3.out).mono ?_
  rintro e w4 ⟨v4, rfl, hrow, hb⟩
  have hLn := ringB_len zs m
  obtain ⟨qs, hqs⟩ : ∃ qs, ringB zs m = qs := ⟨_, rfl⟩
  have HZS := Lib.hid hqs
  rw [hqs] at hrow hLn
  clear hqs
  obtain ⟨ag, cg, rfl, hg⟩ := hrow.form
  obtain ⟨L, hL⟩ : ∃ L, qs.length = L := ⟨_, rfl⟩
  rw [hL] at hLn ⊢
  have HLN := Lib.hid hL
  have HG4 : Hid (IsPts w4 ag qs) := hg.isPts
  have HB4 : Hid (Below w.heap.size w w4) := below_step HB3.out HB3.out.size hb
  have HI4 := Lib.hid (HI3.out.below hb)
  clear hb hrow hg hL HB3 HI3 HT3
  go_wp2_with fail
  refine (specRingOf_any _ n _ zs m _ HN.out (by omega) HI4.out).mono ?_
  rintro e w5 ⟨v5, rfl, hrow, hb⟩
  rw [HZS.out] at hrow
  obtain ⟨as_, cs, rfl, hg⟩ := hrow.form
  rw [HLN.out]
  have HS5 : Hid (IsPts w5 as_ qs) := hg.isPts
  have HG5 := Lib.hid (HG4.out.below hb)
  have HB5 : Hid (Below w.heap.size w w5) := below_step HB4.out HB4.out.size hb
  have HI5 := Lib.hid (HI4.out.below hb)
  clear hb hrow hg HB4 HI4 HG4
  go_wp2
  go_loopw [12] (fun i wr => ∃ k : Nat, k ≤ L ∧ i = .int .i64 k ∧ Hid (Below w5.heap.size w5 wr)) (fun i _ => L - (intOf i).toNat)
  case atStart => exact ⟨0, Nat.zero_le _, rfl, Below.refl _ _⟩
  case round =>
    obtain ⟨k, hk, rfl, HB⟩ := hrel
    by_cases hk' : k < L
    · obtain ⟨b, o, rfl, hz, e0, e1⟩ := HG5.out.at HB.out (show k < qs.length by rw [HLN.out]; exact hk')
      obtain ⟨b', o', rfl, hz', f0, f1⟩ := HS5.out.at HB.out (show k < qs.length by rw [HLN.out]; exact hk')
      have i1 : (0 : Int) ≤ (k : Int) := by omega
      have i2 : (k : Int) < (L : Int) := by omega
      by_cases k0 : k = 0
      · have hd : decide (0 < k) = false := by simp; omega
        clear k0
        generalize (qs.getD k pz).t = x at *
        generalize (qs.getD k pz).n = y at *
        go_wp2_with fail
        have ge0 := aft_cell hz e0
        have ge1 := aft_cell hz e1
        have gf0 := aft_cell hz' f0
        have gf1 := aft_cell hz' f1
        have ne := aft_some wr
        refine wp_region_aft (by kernel_rfl) (by kernel_rfl) ?_
        repeat (first | go_big_quiet_step (fail))
        refine wpQuiet_nil ?_
        intro wq hq
        have HBQ : Hid (Below w5.heap.size w5 wq) := below_step HB.out HB.out.size hq
        clear hq
        go_wp2
        exact ⟨⟨k + 1, by omega, by go_num, HBQ⟩, by simp [intOf]; omega⟩
      · obtain ⟨b2, o2, hb2, hz2, g0, -⟩ := HG5.out.at HB.out (show k - 1 < qs.length by rw [HLN.out]; omega)
        simp only [Option.some.injEq, Addr.mk.injEq, and_true] at hb2
        obtain ⟨rfl, rfl⟩ := hb2
        have hord : (qs.getD (k - 1) pz).t ≤ (qs.getD k pz).t := by
          have hh := ring_order zs m (i := k) (by omega) (by rw [HZS.out, HLN.out]; exact hk')
          rwa [HZS.out] at hh
        obtain ⟨q, hq⟩ : ∃ q, k - 1 = q := ⟨_, rfl⟩
        obtain rfl : k = q + 1 := by omega
        rw [hq] at g0 hord
        clear hq
        have j0 : (0 : Int) < ((q + 1 : Nat) : Int) := by omega
        have j1 : ((q + 1 : Nat) : Int) - 1 = (q : Int) := by omega
        have j2 : (0 : Int) ≤ (q : Int) := by omega
        have j3 : (q : Int) < (L : Int) := by omega
        generalize (qs.getD q pz).t = z at *
        generalize (qs.getD (q + 1) pz).t = x at *
        generalize (qs.getD (q + 1) pz).n = y at *
        have hd : decide (x < z) = false := by simp; omega
        go_wp2_with fail
        have ge0 := aft_cell hz e0
        have ge1 := aft_cell hz e1
        have gf0 := aft_cell hz' f0
        have gf1 := aft_cell hz' f1
        have gg0 := aft_cell hz2 g0
        have ne := aft_some wr
        refine wp_region_aft (by kernel_rfl) (by kernel_rfl) ?_
        repeat (first | go_big_quiet_step (fail))
        refine wpQuiet_nil ?_
        intro wq hq
        have HBQ : Hid (Below w5.heap.size w5 wq) := below_step HB.out HB.out.size hq
        clear hq
        go_wp2
        exact ⟨⟨q + 1 + 1, by omega, by go_num, HBQ⟩, by simp [intOf]; omega⟩
    · have hkk : k = L := by omega
      subst k
      have HB6 : Hid (Below w.heap.size w wr) := below_step HB5.out HB5.out.size HB.out
      have HG6 := Lib.hid (HG5.out.below HB.out)
      have HI6 := Lib.hid (HI5.out.below HB.out)
      clear hk hk' HB HB5 HG5 HI5 HS5
      by_cases hL0 : L = 0
      · have HP := Lib.hid (pref_none (HLN.out.trans hL0) (hashL s.data.toList) 9)
        have HRG : Hid (∀ i, i < qs.length → Rng64 (qs.getD i pz).n) := fun i hi => absurd hi (by rw [HLN.out]; omega)
        go_wp2_with fail
        refine (implPrefer_any _ _ _ qs s 9 _ (HLN.out.trans hL0) (by omega) (by omega) HRG.out HG6.out).mono ?_
        rintro e w7 ⟨v7, rfl, hrow, hb⟩
        have hrow' : RowI w7 wr.heap.size v7 (prefB qs (hashL s.data.toList) 9) := hrow
        rw [HP.out] at hrow'
        obtain ⟨ap, cp, rfl, -⟩ := hrow'.form
        simp only [List.length_nil]
        have HB7 : Hid (Below w.heap.size w w7) := below_step HB6.out HB6.out.size hb
        clear hb hrow hrow' HP
        go_wp2
        go_ret
        exact ⟨rfl, HB7.out⟩
      · have hp0 : 0 < (ringB zs m).length := by rw [HZS.out, HLN.out]; omega
        have hl0 : (ringB zs m).length ≤ 48 := by rw [HZS.out, HLN.out]; omega
        have HRG : Hid (∀ i, i < qs.length → Rng64 (qs.getD i pz).n) := by
          intro i hi
          rw [← HZS.out] at hi ⊢
          have := ring_at hi
          unfold Rng64
          omega
        have hn0 : 0 < n := by
          rw [← HN.out]
          exact List.length_pos_of_mem (ring_at hp0).2.2
        have hall := all_len hp0 hl0 (hashL s.data.toList)
        have HLESS : Hid (∀ k, k < zs.length → prefB (ringB (zs.take k ++ zs.drop (k + 1)) m) (hashL s.data.toList) 99 = (prefB (ringB zs m) (hashL s.data.toList) 99).filter fun z => decide (z ≠ zs.getD k 0)) := fun k hk => less_is hp0 hl0 (hashL s.data.toList) hk (ringB_len _ _)
        have hfirst := first_is (ps := qs) (by rw [HLN.out]; omega) (hashL s.data.toList)
        rw [HZS.out] at hall HLESS
        obtain ⟨ys, has⟩ : ∃ ys, prefB qs (hashL s.data.toList) 99 = ys := ⟨_, rfl⟩
        rw [has] at hall HLESS hfirst
        rw [HN.out] at hall
        have HAS := Lib.hid has
        have HAL := Lib.hid hall
        have HF := Lib.hid hfirst
        have l0 : ¬ ((L : Int) = 0) := by omega
        clear hp0 hl0 has hall hfirst
        go_wp2_with fail
        refine (implPrefer_any _ _ _ qs s 99 _ HLN.out (by omega) (by omega) HRG.out HG6.out).mono ?_
        rintro e w7 ⟨v7, rfl, hrow, hb⟩
        have hrow' : RowI w7 wr.heap.size v7 (prefB qs (hashL s.data.toList) 99) := hrow
        rw [HAS.out] at hrow'
        obtain ⟨ap, cp, rfl, -⟩ := hrow'.form
        rw [HAL.out]
        have HA7 := Lib.hid hrow'.ints.1
        have HB7 : Hid (Below w.heap.size w w7) := below_step HB6.out HB6.out.size hb
        have HG7 := Lib.hid (HG6.out.below hb)
        have HI7 := Lib.hid (HI6.out.below hb)
        clear hb hrow hrow' HB6 HG6 HI6
        go_wp2_with fail
        refine (specPrefer_any _ _ _ qs s 99 _ HLN.out (by omega) (by omega) HG7.out).mono ?_
        rintro e w8 ⟨v8, rfl, hrow, hb⟩
        have hrow' : RowI w8 w7.heap.size v8 (prefB qs (hashL s.data.toList) 99) := hrow
        rw [HAS.out] at hrow'
        obtain ⟨ax, cx, rfl, -⟩ := hrow'.form
        rw [HAL.out]
        have HX8 := Lib.hid hrow'.ints.1
        have HA8 := Lib.hid (HA7.out.below hb)
        have HB8 : Hid (Below w.heap.size w w8) := below_step HB7.out HB7.out.size hb
        have HG8 := Lib.hid (HG7.out.below hb)
        have HI8 := Lib.hid (HI7.out.below hb)
        clear hb hrow hrow' HB7 HG7 HI7 HA7
        go_wp2_with fail
        refine (same_any _ _ n _ _ ys _ HAL.out (by omega) HA8.out HX8.out).mono ?_
        rintro e w9 ⟨rfl, hb⟩
        have HA9 := Lib.hid (HA8.out.below hb)
        have HB9 : Hid (Below w.heap.size w w9) := below_step HB8.out HB8.out.size hb
        have HG9 := Lib.hid (HG8.out.below hb)
        have HI9 := Lib.hid (HI8.out.below hb)
        clear hb HB8 HG8 HI8 HA8 HX8
        go_wp2_with fail
        refine (pickL_any a' len' cap' n _ (HY.out.below HB9.out) hl' (by omega)).mono ?_
        rintro e w10 ⟨k, rfl, hk, hw⟩
        subst w10
        have hkn := hk (by omega)
        clear hk
        have HI9' : Hid (IsInts w9 az zs) := HI9
        obtain ⟨bz, rfl, hbz, -⟩ := HI9'.out.at (Below.refl _ _) (show 0 < zs.length by rw [HN.out]; omega)
        have HTK := Lib.hid (HI9.out.isIs.take k)
        obtain ⟨ad, had⟩ : ∃ ad, (if cz = k + 1 then some ⟨bz, 0, none⟩ else some ⟨bz, k + 1, none⟩ : Option Addr) = ad := ⟨_, rfl⟩
        have HDR : Hid (IsIs w9 ad (zs.drop (k + 1))) := by
          rw [← had]
          split
          · exact .inl (List.drop_eq_nil_of_le (by rw [HN.out]; omega))
          · exact HI9.out.drop (k + 1)
        have HAD := Lib.hid had
        clear had
        have htk : (zs.take k).length = k := by rw [List.length_take, HN.out]; omega
        have hdr : (zs.drop (k + 1)).length = n - (k + 1) := by rw [List.length_drop, HN.out]
        have k1 : (0 : Int) ≤ (k : Int) := by omega
        have k2 : (k : Int) ≤ (cz : Int) := by omega
        go_wp2_with fail
        refine wp_region_slots 9 [[], [(5, false)], [(14, false)], [(110, true), (111, true)], [(109, true), (112, true)], [(5, false)], [(14, false)], [(115, true)], [(114, true), (116, true)]] (fun w' => Below w9.heap.size w9 w') RowB (by kernel_rfl) (by kernel_rfl) (by rfl) (Below.refl _ _).drew (fun _ _ h hr => below_step h h.size hr) ?_
        refine slot_fact (EmptyF w9.heap.size) (lasts_emptyF _) ?_ ?_
        · intro ρ w' ⟨p1, p2, p3⟩ hS hn
          have hsz := hS.size
          go_simp
          exact ⟨(Below.refl _ _).alloc (Nat.le_refl _) _, emptyF_mk w' _ hsz⟩
        iterate 2 (apply slot_eq; · (intro ρ w' ⟨p1, p2, p3⟩ hS hn; simp at hn; go_simp; exact ⟨Below.refl _ _, rfl⟩))
        refine slot_eq (e := .slice (some ⟨bz, 0, none⟩) k cz) ?_ ?_
        · intro ρ w' ⟨p1, p2, p3⟩ hS hn
          simp at hn
          go_simp
          exact ⟨Below.refl _ _, rfl⟩
        refine slot_fact (FreshI w9.heap.size (zs.take k)) (lasts_fresh _ _) ?_ ?_
        · intro ρ w' ⟨p1, p2, p3⟩ hS hn
          simp at hn
          obtain ⟨⟨g, f109, hf⟩, f112⟩ := hn
          rw [f109] at hf
          exact got_append_first (.tmp 109) (.tmp 112) rfl _ g f109 hf _ k cz (zs.take k) htk f112 (HTK.out.below hS) (by omega) hS.size
        iterate 2 (apply slot_eq; · (intro ρ w' ⟨p1, p2, p3⟩ hS hn; simp at hn; go_simp; exact ⟨Below.refl _ _, rfl⟩))
        apply slot_eq
        · intro ρ w' ⟨p1, p2, p3⟩ hS hn
          simp at hn
          go_simp
          exact ⟨Below.refl _ _, rfl⟩
        refine slot_eq (e := .slice ad (n - (k + 1)) (cz - (k + 1))) ?_ ?_
        · intro ρ w' ⟨p1, p2, p3⟩ hS hn
          simp at hn
          have hw : IntKind.i64.wrap ((k : Int) + 1) = ((k + 1 : Nat) : Int) := by rw [IntKind.wrap_i64]; omega
          go_simp
          rw [if_pos ⟨by omega, by omega⟩, HAD.out]
          exact ⟨Below.refl _ _, rfl⟩
        refine slot_end ?_
        intro tv w10 hS hF
        simp at hF
        obtain ⟨f117, f116, f115, f114, ⟨hrow, g, cp2, f113, hgB, hgc⟩, f112, f111, f110, ⟨g0, f109, -⟩⟩ := hF
        rw [f113] at hrow
        rw [htk] at hrow f113 hgc
        have HROW := Lib.hid hrow
        have HDR2 := Lib.hid (HDR.out.below hS)
        have hs10 : w9.heap.size ≤ w10.heap.size := hS.size
        have HS10 := Lib.hid hS
        simp only [List.take_succ_cons, List.take_zero, List.drop_succ_cons, List.drop_zero, putAll, f117, f116, f115, f114, f113, f112, f111, f110, f109]
        clear f117 f116 f115 f114 f113 f112 f111 f110 f109 hS hrow HDR HI9' HTK
        simp only [Act.put, List.setIfInBounds_toArray, List.set_cons_succ, List.set_cons_zero]
        refine append_ints (by rfl) _ _ (by rfl) w9.heap.size g cp2 k (zs.take k) htk (by rfl) HROW.out hgc hgB _ _ (n - (k + 1)) (zs.drop (k + 1)) hdr (by rfl) HDR2.out (n - 1) (by omega) (by omega) hs10 ?_
        intro g' cap' w11 hrow hb
        have hb' : Below w9.heap.size w9 w11 := HS10.out.trans hb
        have HR11 := Lib.hid hrow.ints.1
        have HRL := Lib.hid hrow.ints.2
        have HA11 := Lib.hid (HA9.out.below hb')
        have HB11 : Hid (Below w.heap.size w w11) := below_step HB9.out HB9.out.size hb'
        have HG11 := Lib.hid (HG9.out.below hb')
        have HI11 := Lib.hid (HI9.out.below hb')
        have HT11 := Lib.hid (HT.out.below HB11.out hlt)
        have hless := HLESS.out k (by rw [HN.out]; exact hkn)
        have hrg0 : ∀ i, i < (ringB (zs.take k ++ zs.drop (k + 1)) m).length → Rng64 ((ringB (zs.take k ++ zs.drop (k + 1)) m).getD i pz).n := fun i hi => by have := ring_at hi; unfold Rng64; omega
        have hlen0 := ringB_len (zs.take k ++ zs.drop (k + 1)) m
        obtain ⟨rs, hrs⟩ : ∃ rs, zs.take k ++ zs.drop (k + 1) = rs := ⟨_, rfl⟩
        obtain ⟨x, hx0⟩ : ∃ x, zs.getD k 0 = x := ⟨_, rfl⟩
        rw [hrs] at HR11 HRL hless hrg0 hlen0
        rw [hx0] at hless
        obtain ⟨ps, hps⟩ : ∃ ps, ringB rs m = ps := ⟨_, rfl⟩
        rw [hps] at hless hrg0 hlen0
        have HPS := Lib.hid hps
        have HX0 := Lib.hid hx0
        have HRG2 := Lib.hid hrg0
        have HLS := Lib.hid hless
        obtain ⟨P, hP⟩ : ∃ P, ps.length = P := ⟨_, rfl⟩
        rw [hP] at hlen0
        have HPL := Lib.hid hP
        clear hrow hb hb' HROW HDR2 HS10 HA9 HB9 HG9 HI9 hless hrg0 hrs hx0 hps hP HLESS HAD hgB hgc htk hdr hs10 k2
        go_wp2_with fail
        refine (implRingOf_any _ (n - 1) _ rs m _ HRL.out (by omega) HR11.out HT11.out).mono ?_
        rintro e w12 ⟨v12, rfl, hrow, hb⟩
        rw [HPS.out] at hrow
        obtain ⟨ah, ch, rfl, hg⟩ := hrow.form
        rw [HPL.out]
        have HH12 : Hid (IsPts w12 ah ps) := hg.isPts
        have HA12 := Lib.hid (HA11.out.below hb)
        have HB12 : Hid (Below w.heap.size w w12) := below_step HB11.out HB11.out.size hb
        have HG12 := Lib.hid (HG11.out.below hb)
        have HI12 := Lib.hid (HI11.out.below hb)
        clear hb hrow hg HA11 HB11 HG11 HI11 HT11 HR11
        go_wp2_with fail
        refine (implPrefer_any _ P _ ps s 99 _ HPL.out (by omega) (by omega) HRG2.out HH12.out).mono ?_
        rintro e w13 ⟨v13, rfl, hrow, hb⟩
        have hrow' : RowI w13 w12.heap.size v13 (prefB ps (hashL s.data.toList) 99) := hrow
        rw [HLS.out] at hrow'
        obtain ⟨al, cl, rfl, -⟩ := hrow'.form
        obtain ⟨ls, hls⟩ : ∃ ls, ys.filter (fun z => decide (z ≠ x)) = ls := ⟨_, rfl⟩
        have hM0 : ls.length ≤ n := by rw [← hls, ← HAL.out]; exact List.length_filter_le _ _
        rw [hls] at hrow' ⊢
        have HLI := Lib.hid hls
        have HL13 := Lib.hid hrow'.ints.1
        obtain ⟨M, hM⟩ : ∃ M, ls.length = M := ⟨_, rfl⟩
        rw [hM] at hM0 ⊢
        have HM := Lib.hid hM
        have HA13 := Lib.hid (HA12.out.below hb)
        have HB13 : Hid (Below w.heap.size w w13) := below_step HB12.out HB12.out.size hb
        have HG13 := Lib.hid (HG12.out.below hb)
        have HI13 := Lib.hid (HI12.out.below hb)
        have hcle := fun j => cnt_le x ys j
        have HCL := Lib.hid hcle
        clear hb hrow hrow' hls hM hcle HA12 HB12 HG12 HI12 HH12 HLS
        go_wp2
        go_loopw [17, 18] (fun c i wr => ∃ j : Nat, j ≤ n ∧ i = .int .i64 j ∧ c = .int .i64 (cnt x ys j) ∧ Hid (Below w13.heap.size w13 wr)) (fun _ i _ => n - (intOf i).toNat)
        case atStart => exact ⟨0, Nat.zero_le _, rfl, by rw [cnt_zero]; rfl, Below.refl _ _⟩
        case round =>
          obtain ⟨j, hj, rfl, rfl, HB⟩ := hrel
          by_cases hj' : j < n
          · have hjy : j < ys.length := by rw [HAL.out]; exact hj'
            obtain ⟨ba, rfl, hza, ea⟩ := HA13.out.at HB.out hjy
            obtain ⟨bn, hbn, hzn, en⟩ := HI13.out.at HB.out (show k < zs.length by rw [HN.out]; exact hkn)
            simp only [Option.some.injEq, Addr.mk.injEq, and_true] at hbn
            subst hbn
            rw [HX0.out] at en
            have i1 : (0 : Int) ≤ (j : Int) := by omega
            have i2 : (j : Int) < (n : Int) := by omega
            have i3 : (k : Int) < (n : Int) := by omega
            have hcj := HCL.out j
            by_cases hx : ys.getD j 0 = x
            · have HC := Lib.hid (cnt_skip hjy hx)
              rw [hx] at ea
              generalize cnt x ys j = c at *
              clear hx
              go_wp2_with fail
              have ge0 := aft_cell hza ea
              have gf0 := aft_cell hzn en
              have ne := aft_some wr
              refine wp_region_aft (by kernel_rfl) (by kernel_rfl) ?_
              repeat (first | go_big_quiet_step (fail))
              refine wpQuiet_nil ?_
              intro wq hq
              have HBQ : Hid (Below w13.heap.size w13 wq) := below_step HB.out HB.out.size hq
              clear hq
              go_wp2
              exact ⟨⟨j + 1, by omega, by go_num, by rw [HC.out], HBQ⟩, by simp [intOf]; omega⟩
            · obtain ⟨hc1, hc2, hc3⟩ := cnt_next hjy hx
              rw [HLI.out] at hc2 hc3
              have HC := Lib.hid hc1
              obtain ⟨y, hy⟩ : ∃ y, ys.getD j 0 = y := ⟨_, rfl⟩
              rw [hy] at ea hx hc3
              have HY0 := Lib.hid hy
              have hcM : cnt x ys j < M := by rw [← HM.out]; exact hc2
              have HC2 := Lib.hid hc2
              have HC3 := Lib.hid hc3
              have nx : decide (y = x) = false := by simpa using hx
              clear hc1 hc2 hc3 hy
              generalize cnt x ys j = c at *
              go_wp2_with fail
              have ge0 := aft_cell hza ea
              have gf0 := aft_cell hzn en
              have ne := aft_some wr
              refine wp_region_aft (by kernel_rfl) (by kernel_rfl) ?_
              repeat (first | go_big_quiet_step (fail))
              refine wpQuiet_nil ?_
              intro wq hq
              have HBQ : Hid (Below w13.heap.size w13 wq) := below_step HB.out HB.out.size hq
              obtain ⟨bl, rfl, hzl, el⟩ := HL13.out.at HBQ.out HC2.out
              obtain ⟨b3, hb3, hza2, ea2⟩ := HA13.out.at HBQ.out hjy
              simp only [Option.some.injEq, Addr.mk.injEq, and_true] at hb3
              subst hb3
              rw [HC3.out] at el
              rw [HY0.out] at ea2
              have c1 : (0 : Int) ≤ (c : Int) := by omega
              have c2 : (c : Int) < (M : Int) := by omega
              have c3 : decide (M ≤ c) = false := by simp; omega
              clear hq ge0 gf0 ne ea en hza hzn
              go_wp2_with fail
              have ge0 := aft_cell hza2 ea2
              have gf0 := aft_cell hzl el
              have ne := aft_some wq
              refine wp_region_aft (by kernel_rfl) (by kernel_rfl) ?_
              repeat (first | go_big_quiet_step (fail))
              refine wpQuiet_nil ?_
              intro wp hq
              have HBP : Hid (Below w13.heap.size w13 wp) := below_step HBQ.out HBQ.out.size hq
              clear hq
              go_wp2
              exact ⟨⟨j + 1, by omega, by go_num, by rw [HC.out]; go_num, HBP⟩, by simp [intOf]; omega⟩
          · have hjj : j = n := by omega
            subst j
            have HCN : Hid (cnt x ys n = M) := by
              have h1 := cnt_all x ys
              rw [HAL.out, HLI.out, HM.out] at h1
              exact h1
            have HB14 : Hid (Below w.heap.size w wr) := below_step HB13.out HB13.out.size HB.out
            have HG14 := Lib.hid (HG13.out.below HB.out)
            have HA14 := Lib.hid (HA13.out.below HB.out)
            rw [HCN.out]
            clear hj hj' HB HB13 HG13 HA13 HL13 HI13
            go_wp2_with fail
            refine (implPrefer_any _ L _ qs s 2 _ HLN.out (by omega) (by omega) HRG.out HG14.out).mono ?_
            rintro e w15 ⟨v15, rfl, hrow, hb⟩
            have hrow' : RowI w15 wr.heap.size v15 (prefB qs (hashL s.data.toList) 2) := hrow
            obtain ⟨fs, hfs⟩ : ∃ fs, prefB qs (hashL s.data.toList) 2 = fs := ⟨_, rfl⟩
            obtain ⟨hf2, hf0, hfe⟩ := HF.out
            rw [hfs] at hrow' hf2 hf0 hfe
            obtain ⟨af, cf, rfl, -⟩ := hrow'.form
            have HB15 : Hid (Below w.heap.size w w15) := below_step HB14.out HB14.out.size hb
            have HA15 := Lib.hid (HA14.out.below hb)
            obtain ⟨bf, rfl, hzf, ef⟩ := hrow'.ints.1.at (Below.refl _ _) hf0
            obtain ⟨ba, rfl, hza, ea⟩ := HA15.out.at (Below.refl _ _) (show 0 < ys.length by rw [HAL.out]; exact hn0)
            rw [hfe] at ef
            obtain ⟨F, hF⟩ : ∃ F, fs.length = F := ⟨_, rfl⟩
            rw [hF] at hf2 hf0 ⊢
            generalize ys.getD 0 0 = y at *
            have c1 : (0 : Int) < (F : Int) := by omega
            have c2 : (0 : Int) < (n : Int) := by omega
            have c3 : (F : Int) ≤ 2 := by omega
            have c4 : decide (F ≤ 2) = true := by simp; omega
            clear hrow hrow' hb hfs hF hfe HB14 HG14 HA14 HA15 HF
            go_wp2_with fail
            have ge0 := aft_cell hza ea
            have gf0 := aft_cell hzf ef
            have ne := aft_some w15
            refine wp_region_aft (by kernel_rfl) (by kernel_rfl) ?_
            repeat (first | go_big_quiet_step (fail))
            refine wpQuiet_nil ?_
            intro wq hq
            have HBQ : Hid (Below w.heap.size w wq) := below_step HB15.out HB15.out.size hq
            clear hq
            go_wp2
            go_ret
            exact ⟨rfl, HBQ.out⟩

set_option maxRecDepth 100000 in
set_option maxHeartbeats 4000000 in
theorem walk_big (a : Option Addr) (len cap : Nat) (a' : Option Addr) (len' cap' : Nat) (w : World) (hm : len ≤ maxLen) (hm' : len' ≤ maxLen) (h : 1048576 < len ∨ 1048576 < len') :
    Calls Tryd.prog 3 #[.slice a len cap, .slice a' len' cap'] w fun e w' => e = .returned (.bool true) ∧ Below w.heap.size w w' := by
  by_cases h1 : 1048576 < len
  · have d1 : decide (1048576 < len) = true := by simpa using h1
    clear h h1
    go_enter Tryd.func3, Tryd.ntmps3
    go_wp2_with (go_at_call 4; refine (big_is _ _ _ true d1 hm _).mono ?_; rintro e w1 ⟨rfl, rfl⟩)
    go_ret
    exact ⟨rfl, Below.refl _ _⟩
  · have d1 : decide (1048576 < len) = false := by simpa using h1
    have d2 : decide (1048576 < len') = true := by simp; omega
    clear h h1
    go_enter Tryd.func3, Tryd.ntmps3
    go_wp2_with fail
    refine (big_is _ _ _ false d1 hm _).mono ?_
    rintro e w1 ⟨rfl, rfl⟩
    go_wp2_with fail
    refine (big_is _ _ _ true d2 hm' _).mono ?_
    rintro e w2 ⟨rfl, rfl⟩
    go_wp2
    go_ret
    exact ⟨rfl, Below.refl _ _⟩

set_option maxRecDepth 100000 in
theorem walk (a : Option Addr) (len cap : Nat) (a' : Option Addr) (len' cap' : Nat) (w : World) (hr : len ≤ maxLen ∧ Bytes w a len) (hr' : len' ≤ maxLen ∧ Bytes w a' len') (ht : Tab w) :
    Calls Tryd.prog 3 #[.slice a len cap, .slice a' len' cap'] w fun e w' => e = .returned (.bool true) ∧ Below w.heap.size w w' := by
  by_cases h : 1048576 < len ∨ 1048576 < len'
  · exact walk_big a len cap a' len' cap' w hr.1 hr'.1 h
  · exact walk_small a len cap a' len' cap' w hr.2 hr'.2 (by omega) (by omega) ht

abbrev laid := Rows.fnPreferredRow.laid

set_option maxRecDepth 100000 in
theorem door_met (os : Os) (args : Array Value) : laidMetH Tryd.prog laid ((World.doorLaid Tryd.prog 72 os).forCall (fun _ _ => 0) ⟨#[], args, []⟩).memory :=
  laidMetH_of_parts3 (fuel := 8) (laidMet_of_run' 8 (by kernel_rfl) (by kernel_rfl)) (by kernel_rfl) (by kernel_rfl)

set_option maxRecDepth 100000 in
theorem pow_same : (Rows.laid_internal_strconv_uint64pow10 : DataW Unit) = Lib.tabData .u64 Lib.pow10Tab := by kernel_rfl

set_option maxRecDepth 100000 in
theorem tab_of {W : World} (h : laidMetH Tryd.prog laid W) : Tab W := by
  rw [MakeChecks.laidMetH_plain _ _ _ (by kernel_rfl)] at h
  have h2 := h.tail.tail
  rw [pow_same] at h2
  exact Lib.tabIs_of_head gPow (by kernel_rfl) Tryd.underlying78 Tryd.underlying72 (by kernel_rfl) (by kernel_rfl) h2

set_option maxRecDepth 100000 in
theorem lifted (os : Os) (started : os.Started) (H : Type) (enc : TypeId × Value → H) :
    ReturnsInHanded {} Tryd.checked os 3 .any (fun w args => (Rows.fnPreferredSpec.pre enc Tryd.prog Tryd.f3 [] false w args ∧ laidMetH Tryd.prog laid w) ∧ sizedMet enc Tryd.prog Tryd.f3 (OpenSpec.ofChange Rows.fnPreferredSpec) false w args)
      (Rows.fnPreferredSpec.post enc Tryd.prog Tryd.f3 false true false false) := by
  refine returnsInHanded_of_change_and (C := Tryd.checked) (X := fun w _ => laidMetH Tryd.prog laid w) (fun _ _ _ hh h => h.of_heap hh) own started (by kernel_rfl) Tryd.func3
    (ChangeSpec.witness_shaped (enc := enc) (C := Tryd.checked) (os := os) (X := fun w _ => laidMetH Tryd.prog laid w) false (World.doorLaid Tryd.prog 72 os) #[.slice none 0 0, .slice none 0 0] 8 rfl (World.shaped_of_RefB (by kernel_rfl) (by kernel_rfl)) (by kernel_rfl) (by kernel_rfl) (by kernel_rfl) (door_met os _)) ?_
  intro W base args ds gs before hval0 hW _ _ hL _
  have hval : ∀ (j : Nat) t v, Tryd.f3.params[j]? = some t → args[j]? = some v → Value.okWide Tryd.prog W .any base t v := hval0
  have hW' := hW
  obtain ⟨p, q, hA0, hV, rfl, hfz, hnd⟩ := hW
  have hA : DataW.TrodAll enc Tryd.prog W 0 (fun _ => true) true Tryd.f3.params.toList args.toList ds p := hA0
  rw [Tryd.params3] at hA hval
  obtain ⟨v0, v1, d0, d1, p0, p1, rfl, rfl, rfl, h0, h1⟩ := trodAll_two hA
  have k0 := h0
  have lt0 : ∀ x ∈ p0, x.block < W.heap.size := by obtain ⟨m, hm⟩ := k0; exact DataW.trod_lt m _ _ _ hm
  have k1 := h1
  have lt1 : ∀ x ∈ p1, x.block < W.heap.size := by obtain ⟨m, hm⟩ := k1; exact DataW.trod_lt m _ _ _ hm
  obtain ⟨rfl, rfl⟩ := trodVars_none hV
  obtain ⟨a0, len0, cap0, hv0, hr0⟩ := open_bytes (hval 0 22 v0 rfl rfl) h0
  subst hv0
  obtain ⟨a1, len1, cap1, hv1, hr1⟩ := open_bytes (hval 1 22 v1 rfl rfl) h1
  subst hv1
  clear hA0 hval0
  refine (walk a0 len0 cap0 a1 len1 cap1 W hr0 hr1 (tab_of hL)).mono fun e W' ⟨he, bel⟩ => ?_
  subst he
  exact ⟨_, rfl, _, _, _, [], _, [], hW', trodAll_mk1 (shut_bool Tryd.underlying4 _), (trodAll_mk2 (Below.trod laidOut (by kernel_rfl) (of_decide_eq_true (by kernel_rfl)) k0 bel lt0) (Below.trod laidOut (by kernel_rfl) (of_decide_eq_true (by kernel_rfl)) k1 bel lt1)), rfl, bel.frame _, fun h => by cases h⟩

set_option maxRecDepth 100000 in
theorem over : Rows.fnPreferredRow.holds Tryd.pinned (OpenSpec.ofChange Rows.fnPreferredSpec) :=
  OpenClaim.holds_of_wide 3 Tryd.f3 rfl rfl rfl rfl rfl rfl rfl ⟨rfl, rfl, rfl, rfl, rfl⟩ rfl rfl rfl rfl rfl (by kernel_rfl) Tryd.func3 (by kernel_rfl)
    (of_decide_eq_true (by kernel_rfl)) (by unfold Func.isWrapper; rw [if_neg (by decide +kernel)]; exact ⟨rfl, rfl⟩)
    (fun os started H enc _ => lifted os started H enc)

set_option maxRecDepth 100000 in
theorem card : Rows.FnPreferredCardSaid :=
  Claim7.holds_tied_plain_at .later [] [.data, .data, .data] true Rows.fnPreferredCard.stood.harness Rows.fnPreferredCard.stood.looks
    over (fun _ h => by cases h) (by kernel_rfl) (fun _ h => by cases h) fnPreferred_row_tie rfl ⟨rfl, rfl⟩ (by kernel_rfl) rfl
    (fun f fn hf hfn => by
      obtain rfl : f = 3 := Option.some.inj ((show Tryd.prog.funcNamed Rows.fnPreferredRow.func = some 3 by kernel_rfl).symm.trans hf) |>.symm
      obtain rfl : fn = Tryd.f3 := (Option.some.inj (Tryd.func3.symm.trans hfn)).symm
      exact ⟨by kernel_rfl, fun j t ht => by
        rw [Tryd.params3] at ht
        have hm : t ∈ [22, 22] := by simpa using Array.mem_of_getElem? ht
        have hall : ([22, 22].all fun u => !Tryd.prog.wantsStandIn u) = true := by kernel_rfl
        exact (show Tryd.prog.wantsStandIn t = false by simpa using List.all_eq_true.1 hall t hm)⟩)
    (by kernel_rfl)

end Go.Proofs.YtofejfmfbifphacDoor.lawPreferred
namespace Go.Proofs.YtofejfmfbifphacDoor
theorem fnPreferred_holds : Rows.FnPreferredCardSaid := lawPreferred.card
#print axioms fnPreferred_holds
end Go.Proofs.YtofejfmfbifphacDoor
