import Derived.Test.YtbbmpfkijhhemaaGreatDoorPack12
import Derived.Shelf.Strings.Search3
import Derived.Shelf.Strings.Prefix
import Derived.Test.YtbbmpfkijhhemaaGreatDoorProg
import Derived.Test.YtbbmpfkijhhemaaGreatDoorPack7
import Derived.Test.YtbbmpfkijhhemaaGreatDoorPack9
import Derived.Test.YtbbmpfkijhhemaaGreatDoorPack8
import Derived.BigQuiet
import Derived.Shelf.LaysM
import Derived.Shelf.Strconv.Itoa3
namespace Go.Proofs.YtbbmpfkijhhemaaGreatDoor
open Go.ChangeShapes Go.WideShapes Go.ChangeAt Go.RowKit Go.Joins
set_option maxRecDepth 100000
attribute [local go_sem ↓] Go.wp_at_zero Go.wp_at_succ

theorem IsBs.base_lt {w : World} {b o : Nat} {a : Option Addr} {bs : List (List Wr)} {k : Nat} (h : IsBs w a bs) (hk : k < bs.length) (ha : a = some ⟨b, o, none⟩) : b < w.heap.size := by
  rcases h with h | ⟨b', o', ha', hlt, _⟩
  · subst h
    simp at hk
  · rw [ha'] at ha
    injection ha with ha
    injection ha with h1 _ _
    rw [← h1]
    exact hlt

theorem IsBs.elem {w w' : World} {b o : Nat} {bs : List (List Wr)} {k cap : Nat} {ad : Option Addr} (h : IsBs w (some ⟨b, o, none⟩) bs) (hk : k < bs.length) (hb : Below w.heap.size w w') (hc : w'.cell? ⟨b, o + k, none⟩ = some (.slice ad (bs.getD k []).length cap)) : IsWs w ad (bs.getD k []) := by
  rcases h with h | ⟨b', o', ha', hlt, hh⟩
  · subst h
    simp at hk
  · injection ha' with ha'
    injection ha' with h1 h2 _
    subst h1
    subst h2
    obtain ⟨a', cp, h3, h4⟩ := hh k hk
    have h5 := (World.cell?_of_block (a := ⟨b, o + k, none⟩) (hb.block b hlt)).trans h3
    rw [hc] at h5
    injection h5 with h5
    injection h5 with h6 _ _
    rw [h6]
    exact h4

theorem RowEs.holeE {w w' : World} {B base g cap : Nat} {es : List En} (h : RowEs w base g cap es) (hh : Hole B w w') (hB : B < base) : RowEs w' base g cap es :=
  h.aside hh ⟨by have := h.le; omega, fun e he _ => by have := (h.deps e he).1; omega⟩

theorem RowEs.monoE {w : World} {base base' g cap : Nat} {es : List En} (h : RowEs w base g cap es) (hb : base' ≤ base) : RowEs w base' g cap es where
  le := Nat.le_trans hb h.le
  lt := h.lt
  own := by
    refine ⟨h.own.1, ?_⟩
    rcases h.own.2 with h1 | ⟨g, cap, cur, h1, h2, h3⟩
    · exact .inl h1
    · exact .inr ⟨g, cap, cur, h1, Nat.le_trans hb h2, h3⟩
  deps := fun e he => ⟨Nat.le_trans hb (h.deps e he).1, (h.deps e he).2⟩

def RowFS (base : Nat) (m : List Wr) : Fact := fun v w => ∃ g cp es L, v = .slice (some ⟨g, 0, none⟩) L cp ∧ es.length = L ∧ es.map (·.x) = m ∧ RowEs w base g cp es

def BuiltFS (base : Nat) (si : Int) (t : ByteArray) (m : List Wr) : Fact := fun v w => ∃ g cp es L, v = shV si 0 0 (-1) (some ⟨g, 0, none⟩) L cp t ∧ es.length = L ∧ es.map (·.x) = m ∧ RowEs w base g cp es

theorem lasts_RowFS (base : Nat) (m : List Wr) : lasts (fun w w' => Below w.heap.size w w') (RowFS base m) := by
  rintro v w w' ⟨g, cp, es, L, h1, h2, h3, h4⟩ hr
  exact ⟨g, cp, es, L, h1, h2, h3, h4.below hr⟩

theorem lasts_BuiltFS (base : Nat) (si : Int) (t : ByteArray) (m : List Wr) : lasts (fun w w' => Below w.heap.size w w') (BuiltFS base si t m) := by
  rintro v w w' ⟨g, cp, es, L, h1, h2, h3, h4⟩ hr
  exact ⟨g, cp, es, L, h1, h2, h3, h4.below hr⟩

set_option maxHeartbeats 16000000 in
theorem specBack_any (si : Int) (s : ByteArray) (w : World) (hs : s.size ≤ 1048576) :
    Calls Tryz.prog 82 #[.int .i64 si, .string s] w fun e w' => ((btw si 0 3 = false ∧ e = .returned (shV 0 0 0 0 none 0 0 ⟨#[]⟩)) ∨ (btw si 0 3 = true ∧ ∃ bs g cp es L, e = .returned (shV si (clockL (replayW bs)) (backF si bs).1 (backF si bs).2 (some ⟨g, 0, none⟩) L cp (str (logT bs))) ∧ IsLog s.data.toList bs ∧ es.length = L ∧ es.map (·.x) = replayW bs ∧ RowEs w' w.heap.size g cp es)) ∧ Below w.heap.size w w' := by
  have HB0 : Hid (Below w.heap.size w (w.alloc (.cells #[.int .i64 0, .int .i64 0, .int .i64 0, .int .i64 0, .slice none 0 0, .string ⟨#[]⟩] 26))) := (Below.refl _ _).alloc (Nat.le_refl _) _
  have HZ0 : Hid (SBox (w.alloc (.cells #[.int .i64 0, .int .i64 0, .int .i64 0, .int .i64 0, .slice none 0 0, .string ⟨#[]⟩] 26)) w.heap.size 0 0 0 0 none 0 0 ⟨#[]⟩) := SBox.start w 0 0 0 0 none 0 0 ⟨#[]⟩ 26
  go_enter Tryz.func82, Tryz.ntmps82
  go_wp2_with fail
  generalize w.alloc (.cells #[.int .i64 0, .int .i64 0, .int .i64 0, .int .i64 0, .slice none 0 0, .string ⟨#[]⟩] 26) = W0 at *
  refine (site_any si _).mono ?_
  rintro e w1 ⟨rfl, hw⟩
  subst w1
  by_cases hsi : btw si 0 3 = true
  rotate_left
  · have hsf : btw si 0 3 = false := by simpa using hsi
    have HSF := Lib.hid hsf
    rw [hsf]
    clear hsi hsf
    obtain ⟨yl, y0, y1, y2, y3, y4, y5, yf⟩ := HZ0.out
    obtain ⟨W9, hW9⟩ : ∃ W9, putS W0 w.heap.size 0 0 0 0 none 0 0 ⟨#[]⟩ = W9 := ⟨_, rfl⟩
    have HS9 : Hid (SBox W9 w.heap.size 0 0 0 0 none 0 0 ⟨#[]⟩) := by rw [← hW9]; exact sbox_putS HZ0.out _ _ _ _ _ _ _ _
    have HB9 : Hid (Below w.heap.size w W9) := by rw [← hW9]; exact Hole.below HB0.out (hole_putS (Hole.refl _ _) _ _ _ _ _ _ _ _) (Nat.le_refl _) HB0.out.size
    unfold putS at hW9
    go_wp2_with fail
    try rw [hW9]
    clear hW9 y0 y1 y2 y3 y4 y5 yf yl
    obtain ⟨yl, y0, y1, y2, y3, y4, y5, yf⟩ := HS9.out
    exact bodyPost_ret (v := shV 0 0 0 0 none 0 0 ⟨#[]⟩) (by simp [results, Tryz.results82, shV, go_sem, y0, y1, y2, y3, y4, y5]) rfl ⟨.inl ⟨HSF.out, rfl⟩, HB9.out⟩
  have HSI := Lib.hid hsi
  rw [hsi]
  clear hsi
  go_wp2_with fail
  refine (specLog_any s _ hs).mono ?_
  rintro e w3 ⟨ba, bc, bat, rfl, hlog, hbn, hown, hb⟩
  have HLG := Lib.hid hlog
  have HFB := Lib.hid (fewB_log hlog.1)
  have HIB : Hid (IsBs w3 ba (batsOf bat)) := hown.isBs HFB.out
  have hpl : (logT (batsOf bat)).length ≤ s.size := by
    have := hlog.2.1.length_le
    simpa using this
  have HTX : Hid (s.extract 0 (logT (batsOf bat)).length = str (logT (batsOf bat))) := extract_pre hlog.2.1
  have HBN : Hid ((batsOf bat).length = bat.length) := by simp [batsOf, Hid]
  have HB3 := Lib.hid (below_step HB0.out HB0.out.size hb)
  have HZ3 := Lib.hid (HZ0.out.below hb)
  have hz3 : w.heap.size < w3.heap.size := HZ3.out.lt
  have hn3 : bat.length ≤ 1048576 := by omega
  clear hb hown hlog HB0 HZ0 hbn
  generalize batsOf bat = bs at *
  generalize bat.length = n at *
  obtain ⟨pp, hpp⟩ : ∃ pp, pp = (logT bs).length := ⟨_, rfl⟩
  rw [← hpp] at HTX hpl
  rw [← hpp]
  clear hpp
  have p0 : (0 : Int) ≤ (pp : Int) := by omega
  have p1 : (pp : Int) ≤ (s.size : Int) := by omega
  have HOK : Hid (∀ x ∈ replayW bs, okW x = true) := ((mapOk_iff _).1 (replay_ok bs)).1
  have HRL := Lib.hid (mapOk_len (replay_ok bs))
  have HFR := Lib.hid (ok_few (replay_ok bs))
  go_wp2_with fail
  refine wp_region_slots 8 [[(0, false)], [(5, false)], [(21, true)], [(1, false)], [(6, false)], [(23, true), (24, true)], [(20, true), (22, true), (25, true)], []] (fun w' => Below w3.heap.size w3 w') (fun w w' => Below w.heap.size w w') (by kernel_rfl) (by kernel_rfl) (by rfl) (Below.refl _ _).drew (fun _ _ h hr => below_step h h.size hr) ?_
  iterate 2 (apply slot_eq; · (intro ρ w' ⟨p1, p2, p3⟩ hS hn; simp at hn; go_simp; exact ⟨Below.refl _ _, rfl⟩))
  refine slot_fact (RowFS w3.heap.size (replayW bs)) (lasts_RowFS _ _) ?_ ?_
  · intro ρ w' ⟨p1, p2, p3⟩ hS hn
    simp at hn
    go_simp
    exact got_call (specReplay_any ba n bc bs w' HBN.out hn3 HFB.out (HIB.out.below hS)) fun e w'' ⟨g, cp, es, L, he, hl, hm, hr, hb⟩ => ⟨_, he, hb, g, cp, es, L, rfl, hl, hm, hr.mono hS.size⟩
  iterate 3 (apply slot_eq; · (intro ρ w' ⟨p1, p2, p3⟩ hS hn; simp at hn; go_simp; exact ⟨Below.refl _ _, rfl⟩))
  refine slot_fact (BuiltFS w3.heap.size si (s.extract 0 pp) (replayW bs)) (lasts_BuiltFS _ _ _ _) ?_ ?_
  · intro ρ w' ⟨p1, p2, p3⟩ hS hn
    simp at hn
    obtain ⟨f20, ⟨g, cp, es, L, f22, hl, hm, hr⟩, f25⟩ := hn
    go_simp
    exact ⟨Below.refl _ _, g, cp, es, L, rfl, hl, hm, hr⟩
  refine slot_fact (ShimF w3.heap.size) (lasts_shim _) ?_ ?_
  · intro ρ w' ⟨p1, p2, p3⟩ hS hn
    have hsz := hS.size
    go_simp
    exact ⟨(Below.refl _ _).alloc (Nat.le_refl _) _, shim_mk w' _ hsz⟩
  refine slot_end ?_
  intro tv w5 hS hF
  simp at hF
  obtain ⟨⟨b, f7, hbl, hbox⟩, ⟨g, cp, es, L, f26, hl, hm, hr⟩, f25, f24, f23, ⟨g2, cp2, es2, L2, f22, -, -, -⟩, f21, f20⟩ := hF
  simp only [List.take_succ_cons, List.take_zero, List.drop_succ_cons, List.drop_zero, putAll, f7, f26, f25, f24, f23, f22, f21, f20]
  clear f7 f26 f25 f24 f23 f22 f21 f20
  simp only [Act.put, List.setIfInBounds_toArray, List.set_cons_succ, List.set_cons_zero]
  have HOE : Hid (∀ e ∈ es, okW e.x = true) := fun e he => HOK.out _ (by rw [← hm]; exact List.mem_map_of_mem he)
  have HAP := Lib.hid (hr.apartS hbox HOE.out)
  have HM := Lib.hid hm
  have HL := Lib.hid hl
  have HB5 := Lib.hid hS
  have HX5 := Lib.hid (sbox_zero hbox)
  have HR5 := Lib.hid hr
  clear hS hbox hr hm hl
  obtain ⟨yl, y0, y1, y2, y3, y4, y5, yf⟩ := HX5.out
  obtain ⟨W6, hW6⟩ : ∃ W6, putS w5 b si 0 0 (-1) (some ⟨g, 0, none⟩) L cp (s.extract 0 pp) = W6 := ⟨_, rfl⟩
  have HX6 : Hid (SBox W6 b si 0 0 (-1) (some ⟨g, 0, none⟩) L cp (s.extract 0 pp)) := by rw [← hW6]; exact sbox_putS HX5.out _ _ _ _ _ _ _ _
  have hH6 : Hole b w5 W6 := by rw [← hW6]; exact hole_putS (Hole.refl _ _) _ _ _ _ _ _ _ _
  have HR6 : Hid (RowEs W6 w3.heap.size g cp es) := HR5.out.aside hH6 HAP.out
  have HB6 : Hid (Below w3.heap.size w3 W6) := Hole.below HB5.out hH6 hbl HB5.out.size
  unfold putS at hW6
  unfold shV
  obtain ⟨ul, u0, u1, u2, u3, u4, u5, uf⟩ := HX6.out
  have HIW : Hid (IsWs W6 (some ⟨g, 0, none⟩) (replayW bs)) := HR6.out.isWs HM.out HFR.out
  have HLN : Hid ((replayW bs).length = L) := by rw [← HM.out, List.length_map]; exact HL
  have hL6 : L ≤ 6 := by rw [← HLN.out]; exact HRL.out
  go_wp2_with fail
  clear hW6 hH6 y0 y1 y2 y3 y4 y5 yf yl HX5 HR5 HB5
  refine (clock_any _ L cp _ _ HLN.out (by omega) HIW.out).mono ?_
  rintro e w7 ⟨rfl, hw⟩
  subst w7
  have HB7 := HB6
  have HX7 := HX6
  have HR7 := HR6
  have z0 := u0
  clear HIW
  obtain ⟨cl, hcl⟩ : ∃ cl, cl = clockL (replayW bs) := ⟨_, rfl⟩
  rw [← hcl]
  have HCL := Lib.hid hcl
  clear hcl
  have HX8 : Hid (SBox (W6.setCell ⟨b, 1, none⟩ (.int .i64 cl)) b si cl 0 (-1) (some ⟨g, 0, none⟩) L cp (s.extract 0 pp)) := HX7.out.set1 cl
  have HR8 : Hid (RowEs (W6.setCell ⟨b, 1, none⟩ (.int .i64 cl)) w3.heap.size g cp es) := HR7.out.aside ((Hole.refl _ _).set 1 _) HAP.out
  have HB8 : Hid (Below w3.heap.size w3 (W6.setCell ⟨b, 1, none⟩ (.int .i64 cl))) := Hole.below HB7.out ((Hole.refl _ _).set 1 _) hbl HB7.out.size
  go_wp2
  generalize (W6.setCell ⟨b, 1, none⟩ (.int .i64 cl)) = W8 at *
  clear HX7 HR7 HB7 HX6 HR6 HB6 u0 u1 u2 u3 u4 u5 uf ul z0
  go_loopw [8] (fun i wr => ∃ (k : Nat) (sq la : Int), k ≤ n ∧ i = .int .i64 k ∧ Hid (backF si (bs.take k) = (sq, la)) ∧ Hid (SBox wr b si cl sq la (some ⟨g, 0, none⟩) L cp (s.extract 0 pp)) ∧ Hid (RowEs wr w3.heap.size g cp es) ∧ Hid (Below w3.heap.size w3 wr)) (fun i _ => n - (intOf i).toNat)
  case atStart => exact ⟨0, 0, -1, Nat.zero_le _, rfl, rfl, HX8, HR8, HB8⟩
  case round =>
    clear HX8 HR8 HB8
    obtain ⟨k, sq, la, hk, rfl, HSQ, HX, HR, HB⟩ := hrel
    obtain ⟨W1, rfl⟩ : ∃ W1, W1 = wr := ⟨wr, rfl⟩
    by_cases hk' : k < n
    · have hkk : k < bs.length := by rw [HBN.out]; exact hk'
      have i1 : (0 : Int) ≤ (k : Int) := by omega
      have i2 : (k : Int) < (n : Int) := by omega
      obtain ⟨b1, o1, ad, cpd, rfl, hz, e0, hw⟩ := HIB.out.at HB.out hkk
      obtain ⟨hl, hf⟩ := HFB.out k hkk
      have HTK := Lib.hid (backF_take si bs k hkk)
      rw [HSQ.out] at HTK
      have HQ3 : Hid (∃ ad', some (⟨b1, o1, none⟩ : Addr) = some ⟨b1, o1, none⟩ ∧ ad' = ad) := ⟨ad, rfl, rfl⟩
      have HB1 := Lib.hid HB.out
      clear hf
      generalize hwsx : bs.getD k [] = ws at *
      have HWSX := Lib.hid hwsx
      clear hwsx
      have HW := Lib.hid hw
      clear hw HQ3
      obtain ⟨q, hq⟩ : ∃ q, ws.length = q := ⟨_, rfl⟩
      rw [hq] at e0 hl
      have HQ := Lib.hid hq
      clear hq
      have hb1 : b1 < w3.heap.size := HIB.out.base_lt hkk rfl
      have HE0 : Hid (∀ w', Below w3.heap.size W1 w' → w'.cell? ⟨b1, o1 + k, none⟩ = some (.slice ad q cpd)) := fun w' hb => (World.cell?_of_block (hb.block b1 hb1)).trans e0
      have HWB : Hid (IsWs w3 ad ws) := by rw [← HWSX.out]; exact HIB.out.elem hkk HB1.out (by rw [HWSX.out, HQ.out]; exact e0)
      go_wp2
      go_loopw [9] (fun i wq => ∃ (p : Nat) (sq2 la2 : Int), p ≤ q ∧ i = .int .i64 p ∧ Hid (backRun si (sq, la) (ws.take p) = (sq2, la2)) ∧ Hid (SBox wq b si cl sq2 la2 (some ⟨g, 0, none⟩) L cp (s.extract 0 pp)) ∧ Hid (RowEs wq w3.heap.size g cp es) ∧ Hid (Below w3.heap.size w3 wq) ∧ Hid (Below w3.heap.size W1 wq)) (fun i _ => q - (intOf i).toNat)
      case atStart => exact ⟨0, sq, la, Nat.zero_le _, rfl, rfl, HX, HR, HB, Below.refl _ _⟩
      case round =>
        clear HX HR HB
        obtain ⟨p, sq2, la2, hp, rfl, HS2, HX, HR, HB, HBW⟩ := hrel
        have e1 := HE0.out _ HBW.out
        have hb1r : b1 < wr.heap.size := Nat.lt_of_lt_of_le hb1 HB.out.size
        by_cases hp' : p < q
        · have hpp2 : p < ws.length := by rw [HQ.out]; exact hp'
          have j1 : (0 : Int) ≤ (p : Int) := by omega
          have j2 : (p : Int) < (q : Int) := by omega
          obtain ⟨b2, o2, ad2, cp2, rfl, hz2, ⟨c0, c1, c2, c3, c4, c5, c6⟩, hd⟩ := HWB.out.at HB.out HQ.out hp'
          have HS3 := Lib.hid (backRun_take si ws (sq, la) p hpp2)
          rw [HS2.out] at HS3
          clear hd
          generalize ws.getD p wz = x at *
          obtain ⟨xk, xc, xs', xq, xv, xd, xx⟩ := x
          simp only at c0 c1 c2 c3 c4 c5 c6
          have HBX : Hid (Below wr.heap.size wr (wr.alloc (.cells #[.int .i64 xk, .int .i64 xc, .int .i64 xs', .int .i64 xq, .int .i64 xv, .bool xd, .slice ad2 xx.length cp2] 33))) := (Below.refl _ _).alloc (Nat.le_refl _) _
          have HX2 := Lib.hid (HX.out.below HBX.out)
          have HR2 := Lib.hid (HR.out.below HBX.out)
          have HB2 := Lib.hid (below_step HB.out HB.out.size HBX.out)
          have HBW2 : Hid (Below w3.heap.size W1 (wr.alloc (.cells #[.int .i64 xk, .int .i64 xc, .int .i64 xs', .int .i64 xq, .int .i64 xv, .bool xd, .slice ad2 xx.length cp2] 33))) := HBW.out.trans (HBX.out.mono HB.out.size)
          have HWX : Hid (WrAt (wr.alloc (.cells #[.int .i64 xk, .int .i64 xc, .int .i64 xs', .int .i64 xq, .int .i64 xv, .bool xd, .slice ad2 xx.length cp2] 33)) wr.heap.size 0 ⟨xk, xc, xs', xq, xv, xd, xx⟩ ad2 cp2) := by
            have h := heap_alloc_new wr (.cells #[.int .i64 xk, .int .i64 xc, .int .i64 xs', .int .i64 xq, .int .i64 xv, .bool xd, .slice ad2 xx.length cp2] 33)
            refine ⟨?_, ?_, ?_, ?_, ?_, ?_, ?_⟩ <;> (rw [cell_of_row _ _ _ _ _ (0, 0) h]; rfl)
          have hne : wr.heap.size ≠ b := by have := HX.out.lt; omega
          obtain ⟨yl, y0, y1, y2, y3, y4, y5, yf⟩ := HX2.out
          by_cases hc : xs' = si ∧ sq2 < xq
          · have HS4 : Hid (backRun si (sq, la) (ws.take (p + 1)) = (xq, xk)) := by rw [HS3.out]; unfold backStep; rw [if_pos hc]; exact Lib.hid rfl
            obtain ⟨rfl, hlt⟩ := hc
            have HX3 := Lib.hid ((HX2.out.set2 xq).set3 xk)
            have HH3 := Lib.hid (((Hole.refl b (wr.alloc (.cells #[.int .i64 xk, .int .i64 xc, .int .i64 xs', .int .i64 xq, .int .i64 xv, .bool xd, .slice ad2 xx.length cp2] 33))).set 2 (.int .i64 xq)).set 3 (.int .i64 xk))
            have HR3 := Lib.hid (HR2.out.aside HH3.out HAP.out)
            have HB3' := Lib.hid (Hole.below HB2.out HH3.out hbl HB2.out.size)
            have HBW3 := Lib.hid (Hole.below HBW2.out HH3.out hbl HB2.out.size)
            go_wp2
            exact ⟨⟨p + 1, _, _, by omega, by go_num, HS4, HX3, HR3, HB3', HBW3⟩, by simp [intOf]; omega⟩
          · have HS4 : Hid (backRun si (sq, la) (ws.take (p + 1)) = (sq2, la2)) := by rw [HS3.out]; unfold backStep; rw [if_neg hc]; exact Lib.hid rfl
            by_cases h1 : xs' = si
            · subst h1
              have h2 : ¬ sq2 < xq := fun h => hc ⟨rfl, h⟩
              clear hc
              go_wp2
              exact ⟨⟨p + 1, _, _, by omega, by go_num, HS4, HX2, HR2, HB2, HBW2⟩, by simp [intOf]; omega⟩
            · clear hc
              go_wp2
              exact ⟨⟨p + 1, _, _, by omega, by go_num, HS4, HX2, HR2, HB2, HBW2⟩, by simp [intOf]; omega⟩
        · have hpp3 : p = q := by omega
          subst hpp3
          have HS4 : Hid (backF si (bs.take (k + 1)) = (sq2, la2)) := by
            have h := HS2.out
            rw [List.take_of_length_le (by rw [HQ.out]; exact Nat.le_refl _)] at h
            exact HTK.out.trans h
          go_wp2
          exact ⟨⟨k + 1, _, _, by omega, by go_num, HS4, HX, HR, HB⟩, by simp [intOf]; omega⟩
    · have hkk : k = n := by omega
      subst hkk
      have HSB : Hid (backF si bs = (sq, la)) := by
        have h := HSQ.out
        rw [List.take_of_length_le (by rw [HBN.out]; exact Nat.le_refl _)] at h
        exact h
      have HZ := Lib.hid (HZ3.out.below HB.out)
      have hwb : w.heap.size ≠ b := by omega
      obtain ⟨xl, x0, x1, x2, x3, x4, x5, xf⟩ := HX.out
      obtain ⟨yl, y0, y1, y2, y3, y4, y5, yf⟩ := HZ.out
      obtain ⟨W9, hW9⟩ : ∃ W9, putS W1 w.heap.size si cl sq la (some ⟨g, 0, none⟩) L cp (s.extract 0 pp) = W9 := ⟨_, rfl⟩
      have HS9 : Hid (SBox W9 w.heap.size si cl sq la (some ⟨g, 0, none⟩) L cp (s.extract 0 pp)) := by rw [← hW9]; exact sbox_putS HZ.out _ _ _ _ _ _ _ _
      have hH9 : Hole w.heap.size W1 W9 := by rw [← hW9]; exact hole_putS (Hole.refl _ _) _ _ _ _ _ _ _ _
      have HB9 : Hid (Below w.heap.size w W9) := Hole.below (HB3.out.trans (HB.out.mono (by omega))) hH9 (Nat.le_refl _) (by omega)
      have HR9 : Hid (RowEs W9 w3.heap.size g cp es) := HR.out.holeE hH9 hz3
      unfold putS at hW9
      go_wp2_with fail
      try rw [hW9]
      clear hW9 hH9 x0 x1 x2 x3 x4 x5 xf xl y0 y1 y2 y3 y4 y5 yf yl HX HR HZ
      obtain ⟨yl, y0, y1, y2, y3, y4, y5, yf⟩ := HS9.out
      refine bodyPost_ret (v := shV si cl sq la (some ⟨g, 0, none⟩) L cp (s.extract 0 pp)) (by simp [results, Tryz.results82, shV, go_sem, y0, y1, y2, y3, y4, y5]) rfl ⟨.inr ⟨HSI.out, bs, g, cp, es, L, ?_, HLG.out, HL.out, HM.out, HR9.out.monoE (by omega)⟩, HB9.out⟩
      rw [HSB.out, HCL.out, HTX.out]

end Go.Proofs.YtbbmpfkijhhemaaGreatDoor

namespace Go.Proofs
open Go.Shelf
def Tryz.lays143_ren : Go.Shelf.Ren := ⟨fun | 143 => 197 | 219 => 206 | 217 => 216 | 225 => 217 | 224 => 218 | 267 => 219 | 266 => 237 | 314 => 238 | n => n, fun | 9 => 9 | 3 => 3 | 4 => 4 | 5 => 5 | 46 => 147 | 146 => 263 | 51 => 224 | n => n, fun | 1 => 5 | n => n⟩
theorem Tryz.lays143 : Go.Proofs.Lays.n143 Tryz.prog Tryz.lays143_ren := {
  mixed := by kernel_rfl
  f143 := Tryz.func197.trans (congrArg some (by kernel_rfl))
  f217 := Tryz.func216.trans (congrArg some (by kernel_rfl))
  f219 := Tryz.func206.trans (congrArg some (by kernel_rfl))
  f224 := Tryz.func218.trans (congrArg some (by kernel_rfl))
  f225 := Tryz.func217.trans (congrArg some (by kernel_rfl))
  f266 := Tryz.func237.trans (congrArg some (by kernel_rfl))
  f267 := Tryz.func219.trans (congrArg some (by kernel_rfl))
  f314 := Tryz.func238.trans (congrArg some (by kernel_rfl))
  t3 := Tryz.underlying3
  a3 := Tryz.isAgg3
  z3 := Tryz.sizeOf3
  v3 := Tryz.zeroValue3
  t4 := Tryz.underlying4
  a4 := Tryz.isAgg4
  z4 := Tryz.sizeOf4
  v4 := Tryz.zeroValue4
  t5 := Tryz.underlying5
  a5 := Tryz.isAgg5
  z5 := Tryz.sizeOf5
  v5 := Tryz.zeroValue5
  t9 := Tryz.underlying9
  a9 := Tryz.isAgg9
  z9 := Tryz.sizeOf9
  v9 := Tryz.zeroValue9
  t46 := Tryz.underlying147
  a46 := Tryz.isAgg147
  z46 := Tryz.sizeOf147
  v46 := Tryz.zeroValue147
  t51 := Tryz.underlying224
  a51 := Tryz.isAgg224
  z51 := Tryz.sizeOf224
  v51 := Tryz.zeroValue224
  t146 := Tryz.underlying263
  a146 := Tryz.isAgg263
  z146 := Tryz.sizeOf263
  v146 := Tryz.zeroValue263
  g1 := by kernel_rfl }
open Go.RowKit Go.Lib in
theorem Tryz.strings_Index_one (s : ByteArray) (c : UInt8) (w : World) :
    Calls Tryz.prog 197 #[.string s, .string ⟨#[c]⟩] w fun e w' => e = .returned (.int .i64 (Lib.indexByte s.data.toList c)) ∧ w' = w := Any.strings_Index_one Tryz.lays143 s c w
open Go.RowKit Go.Lib in
theorem Tryz.strings_Index (s sub : ByteArray) (m : Int) (w : World) (hs : s.size < 4294967281) (hm : w.cell? ⟨5, 0, none⟩ = some (.int .i64 m)) :
    Calls Tryz.prog 197 #[.string s, .string sub] w fun e w' => e = .returned (.int .i64 (Lib.index s.data.toList sub.data.toList)) ∧ w' = w := Any.strings_Index Tryz.lays143 s sub m w hs hm
def Tryz.lays207_ren : Go.Shelf.Ren := ⟨fun | 207 => 209 | n => n, fun | 9 => 9 | 4 => 4 | 3 => 3 | n => n, fun | n => n⟩
theorem Tryz.lays207 : Go.Proofs.Lays.n207 Tryz.prog Tryz.lays207_ren := {
  mixed := by kernel_rfl
  f207 := Tryz.func209.trans (congrArg some (by kernel_rfl))
  t3 := Tryz.underlying3
  a3 := Tryz.isAgg3
  z3 := Tryz.sizeOf3
  v3 := Tryz.zeroValue3
  t4 := Tryz.underlying4
  a4 := Tryz.isAgg4
  z4 := Tryz.sizeOf4
  v4 := Tryz.zeroValue4
  t9 := Tryz.underlying9
  a9 := Tryz.isAgg9
  z9 := Tryz.sizeOf9
  v9 := Tryz.zeroValue9 }
open Go.RowKit Go.Lib in
theorem Tryz.stringslite_HasSuffix (s p : ByteArray) (w : World) (hs : s.size ≤ 9223372036854775807) :
    Calls Tryz.prog 209 #[.string s, .string p] w fun e w' => e = .returned (.bool (Lib.hasSuffix s.data.toList p.data.toList)) ∧ w' = w := Any.stringslite_HasSuffix Tryz.lays207 s p w hs
def Tryz.lays209_ren : Go.Shelf.Ren := ⟨fun | 209 => 200 | 207 => 209 | n => n, fun | 9 => 9 | 4 => 4 | 3 => 3 | n => n, fun | n => n⟩
theorem Tryz.lays209 : Go.Proofs.Lays.n209 Tryz.prog Tryz.lays209_ren := {
  mixed := by kernel_rfl
  f207 := Tryz.func209.trans (congrArg some (by kernel_rfl))
  f209 := Tryz.func200.trans (congrArg some (by kernel_rfl))
  t3 := Tryz.underlying3
  a3 := Tryz.isAgg3
  z3 := Tryz.sizeOf3
  v3 := Tryz.zeroValue3
  t4 := Tryz.underlying4
  a4 := Tryz.isAgg4
  z4 := Tryz.sizeOf4
  v4 := Tryz.zeroValue4
  t9 := Tryz.underlying9
  a9 := Tryz.isAgg9
  z9 := Tryz.sizeOf9
  v9 := Tryz.zeroValue9 }
open Go.RowKit Go.Lib in
theorem Tryz.stringslite_TrimSuffix (s p : ByteArray) (w : World) (hs : s.size ≤ 9223372036854775807) :
    Calls Tryz.prog 200 #[.string s, .string p] w fun e w' => e = .returned (.string ⟨(Lib.trimSuffix s.data.toList p.data.toList).toArray⟩) ∧ w' = w := Any.stringslite_TrimSuffix Tryz.lays209 s p w hs
def Tryz.lays102_ren : Go.Shelf.Ren := ⟨fun | 102 => 191 | 209 => 200 | 207 => 209 | n => n, fun | 9 => 9 | 4 => 4 | 3 => 3 | n => n, fun | n => n⟩
theorem Tryz.lays102 : Go.Proofs.Lays.n102 Tryz.prog Tryz.lays102_ren := {
  mixed := by kernel_rfl
  f102 := Tryz.func191.trans (congrArg some (by kernel_rfl))
  f207 := Tryz.func209.trans (congrArg some (by kernel_rfl))
  f209 := Tryz.func200.trans (congrArg some (by kernel_rfl))
  t3 := Tryz.underlying3
  a3 := Tryz.isAgg3
  z3 := Tryz.sizeOf3
  v3 := Tryz.zeroValue3
  t4 := Tryz.underlying4
  a4 := Tryz.isAgg4
  z4 := Tryz.sizeOf4
  v4 := Tryz.zeroValue4
  t9 := Tryz.underlying9
  a9 := Tryz.isAgg9
  z9 := Tryz.sizeOf9
  v9 := Tryz.zeroValue9 }
open Go.RowKit Go.Lib in
theorem Tryz.strings_TrimSuffix (s p : ByteArray) (w : World) (hs : s.size ≤ 9223372036854775807) :
    Calls Tryz.prog 191 #[.string s, .string p] w fun e w' => e = .returned (.string ⟨(Lib.trimSuffix s.data.toList p.data.toList).toArray⟩) ∧ w' = w := Any.strings_TrimSuffix Tryz.lays102 s p w hs
end Go.Proofs

namespace Go.Proofs.YtbbmpfkijhhemaaGreatDoor
open Go.ChangeShapes Go.WideShapes Go.ChangeAt Go.RowKit Go.Joins
set_option maxRecDepth 100000
attribute [local go_sem ↓] Go.wp_at_zero Go.wp_at_succ

structure Rdr (w : World) (B : Nat) (s : ByteArray) (p : Nat) : Prop where
  lt : B < w.heap.size
  c0 : w.cell? ⟨B, 0, none⟩ = some (.string s)
  c1 : w.cell? ⟨B, 1, none⟩ = some (.int .i64 (p : Int))
  fz : ∀ o, w.frozen? ⟨B, o, none⟩ = false

theorem Rdr.below {w w' : World} {B p : Nat} {s : ByteArray} (h : Rdr w B s p) (hb : Below w.heap.size w w') : Rdr w' B s p :=
  ⟨Nat.lt_of_lt_of_le h.lt hb.size, held_cell hb h.c0 h.lt, held_cell hb h.c1 h.lt, fun o => (hb.frozen (p := ⟨B, o, none⟩) h.lt).trans (h.fz o)⟩

theorem Rdr.drewN {w : World} {B p : Nat} {s : ByteArray} (h : Rdr w B s p) (n : Nat) : Rdr (w.drewN n) B s p := h.below (below_drewN (Below.refl _ _) n)

theorem Rdr.set {w : World} {B p : Nat} {s : ByteArray} (h : Rdr w B s p) (q : Nat) : Rdr (w.setCell ⟨B, 1, none⟩ (.int .i64 (q : Int))) B s q :=
  ⟨by simpa [World.setCell] using h.lt, cell_set_off h.c0 (by omega), cell_set_same h.c1, fun o => by rw [World.frozen?_setCell]; exact h.fz o⟩

def EV (w : World) : Prop :=
  (4 < w.heap.size ∧ ∃ t v, w.cell? ⟨4, 0, none⟩ = some (.iface t v)) ∧
  (1 < w.heap.size ∧ ∃ t v, w.cell? ⟨1, 0, none⟩ = some (.iface t v)) ∧
  (2 < w.heap.size ∧ ∃ t v, w.cell? ⟨2, 0, none⟩ = some (.iface t v)) ∧
  (3 < w.heap.size ∧ ∃ t v, w.cell? ⟨3, 0, none⟩ = some (.iface t v))

theorem EV.below {w w' : World} (h : EV w) (hb : Below w.heap.size w w') : EV w' := by
  obtain ⟨⟨l1, t1, p1, h1⟩, ⟨l2, t2, p2, h2⟩, ⟨l3, t3, p3, h3⟩, l4, t4, p4, h4⟩ := h
  exact ⟨⟨Nat.lt_of_lt_of_le l1 hb.size, t1, p1, (hb.cell (p := ⟨_, 0, none⟩) l1).trans h1⟩, ⟨Nat.lt_of_lt_of_le l2 hb.size, t2, p2, (hb.cell (p := ⟨_, 0, none⟩) l2).trans h2⟩, ⟨Nat.lt_of_lt_of_le l3 hb.size, t3, p3, (hb.cell (p := ⟨_, 0, none⟩) l3).trans h3⟩, Nat.lt_of_lt_of_le l4 hb.size, t4, p4, (hb.cell (p := ⟨_, 0, none⟩) l4).trans h4⟩

theorem idx_first : ∀ (l r : List UInt8), (10 : UInt8) ∉ l → Lib.indexByte (l ++ 10 :: r) 10 = (l.length : Int)
  | [], r, _ => rfl
  | b :: l, r, h => by
    have hb : (b == (10 : UInt8)) = false := by
      simp only [List.mem_cons, not_or] at h
      simpa using fun e => h.1 e.symm
    have ih := idx_first l r (fun hm => h (List.mem_cons_of_mem _ hm))
    show (if b == 10 then (0 : Int) else if Lib.indexByte (l ++ 10 :: r) 10 == -1 then -1 else Lib.indexByte (l ++ 10 :: r) 10 + 1) = _
    rw [hb, ih]
    have hn : (((l.length : Int)) == -1) = false := by
      simp only [beq_eq_false_iff_ne]
      omega
    simp [hn]

theorem idx_none : ∀ (l : List UInt8), (10 : UInt8) ∉ l → Lib.indexByte l 10 = -1
  | [], _ => rfl
  | b :: l, h => by
    have hb : (b == (10 : UInt8)) = false := by
      simp only [List.mem_cons, not_or] at h
      simpa using fun e => h.1 e.symm
    have ih := idx_none l (fun hm => h (List.mem_cons_of_mem _ hm))
    show (if b == 10 then (0 : Int) else if Lib.indexByte l 10 == -1 then -1 else Lib.indexByte l 10 + 1) = _
    rw [hb, ih]
    simp

theorem first_line : ∀ (t : List UInt8), (10 : UInt8) ∉ t ∨ ∃ l r, t = l ++ 10 :: r ∧ (10 : UInt8) ∉ l
  | [] => .inl (by simp)
  | b :: t => by
    by_cases hb : b = 10
    · exact .inr ⟨[], t, by rw [hb]; rfl, by simp⟩
    · rcases first_line t with h | ⟨l, r, rfl, h⟩
      · refine .inl fun hm => ?_
        rcases List.mem_cons.1 hm with h1 | h1
        · exact hb h1.symm
        · exact h h1
      · refine .inr ⟨b :: l, r, rfl, fun hm => ?_⟩
        rcases List.mem_cons.1 hm with h1 | h1
        · exact hb h1.symm
        · exact h h1

theorem extract_end (s : ByteArray) (p : Nat) : (s.extract p s.size).data.toList = s.data.toList.drop p := by
  rw [piece, List.take_of_length_le (by simp)]

theorem extract_line {s : ByteArray} {p : Nat} {l r : List UInt8} (h : s.data.toList.drop p = l ++ 10 :: r) : s.extract p (p + l.length + 1) = str (l ++ [10]) := by
  apply ByteArray.ext
  apply Array.ext'
  have e : (s.extract p (p + l.length + 1)).data.toList = (s.data.toList.drop p).take (l.length + 1) := by
    rw [piece, List.drop_take, show p + l.length + 1 - p = l.length + 1 by omega]
  show (s.extract p (p + l.length + 1)).data.toList = (str (l ++ [10])).data.toList
  rw [e, h]
  simp only [str, List.take_append, List.take_of_length_le (Nat.le_succ l.length)]
  simp

theorem line_fits {s : ByteArray} {p : Nat} {l r : List UInt8} (h : s.data.toList.drop p = l ++ 10 :: r) : p + l.length + 1 ≤ s.size := by
  have h1 := congrArg List.length h
  simp only [List.length_drop, List.length_append, List.length_cons] at h1
  have h2 : s.data.toList.length = s.size := by simp
  omega

set_option maxHeartbeats 4000000 in
theorem rdLine_any (w0 : World) (s : ByteArray) (p B : Nat) (w : World) (hs : s.size ≤ 1048576) (hp : p ≤ s.size) (hE : EV w0) (hb : Below w0.heap.size w0 w) (hr : Rdr w B s p) :
    Calls Tryz.prog 189 #[.pointer (some ⟨B, 0, none⟩)] w fun e w' => Hole B w w' ∧
      ((∃ l r, s.data.toList.drop p = l ++ 10 :: r ∧ (10 : UInt8) ∉ l ∧ e = .returned (.tuple #[.string (str (l ++ [10])), .nilIface]) ∧ Rdr w' B s (p + l.length + 1)) ∨
       ((10 : UInt8) ∉ s.data.toList.drop p ∧ ∃ t v, e = .returned (.tuple #[.string ⟨#[]⟩, .iface t v]))) := by
  obtain ⟨lt0, tE, vE, cE0⟩ := hE.1
  have cE := (hb.cell (p := ⟨4, 0, none⟩) lt0).trans cE0
  have HR := Lib.hid hr
  have c0 := hr.c0
  have c1 := hr.c1
  have fz := hr.fz
  have p0 : (0 : Int) ≤ (p : Int) := by omega
  have p1 : (p : Int) ≤ (s.size : Int) := by omega
  clear hr hb hE cE0
  rcases first_line (s.data.toList.drop p) with hno | ⟨l, r, hlr, hl⟩
  · have HC : ∀ W, Calls Tryz.prog 197 #[.string (s.extract p s.size), .string ⟨#[10]⟩] W fun e w' => e = .returned (.int .i64 (-1)) ∧ w' = W := fun W => by
      refine (Tryz.strings_Index_one (s.extract p s.size) 10 W).mono ?_
      rintro e w' ⟨rfl, hw⟩
      rw [extract_end, idx_none _ hno]
      exact ⟨rfl, hw⟩
    have HNO := Lib.hid hno
    clear hno
    go_enter Tryz.func189, Tryz.ntmps189
    go_wp2_with fail
    go_quiet ((go_at_call 197; exact Calls.quiet_of_same (HC _)))
    go_wp2_with fail
    go_quiet (fail)
    go_wp2
    refine bodyPost_ret (v := .tuple #[.string ⟨#[]⟩, .iface tE vE]) (by simp [results, Tryz.results189, go_sem]) rfl ?_
    exact ⟨((Hole.refl B w).drewN _).drewN _, .inr ⟨HNO.out, _, _, rfl⟩⟩
  · have HC : ∀ W, Calls Tryz.prog 197 #[.string (s.extract p s.size), .string ⟨#[10]⟩] W fun e w' => e = .returned (.int .i64 (l.length : Int)) ∧ w' = W := fun W => by
      refine (Tryz.strings_Index_one (s.extract p s.size) 10 W).mono ?_
      rintro e w' ⟨rfl, hw⟩
      rw [extract_end, hlr, idx_first _ _ hl]
      exact ⟨rfl, hw⟩
    have hf := line_fits hlr
    have HX := Lib.hid (extract_line hlr)
    have HLR := Lib.hid hlr
    have HL := Lib.hid hl
    have hsz : (s.extract p (p + l.length + 1)).size = l.length + 1 := by rw [HX.out, str_size]; simp
    clear hlr hl
    generalize hn : l.length = n at *
    have HN := Lib.hid hn
    clear hn
    have w1 : IntKind.i64.wrap ((p : Int) + (n : Int)) = (p : Int) + (n : Int) := IntWalk.i64_in _ (by omega)
    have w2 : IntKind.i64.wrap ((p : Int) + (n : Int) + 1) = ((p + n + 1 : Nat) : Int) := (IntWalk.i64_in _ (by omega)).trans (by omega)
    have w3 : (p : Int) ≤ ((p + n + 1 : Nat) : Int) := by omega
    have w4 : ((p + n + 1 : Nat) : Int) ≤ (s.size : Int) := by omega
    have w5 : (p : Int) ≤ (p : Int) + (n : Int) + 1 := by omega
    have w6 : (p : Int) + (n : Int) + 1 ≤ (s.size : Int) := by omega
    go_enter Tryz.func189, Tryz.ntmps189
    go_wp2_with fail
    go_quiet ((go_at_call 197; exact Calls.quiet_of_same (HC _)))
    go_wp2_with fail
    go_quiet (fail)
    go_wp2
    have e9 : (p : Int) + ((n : Int) + 1) = ((p + n + 1 : Nat) : Int) := by omega
    refine bodyPost_ret (v := .tuple #[.string (s.extract p (p + n + 1)), .nilIface]) (by simp [results, Tryz.results189, go_sem]) rfl ?_
    rw [e9]
    exact ⟨((Hole.refl B w).drewN _).set 1 _, .inl ⟨l, r, HLR.out, HL.out, by rw [HX.out], by rw [HN.out]; exact (HR.out.drewN _).set _⟩⟩

end Go.Proofs.YtbbmpfkijhhemaaGreatDoor

namespace Go.Proofs.YtbbmpfkijhhemaaGreatDoor
open Go.ChangeShapes Go.WideShapes Go.ChangeAt Go.RowKit Go.Joins
set_option maxRecDepth 100000

set_option maxHeartbeats 2000000 in
theorem crcStep_any (x : Nat) (w : World) (hx : x < 4294967296) :
    Calls Tryz.prog 188 #[.int .u32 (x : Int)] w fun e w' => e = .returned (.int .u32 (crcBits 8 x : Nat)) ∧ w' = w := by
  go_enter Tryz.func188, Tryz.ntmps188
  go_wp2
  go_loopw [0, 4] (fun r i wq => ∃ j : Nat, j ≤ 8 ∧ i = .int .i64 j ∧ r = .int .u32 (crcBits j x : Nat) ∧ wq = w) (fun _ i _ => 8 - (intOf i).toNat)
  case atStart => exact ⟨0, Nat.zero_le _, rfl, rfl, rfl⟩
  case round =>
    obtain ⟨j, hj, rfl, rfl, rfl⟩ := hrel
    by_cases hj' : j < 8
    · have j1 : (j : Int) < 8 := by omega
      have hz := crcBits_bd hx j
      have HS : Hid (crcBits (j + 1) x = crcBit (crcBits j x)) := rfl
      generalize crcBits j x = z at *
      have hz2 : (z / 2 : Nat) < 4294967296 := by omega
      have ha : bits .and .u32 (z : Int) 1 = ((z % 2 : Nat) : Int) := by
        have h := u32_and_nat z 1 hz (by omega)
        rw [nat_mask1] at h
        exact h
      have hx : bits .xor .u32 ((z / 2 : Nat) : Int) 3988292384 = ((z / 2 ^^^ 3988292384 : Nat) : Int) := u32_xor_nat (z / 2) 3988292384 hz2 (by omega)
      by_cases hm : z % 2 = 1
      · have HE : Hid (crcBits (j + 1) x = z / 2 ^^^ 3988292384) := by
          rw [HS.out]
          unfold crcBit
          rw [if_pos hm]
          exact Lib.hid rfl
        go_wp2
        refine ⟨⟨j + 1, by omega, by go_num, ?_, trivial⟩, by simp [intOf]; omega⟩
        have e2 : (z : Int) / 2 = ((z / 2 : Nat) : Int) := by omega
        rw [HE.out, e2, hx]
      · have HE : Hid (crcBits (j + 1) x = z / 2) := by
          rw [HS.out]
          unfold crcBit
          rw [if_neg hm]
          exact Lib.hid rfl
        have hm0 : z % 2 = 0 := by omega
        go_wp2
        refine ⟨⟨j + 1, by omega, by go_num, ?_, trivial⟩, by simp [intOf]; omega⟩
        have e2 : (z : Int) / 2 = ((z / 2 : Nat) : Int) := by omega
        rw [HE.out, e2]
    · have hjj : j = 8 := by omega
      subst hjj
      go_wp2
      go_ret
      exact ⟨rfl, rfl⟩

set_option maxHeartbeats 2000000 in
theorem implCrc_any (s : ByteArray) (w : World) (hs : s.size ≤ 9223372036854775807) :
    Calls Tryz.prog 165 #[.string s] w fun e w' => e = .returned (.int .i64 (crcL s.data.toList : Nat)) ∧ w' = w := by
  go_enter Tryz.func165, Tryz.ntmps165
  go_wp2
  go_loopw [3, 7] (fun x i wr => ∃ k : Nat, k ≤ s.size ∧ i = .int .i64 k ∧ x = .int .u32 (crcRun (s.data.toList.take k) : Nat) ∧ wr = w) (fun _ i _ => s.size - (intOf i).toNat)
  case atStart => exact ⟨0, Nat.zero_le _, rfl, rfl, rfl⟩
  case round =>
    obtain ⟨k, hk, rfl, rfl, rfl⟩ := hrel
    by_cases hk' : k < s.size
    · have i1 : (0 : Int) ≤ (k : Int) := by omega
      have i2 : (k : Int) < (s.size : Int) := by omega
      have HT := Lib.hid (crcRun_take hk')
      have hb := crcRun_bd (s.data.toList.take k)
      have hc : (s[k].toNat : Nat) < 4294967296 := by have := s[k].toNat_lt; omega
      have hu : s[k].toNat < 256 := UInt8.toNat_lt _
      have hx : bits .xor .u32 ((crcRun (s.data.toList.take k) : Nat) : Int) ((s[k].toNat : Nat) : Int) = ((crcRun (s.data.toList.take k) ^^^ s[k].toNat : Nat) : Int) := u32_xor_nat _ _ hb hc
      have hy := xor32 hb hc
      have HB : Hid (crcByte (crcRun (s.data.toList.take k)) s[k] = crcBits 8 (crcRun (s.data.toList.take k) ^^^ s[k].toNat)) := rfl
      go_wp2_with fail
      refine (crcStep_any _ _ hy).mono ?_
      rintro e w1 ⟨rfl, hw⟩
      subst w1
      go_wp2
      exact ⟨⟨k + 1, by omega, by go_num, by rw [HT.out, HB.out], trivial⟩, by simp [intOf]; omega⟩
    · have hkk : k = s.size := by omega
      subst hkk
      have e : s.data.toList.take s.size = s.data.toList := List.take_of_length_le (by simp)
      rw [e]
      have hb := crcRun_bd s.data.toList
      have hl := crcL_bd s.data.toList
      have hx : bits .xor .u32 ((crcRun s.data.toList : Nat) : Int) 4294967295 = ((crcL s.data.toList : Nat) : Int) := u32_xor_nat _ 4294967295 hb (by omega)
      go_wp2
      go_ret
      exact ⟨rfl, rfl⟩

end Go.Proofs.YtbbmpfkijhhemaaGreatDoor

namespace Go.Proofs
open Go.Shelf
def Tryz.laysM246_ren : Go.Shelf.Ren := ⟨fun | 246 => 203 | 283 => 212 | 284 => 213 | 285 => 214 | 286 => 215 | 129 => 232 | 317 => 233 | 318 => 234 | 319 => 235 | 320 => 236 | 337 => 251 | 338 => 252 | n => n, fun | 2 => 2 | 3 => 3 | 9 => 9 | 4 => 4 | 171 => 245 | 0 => 0 | 53 => 117 | 37 => 22 | 5 => 5 | 173 => 248 | 212 => 261 | 51 => 224 | 20 => 20 | 213 => 262 | 46 => 147 | 232 => 287 | 233 => 288 | n => n, fun | 17 => 6 | 18 => 9 | 19 => 10 | n => n⟩
theorem Tryz.laysM246 : Go.Proofs.LaysM.n246 Tryz.prog Tryz.laysM246_ren := {
  mixed := by kernel_rfl
  f129 := Tryz.func232.trans (congrArg some (by kernel_rfl))
  f246 := Tryz.func203.trans (congrArg some (by kernel_rfl))
  f283 := Tryz.func212.trans (congrArg some (by kernel_rfl))
  f284 := Tryz.func213.trans (congrArg some (by kernel_rfl))
  f285 := Tryz.func214.trans (congrArg some (by kernel_rfl))
  f286 := Tryz.func215.trans (congrArg some (by kernel_rfl))
  f317 := Tryz.func233.trans (congrArg some (by kernel_rfl))
  f318 := Tryz.func234.trans (congrArg some (by kernel_rfl))
  f319 := Tryz.func235.trans (congrArg some (by kernel_rfl))
  f320 := Tryz.func236.trans (congrArg some (by kernel_rfl))
  f337 := Tryz.func251.trans (congrArg some (by kernel_rfl))
  f338 := Tryz.func252.trans (congrArg some (by kernel_rfl))
  t0 := Tryz.underlying0
  a0 := Tryz.isAgg0
  z0 := Tryz.sizeOf0
  v0 := Tryz.zeroValue0
  t2 := Tryz.underlying2
  a2 := Tryz.isAgg2
  z2 := Tryz.sizeOf2
  v2 := Tryz.zeroValue2
  t3 := Tryz.underlying3
  a3 := Tryz.isAgg3
  z3 := Tryz.sizeOf3
  v3 := Tryz.zeroValue3
  t4 := Tryz.underlying4
  a4 := Tryz.isAgg4
  z4 := Tryz.sizeOf4
  v4 := Tryz.zeroValue4
  t5 := Tryz.underlying5
  a5 := Tryz.isAgg5
  z5 := Tryz.sizeOf5
  v5 := Tryz.zeroValue5
  t9 := Tryz.underlying9
  a9 := Tryz.isAgg9
  z9 := Tryz.sizeOf9
  v9 := Tryz.zeroValue9
  t20 := Tryz.underlying20
  a20 := Tryz.isAgg20
  z20 := Tryz.sizeOf20
  v20 := Tryz.zeroValue20
  t37 := Tryz.underlying22
  a37 := Tryz.isAgg22
  z37 := Tryz.sizeOf22
  v37 := Tryz.zeroValue22
  t46 := Tryz.underlying147
  a46 := Tryz.isAgg147
  z46 := Tryz.sizeOf147
  v46 := Tryz.zeroValue147
  t51 := Tryz.underlying224
  a51 := Tryz.isAgg224
  z51 := Tryz.sizeOf224
  v51 := Tryz.zeroValue224
  t53 := Tryz.underlying117
  a53 := Tryz.isAgg117
  z53 := Tryz.sizeOf117
  v53 := Tryz.zeroValue117
  t171 := Tryz.underlying245
  a171 := Tryz.isAgg245
  z171 := Tryz.sizeOf245
  v171 := Tryz.zeroValue245
  t173 := Tryz.underlying248
  a173 := Tryz.isAgg248
  z173 := Tryz.sizeOf248
  v173 := Tryz.zeroValue248
  t212 := Tryz.underlying261
  a212 := Tryz.isAgg261
  z212 := Tryz.sizeOf261
  v212 := Tryz.zeroValue261
  t213 := Tryz.underlying262
  a213 := Tryz.isAgg262
  z213 := Tryz.sizeOf262
  t232 := Tryz.underlying287
  a232 := Tryz.isAgg287
  z232 := Tryz.sizeOf287
  v232 := Tryz.zeroValue287
  t233 := Tryz.underlying288
  a233 := Tryz.isAgg288
  z233 := Tryz.sizeOf288
  v233 := Tryz.zeroValue288
  g17 := by kernel_rfl
  g18 := by kernel_rfl
  g19 := by kernel_rfl
  i0 := by kernel_rfl
  i2 := by kernel_rfl
  i3 := by kernel_rfl
  i4 := by kernel_rfl
  i5 := by kernel_rfl
  i9 := by kernel_rfl
  i20 := by kernel_rfl
  i37 := by kernel_rfl
  i46 := by kernel_rfl
  i51 := by kernel_rfl
  i53 := by kernel_rfl
  i171 := by kernel_rfl
  i173 := by kernel_rfl
  i212 := by kernel_rfl
  i232 := by kernel_rfl
  i233 := by kernel_rfl
  m17 := by kernel_rfl
  m18 := by kernel_rfl
  m19 := by kernel_rfl }
open Go.RowKit Go.Sort Go.Lib in
theorem Tryz.internal_strconv_FormatInt_10 (n : Int) (h0 : -9223372036854775808 ≤ n) (h1 : n ≤ 9223372036854775807) (w : World) (htab : Lib.TabIs Tryz.prog w "internal/strconv.uint64pow10" .u64 Lib.pow10Tab) :
    Calls Tryz.prog 203 #[.int .i64 n, .int .i64 10] w fun e w' => e = .returned (.string ⟨(Lib.itoa n).toArray⟩) ∧ ∃ k os, w' = grow (w.drewN k) os := Any.internal_strconv_FormatInt_10 Tryz.laysM246 n h0 h1 w htab
def Tryz.lays246_ren : Go.Shelf.Ren := ⟨fun | 246 => 203 | 283 => 212 | 284 => 213 | 285 => 214 | 286 => 215 | 129 => 232 | 317 => 233 | 318 => 234 | 319 => 235 | 320 => 236 | 337 => 251 | 338 => 252 | n => n, fun | 2 => 2 | 3 => 3 | 9 => 9 | 4 => 4 | 171 => 245 | 0 => 0 | 53 => 117 | 37 => 22 | 5 => 5 | 173 => 248 | 212 => 261 | 51 => 224 | 20 => 20 | 213 => 262 | 46 => 147 | 232 => 287 | 233 => 288 | n => n, fun | 17 => 6 | 18 => 9 | 19 => 10 | n => n⟩
theorem Tryz.lays246 : Go.Proofs.Lays.n246 Tryz.prog Tryz.lays246_ren := {
  mixed := by kernel_rfl
  f129 := Tryz.func232.trans (congrArg some (by kernel_rfl))
  f246 := Tryz.func203.trans (congrArg some (by kernel_rfl))
  f283 := Tryz.func212.trans (congrArg some (by kernel_rfl))
  f284 := Tryz.func213.trans (congrArg some (by kernel_rfl))
  f285 := Tryz.func214.trans (congrArg some (by kernel_rfl))
  f286 := Tryz.func215.trans (congrArg some (by kernel_rfl))
  f317 := Tryz.func233.trans (congrArg some (by kernel_rfl))
  f318 := Tryz.func234.trans (congrArg some (by kernel_rfl))
  f319 := Tryz.func235.trans (congrArg some (by kernel_rfl))
  f320 := Tryz.func236.trans (congrArg some (by kernel_rfl))
  f337 := Tryz.func251.trans (congrArg some (by kernel_rfl))
  f338 := Tryz.func252.trans (congrArg some (by kernel_rfl))
  t0 := Tryz.underlying0
  a0 := Tryz.isAgg0
  z0 := Tryz.sizeOf0
  v0 := Tryz.zeroValue0
  t2 := Tryz.underlying2
  a2 := Tryz.isAgg2
  z2 := Tryz.sizeOf2
  v2 := Tryz.zeroValue2
  t3 := Tryz.underlying3
  a3 := Tryz.isAgg3
  z3 := Tryz.sizeOf3
  v3 := Tryz.zeroValue3
  t4 := Tryz.underlying4
  a4 := Tryz.isAgg4
  z4 := Tryz.sizeOf4
  v4 := Tryz.zeroValue4
  t5 := Tryz.underlying5
  a5 := Tryz.isAgg5
  z5 := Tryz.sizeOf5
  v5 := Tryz.zeroValue5
  t9 := Tryz.underlying9
  a9 := Tryz.isAgg9
  z9 := Tryz.sizeOf9
  v9 := Tryz.zeroValue9
  t20 := Tryz.underlying20
  a20 := Tryz.isAgg20
  z20 := Tryz.sizeOf20
  v20 := Tryz.zeroValue20
  t37 := Tryz.underlying22
  a37 := Tryz.isAgg22
  z37 := Tryz.sizeOf22
  v37 := Tryz.zeroValue22
  t46 := Tryz.underlying147
  a46 := Tryz.isAgg147
  z46 := Tryz.sizeOf147
  v46 := Tryz.zeroValue147
  t51 := Tryz.underlying224
  a51 := Tryz.isAgg224
  z51 := Tryz.sizeOf224
  v51 := Tryz.zeroValue224
  t53 := Tryz.underlying117
  a53 := Tryz.isAgg117
  z53 := Tryz.sizeOf117
  v53 := Tryz.zeroValue117
  t171 := Tryz.underlying245
  a171 := Tryz.isAgg245
  z171 := Tryz.sizeOf245
  v171 := Tryz.zeroValue245
  t173 := Tryz.underlying248
  a173 := Tryz.isAgg248
  z173 := Tryz.sizeOf248
  v173 := Tryz.zeroValue248
  t212 := Tryz.underlying261
  a212 := Tryz.isAgg261
  z212 := Tryz.sizeOf261
  v212 := Tryz.zeroValue261
  t213 := Tryz.underlying262
  a213 := Tryz.isAgg262
  z213 := Tryz.sizeOf262
  t232 := Tryz.underlying287
  a232 := Tryz.isAgg287
  z232 := Tryz.sizeOf287
  v232 := Tryz.zeroValue287
  t233 := Tryz.underlying288
  a233 := Tryz.isAgg288
  z233 := Tryz.sizeOf288
  v233 := Tryz.zeroValue288
  g17 := by kernel_rfl
  g18 := by kernel_rfl
  g19 := by kernel_rfl }
open Go.RowKit Go.Sort Go.Lib in
theorem Tryz.internal_strconv_FormatInt_10_small (i : Nat) (hi : i < 100) (w : World) :
    Calls Tryz.prog 203 #[.int .i64 i, .int .i64 10] w fun e w' => e = .returned (.string ⟨(Lib.decDigits i).toArray⟩) ∧ w' = w := Any.internal_strconv_FormatInt_10_small Tryz.lays246 i hi w
def Tryz.laysM243_ren : Go.Shelf.Ren := ⟨fun | 243 => 194 | 246 => 203 | 283 => 212 | 284 => 213 | 285 => 214 | 286 => 215 | 129 => 232 | 317 => 233 | 318 => 234 | 319 => 235 | 320 => 236 | 337 => 251 | 338 => 252 | n => n, fun | 3 => 3 | 9 => 9 | 2 => 2 | 4 => 4 | 171 => 245 | 0 => 0 | 53 => 117 | 37 => 22 | 5 => 5 | 173 => 248 | 212 => 261 | 51 => 224 | 20 => 20 | 213 => 262 | 46 => 147 | 232 => 287 | 233 => 288 | n => n, fun | 17 => 6 | 18 => 9 | 19 => 10 | n => n⟩
theorem Tryz.laysM243 : Go.Proofs.LaysM.n243 Tryz.prog Tryz.laysM243_ren := {
  mixed := by kernel_rfl
  f129 := Tryz.func232.trans (congrArg some (by kernel_rfl))
  f243 := Tryz.func194.trans (congrArg some (by kernel_rfl))
  f246 := Tryz.func203.trans (congrArg some (by kernel_rfl))
  f283 := Tryz.func212.trans (congrArg some (by kernel_rfl))
  f284 := Tryz.func213.trans (congrArg some (by kernel_rfl))
  f285 := Tryz.func214.trans (congrArg some (by kernel_rfl))
  f286 := Tryz.func215.trans (congrArg some (by kernel_rfl))
  f317 := Tryz.func233.trans (congrArg some (by kernel_rfl))
  f318 := Tryz.func234.trans (congrArg some (by kernel_rfl))
  f319 := Tryz.func235.trans (congrArg some (by kernel_rfl))
  f320 := Tryz.func236.trans (congrArg some (by kernel_rfl))
  f337 := Tryz.func251.trans (congrArg some (by kernel_rfl))
  f338 := Tryz.func252.trans (congrArg some (by kernel_rfl))
  t0 := Tryz.underlying0
  a0 := Tryz.isAgg0
  z0 := Tryz.sizeOf0
  v0 := Tryz.zeroValue0
  t2 := Tryz.underlying2
  a2 := Tryz.isAgg2
  z2 := Tryz.sizeOf2
  v2 := Tryz.zeroValue2
  t3 := Tryz.underlying3
  a3 := Tryz.isAgg3
  z3 := Tryz.sizeOf3
  v3 := Tryz.zeroValue3
  t4 := Tryz.underlying4
  a4 := Tryz.isAgg4
  z4 := Tryz.sizeOf4
  v4 := Tryz.zeroValue4
  t5 := Tryz.underlying5
  a5 := Tryz.isAgg5
  z5 := Tryz.sizeOf5
  v5 := Tryz.zeroValue5
  t9 := Tryz.underlying9
  a9 := Tryz.isAgg9
  z9 := Tryz.sizeOf9
  v9 := Tryz.zeroValue9
  t20 := Tryz.underlying20
  a20 := Tryz.isAgg20
  z20 := Tryz.sizeOf20
  v20 := Tryz.zeroValue20
  t37 := Tryz.underlying22
  a37 := Tryz.isAgg22
  z37 := Tryz.sizeOf22
  v37 := Tryz.zeroValue22
  t46 := Tryz.underlying147
  a46 := Tryz.isAgg147
  z46 := Tryz.sizeOf147
  v46 := Tryz.zeroValue147
  t51 := Tryz.underlying224
  a51 := Tryz.isAgg224
  z51 := Tryz.sizeOf224
  v51 := Tryz.zeroValue224
  t53 := Tryz.underlying117
  a53 := Tryz.isAgg117
  z53 := Tryz.sizeOf117
  v53 := Tryz.zeroValue117
  t171 := Tryz.underlying245
  a171 := Tryz.isAgg245
  z171 := Tryz.sizeOf245
  v171 := Tryz.zeroValue245
  t173 := Tryz.underlying248
  a173 := Tryz.isAgg248
  z173 := Tryz.sizeOf248
  v173 := Tryz.zeroValue248
  t212 := Tryz.underlying261
  a212 := Tryz.isAgg261
  z212 := Tryz.sizeOf261
  v212 := Tryz.zeroValue261
  t213 := Tryz.underlying262
  a213 := Tryz.isAgg262
  z213 := Tryz.sizeOf262
  t232 := Tryz.underlying287
  a232 := Tryz.isAgg287
  z232 := Tryz.sizeOf287
  v232 := Tryz.zeroValue287
  t233 := Tryz.underlying288
  a233 := Tryz.isAgg288
  z233 := Tryz.sizeOf288
  v233 := Tryz.zeroValue288
  g17 := by kernel_rfl
  g18 := by kernel_rfl
  g19 := by kernel_rfl
  i0 := by kernel_rfl
  i2 := by kernel_rfl
  i3 := by kernel_rfl
  i4 := by kernel_rfl
  i5 := by kernel_rfl
  i9 := by kernel_rfl
  i20 := by kernel_rfl
  i37 := by kernel_rfl
  i46 := by kernel_rfl
  i51 := by kernel_rfl
  i53 := by kernel_rfl
  i171 := by kernel_rfl
  i173 := by kernel_rfl
  i212 := by kernel_rfl
  i232 := by kernel_rfl
  i233 := by kernel_rfl
  m17 := by kernel_rfl
  m18 := by kernel_rfl
  m19 := by kernel_rfl }
open Go.RowKit Go.Sort Go.Lib in
theorem Tryz.internal_strconv_Itoa (n : Int) (h0 : -9223372036854775808 ≤ n) (h1 : n ≤ 9223372036854775807) (w : World) (htab : Lib.TabIs Tryz.prog w "internal/strconv.uint64pow10" .u64 Lib.pow10Tab) :
    Calls Tryz.prog 194 #[.int .i64 n] w fun e w' => e = .returned (.string ⟨(Lib.itoa n).toArray⟩) ∧ ∃ k os, w' = grow (w.drewN k) os := Any.internal_strconv_Itoa Tryz.laysM243 n h0 h1 w htab
def Tryz.lays243_ren : Go.Shelf.Ren := ⟨fun | 243 => 194 | 246 => 203 | 283 => 212 | 284 => 213 | 285 => 214 | 286 => 215 | 129 => 232 | 317 => 233 | 318 => 234 | 319 => 235 | 320 => 236 | 337 => 251 | 338 => 252 | n => n, fun | 3 => 3 | 9 => 9 | 2 => 2 | 4 => 4 | 171 => 245 | 0 => 0 | 53 => 117 | 37 => 22 | 5 => 5 | 173 => 248 | 212 => 261 | 51 => 224 | 20 => 20 | 213 => 262 | 46 => 147 | 232 => 287 | 233 => 288 | n => n, fun | 17 => 6 | 18 => 9 | 19 => 10 | n => n⟩
theorem Tryz.lays243 : Go.Proofs.Lays.n243 Tryz.prog Tryz.lays243_ren := {
  mixed := by kernel_rfl
  f129 := Tryz.func232.trans (congrArg some (by kernel_rfl))
  f243 := Tryz.func194.trans (congrArg some (by kernel_rfl))
  f246 := Tryz.func203.trans (congrArg some (by kernel_rfl))
  f283 := Tryz.func212.trans (congrArg some (by kernel_rfl))
  f284 := Tryz.func213.trans (congrArg some (by kernel_rfl))
  f285 := Tryz.func214.trans (congrArg some (by kernel_rfl))
  f286 := Tryz.func215.trans (congrArg some (by kernel_rfl))
  f317 := Tryz.func233.trans (congrArg some (by kernel_rfl))
  f318 := Tryz.func234.trans (congrArg some (by kernel_rfl))
  f319 := Tryz.func235.trans (congrArg some (by kernel_rfl))
  f320 := Tryz.func236.trans (congrArg some (by kernel_rfl))
  f337 := Tryz.func251.trans (congrArg some (by kernel_rfl))
  f338 := Tryz.func252.trans (congrArg some (by kernel_rfl))
  t0 := Tryz.underlying0
  a0 := Tryz.isAgg0
  z0 := Tryz.sizeOf0
  v0 := Tryz.zeroValue0
  t2 := Tryz.underlying2
  a2 := Tryz.isAgg2
  z2 := Tryz.sizeOf2
  v2 := Tryz.zeroValue2
  t3 := Tryz.underlying3
  a3 := Tryz.isAgg3
  z3 := Tryz.sizeOf3
  v3 := Tryz.zeroValue3
  t4 := Tryz.underlying4
  a4 := Tryz.isAgg4
  z4 := Tryz.sizeOf4
  v4 := Tryz.zeroValue4
  t5 := Tryz.underlying5
  a5 := Tryz.isAgg5
  z5 := Tryz.sizeOf5
  v5 := Tryz.zeroValue5
  t9 := Tryz.underlying9
  a9 := Tryz.isAgg9
  z9 := Tryz.sizeOf9
  v9 := Tryz.zeroValue9
  t20 := Tryz.underlying20
  a20 := Tryz.isAgg20
  z20 := Tryz.sizeOf20
  v20 := Tryz.zeroValue20
  t37 := Tryz.underlying22
  a37 := Tryz.isAgg22
  z37 := Tryz.sizeOf22
  v37 := Tryz.zeroValue22
  t46 := Tryz.underlying147
  a46 := Tryz.isAgg147
  z46 := Tryz.sizeOf147
  v46 := Tryz.zeroValue147
  t51 := Tryz.underlying224
  a51 := Tryz.isAgg224
  z51 := Tryz.sizeOf224
  v51 := Tryz.zeroValue224
  t53 := Tryz.underlying117
  a53 := Tryz.isAgg117
  z53 := Tryz.sizeOf117
  v53 := Tryz.zeroValue117
  t171 := Tryz.underlying245
  a171 := Tryz.isAgg245
  z171 := Tryz.sizeOf245
  v171 := Tryz.zeroValue245
  t173 := Tryz.underlying248
  a173 := Tryz.isAgg248
  z173 := Tryz.sizeOf248
  v173 := Tryz.zeroValue248
  t212 := Tryz.underlying261
  a212 := Tryz.isAgg261
  z212 := Tryz.sizeOf261
  v212 := Tryz.zeroValue261
  t213 := Tryz.underlying262
  a213 := Tryz.isAgg262
  z213 := Tryz.sizeOf262
  t232 := Tryz.underlying287
  a232 := Tryz.isAgg287
  z232 := Tryz.sizeOf287
  v232 := Tryz.zeroValue287
  t233 := Tryz.underlying288
  a233 := Tryz.isAgg288
  z233 := Tryz.sizeOf288
  v233 := Tryz.zeroValue288
  g17 := by kernel_rfl
  g18 := by kernel_rfl
  g19 := by kernel_rfl }
open Go.RowKit Go.Sort Go.Lib in
theorem Tryz.internal_strconv_Itoa_small (i : Nat) (hi : i < 100) (w : World) :
    Calls Tryz.prog 194 #[.int .i64 i] w fun e w' => e = .returned (.string ⟨(Lib.decDigits i).toArray⟩) ∧ w' = w := Any.internal_strconv_Itoa_small Tryz.lays243 i hi w
def Tryz.laysM171_ren : Go.Shelf.Ren := ⟨fun | 171 => 184 | 243 => 194 | 246 => 203 | 283 => 212 | 284 => 213 | 285 => 214 | 286 => 215 | 129 => 232 | 317 => 233 | 318 => 234 | 319 => 235 | 320 => 236 | 337 => 251 | 338 => 252 | n => n, fun | 3 => 3 | 9 => 9 | 2 => 2 | 4 => 4 | 171 => 245 | 0 => 0 | 53 => 117 | 37 => 22 | 5 => 5 | 173 => 248 | 212 => 261 | 51 => 224 | 20 => 20 | 213 => 262 | 46 => 147 | 232 => 287 | 233 => 288 | n => n, fun | 17 => 6 | 18 => 9 | 19 => 10 | n => n⟩
theorem Tryz.laysM171 : Go.Proofs.LaysM.n171 Tryz.prog Tryz.laysM171_ren := {
  mixed := by kernel_rfl
  f129 := Tryz.func232.trans (congrArg some (by kernel_rfl))
  f171 := Tryz.func184.trans (congrArg some (by kernel_rfl))
  f243 := Tryz.func194.trans (congrArg some (by kernel_rfl))
  f246 := Tryz.func203.trans (congrArg some (by kernel_rfl))
  f283 := Tryz.func212.trans (congrArg some (by kernel_rfl))
  f284 := Tryz.func213.trans (congrArg some (by kernel_rfl))
  f285 := Tryz.func214.trans (congrArg some (by kernel_rfl))
  f286 := Tryz.func215.trans (congrArg some (by kernel_rfl))
  f317 := Tryz.func233.trans (congrArg some (by kernel_rfl))
  f318 := Tryz.func234.trans (congrArg some (by kernel_rfl))
  f319 := Tryz.func235.trans (congrArg some (by kernel_rfl))
  f320 := Tryz.func236.trans (congrArg some (by kernel_rfl))
  f337 := Tryz.func251.trans (congrArg some (by kernel_rfl))
  f338 := Tryz.func252.trans (congrArg some (by kernel_rfl))
  t0 := Tryz.underlying0
  a0 := Tryz.isAgg0
  z0 := Tryz.sizeOf0
  v0 := Tryz.zeroValue0
  t2 := Tryz.underlying2
  a2 := Tryz.isAgg2
  z2 := Tryz.sizeOf2
  v2 := Tryz.zeroValue2
  t3 := Tryz.underlying3
  a3 := Tryz.isAgg3
  z3 := Tryz.sizeOf3
  v3 := Tryz.zeroValue3
  t4 := Tryz.underlying4
  a4 := Tryz.isAgg4
  z4 := Tryz.sizeOf4
  v4 := Tryz.zeroValue4
  t5 := Tryz.underlying5
  a5 := Tryz.isAgg5
  z5 := Tryz.sizeOf5
  v5 := Tryz.zeroValue5
  t9 := Tryz.underlying9
  a9 := Tryz.isAgg9
  z9 := Tryz.sizeOf9
  v9 := Tryz.zeroValue9
  t20 := Tryz.underlying20
  a20 := Tryz.isAgg20
  z20 := Tryz.sizeOf20
  v20 := Tryz.zeroValue20
  t37 := Tryz.underlying22
  a37 := Tryz.isAgg22
  z37 := Tryz.sizeOf22
  v37 := Tryz.zeroValue22
  t46 := Tryz.underlying147
  a46 := Tryz.isAgg147
  z46 := Tryz.sizeOf147
  v46 := Tryz.zeroValue147
  t51 := Tryz.underlying224
  a51 := Tryz.isAgg224
  z51 := Tryz.sizeOf224
  v51 := Tryz.zeroValue224
  t53 := Tryz.underlying117
  a53 := Tryz.isAgg117
  z53 := Tryz.sizeOf117
  v53 := Tryz.zeroValue117
  t171 := Tryz.underlying245
  a171 := Tryz.isAgg245
  z171 := Tryz.sizeOf245
  v171 := Tryz.zeroValue245
  t173 := Tryz.underlying248
  a173 := Tryz.isAgg248
  z173 := Tryz.sizeOf248
  v173 := Tryz.zeroValue248
  t212 := Tryz.underlying261
  a212 := Tryz.isAgg261
  z212 := Tryz.sizeOf261
  v212 := Tryz.zeroValue261
  t213 := Tryz.underlying262
  a213 := Tryz.isAgg262
  z213 := Tryz.sizeOf262
  t232 := Tryz.underlying287
  a232 := Tryz.isAgg287
  z232 := Tryz.sizeOf287
  v232 := Tryz.zeroValue287
  t233 := Tryz.underlying288
  a233 := Tryz.isAgg288
  z233 := Tryz.sizeOf288
  v233 := Tryz.zeroValue288
  g17 := by kernel_rfl
  g18 := by kernel_rfl
  g19 := by kernel_rfl
  i0 := by kernel_rfl
  i2 := by kernel_rfl
  i3 := by kernel_rfl
  i4 := by kernel_rfl
  i5 := by kernel_rfl
  i9 := by kernel_rfl
  i20 := by kernel_rfl
  i37 := by kernel_rfl
  i46 := by kernel_rfl
  i51 := by kernel_rfl
  i53 := by kernel_rfl
  i171 := by kernel_rfl
  i173 := by kernel_rfl
  i212 := by kernel_rfl
  i232 := by kernel_rfl
  i233 := by kernel_rfl
  m17 := by kernel_rfl
  m18 := by kernel_rfl
  m19 := by kernel_rfl }
open Go.RowKit Go.Sort Go.Lib in
theorem Tryz.strconv_Itoa (n : Int) (h0 : -9223372036854775808 ≤ n) (h1 : n ≤ 9223372036854775807) (w : World) (htab : Lib.TabIs Tryz.prog w "internal/strconv.uint64pow10" .u64 Lib.pow10Tab) :
    Calls Tryz.prog 184 #[.int .i64 n] w fun e w' => e = .returned (.string ⟨(Lib.itoa n).toArray⟩) ∧ ∃ k os, w' = grow (w.drewN k) os := Any.strconv_Itoa Tryz.laysM171 n h0 h1 w htab
def Tryz.lays171_ren : Go.Shelf.Ren := ⟨fun | 171 => 184 | 243 => 194 | 246 => 203 | 283 => 212 | 284 => 213 | 285 => 214 | 286 => 215 | 129 => 232 | 317 => 233 | 318 => 234 | 319 => 235 | 320 => 236 | 337 => 251 | 338 => 252 | n => n, fun | 3 => 3 | 9 => 9 | 2 => 2 | 4 => 4 | 171 => 245 | 0 => 0 | 53 => 117 | 37 => 22 | 5 => 5 | 173 => 248 | 212 => 261 | 51 => 224 | 20 => 20 | 213 => 262 | 46 => 147 | 232 => 287 | 233 => 288 | n => n, fun | 17 => 6 | 18 => 9 | 19 => 10 | n => n⟩
theorem Tryz.lays171 : Go.Proofs.Lays.n171 Tryz.prog Tryz.lays171_ren := {
  mixed := by kernel_rfl
  f129 := Tryz.func232.trans (congrArg some (by kernel_rfl))
  f171 := Tryz.func184.trans (congrArg some (by kernel_rfl))
  f243 := Tryz.func194.trans (congrArg some (by kernel_rfl))
  f246 := Tryz.func203.trans (congrArg some (by kernel_rfl))
  f283 := Tryz.func212.trans (congrArg some (by kernel_rfl))
  f284 := Tryz.func213.trans (congrArg some (by kernel_rfl))
  f285 := Tryz.func214.trans (congrArg some (by kernel_rfl))
  f286 := Tryz.func215.trans (congrArg some (by kernel_rfl))
  f317 := Tryz.func233.trans (congrArg some (by kernel_rfl))
  f318 := Tryz.func234.trans (congrArg some (by kernel_rfl))
  f319 := Tryz.func235.trans (congrArg some (by kernel_rfl))
  f320 := Tryz.func236.trans (congrArg some (by kernel_rfl))
  f337 := Tryz.func251.trans (congrArg some (by kernel_rfl))
  f338 := Tryz.func252.trans (congrArg some (by kernel_rfl))
  t0 := Tryz.underlying0
  a0 := Tryz.isAgg0
  z0 := Tryz.sizeOf0
  v0 := Tryz.zeroValue0
  t2 := Tryz.underlying2
  a2 := Tryz.isAgg2
  z2 := Tryz.sizeOf2
  v2 := Tryz.zeroValue2
  t3 := Tryz.underlying3
  a3 := Tryz.isAgg3
  z3 := Tryz.sizeOf3
  v3 := Tryz.zeroValue3
  t4 := Tryz.underlying4
  a4 := Tryz.isAgg4
  z4 := Tryz.sizeOf4
  v4 := Tryz.zeroValue4
  t5 := Tryz.underlying5
  a5 := Tryz.isAgg5
  z5 := Tryz.sizeOf5
  v5 := Tryz.zeroValue5
  t9 := Tryz.underlying9
  a9 := Tryz.isAgg9
  z9 := Tryz.sizeOf9
  v9 := Tryz.zeroValue9
  t20 := Tryz.underlying20
  a20 := Tryz.isAgg20
  z20 := Tryz.sizeOf20
  v20 := Tryz.zeroValue20
  t37 := Tryz.underlying22
  a37 := Tryz.isAgg22
  z37 := Tryz.sizeOf22
  v37 := Tryz.zeroValue22
  t46 := Tryz.underlying147
  a46 := Tryz.isAgg147
  z46 := Tryz.sizeOf147
  v46 := Tryz.zeroValue147
  t51 := Tryz.underlying224
  a51 := Tryz.isAgg224
  z51 := Tryz.sizeOf224
  v51 := Tryz.zeroValue224
  t53 := Tryz.underlying117
  a53 := Tryz.isAgg117
  z53 := Tryz.sizeOf117
  v53 := Tryz.zeroValue117
  t171 := Tryz.underlying245
  a171 := Tryz.isAgg245
  z171 := Tryz.sizeOf245
  v171 := Tryz.zeroValue245
  t173 := Tryz.underlying248
  a173 := Tryz.isAgg248
  z173 := Tryz.sizeOf248
  v173 := Tryz.zeroValue248
  t212 := Tryz.underlying261
  a212 := Tryz.isAgg261
  z212 := Tryz.sizeOf261
  v212 := Tryz.zeroValue261
  t213 := Tryz.underlying262
  a213 := Tryz.isAgg262
  z213 := Tryz.sizeOf262
  t232 := Tryz.underlying287
  a232 := Tryz.isAgg287
  z232 := Tryz.sizeOf287
  v232 := Tryz.zeroValue287
  t233 := Tryz.underlying288
  a233 := Tryz.isAgg288
  z233 := Tryz.sizeOf288
  v233 := Tryz.zeroValue288
  g17 := by kernel_rfl
  g18 := by kernel_rfl
  g19 := by kernel_rfl }
open Go.RowKit Go.Sort Go.Lib in
theorem Tryz.strconv_Itoa_small (i : Nat) (hi : i < 100) (w : World) :
    Calls Tryz.prog 184 #[.int .i64 i] w fun e w' => e = .returned (.string ⟨(Lib.decDigits i).toArray⟩) ∧ w' = w := Any.strconv_Itoa_small Tryz.lays171 i hi w
end Go.Proofs

namespace Go.Proofs.YtbbmpfkijhhemaaGreatDoor
open Go.ChangeShapes Go.WideShapes Go.ChangeAt Go.RowKit Go.Joins
set_option maxRecDepth 100000

def Tab (w : World) : Prop := Lib.TabIs Tryz.prog w "internal/strconv.uint64pow10" .u64 Lib.pow10Tab

theorem gPow : Tryz.prog.globalNamed "internal/strconv.uint64pow10" = some 6 := by kernel_rfl

theorem grown_below (w : World) (k : Nat) (os : Array Obj) : Below w.heap.size w (Sort.grow (w.drewN k) os) :=
  ⟨rfl, rfl, rfl, by simp [Sort.grow], fun j hj => by
    have hj' : j < (w.drewN k).heap.size := hj
    show ((w.drewN k).heap ++ os)[j]? = w.heap[j]?
    rw [Array.getElem?_append_left hj']
    rfl⟩

theorem Tab.below {w w' : World} {B : Nat} (h : Tab w) (hb : Below B w w') (hB : 6 < B) : Tab w' := by
  unfold Tab Lib.TabIs at h ⊢
  rw [← h]
  unfold World.var?
  simp only [gPow, Option.bind_some]
  rw [hb.block _ hB]

theorem Tab.lt {w : World} (h : Tab w) : 6 < w.heap.size := by
  have := h.cell gPow 0 (by simp [Lib.pow10Tab])
  exact block_lt_of_cell this

theorem implNum (n : Int) (w : World) (h0 : -9223372036854775808 ≤ n) (h1 : n ≤ 9223372036854775807) (ht : Tab w) :
    Calls Tryz.prog 163 #[.int .i64 n] w fun e w' => e = .returned (.string ⟨(Lib.itoa n).toArray⟩) ∧ Below w.heap.size w w' := by
  have HT : Hid (Tab w) := ht
  clear ht
  go_enter Tryz.func163, Tryz.ntmps163
  go_wp2_with fail
  refine (Tryz.strconv_Itoa n h0 h1 _ HT.out).mono ?_
  rintro e w1 ⟨rfl, k, os, rfl⟩
  have HB := Lib.hid (grown_below w k os)
  generalize Sort.grow (w.drewN k) os = w2 at HB ⊢
  go_wp2
  go_ret
  exact ⟨rfl, HB.out⟩
end Go.Proofs.YtbbmpfkijhhemaaGreatDoor

namespace Go.Proofs.YtbbmpfkijhhemaaGreatDoor
open Go.ChangeShapes Go.WideShapes Go.ChangeAt Go.RowKit Go.Joins
set_option maxRecDepth 100000
attribute [local go_sem ↓] Go.wp_at_zero Go.wp_at_succ

set_option maxHeartbeats 2000000 in
theorem headLine_any (n : Nat) (w : World) (hn : n ≤ 6) (ht : Tab w) :
    Calls Tryz.prog 134 #[.int .i64 (n : Int)] w fun e w' => e = .returned (.string (str (headB n ++ [10]))) ∧ Below w.heap.size w w' := by
  have HE : Hid ((⟨#[98, 97, 116, 99, 104, 32]⟩ : ByteArray) ++ ⟨(Lib.itoa (n : Int)).toArray⟩ ++ ⟨#[10]⟩ = str (headB n ++ [10])) := by
    have e1 : (⟨#[98, 97, 116, 99, 104, 32]⟩ : ByteArray) = str [98, 97, 116, 99, 104, 32] := rfl
    have e2 : (⟨(Lib.itoa (n : Int)).toArray⟩ : ByteArray) = str (Lib.itoa (n : Int)) := rfl
    have e3 : (⟨#[10]⟩ : ByteArray) = str [10] := rfl
    show _ = _
    rw [e1, e2, e3, str_add, str_add]
    rfl
  have z0 : (⟨(Lib.itoa (n : Int)).toArray⟩ : ByteArray).size ≤ 21 := by
    have := Lib.itoa_length_le (n : Int) (by omega) (by omega)
    simpa [ByteArray.size] using this
  have HT := Lib.hid ht
  clear ht
  go_enter Tryz.func134, Tryz.ntmps134
  go_wp2_with fail
  refine (implNum (n : Int) _ (by omega) (by omega) HT.out).mono ?_
  rintro e w1 ⟨rfl, hb⟩
  have HB := Lib.hid hb
  clear hb
  generalize (⟨(Lib.itoa (n : Int)).toArray⟩ : ByteArray) = t0 at *
  have z1 : ((⟨#[98, 97, 116, 99, 104, 32]⟩ : ByteArray) ++ t0).size ≤ 27 := by
    rw [ByteArray.size_append]
    have : (⟨#[98, 97, 116, 99, 104, 32]⟩ : ByteArray).size = 6 := rfl
    omega
  have z2 : ((⟨#[98, 97, 116, 99, 104, 32]⟩ : ByteArray) ++ t0 ++ ⟨#[10]⟩).size ≤ 28 := by
    rw [ByteArray.size_append]
    have : (⟨#[10]⟩ : ByteArray).size = 1 := rfl
    omega
  go_wp2
  go_ret
  exact ⟨by rw [← HE.out]; rfl, HB.out⟩

def sumL (bs : List UInt8) : List UInt8 := [115, 117, 109, 32] ++ Lib.itoa (crcL bs : Int)

theorem sumL_size (bs : List UInt8) : (sumL bs).length ≤ 25 := by
  have h := crcL_bd bs
  have := Lib.itoa_length_le ((crcL bs : Nat) : Int) (by omega) (by omega)
  unfold sumL
  simp
  omega

set_option maxHeartbeats 2000000 in
theorem sumLine_any (s : ByteArray) (w : World) (hs : s.size ≤ 1048576) (ht : Tab w) :
    Calls Tryz.prog 136 #[.string s] w fun e w' => e = .returned (.string (str (sumL s.data.toList ++ [10]))) ∧ Below w.heap.size w w' := by
  have hcb := crcL_bd s.data.toList
  have HE : Hid ((⟨#[115, 117, 109, 32]⟩ : ByteArray) ++ ⟨(Lib.itoa ((crcL s.data.toList : Nat) : Int)).toArray⟩ ++ ⟨#[10]⟩ = str (sumL s.data.toList ++ [10])) := by
    have e1 : (⟨#[115, 117, 109, 32]⟩ : ByteArray) = str [115, 117, 109, 32] := rfl
    have e2 : (⟨(Lib.itoa ((crcL s.data.toList : Nat) : Int)).toArray⟩ : ByteArray) = str (Lib.itoa ((crcL s.data.toList : Nat) : Int)) := rfl
    have e3 : (⟨#[10]⟩ : ByteArray) = str [10] := rfl
    show _ = _
    rw [e1, e2, e3, str_add, str_add]
    rfl
  have z0 : (⟨(Lib.itoa ((crcL s.data.toList : Nat) : Int)).toArray⟩ : ByteArray).size ≤ 21 := by
    have := Lib.itoa_length_le ((crcL s.data.toList : Nat) : Int) (by omega) (by omega)
    simpa [ByteArray.size] using this
  have HT := Lib.hid ht
  clear ht
  go_enter Tryz.func136, Tryz.ntmps136
  go_wp2_with fail
  refine (implCrc_any s _ (by omega)).mono ?_
  rintro e w1 ⟨rfl, hw⟩
  subst w1
  go_wp2_with fail
  refine (implNum ((crcL s.data.toList : Nat) : Int) _ (by omega) (by omega) HT.out).mono ?_
  rintro e w1 ⟨rfl, hb⟩
  have HB := Lib.hid hb
  clear hb
  generalize (⟨(Lib.itoa ((crcL s.data.toList : Nat) : Int)).toArray⟩ : ByteArray) = t0 at *
  have z1 : ((⟨#[115, 117, 109, 32]⟩ : ByteArray) ++ t0).size ≤ 25 := by
    rw [ByteArray.size_append]
    have : (⟨#[115, 117, 109, 32]⟩ : ByteArray).size = 4 := rfl
    omega
  have z2 : ((⟨#[115, 117, 109, 32]⟩ : ByteArray) ++ t0 ++ ⟨#[10]⟩).size ≤ 26 := by
    rw [ByteArray.size_append]
    have : (⟨#[10]⟩ : ByteArray).size = 1 := rfl
    omega
  go_wp2
  go_ret
  exact ⟨by rw [← HE.out]; rfl, HB.out⟩

end Go.Proofs.YtbbmpfkijhhemaaGreatDoor
