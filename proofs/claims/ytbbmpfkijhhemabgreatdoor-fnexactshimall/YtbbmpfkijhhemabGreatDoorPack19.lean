import Derived.Test.YtbbmpfkijhhemabGreatDoorPack14
import Derived.Test.YtbbmpfkijhhemabGreatDoorPack18
import Derived.RegionTactic
import Derived.ChangeAlike
import Derived.WalkKit
import Derived.Test.YtbbmpfkijhhemabGreatDoorPack1
import Derived.Deep.Slices
import Derived.Deep.Strs
import Derived.Test.YtbbmpfkijhhemabGreatDoorPack2
import Derived.Test.YtbbmpfkijhhemabGreatDoorPack13
import Derived.Test.YtbbmpfkijhhemabGreatDoorPack6
/- The contracts of impl.siteOk, impl.lastClock, impl.ShimBack. -/
namespace Go.Proofs.YtbbmpfkijhhemabGreatDoor
open Go.ChangeShapes Go.WideShapes Go.ChangeAt Go.RowKit Go.Joins
attribute [local go_sem ↓] Go.wp_at_zero Go.wp_at_succ

set_option maxRecDepth 100000 in
theorem RowG.isWsG {w : World} {base n cap : Nat} {a : Option Addr} {es : List EnG} (h : RowG w base (.slice a n cap) es) {ws : List Wr} (hw : es.map (·.x) = ws) (hx : Few ws) : IsWs w a ws := by
  obtain ⟨a', cap', n', e, _, ho⟩ := h.ownA hw
  injection e with e1 _ _
  rw [e1]
  exact ho.isWs hx

set_option maxRecDepth 100000 in
theorem SBox.drewS {w : World} {b : Nat} {si cl sq la : Int} {a : Option Addr} {n cap : Nat} {t : ByteArray} (h : SBox w b si cl sq la a n cap t) : Hid (SBox w.drew b si cl sq la a n cap t) := h.of_block (Nat.le_refl _) rfl

set_option maxRecDepth 100000 in
theorem RowG.drewS {w : World} {base : Nat} {v : Value} {es : List EnG} (h : RowG w base v es) : Hid (RowG w.drew base v es) := h.below ((Below.refl _ _).drew)

set_option maxRecDepth 100000 in
theorem siteOk_any (si : Int) (w : World) :
    Calls Tryz.prog 31 #[.int .i64 si] w fun e w' => e = .returned (.bool (btw si 0 3)) ∧ w' = w := by
  go_enter Tryz.func31, Tryz.ntmps31
  go_wp2_with fail
  refine (inRange_any _ _ _ _).mono ?_
  rintro e w1 ⟨rfl, hw⟩
  subst w1
  go_wp2
  go_ret
  exact ⟨rfl, rfl⟩

set_option maxRecDepth 100000 in
set_option maxHeartbeats 2000000 in
theorem lastClock_any (a : Option Addr) (n cap : Nat) (ws : List Wr) (w : World) (hn : ws.length = n) (hm : n ≤ 1048576) (hh : IsWs w a ws) :
    Calls Tryz.prog 54 #[.slice a n cap] w fun e w' => e = .returned (.int .i64 (clockL ws)) ∧ Below w.heap.size w w' := by
  have HH := Lib.hid hh
  have HN := Lib.hid hn
  clear hh hn
  go_enter Tryz.func54, Tryz.ntmps54
  go_wp2
  go_loopw [3, 8] (fun t i wr => ∃ k : Nat, k ≤ n ∧ i = .int .i64 k ∧ t = .int .i64 (clockL (ws.take k)) ∧ Hid (Below w.heap.size w wr)) (fun _ i _ => n - (intOf i).toNat)
  case atStart => exact ⟨0, Nat.zero_le _, rfl, rfl, Below.refl _ _⟩
  case round =>
    obtain ⟨k, hk, rfl, rfl, HB⟩ := hrel
    by_cases hk' : k < n
    · have hkw : k < ws.length := by rw [HN.out]; exact hk'
      have i1 : (0 : Int) ≤ (k : Int) := by omega
      have i2 : (k : Int) < (n : Int) := by omega
      obtain ⟨b, o, ad, cp, rfl, hz, ⟨e0, e1, e2, e3, e4, e5, e6⟩, -⟩ := HH.out.at HB.out HN.out hk'
      have HT := Lib.hid (clock_take ws k hkw)
      generalize ws.getD k wz = x at *
      obtain ⟨xk, xc, xs', xq, xv, xd, xx⟩ := x
      simp only at e0 e1 e2 e3 e4 e5 e6 HT
      generalize clockL (ws.take k) = c at *
      have HB2 : Hid (Below w.heap.size w (wr.alloc (.cells #[.int .i64 xk, .int .i64 xc, .int .i64 xs', .int .i64 xq, .int .i64 xv, .bool xd, .slice ad xx.length cp] 43))) := HB.out.alloc HB.out.size _
      go_wp2
      refine ⟨⟨k + 1, by omega, by go_num, ?_, HB2⟩, by simp [intOf]; omega⟩
      rw [HT.out]
      first | done | (congr 1; done) | (congr 1; omega)
    · have hkk : k = n := by omega
      subst hkk
      have e : ws.take k = ws := List.take_of_length_le (by rw [HN.out]; exact Nat.le_refl _)
      rw [e]
      go_wp2
      go_ret
      exact ⟨rfl, HB.out⟩

/-- What the region's row and shim are. -/
def RowFI (base : Nat) (m : List Wr) : Fact := fun v w => ∃ a n cp es, v = .slice a n cp ∧ es.length = n ∧ es.map (·.x) = m ∧ RowG w base v es

def BuiltFI (base : Nat) (si : Int) (t : ByteArray) (m : List Wr) : Fact := fun v w => ∃ a n cp es, v = shV si 0 0 (-1) a n cp t ∧ es.length = n ∧ es.map (·.x) = m ∧ RowG w base (.slice a n cp) es

set_option maxRecDepth 100000 in
theorem lasts_RowFI (base : Nat) (m : List Wr) : lasts (fun w w' => Below w.heap.size w w') (RowFI base m) := by
  rintro v w w' ⟨a, n, cp, es, h1, h2, h3, h4⟩ hr
  exact ⟨a, n, cp, es, h1, h2, h3, h4.below hr⟩

set_option maxRecDepth 100000 in
theorem lasts_BuiltFI (base : Nat) (si : Int) (t : ByteArray) (m : List Wr) : lasts (fun w w' => Below w.heap.size w w') (BuiltFI base si t m) := by
  rintro v w w' ⟨a, n, cp, es, h1, h2, h3, h4⟩ hr
  exact ⟨a, n, cp, es, h1, h2, h3, h4.below hr⟩

set_option maxRecDepth 100000 in
set_option maxHeartbeats 16000000 in
theorem implBack_any (si : Int) (s : ByteArray) (w : World) (hs : s.size ≤ 1048576) (hL : LV w) :
    Calls Tryz.prog 33 #[.int .i64 si, .string s] w fun e w' => ((btw si 0 3 = false ∧ e = .returned (shV 0 0 0 0 none 0 0 ⟨#[]⟩)) ∨ (btw si 0 3 = true ∧ ∃ bs a n cp es, e = .returned (shV si (clockL (replayW bs)) (backF si bs).1 (backF si bs).2 a n cp (str (logT bs))) ∧ IsLog s.data.toList bs ∧ es.length = n ∧ es.map (·.x) = replayW bs ∧ RowG w' w.heap.size (.slice a n cp) es)) ∧ Below w.heap.size w w' := by
  have HB0 : Hid (Below w.heap.size w (w.alloc (.cells #[.int .i64 0, .int .i64 0, .int .i64 0, .int .i64 0, .slice none 0 0, .string ⟨#[]⟩] 29))) := (Below.refl _ _).alloc (Nat.le_refl _) _
  have HZ0 : Hid (SBox (w.alloc (.cells #[.int .i64 0, .int .i64 0, .int .i64 0, .int .i64 0, .slice none 0 0, .string ⟨#[]⟩] 29)) w.heap.size 0 0 0 0 none 0 0 ⟨#[]⟩) := SBox.start w 0 0 0 0 none 0 0 ⟨#[]⟩ 29
  have HLV := Lib.hid (hL.below HB0.out)
  clear hL
  go_enter Tryz.func33, Tryz.ntmps33
  go_wp2_with fail
  generalize w.alloc (.cells #[.int .i64 0, .int .i64 0, .int .i64 0, .int .i64 0, .slice none 0 0, .string ⟨#[]⟩] 29) = W0 at *
  refine (siteOk_any si _).mono ?_
  rintro e w1 ⟨rfl, hw⟩
  subst w1
  by_cases hsi : btw si 0 3 = true
  rotate_left
  · have hsf : btw si 0 3 = false := by simpa using hsi
    have HSF := Lib.hid hsf
    rw [hsf]
    clear hsi hsf
    obtain ⟨yl, y0, y1, y2, y3, y4, y5, yf⟩ := HZ0.out
    obtain ⟨W9, hW9⟩ : ∃ W9, putS W0 w.heap.size 0 0 0 0 none 0 0 ⟨#[]⟩ = W9 := ⟨_, rfl⟩
    have HS9 : Hid (SBox W9 w.heap.size 0 0 0 0 none 0 0 ⟨#[]⟩) := by rw [← hW9]; exact sbox_putS HZ0.out _ _ _ _ _ _ _ _
    have HB9 : Hid (Below w.heap.size w W9) := by rw [← hW9]; exact Hole.below HB0.out (hole_putS (Hole.refl _ _) _ _ _ _ _ _ _ _) (Nat.le_refl _) HB0.out.size
    unfold putS at hW9
    go_wp2_with fail
    try rw [hW9]
    clear hW9 y0 y1 y2 y3 y4 y5 yf yl
    obtain ⟨yl, y0, y1, y2, y3, y4, y5, yf⟩ := HS9.out
    exact bodyPost_ret (v := shV 0 0 0 0 none 0 0 ⟨#[]⟩) (by simp [results, Tryz.results33, shV, go_sem, y0, y1, y2, y3, y4, y5]) rfl ⟨.inl ⟨HSF.out, rfl⟩, HB9.out⟩
  have HSI := Lib.hid hsi
  rw [hsi]
  clear hsi
  go_wp2_with fail
  refine (implLog_any s _ hs HLV.out.1 HLV.out.2.1 HLV.out.2.2.1 HLV.out.2.2.2).mono ?_
  rintro e w3 ⟨ba, bc, bat, rfl, hlog, hbn, hown, hb⟩
  have HLG := Lib.hid hlog
  have HFB := Lib.hid (fewB_log hlog.1)
  have HIB : Hid (IsBs w3 ba (batsOf bat)) := hown.isBs HFB.out
  have hpl : (logT (batsOf bat)).length ≤ s.size := by
    have := hlog.2.1.length_le
    simpa using this
  have HTX : Hid (s.extract 0 (logT (batsOf bat)).length = str (logT (batsOf bat))) := extract_pre hlog.2.1
  have HBN : Hid ((batsOf bat).length = bat.length) := by simp [batsOf, Hid]
  have HB3 := Lib.hid (below_step HB0.out HB0.out.size hb)
  have HZ3 := Lib.hid (HZ0.out.below hb)
  have hz3 : w.heap.size < w3.heap.size := HZ3.out.lt
  have hn3 : bat.length ≤ 1048576 := by omega
  clear hb hown hlog HB0 HZ0 hbn
  generalize batsOf bat = bs at *
  generalize bat.length = n at *
  obtain ⟨pp, hpp⟩ : ∃ pp, pp = (logT bs).length := ⟨_, rfl⟩
  rw [← hpp] at HTX hpl
  rw [← hpp]
  clear hpp
  have p0 : (0 : Int) ≤ (pp : Int) := by omega
  have p1 : (pp : Int) ≤ (s.size : Int) := by omega
  have HOK : Hid (∀ x ∈ replayW bs, okW x = true) := ((mapOk_iff _).1 (replay_ok bs)).1
  have HRL := Lib.hid (mapOk_len (replay_ok bs))
  have HFR := Lib.hid (ok_few (replay_ok bs))
  go_wp2_with fail
  refine wp_region_slots 8 [[(0, false)], [(5, false)], [(22, true)], [(1, false)], [(6, false)], [(24, true), (25, true)], [(21, true), (23, true), (26, true)], []] (fun w' => Below w3.heap.size w3 w') (fun w w' => Below w.heap.size w w') (by kernel_rfl) (by kernel_rfl) (by rfl) (Below.refl _ _).drew (fun _ _ h hr => below_step h h.size hr) ?_
  iterate 2 (apply slot_eq; · (intro ρ w' ⟨p1, p2, p3⟩ hS hn; simp at hn; go_simp; exact ⟨Below.refl _ _, rfl⟩))
  refine slot_fact (RowFI w3.heap.size (replayW bs)) (lasts_RowFI _ _) ?_ ?_
  · intro ρ w' ⟨p1, p2, p3⟩ hS hn
    simp at hn
    go_simp
    exact got_call (implReplay_any ba n bc bs w' HBN.out hn3 HFB.out (HIB.out.below hS)) fun e w'' ⟨v, es, he, hm, hr, hb⟩ => by
      obtain ⟨a, cp, rfl, -⟩ := hr.form
      exact ⟨_, he, hb, a, es.length, cp, es, rfl, rfl, hm, hr.mono hS.size⟩
  iterate 3 (apply slot_eq; · (intro ρ w' ⟨p1, p2, p3⟩ hS hn; simp at hn; go_simp; exact ⟨Below.refl _ _, rfl⟩))
  refine slot_fact (BuiltFI w3.heap.size si (s.extract 0 pp) (replayW bs)) (lasts_BuiltFI _ _ _ _) ?_ ?_
  · intro ρ w' ⟨p1, p2, p3⟩ hS hn
    simp at hn
    obtain ⟨f21, ⟨a, m, cp, es, f23, hl, hm, hr⟩, f26⟩ := hn
    go_simp
    exact ⟨Below.refl _ _, a, m, cp, es, rfl, hl, hm, by rw [f23] at hr; exact hr⟩
  refine slot_fact (ShimF w3.heap.size) (lasts_shim _) ?_ ?_
  · intro ρ w' ⟨p1, p2, p3⟩ hS hn
    have hsz := hS.size
    go_simp
    exact ⟨(Below.refl _ _).alloc (Nat.le_refl _) _, shim_mk w' _ hsz⟩
  refine slot_end ?_
  intro tv w5 hS hF
  simp at hF
  obtain ⟨⟨b, f7, hbl, hbox⟩, ⟨a, m, cp, es, f27, hl, hm, hr⟩, f26, f25, f24, ⟨a2, m2, cp2, es2, f23, -, -, -⟩, f22, f21⟩ := hF
  simp only [List.take_succ_cons, List.take_zero, List.drop_succ_cons, List.drop_zero, putAll, f7, f27, f26, f25, f24, f23, f22, f21]
  clear f7 f27 f26 f25 f24 f23 f22 f21
  simp only [Act.put, List.setIfInBounds_toArray, List.set_cons_succ, List.set_cons_zero]
  have HOE : Hid (∀ e ∈ es, okW e.x = true) := fun e he => HOK.out _ (by rw [← hm]; exact List.mem_map_of_mem he)
  have HAP := Lib.hid (hr.apartS hbox HOE.out)
  have HM := Lib.hid hm
  have HL := Lib.hid hl
  have HB5 := Lib.hid hS
  have HX5 := Lib.hid (sbox_zero hbox)
  have HR5 := Lib.hid hr
  clear hS hbox hr hm hl
  obtain ⟨yl, y0, y1, y2, y3, y4, y5, yf⟩ := HX5.out
  obtain ⟨W6, hW6⟩ : ∃ W6, putS w5 b si 0 0 (-1) a m cp (s.extract 0 pp) = W6 := ⟨_, rfl⟩
  have HX6 : Hid (SBox W6 b si 0 0 (-1) a m cp (s.extract 0 pp)) := by rw [← hW6]; exact sbox_putS HX5.out _ _ _ _ _ _ _ _
  have hH6 : Hole b w5 W6 := by rw [← hW6]; exact hole_putS (Hole.refl _ _) _ _ _ _ _ _ _ _
  have HR6 : Hid (RowG W6 w3.heap.size (.slice a m cp) es) := HR5.out.aside hH6 HAP.out
  have HB6 : Hid (Below w3.heap.size w3 W6) := Hole.below HB5.out hH6 hbl HB5.out.size
  unfold putS at hW6
  unfold shV
  obtain ⟨ul, u0, u1, u2, u3, u4, u5, uf⟩ := HX6.out
  have HIW : Hid (IsWs W6 a (replayW bs)) := HR6.out.isWsG HM.out HFR.out
  have HLN : Hid ((replayW bs).length = m) := by rw [← HM.out, List.length_map]; exact HL
  have hL6 : m ≤ 6 := by rw [← HLN.out]; exact HRL.out
  go_wp2_with fail
  clear hW6 hH6 y0 y1 y2 y3 y4 y5 yf yl HX5 HR5 HB5
  refine (lastClock_any _ m cp _ _ HLN.out (by omega) HIW.out).mono ?_
  rintro e w7 ⟨rfl, hb⟩
  have HB7 := Lib.hid (below_step HB6.out HB6.out.size hb)
  have HX7 := Lib.hid (HX6.out.below hb)
  have HR7 := Lib.hid (HR6.out.below hb)
  clear hb u0 u1 u2 u3 u4 u5 uf ul
  obtain ⟨ul, u0, u1, u2, u3, u4, u5, uf⟩ := HX7.out
  clear HIW
  obtain ⟨cl, hcl⟩ : ∃ cl, cl = clockL (replayW bs) := ⟨_, rfl⟩
  rw [← hcl]
  have HCL := Lib.hid hcl
  clear hcl
  have HX8 : Hid (SBox (w7.setCell ⟨b, 1, none⟩ (.int .i64 cl)) b si cl 0 (-1) a m cp (s.extract 0 pp)) := HX7.out.set1 cl
  have HR8 : Hid (RowG (w7.setCell ⟨b, 1, none⟩ (.int .i64 cl)) w3.heap.size (.slice a m cp) es) := HR7.out.aside ((Hole.refl _ _).set 1 _) HAP.out
  have HB8 : Hid (Below w3.heap.size w3 (w7.setCell ⟨b, 1, none⟩ (.int .i64 cl))) := Hole.below HB7.out ((Hole.refl _ _).set 1 _) hbl HB7.out.size
  go_wp2
  generalize (w7.setCell ⟨b, 1, none⟩ (.int .i64 cl)) = W8 at *
  clear HX7 HR7 HB7 HX6 HR6 HB6 u0 u1 u2 u3 u4 u5 uf ul
  go_loopw [34] (fun i wr => ∃ (k : Nat) (sq la : Int), k ≤ n ∧ i = .int .i64 k ∧ Hid (backF si (bs.take k) = (sq, la)) ∧ Hid (SBox wr b si cl sq la a m cp (s.extract 0 pp)) ∧ Hid (RowG wr w3.heap.size (.slice a m cp) es) ∧ Hid (Below w3.heap.size w3 wr)) (fun i _ => n - (intOf i).toNat)
  case atStart => exact ⟨0, 0, -1, Nat.zero_le _, rfl, rfl, HX8, HR8, HB8⟩
  case round =>
    clear HX8 HR8 HB8
    obtain ⟨k, sq, la, hk, rfl, HSQ, HX, HR, HB⟩ := hrel
    obtain ⟨W1, rfl⟩ : ∃ W1, W1 = wr := ⟨wr, rfl⟩
    by_cases hk' : k < n
    · have hkk : k < bs.length := by rw [HBN.out]; exact hk'
      have i1 : (0 : Int) ≤ (k : Int) := by omega
      have i2 : (k : Int) < (n : Int) := by omega
      obtain ⟨b1, o1, ad, cpd, rfl, hz, e0, hw⟩ := HIB.out.at HB.out hkk
      obtain ⟨hl, hf⟩ := HFB.out k hkk
      have HTK := Lib.hid (backF_take si bs k hkk)
      rw [HSQ.out] at HTK
      have HQ3 : Hid (∃ ad', some (⟨b1, o1, none⟩ : Addr) = some ⟨b1, o1, none⟩ ∧ ad' = ad) := ⟨ad, rfl, rfl⟩
      have HB1 := Lib.hid HB.out
      clear hf
      generalize hwsx : bs.getD k [] = ws at *
      have HWSX := Lib.hid hwsx
      clear hwsx
      have HW := Lib.hid hw
      clear hw HQ3
      obtain ⟨q, hq⟩ : ∃ q, ws.length = q := ⟨_, rfl⟩
      rw [hq] at e0 hl
      have HQ := Lib.hid hq
      clear hq
      have hb1 : b1 < w3.heap.size := HIB.out.base_lt hkk rfl
      have HE0 : Hid (∀ w', Below w3.heap.size W1 w' → w'.cell? ⟨b1, o1 + k, none⟩ = some (.slice ad q cpd)) := fun w' hb => (World.cell?_of_block (hb.block b1 hb1)).trans e0
      have HWB : Hid (IsWs w3 ad ws) := by rw [← HWSX.out]; exact HIB.out.elem hkk HB1.out (by rw [HWSX.out, HQ.out]; exact e0)
      have HBX : Hid (Below W1.heap.size W1 (W1.alloc (.cells #[.slice ad q cpd] 74))) := (Below.refl _ _).alloc (Nat.le_refl _) _
      have HX1 := Lib.hid (HX.out.below HBX.out)
      have HR1 := Lib.hid (HR.out.below HBX.out)
      have HB2 := Lib.hid (below_step HB.out HB.out.size HBX.out)
      go_wp2
      generalize (W1.alloc (.cells #[.slice ad q cpd] 74)) = W2 at *
      clear HBX HX HR HB
      go_loopw [41] (fun i wq => ∃ (p : Nat) (sq2 la2 : Int), p ≤ q ∧ i = .int .i64 p ∧ Hid (backRun si (sq, la) (ws.take p) = (sq2, la2)) ∧ Hid (SBox wq b si cl sq2 la2 a m cp (s.extract 0 pp)) ∧ Hid (RowG wq w3.heap.size (.slice a m cp) es) ∧ Hid (Below w3.heap.size w3 wq)) (fun i _ => q - (intOf i).toNat)
      case atStart => exact ⟨0, sq, la, Nat.zero_le _, rfl, rfl, HX1, HR1, HB2⟩
      case round =>
        clear HX1 HR1 HB2
        obtain ⟨p, sq2, la2, hp, rfl, HS2, HX, HR, HB⟩ := hrel
        by_cases hp' : p < q
        · have hpp2 : p < ws.length := by rw [HQ.out]; exact hp'
          have j1 : (0 : Int) ≤ (p : Int) := by omega
          have j2 : (p : Int) < (q : Int) := by omega
          obtain ⟨b2, o2, ad2, cp2, rfl, hz2, ⟨c0, c1, c2, c3, c4, c5, c6⟩, hd⟩ := HWB.out.at HB.out HQ.out hp'
          have HS3 := Lib.hid (backRun_take si ws (sq, la) p hpp2)
          rw [HS2.out] at HS3
          clear hd
          generalize ws.getD p wz = x at *
          obtain ⟨xk, xc, xs', xq, xv, xd, xx⟩ := x
          simp only at c0 c1 c2 c3 c4 c5 c6
          have HBX : Hid (Below wr.heap.size wr (wr.alloc (.cells #[.int .i64 xk, .int .i64 xc, .int .i64 xs', .int .i64 xq, .int .i64 xv, .bool xd, .slice ad2 xx.length cp2] 43))) := (Below.refl _ _).alloc (Nat.le_refl _) _
          have HX2 := Lib.hid (HX.out.below HBX.out)
          have HR2 := Lib.hid (HR.out.below HBX.out)
          have HB2 := Lib.hid (below_step HB.out HB.out.size HBX.out)
          skip
          have HWX : Hid (WrAt (wr.alloc (.cells #[.int .i64 xk, .int .i64 xc, .int .i64 xs', .int .i64 xq, .int .i64 xv, .bool xd, .slice ad2 xx.length cp2] 43)) wr.heap.size 0 ⟨xk, xc, xs', xq, xv, xd, xx⟩ ad2 cp2) := by
            have h := heap_alloc_new wr (.cells #[.int .i64 xk, .int .i64 xc, .int .i64 xs', .int .i64 xq, .int .i64 xv, .bool xd, .slice ad2 xx.length cp2] 43)
            refine ⟨?_, ?_, ?_, ?_, ?_, ?_, ?_⟩ <;> (rw [cell_of_row _ _ _ _ _ (0, 0) h]; rfl)
          have hne : wr.heap.size ≠ b := by have := HX.out.lt; omega
          obtain ⟨yl, y0, y1, y2, y3, y4, y5, yf⟩ := HX2.out
          by_cases hc : xs' = si ∧ sq2 < xq
          · have HS4 : Hid (backRun si (sq, la) (ws.take (p + 1)) = (xq, xk)) := by rw [HS3.out]; unfold backStep; rw [if_pos hc]; exact Lib.hid rfl
            obtain ⟨rfl, hlt⟩ := hc
            have HX3 := Lib.hid ((HX2.out.set2 xq).set3 xk)
            have HH3 := Lib.hid (((Hole.refl b (wr.alloc (.cells #[.int .i64 xk, .int .i64 xc, .int .i64 xs', .int .i64 xq, .int .i64 xv, .bool xd, .slice ad2 xx.length cp2] 43))).set 2 (.int .i64 xq)).set 3 (.int .i64 xk))
            have HR3 := Lib.hid (HR2.out.aside HH3.out HAP.out)
            have HB3' := Lib.hid (Hole.below HB2.out HH3.out hbl HB2.out.size)
            skip
            obtain ⟨c0', c1', c2', c3', c4', c5', c6'⟩ := HWX.out
            simp only [Nat.zero_add] at c0' c1' c2' c3' c4' c5' c6'
            go_wp2_with fail
            generalize (wr.alloc (.cells #[.int .i64 xk, .int .i64 xc, .int .i64 xs', .int .i64 xq, .int .i64 xv, .bool xd, .slice ad2 xx.length cp2] 43)) = V1 at *
            clear c0 c1 c2 c3 c4 c5 c6
            go_region
            all_goals (go_wp2; first | exact ⟨⟨p + 1, _, _, by omega, by go_num, HS4, HX3, HR3, HB3'⟩, by simp [intOf]; omega⟩ | exact ⟨⟨p + 1, _, _, by omega, by go_num, HS4, HX3.out.drewS, HR3.out.drewS, HB3'.out.drew⟩, by simp [intOf]; omega⟩)
          · have HS4 : Hid (backRun si (sq, la) (ws.take (p + 1)) = (sq2, la2)) := by rw [HS3.out]; unfold backStep; rw [if_neg hc]; exact Lib.hid rfl
            by_cases h1 : xs' = si
            · subst h1
              have h2 : ¬ sq2 < xq := fun h => hc ⟨rfl, h⟩
              clear hc
              go_wp2
              exact ⟨⟨p + 1, _, _, by omega, by go_num, HS4, HX2, HR2, HB2⟩, by simp [intOf]; omega⟩
            · clear hc
              go_wp2
              exact ⟨⟨p + 1, _, _, by omega, by go_num, HS4, HX2, HR2, HB2⟩, by simp [intOf]; omega⟩
        · have hpp3 : p = q := by omega
          subst hpp3
          have HS4 : Hid (backF si (bs.take (k + 1)) = (sq2, la2)) := by
            have h := HS2.out
            rw [List.take_of_length_le (by rw [HQ.out]; exact Nat.le_refl _)] at h
            exact HTK.out.trans h
          go_wp2
          exact ⟨⟨k + 1, _, _, by omega, by go_num, HS4, HX, HR, HB⟩, by simp [intOf]; omega⟩
    · have hkk : k = n := by omega
      subst hkk
      have HSB : Hid (backF si bs = (sq, la)) := by
        have h := HSQ.out
        rw [List.take_of_length_le (by rw [HBN.out]; exact Nat.le_refl _)] at h
        exact h
      have HZ := Lib.hid (HZ3.out.below HB.out)
      have hwb : w.heap.size ≠ b := by omega
      obtain ⟨xl, x0, x1, x2, x3, x4, x5, xf⟩ := HX.out
      obtain ⟨yl, y0, y1, y2, y3, y4, y5, yf⟩ := HZ.out
      obtain ⟨W9, hW9⟩ : ∃ W9, putS W1 w.heap.size si cl sq la a m cp (s.extract 0 pp) = W9 := ⟨_, rfl⟩
      have HS9 : Hid (SBox W9 w.heap.size si cl sq la a m cp (s.extract 0 pp)) := by rw [← hW9]; exact sbox_putS HZ.out _ _ _ _ _ _ _ _
      have hH9 : Hole w.heap.size W1 W9 := by rw [← hW9]; exact hole_putS (Hole.refl _ _) _ _ _ _ _ _ _ _
      have HB9 : Hid (Below w.heap.size w W9) := Hole.below (HB3.out.trans (HB.out.mono (by omega))) hH9 (Nat.le_refl _) (by omega)
      have HR9 : Hid (RowG W9 w3.heap.size (.slice a m cp) es) := HR.out.holeQ hH9 hz3
      unfold putS at hW9
      go_wp2_with fail
      try rw [hW9]
      clear hW9 hH9 x0 x1 x2 x3 x4 x5 xf xl y0 y1 y2 y3 y4 y5 yf yl HX HR HZ
      obtain ⟨yl, y0, y1, y2, y3, y4, y5, yf⟩ := HS9.out
      refine bodyPost_ret (v := shV si cl sq la a m cp (s.extract 0 pp)) (by simp [results, Tryz.results33, shV, go_sem, y0, y1, y2, y3, y4, y5]) rfl ⟨.inr ⟨HSI.out, bs, a, m, cp, es, ?_, HLG.out, HL.out, HM.out, HR9.out.mono (by omega)⟩, HB9.out⟩
      rw [HSB.out, HCL.out, HTX.out]

end Go.Proofs.YtbbmpfkijhhemabGreatDoor

/- The laws' marks of shims: the contracts of markShim and heldShim; those of spec.ShimNew and impl.ShimNew. -/
namespace Go.Proofs.YtbbmpfkijhhemabGreatDoor
open Go.ChangeShapes Go.WideShapes Go.ChangeAt Go.RowKit Go.Joins
attribute [local go_sem ↓] Go.wp_at_zero Go.wp_at_succ

set_option maxRecDepth 100000 in
set_option maxHeartbeats 2000000 in
theorem markShim_any (si cl sq la : Int) (t : ByteArray) (lo hi n cap : Nat) (a : Option Addr) (k : Int) (ws : List Wr) (γ : Nat → Nat) (w : World) (hn : ws.length = n) (hm : n ≤ 1048576) (hbk : bulk ws ≤ 1048576) (h0 : 0 ≤ k) (h1 : k ≤ 1073741824) (h : OwnA w lo hi a ws γ) :
    Calls Tryz.prog 10 #[shV si cl sq la a n cap t, .int .i64 k] w fun e w' => e = .returned (.int .i64 (markK ws k n)) ∧ MarkedA w' a ws γ k ∧ ∃ w1, Below w.heap.size w w1 ∧ Only (Span lo hi) w1 w' := by
  have H := Lib.hid h
  have HN := Lib.hid hn
  clear h hn
  have HB : Hid (Below w.heap.size w (w.alloc (.cells #[.int .i64 si, .int .i64 cl, .int .i64 sq, .int .i64 la, .slice a n cap, .string t] 29))) := (Below.refl _ _).alloc (Nat.le_refl _) _
  unfold shV
  go_enter Tryz.func10, Tryz.ntmps10
  go_wp2_with fail
  generalize (w.alloc (.cells #[.int .i64 si, .int .i64 cl, .int .i64 sq, .int .i64 la, .slice a n cap, .string t] 29)) = W0 at *
  refine (markWriteS_all lo hi n cap a k ws γ _ HN.out hm hbk h0 h1 (H.out.below HB.out)).mono ?_
  rintro e w1 ⟨rfl, hmk, ho⟩
  have HM := Lib.hid hmk
  have HO := Lib.hid ho
  clear hmk ho
  go_wp2
  go_ret
  exact ⟨rfl, HM.out, W0, HB.out, HO.out⟩

set_option maxRecDepth 100000 in
theorem log_empty {bs : List (List Wr)} (h : IsLog [] bs) : bs = [] := by
  have h2 := List.prefix_nil.1 h.2.1
  cases bs with
  | nil => rfl
  | cons b r =>
    exfalso
    rw [logT_cons] at h2
    have h3 : batchT b = [] := (List.append_eq_nil_iff.1 h2).1
    rw [batchT_rest (h.1 b (by simp))] at h3
    simp at h3

/-- A site that is new, or none. -/
def newS (si : Int) : Int × Int := if btw si 0 3 = true then (si, -1) else (0, 0)

end Go.Proofs.YtbbmpfkijhhemabGreatDoor

/- Shims as plain values; what comes back from a log, as one; the contracts of ShimBack and ShimNew said by it. -/
namespace Go.Proofs.YtbbmpfkijhhemabGreatDoor
open Go.ChangeShapes Go.WideShapes Go.ChangeAt Go.RowKit Go.Joins
attribute [local go_sem ↓] Go.wp_at_zero Go.wp_at_succ

/-- A shim as a plain value. -/
structure Sm where
  si : Int
  cl : Int
  sq : Int
  la : Int
  ws : List Wr
  t : ByteArray

def smV (x : Sm) (a : Option Addr) (cap : Nat) : Value := shV x.si x.cl x.sq x.la a x.ws.length cap x.t

def smz : Sm := ⟨0, 0, 0, 0, [], ⟨#[]⟩⟩

theorem log_ex : ∀ (n : Nat) (l : List UInt8), l.length ≤ n → ∃ bs, IsLog l bs := by
  intro n
  induction n with
  | zero =>
    intro l hl
    have e : l = [] := List.length_eq_zero_iff.1 (by omega)
    subst e
    refine ⟨[], fun b hb => by simp at hb, List.prefix_refl _, fun b hb h => ?_⟩
    have h2 := List.prefix_nil.1 h
    have h3 : batchT b = [] := by simpa [logT] using h2
    rw [batchT_rest hb] at h3
    simp at h3
  | succ n ih =>
    intro l hl
    by_cases h : ∃ b, okWs b = true ∧ batchT b <+: l
    · obtain ⟨b, hb, r, rfl⟩ := h
      have hne : 1 ≤ (batchT b).length := by
        rw [batchT_rest hb]
        simp only [List.length_append, List.length_cons]
        omega
      obtain ⟨bs, h1, h2, h3⟩ := ih r (by rw [List.length_append] at hl; omega)
      refine ⟨b :: bs, fun c hc => ?_, ?_, fun c hc h4 => ?_⟩
      · rcases List.mem_cons.1 hc with e | hc
        · rw [e]; exact hb
        · exact h1 c hc
      · rw [logT_cons]
        exact (List.prefix_append_right_inj _).2 h2
      · rw [logT_cons, List.append_assoc] at h4
        exact h3 c hc ((List.prefix_append_right_inj _).1 h4)
    · refine ⟨[], fun b hb => by simp at hb, List.nil_prefix, fun b hb h2 => h ⟨b, hb, ?_⟩⟩
      simpa [logT] using h2

/-- The batches of a log. -/
noncomputable def logOf (l : List UInt8) : List (List Wr) := (log_ex l.length l (Nat.le_refl _)).choose

theorem logOf_is (l : List UInt8) : IsLog l (logOf l) := (log_ex l.length l (Nat.le_refl _)).choose_spec

theorem logOf_eq {l : List UInt8} {bs : List (List Wr)} (h : IsLog l bs) : bs = logOf l := log_one h (logOf_is l)

/-- The site that comes back from a log. -/
noncomputable def backX (si : Int) (s : ByteArray) : Sm :=
  if btw si 0 3 = true then ⟨si, clockL (replayW (logOf s.data.toList)), (backF si (logOf s.data.toList)).1, (backF si (logOf s.data.toList)).2, replayW (logOf s.data.toList), str (logT (logOf s.data.toList))⟩ else smz

theorem backX_ok (si : Int) (s : ByteArray) : mapOkB (backX si s).ws = true := by
  unfold backX
  split
  · exact replay_ok _
  · rfl

set_option maxRecDepth 100000 in
theorem specBack_x (si : Int) (s : ByteArray) (w : World) (hs : s.size ≤ 1048576) :
    Calls Tryz.prog 28 #[.int .i64 si, .string s] w fun e w' => ∃ a cp, e = .returned (smV (backX si s) a cp) ∧ IsWs w' a (backX si s).ws ∧ Below w.heap.size w w' := by
  refine (specBack_any si s w hs).mono ?_
  rintro e w' ⟨h, hb⟩
  unfold backX
  rcases h with ⟨h1, rfl⟩ | ⟨h1, bs, g, cp, es, L, rfl, h2, h3, h4, h5⟩
  · rw [h1, if_neg (by simp)]
    exact ⟨none, 0, rfl, .inl rfl, hb⟩
  · rw [h1, if_pos rfl]
    have e := logOf_eq h2
    subst e
    have hl : (replayW (logOf s.data.toList)).length = L := by rw [← h4, List.length_map]; exact h3
    refine ⟨some ⟨g, 0, none⟩, cp, ?_, h5.isWs h4 (ok_few (replay_ok _)), hb⟩
    unfold smV
    simp only
    rw [hl]

set_option maxRecDepth 100000 in
theorem implBack_x (si : Int) (s : ByteArray) (w : World) (hs : s.size ≤ 1048576) (hL : LV w) :
    Calls Tryz.prog 33 #[.int .i64 si, .string s] w fun e w' => ∃ a cp γ, e = .returned (smV (backX si s) a cp) ∧ OwnA w' w.heap.size w'.heap.size a (backX si s).ws γ ∧ Below w.heap.size w w' := by
  refine (implBack_any si s w hs hL).mono ?_
  rintro e w' ⟨h, hb⟩
  unfold backX
  rcases h with ⟨h1, rfl⟩ | ⟨h1, bs, a, n, cp, es, rfl, h2, h3, h4, h5⟩
  · rw [h1, if_neg (by simp)]
    exact ⟨none, 0, fun _ => 0, rfl, .inl rfl, hb⟩
  · rw [h1, if_pos rfl]
    have e := logOf_eq h2
    subst e
    have hl : (replayW (logOf s.data.toList)).length = n := by rw [← h4, List.length_map]; exact h3
    obtain ⟨a', cap', n', e, _, ho⟩ := h5.ownA h4
    injection e with e1 _ _
    subst e1
    refine ⟨a, cp, gammaG es, ?_, ho, hb⟩
    unfold smV
    simp only
    rw [hl]

/-- A new site. -/
def newX (si : Int) : Sm := ⟨(newS si).1, 0, 0, (newS si).2, [], ⟨#[]⟩⟩

set_option maxRecDepth 100000 in
theorem SBox.only {w w' : World} {S : Nat → Prop} {b : Nat} {si cl sq la : Int} {a : Option Addr} {n cap : Nat} {t : ByteArray} (h : SBox w b si cl sq la a n cap t) (ho : Only S w w') (hn : ¬ S b) : SBox w' b si cl sq la a n cap t := h.of_block (by rw [ho.size]; exact Nat.le_refl _) (ho.block b hn)

end Go.Proofs.YtbbmpfkijhhemabGreatDoor

/- What comes in, opened: tags, dependencies, slices of them, writes. -/
namespace Go.Proofs.YtbbmpfkijhhemabGreatDoor
open Go.ChangeShapes Go.WideShapes Go.ChangeAt Go.RowKit Go.Joins Go.Deep
set_option maxRecDepth 100000

theorem cellsInt : Tryz.prog.cellsOf 3 = 1 := by kernel_rfl

theorem cellsTag : Tryz.prog.cellsOf 52 = 3 := by kernel_rfl

theorem cellsDep : Tryz.prog.cellsOf 88 = 4 := by kernel_rfl

section
variable {H : Type} {enc : TypeId × Value → H} {w : World} {base : Nat} {spare : Nat → Bool} {held : Bool}

theorem tag_cells {fuel : Nat} {cs : List Value} {x : DataW H × List MemPlace} (h : DataW.trod enc Tryz.prog w base spare held fuel 52 cs = some x) : ∃ c s q : Int, cs = [.int .i64 c, .int .i64 s, .int .i64 q] := by
  obtain ⟨y0, y1, y2, n, _, hl, h0, h1, h2⟩ := trod_struct3 Tryz.underlying52 h
  rw [cellsTag] at hl
  match cs, hl with
  | [v0, v1, v2], _ =>
    obtain ⟨a0, e0, _, _⟩ := DataW.trod_int Tryz.underlying3 h0
    obtain ⟨a1, e1, _, _⟩ := DataW.trod_int Tryz.underlying3 h1
    obtain ⟨a2, e2, _, _⟩ := DataW.trod_int Tryz.underlying3 h2
    simp [cellsInt] at e0 e1 e2
    subst e0 e1 e2
    exact ⟨a0, a1, a2, rfl⟩

theorem dep_cells {fuel : Nat} {cs : List Value} {x : DataW H × List MemPlace} (h : DataW.trod enc Tryz.prog w base spare held fuel 88 cs = some x) : ∃ d : Dp, cs = [.int .i64 d.k, .int .i64 d.c, .int .i64 d.s, .int .i64 d.q] := by
  obtain ⟨y0, y1, n, _, hl, h0, h1⟩ := trod_struct2 Tryz.underlying88 h
  rw [cellsDep] at hl
  match cs, hl with
  | [v0, v1, v2, v3], _ =>
    obtain ⟨a0, e0, _, _⟩ := DataW.trod_int Tryz.underlying3 h0
    obtain ⟨c, s, q, e1⟩ := tag_cells h1
    simp [cellsInt] at e0
    simp [cellsTag] at e1
    obtain ⟨e1, e2, e3⟩ := e1
    subst e0 e1 e2 e3
    exact ⟨⟨a0, c, s, q⟩, rfl⟩

theorem add_form {a : Addr} {v : Value} (h : w.cell? a = some v) : a = ⟨a.block, a.off, none⟩ := by
  cases a with
  | mk b o s =>
    cases s with
    | none => rfl
    | some s =>
      simp only [World.cell?] at h
      split at h <;> simp at h

theorem add_plain (b o i : Nat) : (Addr.mk b o none).add i = ⟨b, o + i, none⟩ := by
  unfold Addr.add
  split
  · rename_i h
    rw [h]
    rfl
  · rfl

theorem deps_cells {fuel : Nat} {a : Option Addr} {len cap : Nat} {x : DataW H × List MemPlace} (h : DataW.trod enc Tryz.prog w base spare held fuel 53 [.slice a len cap] = some x) :
    ∃ xs : List Dp, xs.length = len ∧ len ≤ maxLen ∧ IsDeps w a xs := by
  rcases open_slice Tryz.underlying53 h with ⟨hcs, _⟩ | ⟨a', len', cap', m, n, D, Pl, hcs, _, hl, hm, hmm, _, hel⟩
  · simp at hcs
    obtain ⟨rfl, rfl, rfl⟩ := hcs
    exact ⟨[], rfl, Nat.zero_le _, .inl rfl⟩
  · simp at hcs
    obtain ⟨rfl, rfl, rfl⟩ := hcs
    have hml : len ≤ m := by rw [hmm]; split <;> omega
    have hd : ∀ i, i < len → ∃ d : Dp, w.cell? (a'.add (i * 4)) = some (.int .i64 d.k) ∧ w.cell? (a'.add (i * 4 + 1)) = some (.int .i64 d.c) ∧ w.cell? (a'.add (i * 4 + 2)) = some (.int .i64 d.s) ∧ w.cell? (a'.add (i * 4 + 3)) = some (.int .i64 d.q) := by
      intro i hi
      obtain ⟨cs', h1, h2⟩ := hel i (by omega)
      rw [cellsDep] at h1
      obtain ⟨_, _, hc⟩ := World.cells?_some h1
      obtain ⟨d, hdd⟩ := dep_cells h2
      rw [hdd] at hc
      have c0 := hc 0 (by omega)
      have c1 := hc 1 (by omega)
      have c2 := hc 2 (by omega)
      have c3 := hc 3 (by omega)
      rw [add_add] at c0 c1 c2 c3
      exact ⟨d, by simpa using c0, by simpa using c1, by simpa using c2, by simpa using c3⟩
    by_cases h0 : len = 0
    · subst h0
      exact ⟨[], rfl, Nat.zero_le _, .inl rfl⟩
    have : Inhabited Dp := ⟨dz⟩
    obtain ⟨f, hf⟩ := choose_lt hd
    have ha : a' = ⟨a'.block, a'.off, none⟩ := by
      have h1 := (hf 0 (by omega)).1
      simp [Addr.add] at h1
      exact add_form h1
    refine ⟨(List.range len).map f, by simp, by omega, .inr ⟨a'.block, a'.off, by rw [← ha], ?_, ?_⟩⟩
    · obtain ⟨cs', h1, _⟩ := hel 0 (by omega)
      rw [cellsDep] at h1
      have h2 := World.cells?_block h1 (by omega)
      simpa [Addr.add] using h2
    · intro i hi
      have hi' : i < len := by simpa using hi
      have hg : ((List.range len).map f).getD i dz = f i := by simp [List.getD, hi']
      rw [hg]
      obtain ⟨h1, h2, h3, h4⟩ := hf i hi'
      rw [ha] at h1 h2 h3 h4
      rw [add_plain] at h1 h2 h3 h4
      exact ⟨h1, h2, h3, h4⟩

theorem open_deps {b0 : Nat} {r : Reach} {v : Value} {d : DataW H} {p : List MemPlace} (hv : Value.okWide Tryz.prog w r b0 53 v) (h : DataW.Trod enc Tryz.prog w base (fun _ => true) held 53 v d p) :
    ∃ (a : Option Addr) (len cap : Nat) (xs : List Dp), v = .slice a len cap ∧ (xs.length = len ∧ len ≤ maxLen ∧ IsDeps w a xs) := by
  obtain ⟨a, len, cap, rfl⟩ := okWide_slice Tryz.underlying53 hv
  obtain ⟨fuel, hf⟩ := h
  obtain ⟨xs, hx⟩ := deps_cells (by simpa [Value.cells] using hf)
  exact ⟨a, len, cap, xs, rfl, hx⟩

theorem cellsBool : Tryz.prog.cellsOf 4 = 1 := by kernel_rfl

theorem cellsDepS : Tryz.prog.cellsOf 53 = 1 := by kernel_rfl

theorem cellsWrite : Tryz.prog.cellsOf 55 = 7 := by kernel_rfl

theorem slice_cells {fuel : Nat} {v : Value} {x : DataW H × List MemPlace} (h : DataW.trod enc Tryz.prog w base spare held fuel 53 [v] = some x) : ∃ a len cap, v = .slice a len cap := by
  rcases open_slice Tryz.underlying53 h with ⟨hcs, _⟩ | ⟨a', len', cap', m, n, D, Pl, hcs, _⟩
  · simp at hcs
    exact ⟨_, _, _, hcs⟩
  · simp at hcs
    exact ⟨_, _, _, hcs⟩

theorem open_write {b0 : Nat} {r : Reach} {v : Value} {d : DataW H} {p : List MemPlace} (hv : Value.okWide Tryz.prog w r b0 55 v) (h : DataW.Trod enc Tryz.prog w base (fun _ => true) held 55 v d p) :
    ∃ (k c s q va : Int) (de : Bool) (a : Option Addr) (len cap : Nat) (xs : List Dp), v = .agg #[.int .i64 k, .int .i64 c, .int .i64 s, .int .i64 q, .int .i64 va, .bool de, .slice a len cap] ∧ (xs.length = len ∧ len ≤ maxLen ∧ IsDeps w a xs) := by
  obtain ⟨cs, rfl, hsz⟩ := okWide_struct Tryz.underlying55 hv
  rw [cellsWrite] at hsz
  obtain ⟨fuel, hf⟩ := h
  obtain ⟨xs', n, _, _, _, hlen, hfd⟩ := DataW.trod_struct Tryz.underlying55 hf
  cases cs with
  | mk l =>
    have hl : l.length = 7 := by simpa using hsz
    match l, hl, xs', hlen with
    | [v0, v1, v2, v3, v4, v5, v6], _, [y0, y1, y2, y3, y4], _ =>
      have g0 := hfd 0 _ rfl
      have g1 := hfd 1 _ rfl
      have g2 := hfd 2 _ rfl
      have g3 := hfd 3 _ rfl
      have g4 := hfd 4 _ rfl
      simp [Value.cells, cellsInt, cellsTag, cellsBool, cellsDepS] at g0 g1 g2 g3 g4
      obtain ⟨k, e0, _, _⟩ := DataW.trod_int Tryz.underlying3 g0
      obtain ⟨c, s, q, e1⟩ := tag_cells g1
      obtain ⟨va, e2, _, _⟩ := DataW.trod_int Tryz.underlying3 g2
      obtain ⟨de, e3, _⟩ := DataW.trod_bool Tryz.underlying4 g3
      obtain ⟨a, len, cap, e4⟩ := slice_cells g4
      simp at e0 e1 e2 e3
      obtain ⟨e1, e1', e1''⟩ := e1
      subst e0 e1 e1' e1'' e2 e3 e4
      obtain ⟨xs, hx⟩ := deps_cells g4
      exact ⟨k, c, s, q, va, de, a, len, cap, xs, rfl, hx⟩

end
end Go.Proofs.YtbbmpfkijhhemabGreatDoor

/- What comes in, opened: slices of writes. -/
namespace Go.Proofs.YtbbmpfkijhhemabGreatDoor
open Go.ChangeShapes Go.WideShapes Go.ChangeAt Go.RowKit Go.Joins Go.Deep
set_option maxRecDepth 100000

section
variable {H : Type} {enc : TypeId × Value → H} {w : World} {base : Nat} {spare : Nat → Bool} {held : Bool}

theorem write_cells {fuel : Nat} {cs : List Value} {x : DataW H × List MemPlace} (h : DataW.trod enc Tryz.prog w base spare held fuel 55 cs = some x) :
    ∃ (y : Wr) (a : Option Addr) (cap : Nat), cs = [.int .i64 y.k, .int .i64 y.c, .int .i64 y.s, .int .i64 y.q, .int .i64 y.v, .bool y.de, .slice a y.xs.length cap] ∧ y.xs.length ≤ maxLen ∧ IsDeps w a y.xs := by
  obtain ⟨xs', n, hl0, _, _, hlen, hfd⟩ := DataW.trod_struct Tryz.underlying55 h
  have hl : cs.length = 7 := by rw [cellsWrite] at *; assumption
  match cs, hl, xs', hlen with
  | [v0, v1, v2, v3, v4, v5, v6], _, [y0, y1, y2, y3, y4], _ =>
    have g0 := hfd 0 _ rfl
    have g1 := hfd 1 _ rfl
    have g2 := hfd 2 _ rfl
    have g3 := hfd 3 _ rfl
    have g4 := hfd 4 _ rfl
    simp [cellsInt, cellsTag, cellsBool, cellsDepS] at g0 g1 g2 g3 g4
    obtain ⟨k, e0, _, _⟩ := DataW.trod_int Tryz.underlying3 g0
    obtain ⟨c, s, q, e1⟩ := tag_cells g1
    obtain ⟨va, e2, _, _⟩ := DataW.trod_int Tryz.underlying3 g2
    obtain ⟨de, e3, _⟩ := DataW.trod_bool Tryz.underlying4 g3
    obtain ⟨a, len, cap, e4⟩ := slice_cells g4
    simp at e0 e1 e2 e3
    obtain ⟨e1, e1', e1''⟩ := e1
    subst e0 e1 e1' e1'' e2 e3 e4
    obtain ⟨xs, hx1, hx2, hx3⟩ := deps_cells g4
    subst hx1
    exact ⟨⟨k, c, s, q, va, de, xs⟩, a, cap, rfl, hx2, hx3⟩

theorem ws_cells {fuel : Nat} {a : Option Addr} {len cap : Nat} {x : DataW H × List MemPlace} (h : DataW.trod enc Tryz.prog w base spare held fuel 22 [.slice a len cap] = some x) :
    ∃ ws : List Wr, ws.length = len ∧ len ≤ maxLen ∧ IsWs w a ws := by
  rcases open_slice Tryz.underlying22 h with ⟨hcs, _⟩ | ⟨a', len', cap', m, n, D, Pl, hcs, _, hl, hm, hmm, _, hel⟩
  · simp at hcs
    obtain ⟨rfl, rfl, rfl⟩ := hcs
    exact ⟨[], rfl, Nat.zero_le _, .inl rfl⟩
  · simp at hcs
    obtain ⟨rfl, rfl, rfl⟩ := hcs
    have hml : len ≤ m := by rw [hmm]; split <;> omega
    have hd : ∀ i, i < len → ∃ y : Wr, ∃ (ad : Option Addr) (cp : Nat), w.cell? (a'.add (i * 7)) = some (.int .i64 y.k) ∧ w.cell? (a'.add (i * 7 + 1)) = some (.int .i64 y.c) ∧ w.cell? (a'.add (i * 7 + 2)) = some (.int .i64 y.s) ∧ w.cell? (a'.add (i * 7 + 3)) = some (.int .i64 y.q) ∧ w.cell? (a'.add (i * 7 + 4)) = some (.int .i64 y.v) ∧ w.cell? (a'.add (i * 7 + 5)) = some (.bool y.de) ∧ w.cell? (a'.add (i * 7 + 6)) = some (.slice ad y.xs.length cp) ∧ y.xs.length ≤ maxLen ∧ IsDeps w ad y.xs := by
      intro i hi
      obtain ⟨cs', h1, h2⟩ := hel i (by omega)
      rw [cellsWrite] at h1
      obtain ⟨_, _, hc⟩ := World.cells?_some h1
      obtain ⟨y, ad, cp, hdd, hy1, hy2⟩ := write_cells h2
      rw [hdd] at hc
      have c0 := hc 0 (by omega)
      have c1 := hc 1 (by omega)
      have c2 := hc 2 (by omega)
      have c3 := hc 3 (by omega)
      have c4 := hc 4 (by omega)
      have c5 := hc 5 (by omega)
      have c6 := hc 6 (by omega)
      rw [add_add] at c0 c1 c2 c3 c4 c5 c6
      exact ⟨y, ad, cp, by simpa using c0, by simpa using c1, by simpa using c2, by simpa using c3, by simpa using c4, by simpa using c5, by simpa using c6, hy1, hy2⟩
    by_cases h0 : len = 0
    · subst h0
      exact ⟨[], rfl, Nat.zero_le _, .inl rfl⟩
    have : Inhabited Wr := ⟨wz⟩
    obtain ⟨f, hf⟩ := choose_lt hd
    have ha : a' = ⟨a'.block, a'.off, none⟩ := by
      obtain ⟨_, _, h1, _⟩ := hf 0 (by omega)
      simp [Addr.add] at h1
      exact add_form h1
    refine ⟨(List.range len).map f, by simp, by omega, .inr ⟨a'.block, a'.off, by rw [← ha], ?_, ?_⟩⟩
    · obtain ⟨cs', h1, _⟩ := hel 0 (by omega)
      rw [cellsWrite] at h1
      have h2 := World.cells?_block h1 (by omega)
      simpa [Addr.add] using h2
    · intro i hi
      have hi' : i < len := by simpa using hi
      have hg : ((List.range len).map f).getD i wz = f i := by simp [List.getD, hi']
      rw [hg]
      obtain ⟨ad, cp, h1, h2, h3, h4, h5, h6, h7, h8, h9⟩ := hf i hi'
      rw [ha] at h1 h2 h3 h4 h5 h6 h7
      rw [add_plain] at h1 h2 h3 h4 h5 h6 h7
      exact ⟨ad, cp, ⟨h1, h2, h3, h4, h5, h6, h7⟩, h8, h9⟩

theorem open_ws {b0 : Nat} {r : Reach} {v : Value} {d : DataW H} {p : List MemPlace} (hv : Value.okWide Tryz.prog w r b0 22 v) (h : DataW.Trod enc Tryz.prog w base (fun _ => true) held 22 v d p) :
    ∃ (a : Option Addr) (len cap : Nat) (ws : List Wr), v = .slice a len cap ∧ (ws.length = len ∧ len ≤ maxLen ∧ IsWs w a ws) := by
  obtain ⟨a, len, cap, rfl⟩ := okWide_slice Tryz.underlying22 hv
  obtain ⟨fuel, hf⟩ := h
  obtain ⟨ws, hx⟩ := ws_cells (by simpa [Value.cells] using hf)
  exact ⟨a, len, cap, ws, rfl, hx⟩

end
end Go.Proofs.YtbbmpfkijhhemabGreatDoor

/- The laws' copy of a shim: the contract of toShim; a shim that comes in, opened. -/
namespace Go.Proofs.YtbbmpfkijhhemabGreatDoor
open Go.ChangeShapes Go.WideShapes Go.ChangeAt Go.RowKit Go.Joins Go.Deep
attribute [local go_sem ↓] Go.wp_at_zero Go.wp_at_succ

set_option maxRecDepth 100000 in
theorem own_hole {w w' : World} {B lo hi : Nat} {a : Option Addr} {ws : List Wr} {γ : Nat → Nat} (h : OwnA w lo hi a ws γ) (hh : Hole B w w') (hB : B < lo) : OwnA w' lo hi a ws γ := h.kept hh.size fun x h1 _ h3 => hh.block x h3 (by omega)

set_option maxRecDepth 100000 in
set_option maxHeartbeats 4000000 in
theorem toShim_any (x : Sm) (a : Option Addr) (cap : Nat) (w : World) (hn : x.ws.length ≤ 1048576) (hx : Few x.ws) (h : IsWs w a x.ws) :
    Calls Tryz.prog 6 #[smV x a cap] w fun e w' => ∃ a' cp γ, e = .returned (smV x a' cp) ∧ OwnA w' w.heap.size w'.heap.size a' x.ws γ ∧ Below w.heap.size w w' := by
  obtain ⟨si, cl, sq, la, ws, t⟩ := x
  simp only at hn hx h
  have H := Lib.hid h
  unfold smV
  simp only
  obtain ⟨n, hnn⟩ : ∃ n, ws.length = n := ⟨_, rfl⟩
  have HX : Hid (∀ i, i < n → (ws.getD i wz).xs.length ≤ 1048576) := fun i hi => hx i (by rw [hnn]; exact hi)
  rw [hnn] at hn ⊢
  have HN := Lib.hid hnn
  clear hnn h hx
  unfold shV
  have HB1 : Below w.heap.size w (w.alloc (.cells #[.int .i64 si, .int .i64 cl, .int .i64 sq, .int .i64 la, .slice a n cap, .string t] 24)) := (Below.refl _ _).alloc (Nat.le_refl _) _
  have hz1 : (w.alloc (.cells #[.int .i64 si, .int .i64 cl, .int .i64 sq, .int .i64 la, .slice a n cap, .string t] 24)).heap.size = w.heap.size + 1 := by simp
  have hS1 := SBox.start w si cl sq la a n cap t 24
  obtain ⟨W1, hW1⟩ : ∃ W1, w.alloc (.cells #[.int .i64 si, .int .i64 cl, .int .i64 sq, .int .i64 la, .slice a n cap, .string t] 24) = W1 := ⟨_, rfl⟩
  rw [hW1] at HB1 hz1 hS1
  have HB2 : Below w.heap.size w (W1.alloc (.cells zeroSh 29)) := HB1.alloc (by omega) _
  have hz2 : (W1.alloc (.cells zeroSh 29)).heap.size = w.heap.size + 1 + 1 := by simp [hz1]
  have hS2 : SBox (W1.alloc (.cells zeroSh 29)) (w.heap.size + 1) 0 0 0 0 none 0 0 ⟨#[]⟩ := by have := SBox.start W1 0 0 0 0 none 0 0 ⟨#[]⟩ 29; rw [hz1] at this; exact this
  have hS1 := hS1.below ((Below.refl W1.heap.size W1).alloc (Nat.le_refl _) (.cells zeroSh 29))
  obtain ⟨W2, hW2⟩ : ∃ W2, W1.alloc (.cells zeroSh 29) = W2 := ⟨_, rfl⟩
  rw [hW2] at HB2 hz2 hS2 hS1
  have HB3 : Below w.heap.size w (W2.alloc (.cells zeroSh 29)) := HB2.alloc (by omega) _
  have hz3 : (W2.alloc (.cells zeroSh 29)).heap.size = w.heap.size + 1 + 1 + 1 := by simp [hz2]
  have hS3 : SBox (W2.alloc (.cells zeroSh 29)) (w.heap.size + 1 + 1) 0 0 0 0 none 0 0 ⟨#[]⟩ := by have := SBox.start W2 0 0 0 0 none 0 0 ⟨#[]⟩ 29; rw [hz2] at this; exact this
  have hS1 := hS1.below ((Below.refl W2.heap.size W2).alloc (Nat.le_refl _) (.cells zeroSh 29))
  have hS2 := hS2.below ((Below.refl W2.heap.size W2).alloc (Nat.le_refl _) (.cells zeroSh 29))
  obtain ⟨W3, hW3⟩ : ∃ W3, W2.alloc (.cells zeroSh 29) = W3 := ⟨_, rfl⟩
  rw [hW3] at HB3 hz3 hS1 hS2 hS3
  unfold zeroSh at hW2 hW3
  have hS4 := (((hS3.set0 si).set1 cl).set2 sq).set3 la
  have hH4 : Hole (w.heap.size + 1 + 1) W3 ((((W3.setCell ⟨w.heap.size + 1 + 1, 0, none⟩ (.int .i64 si)).setCell ⟨w.heap.size + 1 + 1, 1, none⟩ (.int .i64 cl)).setCell ⟨w.heap.size + 1 + 1, 2, none⟩ (.int .i64 sq)).setCell ⟨w.heap.size + 1 + 1, 3, none⟩ (.int .i64 la)) := ((((Hole.refl _ _).set 0 _).set 1 _).set 2 _).set 3 _
  have HS1 := Lib.hid (hS1.of_block hH4.size (hH4.block _ hS1.lt (by omega)))
  have HS2 := Lib.hid (hS2.of_block hH4.size (hH4.block _ hS2.lt (by omega)))
  have HS4 := Lib.hid hS4
  have HB4 : Hid (Below w.heap.size w ((((W3.setCell ⟨w.heap.size + 1 + 1, 0, none⟩ (.int .i64 si)).setCell ⟨w.heap.size + 1 + 1, 1, none⟩ (.int .i64 cl)).setCell ⟨w.heap.size + 1 + 1, 2, none⟩ (.int .i64 sq)).setCell ⟨w.heap.size + 1 + 1, 3, none⟩ (.int .i64 la))) := Hole.below HB3 hH4 (by omega) (by omega)
  have hz4 : ((((W3.setCell ⟨w.heap.size + 1 + 1, 0, none⟩ (.int .i64 si)).setCell ⟨w.heap.size + 1 + 1, 1, none⟩ (.int .i64 cl)).setCell ⟨w.heap.size + 1 + 1, 2, none⟩ (.int .i64 sq)).setCell ⟨w.heap.size + 1 + 1, 3, none⟩ (.int .i64 la)).heap.size = w.heap.size + 1 + 1 + 1 := by simp [World.setCell, hz3]
  obtain ⟨-, a0, a1, a2, a3, a4, a5, -⟩ := hS1
  obtain ⟨-, b0, b1, b2, b3, b4, b5, bf⟩ := hS3
  clear hS2 hS4 hH4 HB1 HB2 HB3
  go_enter Tryz.func6, Tryz.ntmps6
  go_wp2_with fail
  clear a0 a1 a2 a3 a4 a5 b0 b1 b2 b3 b4 b5 bf hW1 hW2 hW3
  generalize ((((W3.setCell ⟨w.heap.size + 1 + 1, 0, none⟩ (.int .i64 si)).setCell ⟨w.heap.size + 1 + 1, 1, none⟩ (.int .i64 cl)).setCell ⟨w.heap.size + 1 + 1, 2, none⟩ (.int .i64 sq)).setCell ⟨w.heap.size + 1 + 1, 3, none⟩ (.int .i64 la)) = W4 at *
  refine (toWriteS_any a n cap ws _ hn HN.out HX.out (H.out.below HB4.out)).mono ?_
  rintro e w5 ⟨γ, rfl, hO, hb⟩
  have HO : Hid (OwnA w5 W4.heap.size w5.heap.size (some ⟨W4.heap.size, 0, none⟩) ws γ) := hO.gen.ownA
  have HB5 := Lib.hid (below_step HB4.out HB4.out.size hb)
  have HT1 := Lib.hid (HS1.out.below hb)
  have HT2 := Lib.hid (HS2.out.below hb)
  have HT4 := Lib.hid (HS4.out.below hb)
  clear hb hO HS1 HS2 HS4 HB4
  have hgl : w.heap.size + 1 + 1 < W4.heap.size := by omega
  obtain ⟨g, hg⟩ : ∃ g, W4.heap.size = g := ⟨_, rfl⟩
  rw [hg] at HO hgl
  rw [hg]
  clear hz4 hg
  have hS6 := (HT4.out.set4 (some ⟨g, 0, none⟩) n n).set5 t
  have hH6 : Hole (w.heap.size + 1 + 1) w5 ((w5.setCell ⟨w.heap.size + 1 + 1, 4, none⟩ (.slice (some ⟨g, 0, none⟩) n n)).setCell ⟨w.heap.size + 1 + 1, 5, none⟩ (.string t)) := ((Hole.refl _ _).set 4 _).set 5 _
  have HS6 := Lib.hid hS6
  have hT2' := HT2.out.of_block hH6.size (hH6.block _ HT2.out.lt (by omega))
  have HB6 : Hid (Below w.heap.size w ((w5.setCell ⟨w.heap.size + 1 + 1, 4, none⟩ (.slice (some ⟨g, 0, none⟩) n n)).setCell ⟨w.heap.size + 1 + 1, 5, none⟩ (.string t))) := Hole.below HB5.out hH6 (by omega) HB5.out.size
  have HO6 := Lib.hid (own_hole HO.out hH6 hgl)
  obtain ⟨W6, hW6⟩ : ∃ W6, (w5.setCell ⟨w.heap.size + 1 + 1, 4, none⟩ (.slice (some ⟨g, 0, none⟩) n n)).setCell ⟨w.heap.size + 1 + 1, 5, none⟩ (.string t) = W6 := ⟨_, rfl⟩
  rw [hW6] at HS6 hT2' HB6 HO6
  have HT6 := Lib.hid hT2'
  have HS9 := Lib.hid (sbox_putS HT6.out si cl sq la (some ⟨g, 0, none⟩) n n t)
  have hH9 : Hole (w.heap.size + 1) W6 (putS W6 (w.heap.size + 1) si cl sq la (some ⟨g, 0, none⟩) n n t) := hole_putS (Hole.refl _ _) _ _ _ _ _ _ _ _
  have HB9 := Lib.hid (Hole.below HB6.out hH9 (by omega) HB6.out.size)
  have HO9 := Lib.hid (own_hole HO6.out hH9 (by omega))
  have hsz9 : W6.heap.size ≤ (putS W6 (w.heap.size + 1) si cl sq la (some ⟨g, 0, none⟩) n n t).heap.size := hH9.size
  have hsz6 : w5.heap.size ≤ W6.heap.size := by rw [← hW6]; exact hH6.size
  obtain ⟨W9, hW9⟩ : ∃ W9, putS W6 (w.heap.size + 1) si cl sq la (some ⟨g, 0, none⟩) n n t = W9 := ⟨_, rfl⟩
  rw [hW9] at HS9 HB9 HO9 hsz9
  unfold putS at hW9
  obtain ⟨-, a0, a1, a2, a3, a4, a5, af⟩ := HT1.out
  obtain ⟨-, b0, b1, b2, b3, b4, b5, bf⟩ := HT4.out
  obtain ⟨-, c0, c1, c2, c3, c4, c5, cf⟩ := HS6.out
  obtain ⟨-, d0, d1, d2, d3, d4, d5, df⟩ := HT6.out
  obtain ⟨-, y0, y1, y2, y3, y4, y5, -⟩ := HS9.out
  clear hT2' hH6 hH9 hS6
  go_wp2_with fail
  exact bodyPost_ret (v := shV si cl sq la (some ⟨g, 0, none⟩) n n t) (by simp [results, Tryz.results6, shV, go_sem, y0, y1, y2, y3, y4, y5]) rfl ⟨some ⟨g, 0, none⟩, n, γ, rfl, HO9.out.wider (by omega) (by omega), HB9.out⟩

set_option maxRecDepth 100000 in
theorem cellsShim : Tryz.prog.cellsOf 24 = 6 := by kernel_rfl

section
variable {H : Type} {enc : TypeId × Value → H} {w : World} {base : Nat} {spare : Nat → Bool} {held : Bool}

set_option maxRecDepth 100000 in
theorem cellsStr : Tryz.prog.cellsOf 9 = 1 := by kernel_rfl

set_option maxRecDepth 100000 in
theorem cellsWsS : Tryz.prog.cellsOf 22 = 1 := by kernel_rfl

set_option maxRecDepth 100000 in
theorem sliceWs_cells {fuel : Nat} {cs : List Value} {x : DataW H × List MemPlace} (h : DataW.trod enc Tryz.prog w base spare held fuel 22 cs = some x) : ∃ (a : Option Addr) (len cap : Nat), cs = [.slice a len cap] := by
  rcases open_slice Tryz.underlying22 h with ⟨hcs, _⟩ | ⟨a', len', cap', m, n, D, Pl, hcs, _⟩
  · exact ⟨none, 0, 0, hcs⟩
  · exact ⟨_, _, _, hcs⟩

set_option maxRecDepth 100000 in
theorem open_shim {b0 : Nat} {r : Reach} {v : Value} {d : DataW H} {p : List MemPlace} (hv : Value.okWide Tryz.prog w r b0 24 v) (h : DataW.Trod enc Tryz.prog w base (fun _ => true) held 24 v d p) :
    ∃ (x : Sm) (a : Option Addr) (cap : Nat), v = smV x a cap ∧ x.ws.length ≤ maxLen ∧ x.t.size ≤ maxLen ∧ IsWs w a x.ws := by
  obtain ⟨cs, rfl, hsz⟩ := okWide_struct Tryz.underlying24 hv
  rw [cellsShim] at hsz
  obtain ⟨fuel, hf⟩ := h
  obtain ⟨xs', n, _, _, _, hlen, hfd⟩ := DataW.trod_struct Tryz.underlying24 hf
  cases cs with
  | mk l =>
    have hl : l.length = 6 := by simpa using hsz
    match l, hl, xs', hlen with
    | [v0, v1, v2, v3, v4, v5], _, [y0, y1, y2, y3, y4, y5], _ =>
      have g0 := hfd 0 _ rfl
      have g1 := hfd 1 _ rfl
      have g2 := hfd 2 _ rfl
      have g3 := hfd 3 _ rfl
      have g4 := hfd 4 _ rfl
      have g5 := hfd 5 _ rfl
      simp [Value.cells, cellsInt, cellsStr, cellsWsS] at g0 g1 g2 g3 g4 g5
      obtain ⟨i0, e0, _, _⟩ := DataW.trod_int Tryz.underlying3 g0
      obtain ⟨i1, e1, _, _⟩ := DataW.trod_int Tryz.underlying3 g1
      obtain ⟨i2, e2, _, _⟩ := DataW.trod_int Tryz.underlying3 g2
      obtain ⟨i3, e3, _, _⟩ := DataW.trod_int Tryz.underlying3 g3
      obtain ⟨a, len, cap, e4⟩ := sliceWs_cells g4
      obtain ⟨s, e5, _, hs5⟩ := DataW.trod_string Tryz.underlying9 g5
      simp at e0 e1 e2 e3 e4 e5
      subst e0 e1 e2 e3 e4 e5
      obtain ⟨ws, hx1, hx2, hx3⟩ := ws_cells g4
      subst hx1
      exact ⟨⟨i0, i1, i2, i3, ws, s⟩, a, cap, rfl, hx2, hs5, hx3⟩

end

end Go.Proofs.YtbbmpfkijhhemabGreatDoor

/- Contracts of impl.Lacks, impl.Covered, impl.IsCut, spec.IsCut. -/
namespace Go.Proofs.YtbbmpfkijhhemabGreatDoor
open Go.ChangeShapes Go.WideShapes Go.ChangeAt Go.RowKit Go.Joins
attribute [local go_sem ↓] Go.wp_at_zero Go.wp_at_succ

set_option maxHeartbeats 4000000 in
theorem implLacks_any (a ad : Option Addr) (n m cap cd : Nat) (ws : List Wr) (ds : List Dp) (w : World) (hn : ws.length = n) (hm : n ≤ 1048576) (hl : ds.length = m) (hml : m ≤ 1048576) (hh : IsWs w a ws) (hd : IsDeps w ad ds) :
    Calls Tryz.prog 66 #[.slice a n cap, .slice ad m cd] w fun e w' => ∃ v, e = .returned v ∧ RowD w' w.heap.size v (lacksL ws ds) ∧ Below w.heap.size w w' := by
  have HH : Hid (IsWs w a ws) := hh
  have HD : Hid (IsDeps w ad ds) := hd
  have HN : Hid (ws.length = n) := hn
  have HL : Hid (ds.length = m) := hl
  clear hh hd hn hl
  obtain ⟨i0, hi0, hx0⟩ := Option.map_eq_some_iff.1 infoDep
  simp only [Prod.mk.injEq] at hx0
  have HI0 := Lib.hid hi0
  have HX0 := Lib.hid hx0
  clear hi0 hx0
  have HR0 : Hid (RowD w w.heap.size (.slice none 0 0) (lacksL ws (ds.take 0))) := World.ownsRow_nil _ _ _ _
  go_enter Tryz.func66, Tryz.ntmps66
  go_wp2
  go_loopw [5, 10] (fun t i wr => ∃ (k : Nat) (v : Value), k ≤ m ∧ i = .int .i64 k ∧ v = t ∧ Hid (RowD wr w.heap.size v (lacksL ws (ds.take k))) ∧ Hid (Below w.heap.size w wr)) (fun _ i _ => m - (intOf i).toNat)
  case atStart => exact ⟨0, _, Nat.zero_le _, rfl, rfl, HR0, Below.refl _ _⟩
  case round =>
    clear HR0
    obtain ⟨k, v, hk, rfl, rfl, HR, HB⟩ := hrel
    by_cases hk' : k < m
    · have hkd : k < ds.length := by rw [HL.out]; exact hk'
      obtain ⟨b, o, rfl, hz, e0, e1, e2, e3⟩ := HD.out.at HB.out hkd
      have i1 : (0 : Int) ≤ (k : Int) := by omega
      have i2 : (k : Int) < (m : Int) := by omega
      have hln := lacks_len ws ds k
      have HC : Hid (∀ W, Below wr.heap.size wr W → Calls Tryz.prog 91 #[.slice a n cap, .int .i64 (ds.getD k dz).k, tagV (ds.getD k dz).c (ds.getD k dz).s (ds.getD k dz).q] W fun e w' => e = .returned (.bool (hasB ws (ds.getD k dz).k (ds.getD k dz).c (ds.getD k dz).s (ds.getD k dz).q)) ∧ Below W.heap.size W w') := fun W hW =>
        implMapHas_any a n cap _ _ _ _ ws _ HN.out hm (HH.out.below (below_step HB.out HB.out.size hW))
      have HM : Hid (hasB ws (ds.getD k dz).k (ds.getD k dz).c (ds.getD k dz).s (ds.getD k dz).q = false → lacksL ws (ds.take (k + 1)) = lacksL ws (ds.take k) ++ [ds.getD k dz]) := fun h => lacks_more hkd (by unfold lacking; rw [h]; rfl)
      have HS : Hid (hasB ws (ds.getD k dz).k (ds.getD k dz).c (ds.getD k dz).s (ds.getD k dz).q = true → lacksL ws (ds.take (k + 1)) = lacksL ws (ds.take k)) := fun h => lacks_same hkd (by unfold lacking; rw [h]; rfl)
      clear HD
      generalize ds.getD k dz = d at *
      obtain ⟨dk, dc, dd, dq⟩ := d
      simp only at e0 e1 e2 e3 HC HM HS
      have HBX : Hid (Below wr.heap.size wr (wr.alloc (.cells #[.int .i64 dk, .int .i64 dc, .int .i64 dd, .int .i64 dq] 65))) := (Below.refl _ _).alloc (Nat.le_refl _) _
      cases hb : hasB ws dk dc dd dq
      · have HE := Lib.hid (HM.out hb)
        rw [hb] at HC
        clear hb HM HS
        generalize lacksL ws (ds.take k) = zs at *
        go_wp2_with fail
        refine (HC.out _ HBX.out).mono ?_
        rintro e wq ⟨rfl, hq⟩
        have HBQ : Hid (Below w.heap.size w wq) := below_step HB.out HB.out.size (below_step HBX.out HBX.out.size hq)
        have HRQ := Lib.hid (HR.out.below (below_step HBX.out HBX.out.size hq))
        have z0 : wq.cell? ⟨wr.heap.size, 0, none⟩ = some (.int .i64 dk) := box_cells hq 0 (by simp)
        have z1 : wq.cell? ⟨wr.heap.size, 1, none⟩ = some (.int .i64 dc) := box_cells hq 1 (by simp)
        have z2 : wq.cell? ⟨wr.heap.size, 2, none⟩ = some (.int .i64 dd) := box_cells hq 2 (by simp)
        have z3 : wq.cell? ⟨wr.heap.size, 3, none⟩ = some (.int .i64 dq) := box_cells hq 3 (by simp)
        have hwq : w.heap.size ≤ wq.heap.size := HBQ.out.size
        clear hq HC HR HB HBX
        have HBC : Hid (Below wq.heap.size wq (wq.alloc (.cells #[.int .i64 dk, .int .i64 dc, .int .i64 dd, .int .i64 dq] 65))) := (Below.refl _ _).alloc (Nat.le_refl _) _
        have HRC := Lib.hid (HRQ.out.below HBC.out)
        have HBD := Lib.hid (below_step HBQ.out HBQ.out.size HBC.out)
        go_wp2_with (at_builtin; refine wpList_append_lies _ (by rfl) _ _ _ (by rfl) w.heap.size 65 i0 (depV 0 0 0 0) 4 32 Tryz.underlying41 HI0.out HX0.out.1 HX0.out.2.1 HX0.out.2.2 (by rfl) (by omega) v zs.length (zs.flatMap dpVals) (by rfl) HRC.out ⟨wq.heap.size, 0, none⟩ 1 1 (dpVals ⟨dk, dc, dd, dq⟩) (by rfl) (by rfl) (oneD_cells wq _ ⟨dk, dc, dd, dq⟩) (dp_one _) (by omega) (by unfold maxLen; omega) (by omega) (by simp; omega) _ rfl ?_; intro g3 cp3 w5 hown hgrow hg3 _; refine Hid.out ?_)
        refine Lib.hid ?_
        have HB5 : Hid (Below w.heap.size w w5) := HBD.out.grown hgrow HBD.out.size fun j hj => (World.ownsRow.lt HRC.out j hj).1
        have HR5 : Hid (RowD w5 w.heap.size (.slice (some ⟨g3, 0, none⟩) (zs.length + 1) cp3) (lacksL ws (ds.take (k + 1)))) := by
          refine Lib.hid ?_
          rw [HE.out]
          unfold RowD
          rw [List.length_append, List.flatMap_append]
          simpa using hown
        clear hown hgrow
        go_wp2
        exact ⟨⟨k + 1, _, by omega, by go_num, rfl, HR5, HB5⟩, by simp [intOf]; omega⟩
      · have HE := Lib.hid (HS.out hb)
        rw [hb] at HC
        clear hb HM HS
        go_wp2_with fail
        refine (HC.out _ HBX.out).mono ?_
        rintro e wq ⟨rfl, hq⟩
        have HBQ : Hid (Below w.heap.size w wq) := below_step HB.out HB.out.size (below_step HBX.out HBX.out.size hq)
        have HRQ : Hid (RowD wq w.heap.size v (lacksL ws (ds.take (k + 1)))) := by
          rw [HE.out]
          exact HR.out.below (below_step HBX.out HBX.out.size hq)
        clear hq HC HR HB HBX
        go_wp2
        exact ⟨⟨k + 1, _, by omega, by go_num, rfl, HRQ, HBQ⟩, by simp [intOf]; omega⟩
    · have hkk : k = m := by omega
      subst hkk
      have HF : Hid (RowD wr w.heap.size v (lacksL ws ds)) := by
        have h := HR.out
        rw [List.take_of_length_le (by rw [HL.out]; exact Nat.le_refl _)] at h
        exact h
      go_wp2
      go_ret
      exact ⟨_, rfl, HF.out, HB.out⟩

set_option maxHeartbeats 1000000 in
theorem implCovered_any (a ad : Option Addr) (n m cap cd : Nat) (ws : List Wr) (ds : List Dp) (w : World) (hn : ws.length = n) (hm : n ≤ 1048576) (hl : ds.length = m) (hml : m ≤ 1048576) (hh : IsWs w a ws) (hd : IsDeps w ad ds) :
    Calls Tryz.prog 51 #[.slice a n cap, .slice ad m cd] w fun e w' => e = .returned (.bool (covB ws ds)) ∧ Below w.heap.size w w' := by
  have HC : Hid (Calls Tryz.prog 66 #[.slice a n cap, .slice ad m cd] w fun e w' => ∃ v, e = .returned v ∧ RowD w' w.heap.size v (lacksL ws ds) ∧ Below w.heap.size w w') := implLacks_any a ad n m cap cd ws ds w hn hm hl hml hh hd
  have HE : Hid (covB ws ds = (((lacksL ws ds).length : Int) == 0)) := by
    unfold covB
    show _ = _
    rw [Bool.eq_iff_iff]
    simp
  clear hh hd hn hl
  go_enter Tryz.func51, Tryz.ntmps51
  go_wp2_with fail
  refine HC.out.mono ?_
  rintro e w1 ⟨v, rfl, hrow, hb⟩
  obtain ⟨al, cl, rfl, -⟩ := hrow.form
  have HB := Lib.hid hb
  clear hrow hb HC
  go_wp2
  go_ret
  exact ⟨ret_bool HE.out.symm, HB.out⟩

def cutB (ws : List Wr) : Bool := mapOkB ws && ws.all fun x => covB ws x.xs

theorem cut_false {ws : List Wr} {k : Nat} (h : k < ws.length) (hk : covB ws (ws.getD k wz).xs = false) : cutB ws = false := by
  unfold cutB
  rw [Bool.and_eq_false_iff]
  refine .inr ?_
  rw [List.all_eq_false]
  refine ⟨ws.getD k wz, ?_, by rw [hk]; simp⟩
  have e : ws.getD k wz = ws[k] := by simp [List.getD, h]
  rw [e]
  exact List.getElem_mem h

theorem cut_true {ws : List Wr} {n : Nat} (hn : ws.length = n) (hm : mapOkB ws = true) (h : ∀ j, j < n → covB ws (ws.getD j wz).xs = true) : cutB ws = true := by
  unfold cutB
  rw [hm, Bool.true_and, List.all_eq_true]
  intro x hx
  obtain ⟨i, hi, rfl⟩ := List.mem_iff_getElem.1 hx
  have := h i (by rw [← hn]; exact hi)
  simpa [List.getD, hi] using this

theorem upto_next {P : Nat → Prop} {k : Nat} (h : ∀ j, j < k → P j) (hk : P k) : ∀ j, j < k + 1 → P j := fun j hj => by
  by_cases e : j < k
  · exact h j e
  · have : j = k := by omega
    rw [this]
    exact hk

set_option maxHeartbeats 2000000 in
theorem specIsCut_any (a : Option Addr) (n cap : Nat) (ws : List Wr) (w : World) (hn : ws.length = n) (hm : n ≤ 1048576) (hx : Few ws) (hh : IsWs w a ws) :
    Calls Tryz.prog 26 #[.slice a n cap] w fun e w' => e = .returned (.bool (cutB ws)) ∧ Below w.heap.size w w' := by
  have HH : Hid (IsWs w a ws) := hh
  have HN : Hid (ws.length = n) := hn
  have HX : Hid (Few ws) := hx
  have HC : Hid (Calls Tryz.prog 41 #[.slice a n cap] w fun e w' => e = .returned (.bool (mapOkB ws)) ∧ Below w.heap.size w w') := specMapOk_gen a n cap ws w hn hm hx hh
  clear hh hn hx
  cases ha : mapOkB ws
  · have HE : Hid (cutB ws = false) := by unfold cutB; rw [ha, Bool.false_and]; exact Lib.hid rfl
    rw [ha] at HC
    clear ha
    go_enter Tryz.func26, Tryz.ntmps26
    go_wp2_with fail
    refine HC.out.mono ?_
    rintro e w1 ⟨rfl, hb⟩
    have HB1 := Lib.hid hb
    clear hb
    go_wp2
    go_ret
    exact ⟨ret_bool HE.out.symm, HB1.out⟩
  have HA := Lib.hid ha
  rw [ha] at HC
  clear ha
  go_enter Tryz.func26, Tryz.ntmps26
  go_wp2_with fail
  refine HC.out.mono ?_
  rintro e w1 ⟨rfl, hb⟩
  have HB1 := Lib.hid hb
  clear hb HC
  go_wp2
  go_loopw [3] (fun i wr => ∃ k : Nat, k ≤ n ∧ i = .int .i64 k ∧ Hid (∀ j, j < k → covB ws (ws.getD j wz).xs = true) ∧ Hid (Below w.heap.size w wr)) (fun i _ => n - (intOf i).toNat)
  case atStart => exact ⟨0, Nat.zero_le _, rfl, fun j hj => absurd hj (Nat.not_lt_zero j), HB1⟩
  case round =>
    clear HB1
    obtain ⟨k, hk, rfl, HK, HB⟩ := hrel
    by_cases hk' : k < n
    · obtain ⟨b1, o1, ad, cp, ha1, hz, ⟨e0, e1, e2, e3, e4, e5, e6⟩, hd⟩ := HH.out.at HB.out HN.out hk'
      have i1 : (0 : Int) ≤ (k : Int) := by omega
      have i2 : (k : Int) < (n : Int) := by omega
      have hkm : k < ws.length := by rw [HN.out]; exact hk'
      have HW : Hid (Calls Tryz.prog 42 #[.slice a n cap, .slice ad (ws.getD k wz).xs.length cp] wr fun e w' => e = .returned (.bool (covB ws (ws.getD k wz).xs)) ∧ Below wr.heap.size wr w') := specCovered_any a ad n _ cap cp ws _ wr HN.out hm HX.out rfl (HX.out k hkm) (HH.out.below HB.out) hd
      subst ha1
      clear hd HH e0 e1 e2 e3 e4 e5
      cases h1 : covB ws (ws.getD k wz).xs
      · have HF : Hid (cutB ws = false) := cut_false hkm h1
        rw [h1] at HW
        clear h1
        generalize (ws.getD k wz).xs = xx at *
        go_wp2_with fail
        refine HW.out.mono ?_
        rintro e w2 ⟨rfl, hb⟩
        have HB2 : Hid (Below w.heap.size w w2) := below_step HB.out HB.out.size hb
        clear hb
        go_wp2
        go_ret
        exact ⟨ret_bool HF.out.symm, HB2.out⟩
      · have HK2 : Hid (∀ j, j < k + 1 → covB ws (ws.getD j wz).xs = true) := upto_next HK.out h1
        rw [h1] at HW
        clear h1
        generalize (ws.getD k wz).xs = xx at *
        go_wp2_with fail
        refine HW.out.mono ?_
        rintro e w2 ⟨rfl, hb⟩
        have HB2 : Hid (Below w.heap.size w w2) := below_step HB.out HB.out.size hb
        clear hb
        go_wp2
        exact ⟨⟨k + 1, by omega, by go_num, HK2, HB2⟩, by simp [intOf]; omega⟩
    · have hkk : k = n := by omega
      subst hkk
      have HF : Hid (cutB ws = true) := cut_true HN.out HA.out HK.out
      go_wp2
      go_ret
      exact ⟨ret_bool HF.out.symm, HB.out⟩

set_option maxHeartbeats 2000000 in
theorem implIsCut_any (a : Option Addr) (n cap : Nat) (ws : List Wr) (w : World) (hn : ws.length = n) (hm : n ≤ 1048576) (hx : Few ws) (hh : IsWs w a ws) :
    Calls Tryz.prog 32 #[.slice a n cap] w fun e w' => e = .returned (.bool (cutB ws)) ∧ Below w.heap.size w w' := by
  have HH : Hid (IsWs w a ws) := hh
  have HN : Hid (ws.length = n) := hn
  have HX : Hid (Few ws) := hx
  have HC : Hid (Calls Tryz.prog 50 #[.slice a n cap] w fun e w' => e = .returned (.bool (mapOkB ws)) ∧ Below w.heap.size w w') := implMapOk_any a n cap ws w hn hm hx hh
  clear hh hn hx
  cases ha : mapOkB ws
  · have HE : Hid (cutB ws = false) := by unfold cutB; rw [ha, Bool.false_and]; exact Lib.hid rfl
    rw [ha] at HC
    clear ha
    go_enter Tryz.func32, Tryz.ntmps32
    go_wp2_with fail
    refine HC.out.mono ?_
    rintro e w1 ⟨rfl, hb⟩
    have HB1 := Lib.hid hb
    clear hb
    go_wp2
    go_ret
    exact ⟨ret_bool HE.out.symm, HB1.out⟩
  have HA := Lib.hid ha
  rw [ha] at HC
  clear ha
  go_enter Tryz.func32, Tryz.ntmps32
  go_wp2_with fail
  refine HC.out.mono ?_
  rintro e w1 ⟨rfl, hb⟩
  have HB1 := Lib.hid hb
  clear hb HC
  go_wp2
  go_loopw [10] (fun i wr => ∃ k : Nat, k ≤ n ∧ i = .int .i64 k ∧ Hid (∀ j, j < k → covB ws (ws.getD j wz).xs = true) ∧ Hid (Below w.heap.size w wr)) (fun i _ => n - (intOf i).toNat)
  case atStart => exact ⟨0, Nat.zero_le _, rfl, fun j hj => absurd hj (Nat.not_lt_zero j), HB1⟩
  case round =>
    clear HB1
    obtain ⟨k, hk, rfl, HK, HB⟩ := hrel
    by_cases hk' : k < n
    · obtain ⟨b1, o1, ad, cp, ha1, hz, ⟨e0, e1, e2, e3, e4, e5, e6⟩, hd⟩ := HH.out.at HB.out HN.out hk'
      have i1 : (0 : Int) ≤ (k : Int) := by omega
      have i2 : (k : Int) < (n : Int) := by omega
      have hkm : k < ws.length := by rw [HN.out]; exact hk'
      have HW : Hid (∀ W, Below wr.heap.size wr W → Calls Tryz.prog 51 #[.slice a n cap, .slice ad (ws.getD k wz).xs.length cp] W fun e w' => e = .returned (.bool (covB ws (ws.getD k wz).xs)) ∧ Below W.heap.size W w') := fun W hW => implCovered_any a ad n _ cap cp ws _ W HN.out hm rfl (HX.out k hkm) (HH.out.below (below_step HB.out HB.out.size hW)) (hd.below hW)
      subst ha1
      have HK1 : Hid (covB ws (ws.getD k wz).xs = true → ∀ j, j < k + 1 → covB ws (ws.getD j wz).xs = true) := fun h1 => upto_next HK.out h1
      have HF1 : Hid (covB ws (ws.getD k wz).xs = false → cutB ws = false) := fun h1 => cut_false hkm h1
      clear hd HH HK
      generalize ws.getD k wz = x at *
      obtain ⟨xk, xc, xs', xq, xv, xd, xx⟩ := x
      simp only at e0 e1 e2 e3 e4 e5 e6 HW HK1 HF1
      cases h1 : covB ws xx
      · have HF := Lib.hid (HF1.out h1)
        rw [h1] at HW
        clear h1 HK1 HF1
        go_wp2_with fail
        refine (HW.out _ ((Below.refl _ _).alloc (Nat.le_refl _) _)).mono ?_
        rintro e w2 ⟨rfl, hb⟩
        have HB2 : Hid (Below w.heap.size w w2) := below_step HB.out HB.out.size (BoxIn.start hb).below
        clear hb
        go_wp2
        go_ret
        exact ⟨ret_bool HF.out.symm, HB2.out⟩
      · have HK2 := Lib.hid (HK1.out h1)
        rw [h1] at HW
        clear h1 HK1 HF1
        go_wp2_with fail
        refine (HW.out _ ((Below.refl _ _).alloc (Nat.le_refl _) _)).mono ?_
        rintro e w2 ⟨rfl, hb⟩
        have HB2 : Hid (Below w.heap.size w w2) := below_step HB.out HB.out.size (BoxIn.start hb).below
        clear hb
        go_wp2
        exact ⟨⟨k + 1, by omega, by go_num, HK2, HB2⟩, by simp [intOf]; omega⟩
    · have hkk : k = n := by omega
      subst hkk
      have HF : Hid (cutB ws = true) := cut_true HN.out HA.out HK.out
      go_wp2
      go_ret
      exact ⟨ret_bool HF.out.symm, HB.out⟩

end Go.Proofs.YtbbmpfkijhhemabGreatDoor
