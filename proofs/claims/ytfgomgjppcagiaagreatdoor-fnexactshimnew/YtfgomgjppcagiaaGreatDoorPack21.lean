import Derived.Test.YtfgomgjppcagiaaGreatDoorPack16
import Derived.Test.YtfgomgjppcagiaaGreatDoorPack20
import Derived.RegionTactic
import Derived.ChangeAlike
import Derived.WalkKit
/- The contracts of impl.siteOk, impl.lastClock, impl.ShimBack. -/
namespace Go.Proofs.YtfgomgjppcagiaaGreatDoor
open Go.ChangeShapes Go.WideShapes Go.ChangeAt Go.RowKit Go.Joins
attribute [local go_sem ↓] Go.wp_at_zero Go.wp_at_succ

set_option maxRecDepth 100000 in
theorem RowG.isWsG {w : World} {base n cap : Nat} {a : Option Addr} {es : List EnG} (h : RowG w base (.slice a n cap) es) {ws : List Wr} (hw : es.map (·.x) = ws) (hx : Few ws) : IsWs w a ws := by
  obtain ⟨a', cap', n', e, _, ho⟩ := h.ownA hw
  injection e with e1 _ _
  rw [e1]
  exact ho.isWs hx

set_option maxRecDepth 100000 in
theorem SBox.drewS {w : World} {b : Nat} {si cl sq la : Int} {a : Option Addr} {n cap : Nat} {t : ByteArray} (h : SBox w b si cl sq la a n cap t) : Hid (SBox w.drew b si cl sq la a n cap t) := h.of_block (Nat.le_refl _) rfl

set_option maxRecDepth 100000 in
theorem RowG.drewS {w : World} {base : Nat} {v : Value} {es : List EnG} (h : RowG w base v es) : Hid (RowG w.drew base v es) := h.below ((Below.refl _ _).drew)

set_option maxRecDepth 100000 in
theorem siteOk_any (si : Int) (w : World) :
    Calls Tryz.prog 53 #[.int .i64 si] w fun e w' => e = .returned (.bool (btw si 0 3)) ∧ w' = w := by
  go_enter Tryz.func53, Tryz.ntmps53
  go_wp2_with fail
  refine (inRange_any _ _ _ _).mono ?_
  rintro e w1 ⟨rfl, hw⟩
  subst w1
  go_wp2
  go_ret
  exact ⟨rfl, rfl⟩

set_option maxRecDepth 100000 in
set_option maxHeartbeats 2000000 in
theorem lastClock_any (a : Option Addr) (n cap : Nat) (ws : List Wr) (w : World) (hn : ws.length = n) (hm : n ≤ 1048576) (hh : IsWs w a ws) :
    Calls Tryz.prog 64 #[.slice a n cap] w fun e w' => e = .returned (.int .i64 (clockL ws)) ∧ Below w.heap.size w w' := by
  have HH := Lib.hid hh
  have HN := Lib.hid hn
  clear hh hn
  go_enter Tryz.func64, Tryz.ntmps64
  go_wp2
  go_loopw [3, 8] (fun t i wr => ∃ k : Nat, k ≤ n ∧ i = .int .i64 k ∧ t = .int .i64 (clockL (ws.take k)) ∧ Hid (Below w.heap.size w wr)) (fun _ i _ => n - (intOf i).toNat)
  case atStart => exact ⟨0, Nat.zero_le _, rfl, rfl, Below.refl _ _⟩
  case round =>
    obtain ⟨k, hk, rfl, rfl, HB⟩ := hrel
    by_cases hk' : k < n
    · have hkw : k < ws.length := by rw [HN.out]; exact hk'
      have i1 : (0 : Int) ≤ (k : Int) := by omega
      have i2 : (k : Int) < (n : Int) := by omega
      obtain ⟨b, o, ad, cp, rfl, hz, ⟨e0, e1, e2, e3, e4, e5, e6⟩, -⟩ := HH.out.at HB.out HN.out hk'
      have HT := Lib.hid (clock_take ws k hkw)
      generalize ws.getD k wz = x at *
      obtain ⟨xk, xc, xs', xq, xv, xd, xx⟩ := x
      simp only at e0 e1 e2 e3 e4 e5 e6 HT
      generalize clockL (ws.take k) = c at *
      have HB2 : Hid (Below w.heap.size w (wr.alloc (.cells #[.int .i64 xk, .int .i64 xc, .int .i64 xs', .int .i64 xq, .int .i64 xv, .bool xd, .slice ad xx.length cp] 33))) := HB.out.alloc HB.out.size _
      go_wp2
      refine ⟨⟨k + 1, by omega, by go_num, ?_, HB2⟩, by simp [intOf]; omega⟩
      rw [HT.out]
      first | done | (congr 1; done) | (congr 1; omega)
    · have hkk : k = n := by omega
      subst hkk
      have e : ws.take k = ws := List.take_of_length_le (by rw [HN.out]; exact Nat.le_refl _)
      rw [e]
      go_wp2
      go_ret
      exact ⟨rfl, HB.out⟩

/-- What the region's row and shim are. -/
def RowFI (base : Nat) (m : List Wr) : Fact := fun v w => ∃ a n cp es, v = .slice a n cp ∧ es.length = n ∧ es.map (·.x) = m ∧ RowG w base v es

def BuiltFI (base : Nat) (si : Int) (t : ByteArray) (m : List Wr) : Fact := fun v w => ∃ a n cp es, v = shV si 0 0 (-1) a n cp t ∧ es.length = n ∧ es.map (·.x) = m ∧ RowG w base (.slice a n cp) es

set_option maxRecDepth 100000 in
theorem lasts_RowFI (base : Nat) (m : List Wr) : lasts (fun w w' => Below w.heap.size w w') (RowFI base m) := by
  rintro v w w' ⟨a, n, cp, es, h1, h2, h3, h4⟩ hr
  exact ⟨a, n, cp, es, h1, h2, h3, h4.below hr⟩

set_option maxRecDepth 100000 in
theorem lasts_BuiltFI (base : Nat) (si : Int) (t : ByteArray) (m : List Wr) : lasts (fun w w' => Below w.heap.size w w') (BuiltFI base si t m) := by
  rintro v w w' ⟨a, n, cp, es, h1, h2, h3, h4⟩ hr
  exact ⟨a, n, cp, es, h1, h2, h3, h4.below hr⟩

set_option maxRecDepth 100000 in
set_option maxHeartbeats 16000000 in
theorem implBack_any (si : Int) (s : ByteArray) (w : World) (hs : s.size ≤ 1048576) (hL : LV w) :
    Calls Tryz.prog 18 #[.int .i64 si, .string s] w fun e w' => ((btw si 0 3 = false ∧ e = .returned (shV 0 0 0 0 none 0 0 ⟨#[]⟩)) ∨ (btw si 0 3 = true ∧ ∃ bs a n cp es, e = .returned (shV si (clockL (replayW bs)) (backF si bs).1 (backF si bs).2 a n cp (str (logT bs))) ∧ IsLog s.data.toList bs ∧ es.length = n ∧ es.map (·.x) = replayW bs ∧ RowG w' w.heap.size (.slice a n cp) es)) ∧ Below w.heap.size w w' := by
  have HB0 : Hid (Below w.heap.size w (w.alloc (.cells #[.int .i64 0, .int .i64 0, .int .i64 0, .int .i64 0, .slice none 0 0, .string ⟨#[]⟩] 26))) := (Below.refl _ _).alloc (Nat.le_refl _) _
  have HZ0 : Hid (SBox (w.alloc (.cells #[.int .i64 0, .int .i64 0, .int .i64 0, .int .i64 0, .slice none 0 0, .string ⟨#[]⟩] 26)) w.heap.size 0 0 0 0 none 0 0 ⟨#[]⟩) := SBox.start w 0 0 0 0 none 0 0 ⟨#[]⟩ 26
  have HLV := Lib.hid (hL.below HB0.out)
  clear hL
  go_enter Tryz.func18, Tryz.ntmps18
  go_wp2_with fail
  generalize w.alloc (.cells #[.int .i64 0, .int .i64 0, .int .i64 0, .int .i64 0, .slice none 0 0, .string ⟨#[]⟩] 26) = W0 at *
  refine (siteOk_any si _).mono ?_
  rintro e w1 ⟨rfl, hw⟩
  subst w1
  by_cases hsi : btw si 0 3 = true
  rotate_left
  · have hsf : btw si 0 3 = false := by simpa using hsi
    have HSF := Lib.hid hsf
    rw [hsf]
    clear hsi hsf
    obtain ⟨yl, y0, y1, y2, y3, y4, y5, yf⟩ := HZ0.out
    obtain ⟨W9, hW9⟩ : ∃ W9, putS W0 w.heap.size 0 0 0 0 none 0 0 ⟨#[]⟩ = W9 := ⟨_, rfl⟩
    have HS9 : Hid (SBox W9 w.heap.size 0 0 0 0 none 0 0 ⟨#[]⟩) := by rw [← hW9]; exact sbox_putS HZ0.out _ _ _ _ _ _ _ _
    have HB9 : Hid (Below w.heap.size w W9) := by rw [← hW9]; exact Hole.below HB0.out (hole_putS (Hole.refl _ _) _ _ _ _ _ _ _ _) (Nat.le_refl _) HB0.out.size
    unfold putS at hW9
    go_wp2_with fail
    try rw [hW9]
    clear hW9 y0 y1 y2 y3 y4 y5 yf yl
    obtain ⟨yl, y0, y1, y2, y3, y4, y5, yf⟩ := HS9.out
    exact bodyPost_ret (v := shV 0 0 0 0 none 0 0 ⟨#[]⟩) (by simp [results, Tryz.results18, shV, go_sem, y0, y1, y2, y3, y4, y5]) rfl ⟨.inl ⟨HSF.out, rfl⟩, HB9.out⟩
  have HSI := Lib.hid hsi
  rw [hsi]
  clear hsi
  go_wp2_with fail
  refine (implLog_any s _ hs HLV.out.1 HLV.out.2.1 HLV.out.2.2.1 HLV.out.2.2.2).mono ?_
  rintro e w3 ⟨ba, bc, bat, rfl, hlog, hbn, hown, hb⟩
  have HLG := Lib.hid hlog
  have HFB := Lib.hid (fewB_log hlog.1)
  have HIB : Hid (IsBs w3 ba (batsOf bat)) := hown.isBs HFB.out
  have hpl : (logT (batsOf bat)).length ≤ s.size := by
    have := hlog.2.1.length_le
    simpa using this
  have HTX : Hid (s.extract 0 (logT (batsOf bat)).length = str (logT (batsOf bat))) := extract_pre hlog.2.1
  have HBN : Hid ((batsOf bat).length = bat.length) := by simp [batsOf, Hid]
  have HB3 := Lib.hid (below_step HB0.out HB0.out.size hb)
  have HZ3 := Lib.hid (HZ0.out.below hb)
  have hz3 : w.heap.size < w3.heap.size := HZ3.out.lt
  have hn3 : bat.length ≤ 1048576 := by omega
  clear hb hown hlog HB0 HZ0 hbn
  generalize batsOf bat = bs at *
  generalize bat.length = n at *
  obtain ⟨pp, hpp⟩ : ∃ pp, pp = (logT bs).length := ⟨_, rfl⟩
  rw [← hpp] at HTX hpl
  rw [← hpp]
  clear hpp
  have p0 : (0 : Int) ≤ (pp : Int) := by omega
  have p1 : (pp : Int) ≤ (s.size : Int) := by omega
  have HOK : Hid (∀ x ∈ replayW bs, okW x = true) := ((mapOk_iff _).1 (replay_ok bs)).1
  have HRL := Lib.hid (mapOk_len (replay_ok bs))
  have HFR := Lib.hid (ok_few (replay_ok bs))
  go_wp2_with fail
  refine wp_region_slots 8 [[(0, false)], [(5, false)], [(22, true)], [(1, false)], [(6, false)], [(24, true), (25, true)], [(21, true), (23, true), (26, true)], []] (fun w' => Below w3.heap.size w3 w') (fun w w' => Below w.heap.size w w') (by kernel_rfl) (by kernel_rfl) (by rfl) (Below.refl _ _).drew (fun _ _ h hr => below_step h h.size hr) ?_
  iterate 2 (apply slot_eq; · (intro ρ w' ⟨p1, p2, p3⟩ hS hn; simp at hn; go_simp; exact ⟨Below.refl _ _, rfl⟩))
  refine slot_fact (RowFI w3.heap.size (replayW bs)) (lasts_RowFI _ _) ?_ ?_
  · intro ρ w' ⟨p1, p2, p3⟩ hS hn
    simp at hn
    go_simp
    exact got_call (implReplay_any ba n bc bs w' HBN.out hn3 HFB.out (HIB.out.below hS)) fun e w'' ⟨v, es, he, hm, hr, hb⟩ => by
      obtain ⟨a, cp, rfl, -⟩ := hr.form
      exact ⟨_, he, hb, a, es.length, cp, es, rfl, rfl, hm, hr.mono hS.size⟩
  iterate 3 (apply slot_eq; · (intro ρ w' ⟨p1, p2, p3⟩ hS hn; simp at hn; go_simp; exact ⟨Below.refl _ _, rfl⟩))
  refine slot_fact (BuiltFI w3.heap.size si (s.extract 0 pp) (replayW bs)) (lasts_BuiltFI _ _ _ _) ?_ ?_
  · intro ρ w' ⟨p1, p2, p3⟩ hS hn
    simp at hn
    obtain ⟨f21, ⟨a, m, cp, es, f23, hl, hm, hr⟩, f26⟩ := hn
    go_simp
    exact ⟨Below.refl _ _, a, m, cp, es, rfl, hl, hm, by rw [f23] at hr; exact hr⟩
  refine slot_fact (ShimF w3.heap.size) (lasts_shim _) ?_ ?_
  · intro ρ w' ⟨p1, p2, p3⟩ hS hn
    have hsz := hS.size
    go_simp
    exact ⟨(Below.refl _ _).alloc (Nat.le_refl _) _, shim_mk w' _ hsz⟩
  refine slot_end ?_
  intro tv w5 hS hF
  simp at hF
  obtain ⟨⟨b, f7, hbl, hbox⟩, ⟨a, m, cp, es, f27, hl, hm, hr⟩, f26, f25, f24, ⟨a2, m2, cp2, es2, f23, -, -, -⟩, f22, f21⟩ := hF
  simp only [List.take_succ_cons, List.take_zero, List.drop_succ_cons, List.drop_zero, putAll, f7, f27, f26, f25, f24, f23, f22, f21]
  clear f7 f27 f26 f25 f24 f23 f22 f21
  simp only [Act.put, List.setIfInBounds_toArray, List.set_cons_succ, List.set_cons_zero]
  have HOE : Hid (∀ e ∈ es, okW e.x = true) := fun e he => HOK.out _ (by rw [← hm]; exact List.mem_map_of_mem he)
  have HAP := Lib.hid (hr.apartS hbox HOE.out)
  have HM := Lib.hid hm
  have HL := Lib.hid hl
  have HB5 := Lib.hid hS
  have HX5 := Lib.hid (sbox_zero hbox)
  have HR5 := Lib.hid hr
  clear hS hbox hr hm hl
  obtain ⟨yl, y0, y1, y2, y3, y4, y5, yf⟩ := HX5.out
  obtain ⟨W6, hW6⟩ : ∃ W6, putS w5 b si 0 0 (-1) a m cp (s.extract 0 pp) = W6 := ⟨_, rfl⟩
  have HX6 : Hid (SBox W6 b si 0 0 (-1) a m cp (s.extract 0 pp)) := by rw [← hW6]; exact sbox_putS HX5.out _ _ _ _ _ _ _ _
  have hH6 : Hole b w5 W6 := by rw [← hW6]; exact hole_putS (Hole.refl _ _) _ _ _ _ _ _ _ _
  have HR6 : Hid (RowG W6 w3.heap.size (.slice a m cp) es) := HR5.out.aside hH6 HAP.out
  have HB6 : Hid (Below w3.heap.size w3 W6) := Hole.below HB5.out hH6 hbl HB5.out.size
  unfold putS at hW6
  unfold shV
  obtain ⟨ul, u0, u1, u2, u3, u4, u5, uf⟩ := HX6.out
  have HIW : Hid (IsWs W6 a (replayW bs)) := HR6.out.isWsG HM.out HFR.out
  have HLN : Hid ((replayW bs).length = m) := by rw [← HM.out, List.length_map]; exact HL
  have hL6 : m ≤ 6 := by rw [← HLN.out]; exact HRL.out
  go_wp2_with fail
  clear hW6 hH6 y0 y1 y2 y3 y4 y5 yf yl HX5 HR5 HB5
  refine (lastClock_any _ m cp _ _ HLN.out (by omega) HIW.out).mono ?_
  rintro e w7 ⟨rfl, hb⟩
  have HB7 := Lib.hid (below_step HB6.out HB6.out.size hb)
  have HX7 := Lib.hid (HX6.out.below hb)
  have HR7 := Lib.hid (HR6.out.below hb)
  clear hb u0 u1 u2 u3 u4 u5 uf ul
  obtain ⟨ul, u0, u1, u2, u3, u4, u5, uf⟩ := HX7.out
  clear HIW
  obtain ⟨cl, hcl⟩ : ∃ cl, cl = clockL (replayW bs) := ⟨_, rfl⟩
  rw [← hcl]
  have HCL := Lib.hid hcl
  clear hcl
  have HX8 : Hid (SBox (w7.setCell ⟨b, 1, none⟩ (.int .i64 cl)) b si cl 0 (-1) a m cp (s.extract 0 pp)) := HX7.out.set1 cl
  have HR8 : Hid (RowG (w7.setCell ⟨b, 1, none⟩ (.int .i64 cl)) w3.heap.size (.slice a m cp) es) := HR7.out.aside ((Hole.refl _ _).set 1 _) HAP.out
  have HB8 : Hid (Below w3.heap.size w3 (w7.setCell ⟨b, 1, none⟩ (.int .i64 cl))) := Hole.below HB7.out ((Hole.refl _ _).set 1 _) hbl HB7.out.size
  go_wp2
  generalize (w7.setCell ⟨b, 1, none⟩ (.int .i64 cl)) = W8 at *
  clear HX7 HR7 HB7 HX6 HR6 HB6 u0 u1 u2 u3 u4 u5 uf ul
  go_loopw [34] (fun i wr => ∃ (k : Nat) (sq la : Int), k ≤ n ∧ i = .int .i64 k ∧ Hid (backF si (bs.take k) = (sq, la)) ∧ Hid (SBox wr b si cl sq la a m cp (s.extract 0 pp)) ∧ Hid (RowG wr w3.heap.size (.slice a m cp) es) ∧ Hid (Below w3.heap.size w3 wr)) (fun i _ => n - (intOf i).toNat)
  case atStart => exact ⟨0, 0, -1, Nat.zero_le _, rfl, rfl, HX8, HR8, HB8⟩
  case round =>
    clear HX8 HR8 HB8
    obtain ⟨k, sq, la, hk, rfl, HSQ, HX, HR, HB⟩ := hrel
    obtain ⟨W1, rfl⟩ : ∃ W1, W1 = wr := ⟨wr, rfl⟩
    by_cases hk' : k < n
    · have hkk : k < bs.length := by rw [HBN.out]; exact hk'
      have i1 : (0 : Int) ≤ (k : Int) := by omega
      have i2 : (k : Int) < (n : Int) := by omega
      obtain ⟨b1, o1, ad, cpd, rfl, hz, e0, hw⟩ := HIB.out.at HB.out hkk
      obtain ⟨hl, hf⟩ := HFB.out k hkk
      have HTK := Lib.hid (backF_take si bs k hkk)
      rw [HSQ.out] at HTK
      have HQ3 : Hid (∃ ad', some (⟨b1, o1, none⟩ : Addr) = some ⟨b1, o1, none⟩ ∧ ad' = ad) := ⟨ad, rfl, rfl⟩
      have HB1 := Lib.hid HB.out
      clear hf
      generalize hwsx : bs.getD k [] = ws at *
      have HWSX := Lib.hid hwsx
      clear hwsx
      have HW := Lib.hid hw
      clear hw HQ3
      obtain ⟨q, hq⟩ : ∃ q, ws.length = q := ⟨_, rfl⟩
      rw [hq] at e0 hl
      have HQ := Lib.hid hq
      clear hq
      have hb1 : b1 < w3.heap.size := HIB.out.base_lt hkk rfl
      have HE0 : Hid (∀ w', Below w3.heap.size W1 w' → w'.cell? ⟨b1, o1 + k, none⟩ = some (.slice ad q cpd)) := fun w' hb => (World.cell?_of_block (hb.block b1 hb1)).trans e0
      have HWB : Hid (IsWs w3 ad ws) := by rw [← HWSX.out]; exact HIB.out.elem hkk HB1.out (by rw [HWSX.out, HQ.out]; exact e0)
      have HBX : Hid (Below W1.heap.size W1 (W1.alloc (.cells #[.slice ad q cpd] 89))) := (Below.refl _ _).alloc (Nat.le_refl _) _
      have HX1 := Lib.hid (HX.out.below HBX.out)
      have HR1 := Lib.hid (HR.out.below HBX.out)
      have HB2 := Lib.hid (below_step HB.out HB.out.size HBX.out)
      go_wp2
      generalize (W1.alloc (.cells #[.slice ad q cpd] 89)) = W2 at *
      clear HBX HX HR HB
      go_loopw [41] (fun i wq => ∃ (p : Nat) (sq2 la2 : Int), p ≤ q ∧ i = .int .i64 p ∧ Hid (backRun si (sq, la) (ws.take p) = (sq2, la2)) ∧ Hid (SBox wq b si cl sq2 la2 a m cp (s.extract 0 pp)) ∧ Hid (RowG wq w3.heap.size (.slice a m cp) es) ∧ Hid (Below w3.heap.size w3 wq)) (fun i _ => q - (intOf i).toNat)
      case atStart => exact ⟨0, sq, la, Nat.zero_le _, rfl, rfl, HX1, HR1, HB2⟩
      case round =>
        clear HX1 HR1 HB2
        obtain ⟨p, sq2, la2, hp, rfl, HS2, HX, HR, HB⟩ := hrel
        by_cases hp' : p < q
        · have hpp2 : p < ws.length := by rw [HQ.out]; exact hp'
          have j1 : (0 : Int) ≤ (p : Int) := by omega
          have j2 : (p : Int) < (q : Int) := by omega
          obtain ⟨b2, o2, ad2, cp2, rfl, hz2, ⟨c0, c1, c2, c3, c4, c5, c6⟩, hd⟩ := HWB.out.at HB.out HQ.out hp'
          have HS3 := Lib.hid (backRun_take si ws (sq, la) p hpp2)
          rw [HS2.out] at HS3
          clear hd
          generalize ws.getD p wz = x at *
          obtain ⟨xk, xc, xs', xq, xv, xd, xx⟩ := x
          simp only at c0 c1 c2 c3 c4 c5 c6
          have HBX : Hid (Below wr.heap.size wr (wr.alloc (.cells #[.int .i64 xk, .int .i64 xc, .int .i64 xs', .int .i64 xq, .int .i64 xv, .bool xd, .slice ad2 xx.length cp2] 33))) := (Below.refl _ _).alloc (Nat.le_refl _) _
          have HX2 := Lib.hid (HX.out.below HBX.out)
          have HR2 := Lib.hid (HR.out.below HBX.out)
          have HB2 := Lib.hid (below_step HB.out HB.out.size HBX.out)
          skip
          have HWX : Hid (WrAt (wr.alloc (.cells #[.int .i64 xk, .int .i64 xc, .int .i64 xs', .int .i64 xq, .int .i64 xv, .bool xd, .slice ad2 xx.length cp2] 33)) wr.heap.size 0 ⟨xk, xc, xs', xq, xv, xd, xx⟩ ad2 cp2) := by
            have h := heap_alloc_new wr (.cells #[.int .i64 xk, .int .i64 xc, .int .i64 xs', .int .i64 xq, .int .i64 xv, .bool xd, .slice ad2 xx.length cp2] 33)
            refine ⟨?_, ?_, ?_, ?_, ?_, ?_, ?_⟩ <;> (rw [cell_of_row _ _ _ _ _ (0, 0) h]; rfl)
          have hne : wr.heap.size ≠ b := by have := HX.out.lt; omega
          obtain ⟨yl, y0, y1, y2, y3, y4, y5, yf⟩ := HX2.out
          by_cases hc : xs' = si ∧ sq2 < xq
          · have HS4 : Hid (backRun si (sq, la) (ws.take (p + 1)) = (xq, xk)) := by rw [HS3.out]; unfold backStep; rw [if_pos hc]; exact Lib.hid rfl
            obtain ⟨rfl, hlt⟩ := hc
            have HX3 := Lib.hid ((HX2.out.set2 xq).set3 xk)
            have HH3 := Lib.hid (((Hole.refl b (wr.alloc (.cells #[.int .i64 xk, .int .i64 xc, .int .i64 xs', .int .i64 xq, .int .i64 xv, .bool xd, .slice ad2 xx.length cp2] 33))).set 2 (.int .i64 xq)).set 3 (.int .i64 xk))
            have HR3 := Lib.hid (HR2.out.aside HH3.out HAP.out)
            have HB3' := Lib.hid (Hole.below HB2.out HH3.out hbl HB2.out.size)
            skip
            obtain ⟨c0', c1', c2', c3', c4', c5', c6'⟩ := HWX.out
            simp only [Nat.zero_add] at c0' c1' c2' c3' c4' c5' c6'
            go_wp2_with fail
            generalize (wr.alloc (.cells #[.int .i64 xk, .int .i64 xc, .int .i64 xs', .int .i64 xq, .int .i64 xv, .bool xd, .slice ad2 xx.length cp2] 33)) = V1 at *
            clear c0 c1 c2 c3 c4 c5 c6
            go_region
            all_goals (go_wp2; first | exact ⟨⟨p + 1, _, _, by omega, by go_num, HS4, HX3, HR3, HB3'⟩, by simp [intOf]; omega⟩ | exact ⟨⟨p + 1, _, _, by omega, by go_num, HS4, HX3.out.drewS, HR3.out.drewS, HB3'.out.drew⟩, by simp [intOf]; omega⟩)
          · have HS4 : Hid (backRun si (sq, la) (ws.take (p + 1)) = (sq2, la2)) := by rw [HS3.out]; unfold backStep; rw [if_neg hc]; exact Lib.hid rfl
            by_cases h1 : xs' = si
            · subst h1
              have h2 : ¬ sq2 < xq := fun h => hc ⟨rfl, h⟩
              clear hc
              go_wp2
              exact ⟨⟨p + 1, _, _, by omega, by go_num, HS4, HX2, HR2, HB2⟩, by simp [intOf]; omega⟩
            · clear hc
              go_wp2
              exact ⟨⟨p + 1, _, _, by omega, by go_num, HS4, HX2, HR2, HB2⟩, by simp [intOf]; omega⟩
        · have hpp3 : p = q := by omega
          subst hpp3
          have HS4 : Hid (backF si (bs.take (k + 1)) = (sq2, la2)) := by
            have h := HS2.out
            rw [List.take_of_length_le (by rw [HQ.out]; exact Nat.le_refl _)] at h
            exact HTK.out.trans h
          go_wp2
          exact ⟨⟨k + 1, _, _, by omega, by go_num, HS4, HX, HR, HB⟩, by simp [intOf]; omega⟩
    · have hkk : k = n := by omega
      subst hkk
      have HSB : Hid (backF si bs = (sq, la)) := by
        have h := HSQ.out
        rw [List.take_of_length_le (by rw [HBN.out]; exact Nat.le_refl _)] at h
        exact h
      have HZ := Lib.hid (HZ3.out.below HB.out)
      have hwb : w.heap.size ≠ b := by omega
      obtain ⟨xl, x0, x1, x2, x3, x4, x5, xf⟩ := HX.out
      obtain ⟨yl, y0, y1, y2, y3, y4, y5, yf⟩ := HZ.out
      obtain ⟨W9, hW9⟩ : ∃ W9, putS W1 w.heap.size si cl sq la a m cp (s.extract 0 pp) = W9 := ⟨_, rfl⟩
      have HS9 : Hid (SBox W9 w.heap.size si cl sq la a m cp (s.extract 0 pp)) := by rw [← hW9]; exact sbox_putS HZ.out _ _ _ _ _ _ _ _
      have hH9 : Hole w.heap.size W1 W9 := by rw [← hW9]; exact hole_putS (Hole.refl _ _) _ _ _ _ _ _ _ _
      have HB9 : Hid (Below w.heap.size w W9) := Hole.below (HB3.out.trans (HB.out.mono (by omega))) hH9 (Nat.le_refl _) (by omega)
      have HR9 : Hid (RowG W9 w3.heap.size (.slice a m cp) es) := HR.out.holeQ hH9 hz3
      unfold putS at hW9
      go_wp2_with fail
      try rw [hW9]
      clear hW9 hH9 x0 x1 x2 x3 x4 x5 xf xl y0 y1 y2 y3 y4 y5 yf yl HX HR HZ
      obtain ⟨yl, y0, y1, y2, y3, y4, y5, yf⟩ := HS9.out
      refine bodyPost_ret (v := shV si cl sq la a m cp (s.extract 0 pp)) (by simp [results, Tryz.results18, shV, go_sem, y0, y1, y2, y3, y4, y5]) rfl ⟨.inr ⟨HSI.out, bs, a, m, cp, es, ?_, HLG.out, HL.out, HM.out, HR9.out.mono (by omega)⟩, HB9.out⟩
      rw [HSB.out, HCL.out, HTX.out]

end Go.Proofs.YtfgomgjppcagiaaGreatDoor

/- The laws' marks of shims: the contracts of markShim and heldShim; those of spec.ShimNew and impl.ShimNew. -/
namespace Go.Proofs.YtfgomgjppcagiaaGreatDoor
open Go.ChangeShapes Go.WideShapes Go.ChangeAt Go.RowKit Go.Joins
attribute [local go_sem ↓] Go.wp_at_zero Go.wp_at_succ

set_option maxRecDepth 100000 in
set_option maxHeartbeats 2000000 in
theorem markShim_any (si cl sq la : Int) (t : ByteArray) (lo hi n cap : Nat) (a : Option Addr) (k : Int) (ws : List Wr) (γ : Nat → Nat) (w : World) (hn : ws.length = n) (hm : n ≤ 1048576) (hbk : bulk ws ≤ 1048576) (h0 : 0 ≤ k) (h1 : k ≤ 1073741824) (h : OwnA w lo hi a ws γ) :
    Calls Tryz.prog 30 #[shV si cl sq la a n cap t, .int .i64 k] w fun e w' => e = .returned (.int .i64 (markK ws k n)) ∧ MarkedA w' a ws γ k ∧ ∃ w1, Below w.heap.size w w1 ∧ Only (Span lo hi) w1 w' := by
  have H := Lib.hid h
  have HN := Lib.hid hn
  clear h hn
  have HB : Hid (Below w.heap.size w (w.alloc (.cells #[.int .i64 si, .int .i64 cl, .int .i64 sq, .int .i64 la, .slice a n cap, .string t] 26))) := (Below.refl _ _).alloc (Nat.le_refl _) _
  unfold shV
  go_enter Tryz.func30, Tryz.ntmps30
  go_wp2_with fail
  generalize (w.alloc (.cells #[.int .i64 si, .int .i64 cl, .int .i64 sq, .int .i64 la, .slice a n cap, .string t] 26)) = W0 at *
  refine (markWriteS_all lo hi n cap a k ws γ _ HN.out hm hbk h0 h1 (H.out.below HB.out)).mono ?_
  rintro e w1 ⟨rfl, hmk, ho⟩
  have HM := Lib.hid hmk
  have HO := Lib.hid ho
  clear hmk ho
  go_wp2
  go_ret
  exact ⟨rfl, HM.out, W0, HB.out, HO.out⟩

set_option maxRecDepth 100000 in
set_option maxHeartbeats 2000000 in
theorem heldShim_any (si cl sq la : Int) (t : ByteArray) (n cap : Nat) (a : Option Addr) (k : Int) (ws : List Wr) (γ : Nat → Nat) (w : World) (hn : ws.length = n) (hm : n ≤ 1048576) (hbk : bulk ws ≤ 1048576) (h0 : 0 ≤ k) (h1 : k ≤ 1073741824) (h : MarkedA w a ws γ k) :
    Calls Tryz.prog 31 #[shV si cl sq la a n cap t, .int .i64 k] w fun e w' => e = .returned (.int .i64 (markK ws k n)) ∧ Below w.heap.size w w' := by
  have H := Lib.hid h
  have HN := Lib.hid hn
  clear h hn
  have HB : Hid (Below w.heap.size w (w.alloc (.cells #[.int .i64 si, .int .i64 cl, .int .i64 sq, .int .i64 la, .slice a n cap, .string t] 26))) := (Below.refl _ _).alloc (Nat.le_refl _) _
  unfold shV
  go_enter Tryz.func31, Tryz.ntmps31
  go_wp2_with fail
  generalize (w.alloc (.cells #[.int .i64 si, .int .i64 cl, .int .i64 sq, .int .i64 la, .slice a n cap, .string t] 26)) = W0 at *
  refine (heldWriteS_all n cap a k ws γ _ HN.out hm hbk h0 h1 (H.out.below HB.out)).mono ?_
  rintro e w1 ⟨rfl, hw⟩
  subst w1
  have hk : 0 ≤ markK ws k n := by
    have := bulk_take_le ws n
    unfold markK
    omega
  obtain ⟨z, hz⟩ : ∃ z, z = markK ws k n := ⟨_, rfl⟩
  rw [← hz] at hk
  rw [← hz]
  have HZ := Lib.hid hz
  clear hz
  go_wp2
  go_ret
  exact ⟨by rw [← HZ.out]; rfl, HB.out⟩

set_option maxRecDepth 100000 in
theorem log_empty {bs : List (List Wr)} (h : IsLog [] bs) : bs = [] := by
  have h2 := List.prefix_nil.1 h.2.1
  cases bs with
  | nil => rfl
  | cons b r =>
    exfalso
    rw [logT_cons] at h2
    have h3 : batchT b = [] := (List.append_eq_nil_iff.1 h2).1
    rw [batchT_rest (h.1 b (by simp))] at h3
    simp at h3

/-- A site that is new, or none. -/
def newS (si : Int) : Int × Int := if btw si 0 3 = true then (si, -1) else (0, 0)

set_option maxRecDepth 100000 in
set_option maxHeartbeats 2000000 in
theorem specNew_any (si : Int) (w : World) :
    Calls Tryz.prog 27 #[.int .i64 si] w fun e w' => e = .returned (shV (newS si).1 0 0 (newS si).2 none 0 0 ⟨#[]⟩) ∧ Below w.heap.size w w' := by
  have HB0 : Hid (Below w.heap.size w (w.alloc (.cells #[.int .i64 0, .int .i64 0, .int .i64 0, .int .i64 0, .slice none 0 0, .string ⟨#[]⟩] 26))) := (Below.refl _ _).alloc (Nat.le_refl _) _
  have HZ0 : Hid (SBox (w.alloc (.cells #[.int .i64 0, .int .i64 0, .int .i64 0, .int .i64 0, .slice none 0 0, .string ⟨#[]⟩] 26)) w.heap.size 0 0 0 0 none 0 0 ⟨#[]⟩) := SBox.start w 0 0 0 0 none 0 0 ⟨#[]⟩ 26
  obtain ⟨nn, hnn⟩ : ∃ nn, nn = newS si := ⟨_, rfl⟩
  rw [← hnn]
  have HNN := Lib.hid hnn
  clear hnn
  go_enter Tryz.func27, Tryz.ntmps27
  go_wp2_with fail
  generalize w.alloc (.cells #[.int .i64 0, .int .i64 0, .int .i64 0, .int .i64 0, .slice none 0 0, .string ⟨#[]⟩] 26) = W0 at *
  refine (site_any si _).mono ?_
  rintro e w1 ⟨rfl, hw⟩
  subst w1
  obtain ⟨yl, y0, y1, y2, y3, y4, y5, yf⟩ := HZ0.out
  by_cases hsi : btw si 0 3 = true
  · have HE : Hid (nn = (si, -1)) := by rw [HNN.out]; unfold newS; rw [if_pos hsi]; exact Lib.hid rfl
    rw [hsi]
    clear hsi
    obtain ⟨W9, hW9⟩ : ∃ W9, putS W0 w.heap.size si 0 0 (-1) none 0 0 ⟨#[]⟩ = W9 := ⟨_, rfl⟩
    have HS9 : Hid (SBox W9 w.heap.size si 0 0 (-1) none 0 0 ⟨#[]⟩) := by rw [← hW9]; exact sbox_putS HZ0.out _ _ _ _ _ _ _ _
    have HB9 : Hid (Below w.heap.size w W9) := by rw [← hW9]; exact Hole.below HB0.out (hole_putS (Hole.refl _ _) _ _ _ _ _ _ _ _) (Nat.le_refl _) HB0.out.size
    unfold putS at hW9
    go_wp2_with fail
    try rw [hW9]
    clear hW9 y0 y1 y2 y3 y4 y5 yf yl
    obtain ⟨yl, y0, y1, y2, y3, y4, y5, yf⟩ := HS9.out
    exact bodyPost_ret (v := shV si 0 0 (-1) none 0 0 ⟨#[]⟩) (by simp [results, Tryz.results27, shV, go_sem, y0, y1, y2, y3, y4, y5]) rfl ⟨by rw [HE.out], HB9.out⟩
  · have HE : Hid (nn = (0, 0)) := by rw [HNN.out]; unfold newS; rw [if_neg hsi]; exact Lib.hid rfl
    have hsf : btw si 0 3 = false := by simpa using hsi
    rw [hsf]
    clear hsi hsf
    obtain ⟨W9, hW9⟩ : ∃ W9, putS W0 w.heap.size 0 0 0 0 none 0 0 ⟨#[]⟩ = W9 := ⟨_, rfl⟩
    have HS9 : Hid (SBox W9 w.heap.size 0 0 0 0 none 0 0 ⟨#[]⟩) := by rw [← hW9]; exact sbox_putS HZ0.out _ _ _ _ _ _ _ _
    have HB9 : Hid (Below w.heap.size w W9) := by rw [← hW9]; exact Hole.below HB0.out (hole_putS (Hole.refl _ _) _ _ _ _ _ _ _ _) (Nat.le_refl _) HB0.out.size
    unfold putS at hW9
    go_wp2_with fail
    try rw [hW9]
    clear hW9 y0 y1 y2 y3 y4 y5 yf yl
    obtain ⟨yl, y0, y1, y2, y3, y4, y5, yf⟩ := HS9.out
    exact bodyPost_ret (v := shV 0 0 0 0 none 0 0 ⟨#[]⟩) (by simp [results, Tryz.results27, shV, go_sem, y0, y1, y2, y3, y4, y5]) rfl ⟨by rw [HE.out], HB9.out⟩

set_option maxRecDepth 100000 in
set_option maxHeartbeats 2000000 in
theorem implNew_any (si : Int) (w : World) (hL : LV w) :
    Calls Tryz.prog 28 #[.int .i64 si] w fun e w' => ∃ a cp, e = .returned (shV (newS si).1 0 0 (newS si).2 a 0 cp ⟨#[]⟩) ∧ Below w.heap.size w w' := by
  have HB0 : Hid (Below w.heap.size w (w.alloc (.cells #[.int .i64 0, .int .i64 0, .int .i64 0, .int .i64 0, .slice none 0 0, .string ⟨#[]⟩] 26))) := (Below.refl _ _).alloc (Nat.le_refl _) _
  have HZ0 : Hid (SBox (w.alloc (.cells #[.int .i64 0, .int .i64 0, .int .i64 0, .int .i64 0, .slice none 0 0, .string ⟨#[]⟩] 26)) w.heap.size 0 0 0 0 none 0 0 ⟨#[]⟩) := SBox.start w 0 0 0 0 none 0 0 ⟨#[]⟩ 26
  have HLV := Lib.hid (hL.below HB0.out)
  clear hL
  go_enter Tryz.func28, Tryz.ntmps28
  go_wp2_with fail
  generalize w.alloc (.cells #[.int .i64 0, .int .i64 0, .int .i64 0, .int .i64 0, .slice none 0 0, .string ⟨#[]⟩] 26) = W0 at *
  refine (implBack_any si ⟨#[]⟩ _ (by decide) HLV.out).mono ?_
  rintro e w1 ⟨hres, hb⟩
  have HB1 := Lib.hid (below_step HB0.out HB0.out.size hb)
  have HZ1 := Lib.hid (HZ0.out.below hb)
  clear hb
  have HR : Hid (∃ a cp, e = .returned (shV (newS si).1 0 0 (newS si).2 a 0 cp ⟨#[]⟩)) := by
    rcases hres with ⟨h1, rfl⟩ | ⟨h1, bs, a, n, cp, es, rfl, h2, h3, h4, h5⟩
    · exact ⟨none, 0, by unfold newS; rw [h1]; rfl⟩
    · have e1 := log_empty h2
      subst e1
      have e2 : es = [] := List.map_eq_nil_iff.1 h4
      rw [e2] at h3
      have e3 : n = 0 := h3.symm
      subst e3
      exact ⟨a, cp, by unfold newS; rw [h1]; rfl⟩
  clear hres
  obtain ⟨a, cp, rfl⟩ := HR.out
  obtain ⟨nn, hnn⟩ : ∃ nn, newS si = nn := ⟨_, rfl⟩
  rw [hnn]
  have HNN := Lib.hid hnn
  clear hnn HR
  obtain ⟨n1, n2⟩ := nn
  obtain ⟨yl, y0, y1, y2, y3, y4, y5, yf⟩ := HZ1.out
  obtain ⟨W9, hW9⟩ : ∃ W9, putS w1 w.heap.size n1 0 0 n2 a 0 cp ⟨#[]⟩ = W9 := ⟨_, rfl⟩
  have HS9 : Hid (SBox W9 w.heap.size n1 0 0 n2 a 0 cp ⟨#[]⟩) := by rw [← hW9]; exact sbox_putS HZ1.out _ _ _ _ _ _ _ _
  have HB9 : Hid (Below w.heap.size w W9) := by rw [← hW9]; exact Hole.below HB1.out (hole_putS (Hole.refl _ _) _ _ _ _ _ _ _ _) (Nat.le_refl _) HB1.out.size
  unfold putS at hW9
  unfold shV
  go_wp2_with fail
  try rw [hW9]
  clear hW9 y0 y1 y2 y3 y4 y5 yf yl
  obtain ⟨yl, y0, y1, y2, y3, y4, y5, yf⟩ := HS9.out
  exact bodyPost_ret (v := shV n1 0 0 n2 a 0 cp ⟨#[]⟩) (by simp [results, Tryz.results28, shV, go_sem, y0, y1, y2, y3, y4, y5]) rfl ⟨a, cp, by rw [HNN.out], HB9.out⟩

end Go.Proofs.YtfgomgjppcagiaaGreatDoor

/- Shims as plain values; what comes back from a log, as one; the contracts of ShimBack and ShimNew said by it. -/
namespace Go.Proofs.YtfgomgjppcagiaaGreatDoor
open Go.ChangeShapes Go.WideShapes Go.ChangeAt Go.RowKit Go.Joins
attribute [local go_sem ↓] Go.wp_at_zero Go.wp_at_succ

/-- A shim as a plain value. -/
structure Sm where
  si : Int
  cl : Int
  sq : Int
  la : Int
  ws : List Wr
  t : ByteArray

def smV (x : Sm) (a : Option Addr) (cap : Nat) : Value := shV x.si x.cl x.sq x.la a x.ws.length cap x.t

def smz : Sm := ⟨0, 0, 0, 0, [], ⟨#[]⟩⟩

theorem log_ex : ∀ (n : Nat) (l : List UInt8), l.length ≤ n → ∃ bs, IsLog l bs := by
  intro n
  induction n with
  | zero =>
    intro l hl
    have e : l = [] := List.length_eq_zero_iff.1 (by omega)
    subst e
    refine ⟨[], fun b hb => by simp at hb, List.prefix_refl _, fun b hb h => ?_⟩
    have h2 := List.prefix_nil.1 h
    have h3 : batchT b = [] := by simpa [logT] using h2
    rw [batchT_rest hb] at h3
    simp at h3
  | succ n ih =>
    intro l hl
    by_cases h : ∃ b, okWs b = true ∧ batchT b <+: l
    · obtain ⟨b, hb, r, rfl⟩ := h
      have hne : 1 ≤ (batchT b).length := by
        rw [batchT_rest hb]
        simp only [List.length_append, List.length_cons]
        omega
      obtain ⟨bs, h1, h2, h3⟩ := ih r (by rw [List.length_append] at hl; omega)
      refine ⟨b :: bs, fun c hc => ?_, ?_, fun c hc h4 => ?_⟩
      · rcases List.mem_cons.1 hc with e | hc
        · rw [e]; exact hb
        · exact h1 c hc
      · rw [logT_cons]
        exact (List.prefix_append_right_inj _).2 h2
      · rw [logT_cons, List.append_assoc] at h4
        exact h3 c hc ((List.prefix_append_right_inj _).1 h4)
    · refine ⟨[], fun b hb => by simp at hb, List.nil_prefix, fun b hb h2 => h ⟨b, hb, ?_⟩⟩
      simpa [logT] using h2

/-- The batches of a log. -/
noncomputable def logOf (l : List UInt8) : List (List Wr) := (log_ex l.length l (Nat.le_refl _)).choose

theorem logOf_is (l : List UInt8) : IsLog l (logOf l) := (log_ex l.length l (Nat.le_refl _)).choose_spec

theorem logOf_eq {l : List UInt8} {bs : List (List Wr)} (h : IsLog l bs) : bs = logOf l := log_one h (logOf_is l)

/-- The site that comes back from a log. -/
noncomputable def backX (si : Int) (s : ByteArray) : Sm :=
  if btw si 0 3 = true then ⟨si, clockL (replayW (logOf s.data.toList)), (backF si (logOf s.data.toList)).1, (backF si (logOf s.data.toList)).2, replayW (logOf s.data.toList), str (logT (logOf s.data.toList))⟩ else smz

theorem backX_ok (si : Int) (s : ByteArray) : mapOkB (backX si s).ws = true := by
  unfold backX
  split
  · exact replay_ok _
  · rfl

set_option maxRecDepth 100000 in
theorem specBack_x (si : Int) (s : ByteArray) (w : World) (hs : s.size ≤ 1048576) :
    Calls Tryz.prog 79 #[.int .i64 si, .string s] w fun e w' => ∃ a cp, e = .returned (smV (backX si s) a cp) ∧ IsWs w' a (backX si s).ws ∧ Below w.heap.size w w' := by
  refine (specBack_any si s w hs).mono ?_
  rintro e w' ⟨h, hb⟩
  unfold backX
  rcases h with ⟨h1, rfl⟩ | ⟨h1, bs, g, cp, es, L, rfl, h2, h3, h4, h5⟩
  · rw [h1, if_neg (by simp)]
    exact ⟨none, 0, rfl, .inl rfl, hb⟩
  · rw [h1, if_pos rfl]
    have e := logOf_eq h2
    subst e
    have hl : (replayW (logOf s.data.toList)).length = L := by rw [← h4, List.length_map]; exact h3
    refine ⟨some ⟨g, 0, none⟩, cp, ?_, h5.isWs h4 (ok_few (replay_ok _)), hb⟩
    unfold smV
    simp only
    rw [hl]

set_option maxRecDepth 100000 in
theorem implBack_x (si : Int) (s : ByteArray) (w : World) (hs : s.size ≤ 1048576) (hL : LV w) :
    Calls Tryz.prog 18 #[.int .i64 si, .string s] w fun e w' => ∃ a cp γ, e = .returned (smV (backX si s) a cp) ∧ OwnA w' w.heap.size w'.heap.size a (backX si s).ws γ ∧ Below w.heap.size w w' := by
  refine (implBack_any si s w hs hL).mono ?_
  rintro e w' ⟨h, hb⟩
  unfold backX
  rcases h with ⟨h1, rfl⟩ | ⟨h1, bs, a, n, cp, es, rfl, h2, h3, h4, h5⟩
  · rw [h1, if_neg (by simp)]
    exact ⟨none, 0, fun _ => 0, rfl, .inl rfl, hb⟩
  · rw [h1, if_pos rfl]
    have e := logOf_eq h2
    subst e
    have hl : (replayW (logOf s.data.toList)).length = n := by rw [← h4, List.length_map]; exact h3
    obtain ⟨a', cap', n', e, _, ho⟩ := h5.ownA h4
    injection e with e1 _ _
    subst e1
    refine ⟨a, cp, gammaG es, ?_, ho, hb⟩
    unfold smV
    simp only
    rw [hl]

/-- A new site. -/
def newX (si : Int) : Sm := ⟨(newS si).1, 0, 0, (newS si).2, [], ⟨#[]⟩⟩

set_option maxRecDepth 100000 in
theorem specNew_x (si : Int) (w : World) :
    Calls Tryz.prog 27 #[.int .i64 si] w fun e w' => ∃ a cp, e = .returned (smV (newX si) a cp) ∧ IsWs w' a (newX si).ws ∧ Below w.heap.size w w' :=
  (specNew_any si w).mono fun _ _ ⟨he, hb⟩ => ⟨none, 0, he, .inl rfl, hb⟩

set_option maxRecDepth 100000 in
theorem implNew_x (si : Int) (w : World) (hL : LV w) :
    Calls Tryz.prog 28 #[.int .i64 si] w fun e w' => ∃ a cp γ, e = .returned (smV (newX si) a cp) ∧ OwnA w' w.heap.size w'.heap.size a (newX si).ws γ ∧ Below w.heap.size w w' :=
  (implNew_any si w hL).mono fun _ _ ⟨a, cp, he, hb⟩ => ⟨a, cp, fun _ => 0, he, .inl rfl, hb⟩

set_option maxRecDepth 100000 in
theorem SBox.only {w w' : World} {S : Nat → Prop} {b : Nat} {si cl sq la : Int} {a : Option Addr} {n cap : Nat} {t : ByteArray} (h : SBox w b si cl sq la a n cap t) (ho : Only S w w') (hn : ¬ S b) : SBox w' b si cl sq la a n cap t := h.of_block (by rw [ho.size]; exact Nat.le_refl _) (ho.block b hn)

end Go.Proofs.YtfgomgjppcagiaaGreatDoor
