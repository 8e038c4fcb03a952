import Derived.Test.YtobcefkjoojflaaPack8
import Derived.Test.YtobcefkjoojflaaPack3
import Derived.Deep.AppendLies
namespace Go.Proofs.Ytobcefkjoojflaa
open Go.ChangeShapes Go.WideShapes Go.ChangeAt Go.RowKit Go.Joins
set_option maxRecDepth 100000
attribute [local go_sem ↓] Go.wp_at_zero Go.wp_at_succ

def evX (s : Int) (sh : Bool) (m : Int) (ws : List Wr) (a : Option Addr) (cp lo hi : Nat) : EvB := ⟨s, sh, m, ⟨ws, a, cp, lo, hi, fun _ => 0⟩⟩

def CopX (lo n : Nat) (ws : List Wr) : Fact := fun v w => ∃ g cp hi, v = .slice (some ⟨g, 0, none⟩) n cp ∧ hi ≤ w.heap.size ∧ InW w lo hi (some ⟨g, 0, none⟩) ws

def AggX (lo n : Nat) (s : Int) (sh : Bool) (m : Int) (ws : List Wr) : Fact := fun v w => ∃ g cp hi, v = evV s sh m (some ⟨g, 0, none⟩) n cp ∧ hi ≤ w.heap.size ∧ InW w lo hi (some ⟨g, 0, none⟩) ws

def BsX (lo ob : Nat) (s : Int) (sh : Bool) (m : Int) (ws : List Wr) : Fact := fun v w => ∃ g' g cp hi, v = .slice (some ⟨g', 0, none⟩) 1 1 ∧ ob ≠ g' ∧ g' < w.heap.size ∧ (∀ j u, (evVals (evX s sh m ws (some ⟨g, 0, none⟩) cp lo hi))[j]? = some u → w.cell? ((⟨g', 0, none⟩ : Addr).add j) = some u) ∧ hi ≤ w.heap.size ∧ InW w lo hi (some ⟨g, 0, none⟩) ws

def AppX (base : Nat) (es : List EvB) (E : Ev) : Fact := fun v w => ∃ g5 c5 X, v = .slice (some ⟨g5, 0, none⟩) (es.length + 1) c5 ∧ RowX w base v (es ++ [X]) ∧ evOf X = E

theorem inW_app {w w' : World} {z : Tmp} {ob lo hi : Nat} {d : Option Tmp} {a : Option Addr} {ws : List Wr} (h : InW w lo hi a ws) (hhi : hi ≤ w.heap.size) (ho : ob < lo) (hr : AppS z (some ob) d w w') : InW w' lo hi a ws ∧ hi ≤ w'.heap.size :=
  have hg := appS_any hr
  ⟨h.span hg.size fun k k1 k2 => hg.block k (by omega) (by simp; omega), Nat.le_trans hhi hg.size⟩

theorem lasts_copX {z : Tmp} {U : Tmp → Option Tmp} {dst : Option Tmp} {lo n ob : Nat} {ws : List Wr} (ho : ob < lo) : lastsU U (AppS z (some ob)) dst (CopX lo n ws) := by
  rintro d' _ _ v w w' ⟨g, cp, hi, h1, h2, h3⟩ hr
  obtain ⟨h4, h5⟩ := inW_app h3 h2 ho hr
  exact ⟨g, cp, hi, h1, h5, h4⟩

theorem lasts_aggX {z : Tmp} {U : Tmp → Option Tmp} {dst : Option Tmp} {lo n ob : Nat} {s : Int} {sh : Bool} {m : Int} {ws : List Wr} (ho : ob < lo) : lastsU U (AppS z (some ob)) dst (AggX lo n s sh m ws) := by
  rintro d' _ _ v w w' ⟨g, cp, hi, h1, h2, h3⟩ hr
  obtain ⟨h4, h5⟩ := inW_app h3 h2 ho hr
  exact ⟨g, cp, hi, h1, h5, h4⟩

theorem lasts_bsX {z : Tmp} {U : Tmp → Option Tmp} {dst : Option Tmp} {lo ob : Nat} {s : Int} {sh : Bool} {m : Int} {ws : List Wr} (ho : ob < lo) : lastsU U (AppS z (some ob)) dst (BsX lo ob s sh m ws) := by
  rintro d' _ _ v w w' ⟨g', g, cp, hi, h1, h2, h3, h4, h5, h6⟩ hr
  obtain ⟨h7, h8⟩ := inW_app h6 h5 ho hr
  have hg := appS_any hr
  have hb := hg.block g' h3 (by simp; omega)
  refine ⟨g', g, cp, hi, h1, h2, Nat.lt_of_lt_of_le h3 hg.size, fun j u hu => ?_, h8, h7⟩
  refine (World.cell?_of_block ?_).trans (h4 j u hu)
  have e : ((⟨g', 0, none⟩ : Addr).add j).block = g' := by
    unfold Addr.add
    split <;> rfl
  rw [e]
  exact hb

theorem lasts_appX {z : Tmp} {ob : Option Nat} {U : Tmp → Option Tmp} {base : Nat} {es : List EvB} {E : Ev} : lastsU U (AppS z ob) (some z) (AppX base es E) := by
  rintro d' hd _ v w w' ⟨g5, c5, X, h1, h2, h3⟩ hr
  exact ⟨g5, c5, X, h1, h2.below (appS_below hd hr), h3⟩

theorem appS_of {s : Tmp} {ob : Option Nat} {d : Option Tmp} {w w' : World} (hd : d ≠ some s) (h : Below w.heap.size w w') : AppS s ob d w w' := by
  unfold AppS
  rw [if_neg hd]
  exact h

theorem evX_cells (w : World) (s : Int) (sh : Bool) (m : Int) (ws : List Wr) (g cp lo hi q : Nat) (hq : ws.length = q) : ∀ j u, (evVals (evX s sh m ws (some ⟨g, 0, none⟩) cp lo hi))[j]? = some u → (w.alloc (.cells #[.int .i64 s, .bool sh, .int .i64 m, .slice (some ⟨g, 0, none⟩) q cp] 50)).cell? ((⟨w.heap.size, 0, none⟩ : Addr).add j) = some u := by
  intro j u hu
  have e1 : (⟨w.heap.size, 0, none⟩ : Addr).add j = ⟨w.heap.size, j, none⟩ := by
    unfold Addr.add
    split
    · rename_i h
      rw [h]
    · simp
  rw [e1, cell_of_row _ _ j _ _ (0, 0) (heap_alloc_new w _), ← hu]
  simp [evVals, evX, batV, hq]

theorem grownT {w w' w2 : World} {ob : Option Nat} (h : w.grownBy w' ob) (h2 : w'.grownBy w2 ob) : w.grownBy w2 ob :=
  ⟨h2.os.trans h.os, h2.tape.trans h.tape, h2.output.trans h.output, Nat.le_trans h.size h2.size, fun k hk hn => (h2.block k (Nat.lt_of_lt_of_le hk h.size) hn).trans (h.block k hk hn)⟩

set_option maxHeartbeats 16000000 in
theorem specEventsOf_any (a a' : Option Addr) (n n' cap cap' : Nat) (acs : List Ac) (rs : List Rp) (w : World) (hn : acs.length = n) (hn' : rs.length = n') (hm : n ≤ 1048576) (hm' : n' ≤ 1048576) (hx : FewR rs) (h : IsAs w a acs) (h' : IsRs w a' rs) :
    Calls Try.prog 6 #[.slice a n cap, .slice a' n' cap'] w fun e w' => ∃ v es, e = .returned v ∧ evsOf es = evsA acs rs ∧ RowX w' w.heap.size v es ∧ Below w.heap.size w w' := by
  have H := Lib.hid h
  have H' := Lib.hid h'
  have HN := Lib.hid hn
  have HN' := Lib.hid hn'
  have HX := Lib.hid hx
  clear h h' hx
  by_cases hne : n = n'
  · subst hne
    have HEV : Hid (evsA acs rs = evsTo acs rs n) := by
      show _ = _
      unfold evsA
      rw [if_pos (by omega), hn]
    clear hn hn'
    obtain ⟨i0, hi0, hx0⟩ := Option.map_eq_some_iff.1 infoEvent
    simp only [Prod.mk.injEq] at hx0
    have HI0 := Lib.hid hi0
    have HX0 := Lib.hid hx0
    clear hi0 hx0
    go_enter Try.func6, Try.ntmps6
    go_wp2
    go_loopw [5, 6] (fun t i wr => ∃ (k : Nat) (v : Value) (es : List EvB) (ob : Nat), k ≤ n ∧ es.length ≤ k ∧ i = .int .i64 k ∧ v = t ∧ Hid (v.ownBlock = some ob) ∧ Hid (evsOf es = evsTo acs rs k) ∧ Hid (RowX wr w.heap.size v es) ∧ Hid (Below w.heap.size w wr)) (fun _ i _ => n - (intOf i).toNat)
    case atStart => exact ⟨0, _, [], w.heap.size, Nat.zero_le _, Nat.le_refl _, rfl, rfl, rfl, rfl, rowX_start w w.heap.size (Nat.le_refl _), (Below.refl _ _).alloc (Nat.le_refl _) _⟩
    case round =>
      obtain ⟨k, v, es, ob, hk, hek, rfl, rfl, HOB, HE, HR, HB⟩ := hrel
      by_cases hk' : k < n
      · have i1 : (0 : Int) ≤ (k : Int) := by omega
        have i2 : (k : Int) < (n : Int) := by omega
        obtain ⟨b, o, rfl, hz, e0, e1, e2, e3, e4, e5⟩ := H.out.at HB.out (k := k) (by rw [HN.out]; exact hk')
        obtain ⟨b', o', ar, cr, rfl, hz', ⟨f0, f1⟩, hws⟩ := H'.out.base HB.out (k := k) (by rw [HN'.out]; exact hk')
        obtain ⟨hxl, hxf⟩ := HX.out k (by rw [HN'.out]; exact hk')
        have HTO : Hid (evsTo acs rs (k + 1) = evsTo acs rs k ++ (if eventB (acs.getD k acz) (rs.getD k rpz).c (rs.getD k rpz).ws.length = true then [eventE (acs.getD k acz) (rs.getD k rpz).ws] else [])) := rfl
        generalize acs.getD k acz = x at *
        generalize rs.getD k rpz = r at *
        obtain ⟨rc, ws⟩ := r
        obtain ⟨xk, xa, xb, xc, xd, xe⟩ := x
        simp only at f0 f1 hws hxl hxf HTO e0 e1 e2 e3 e4 e5
        obtain ⟨q, hq⟩ : ∃ q, ws.length = q := ⟨_, rfl⟩
        rw [hq] at f1 hxl HTO
        have HQ := Lib.hid hq
        have HXF := Lib.hid hxf
        have HW := Lib.hid hws
        clear hq hxf hws
        go_upto_region 7 with fail
        go_cut [7, 8] (fun s7 s8 wx => ∃ b7 b8, s7 = .pointer (some ⟨b7, 0, none⟩) ∧ s8 = .pointer (some ⟨b8, 0, none⟩) ∧ (wr.heap.size ≤ b7 ∧ b7 < wx.heap.size ∧ wr.heap.size ≤ b8 ∧ b8 < wx.heap.size) ∧ (wx.cell? ⟨b7, 0, none⟩ = some (.int .i64 xk) ∧ wx.cell? ⟨b7, 1, none⟩ = some (.int .i64 xa) ∧ wx.cell? ⟨b7, 2, none⟩ = some (.int .i64 xb) ∧ wx.cell? ⟨b7, 4, none⟩ = some (.int .i64 xd)) ∧ (wx.cell? ⟨b8, 0, none⟩ = some (.int .i64 rc) ∧ wx.cell? ⟨b8, 1, none⟩ = some (.slice ar q cr)) ∧ Hid (Below wr.heap.size wr wx))
        case first =>
          go_region
          all_goals (go_wp2_with fail; go_meet; (case rel => exact ⟨_, _, rfl, rfl, ⟨by simp <;> omega, by simp <;> omega, by simp <;> omega, by simp <;> omega⟩, ⟨by go_simp, by go_simp, by go_simp, by go_simp⟩, ⟨by go_simp, by go_simp⟩, (((Below.refl _ _).alloc (Nat.le_refl _) _).alloc (by simp) _).drew⟩))
        case rest =>
          obtain ⟨b7, b8, rfl, rfl, ⟨l7, z7, l8, z8⟩, ⟨c0, c1, c2, c4⟩, ⟨k0, k1⟩, HC⟩ := hcut
          have hobl : ob < wr.heap.size := (HR.out.own.lt ob HOB.out).2
          have HCX : Hid (∀ W, wc.grownBy W (some ob) → (W.cell? ⟨b7, 1, none⟩ = some (.int .i64 xa) ∧ W.cell? ⟨b7, 2, none⟩ = some (.int .i64 xb) ∧ W.cell? ⟨b7, 4, none⟩ = some (.int .i64 xd)) ∧ W.cell? ⟨b8, 1, none⟩ = some (.slice ar q cr)) := fun W hW => by
            have h7 := hW.block b7 z7 (by simp; omega)
            have h8 := hW.block b8 z8 (by simp; omega)
            exact ⟨⟨(World.cell?_of_block (a := ⟨b7, 1, none⟩) h7).trans c1, (World.cell?_of_block (a := ⟨b7, 2, none⟩) h7).trans c2, (World.cell?_of_block (a := ⟨b7, 4, none⟩) h7).trans c4⟩, (World.cell?_of_block (a := ⟨b8, 1, none⟩) h8).trans k1⟩
          have HRC := Lib.hid (HR.out.below HC.out)
          have HBC := Lib.hid (below_step HB.out HB.out.size HC.out)
          have HWS : Hid (∀ W, wc.grownBy W (some ob) → IsWs W ar ws) := fun W hW => HW.out.below (HBC.out.grown hW HBC.out.size fun j hj => by injection hj with hj; rw [← hj]; exact (HRC.out.own.lt ob HOB.out).1)
          have hcs := HC.out.size
          clear HC HR HB HW e0 e1 e2 e3 e4 e5 f0 f1
          by_cases h1 : xk = 1
          · subst h1
            by_cases hn0 : 0 < q
            · have n0 : (0 : Int) < (q : Int) := by omega
              by_cases hc0 : rc = 0
              · subst hc0
                have hev : eventB ⟨1, xa, xb, xc, xd, xe⟩ 0 q = true := by simp [eventB, putK, okPut, hn0]
                have HEV2 : Hid ((⟨xa, false, 0, ws⟩ : Ev) = eventE ⟨1, xa, xb, xc, xd, xe⟩ ws) := by
                  show _ = _
                  simp [eventE, putK]
                go_upto_region 13 with fail
                refine wp_region_slots_u 9 [[(5, false)], [(7, false)], [(51, true)], [(8, false)], [(53, true)], [(54, true)], [(52, true), (55, true)], [(56, true)], [(50, true), (57, true)]] (fun w' => wc.grownBy w' (some ob)) (fun w' => wc.grownBy w' (some ob)) (fun _ w' => wc.grownBy w' (some ob)) (fun d w' => d = some 58 → RowX w' w.heap.size v es) (fun _ => none) (AppS 58 (some ob)) (by kernel_rfl) (by kernel_rfl) (by rfl) ⟨rfl, rfl, rfl, Nat.le_refl _, fun _ _ _ => rfl⟩ (by kernel_rfl) (fun _ _ => HRC.out.below (Below.refl _ _).drew) (fun _ h => by cases h) (fun d d' hd w w' h1 h2 h3 => (h1 h3).below (appS_below (h3 ▸ hd) h2)) (fun _ _ _ _ _ _ h => by cases h) (fun d _ w w' h1 h2 => grownT h1 (appS_any h2)) (fun _ _ _ h => h) (fun _ _ _ h => h) ?_
                apply slotU_eq
                · intro ρ w' ⟨p1, p2, p3⟩ hS hEE hn
                  simp at hn
                  go_simp
                  exact ⟨appS_refl (by simp) _, rfl⟩
                apply slotU_eq
                · intro ρ w' ⟨p1, p2, p3⟩ hS hEE hn
                  simp at hn
                  go_simp
                  exact ⟨appS_refl (by simp) _, rfl⟩
                apply slotU_eq
                · intro ρ w' ⟨p1, p2, p3⟩ hS hEE hn
                  obtain ⟨⟨x1, x2, x4⟩, y1⟩ := HCX.out w' hS
                  simp at hn
                  go_simp
                  exact ⟨appS_refl (by simp) _, rfl⟩
                apply slotU_eq
                · intro ρ w' ⟨p1, p2, p3⟩ hS hEE hn
                  simp at hn
                  go_simp
                  exact ⟨appS_refl (by simp) _, rfl⟩
                apply slotU_eq
                · intro ρ w' ⟨p1, p2, p3⟩ hS hEE hn
                  obtain ⟨⟨x1, x2, x4⟩, y1⟩ := HCX.out w' hS
                  simp at hn
                  go_simp
                  exact ⟨appS_refl (by simp) _, rfl⟩
                refine slotU_fact (CopX wc.heap.size q ws) (lasts_copX (by omega)) ?_ ?_
                · intro ρ w' ⟨p1, p2, p3⟩ hS hEE hn
                  simp at hn
                  go_simp
                  have hsz := hS.size
                  exact got_call (copies_gen ar q cr ws w' HQ.out hxl HXF.out (HWS.out w' hS)) fun e w'' ⟨g, cp, es', he, hex, hr, hb⟩ => ⟨_, he, appS_of (by simp) hb, g, cp, w''.heap.size, rfl, Nat.le_refl _, (hr.inW hex HXF.out).wider hsz (Nat.le_refl _)⟩
                refine slotU_fact (AggX wc.heap.size q xa false 0 ws) (lasts_aggX (by omega)) ?_ ?_
                · intro ρ w' ⟨p1, p2, p3⟩ hS hEE hn
                  simp at hn
                  obtain ⟨x52, g, cp, hi, xC, h2, h3⟩ := hn
                  go_simp
                  exact ⟨appS_refl (by simp) _, g, cp, hi, rfl, h2, h3⟩
                refine slotU_fact (BsX wc.heap.size ob xa false 0 ws) (lasts_bsX (by omega)) ?_ ?_
                · intro ρ w' ⟨p1, p2, p3⟩ hS hEE hn
                  simp at hn
                  obtain ⟨g, cp, hi, xA, h2, h3⟩ := hn
                  go_simp
                  have hsz := hS.size
                  have hal : Below w'.heap.size w' (w'.alloc (.cells #[.int .i64 (xa), .bool false, .int .i64 (0), .slice (some ⟨g, 0, none⟩) q cp] 50)) := (Below.refl _ _).alloc (Nat.le_refl _) _
                  exact ⟨appS_alloc (by simp) _ _, w'.heap.size, g, cp, hi, rfl, by omega, by simp, evX_cells w' _ _ _ ws g cp _ hi q HQ.out, Nat.le_trans h2 hal.size, h3.below h2 hal⟩
                refine slotU_fact (AppX w.heap.size es ⟨xa, false, 0, ws⟩) lasts_appX ?_ ?_
                · intro ρ w' ⟨p1, p2, p3⟩ hS hEE hn
                  have hrow := hEE rfl
                  have hsz := hS.size
                  have hwz : w.heap.size ≤ w'.heap.size := Nat.le_trans HBC.out.size hsz
                  simp at hn
                  obtain ⟨xV, g', g, cp, hi, xB, hg1, hg2, hg3, hg4, hg5⟩ := hn
                  refine got_append (.tmp 50) (.tmp 57) _ rfl w.heap.size 50 i0 (.agg #[.int .i64 0, .bool false, .int .i64 0, .slice none 0 0]) 4 48 Try.underlying26 HI0.out HX0.out.1 HX0.out.2.1 HX0.out.2.2 (by rfl) (by omega) v es.length (es.flatMap evVals) xV hrow.own ⟨g', 0, none⟩ 1 1 (evVals (evX xa false 0 ws (some ⟨g, 0, none⟩) cp wc.heap.size hi)) xB (by rfl) hg3 (evVals_one _) (by omega) (by unfold maxLen; omega) (by omega) hwz _ rfl ?_
                  intro g5 c5 w5 r1 r2 r3 r4
                  refine ⟨appS_grown (by rw [← HOB.out]; exact r2), g5, c5, _, rfl, hrow.more (x := evX xa false 0 ws (some ⟨g, 0, none⟩) cp wc.heap.size hi) ⟨by show w.heap.size ≤ wc.heap.size; exact HBC.out.size, hg4, hg5⟩ (fun gg hgg => ?_) r1 r2 r3, rfl⟩
                  rw [HOB.out] at hgg
                  injection hgg with hgg
                  show gg < wc.heap.size
                  omega
                refine slotU_end ?_
                rintro vs w6 hS hF
                simp at hF
                obtain ⟨⟨g5, c5, X, x58, hrx, hxe⟩, ⟨yy1, yy2, yy3, yy4, x57, -⟩, ⟨yy5, yy6, yy7, x56, -⟩, ⟨yy8, yy9, yy10, x55, -⟩, x54, x53, x52, x51, x50⟩ := hF
                rw [x58] at hrx
                simp only [List.take_succ_cons, List.take_zero, List.drop_succ_cons, List.drop_zero, putAll, x58, x57, x56, x55, x54, x53, x52, x51, x50]
                clear x58 x57 x56 x55 x54 x53 x52 x51 x50
                simp only [Act.put, List.setIfInBounds_toArray, List.set_cons_succ, List.set_cons_zero]
                have HR9 := Lib.hid hrx
                have HB9 : Hid (Below w.heap.size w w6) := HBC.out.grown hS HBC.out.size fun j hj => by
                  injection hj with hj
                  rw [← hj]
                  exact (HRC.out.own.lt ob HOB.out).1
                have HE2 : Hid (evsOf (es ++ [X]) = evsTo acs rs (k + 1)) := by
                  show _ = _
                  have h := HE.out
                  have h2 := HEV2.out
                  unfold evsOf at h ⊢
                  rw [HTO.out, hev, if_pos rfl, List.map_append, h, List.map_cons, List.map_nil, hxe, h2]
                have hl9 : (es ++ [X]).length ≤ k + 1 := by simp; omega
                clear hrx hS hxe HCX HWS HRC HBC HE HTO
                go_wp2
                exact ⟨⟨k + 1, _, es ++ [X], g5, by omega, hl9, by go_num, rfl, Lib.hid rfl, HE2, HR9, HB9⟩, by simp [intOf]; omega⟩
              · have hcb : (rc == 0) = false := by simpa using hc0
                by_cases hc4 : rc = 4
                · subst hc4
                  have hev : eventB ⟨1, xa, xb, xc, xd, xe⟩ 4 q = true := by simp [eventB, putK, okPut, hn0]
                  have HEV2 : Hid ((⟨xa, false, 0, ws⟩ : Ev) = eventE ⟨1, xa, xb, xc, xd, xe⟩ ws) := by
                    show _ = _
                    simp [eventE, putK]
                  go_upto_region 13 with fail
                  refine wp_region_slots_u 9 [[(5, false)], [(7, false)], [(51, true)], [(8, false)], [(53, true)], [(54, true)], [(52, true), (55, true)], [(56, true)], [(50, true), (57, true)]] (fun w' => wc.grownBy w' (some ob)) (fun w' => wc.grownBy w' (some ob)) (fun _ w' => wc.grownBy w' (some ob)) (fun d w' => d = some 58 → RowX w' w.heap.size v es) (fun _ => none) (AppS 58 (some ob)) (by kernel_rfl) (by kernel_rfl) (by rfl) ⟨rfl, rfl, rfl, Nat.le_refl _, fun _ _ _ => rfl⟩ (by kernel_rfl) (fun _ _ => HRC.out.below (Below.refl _ _).drew) (fun _ h => by cases h) (fun d d' hd w w' h1 h2 h3 => (h1 h3).below (appS_below (h3 ▸ hd) h2)) (fun _ _ _ _ _ _ h => by cases h) (fun d _ w w' h1 h2 => grownT h1 (appS_any h2)) (fun _ _ _ h => h) (fun _ _ _ h => h) ?_
                  apply slotU_eq
                  · intro ρ w' ⟨p1, p2, p3⟩ hS hEE hn
                    simp at hn
                    go_simp
                    exact ⟨appS_refl (by simp) _, rfl⟩
                  apply slotU_eq
                  · intro ρ w' ⟨p1, p2, p3⟩ hS hEE hn
                    simp at hn
                    go_simp
                    exact ⟨appS_refl (by simp) _, rfl⟩
                  apply slotU_eq
                  · intro ρ w' ⟨p1, p2, p3⟩ hS hEE hn
                    obtain ⟨⟨x1, x2, x4⟩, y1⟩ := HCX.out w' hS
                    simp at hn
                    go_simp
                    exact ⟨appS_refl (by simp) _, rfl⟩
                  apply slotU_eq
                  · intro ρ w' ⟨p1, p2, p3⟩ hS hEE hn
                    simp at hn
                    go_simp
                    exact ⟨appS_refl (by simp) _, rfl⟩
                  apply slotU_eq
                  · intro ρ w' ⟨p1, p2, p3⟩ hS hEE hn
                    obtain ⟨⟨x1, x2, x4⟩, y1⟩ := HCX.out w' hS
                    simp at hn
                    go_simp
                    exact ⟨appS_refl (by simp) _, rfl⟩
                  refine slotU_fact (CopX wc.heap.size q ws) (lasts_copX (by omega)) ?_ ?_
                  · intro ρ w' ⟨p1, p2, p3⟩ hS hEE hn
                    simp at hn
                    go_simp
                    have hsz := hS.size
                    exact got_call (copies_gen ar q cr ws w' HQ.out hxl HXF.out (HWS.out w' hS)) fun e w'' ⟨g, cp, es', he, hex, hr, hb⟩ => ⟨_, he, appS_of (by simp) hb, g, cp, w''.heap.size, rfl, Nat.le_refl _, (hr.inW hex HXF.out).wider hsz (Nat.le_refl _)⟩
                  refine slotU_fact (AggX wc.heap.size q xa false 0 ws) (lasts_aggX (by omega)) ?_ ?_
                  · intro ρ w' ⟨p1, p2, p3⟩ hS hEE hn
                    simp at hn
                    obtain ⟨x52, g, cp, hi, xC, h2, h3⟩ := hn
                    go_simp
                    exact ⟨appS_refl (by simp) _, g, cp, hi, rfl, h2, h3⟩
                  refine slotU_fact (BsX wc.heap.size ob xa false 0 ws) (lasts_bsX (by omega)) ?_ ?_
                  · intro ρ w' ⟨p1, p2, p3⟩ hS hEE hn
                    simp at hn
                    obtain ⟨g, cp, hi, xA, h2, h3⟩ := hn
                    go_simp
                    have hsz := hS.size
                    have hal : Below w'.heap.size w' (w'.alloc (.cells #[.int .i64 (xa), .bool false, .int .i64 (0), .slice (some ⟨g, 0, none⟩) q cp] 50)) := (Below.refl _ _).alloc (Nat.le_refl _) _
                    exact ⟨appS_alloc (by simp) _ _, w'.heap.size, g, cp, hi, rfl, by omega, by simp, evX_cells w' _ _ _ ws g cp _ hi q HQ.out, Nat.le_trans h2 hal.size, h3.below h2 hal⟩
                  refine slotU_fact (AppX w.heap.size es ⟨xa, false, 0, ws⟩) lasts_appX ?_ ?_
                  · intro ρ w' ⟨p1, p2, p3⟩ hS hEE hn
                    have hrow := hEE rfl
                    have hsz := hS.size
                    have hwz : w.heap.size ≤ w'.heap.size := Nat.le_trans HBC.out.size hsz
                    simp at hn
                    obtain ⟨xV, g', g, cp, hi, xB, hg1, hg2, hg3, hg4, hg5⟩ := hn
                    refine got_append (.tmp 50) (.tmp 57) _ rfl w.heap.size 50 i0 (.agg #[.int .i64 0, .bool false, .int .i64 0, .slice none 0 0]) 4 48 Try.underlying26 HI0.out HX0.out.1 HX0.out.2.1 HX0.out.2.2 (by rfl) (by omega) v es.length (es.flatMap evVals) xV hrow.own ⟨g', 0, none⟩ 1 1 (evVals (evX xa false 0 ws (some ⟨g, 0, none⟩) cp wc.heap.size hi)) xB (by rfl) hg3 (evVals_one _) (by omega) (by unfold maxLen; omega) (by omega) hwz _ rfl ?_
                    intro g5 c5 w5 r1 r2 r3 r4
                    refine ⟨appS_grown (by rw [← HOB.out]; exact r2), g5, c5, _, rfl, hrow.more (x := evX xa false 0 ws (some ⟨g, 0, none⟩) cp wc.heap.size hi) ⟨by show w.heap.size ≤ wc.heap.size; exact HBC.out.size, hg4, hg5⟩ (fun gg hgg => ?_) r1 r2 r3, rfl⟩
                    rw [HOB.out] at hgg
                    injection hgg with hgg
                    show gg < wc.heap.size
                    omega
                  refine slotU_end ?_
                  rintro vs w6 hS hF
                  simp at hF
                  obtain ⟨⟨g5, c5, X, x58, hrx, hxe⟩, ⟨yy1, yy2, yy3, yy4, x57, -⟩, ⟨yy5, yy6, yy7, x56, -⟩, ⟨yy8, yy9, yy10, x55, -⟩, x54, x53, x52, x51, x50⟩ := hF
                  rw [x58] at hrx
                  simp only [List.take_succ_cons, List.take_zero, List.drop_succ_cons, List.drop_zero, putAll, x58, x57, x56, x55, x54, x53, x52, x51, x50]
                  clear x58 x57 x56 x55 x54 x53 x52 x51 x50
                  simp only [Act.put, List.setIfInBounds_toArray, List.set_cons_succ, List.set_cons_zero]
                  have HR9 := Lib.hid hrx
                  have HB9 : Hid (Below w.heap.size w w6) := HBC.out.grown hS HBC.out.size fun j hj => by
                    injection hj with hj
                    rw [← hj]
                    exact (HRC.out.own.lt ob HOB.out).1
                  have HE2 : Hid (evsOf (es ++ [X]) = evsTo acs rs (k + 1)) := by
                    show _ = _
                    have h := HE.out
                    have h2 := HEV2.out
                    unfold evsOf at h ⊢
                    rw [HTO.out, hev, if_pos rfl, List.map_append, h, List.map_cons, List.map_nil, hxe, h2]
                  have hl9 : (es ++ [X]).length ≤ k + 1 := by simp; omega
                  clear hrx hS hxe HCX HWS HRC HBC HE HTO
                  go_wp2
                  exact ⟨⟨k + 1, _, es ++ [X], g5, by omega, hl9, by go_num, rfl, Lib.hid rfl, HE2, HR9, HB9⟩, by simp [intOf]; omega⟩
                · have hcb4 : (rc == 4) = false := by simpa using hc4
                  have hev : eventB ⟨1, xa, xb, xc, xd, xe⟩ rc q = false := by simp [eventB, putK, okPut, hcb, hcb4]
                  have HE2 : Hid (evsOf es = evsTo acs rs (k + 1)) := by
                    show _ = _
                    rw [HTO.out, hev, if_neg (by simp), List.append_nil]
                    exact HE.out
                  go_wp2
                  exact ⟨⟨k + 1, v, es, ob, by omega, by omega, by go_num, rfl, HOB, HE2, HRC, HBC⟩, by simp [intOf]; omega⟩
            · have n0 : ¬ (0 : Int) < (q : Int) := by omega
              have hev : eventB ⟨1, xa, xb, xc, xd, xe⟩ rc q = false := by simp [eventB, putK, hn0]
              by_cases hc0 : rc = 0
              · subst hc0
                have HE2 : Hid (evsOf es = evsTo acs rs (k + 1)) := by
                  show _ = _
                  rw [HTO.out, hev, if_neg (by simp), List.append_nil]
                  exact HE.out
                go_wp2
                exact ⟨⟨k + 1, v, es, ob, by omega, by omega, by go_num, rfl, HOB, HE2, HRC, HBC⟩, by simp [intOf]; omega⟩
              · have hcb : (rc == 0) = false := by simpa using hc0
                by_cases hc4 : rc = 4
                · subst hc4
                  have HE2 : Hid (evsOf es = evsTo acs rs (k + 1)) := by
                    show _ = _
                    rw [HTO.out, hev, if_neg (by simp), List.append_nil]
                    exact HE.out
                  go_wp2
                  exact ⟨⟨k + 1, v, es, ob, by omega, by omega, by go_num, rfl, HOB, HE2, HRC, HBC⟩, by simp [intOf]; omega⟩
                · have hcb4 : (rc == 4) = false := by simpa using hc4
                  have HE2 : Hid (evsOf es = evsTo acs rs (k + 1)) := by
                    show _ = _
                    rw [HTO.out, hev, if_neg (by simp), List.append_nil]
                    exact HE.out
                  go_wp2
                  exact ⟨⟨k + 1, v, es, ob, by omega, by omega, by go_num, rfl, HOB, HE2, HRC, HBC⟩, by simp [intOf]; omega⟩
          by_cases h2 : xk = 2
          · subst h2
            by_cases hn0 : 0 < q
            · have n0 : (0 : Int) < (q : Int) := by omega
              by_cases hc0 : rc = 0
              · subst hc0
                have hev : eventB ⟨2, xa, xb, xc, xd, xe⟩ 0 q = true := by simp [eventB, putK, okPut, hn0]
                have HEV2 : Hid ((⟨xa, false, 0, ws⟩ : Ev) = eventE ⟨2, xa, xb, xc, xd, xe⟩ ws) := by
                  show _ = _
                  simp [eventE, putK]
                go_upto_region 13 with fail
                refine wp_region_slots_u 9 [[(5, false)], [(7, false)], [(51, true)], [(8, false)], [(53, true)], [(54, true)], [(52, true), (55, true)], [(56, true)], [(50, true), (57, true)]] (fun w' => wc.grownBy w' (some ob)) (fun w' => wc.grownBy w' (some ob)) (fun _ w' => wc.grownBy w' (some ob)) (fun d w' => d = some 58 → RowX w' w.heap.size v es) (fun _ => none) (AppS 58 (some ob)) (by kernel_rfl) (by kernel_rfl) (by rfl) ⟨rfl, rfl, rfl, Nat.le_refl _, fun _ _ _ => rfl⟩ (by kernel_rfl) (fun _ _ => HRC.out.below (Below.refl _ _).drew) (fun _ h => by cases h) (fun d d' hd w w' h1 h2 h3 => (h1 h3).below (appS_below (h3 ▸ hd) h2)) (fun _ _ _ _ _ _ h => by cases h) (fun d _ w w' h1 h2 => grownT h1 (appS_any h2)) (fun _ _ _ h => h) (fun _ _ _ h => h) ?_
                apply slotU_eq
                · intro ρ w' ⟨p1, p2, p3⟩ hS hEE hn
                  simp at hn
                  go_simp
                  exact ⟨appS_refl (by simp) _, rfl⟩
                apply slotU_eq
                · intro ρ w' ⟨p1, p2, p3⟩ hS hEE hn
                  simp at hn
                  go_simp
                  exact ⟨appS_refl (by simp) _, rfl⟩
                apply slotU_eq
                · intro ρ w' ⟨p1, p2, p3⟩ hS hEE hn
                  obtain ⟨⟨x1, x2, x4⟩, y1⟩ := HCX.out w' hS
                  simp at hn
                  go_simp
                  exact ⟨appS_refl (by simp) _, rfl⟩
                apply slotU_eq
                · intro ρ w' ⟨p1, p2, p3⟩ hS hEE hn
                  simp at hn
                  go_simp
                  exact ⟨appS_refl (by simp) _, rfl⟩
                apply slotU_eq
                · intro ρ w' ⟨p1, p2, p3⟩ hS hEE hn
                  obtain ⟨⟨x1, x2, x4⟩, y1⟩ := HCX.out w' hS
                  simp at hn
                  go_simp
                  exact ⟨appS_refl (by simp) _, rfl⟩
                refine slotU_fact (CopX wc.heap.size q ws) (lasts_copX (by omega)) ?_ ?_
                · intro ρ w' ⟨p1, p2, p3⟩ hS hEE hn
                  simp at hn
                  go_simp
                  have hsz := hS.size
                  exact got_call (copies_gen ar q cr ws w' HQ.out hxl HXF.out (HWS.out w' hS)) fun e w'' ⟨g, cp, es', he, hex, hr, hb⟩ => ⟨_, he, appS_of (by simp) hb, g, cp, w''.heap.size, rfl, Nat.le_refl _, (hr.inW hex HXF.out).wider hsz (Nat.le_refl _)⟩
                refine slotU_fact (AggX wc.heap.size q xa false 0 ws) (lasts_aggX (by omega)) ?_ ?_
                · intro ρ w' ⟨p1, p2, p3⟩ hS hEE hn
                  simp at hn
                  obtain ⟨x52, g, cp, hi, xC, h2, h3⟩ := hn
                  go_simp
                  exact ⟨appS_refl (by simp) _, g, cp, hi, rfl, h2, h3⟩
                refine slotU_fact (BsX wc.heap.size ob xa false 0 ws) (lasts_bsX (by omega)) ?_ ?_
                · intro ρ w' ⟨p1, p2, p3⟩ hS hEE hn
                  simp at hn
                  obtain ⟨g, cp, hi, xA, h2, h3⟩ := hn
                  go_simp
                  have hsz := hS.size
                  have hal : Below w'.heap.size w' (w'.alloc (.cells #[.int .i64 (xa), .bool false, .int .i64 (0), .slice (some ⟨g, 0, none⟩) q cp] 50)) := (Below.refl _ _).alloc (Nat.le_refl _) _
                  exact ⟨appS_alloc (by simp) _ _, w'.heap.size, g, cp, hi, rfl, by omega, by simp, evX_cells w' _ _ _ ws g cp _ hi q HQ.out, Nat.le_trans h2 hal.size, h3.below h2 hal⟩
                refine slotU_fact (AppX w.heap.size es ⟨xa, false, 0, ws⟩) lasts_appX ?_ ?_
                · intro ρ w' ⟨p1, p2, p3⟩ hS hEE hn
                  have hrow := hEE rfl
                  have hsz := hS.size
                  have hwz : w.heap.size ≤ w'.heap.size := Nat.le_trans HBC.out.size hsz
                  simp at hn
                  obtain ⟨xV, g', g, cp, hi, xB, hg1, hg2, hg3, hg4, hg5⟩ := hn
                  refine got_append (.tmp 50) (.tmp 57) _ rfl w.heap.size 50 i0 (.agg #[.int .i64 0, .bool false, .int .i64 0, .slice none 0 0]) 4 48 Try.underlying26 HI0.out HX0.out.1 HX0.out.2.1 HX0.out.2.2 (by rfl) (by omega) v es.length (es.flatMap evVals) xV hrow.own ⟨g', 0, none⟩ 1 1 (evVals (evX xa false 0 ws (some ⟨g, 0, none⟩) cp wc.heap.size hi)) xB (by rfl) hg3 (evVals_one _) (by omega) (by unfold maxLen; omega) (by omega) hwz _ rfl ?_
                  intro g5 c5 w5 r1 r2 r3 r4
                  refine ⟨appS_grown (by rw [← HOB.out]; exact r2), g5, c5, _, rfl, hrow.more (x := evX xa false 0 ws (some ⟨g, 0, none⟩) cp wc.heap.size hi) ⟨by show w.heap.size ≤ wc.heap.size; exact HBC.out.size, hg4, hg5⟩ (fun gg hgg => ?_) r1 r2 r3, rfl⟩
                  rw [HOB.out] at hgg
                  injection hgg with hgg
                  show gg < wc.heap.size
                  omega
                refine slotU_end ?_
                rintro vs w6 hS hF
                simp at hF
                obtain ⟨⟨g5, c5, X, x58, hrx, hxe⟩, ⟨yy1, yy2, yy3, yy4, x57, -⟩, ⟨yy5, yy6, yy7, x56, -⟩, ⟨yy8, yy9, yy10, x55, -⟩, x54, x53, x52, x51, x50⟩ := hF
                rw [x58] at hrx
                simp only [List.take_succ_cons, List.take_zero, List.drop_succ_cons, List.drop_zero, putAll, x58, x57, x56, x55, x54, x53, x52, x51, x50]
                clear x58 x57 x56 x55 x54 x53 x52 x51 x50
                simp only [Act.put, List.setIfInBounds_toArray, List.set_cons_succ, List.set_cons_zero]
                have HR9 := Lib.hid hrx
                have HB9 : Hid (Below w.heap.size w w6) := HBC.out.grown hS HBC.out.size fun j hj => by
                  injection hj with hj
                  rw [← hj]
                  exact (HRC.out.own.lt ob HOB.out).1
                have HE2 : Hid (evsOf (es ++ [X]) = evsTo acs rs (k + 1)) := by
                  show _ = _
                  have h := HE.out
                  have h2 := HEV2.out
                  unfold evsOf at h ⊢
                  rw [HTO.out, hev, if_pos rfl, List.map_append, h, List.map_cons, List.map_nil, hxe, h2]
                have hl9 : (es ++ [X]).length ≤ k + 1 := by simp; omega
                clear hrx hS hxe HCX HWS HRC HBC HE HTO
                go_wp2
                exact ⟨⟨k + 1, _, es ++ [X], g5, by omega, hl9, by go_num, rfl, Lib.hid rfl, HE2, HR9, HB9⟩, by simp [intOf]; omega⟩
              · have hcb : (rc == 0) = false := by simpa using hc0
                by_cases hc4 : rc = 4
                · subst hc4
                  have hev : eventB ⟨2, xa, xb, xc, xd, xe⟩ 4 q = true := by simp [eventB, putK, okPut, hn0]
                  have HEV2 : Hid ((⟨xa, false, 0, ws⟩ : Ev) = eventE ⟨2, xa, xb, xc, xd, xe⟩ ws) := by
                    show _ = _
                    simp [eventE, putK]
                  go_upto_region 13 with fail
                  refine wp_region_slots_u 9 [[(5, false)], [(7, false)], [(51, true)], [(8, false)], [(53, true)], [(54, true)], [(52, true), (55, true)], [(56, true)], [(50, true), (57, true)]] (fun w' => wc.grownBy w' (some ob)) (fun w' => wc.grownBy w' (some ob)) (fun _ w' => wc.grownBy w' (some ob)) (fun d w' => d = some 58 → RowX w' w.heap.size v es) (fun _ => none) (AppS 58 (some ob)) (by kernel_rfl) (by kernel_rfl) (by rfl) ⟨rfl, rfl, rfl, Nat.le_refl _, fun _ _ _ => rfl⟩ (by kernel_rfl) (fun _ _ => HRC.out.below (Below.refl _ _).drew) (fun _ h => by cases h) (fun d d' hd w w' h1 h2 h3 => (h1 h3).below (appS_below (h3 ▸ hd) h2)) (fun _ _ _ _ _ _ h => by cases h) (fun d _ w w' h1 h2 => grownT h1 (appS_any h2)) (fun _ _ _ h => h) (fun _ _ _ h => h) ?_
                  apply slotU_eq
                  · intro ρ w' ⟨p1, p2, p3⟩ hS hEE hn
                    simp at hn
                    go_simp
                    exact ⟨appS_refl (by simp) _, rfl⟩
                  apply slotU_eq
                  · intro ρ w' ⟨p1, p2, p3⟩ hS hEE hn
                    simp at hn
                    go_simp
                    exact ⟨appS_refl (by simp) _, rfl⟩
                  apply slotU_eq
                  · intro ρ w' ⟨p1, p2, p3⟩ hS hEE hn
                    obtain ⟨⟨x1, x2, x4⟩, y1⟩ := HCX.out w' hS
                    simp at hn
                    go_simp
                    exact ⟨appS_refl (by simp) _, rfl⟩
                  apply slotU_eq
                  · intro ρ w' ⟨p1, p2, p3⟩ hS hEE hn
                    simp at hn
                    go_simp
                    exact ⟨appS_refl (by simp) _, rfl⟩
                  apply slotU_eq
                  · intro ρ w' ⟨p1, p2, p3⟩ hS hEE hn
                    obtain ⟨⟨x1, x2, x4⟩, y1⟩ := HCX.out w' hS
                    simp at hn
                    go_simp
                    exact ⟨appS_refl (by simp) _, rfl⟩
                  refine slotU_fact (CopX wc.heap.size q ws) (lasts_copX (by omega)) ?_ ?_
                  · intro ρ w' ⟨p1, p2, p3⟩ hS hEE hn
                    simp at hn
                    go_simp
                    have hsz := hS.size
                    exact got_call (copies_gen ar q cr ws w' HQ.out hxl HXF.out (HWS.out w' hS)) fun e w'' ⟨g, cp, es', he, hex, hr, hb⟩ => ⟨_, he, appS_of (by simp) hb, g, cp, w''.heap.size, rfl, Nat.le_refl _, (hr.inW hex HXF.out).wider hsz (Nat.le_refl _)⟩
                  refine slotU_fact (AggX wc.heap.size q xa false 0 ws) (lasts_aggX (by omega)) ?_ ?_
                  · intro ρ w' ⟨p1, p2, p3⟩ hS hEE hn
                    simp at hn
                    obtain ⟨x52, g, cp, hi, xC, h2, h3⟩ := hn
                    go_simp
                    exact ⟨appS_refl (by simp) _, g, cp, hi, rfl, h2, h3⟩
                  refine slotU_fact (BsX wc.heap.size ob xa false 0 ws) (lasts_bsX (by omega)) ?_ ?_
                  · intro ρ w' ⟨p1, p2, p3⟩ hS hEE hn
                    simp at hn
                    obtain ⟨g, cp, hi, xA, h2, h3⟩ := hn
                    go_simp
                    have hsz := hS.size
                    have hal : Below w'.heap.size w' (w'.alloc (.cells #[.int .i64 (xa), .bool false, .int .i64 (0), .slice (some ⟨g, 0, none⟩) q cp] 50)) := (Below.refl _ _).alloc (Nat.le_refl _) _
                    exact ⟨appS_alloc (by simp) _ _, w'.heap.size, g, cp, hi, rfl, by omega, by simp, evX_cells w' _ _ _ ws g cp _ hi q HQ.out, Nat.le_trans h2 hal.size, h3.below h2 hal⟩
                  refine slotU_fact (AppX w.heap.size es ⟨xa, false, 0, ws⟩) lasts_appX ?_ ?_
                  · intro ρ w' ⟨p1, p2, p3⟩ hS hEE hn
                    have hrow := hEE rfl
                    have hsz := hS.size
                    have hwz : w.heap.size ≤ w'.heap.size := Nat.le_trans HBC.out.size hsz
                    simp at hn
                    obtain ⟨xV, g', g, cp, hi, xB, hg1, hg2, hg3, hg4, hg5⟩ := hn
                    refine got_append (.tmp 50) (.tmp 57) _ rfl w.heap.size 50 i0 (.agg #[.int .i64 0, .bool false, .int .i64 0, .slice none 0 0]) 4 48 Try.underlying26 HI0.out HX0.out.1 HX0.out.2.1 HX0.out.2.2 (by rfl) (by omega) v es.length (es.flatMap evVals) xV hrow.own ⟨g', 0, none⟩ 1 1 (evVals (evX xa false 0 ws (some ⟨g, 0, none⟩) cp wc.heap.size hi)) xB (by rfl) hg3 (evVals_one _) (by omega) (by unfold maxLen; omega) (by omega) hwz _ rfl ?_
                    intro g5 c5 w5 r1 r2 r3 r4
                    refine ⟨appS_grown (by rw [← HOB.out]; exact r2), g5, c5, _, rfl, hrow.more (x := evX xa false 0 ws (some ⟨g, 0, none⟩) cp wc.heap.size hi) ⟨by show w.heap.size ≤ wc.heap.size; exact HBC.out.size, hg4, hg5⟩ (fun gg hgg => ?_) r1 r2 r3, rfl⟩
                    rw [HOB.out] at hgg
                    injection hgg with hgg
                    show gg < wc.heap.size
                    omega
                  refine slotU_end ?_
                  rintro vs w6 hS hF
                  simp at hF
                  obtain ⟨⟨g5, c5, X, x58, hrx, hxe⟩, ⟨yy1, yy2, yy3, yy4, x57, -⟩, ⟨yy5, yy6, yy7, x56, -⟩, ⟨yy8, yy9, yy10, x55, -⟩, x54, x53, x52, x51, x50⟩ := hF
                  rw [x58] at hrx
                  simp only [List.take_succ_cons, List.take_zero, List.drop_succ_cons, List.drop_zero, putAll, x58, x57, x56, x55, x54, x53, x52, x51, x50]
                  clear x58 x57 x56 x55 x54 x53 x52 x51 x50
                  simp only [Act.put, List.setIfInBounds_toArray, List.set_cons_succ, List.set_cons_zero]
                  have HR9 := Lib.hid hrx
                  have HB9 : Hid (Below w.heap.size w w6) := HBC.out.grown hS HBC.out.size fun j hj => by
                    injection hj with hj
                    rw [← hj]
                    exact (HRC.out.own.lt ob HOB.out).1
                  have HE2 : Hid (evsOf (es ++ [X]) = evsTo acs rs (k + 1)) := by
                    show _ = _
                    have h := HE.out
                    have h2 := HEV2.out
                    unfold evsOf at h ⊢
                    rw [HTO.out, hev, if_pos rfl, List.map_append, h, List.map_cons, List.map_nil, hxe, h2]
                  have hl9 : (es ++ [X]).length ≤ k + 1 := by simp; omega
                  clear hrx hS hxe HCX HWS HRC HBC HE HTO
                  go_wp2
                  exact ⟨⟨k + 1, _, es ++ [X], g5, by omega, hl9, by go_num, rfl, Lib.hid rfl, HE2, HR9, HB9⟩, by simp [intOf]; omega⟩
                · have hcb4 : (rc == 4) = false := by simpa using hc4
                  have hev : eventB ⟨2, xa, xb, xc, xd, xe⟩ rc q = false := by simp [eventB, putK, okPut, hcb, hcb4]
                  have HE2 : Hid (evsOf es = evsTo acs rs (k + 1)) := by
                    show _ = _
                    rw [HTO.out, hev, if_neg (by simp), List.append_nil]
                    exact HE.out
                  go_wp2
                  exact ⟨⟨k + 1, v, es, ob, by omega, by omega, by go_num, rfl, HOB, HE2, HRC, HBC⟩, by simp [intOf]; omega⟩
            · have n0 : ¬ (0 : Int) < (q : Int) := by omega
              have hev : eventB ⟨2, xa, xb, xc, xd, xe⟩ rc q = false := by simp [eventB, putK, hn0]
              by_cases hc0 : rc = 0
              · subst hc0
                have HE2 : Hid (evsOf es = evsTo acs rs (k + 1)) := by
                  show _ = _
                  rw [HTO.out, hev, if_neg (by simp), List.append_nil]
                  exact HE.out
                go_wp2
                exact ⟨⟨k + 1, v, es, ob, by omega, by omega, by go_num, rfl, HOB, HE2, HRC, HBC⟩, by simp [intOf]; omega⟩
              · have hcb : (rc == 0) = false := by simpa using hc0
                by_cases hc4 : rc = 4
                · subst hc4
                  have HE2 : Hid (evsOf es = evsTo acs rs (k + 1)) := by
                    show _ = _
                    rw [HTO.out, hev, if_neg (by simp), List.append_nil]
                    exact HE.out
                  go_wp2
                  exact ⟨⟨k + 1, v, es, ob, by omega, by omega, by go_num, rfl, HOB, HE2, HRC, HBC⟩, by simp [intOf]; omega⟩
                · have hcb4 : (rc == 4) = false := by simpa using hc4
                  have HE2 : Hid (evsOf es = evsTo acs rs (k + 1)) := by
                    show _ = _
                    rw [HTO.out, hev, if_neg (by simp), List.append_nil]
                    exact HE.out
                  go_wp2
                  exact ⟨⟨k + 1, v, es, ob, by omega, by omega, by go_num, rfl, HOB, HE2, HRC, HBC⟩, by simp [intOf]; omega⟩
          by_cases h10 : xk = 10
          · subst h10
            by_cases hn0 : 0 < q
            · have n0 : (0 : Int) < (q : Int) := by omega
              by_cases hc0 : rc = 0
              · subst hc0
                have hev : eventB ⟨10, xa, xb, xc, xd, xe⟩ 0 q = true := by simp [eventB, putK, okPut, hn0]
                have HEV2 : Hid ((⟨xa, false, 0, ws⟩ : Ev) = eventE ⟨10, xa, xb, xc, xd, xe⟩ ws) := by
                  show _ = _
                  simp [eventE, putK]
                go_upto_region 13 with fail
                refine wp_region_slots_u 9 [[(5, false)], [(7, false)], [(51, true)], [(8, false)], [(53, true)], [(54, true)], [(52, true), (55, true)], [(56, true)], [(50, true), (57, true)]] (fun w' => wc.grownBy w' (some ob)) (fun w' => wc.grownBy w' (some ob)) (fun _ w' => wc.grownBy w' (some ob)) (fun d w' => d = some 58 → RowX w' w.heap.size v es) (fun _ => none) (AppS 58 (some ob)) (by kernel_rfl) (by kernel_rfl) (by rfl) ⟨rfl, rfl, rfl, Nat.le_refl _, fun _ _ _ => rfl⟩ (by kernel_rfl) (fun _ _ => HRC.out.below (Below.refl _ _).drew) (fun _ h => by cases h) (fun d d' hd w w' h1 h2 h3 => (h1 h3).below (appS_below (h3 ▸ hd) h2)) (fun _ _ _ _ _ _ h => by cases h) (fun d _ w w' h1 h2 => grownT h1 (appS_any h2)) (fun _ _ _ h => h) (fun _ _ _ h => h) ?_
                apply slotU_eq
                · intro ρ w' ⟨p1, p2, p3⟩ hS hEE hn
                  simp at hn
                  go_simp
                  exact ⟨appS_refl (by simp) _, rfl⟩
                apply slotU_eq
                · intro ρ w' ⟨p1, p2, p3⟩ hS hEE hn
                  simp at hn
                  go_simp
                  exact ⟨appS_refl (by simp) _, rfl⟩
                apply slotU_eq
                · intro ρ w' ⟨p1, p2, p3⟩ hS hEE hn
                  obtain ⟨⟨x1, x2, x4⟩, y1⟩ := HCX.out w' hS
                  simp at hn
                  go_simp
                  exact ⟨appS_refl (by simp) _, rfl⟩
                apply slotU_eq
                · intro ρ w' ⟨p1, p2, p3⟩ hS hEE hn
                  simp at hn
                  go_simp
                  exact ⟨appS_refl (by simp) _, rfl⟩
                apply slotU_eq
                · intro ρ w' ⟨p1, p2, p3⟩ hS hEE hn
                  obtain ⟨⟨x1, x2, x4⟩, y1⟩ := HCX.out w' hS
                  simp at hn
                  go_simp
                  exact ⟨appS_refl (by simp) _, rfl⟩
                refine slotU_fact (CopX wc.heap.size q ws) (lasts_copX (by omega)) ?_ ?_
                · intro ρ w' ⟨p1, p2, p3⟩ hS hEE hn
                  simp at hn
                  go_simp
                  have hsz := hS.size
                  exact got_call (copies_gen ar q cr ws w' HQ.out hxl HXF.out (HWS.out w' hS)) fun e w'' ⟨g, cp, es', he, hex, hr, hb⟩ => ⟨_, he, appS_of (by simp) hb, g, cp, w''.heap.size, rfl, Nat.le_refl _, (hr.inW hex HXF.out).wider hsz (Nat.le_refl _)⟩
                refine slotU_fact (AggX wc.heap.size q xa false 0 ws) (lasts_aggX (by omega)) ?_ ?_
                · intro ρ w' ⟨p1, p2, p3⟩ hS hEE hn
                  simp at hn
                  obtain ⟨x52, g, cp, hi, xC, h2, h3⟩ := hn
                  go_simp
                  exact ⟨appS_refl (by simp) _, g, cp, hi, rfl, h2, h3⟩
                refine slotU_fact (BsX wc.heap.size ob xa false 0 ws) (lasts_bsX (by omega)) ?_ ?_
                · intro ρ w' ⟨p1, p2, p3⟩ hS hEE hn
                  simp at hn
                  obtain ⟨g, cp, hi, xA, h2, h3⟩ := hn
                  go_simp
                  have hsz := hS.size
                  have hal : Below w'.heap.size w' (w'.alloc (.cells #[.int .i64 (xa), .bool false, .int .i64 (0), .slice (some ⟨g, 0, none⟩) q cp] 50)) := (Below.refl _ _).alloc (Nat.le_refl _) _
                  exact ⟨appS_alloc (by simp) _ _, w'.heap.size, g, cp, hi, rfl, by omega, by simp, evX_cells w' _ _ _ ws g cp _ hi q HQ.out, Nat.le_trans h2 hal.size, h3.below h2 hal⟩
                refine slotU_fact (AppX w.heap.size es ⟨xa, false, 0, ws⟩) lasts_appX ?_ ?_
                · intro ρ w' ⟨p1, p2, p3⟩ hS hEE hn
                  have hrow := hEE rfl
                  have hsz := hS.size
                  have hwz : w.heap.size ≤ w'.heap.size := Nat.le_trans HBC.out.size hsz
                  simp at hn
                  obtain ⟨xV, g', g, cp, hi, xB, hg1, hg2, hg3, hg4, hg5⟩ := hn
                  refine got_append (.tmp 50) (.tmp 57) _ rfl w.heap.size 50 i0 (.agg #[.int .i64 0, .bool false, .int .i64 0, .slice none 0 0]) 4 48 Try.underlying26 HI0.out HX0.out.1 HX0.out.2.1 HX0.out.2.2 (by rfl) (by omega) v es.length (es.flatMap evVals) xV hrow.own ⟨g', 0, none⟩ 1 1 (evVals (evX xa false 0 ws (some ⟨g, 0, none⟩) cp wc.heap.size hi)) xB (by rfl) hg3 (evVals_one _) (by omega) (by unfold maxLen; omega) (by omega) hwz _ rfl ?_
                  intro g5 c5 w5 r1 r2 r3 r4
                  refine ⟨appS_grown (by rw [← HOB.out]; exact r2), g5, c5, _, rfl, hrow.more (x := evX xa false 0 ws (some ⟨g, 0, none⟩) cp wc.heap.size hi) ⟨by show w.heap.size ≤ wc.heap.size; exact HBC.out.size, hg4, hg5⟩ (fun gg hgg => ?_) r1 r2 r3, rfl⟩
                  rw [HOB.out] at hgg
                  injection hgg with hgg
                  show gg < wc.heap.size
                  omega
                refine slotU_end ?_
                rintro vs w6 hS hF
                simp at hF
                obtain ⟨⟨g5, c5, X, x58, hrx, hxe⟩, ⟨yy1, yy2, yy3, yy4, x57, -⟩, ⟨yy5, yy6, yy7, x56, -⟩, ⟨yy8, yy9, yy10, x55, -⟩, x54, x53, x52, x51, x50⟩ := hF
                rw [x58] at hrx
                simp only [List.take_succ_cons, List.take_zero, List.drop_succ_cons, List.drop_zero, putAll, x58, x57, x56, x55, x54, x53, x52, x51, x50]
                clear x58 x57 x56 x55 x54 x53 x52 x51 x50
                simp only [Act.put, List.setIfInBounds_toArray, List.set_cons_succ, List.set_cons_zero]
                have HR9 := Lib.hid hrx
                have HB9 : Hid (Below w.heap.size w w6) := HBC.out.grown hS HBC.out.size fun j hj => by
                  injection hj with hj
                  rw [← hj]
                  exact (HRC.out.own.lt ob HOB.out).1
                have HE2 : Hid (evsOf (es ++ [X]) = evsTo acs rs (k + 1)) := by
                  show _ = _
                  have h := HE.out
                  have h2 := HEV2.out
                  unfold evsOf at h ⊢
                  rw [HTO.out, hev, if_pos rfl, List.map_append, h, List.map_cons, List.map_nil, hxe, h2]
                have hl9 : (es ++ [X]).length ≤ k + 1 := by simp; omega
                clear hrx hS hxe HCX HWS HRC HBC HE HTO
                go_wp2
                exact ⟨⟨k + 1, _, es ++ [X], g5, by omega, hl9, by go_num, rfl, Lib.hid rfl, HE2, HR9, HB9⟩, by simp [intOf]; omega⟩
              · have hcb : (rc == 0) = false := by simpa using hc0
                by_cases hc4 : rc = 4
                · subst hc4
                  have hev : eventB ⟨10, xa, xb, xc, xd, xe⟩ 4 q = true := by simp [eventB, putK, okPut, hn0]
                  have HEV2 : Hid ((⟨xa, false, 0, ws⟩ : Ev) = eventE ⟨10, xa, xb, xc, xd, xe⟩ ws) := by
                    show _ = _
                    simp [eventE, putK]
                  go_upto_region 13 with fail
                  refine wp_region_slots_u 9 [[(5, false)], [(7, false)], [(51, true)], [(8, false)], [(53, true)], [(54, true)], [(52, true), (55, true)], [(56, true)], [(50, true), (57, true)]] (fun w' => wc.grownBy w' (some ob)) (fun w' => wc.grownBy w' (some ob)) (fun _ w' => wc.grownBy w' (some ob)) (fun d w' => d = some 58 → RowX w' w.heap.size v es) (fun _ => none) (AppS 58 (some ob)) (by kernel_rfl) (by kernel_rfl) (by rfl) ⟨rfl, rfl, rfl, Nat.le_refl _, fun _ _ _ => rfl⟩ (by kernel_rfl) (fun _ _ => HRC.out.below (Below.refl _ _).drew) (fun _ h => by cases h) (fun d d' hd w w' h1 h2 h3 => (h1 h3).below (appS_below (h3 ▸ hd) h2)) (fun _ _ _ _ _ _ h => by cases h) (fun d _ w w' h1 h2 => grownT h1 (appS_any h2)) (fun _ _ _ h => h) (fun _ _ _ h => h) ?_
                  apply slotU_eq
                  · intro ρ w' ⟨p1, p2, p3⟩ hS hEE hn
                    simp at hn
                    go_simp
                    exact ⟨appS_refl (by simp) _, rfl⟩
                  apply slotU_eq
                  · intro ρ w' ⟨p1, p2, p3⟩ hS hEE hn
                    simp at hn
                    go_simp
                    exact ⟨appS_refl (by simp) _, rfl⟩
                  apply slotU_eq
                  · intro ρ w' ⟨p1, p2, p3⟩ hS hEE hn
                    obtain ⟨⟨x1, x2, x4⟩, y1⟩ := HCX.out w' hS
                    simp at hn
                    go_simp
                    exact ⟨appS_refl (by simp) _, rfl⟩
                  apply slotU_eq
                  · intro ρ w' ⟨p1, p2, p3⟩ hS hEE hn
                    simp at hn
                    go_simp
                    exact ⟨appS_refl (by simp) _, rfl⟩
                  apply slotU_eq
                  · intro ρ w' ⟨p1, p2, p3⟩ hS hEE hn
                    obtain ⟨⟨x1, x2, x4⟩, y1⟩ := HCX.out w' hS
                    simp at hn
                    go_simp
                    exact ⟨appS_refl (by simp) _, rfl⟩
                  refine slotU_fact (CopX wc.heap.size q ws) (lasts_copX (by omega)) ?_ ?_
                  · intro ρ w' ⟨p1, p2, p3⟩ hS hEE hn
                    simp at hn
                    go_simp
                    have hsz := hS.size
                    exact got_call (copies_gen ar q cr ws w' HQ.out hxl HXF.out (HWS.out w' hS)) fun e w'' ⟨g, cp, es', he, hex, hr, hb⟩ => ⟨_, he, appS_of (by simp) hb, g, cp, w''.heap.size, rfl, Nat.le_refl _, (hr.inW hex HXF.out).wider hsz (Nat.le_refl _)⟩
                  refine slotU_fact (AggX wc.heap.size q xa false 0 ws) (lasts_aggX (by omega)) ?_ ?_
                  · intro ρ w' ⟨p1, p2, p3⟩ hS hEE hn
                    simp at hn
                    obtain ⟨x52, g, cp, hi, xC, h2, h3⟩ := hn
                    go_simp
                    exact ⟨appS_refl (by simp) _, g, cp, hi, rfl, h2, h3⟩
                  refine slotU_fact (BsX wc.heap.size ob xa false 0 ws) (lasts_bsX (by omega)) ?_ ?_
                  · intro ρ w' ⟨p1, p2, p3⟩ hS hEE hn
                    simp at hn
                    obtain ⟨g, cp, hi, xA, h2, h3⟩ := hn
                    go_simp
                    have hsz := hS.size
                    have hal : Below w'.heap.size w' (w'.alloc (.cells #[.int .i64 (xa), .bool false, .int .i64 (0), .slice (some ⟨g, 0, none⟩) q cp] 50)) := (Below.refl _ _).alloc (Nat.le_refl _) _
                    exact ⟨appS_alloc (by simp) _ _, w'.heap.size, g, cp, hi, rfl, by omega, by simp, evX_cells w' _ _ _ ws g cp _ hi q HQ.out, Nat.le_trans h2 hal.size, h3.below h2 hal⟩
                  refine slotU_fact (AppX w.heap.size es ⟨xa, false, 0, ws⟩) lasts_appX ?_ ?_
                  · intro ρ w' ⟨p1, p2, p3⟩ hS hEE hn
                    have hrow := hEE rfl
                    have hsz := hS.size
                    have hwz : w.heap.size ≤ w'.heap.size := Nat.le_trans HBC.out.size hsz
                    simp at hn
                    obtain ⟨xV, g', g, cp, hi, xB, hg1, hg2, hg3, hg4, hg5⟩ := hn
                    refine got_append (.tmp 50) (.tmp 57) _ rfl w.heap.size 50 i0 (.agg #[.int .i64 0, .bool false, .int .i64 0, .slice none 0 0]) 4 48 Try.underlying26 HI0.out HX0.out.1 HX0.out.2.1 HX0.out.2.2 (by rfl) (by omega) v es.length (es.flatMap evVals) xV hrow.own ⟨g', 0, none⟩ 1 1 (evVals (evX xa false 0 ws (some ⟨g, 0, none⟩) cp wc.heap.size hi)) xB (by rfl) hg3 (evVals_one _) (by omega) (by unfold maxLen; omega) (by omega) hwz _ rfl ?_
                    intro g5 c5 w5 r1 r2 r3 r4
                    refine ⟨appS_grown (by rw [← HOB.out]; exact r2), g5, c5, _, rfl, hrow.more (x := evX xa false 0 ws (some ⟨g, 0, none⟩) cp wc.heap.size hi) ⟨by show w.heap.size ≤ wc.heap.size; exact HBC.out.size, hg4, hg5⟩ (fun gg hgg => ?_) r1 r2 r3, rfl⟩
                    rw [HOB.out] at hgg
                    injection hgg with hgg
                    show gg < wc.heap.size
                    omega
                  refine slotU_end ?_
                  rintro vs w6 hS hF
                  simp at hF
                  obtain ⟨⟨g5, c5, X, x58, hrx, hxe⟩, ⟨yy1, yy2, yy3, yy4, x57, -⟩, ⟨yy5, yy6, yy7, x56, -⟩, ⟨yy8, yy9, yy10, x55, -⟩, x54, x53, x52, x51, x50⟩ := hF
                  rw [x58] at hrx
                  simp only [List.take_succ_cons, List.take_zero, List.drop_succ_cons, List.drop_zero, putAll, x58, x57, x56, x55, x54, x53, x52, x51, x50]
                  clear x58 x57 x56 x55 x54 x53 x52 x51 x50
                  simp only [Act.put, List.setIfInBounds_toArray, List.set_cons_succ, List.set_cons_zero]
                  have HR9 := Lib.hid hrx
                  have HB9 : Hid (Below w.heap.size w w6) := HBC.out.grown hS HBC.out.size fun j hj => by
                    injection hj with hj
                    rw [← hj]
                    exact (HRC.out.own.lt ob HOB.out).1
                  have HE2 : Hid (evsOf (es ++ [X]) = evsTo acs rs (k + 1)) := by
                    show _ = _
                    have h := HE.out
                    have h2 := HEV2.out
                    unfold evsOf at h ⊢
                    rw [HTO.out, hev, if_pos rfl, List.map_append, h, List.map_cons, List.map_nil, hxe, h2]
                  have hl9 : (es ++ [X]).length ≤ k + 1 := by simp; omega
                  clear hrx hS hxe HCX HWS HRC HBC HE HTO
                  go_wp2
                  exact ⟨⟨k + 1, _, es ++ [X], g5, by omega, hl9, by go_num, rfl, Lib.hid rfl, HE2, HR9, HB9⟩, by simp [intOf]; omega⟩
                · have hcb4 : (rc == 4) = false := by simpa using hc4
                  have hev : eventB ⟨10, xa, xb, xc, xd, xe⟩ rc q = false := by simp [eventB, putK, okPut, hcb, hcb4]
                  have HE2 : Hid (evsOf es = evsTo acs rs (k + 1)) := by
                    show _ = _
                    rw [HTO.out, hev, if_neg (by simp), List.append_nil]
                    exact HE.out
                  go_wp2
                  exact ⟨⟨k + 1, v, es, ob, by omega, by omega, by go_num, rfl, HOB, HE2, HRC, HBC⟩, by simp [intOf]; omega⟩
            · have n0 : ¬ (0 : Int) < (q : Int) := by omega
              have hev : eventB ⟨10, xa, xb, xc, xd, xe⟩ rc q = false := by simp [eventB, putK, hn0]
              by_cases hc0 : rc = 0
              · subst hc0
                have HE2 : Hid (evsOf es = evsTo acs rs (k + 1)) := by
                  show _ = _
                  rw [HTO.out, hev, if_neg (by simp), List.append_nil]
                  exact HE.out
                go_wp2
                exact ⟨⟨k + 1, v, es, ob, by omega, by omega, by go_num, rfl, HOB, HE2, HRC, HBC⟩, by simp [intOf]; omega⟩
              · have hcb : (rc == 0) = false := by simpa using hc0
                by_cases hc4 : rc = 4
                · subst hc4
                  have HE2 : Hid (evsOf es = evsTo acs rs (k + 1)) := by
                    show _ = _
                    rw [HTO.out, hev, if_neg (by simp), List.append_nil]
                    exact HE.out
                  go_wp2
                  exact ⟨⟨k + 1, v, es, ob, by omega, by omega, by go_num, rfl, HOB, HE2, HRC, HBC⟩, by simp [intOf]; omega⟩
                · have hcb4 : (rc == 4) = false := by simpa using hc4
                  have HE2 : Hid (evsOf es = evsTo acs rs (k + 1)) := by
                    show _ = _
                    rw [HTO.out, hev, if_neg (by simp), List.append_nil]
                    exact HE.out
                  go_wp2
                  exact ⟨⟨k + 1, v, es, ob, by omega, by omega, by go_num, rfl, HOB, HE2, HRC, HBC⟩, by simp [intOf]; omega⟩
          by_cases h3 : xk = 3
          · subst h3
            by_cases hc0 : rc = 0
            · subst hc0
              go_wp2_with fail
              refine (key_any xb _).mono ?_
              rintro e wz ⟨rfl, hw⟩
              subst wz
              by_cases hb : btw xb 0 5 = true
              · have hb2 : xb = 0 ∨ xb = 1 ∨ xb = 2 ∨ xb = 3 ∨ xb = 4 ∨ xb = 5 := by
                  unfold btw at hb
                  simp at hb
                  omega
                rw [hb]
                clear hb
                rcases hb2 with rfl | rfl | rfl | rfl | rfl | rfl
                · have hev : eventB ⟨3, xa, 0, xc, xd, xe⟩ 0 q = true := by simp [eventB, putK, okShow, btw]
                  have HEV2 : Hid ((⟨xa, true, 1, ws⟩ : Ev) = eventE ⟨3, xa, 0, xc, xd, xe⟩ ws) := by
                    show _ = _
                    simp [eventE, putK]
                  go_upto_region 16 with fail
                  refine wp_region_slots_u 12 [[(5, false)], [(7, false)], [(75, true)], [(7, false)], [(77, true)], [(78, true)], [(8, false)], [(80, true)], [(81, true)], [(76, true), (79, true), (82, true)], [(83, true)], [(74, true), (84, true)]] (fun w' => wc.grownBy w' (some ob)) (fun w' => wc.grownBy w' (some ob)) (fun _ w' => wc.grownBy w' (some ob)) (fun d w' => d = some 85 → RowX w' w.heap.size v es) (fun _ => none) (AppS 85 (some ob)) (by kernel_rfl) (by kernel_rfl) (by rfl) ⟨rfl, rfl, rfl, Nat.le_refl _, fun _ _ _ => rfl⟩ (by kernel_rfl) (fun _ _ => HRC.out.below (Below.refl _ _).drew) (fun _ h => by cases h) (fun d d' hd w w' h1 h2 h3 => (h1 h3).below (appS_below (h3 ▸ hd) h2)) (fun _ _ _ _ _ _ h => by cases h) (fun d _ w w' h1 h2 => grownT h1 (appS_any h2)) (fun _ _ _ h => h) (fun _ _ _ h => h) ?_
                  apply slotU_eq
                  · intro ρ w' ⟨p1, p2, p3⟩ hS hEE hn
                    simp at hn
                    go_simp
                    exact ⟨appS_refl (by simp) _, rfl⟩
                  apply slotU_eq
                  · intro ρ w' ⟨p1, p2, p3⟩ hS hEE hn
                    simp at hn
                    go_simp
                    exact ⟨appS_refl (by simp) _, rfl⟩
                  apply slotU_eq
                  · intro ρ w' ⟨p1, p2, p3⟩ hS hEE hn
                    obtain ⟨⟨x1, x2, x4⟩, y1⟩ := HCX.out w' hS
                    simp at hn
                    go_simp
                    exact ⟨appS_refl (by simp) _, rfl⟩
                  apply slotU_eq
                  · intro ρ w' ⟨p1, p2, p3⟩ hS hEE hn
                    simp at hn
                    go_simp
                    exact ⟨appS_refl (by simp) _, rfl⟩
                  apply slotU_eq
                  · intro ρ w' ⟨p1, p2, p3⟩ hS hEE hn
                    obtain ⟨⟨x1, x2, x4⟩, y1⟩ := HCX.out w' hS
                    simp at hn
                    go_simp
                    exact ⟨appS_refl (by simp) _, rfl⟩
                  apply slotU_eq
                  · intro ρ w' ⟨p1, p2, p3⟩ hS hEE hn
                    simp at hn
                    go_simp
                    exact ⟨appS_refl (by simp) _, rfl⟩
                  apply slotU_eq
                  · intro ρ w' ⟨p1, p2, p3⟩ hS hEE hn
                    simp at hn
                    go_simp
                    exact ⟨appS_refl (by simp) _, rfl⟩
                  apply slotU_eq
                  · intro ρ w' ⟨p1, p2, p3⟩ hS hEE hn
                    obtain ⟨⟨x1, x2, x4⟩, y1⟩ := HCX.out w' hS
                    simp at hn
                    go_simp
                    exact ⟨appS_refl (by simp) _, rfl⟩
                  refine slotU_fact (CopX wc.heap.size q ws) (lasts_copX (by omega)) ?_ ?_
                  · intro ρ w' ⟨p1, p2, p3⟩ hS hEE hn
                    simp at hn
                    go_simp
                    have hsz := hS.size
                    exact got_call (copies_gen ar q cr ws w' HQ.out hxl HXF.out (HWS.out w' hS)) fun e w'' ⟨g, cp, es', he, hex, hr, hb⟩ => ⟨_, he, appS_of (by simp) hb, g, cp, w''.heap.size, rfl, Nat.le_refl _, (hr.inW hex HXF.out).wider hsz (Nat.le_refl _)⟩
                  refine slotU_fact (AggX wc.heap.size q xa true 1 ws) (lasts_aggX (by omega)) ?_ ?_
                  · intro ρ w' ⟨p1, p2, p3⟩ hS hEE hn
                    simp at hn
                    obtain ⟨x76, x79, g, cp, hi, xC, h2, h3⟩ := hn
                    go_simp
                    exact ⟨appS_refl (by simp) _, g, cp, hi, rfl, h2, h3⟩
                  refine slotU_fact (BsX wc.heap.size ob xa true 1 ws) (lasts_bsX (by omega)) ?_ ?_
                  · intro ρ w' ⟨p1, p2, p3⟩ hS hEE hn
                    simp at hn
                    obtain ⟨g, cp, hi, xA, h2, h3⟩ := hn
                    go_simp
                    have hsz := hS.size
                    have hal : Below w'.heap.size w' (w'.alloc (.cells #[.int .i64 (xa), .bool true, .int .i64 (1), .slice (some ⟨g, 0, none⟩) q cp] 50)) := (Below.refl _ _).alloc (Nat.le_refl _) _
                    exact ⟨appS_alloc (by simp) _ _, w'.heap.size, g, cp, hi, rfl, by omega, by simp, evX_cells w' _ _ _ ws g cp _ hi q HQ.out, Nat.le_trans h2 hal.size, h3.below h2 hal⟩
                  refine slotU_fact (AppX w.heap.size es ⟨xa, true, 1, ws⟩) lasts_appX ?_ ?_
                  · intro ρ w' ⟨p1, p2, p3⟩ hS hEE hn
                    have hrow := hEE rfl
                    have hsz := hS.size
                    have hwz : w.heap.size ≤ w'.heap.size := Nat.le_trans HBC.out.size hsz
                    simp at hn
                    obtain ⟨xV, g', g, cp, hi, xB, hg1, hg2, hg3, hg4, hg5⟩ := hn
                    refine got_append (.tmp 74) (.tmp 84) _ rfl w.heap.size 50 i0 (.agg #[.int .i64 0, .bool false, .int .i64 0, .slice none 0 0]) 4 48 Try.underlying26 HI0.out HX0.out.1 HX0.out.2.1 HX0.out.2.2 (by rfl) (by omega) v es.length (es.flatMap evVals) xV hrow.own ⟨g', 0, none⟩ 1 1 (evVals (evX xa true 1 ws (some ⟨g, 0, none⟩) cp wc.heap.size hi)) xB (by rfl) hg3 (evVals_one _) (by omega) (by unfold maxLen; omega) (by omega) hwz _ rfl ?_
                    intro g5 c5 w5 r1 r2 r3 r4
                    refine ⟨appS_grown (by rw [← HOB.out]; exact r2), g5, c5, _, rfl, hrow.more (x := evX xa true 1 ws (some ⟨g, 0, none⟩) cp wc.heap.size hi) ⟨by show w.heap.size ≤ wc.heap.size; exact HBC.out.size, hg4, hg5⟩ (fun gg hgg => ?_) r1 r2 r3, rfl⟩
                    rw [HOB.out] at hgg
                    injection hgg with hgg
                    show gg < wc.heap.size
                    omega
                  refine slotU_end ?_
                  rintro vs w6 hS hF
                  simp at hF
                  obtain ⟨⟨g5, c5, X, x85, hrx, hxe⟩, ⟨yy1, yy2, yy3, yy4, x84, -⟩, ⟨yy5, yy6, yy7, x83, -⟩, ⟨yy8, yy9, yy10, x82, -⟩, x81, x80, x79, x78, x77, x76, x75, x74⟩ := hF
                  rw [x85] at hrx
                  simp only [List.take_succ_cons, List.take_zero, List.drop_succ_cons, List.drop_zero, putAll, x85, x84, x83, x82, x81, x80, x79, x78, x77, x76, x75, x74]
                  clear x85 x84 x83 x82 x81 x80 x79 x78 x77 x76 x75 x74
                  simp only [Act.put, List.setIfInBounds_toArray, List.set_cons_succ, List.set_cons_zero]
                  have HR9 := Lib.hid hrx
                  have HB9 : Hid (Below w.heap.size w w6) := HBC.out.grown hS HBC.out.size fun j hj => by
                    injection hj with hj
                    rw [← hj]
                    exact (HRC.out.own.lt ob HOB.out).1
                  have HE2 : Hid (evsOf (es ++ [X]) = evsTo acs rs (k + 1)) := by
                    show _ = _
                    have h := HE.out
                    have h2 := HEV2.out
                    unfold evsOf at h ⊢
                    rw [HTO.out, hev, if_pos rfl, List.map_append, h, List.map_cons, List.map_nil, hxe, h2]
                  have hl9 : (es ++ [X]).length ≤ k + 1 := by simp; omega
                  clear hrx hS hxe HCX HWS HRC HBC HE HTO
                  go_wp2
                  exact ⟨⟨k + 1, _, es ++ [X], g5, by omega, hl9, by go_num, rfl, Lib.hid rfl, HE2, HR9, HB9⟩, by simp [intOf]; omega⟩
                · have hev : eventB ⟨3, xa, 1, xc, xd, xe⟩ 0 q = true := by simp [eventB, putK, okShow, btw]
                  have HEV2 : Hid ((⟨xa, true, 2, ws⟩ : Ev) = eventE ⟨3, xa, 1, xc, xd, xe⟩ ws) := by
                    show _ = _
                    simp [eventE, putK]
                  go_upto_region 16 with fail
                  refine wp_region_slots_u 12 [[(5, false)], [(7, false)], [(75, true)], [(7, false)], [(77, true)], [(78, true)], [(8, false)], [(80, true)], [(81, true)], [(76, true), (79, true), (82, true)], [(83, true)], [(74, true), (84, true)]] (fun w' => wc.grownBy w' (some ob)) (fun w' => wc.grownBy w' (some ob)) (fun _ w' => wc.grownBy w' (some ob)) (fun d w' => d = some 85 → RowX w' w.heap.size v es) (fun _ => none) (AppS 85 (some ob)) (by kernel_rfl) (by kernel_rfl) (by rfl) ⟨rfl, rfl, rfl, Nat.le_refl _, fun _ _ _ => rfl⟩ (by kernel_rfl) (fun _ _ => HRC.out.below (Below.refl _ _).drew) (fun _ h => by cases h) (fun d d' hd w w' h1 h2 h3 => (h1 h3).below (appS_below (h3 ▸ hd) h2)) (fun _ _ _ _ _ _ h => by cases h) (fun d _ w w' h1 h2 => grownT h1 (appS_any h2)) (fun _ _ _ h => h) (fun _ _ _ h => h) ?_
                  apply slotU_eq
                  · intro ρ w' ⟨p1, p2, p3⟩ hS hEE hn
                    simp at hn
                    go_simp
                    exact ⟨appS_refl (by simp) _, rfl⟩
                  apply slotU_eq
                  · intro ρ w' ⟨p1, p2, p3⟩ hS hEE hn
                    simp at hn
                    go_simp
                    exact ⟨appS_refl (by simp) _, rfl⟩
                  apply slotU_eq
                  · intro ρ w' ⟨p1, p2, p3⟩ hS hEE hn
                    obtain ⟨⟨x1, x2, x4⟩, y1⟩ := HCX.out w' hS
                    simp at hn
                    go_simp
                    exact ⟨appS_refl (by simp) _, rfl⟩
                  apply slotU_eq
                  · intro ρ w' ⟨p1, p2, p3⟩ hS hEE hn
                    simp at hn
                    go_simp
                    exact ⟨appS_refl (by simp) _, rfl⟩
                  apply slotU_eq
                  · intro ρ w' ⟨p1, p2, p3⟩ hS hEE hn
                    obtain ⟨⟨x1, x2, x4⟩, y1⟩ := HCX.out w' hS
                    simp at hn
                    go_simp
                    exact ⟨appS_refl (by simp) _, rfl⟩
                  apply slotU_eq
                  · intro ρ w' ⟨p1, p2, p3⟩ hS hEE hn
                    simp at hn
                    go_simp
                    exact ⟨appS_refl (by simp) _, rfl⟩
                  apply slotU_eq
                  · intro ρ w' ⟨p1, p2, p3⟩ hS hEE hn
                    simp at hn
                    go_simp
                    exact ⟨appS_refl (by simp) _, rfl⟩
                  apply slotU_eq
                  · intro ρ w' ⟨p1, p2, p3⟩ hS hEE hn
                    obtain ⟨⟨x1, x2, x4⟩, y1⟩ := HCX.out w' hS
                    simp at hn
                    go_simp
                    exact ⟨appS_refl (by simp) _, rfl⟩
                  refine slotU_fact (CopX wc.heap.size q ws) (lasts_copX (by omega)) ?_ ?_
                  · intro ρ w' ⟨p1, p2, p3⟩ hS hEE hn
                    simp at hn
                    go_simp
                    have hsz := hS.size
                    exact got_call (copies_gen ar q cr ws w' HQ.out hxl HXF.out (HWS.out w' hS)) fun e w'' ⟨g, cp, es', he, hex, hr, hb⟩ => ⟨_, he, appS_of (by simp) hb, g, cp, w''.heap.size, rfl, Nat.le_refl _, (hr.inW hex HXF.out).wider hsz (Nat.le_refl _)⟩
                  refine slotU_fact (AggX wc.heap.size q xa true 2 ws) (lasts_aggX (by omega)) ?_ ?_
                  · intro ρ w' ⟨p1, p2, p3⟩ hS hEE hn
                    simp at hn
                    obtain ⟨x76, x79, g, cp, hi, xC, h2, h3⟩ := hn
                    go_simp
                    exact ⟨appS_refl (by simp) _, g, cp, hi, rfl, h2, h3⟩
                  refine slotU_fact (BsX wc.heap.size ob xa true 2 ws) (lasts_bsX (by omega)) ?_ ?_
                  · intro ρ w' ⟨p1, p2, p3⟩ hS hEE hn
                    simp at hn
                    obtain ⟨g, cp, hi, xA, h2, h3⟩ := hn
                    go_simp
                    have hsz := hS.size
                    have hal : Below w'.heap.size w' (w'.alloc (.cells #[.int .i64 (xa), .bool true, .int .i64 (2), .slice (some ⟨g, 0, none⟩) q cp] 50)) := (Below.refl _ _).alloc (Nat.le_refl _) _
                    exact ⟨appS_alloc (by simp) _ _, w'.heap.size, g, cp, hi, rfl, by omega, by simp, evX_cells w' _ _ _ ws g cp _ hi q HQ.out, Nat.le_trans h2 hal.size, h3.below h2 hal⟩
                  refine slotU_fact (AppX w.heap.size es ⟨xa, true, 2, ws⟩) lasts_appX ?_ ?_
                  · intro ρ w' ⟨p1, p2, p3⟩ hS hEE hn
                    have hrow := hEE rfl
                    have hsz := hS.size
                    have hwz : w.heap.size ≤ w'.heap.size := Nat.le_trans HBC.out.size hsz
                    simp at hn
                    obtain ⟨xV, g', g, cp, hi, xB, hg1, hg2, hg3, hg4, hg5⟩ := hn
                    refine got_append (.tmp 74) (.tmp 84) _ rfl w.heap.size 50 i0 (.agg #[.int .i64 0, .bool false, .int .i64 0, .slice none 0 0]) 4 48 Try.underlying26 HI0.out HX0.out.1 HX0.out.2.1 HX0.out.2.2 (by rfl) (by omega) v es.length (es.flatMap evVals) xV hrow.own ⟨g', 0, none⟩ 1 1 (evVals (evX xa true 2 ws (some ⟨g, 0, none⟩) cp wc.heap.size hi)) xB (by rfl) hg3 (evVals_one _) (by omega) (by unfold maxLen; omega) (by omega) hwz _ rfl ?_
                    intro g5 c5 w5 r1 r2 r3 r4
                    refine ⟨appS_grown (by rw [← HOB.out]; exact r2), g5, c5, _, rfl, hrow.more (x := evX xa true 2 ws (some ⟨g, 0, none⟩) cp wc.heap.size hi) ⟨by show w.heap.size ≤ wc.heap.size; exact HBC.out.size, hg4, hg5⟩ (fun gg hgg => ?_) r1 r2 r3, rfl⟩
                    rw [HOB.out] at hgg
                    injection hgg with hgg
                    show gg < wc.heap.size
                    omega
                  refine slotU_end ?_
                  rintro vs w6 hS hF
                  simp at hF
                  obtain ⟨⟨g5, c5, X, x85, hrx, hxe⟩, ⟨yy1, yy2, yy3, yy4, x84, -⟩, ⟨yy5, yy6, yy7, x83, -⟩, ⟨yy8, yy9, yy10, x82, -⟩, x81, x80, x79, x78, x77, x76, x75, x74⟩ := hF
                  rw [x85] at hrx
                  simp only [List.take_succ_cons, List.take_zero, List.drop_succ_cons, List.drop_zero, putAll, x85, x84, x83, x82, x81, x80, x79, x78, x77, x76, x75, x74]
                  clear x85 x84 x83 x82 x81 x80 x79 x78 x77 x76 x75 x74
                  simp only [Act.put, List.setIfInBounds_toArray, List.set_cons_succ, List.set_cons_zero]
                  have HR9 := Lib.hid hrx
                  have HB9 : Hid (Below w.heap.size w w6) := HBC.out.grown hS HBC.out.size fun j hj => by
                    injection hj with hj
                    rw [← hj]
                    exact (HRC.out.own.lt ob HOB.out).1
                  have HE2 : Hid (evsOf (es ++ [X]) = evsTo acs rs (k + 1)) := by
                    show _ = _
                    have h := HE.out
                    have h2 := HEV2.out
                    unfold evsOf at h ⊢
                    rw [HTO.out, hev, if_pos rfl, List.map_append, h, List.map_cons, List.map_nil, hxe, h2]
                  have hl9 : (es ++ [X]).length ≤ k + 1 := by simp; omega
                  clear hrx hS hxe HCX HWS HRC HBC HE HTO
                  go_wp2
                  exact ⟨⟨k + 1, _, es ++ [X], g5, by omega, hl9, by go_num, rfl, Lib.hid rfl, HE2, HR9, HB9⟩, by simp [intOf]; omega⟩
                · have hev : eventB ⟨3, xa, 2, xc, xd, xe⟩ 0 q = true := by simp [eventB, putK, okShow, btw]
                  have HEV2 : Hid ((⟨xa, true, 4, ws⟩ : Ev) = eventE ⟨3, xa, 2, xc, xd, xe⟩ ws) := by
                    show _ = _
                    simp [eventE, putK]
                  go_upto_region 16 with fail
                  refine wp_region_slots_u 12 [[(5, false)], [(7, false)], [(75, true)], [(7, false)], [(77, true)], [(78, true)], [(8, false)], [(80, true)], [(81, true)], [(76, true), (79, true), (82, true)], [(83, true)], [(74, true), (84, true)]] (fun w' => wc.grownBy w' (some ob)) (fun w' => wc.grownBy w' (some ob)) (fun _ w' => wc.grownBy w' (some ob)) (fun d w' => d = some 85 → RowX w' w.heap.size v es) (fun _ => none) (AppS 85 (some ob)) (by kernel_rfl) (by kernel_rfl) (by rfl) ⟨rfl, rfl, rfl, Nat.le_refl _, fun _ _ _ => rfl⟩ (by kernel_rfl) (fun _ _ => HRC.out.below (Below.refl _ _).drew) (fun _ h => by cases h) (fun d d' hd w w' h1 h2 h3 => (h1 h3).below (appS_below (h3 ▸ hd) h2)) (fun _ _ _ _ _ _ h => by cases h) (fun d _ w w' h1 h2 => grownT h1 (appS_any h2)) (fun _ _ _ h => h) (fun _ _ _ h => h) ?_
                  apply slotU_eq
                  · intro ρ w' ⟨p1, p2, p3⟩ hS hEE hn
                    simp at hn
                    go_simp
                    exact ⟨appS_refl (by simp) _, rfl⟩
                  apply slotU_eq
                  · intro ρ w' ⟨p1, p2, p3⟩ hS hEE hn
                    simp at hn
                    go_simp
                    exact ⟨appS_refl (by simp) _, rfl⟩
                  apply slotU_eq
                  · intro ρ w' ⟨p1, p2, p3⟩ hS hEE hn
                    obtain ⟨⟨x1, x2, x4⟩, y1⟩ := HCX.out w' hS
                    simp at hn
                    go_simp
                    exact ⟨appS_refl (by simp) _, rfl⟩
                  apply slotU_eq
                  · intro ρ w' ⟨p1, p2, p3⟩ hS hEE hn
                    simp at hn
                    go_simp
                    exact ⟨appS_refl (by simp) _, rfl⟩
                  apply slotU_eq
                  · intro ρ w' ⟨p1, p2, p3⟩ hS hEE hn
                    obtain ⟨⟨x1, x2, x4⟩, y1⟩ := HCX.out w' hS
                    simp at hn
                    go_simp
                    exact ⟨appS_refl (by simp) _, rfl⟩
                  apply slotU_eq
                  · intro ρ w' ⟨p1, p2, p3⟩ hS hEE hn
                    simp at hn
                    go_simp
                    exact ⟨appS_refl (by simp) _, rfl⟩
                  apply slotU_eq
                  · intro ρ w' ⟨p1, p2, p3⟩ hS hEE hn
                    simp at hn
                    go_simp
                    exact ⟨appS_refl (by simp) _, rfl⟩
                  apply slotU_eq
                  · intro ρ w' ⟨p1, p2, p3⟩ hS hEE hn
                    obtain ⟨⟨x1, x2, x4⟩, y1⟩ := HCX.out w' hS
                    simp at hn
                    go_simp
                    exact ⟨appS_refl (by simp) _, rfl⟩
                  refine slotU_fact (CopX wc.heap.size q ws) (lasts_copX (by omega)) ?_ ?_
                  · intro ρ w' ⟨p1, p2, p3⟩ hS hEE hn
                    simp at hn
                    go_simp
                    have hsz := hS.size
                    exact got_call (copies_gen ar q cr ws w' HQ.out hxl HXF.out (HWS.out w' hS)) fun e w'' ⟨g, cp, es', he, hex, hr, hb⟩ => ⟨_, he, appS_of (by simp) hb, g, cp, w''.heap.size, rfl, Nat.le_refl _, (hr.inW hex HXF.out).wider hsz (Nat.le_refl _)⟩
                  refine slotU_fact (AggX wc.heap.size q xa true 4 ws) (lasts_aggX (by omega)) ?_ ?_
                  · intro ρ w' ⟨p1, p2, p3⟩ hS hEE hn
                    simp at hn
                    obtain ⟨x76, x79, g, cp, hi, xC, h2, h3⟩ := hn
                    go_simp
                    exact ⟨appS_refl (by simp) _, g, cp, hi, rfl, h2, h3⟩
                  refine slotU_fact (BsX wc.heap.size ob xa true 4 ws) (lasts_bsX (by omega)) ?_ ?_
                  · intro ρ w' ⟨p1, p2, p3⟩ hS hEE hn
                    simp at hn
                    obtain ⟨g, cp, hi, xA, h2, h3⟩ := hn
                    go_simp
                    have hsz := hS.size
                    have hal : Below w'.heap.size w' (w'.alloc (.cells #[.int .i64 (xa), .bool true, .int .i64 (4), .slice (some ⟨g, 0, none⟩) q cp] 50)) := (Below.refl _ _).alloc (Nat.le_refl _) _
                    exact ⟨appS_alloc (by simp) _ _, w'.heap.size, g, cp, hi, rfl, by omega, by simp, evX_cells w' _ _ _ ws g cp _ hi q HQ.out, Nat.le_trans h2 hal.size, h3.below h2 hal⟩
                  refine slotU_fact (AppX w.heap.size es ⟨xa, true, 4, ws⟩) lasts_appX ?_ ?_
                  · intro ρ w' ⟨p1, p2, p3⟩ hS hEE hn
                    have hrow := hEE rfl
                    have hsz := hS.size
                    have hwz : w.heap.size ≤ w'.heap.size := Nat.le_trans HBC.out.size hsz
                    simp at hn
                    obtain ⟨xV, g', g, cp, hi, xB, hg1, hg2, hg3, hg4, hg5⟩ := hn
                    refine got_append (.tmp 74) (.tmp 84) _ rfl w.heap.size 50 i0 (.agg #[.int .i64 0, .bool false, .int .i64 0, .slice none 0 0]) 4 48 Try.underlying26 HI0.out HX0.out.1 HX0.out.2.1 HX0.out.2.2 (by rfl) (by omega) v es.length (es.flatMap evVals) xV hrow.own ⟨g', 0, none⟩ 1 1 (evVals (evX xa true 4 ws (some ⟨g, 0, none⟩) cp wc.heap.size hi)) xB (by rfl) hg3 (evVals_one _) (by omega) (by unfold maxLen; omega) (by omega) hwz _ rfl ?_
                    intro g5 c5 w5 r1 r2 r3 r4
                    refine ⟨appS_grown (by rw [← HOB.out]; exact r2), g5, c5, _, rfl, hrow.more (x := evX xa true 4 ws (some ⟨g, 0, none⟩) cp wc.heap.size hi) ⟨by show w.heap.size ≤ wc.heap.size; exact HBC.out.size, hg4, hg5⟩ (fun gg hgg => ?_) r1 r2 r3, rfl⟩
                    rw [HOB.out] at hgg
                    injection hgg with hgg
                    show gg < wc.heap.size
                    omega
                  refine slotU_end ?_
                  rintro vs w6 hS hF
                  simp at hF
                  obtain ⟨⟨g5, c5, X, x85, hrx, hxe⟩, ⟨yy1, yy2, yy3, yy4, x84, -⟩, ⟨yy5, yy6, yy7, x83, -⟩, ⟨yy8, yy9, yy10, x82, -⟩, x81, x80, x79, x78, x77, x76, x75, x74⟩ := hF
                  rw [x85] at hrx
                  simp only [List.take_succ_cons, List.take_zero, List.drop_succ_cons, List.drop_zero, putAll, x85, x84, x83, x82, x81, x80, x79, x78, x77, x76, x75, x74]
                  clear x85 x84 x83 x82 x81 x80 x79 x78 x77 x76 x75 x74
                  simp only [Act.put, List.setIfInBounds_toArray, List.set_cons_succ, List.set_cons_zero]
                  have HR9 := Lib.hid hrx
                  have HB9 : Hid (Below w.heap.size w w6) := HBC.out.grown hS HBC.out.size fun j hj => by
                    injection hj with hj
                    rw [← hj]
                    exact (HRC.out.own.lt ob HOB.out).1
                  have HE2 : Hid (evsOf (es ++ [X]) = evsTo acs rs (k + 1)) := by
                    show _ = _
                    have h := HE.out
                    have h2 := HEV2.out
                    unfold evsOf at h ⊢
                    rw [HTO.out, hev, if_pos rfl, List.map_append, h, List.map_cons, List.map_nil, hxe, h2]
                  have hl9 : (es ++ [X]).length ≤ k + 1 := by simp; omega
                  clear hrx hS hxe HCX HWS HRC HBC HE HTO
                  go_wp2
                  exact ⟨⟨k + 1, _, es ++ [X], g5, by omega, hl9, by go_num, rfl, Lib.hid rfl, HE2, HR9, HB9⟩, by simp [intOf]; omega⟩
                · have hev : eventB ⟨3, xa, 3, xc, xd, xe⟩ 0 q = true := by simp [eventB, putK, okShow, btw]
                  have HEV2 : Hid ((⟨xa, true, 8, ws⟩ : Ev) = eventE ⟨3, xa, 3, xc, xd, xe⟩ ws) := by
                    show _ = _
                    simp [eventE, putK]
                  go_upto_region 16 with fail
                  refine wp_region_slots_u 12 [[(5, false)], [(7, false)], [(75, true)], [(7, false)], [(77, true)], [(78, true)], [(8, false)], [(80, true)], [(81, true)], [(76, true), (79, true), (82, true)], [(83, true)], [(74, true), (84, true)]] (fun w' => wc.grownBy w' (some ob)) (fun w' => wc.grownBy w' (some ob)) (fun _ w' => wc.grownBy w' (some ob)) (fun d w' => d = some 85 → RowX w' w.heap.size v es) (fun _ => none) (AppS 85 (some ob)) (by kernel_rfl) (by kernel_rfl) (by rfl) ⟨rfl, rfl, rfl, Nat.le_refl _, fun _ _ _ => rfl⟩ (by kernel_rfl) (fun _ _ => HRC.out.below (Below.refl _ _).drew) (fun _ h => by cases h) (fun d d' hd w w' h1 h2 h3 => (h1 h3).below (appS_below (h3 ▸ hd) h2)) (fun _ _ _ _ _ _ h => by cases h) (fun d _ w w' h1 h2 => grownT h1 (appS_any h2)) (fun _ _ _ h => h) (fun _ _ _ h => h) ?_
                  apply slotU_eq
                  · intro ρ w' ⟨p1, p2, p3⟩ hS hEE hn
                    simp at hn
                    go_simp
                    exact ⟨appS_refl (by simp) _, rfl⟩
                  apply slotU_eq
                  · intro ρ w' ⟨p1, p2, p3⟩ hS hEE hn
                    simp at hn
                    go_simp
                    exact ⟨appS_refl (by simp) _, rfl⟩
                  apply slotU_eq
                  · intro ρ w' ⟨p1, p2, p3⟩ hS hEE hn
                    obtain ⟨⟨x1, x2, x4⟩, y1⟩ := HCX.out w' hS
                    simp at hn
                    go_simp
                    exact ⟨appS_refl (by simp) _, rfl⟩
                  apply slotU_eq
                  · intro ρ w' ⟨p1, p2, p3⟩ hS hEE hn
                    simp at hn
                    go_simp
                    exact ⟨appS_refl (by simp) _, rfl⟩
                  apply slotU_eq
                  · intro ρ w' ⟨p1, p2, p3⟩ hS hEE hn
                    obtain ⟨⟨x1, x2, x4⟩, y1⟩ := HCX.out w' hS
                    simp at hn
                    go_simp
                    exact ⟨appS_refl (by simp) _, rfl⟩
                  apply slotU_eq
                  · intro ρ w' ⟨p1, p2, p3⟩ hS hEE hn
                    simp at hn
                    go_simp
                    exact ⟨appS_refl (by simp) _, rfl⟩
                  apply slotU_eq
                  · intro ρ w' ⟨p1, p2, p3⟩ hS hEE hn
                    simp at hn
                    go_simp
                    exact ⟨appS_refl (by simp) _, rfl⟩
                  apply slotU_eq
                  · intro ρ w' ⟨p1, p2, p3⟩ hS hEE hn
                    obtain ⟨⟨x1, x2, x4⟩, y1⟩ := HCX.out w' hS
                    simp at hn
                    go_simp
                    exact ⟨appS_refl (by simp) _, rfl⟩
                  refine slotU_fact (CopX wc.heap.size q ws) (lasts_copX (by omega)) ?_ ?_
                  · intro ρ w' ⟨p1, p2, p3⟩ hS hEE hn
                    simp at hn
                    go_simp
                    have hsz := hS.size
                    exact got_call (copies_gen ar q cr ws w' HQ.out hxl HXF.out (HWS.out w' hS)) fun e w'' ⟨g, cp, es', he, hex, hr, hb⟩ => ⟨_, he, appS_of (by simp) hb, g, cp, w''.heap.size, rfl, Nat.le_refl _, (hr.inW hex HXF.out).wider hsz (Nat.le_refl _)⟩
                  refine slotU_fact (AggX wc.heap.size q xa true 8 ws) (lasts_aggX (by omega)) ?_ ?_
                  · intro ρ w' ⟨p1, p2, p3⟩ hS hEE hn
                    simp at hn
                    obtain ⟨x76, x79, g, cp, hi, xC, h2, h3⟩ := hn
                    go_simp
                    exact ⟨appS_refl (by simp) _, g, cp, hi, rfl, h2, h3⟩
                  refine slotU_fact (BsX wc.heap.size ob xa true 8 ws) (lasts_bsX (by omega)) ?_ ?_
                  · intro ρ w' ⟨p1, p2, p3⟩ hS hEE hn
                    simp at hn
                    obtain ⟨g, cp, hi, xA, h2, h3⟩ := hn
                    go_simp
                    have hsz := hS.size
                    have hal : Below w'.heap.size w' (w'.alloc (.cells #[.int .i64 (xa), .bool true, .int .i64 (8), .slice (some ⟨g, 0, none⟩) q cp] 50)) := (Below.refl _ _).alloc (Nat.le_refl _) _
                    exact ⟨appS_alloc (by simp) _ _, w'.heap.size, g, cp, hi, rfl, by omega, by simp, evX_cells w' _ _ _ ws g cp _ hi q HQ.out, Nat.le_trans h2 hal.size, h3.below h2 hal⟩
                  refine slotU_fact (AppX w.heap.size es ⟨xa, true, 8, ws⟩) lasts_appX ?_ ?_
                  · intro ρ w' ⟨p1, p2, p3⟩ hS hEE hn
                    have hrow := hEE rfl
                    have hsz := hS.size
                    have hwz : w.heap.size ≤ w'.heap.size := Nat.le_trans HBC.out.size hsz
                    simp at hn
                    obtain ⟨xV, g', g, cp, hi, xB, hg1, hg2, hg3, hg4, hg5⟩ := hn
                    refine got_append (.tmp 74) (.tmp 84) _ rfl w.heap.size 50 i0 (.agg #[.int .i64 0, .bool false, .int .i64 0, .slice none 0 0]) 4 48 Try.underlying26 HI0.out HX0.out.1 HX0.out.2.1 HX0.out.2.2 (by rfl) (by omega) v es.length (es.flatMap evVals) xV hrow.own ⟨g', 0, none⟩ 1 1 (evVals (evX xa true 8 ws (some ⟨g, 0, none⟩) cp wc.heap.size hi)) xB (by rfl) hg3 (evVals_one _) (by omega) (by unfold maxLen; omega) (by omega) hwz _ rfl ?_
                    intro g5 c5 w5 r1 r2 r3 r4
                    refine ⟨appS_grown (by rw [← HOB.out]; exact r2), g5, c5, _, rfl, hrow.more (x := evX xa true 8 ws (some ⟨g, 0, none⟩) cp wc.heap.size hi) ⟨by show w.heap.size ≤ wc.heap.size; exact HBC.out.size, hg4, hg5⟩ (fun gg hgg => ?_) r1 r2 r3, rfl⟩
                    rw [HOB.out] at hgg
                    injection hgg with hgg
                    show gg < wc.heap.size
                    omega
                  refine slotU_end ?_
                  rintro vs w6 hS hF
                  simp at hF
                  obtain ⟨⟨g5, c5, X, x85, hrx, hxe⟩, ⟨yy1, yy2, yy3, yy4, x84, -⟩, ⟨yy5, yy6, yy7, x83, -⟩, ⟨yy8, yy9, yy10, x82, -⟩, x81, x80, x79, x78, x77, x76, x75, x74⟩ := hF
                  rw [x85] at hrx
                  simp only [List.take_succ_cons, List.take_zero, List.drop_succ_cons, List.drop_zero, putAll, x85, x84, x83, x82, x81, x80, x79, x78, x77, x76, x75, x74]
                  clear x85 x84 x83 x82 x81 x80 x79 x78 x77 x76 x75 x74
                  simp only [Act.put, List.setIfInBounds_toArray, List.set_cons_succ, List.set_cons_zero]
                  have HR9 := Lib.hid hrx
                  have HB9 : Hid (Below w.heap.size w w6) := HBC.out.grown hS HBC.out.size fun j hj => by
                    injection hj with hj
                    rw [← hj]
                    exact (HRC.out.own.lt ob HOB.out).1
                  have HE2 : Hid (evsOf (es ++ [X]) = evsTo acs rs (k + 1)) := by
                    show _ = _
                    have h := HE.out
                    have h2 := HEV2.out
                    unfold evsOf at h ⊢
                    rw [HTO.out, hev, if_pos rfl, List.map_append, h, List.map_cons, List.map_nil, hxe, h2]
                  have hl9 : (es ++ [X]).length ≤ k + 1 := by simp; omega
                  clear hrx hS hxe HCX HWS HRC HBC HE HTO
                  go_wp2
                  exact ⟨⟨k + 1, _, es ++ [X], g5, by omega, hl9, by go_num, rfl, Lib.hid rfl, HE2, HR9, HB9⟩, by simp [intOf]; omega⟩
                · have hev : eventB ⟨3, xa, 4, xc, xd, xe⟩ 0 q = true := by simp [eventB, putK, okShow, btw]
                  have HEV2 : Hid ((⟨xa, true, 16, ws⟩ : Ev) = eventE ⟨3, xa, 4, xc, xd, xe⟩ ws) := by
                    show _ = _
                    simp [eventE, putK]
                  go_upto_region 16 with fail
                  refine wp_region_slots_u 12 [[(5, false)], [(7, false)], [(75, true)], [(7, false)], [(77, true)], [(78, true)], [(8, false)], [(80, true)], [(81, true)], [(76, true), (79, true), (82, true)], [(83, true)], [(74, true), (84, true)]] (fun w' => wc.grownBy w' (some ob)) (fun w' => wc.grownBy w' (some ob)) (fun _ w' => wc.grownBy w' (some ob)) (fun d w' => d = some 85 → RowX w' w.heap.size v es) (fun _ => none) (AppS 85 (some ob)) (by kernel_rfl) (by kernel_rfl) (by rfl) ⟨rfl, rfl, rfl, Nat.le_refl _, fun _ _ _ => rfl⟩ (by kernel_rfl) (fun _ _ => HRC.out.below (Below.refl _ _).drew) (fun _ h => by cases h) (fun d d' hd w w' h1 h2 h3 => (h1 h3).below (appS_below (h3 ▸ hd) h2)) (fun _ _ _ _ _ _ h => by cases h) (fun d _ w w' h1 h2 => grownT h1 (appS_any h2)) (fun _ _ _ h => h) (fun _ _ _ h => h) ?_
                  apply slotU_eq
                  · intro ρ w' ⟨p1, p2, p3⟩ hS hEE hn
                    simp at hn
                    go_simp
                    exact ⟨appS_refl (by simp) _, rfl⟩
                  apply slotU_eq
                  · intro ρ w' ⟨p1, p2, p3⟩ hS hEE hn
                    simp at hn
                    go_simp
                    exact ⟨appS_refl (by simp) _, rfl⟩
                  apply slotU_eq
                  · intro ρ w' ⟨p1, p2, p3⟩ hS hEE hn
                    obtain ⟨⟨x1, x2, x4⟩, y1⟩ := HCX.out w' hS
                    simp at hn
                    go_simp
                    exact ⟨appS_refl (by simp) _, rfl⟩
                  apply slotU_eq
                  · intro ρ w' ⟨p1, p2, p3⟩ hS hEE hn
                    simp at hn
                    go_simp
                    exact ⟨appS_refl (by simp) _, rfl⟩
                  apply slotU_eq
                  · intro ρ w' ⟨p1, p2, p3⟩ hS hEE hn
                    obtain ⟨⟨x1, x2, x4⟩, y1⟩ := HCX.out w' hS
                    simp at hn
                    go_simp
                    exact ⟨appS_refl (by simp) _, rfl⟩
                  apply slotU_eq
                  · intro ρ w' ⟨p1, p2, p3⟩ hS hEE hn
                    simp at hn
                    go_simp
                    exact ⟨appS_refl (by simp) _, rfl⟩
                  apply slotU_eq
                  · intro ρ w' ⟨p1, p2, p3⟩ hS hEE hn
                    simp at hn
                    go_simp
                    exact ⟨appS_refl (by simp) _, rfl⟩
                  apply slotU_eq
                  · intro ρ w' ⟨p1, p2, p3⟩ hS hEE hn
                    obtain ⟨⟨x1, x2, x4⟩, y1⟩ := HCX.out w' hS
                    simp at hn
                    go_simp
                    exact ⟨appS_refl (by simp) _, rfl⟩
                  refine slotU_fact (CopX wc.heap.size q ws) (lasts_copX (by omega)) ?_ ?_
                  · intro ρ w' ⟨p1, p2, p3⟩ hS hEE hn
                    simp at hn
                    go_simp
                    have hsz := hS.size
                    exact got_call (copies_gen ar q cr ws w' HQ.out hxl HXF.out (HWS.out w' hS)) fun e w'' ⟨g, cp, es', he, hex, hr, hb⟩ => ⟨_, he, appS_of (by simp) hb, g, cp, w''.heap.size, rfl, Nat.le_refl _, (hr.inW hex HXF.out).wider hsz (Nat.le_refl _)⟩
                  refine slotU_fact (AggX wc.heap.size q xa true 16 ws) (lasts_aggX (by omega)) ?_ ?_
                  · intro ρ w' ⟨p1, p2, p3⟩ hS hEE hn
                    simp at hn
                    obtain ⟨x76, x79, g, cp, hi, xC, h2, h3⟩ := hn
                    go_simp
                    exact ⟨appS_refl (by simp) _, g, cp, hi, rfl, h2, h3⟩
                  refine slotU_fact (BsX wc.heap.size ob xa true 16 ws) (lasts_bsX (by omega)) ?_ ?_
                  · intro ρ w' ⟨p1, p2, p3⟩ hS hEE hn
                    simp at hn
                    obtain ⟨g, cp, hi, xA, h2, h3⟩ := hn
                    go_simp
                    have hsz := hS.size
                    have hal : Below w'.heap.size w' (w'.alloc (.cells #[.int .i64 (xa), .bool true, .int .i64 (16), .slice (some ⟨g, 0, none⟩) q cp] 50)) := (Below.refl _ _).alloc (Nat.le_refl _) _
                    exact ⟨appS_alloc (by simp) _ _, w'.heap.size, g, cp, hi, rfl, by omega, by simp, evX_cells w' _ _ _ ws g cp _ hi q HQ.out, Nat.le_trans h2 hal.size, h3.below h2 hal⟩
                  refine slotU_fact (AppX w.heap.size es ⟨xa, true, 16, ws⟩) lasts_appX ?_ ?_
                  · intro ρ w' ⟨p1, p2, p3⟩ hS hEE hn
                    have hrow := hEE rfl
                    have hsz := hS.size
                    have hwz : w.heap.size ≤ w'.heap.size := Nat.le_trans HBC.out.size hsz
                    simp at hn
                    obtain ⟨xV, g', g, cp, hi, xB, hg1, hg2, hg3, hg4, hg5⟩ := hn
                    refine got_append (.tmp 74) (.tmp 84) _ rfl w.heap.size 50 i0 (.agg #[.int .i64 0, .bool false, .int .i64 0, .slice none 0 0]) 4 48 Try.underlying26 HI0.out HX0.out.1 HX0.out.2.1 HX0.out.2.2 (by rfl) (by omega) v es.length (es.flatMap evVals) xV hrow.own ⟨g', 0, none⟩ 1 1 (evVals (evX xa true 16 ws (some ⟨g, 0, none⟩) cp wc.heap.size hi)) xB (by rfl) hg3 (evVals_one _) (by omega) (by unfold maxLen; omega) (by omega) hwz _ rfl ?_
                    intro g5 c5 w5 r1 r2 r3 r4
                    refine ⟨appS_grown (by rw [← HOB.out]; exact r2), g5, c5, _, rfl, hrow.more (x := evX xa true 16 ws (some ⟨g, 0, none⟩) cp wc.heap.size hi) ⟨by show w.heap.size ≤ wc.heap.size; exact HBC.out.size, hg4, hg5⟩ (fun gg hgg => ?_) r1 r2 r3, rfl⟩
                    rw [HOB.out] at hgg
                    injection hgg with hgg
                    show gg < wc.heap.size
                    omega
                  refine slotU_end ?_
                  rintro vs w6 hS hF
                  simp at hF
                  obtain ⟨⟨g5, c5, X, x85, hrx, hxe⟩, ⟨yy1, yy2, yy3, yy4, x84, -⟩, ⟨yy5, yy6, yy7, x83, -⟩, ⟨yy8, yy9, yy10, x82, -⟩, x81, x80, x79, x78, x77, x76, x75, x74⟩ := hF
                  rw [x85] at hrx
                  simp only [List.take_succ_cons, List.take_zero, List.drop_succ_cons, List.drop_zero, putAll, x85, x84, x83, x82, x81, x80, x79, x78, x77, x76, x75, x74]
                  clear x85 x84 x83 x82 x81 x80 x79 x78 x77 x76 x75 x74
                  simp only [Act.put, List.setIfInBounds_toArray, List.set_cons_succ, List.set_cons_zero]
                  have HR9 := Lib.hid hrx
                  have HB9 : Hid (Below w.heap.size w w6) := HBC.out.grown hS HBC.out.size fun j hj => by
                    injection hj with hj
                    rw [← hj]
                    exact (HRC.out.own.lt ob HOB.out).1
                  have HE2 : Hid (evsOf (es ++ [X]) = evsTo acs rs (k + 1)) := by
                    show _ = _
                    have h := HE.out
                    have h2 := HEV2.out
                    unfold evsOf at h ⊢
                    rw [HTO.out, hev, if_pos rfl, List.map_append, h, List.map_cons, List.map_nil, hxe, h2]
                  have hl9 : (es ++ [X]).length ≤ k + 1 := by simp; omega
                  clear hrx hS hxe HCX HWS HRC HBC HE HTO
                  go_wp2
                  exact ⟨⟨k + 1, _, es ++ [X], g5, by omega, hl9, by go_num, rfl, Lib.hid rfl, HE2, HR9, HB9⟩, by simp [intOf]; omega⟩
                · have hev : eventB ⟨3, xa, 5, xc, xd, xe⟩ 0 q = true := by simp [eventB, putK, okShow, btw]
                  have HEV2 : Hid ((⟨xa, true, 32, ws⟩ : Ev) = eventE ⟨3, xa, 5, xc, xd, xe⟩ ws) := by
                    show _ = _
                    simp [eventE, putK]
                  go_upto_region 16 with fail
                  refine wp_region_slots_u 12 [[(5, false)], [(7, false)], [(75, true)], [(7, false)], [(77, true)], [(78, true)], [(8, false)], [(80, true)], [(81, true)], [(76, true), (79, true), (82, true)], [(83, true)], [(74, true), (84, true)]] (fun w' => wc.grownBy w' (some ob)) (fun w' => wc.grownBy w' (some ob)) (fun _ w' => wc.grownBy w' (some ob)) (fun d w' => d = some 85 → RowX w' w.heap.size v es) (fun _ => none) (AppS 85 (some ob)) (by kernel_rfl) (by kernel_rfl) (by rfl) ⟨rfl, rfl, rfl, Nat.le_refl _, fun _ _ _ => rfl⟩ (by kernel_rfl) (fun _ _ => HRC.out.below (Below.refl _ _).drew) (fun _ h => by cases h) (fun d d' hd w w' h1 h2 h3 => (h1 h3).below (appS_below (h3 ▸ hd) h2)) (fun _ _ _ _ _ _ h => by cases h) (fun d _ w w' h1 h2 => grownT h1 (appS_any h2)) (fun _ _ _ h => h) (fun _ _ _ h => h) ?_
                  apply slotU_eq
                  · intro ρ w' ⟨p1, p2, p3⟩ hS hEE hn
                    simp at hn
                    go_simp
                    exact ⟨appS_refl (by simp) _, rfl⟩
                  apply slotU_eq
                  · intro ρ w' ⟨p1, p2, p3⟩ hS hEE hn
                    simp at hn
                    go_simp
                    exact ⟨appS_refl (by simp) _, rfl⟩
                  apply slotU_eq
                  · intro ρ w' ⟨p1, p2, p3⟩ hS hEE hn
                    obtain ⟨⟨x1, x2, x4⟩, y1⟩ := HCX.out w' hS
                    simp at hn
                    go_simp
                    exact ⟨appS_refl (by simp) _, rfl⟩
                  apply slotU_eq
                  · intro ρ w' ⟨p1, p2, p3⟩ hS hEE hn
                    simp at hn
                    go_simp
                    exact ⟨appS_refl (by simp) _, rfl⟩
                  apply slotU_eq
                  · intro ρ w' ⟨p1, p2, p3⟩ hS hEE hn
                    obtain ⟨⟨x1, x2, x4⟩, y1⟩ := HCX.out w' hS
                    simp at hn
                    go_simp
                    exact ⟨appS_refl (by simp) _, rfl⟩
                  apply slotU_eq
                  · intro ρ w' ⟨p1, p2, p3⟩ hS hEE hn
                    simp at hn
                    go_simp
                    exact ⟨appS_refl (by simp) _, rfl⟩
                  apply slotU_eq
                  · intro ρ w' ⟨p1, p2, p3⟩ hS hEE hn
                    simp at hn
                    go_simp
                    exact ⟨appS_refl (by simp) _, rfl⟩
                  apply slotU_eq
                  · intro ρ w' ⟨p1, p2, p3⟩ hS hEE hn
                    obtain ⟨⟨x1, x2, x4⟩, y1⟩ := HCX.out w' hS
                    simp at hn
                    go_simp
                    exact ⟨appS_refl (by simp) _, rfl⟩
                  refine slotU_fact (CopX wc.heap.size q ws) (lasts_copX (by omega)) ?_ ?_
                  · intro ρ w' ⟨p1, p2, p3⟩ hS hEE hn
                    simp at hn
                    go_simp
                    have hsz := hS.size
                    exact got_call (copies_gen ar q cr ws w' HQ.out hxl HXF.out (HWS.out w' hS)) fun e w'' ⟨g, cp, es', he, hex, hr, hb⟩ => ⟨_, he, appS_of (by simp) hb, g, cp, w''.heap.size, rfl, Nat.le_refl _, (hr.inW hex HXF.out).wider hsz (Nat.le_refl _)⟩
                  refine slotU_fact (AggX wc.heap.size q xa true 32 ws) (lasts_aggX (by omega)) ?_ ?_
                  · intro ρ w' ⟨p1, p2, p3⟩ hS hEE hn
                    simp at hn
                    obtain ⟨x76, x79, g, cp, hi, xC, h2, h3⟩ := hn
                    go_simp
                    exact ⟨appS_refl (by simp) _, g, cp, hi, rfl, h2, h3⟩
                  refine slotU_fact (BsX wc.heap.size ob xa true 32 ws) (lasts_bsX (by omega)) ?_ ?_
                  · intro ρ w' ⟨p1, p2, p3⟩ hS hEE hn
                    simp at hn
                    obtain ⟨g, cp, hi, xA, h2, h3⟩ := hn
                    go_simp
                    have hsz := hS.size
                    have hal : Below w'.heap.size w' (w'.alloc (.cells #[.int .i64 (xa), .bool true, .int .i64 (32), .slice (some ⟨g, 0, none⟩) q cp] 50)) := (Below.refl _ _).alloc (Nat.le_refl _) _
                    exact ⟨appS_alloc (by simp) _ _, w'.heap.size, g, cp, hi, rfl, by omega, by simp, evX_cells w' _ _ _ ws g cp _ hi q HQ.out, Nat.le_trans h2 hal.size, h3.below h2 hal⟩
                  refine slotU_fact (AppX w.heap.size es ⟨xa, true, 32, ws⟩) lasts_appX ?_ ?_
                  · intro ρ w' ⟨p1, p2, p3⟩ hS hEE hn
                    have hrow := hEE rfl
                    have hsz := hS.size
                    have hwz : w.heap.size ≤ w'.heap.size := Nat.le_trans HBC.out.size hsz
                    simp at hn
                    obtain ⟨xV, g', g, cp, hi, xB, hg1, hg2, hg3, hg4, hg5⟩ := hn
                    refine got_append (.tmp 74) (.tmp 84) _ rfl w.heap.size 50 i0 (.agg #[.int .i64 0, .bool false, .int .i64 0, .slice none 0 0]) 4 48 Try.underlying26 HI0.out HX0.out.1 HX0.out.2.1 HX0.out.2.2 (by rfl) (by omega) v es.length (es.flatMap evVals) xV hrow.own ⟨g', 0, none⟩ 1 1 (evVals (evX xa true 32 ws (some ⟨g, 0, none⟩) cp wc.heap.size hi)) xB (by rfl) hg3 (evVals_one _) (by omega) (by unfold maxLen; omega) (by omega) hwz _ rfl ?_
                    intro g5 c5 w5 r1 r2 r3 r4
                    refine ⟨appS_grown (by rw [← HOB.out]; exact r2), g5, c5, _, rfl, hrow.more (x := evX xa true 32 ws (some ⟨g, 0, none⟩) cp wc.heap.size hi) ⟨by show w.heap.size ≤ wc.heap.size; exact HBC.out.size, hg4, hg5⟩ (fun gg hgg => ?_) r1 r2 r3, rfl⟩
                    rw [HOB.out] at hgg
                    injection hgg with hgg
                    show gg < wc.heap.size
                    omega
                  refine slotU_end ?_
                  rintro vs w6 hS hF
                  simp at hF
                  obtain ⟨⟨g5, c5, X, x85, hrx, hxe⟩, ⟨yy1, yy2, yy3, yy4, x84, -⟩, ⟨yy5, yy6, yy7, x83, -⟩, ⟨yy8, yy9, yy10, x82, -⟩, x81, x80, x79, x78, x77, x76, x75, x74⟩ := hF
                  rw [x85] at hrx
                  simp only [List.take_succ_cons, List.take_zero, List.drop_succ_cons, List.drop_zero, putAll, x85, x84, x83, x82, x81, x80, x79, x78, x77, x76, x75, x74]
                  clear x85 x84 x83 x82 x81 x80 x79 x78 x77 x76 x75 x74
                  simp only [Act.put, List.setIfInBounds_toArray, List.set_cons_succ, List.set_cons_zero]
                  have HR9 := Lib.hid hrx
                  have HB9 : Hid (Below w.heap.size w w6) := HBC.out.grown hS HBC.out.size fun j hj => by
                    injection hj with hj
                    rw [← hj]
                    exact (HRC.out.own.lt ob HOB.out).1
                  have HE2 : Hid (evsOf (es ++ [X]) = evsTo acs rs (k + 1)) := by
                    show _ = _
                    have h := HE.out
                    have h2 := HEV2.out
                    unfold evsOf at h ⊢
                    rw [HTO.out, hev, if_pos rfl, List.map_append, h, List.map_cons, List.map_nil, hxe, h2]
                  have hl9 : (es ++ [X]).length ≤ k + 1 := by simp; omega
                  clear hrx hS hxe HCX HWS HRC HBC HE HTO
                  go_wp2
                  exact ⟨⟨k + 1, _, es ++ [X], g5, by omega, hl9, by go_num, rfl, Lib.hid rfl, HE2, HR9, HB9⟩, by simp [intOf]; omega⟩
              · have hbf : btw xb 0 5 = false := by simpa using hb
                have hev : eventB ⟨3, xa, xb, xc, xd, xe⟩ 0 q = false := by simp [eventB, putK, hbf]
                rw [hbf]
                have HE2 : Hid (evsOf es = evsTo acs rs (k + 1)) := by
                  show _ = _
                  rw [HTO.out, hev, if_neg (by simp), List.append_nil]
                  exact HE.out
                go_wp2
                exact ⟨⟨k + 1, v, es, ob, by omega, by omega, by go_num, rfl, HOB, HE2, HRC, HBC⟩, by simp [intOf]; omega⟩
            · have hcb : (rc == 0) = false := by simpa using hc0
              by_cases hc3 : rc = 3
              · subst hc3
                go_wp2_with fail
                refine (key_any xb _).mono ?_
                rintro e wz ⟨rfl, hw⟩
                subst wz
                by_cases hb : btw xb 0 5 = true
                · have hb2 : xb = 0 ∨ xb = 1 ∨ xb = 2 ∨ xb = 3 ∨ xb = 4 ∨ xb = 5 := by
                    unfold btw at hb
                    simp at hb
                    omega
                  rw [hb]
                  clear hb
                  rcases hb2 with rfl | rfl | rfl | rfl | rfl | rfl
                  · have hev : eventB ⟨3, xa, 0, xc, xd, xe⟩ 3 q = true := by simp [eventB, putK, okShow, btw]
                    have HEV2 : Hid ((⟨xa, true, 1, ws⟩ : Ev) = eventE ⟨3, xa, 0, xc, xd, xe⟩ ws) := by
                      show _ = _
                      simp [eventE, putK]
                    go_upto_region 16 with fail
                    refine wp_region_slots_u 12 [[(5, false)], [(7, false)], [(75, true)], [(7, false)], [(77, true)], [(78, true)], [(8, false)], [(80, true)], [(81, true)], [(76, true), (79, true), (82, true)], [(83, true)], [(74, true), (84, true)]] (fun w' => wc.grownBy w' (some ob)) (fun w' => wc.grownBy w' (some ob)) (fun _ w' => wc.grownBy w' (some ob)) (fun d w' => d = some 85 → RowX w' w.heap.size v es) (fun _ => none) (AppS 85 (some ob)) (by kernel_rfl) (by kernel_rfl) (by rfl) ⟨rfl, rfl, rfl, Nat.le_refl _, fun _ _ _ => rfl⟩ (by kernel_rfl) (fun _ _ => HRC.out.below (Below.refl _ _).drew) (fun _ h => by cases h) (fun d d' hd w w' h1 h2 h3 => (h1 h3).below (appS_below (h3 ▸ hd) h2)) (fun _ _ _ _ _ _ h => by cases h) (fun d _ w w' h1 h2 => grownT h1 (appS_any h2)) (fun _ _ _ h => h) (fun _ _ _ h => h) ?_
                    apply slotU_eq
                    · intro ρ w' ⟨p1, p2, p3⟩ hS hEE hn
                      simp at hn
                      go_simp
                      exact ⟨appS_refl (by simp) _, rfl⟩
                    apply slotU_eq
                    · intro ρ w' ⟨p1, p2, p3⟩ hS hEE hn
                      simp at hn
                      go_simp
                      exact ⟨appS_refl (by simp) _, rfl⟩
                    apply slotU_eq
                    · intro ρ w' ⟨p1, p2, p3⟩ hS hEE hn
                      obtain ⟨⟨x1, x2, x4⟩, y1⟩ := HCX.out w' hS
                      simp at hn
                      go_simp
                      exact ⟨appS_refl (by simp) _, rfl⟩
                    apply slotU_eq
                    · intro ρ w' ⟨p1, p2, p3⟩ hS hEE hn
                      simp at hn
                      go_simp
                      exact ⟨appS_refl (by simp) _, rfl⟩
                    apply slotU_eq
                    · intro ρ w' ⟨p1, p2, p3⟩ hS hEE hn
                      obtain ⟨⟨x1, x2, x4⟩, y1⟩ := HCX.out w' hS
                      simp at hn
                      go_simp
                      exact ⟨appS_refl (by simp) _, rfl⟩
                    apply slotU_eq
                    · intro ρ w' ⟨p1, p2, p3⟩ hS hEE hn
                      simp at hn
                      go_simp
                      exact ⟨appS_refl (by simp) _, rfl⟩
                    apply slotU_eq
                    · intro ρ w' ⟨p1, p2, p3⟩ hS hEE hn
                      simp at hn
                      go_simp
                      exact ⟨appS_refl (by simp) _, rfl⟩
                    apply slotU_eq
                    · intro ρ w' ⟨p1, p2, p3⟩ hS hEE hn
                      obtain ⟨⟨x1, x2, x4⟩, y1⟩ := HCX.out w' hS
                      simp at hn
                      go_simp
                      exact ⟨appS_refl (by simp) _, rfl⟩
                    refine slotU_fact (CopX wc.heap.size q ws) (lasts_copX (by omega)) ?_ ?_
                    · intro ρ w' ⟨p1, p2, p3⟩ hS hEE hn
                      simp at hn
                      go_simp
                      have hsz := hS.size
                      exact got_call (copies_gen ar q cr ws w' HQ.out hxl HXF.out (HWS.out w' hS)) fun e w'' ⟨g, cp, es', he, hex, hr, hb⟩ => ⟨_, he, appS_of (by simp) hb, g, cp, w''.heap.size, rfl, Nat.le_refl _, (hr.inW hex HXF.out).wider hsz (Nat.le_refl _)⟩
                    refine slotU_fact (AggX wc.heap.size q xa true 1 ws) (lasts_aggX (by omega)) ?_ ?_
                    · intro ρ w' ⟨p1, p2, p3⟩ hS hEE hn
                      simp at hn
                      obtain ⟨x76, x79, g, cp, hi, xC, h2, h3⟩ := hn
                      go_simp
                      exact ⟨appS_refl (by simp) _, g, cp, hi, rfl, h2, h3⟩
                    refine slotU_fact (BsX wc.heap.size ob xa true 1 ws) (lasts_bsX (by omega)) ?_ ?_
                    · intro ρ w' ⟨p1, p2, p3⟩ hS hEE hn
                      simp at hn
                      obtain ⟨g, cp, hi, xA, h2, h3⟩ := hn
                      go_simp
                      have hsz := hS.size
                      have hal : Below w'.heap.size w' (w'.alloc (.cells #[.int .i64 (xa), .bool true, .int .i64 (1), .slice (some ⟨g, 0, none⟩) q cp] 50)) := (Below.refl _ _).alloc (Nat.le_refl _) _
                      exact ⟨appS_alloc (by simp) _ _, w'.heap.size, g, cp, hi, rfl, by omega, by simp, evX_cells w' _ _ _ ws g cp _ hi q HQ.out, Nat.le_trans h2 hal.size, h3.below h2 hal⟩
                    refine slotU_fact (AppX w.heap.size es ⟨xa, true, 1, ws⟩) lasts_appX ?_ ?_
                    · intro ρ w' ⟨p1, p2, p3⟩ hS hEE hn
                      have hrow := hEE rfl
                      have hsz := hS.size
                      have hwz : w.heap.size ≤ w'.heap.size := Nat.le_trans HBC.out.size hsz
                      simp at hn
                      obtain ⟨xV, g', g, cp, hi, xB, hg1, hg2, hg3, hg4, hg5⟩ := hn
                      refine got_append (.tmp 74) (.tmp 84) _ rfl w.heap.size 50 i0 (.agg #[.int .i64 0, .bool false, .int .i64 0, .slice none 0 0]) 4 48 Try.underlying26 HI0.out HX0.out.1 HX0.out.2.1 HX0.out.2.2 (by rfl) (by omega) v es.length (es.flatMap evVals) xV hrow.own ⟨g', 0, none⟩ 1 1 (evVals (evX xa true 1 ws (some ⟨g, 0, none⟩) cp wc.heap.size hi)) xB (by rfl) hg3 (evVals_one _) (by omega) (by unfold maxLen; omega) (by omega) hwz _ rfl ?_
                      intro g5 c5 w5 r1 r2 r3 r4
                      refine ⟨appS_grown (by rw [← HOB.out]; exact r2), g5, c5, _, rfl, hrow.more (x := evX xa true 1 ws (some ⟨g, 0, none⟩) cp wc.heap.size hi) ⟨by show w.heap.size ≤ wc.heap.size; exact HBC.out.size, hg4, hg5⟩ (fun gg hgg => ?_) r1 r2 r3, rfl⟩
                      rw [HOB.out] at hgg
                      injection hgg with hgg
                      show gg < wc.heap.size
                      omega
                    refine slotU_end ?_
                    rintro vs w6 hS hF
                    simp at hF
                    obtain ⟨⟨g5, c5, X, x85, hrx, hxe⟩, ⟨yy1, yy2, yy3, yy4, x84, -⟩, ⟨yy5, yy6, yy7, x83, -⟩, ⟨yy8, yy9, yy10, x82, -⟩, x81, x80, x79, x78, x77, x76, x75, x74⟩ := hF
                    rw [x85] at hrx
                    simp only [List.take_succ_cons, List.take_zero, List.drop_succ_cons, List.drop_zero, putAll, x85, x84, x83, x82, x81, x80, x79, x78, x77, x76, x75, x74]
                    clear x85 x84 x83 x82 x81 x80 x79 x78 x77 x76 x75 x74
                    simp only [Act.put, List.setIfInBounds_toArray, List.set_cons_succ, List.set_cons_zero]
                    have HR9 := Lib.hid hrx
                    have HB9 : Hid (Below w.heap.size w w6) := HBC.out.grown hS HBC.out.size fun j hj => by
                      injection hj with hj
                      rw [← hj]
                      exact (HRC.out.own.lt ob HOB.out).1
                    have HE2 : Hid (evsOf (es ++ [X]) = evsTo acs rs (k + 1)) := by
                      show _ = _
                      have h := HE.out
                      have h2 := HEV2.out
                      unfold evsOf at h ⊢
                      rw [HTO.out, hev, if_pos rfl, List.map_append, h, List.map_cons, List.map_nil, hxe, h2]
                    have hl9 : (es ++ [X]).length ≤ k + 1 := by simp; omega
                    clear hrx hS hxe HCX HWS HRC HBC HE HTO
                    go_wp2
                    exact ⟨⟨k + 1, _, es ++ [X], g5, by omega, hl9, by go_num, rfl, Lib.hid rfl, HE2, HR9, HB9⟩, by simp [intOf]; omega⟩
                  · have hev : eventB ⟨3, xa, 1, xc, xd, xe⟩ 3 q = true := by simp [eventB, putK, okShow, btw]
                    have HEV2 : Hid ((⟨xa, true, 2, ws⟩ : Ev) = eventE ⟨3, xa, 1, xc, xd, xe⟩ ws) := by
                      show _ = _
                      simp [eventE, putK]
                    go_upto_region 16 with fail
                    refine wp_region_slots_u 12 [[(5, false)], [(7, false)], [(75, true)], [(7, false)], [(77, true)], [(78, true)], [(8, false)], [(80, true)], [(81, true)], [(76, true), (79, true), (82, true)], [(83, true)], [(74, true), (84, true)]] (fun w' => wc.grownBy w' (some ob)) (fun w' => wc.grownBy w' (some ob)) (fun _ w' => wc.grownBy w' (some ob)) (fun d w' => d = some 85 → RowX w' w.heap.size v es) (fun _ => none) (AppS 85 (some ob)) (by kernel_rfl) (by kernel_rfl) (by rfl) ⟨rfl, rfl, rfl, Nat.le_refl _, fun _ _ _ => rfl⟩ (by kernel_rfl) (fun _ _ => HRC.out.below (Below.refl _ _).drew) (fun _ h => by cases h) (fun d d' hd w w' h1 h2 h3 => (h1 h3).below (appS_below (h3 ▸ hd) h2)) (fun _ _ _ _ _ _ h => by cases h) (fun d _ w w' h1 h2 => grownT h1 (appS_any h2)) (fun _ _ _ h => h) (fun _ _ _ h => h) ?_
                    apply slotU_eq
                    · intro ρ w' ⟨p1, p2, p3⟩ hS hEE hn
                      simp at hn
                      go_simp
                      exact ⟨appS_refl (by simp) _, rfl⟩
                    apply slotU_eq
                    · intro ρ w' ⟨p1, p2, p3⟩ hS hEE hn
                      simp at hn
                      go_simp
                      exact ⟨appS_refl (by simp) _, rfl⟩
                    apply slotU_eq
                    · intro ρ w' ⟨p1, p2, p3⟩ hS hEE hn
                      obtain ⟨⟨x1, x2, x4⟩, y1⟩ := HCX.out w' hS
                      simp at hn
                      go_simp
                      exact ⟨appS_refl (by simp) _, rfl⟩
                    apply slotU_eq
                    · intro ρ w' ⟨p1, p2, p3⟩ hS hEE hn
                      simp at hn
                      go_simp
                      exact ⟨appS_refl (by simp) _, rfl⟩
                    apply slotU_eq
                    · intro ρ w' ⟨p1, p2, p3⟩ hS hEE hn
                      obtain ⟨⟨x1, x2, x4⟩, y1⟩ := HCX.out w' hS
                      simp at hn
                      go_simp
                      exact ⟨appS_refl (by simp) _, rfl⟩
                    apply slotU_eq
                    · intro ρ w' ⟨p1, p2, p3⟩ hS hEE hn
                      simp at hn
                      go_simp
                      exact ⟨appS_refl (by simp) _, rfl⟩
                    apply slotU_eq
                    · intro ρ w' ⟨p1, p2, p3⟩ hS hEE hn
                      simp at hn
                      go_simp
                      exact ⟨appS_refl (by simp) _, rfl⟩
                    apply slotU_eq
                    · intro ρ w' ⟨p1, p2, p3⟩ hS hEE hn
                      obtain ⟨⟨x1, x2, x4⟩, y1⟩ := HCX.out w' hS
                      simp at hn
                      go_simp
                      exact ⟨appS_refl (by simp) _, rfl⟩
                    refine slotU_fact (CopX wc.heap.size q ws) (lasts_copX (by omega)) ?_ ?_
                    · intro ρ w' ⟨p1, p2, p3⟩ hS hEE hn
                      simp at hn
                      go_simp
                      have hsz := hS.size
                      exact got_call (copies_gen ar q cr ws w' HQ.out hxl HXF.out (HWS.out w' hS)) fun e w'' ⟨g, cp, es', he, hex, hr, hb⟩ => ⟨_, he, appS_of (by simp) hb, g, cp, w''.heap.size, rfl, Nat.le_refl _, (hr.inW hex HXF.out).wider hsz (Nat.le_refl _)⟩
                    refine slotU_fact (AggX wc.heap.size q xa true 2 ws) (lasts_aggX (by omega)) ?_ ?_
                    · intro ρ w' ⟨p1, p2, p3⟩ hS hEE hn
                      simp at hn
                      obtain ⟨x76, x79, g, cp, hi, xC, h2, h3⟩ := hn
                      go_simp
                      exact ⟨appS_refl (by simp) _, g, cp, hi, rfl, h2, h3⟩
                    refine slotU_fact (BsX wc.heap.size ob xa true 2 ws) (lasts_bsX (by omega)) ?_ ?_
                    · intro ρ w' ⟨p1, p2, p3⟩ hS hEE hn
                      simp at hn
                      obtain ⟨g, cp, hi, xA, h2, h3⟩ := hn
                      go_simp
                      have hsz := hS.size
                      have hal : Below w'.heap.size w' (w'.alloc (.cells #[.int .i64 (xa), .bool true, .int .i64 (2), .slice (some ⟨g, 0, none⟩) q cp] 50)) := (Below.refl _ _).alloc (Nat.le_refl _) _
                      exact ⟨appS_alloc (by simp) _ _, w'.heap.size, g, cp, hi, rfl, by omega, by simp, evX_cells w' _ _ _ ws g cp _ hi q HQ.out, Nat.le_trans h2 hal.size, h3.below h2 hal⟩
                    refine slotU_fact (AppX w.heap.size es ⟨xa, true, 2, ws⟩) lasts_appX ?_ ?_
                    · intro ρ w' ⟨p1, p2, p3⟩ hS hEE hn
                      have hrow := hEE rfl
                      have hsz := hS.size
                      have hwz : w.heap.size ≤ w'.heap.size := Nat.le_trans HBC.out.size hsz
                      simp at hn
                      obtain ⟨xV, g', g, cp, hi, xB, hg1, hg2, hg3, hg4, hg5⟩ := hn
                      refine got_append (.tmp 74) (.tmp 84) _ rfl w.heap.size 50 i0 (.agg #[.int .i64 0, .bool false, .int .i64 0, .slice none 0 0]) 4 48 Try.underlying26 HI0.out HX0.out.1 HX0.out.2.1 HX0.out.2.2 (by rfl) (by omega) v es.length (es.flatMap evVals) xV hrow.own ⟨g', 0, none⟩ 1 1 (evVals (evX xa true 2 ws (some ⟨g, 0, none⟩) cp wc.heap.size hi)) xB (by rfl) hg3 (evVals_one _) (by omega) (by unfold maxLen; omega) (by omega) hwz _ rfl ?_
                      intro g5 c5 w5 r1 r2 r3 r4
                      refine ⟨appS_grown (by rw [← HOB.out]; exact r2), g5, c5, _, rfl, hrow.more (x := evX xa true 2 ws (some ⟨g, 0, none⟩) cp wc.heap.size hi) ⟨by show w.heap.size ≤ wc.heap.size; exact HBC.out.size, hg4, hg5⟩ (fun gg hgg => ?_) r1 r2 r3, rfl⟩
                      rw [HOB.out] at hgg
                      injection hgg with hgg
                      show gg < wc.heap.size
                      omega
                    refine slotU_end ?_
                    rintro vs w6 hS hF
                    simp at hF
                    obtain ⟨⟨g5, c5, X, x85, hrx, hxe⟩, ⟨yy1, yy2, yy3, yy4, x84, -⟩, ⟨yy5, yy6, yy7, x83, -⟩, ⟨yy8, yy9, yy10, x82, -⟩, x81, x80, x79, x78, x77, x76, x75, x74⟩ := hF
                    rw [x85] at hrx
                    simp only [List.take_succ_cons, List.take_zero, List.drop_succ_cons, List.drop_zero, putAll, x85, x84, x83, x82, x81, x80, x79, x78, x77, x76, x75, x74]
                    clear x85 x84 x83 x82 x81 x80 x79 x78 x77 x76 x75 x74
                    simp only [Act.put, List.setIfInBounds_toArray, List.set_cons_succ, List.set_cons_zero]
                    have HR9 := Lib.hid hrx
                    have HB9 : Hid (Below w.heap.size w w6) := HBC.out.grown hS HBC.out.size fun j hj => by
                      injection hj with hj
                      rw [← hj]
                      exact (HRC.out.own.lt ob HOB.out).1
                    have HE2 : Hid (evsOf (es ++ [X]) = evsTo acs rs (k + 1)) := by
                      show _ = _
                      have h := HE.out
                      have h2 := HEV2.out
                      unfold evsOf at h ⊢
                      rw [HTO.out, hev, if_pos rfl, List.map_append, h, List.map_cons, List.map_nil, hxe, h2]
                    have hl9 : (es ++ [X]).length ≤ k + 1 := by simp; omega
                    clear hrx hS hxe HCX HWS HRC HBC HE HTO
                    go_wp2
                    exact ⟨⟨k + 1, _, es ++ [X], g5, by omega, hl9, by go_num, rfl, Lib.hid rfl, HE2, HR9, HB9⟩, by simp [intOf]; omega⟩
                  · have hev : eventB ⟨3, xa, 2, xc, xd, xe⟩ 3 q = true := by simp [eventB, putK, okShow, btw]
                    have HEV2 : Hid ((⟨xa, true, 4, ws⟩ : Ev) = eventE ⟨3, xa, 2, xc, xd, xe⟩ ws) := by
                      show _ = _
                      simp [eventE, putK]
                    go_upto_region 16 with fail
                    refine wp_region_slots_u 12 [[(5, false)], [(7, false)], [(75, true)], [(7, false)], [(77, true)], [(78, true)], [(8, false)], [(80, true)], [(81, true)], [(76, true), (79, true), (82, true)], [(83, true)], [(74, true), (84, true)]] (fun w' => wc.grownBy w' (some ob)) (fun w' => wc.grownBy w' (some ob)) (fun _ w' => wc.grownBy w' (some ob)) (fun d w' => d = some 85 → RowX w' w.heap.size v es) (fun _ => none) (AppS 85 (some ob)) (by kernel_rfl) (by kernel_rfl) (by rfl) ⟨rfl, rfl, rfl, Nat.le_refl _, fun _ _ _ => rfl⟩ (by kernel_rfl) (fun _ _ => HRC.out.below (Below.refl _ _).drew) (fun _ h => by cases h) (fun d d' hd w w' h1 h2 h3 => (h1 h3).below (appS_below (h3 ▸ hd) h2)) (fun _ _ _ _ _ _ h => by cases h) (fun d _ w w' h1 h2 => grownT h1 (appS_any h2)) (fun _ _ _ h => h) (fun _ _ _ h => h) ?_
                    apply slotU_eq
                    · intro ρ w' ⟨p1, p2, p3⟩ hS hEE hn
                      simp at hn
                      go_simp
                      exact ⟨appS_refl (by simp) _, rfl⟩
                    apply slotU_eq
                    · intro ρ w' ⟨p1, p2, p3⟩ hS hEE hn
                      simp at hn
                      go_simp
                      exact ⟨appS_refl (by simp) _, rfl⟩
                    apply slotU_eq
                    · intro ρ w' ⟨p1, p2, p3⟩ hS hEE hn
                      obtain ⟨⟨x1, x2, x4⟩, y1⟩ := HCX.out w' hS
                      simp at hn
                      go_simp
                      exact ⟨appS_refl (by simp) _, rfl⟩
                    apply slotU_eq
                    · intro ρ w' ⟨p1, p2, p3⟩ hS hEE hn
                      simp at hn
                      go_simp
                      exact ⟨appS_refl (by simp) _, rfl⟩
                    apply slotU_eq
                    · intro ρ w' ⟨p1, p2, p3⟩ hS hEE hn
                      obtain ⟨⟨x1, x2, x4⟩, y1⟩ := HCX.out w' hS
                      simp at hn
                      go_simp
                      exact ⟨appS_refl (by simp) _, rfl⟩
                    apply slotU_eq
                    · intro ρ w' ⟨p1, p2, p3⟩ hS hEE hn
                      simp at hn
                      go_simp
                      exact ⟨appS_refl (by simp) _, rfl⟩
                    apply slotU_eq
                    · intro ρ w' ⟨p1, p2, p3⟩ hS hEE hn
                      simp at hn
                      go_simp
                      exact ⟨appS_refl (by simp) _, rfl⟩
                    apply slotU_eq
                    · intro ρ w' ⟨p1, p2, p3⟩ hS hEE hn
                      obtain ⟨⟨x1, x2, x4⟩, y1⟩ := HCX.out w' hS
                      simp at hn
                      go_simp
                      exact ⟨appS_refl (by simp) _, rfl⟩
                    refine slotU_fact (CopX wc.heap.size q ws) (lasts_copX (by omega)) ?_ ?_
                    · intro ρ w' ⟨p1, p2, p3⟩ hS hEE hn
                      simp at hn
                      go_simp
                      have hsz := hS.size
                      exact got_call (copies_gen ar q cr ws w' HQ.out hxl HXF.out (HWS.out w' hS)) fun e w'' ⟨g, cp, es', he, hex, hr, hb⟩ => ⟨_, he, appS_of (by simp) hb, g, cp, w''.heap.size, rfl, Nat.le_refl _, (hr.inW hex HXF.out).wider hsz (Nat.le_refl _)⟩
                    refine slotU_fact (AggX wc.heap.size q xa true 4 ws) (lasts_aggX (by omega)) ?_ ?_
                    · intro ρ w' ⟨p1, p2, p3⟩ hS hEE hn
                      simp at hn
                      obtain ⟨x76, x79, g, cp, hi, xC, h2, h3⟩ := hn
                      go_simp
                      exact ⟨appS_refl (by simp) _, g, cp, hi, rfl, h2, h3⟩
                    refine slotU_fact (BsX wc.heap.size ob xa true 4 ws) (lasts_bsX (by omega)) ?_ ?_
                    · intro ρ w' ⟨p1, p2, p3⟩ hS hEE hn
                      simp at hn
                      obtain ⟨g, cp, hi, xA, h2, h3⟩ := hn
                      go_simp
                      have hsz := hS.size
                      have hal : Below w'.heap.size w' (w'.alloc (.cells #[.int .i64 (xa), .bool true, .int .i64 (4), .slice (some ⟨g, 0, none⟩) q cp] 50)) := (Below.refl _ _).alloc (Nat.le_refl _) _
                      exact ⟨appS_alloc (by simp) _ _, w'.heap.size, g, cp, hi, rfl, by omega, by simp, evX_cells w' _ _ _ ws g cp _ hi q HQ.out, Nat.le_trans h2 hal.size, h3.below h2 hal⟩
                    refine slotU_fact (AppX w.heap.size es ⟨xa, true, 4, ws⟩) lasts_appX ?_ ?_
                    · intro ρ w' ⟨p1, p2, p3⟩ hS hEE hn
                      have hrow := hEE rfl
                      have hsz := hS.size
                      have hwz : w.heap.size ≤ w'.heap.size := Nat.le_trans HBC.out.size hsz
                      simp at hn
                      obtain ⟨xV, g', g, cp, hi, xB, hg1, hg2, hg3, hg4, hg5⟩ := hn
                      refine got_append (.tmp 74) (.tmp 84) _ rfl w.heap.size 50 i0 (.agg #[.int .i64 0, .bool false, .int .i64 0, .slice none 0 0]) 4 48 Try.underlying26 HI0.out HX0.out.1 HX0.out.2.1 HX0.out.2.2 (by rfl) (by omega) v es.length (es.flatMap evVals) xV hrow.own ⟨g', 0, none⟩ 1 1 (evVals (evX xa true 4 ws (some ⟨g, 0, none⟩) cp wc.heap.size hi)) xB (by rfl) hg3 (evVals_one _) (by omega) (by unfold maxLen; omega) (by omega) hwz _ rfl ?_
                      intro g5 c5 w5 r1 r2 r3 r4
                      refine ⟨appS_grown (by rw [← HOB.out]; exact r2), g5, c5, _, rfl, hrow.more (x := evX xa true 4 ws (some ⟨g, 0, none⟩) cp wc.heap.size hi) ⟨by show w.heap.size ≤ wc.heap.size; exact HBC.out.size, hg4, hg5⟩ (fun gg hgg => ?_) r1 r2 r3, rfl⟩
                      rw [HOB.out] at hgg
                      injection hgg with hgg
                      show gg < wc.heap.size
                      omega
                    refine slotU_end ?_
                    rintro vs w6 hS hF
                    simp at hF
                    obtain ⟨⟨g5, c5, X, x85, hrx, hxe⟩, ⟨yy1, yy2, yy3, yy4, x84, -⟩, ⟨yy5, yy6, yy7, x83, -⟩, ⟨yy8, yy9, yy10, x82, -⟩, x81, x80, x79, x78, x77, x76, x75, x74⟩ := hF
                    rw [x85] at hrx
                    simp only [List.take_succ_cons, List.take_zero, List.drop_succ_cons, List.drop_zero, putAll, x85, x84, x83, x82, x81, x80, x79, x78, x77, x76, x75, x74]
                    clear x85 x84 x83 x82 x81 x80 x79 x78 x77 x76 x75 x74
                    simp only [Act.put, List.setIfInBounds_toArray, List.set_cons_succ, List.set_cons_zero]
                    have HR9 := Lib.hid hrx
                    have HB9 : Hid (Below w.heap.size w w6) := HBC.out.grown hS HBC.out.size fun j hj => by
                      injection hj with hj
                      rw [← hj]
                      exact (HRC.out.own.lt ob HOB.out).1
                    have HE2 : Hid (evsOf (es ++ [X]) = evsTo acs rs (k + 1)) := by
                      show _ = _
                      have h := HE.out
                      have h2 := HEV2.out
                      unfold evsOf at h ⊢
                      rw [HTO.out, hev, if_pos rfl, List.map_append, h, List.map_cons, List.map_nil, hxe, h2]
                    have hl9 : (es ++ [X]).length ≤ k + 1 := by simp; omega
                    clear hrx hS hxe HCX HWS HRC HBC HE HTO
                    go_wp2
                    exact ⟨⟨k + 1, _, es ++ [X], g5, by omega, hl9, by go_num, rfl, Lib.hid rfl, HE2, HR9, HB9⟩, by simp [intOf]; omega⟩
                  · have hev : eventB ⟨3, xa, 3, xc, xd, xe⟩ 3 q = true := by simp [eventB, putK, okShow, btw]
                    have HEV2 : Hid ((⟨xa, true, 8, ws⟩ : Ev) = eventE ⟨3, xa, 3, xc, xd, xe⟩ ws) := by
                      show _ = _
                      simp [eventE, putK]
                    go_upto_region 16 with fail
                    refine wp_region_slots_u 12 [[(5, false)], [(7, false)], [(75, true)], [(7, false)], [(77, true)], [(78, true)], [(8, false)], [(80, true)], [(81, true)], [(76, true), (79, true), (82, true)], [(83, true)], [(74, true), (84, true)]] (fun w' => wc.grownBy w' (some ob)) (fun w' => wc.grownBy w' (some ob)) (fun _ w' => wc.grownBy w' (some ob)) (fun d w' => d = some 85 → RowX w' w.heap.size v es) (fun _ => none) (AppS 85 (some ob)) (by kernel_rfl) (by kernel_rfl) (by rfl) ⟨rfl, rfl, rfl, Nat.le_refl _, fun _ _ _ => rfl⟩ (by kernel_rfl) (fun _ _ => HRC.out.below (Below.refl _ _).drew) (fun _ h => by cases h) (fun d d' hd w w' h1 h2 h3 => (h1 h3).below (appS_below (h3 ▸ hd) h2)) (fun _ _ _ _ _ _ h => by cases h) (fun d _ w w' h1 h2 => grownT h1 (appS_any h2)) (fun _ _ _ h => h) (fun _ _ _ h => h) ?_
                    apply slotU_eq
                    · intro ρ w' ⟨p1, p2, p3⟩ hS hEE hn
                      simp at hn
                      go_simp
                      exact ⟨appS_refl (by simp) _, rfl⟩
                    apply slotU_eq
                    · intro ρ w' ⟨p1, p2, p3⟩ hS hEE hn
                      simp at hn
                      go_simp
                      exact ⟨appS_refl (by simp) _, rfl⟩
                    apply slotU_eq
                    · intro ρ w' ⟨p1, p2, p3⟩ hS hEE hn
                      obtain ⟨⟨x1, x2, x4⟩, y1⟩ := HCX.out w' hS
                      simp at hn
                      go_simp
                      exact ⟨appS_refl (by simp) _, rfl⟩
                    apply slotU_eq
                    · intro ρ w' ⟨p1, p2, p3⟩ hS hEE hn
                      simp at hn
                      go_simp
                      exact ⟨appS_refl (by simp) _, rfl⟩
                    apply slotU_eq
                    · intro ρ w' ⟨p1, p2, p3⟩ hS hEE hn
                      obtain ⟨⟨x1, x2, x4⟩, y1⟩ := HCX.out w' hS
                      simp at hn
                      go_simp
                      exact ⟨appS_refl (by simp) _, rfl⟩
                    apply slotU_eq
                    · intro ρ w' ⟨p1, p2, p3⟩ hS hEE hn
                      simp at hn
                      go_simp
                      exact ⟨appS_refl (by simp) _, rfl⟩
                    apply slotU_eq
                    · intro ρ w' ⟨p1, p2, p3⟩ hS hEE hn
                      simp at hn
                      go_simp
                      exact ⟨appS_refl (by simp) _, rfl⟩
                    apply slotU_eq
                    · intro ρ w' ⟨p1, p2, p3⟩ hS hEE hn
                      obtain ⟨⟨x1, x2, x4⟩, y1⟩ := HCX.out w' hS
                      simp at hn
                      go_simp
                      exact ⟨appS_refl (by simp) _, rfl⟩
                    refine slotU_fact (CopX wc.heap.size q ws) (lasts_copX (by omega)) ?_ ?_
                    · intro ρ w' ⟨p1, p2, p3⟩ hS hEE hn
                      simp at hn
                      go_simp
                      have hsz := hS.size
                      exact got_call (copies_gen ar q cr ws w' HQ.out hxl HXF.out (HWS.out w' hS)) fun e w'' ⟨g, cp, es', he, hex, hr, hb⟩ => ⟨_, he, appS_of (by simp) hb, g, cp, w''.heap.size, rfl, Nat.le_refl _, (hr.inW hex HXF.out).wider hsz (Nat.le_refl _)⟩
                    refine slotU_fact (AggX wc.heap.size q xa true 8 ws) (lasts_aggX (by omega)) ?_ ?_
                    · intro ρ w' ⟨p1, p2, p3⟩ hS hEE hn
                      simp at hn
                      obtain ⟨x76, x79, g, cp, hi, xC, h2, h3⟩ := hn
                      go_simp
                      exact ⟨appS_refl (by simp) _, g, cp, hi, rfl, h2, h3⟩
                    refine slotU_fact (BsX wc.heap.size ob xa true 8 ws) (lasts_bsX (by omega)) ?_ ?_
                    · intro ρ w' ⟨p1, p2, p3⟩ hS hEE hn
                      simp at hn
                      obtain ⟨g, cp, hi, xA, h2, h3⟩ := hn
                      go_simp
                      have hsz := hS.size
                      have hal : Below w'.heap.size w' (w'.alloc (.cells #[.int .i64 (xa), .bool true, .int .i64 (8), .slice (some ⟨g, 0, none⟩) q cp] 50)) := (Below.refl _ _).alloc (Nat.le_refl _) _
                      exact ⟨appS_alloc (by simp) _ _, w'.heap.size, g, cp, hi, rfl, by omega, by simp, evX_cells w' _ _ _ ws g cp _ hi q HQ.out, Nat.le_trans h2 hal.size, h3.below h2 hal⟩
                    refine slotU_fact (AppX w.heap.size es ⟨xa, true, 8, ws⟩) lasts_appX ?_ ?_
                    · intro ρ w' ⟨p1, p2, p3⟩ hS hEE hn
                      have hrow := hEE rfl
                      have hsz := hS.size
                      have hwz : w.heap.size ≤ w'.heap.size := Nat.le_trans HBC.out.size hsz
                      simp at hn
                      obtain ⟨xV, g', g, cp, hi, xB, hg1, hg2, hg3, hg4, hg5⟩ := hn
                      refine got_append (.tmp 74) (.tmp 84) _ rfl w.heap.size 50 i0 (.agg #[.int .i64 0, .bool false, .int .i64 0, .slice none 0 0]) 4 48 Try.underlying26 HI0.out HX0.out.1 HX0.out.2.1 HX0.out.2.2 (by rfl) (by omega) v es.length (es.flatMap evVals) xV hrow.own ⟨g', 0, none⟩ 1 1 (evVals (evX xa true 8 ws (some ⟨g, 0, none⟩) cp wc.heap.size hi)) xB (by rfl) hg3 (evVals_one _) (by omega) (by unfold maxLen; omega) (by omega) hwz _ rfl ?_
                      intro g5 c5 w5 r1 r2 r3 r4
                      refine ⟨appS_grown (by rw [← HOB.out]; exact r2), g5, c5, _, rfl, hrow.more (x := evX xa true 8 ws (some ⟨g, 0, none⟩) cp wc.heap.size hi) ⟨by show w.heap.size ≤ wc.heap.size; exact HBC.out.size, hg4, hg5⟩ (fun gg hgg => ?_) r1 r2 r3, rfl⟩
                      rw [HOB.out] at hgg
                      injection hgg with hgg
                      show gg < wc.heap.size
                      omega
                    refine slotU_end ?_
                    rintro vs w6 hS hF
                    simp at hF
                    obtain ⟨⟨g5, c5, X, x85, hrx, hxe⟩, ⟨yy1, yy2, yy3, yy4, x84, -⟩, ⟨yy5, yy6, yy7, x83, -⟩, ⟨yy8, yy9, yy10, x82, -⟩, x81, x80, x79, x78, x77, x76, x75, x74⟩ := hF
                    rw [x85] at hrx
                    simp only [List.take_succ_cons, List.take_zero, List.drop_succ_cons, List.drop_zero, putAll, x85, x84, x83, x82, x81, x80, x79, x78, x77, x76, x75, x74]
                    clear x85 x84 x83 x82 x81 x80 x79 x78 x77 x76 x75 x74
                    simp only [Act.put, List.setIfInBounds_toArray, List.set_cons_succ, List.set_cons_zero]
                    have HR9 := Lib.hid hrx
                    have HB9 : Hid (Below w.heap.size w w6) := HBC.out.grown hS HBC.out.size fun j hj => by
                      injection hj with hj
                      rw [← hj]
                      exact (HRC.out.own.lt ob HOB.out).1
                    have HE2 : Hid (evsOf (es ++ [X]) = evsTo acs rs (k + 1)) := by
                      show _ = _
                      have h := HE.out
                      have h2 := HEV2.out
                      unfold evsOf at h ⊢
                      rw [HTO.out, hev, if_pos rfl, List.map_append, h, List.map_cons, List.map_nil, hxe, h2]
                    have hl9 : (es ++ [X]).length ≤ k + 1 := by simp; omega
                    clear hrx hS hxe HCX HWS HRC HBC HE HTO
                    go_wp2
                    exact ⟨⟨k + 1, _, es ++ [X], g5, by omega, hl9, by go_num, rfl, Lib.hid rfl, HE2, HR9, HB9⟩, by simp [intOf]; omega⟩
                  · have hev : eventB ⟨3, xa, 4, xc, xd, xe⟩ 3 q = true := by simp [eventB, putK, okShow, btw]
                    have HEV2 : Hid ((⟨xa, true, 16, ws⟩ : Ev) = eventE ⟨3, xa, 4, xc, xd, xe⟩ ws) := by
                      show _ = _
                      simp [eventE, putK]
                    go_upto_region 16 with fail
                    refine wp_region_slots_u 12 [[(5, false)], [(7, false)], [(75, true)], [(7, false)], [(77, true)], [(78, true)], [(8, false)], [(80, true)], [(81, true)], [(76, true), (79, true), (82, true)], [(83, true)], [(74, true), (84, true)]] (fun w' => wc.grownBy w' (some ob)) (fun w' => wc.grownBy w' (some ob)) (fun _ w' => wc.grownBy w' (some ob)) (fun d w' => d = some 85 → RowX w' w.heap.size v es) (fun _ => none) (AppS 85 (some ob)) (by kernel_rfl) (by kernel_rfl) (by rfl) ⟨rfl, rfl, rfl, Nat.le_refl _, fun _ _ _ => rfl⟩ (by kernel_rfl) (fun _ _ => HRC.out.below (Below.refl _ _).drew) (fun _ h => by cases h) (fun d d' hd w w' h1 h2 h3 => (h1 h3).below (appS_below (h3 ▸ hd) h2)) (fun _ _ _ _ _ _ h => by cases h) (fun d _ w w' h1 h2 => grownT h1 (appS_any h2)) (fun _ _ _ h => h) (fun _ _ _ h => h) ?_
                    apply slotU_eq
                    · intro ρ w' ⟨p1, p2, p3⟩ hS hEE hn
                      simp at hn
                      go_simp
                      exact ⟨appS_refl (by simp) _, rfl⟩
                    apply slotU_eq
                    · intro ρ w' ⟨p1, p2, p3⟩ hS hEE hn
                      simp at hn
                      go_simp
                      exact ⟨appS_refl (by simp) _, rfl⟩
                    apply slotU_eq
                    · intro ρ w' ⟨p1, p2, p3⟩ hS hEE hn
                      obtain ⟨⟨x1, x2, x4⟩, y1⟩ := HCX.out w' hS
                      simp at hn
                      go_simp
                      exact ⟨appS_refl (by simp) _, rfl⟩
                    apply slotU_eq
                    · intro ρ w' ⟨p1, p2, p3⟩ hS hEE hn
                      simp at hn
                      go_simp
                      exact ⟨appS_refl (by simp) _, rfl⟩
                    apply slotU_eq
                    · intro ρ w' ⟨p1, p2, p3⟩ hS hEE hn
                      obtain ⟨⟨x1, x2, x4⟩, y1⟩ := HCX.out w' hS
                      simp at hn
                      go_simp
                      exact ⟨appS_refl (by simp) _, rfl⟩
                    apply slotU_eq
                    · intro ρ w' ⟨p1, p2, p3⟩ hS hEE hn
                      simp at hn
                      go_simp
                      exact ⟨appS_refl (by simp) _, rfl⟩
                    apply slotU_eq
                    · intro ρ w' ⟨p1, p2, p3⟩ hS hEE hn
                      simp at hn
                      go_simp
                      exact ⟨appS_refl (by simp) _, rfl⟩
                    apply slotU_eq
                    · intro ρ w' ⟨p1, p2, p3⟩ hS hEE hn
                      obtain ⟨⟨x1, x2, x4⟩, y1⟩ := HCX.out w' hS
                      simp at hn
                      go_simp
                      exact ⟨appS_refl (by simp) _, rfl⟩
                    refine slotU_fact (CopX wc.heap.size q ws) (lasts_copX (by omega)) ?_ ?_
                    · intro ρ w' ⟨p1, p2, p3⟩ hS hEE hn
                      simp at hn
                      go_simp
                      have hsz := hS.size
                      exact got_call (copies_gen ar q cr ws w' HQ.out hxl HXF.out (HWS.out w' hS)) fun e w'' ⟨g, cp, es', he, hex, hr, hb⟩ => ⟨_, he, appS_of (by simp) hb, g, cp, w''.heap.size, rfl, Nat.le_refl _, (hr.inW hex HXF.out).wider hsz (Nat.le_refl _)⟩
                    refine slotU_fact (AggX wc.heap.size q xa true 16 ws) (lasts_aggX (by omega)) ?_ ?_
                    · intro ρ w' ⟨p1, p2, p3⟩ hS hEE hn
                      simp at hn
                      obtain ⟨x76, x79, g, cp, hi, xC, h2, h3⟩ := hn
                      go_simp
                      exact ⟨appS_refl (by simp) _, g, cp, hi, rfl, h2, h3⟩
                    refine slotU_fact (BsX wc.heap.size ob xa true 16 ws) (lasts_bsX (by omega)) ?_ ?_
                    · intro ρ w' ⟨p1, p2, p3⟩ hS hEE hn
                      simp at hn
                      obtain ⟨g, cp, hi, xA, h2, h3⟩ := hn
                      go_simp
                      have hsz := hS.size
                      have hal : Below w'.heap.size w' (w'.alloc (.cells #[.int .i64 (xa), .bool true, .int .i64 (16), .slice (some ⟨g, 0, none⟩) q cp] 50)) := (Below.refl _ _).alloc (Nat.le_refl _) _
                      exact ⟨appS_alloc (by simp) _ _, w'.heap.size, g, cp, hi, rfl, by omega, by simp, evX_cells w' _ _ _ ws g cp _ hi q HQ.out, Nat.le_trans h2 hal.size, h3.below h2 hal⟩
                    refine slotU_fact (AppX w.heap.size es ⟨xa, true, 16, ws⟩) lasts_appX ?_ ?_
                    · intro ρ w' ⟨p1, p2, p3⟩ hS hEE hn
                      have hrow := hEE rfl
                      have hsz := hS.size
                      have hwz : w.heap.size ≤ w'.heap.size := Nat.le_trans HBC.out.size hsz
                      simp at hn
                      obtain ⟨xV, g', g, cp, hi, xB, hg1, hg2, hg3, hg4, hg5⟩ := hn
                      refine got_append (.tmp 74) (.tmp 84) _ rfl w.heap.size 50 i0 (.agg #[.int .i64 0, .bool false, .int .i64 0, .slice none 0 0]) 4 48 Try.underlying26 HI0.out HX0.out.1 HX0.out.2.1 HX0.out.2.2 (by rfl) (by omega) v es.length (es.flatMap evVals) xV hrow.own ⟨g', 0, none⟩ 1 1 (evVals (evX xa true 16 ws (some ⟨g, 0, none⟩) cp wc.heap.size hi)) xB (by rfl) hg3 (evVals_one _) (by omega) (by unfold maxLen; omega) (by omega) hwz _ rfl ?_
                      intro g5 c5 w5 r1 r2 r3 r4
                      refine ⟨appS_grown (by rw [← HOB.out]; exact r2), g5, c5, _, rfl, hrow.more (x := evX xa true 16 ws (some ⟨g, 0, none⟩) cp wc.heap.size hi) ⟨by show w.heap.size ≤ wc.heap.size; exact HBC.out.size, hg4, hg5⟩ (fun gg hgg => ?_) r1 r2 r3, rfl⟩
                      rw [HOB.out] at hgg
                      injection hgg with hgg
                      show gg < wc.heap.size
                      omega
                    refine slotU_end ?_
                    rintro vs w6 hS hF
                    simp at hF
                    obtain ⟨⟨g5, c5, X, x85, hrx, hxe⟩, ⟨yy1, yy2, yy3, yy4, x84, -⟩, ⟨yy5, yy6, yy7, x83, -⟩, ⟨yy8, yy9, yy10, x82, -⟩, x81, x80, x79, x78, x77, x76, x75, x74⟩ := hF
                    rw [x85] at hrx
                    simp only [List.take_succ_cons, List.take_zero, List.drop_succ_cons, List.drop_zero, putAll, x85, x84, x83, x82, x81, x80, x79, x78, x77, x76, x75, x74]
                    clear x85 x84 x83 x82 x81 x80 x79 x78 x77 x76 x75 x74
                    simp only [Act.put, List.setIfInBounds_toArray, List.set_cons_succ, List.set_cons_zero]
                    have HR9 := Lib.hid hrx
                    have HB9 : Hid (Below w.heap.size w w6) := HBC.out.grown hS HBC.out.size fun j hj => by
                      injection hj with hj
                      rw [← hj]
                      exact (HRC.out.own.lt ob HOB.out).1
                    have HE2 : Hid (evsOf (es ++ [X]) = evsTo acs rs (k + 1)) := by
                      show _ = _
                      have h := HE.out
                      have h2 := HEV2.out
                      unfold evsOf at h ⊢
                      rw [HTO.out, hev, if_pos rfl, List.map_append, h, List.map_cons, List.map_nil, hxe, h2]
                    have hl9 : (es ++ [X]).length ≤ k + 1 := by simp; omega
                    clear hrx hS hxe HCX HWS HRC HBC HE HTO
                    go_wp2
                    exact ⟨⟨k + 1, _, es ++ [X], g5, by omega, hl9, by go_num, rfl, Lib.hid rfl, HE2, HR9, HB9⟩, by simp [intOf]; omega⟩
                  · have hev : eventB ⟨3, xa, 5, xc, xd, xe⟩ 3 q = true := by simp [eventB, putK, okShow, btw]
                    have HEV2 : Hid ((⟨xa, true, 32, ws⟩ : Ev) = eventE ⟨3, xa, 5, xc, xd, xe⟩ ws) := by
                      show _ = _
                      simp [eventE, putK]
                    go_upto_region 16 with fail
                    refine wp_region_slots_u 12 [[(5, false)], [(7, false)], [(75, true)], [(7, false)], [(77, true)], [(78, true)], [(8, false)], [(80, true)], [(81, true)], [(76, true), (79, true), (82, true)], [(83, true)], [(74, true), (84, true)]] (fun w' => wc.grownBy w' (some ob)) (fun w' => wc.grownBy w' (some ob)) (fun _ w' => wc.grownBy w' (some ob)) (fun d w' => d = some 85 → RowX w' w.heap.size v es) (fun _ => none) (AppS 85 (some ob)) (by kernel_rfl) (by kernel_rfl) (by rfl) ⟨rfl, rfl, rfl, Nat.le_refl _, fun _ _ _ => rfl⟩ (by kernel_rfl) (fun _ _ => HRC.out.below (Below.refl _ _).drew) (fun _ h => by cases h) (fun d d' hd w w' h1 h2 h3 => (h1 h3).below (appS_below (h3 ▸ hd) h2)) (fun _ _ _ _ _ _ h => by cases h) (fun d _ w w' h1 h2 => grownT h1 (appS_any h2)) (fun _ _ _ h => h) (fun _ _ _ h => h) ?_
                    apply slotU_eq
                    · intro ρ w' ⟨p1, p2, p3⟩ hS hEE hn
                      simp at hn
                      go_simp
                      exact ⟨appS_refl (by simp) _, rfl⟩
                    apply slotU_eq
                    · intro ρ w' ⟨p1, p2, p3⟩ hS hEE hn
                      simp at hn
                      go_simp
                      exact ⟨appS_refl (by simp) _, rfl⟩
                    apply slotU_eq
                    · intro ρ w' ⟨p1, p2, p3⟩ hS hEE hn
                      obtain ⟨⟨x1, x2, x4⟩, y1⟩ := HCX.out w' hS
                      simp at hn
                      go_simp
                      exact ⟨appS_refl (by simp) _, rfl⟩
                    apply slotU_eq
                    · intro ρ w' ⟨p1, p2, p3⟩ hS hEE hn
                      simp at hn
                      go_simp
                      exact ⟨appS_refl (by simp) _, rfl⟩
                    apply slotU_eq
                    · intro ρ w' ⟨p1, p2, p3⟩ hS hEE hn
                      obtain ⟨⟨x1, x2, x4⟩, y1⟩ := HCX.out w' hS
                      simp at hn
                      go_simp
                      exact ⟨appS_refl (by simp) _, rfl⟩
                    apply slotU_eq
                    · intro ρ w' ⟨p1, p2, p3⟩ hS hEE hn
                      simp at hn
                      go_simp
                      exact ⟨appS_refl (by simp) _, rfl⟩
                    apply slotU_eq
                    · intro ρ w' ⟨p1, p2, p3⟩ hS hEE hn
                      simp at hn
                      go_simp
                      exact ⟨appS_refl (by simp) _, rfl⟩
                    apply slotU_eq
                    · intro ρ w' ⟨p1, p2, p3⟩ hS hEE hn
                      obtain ⟨⟨x1, x2, x4⟩, y1⟩ := HCX.out w' hS
                      simp at hn
                      go_simp
                      exact ⟨appS_refl (by simp) _, rfl⟩
                    refine slotU_fact (CopX wc.heap.size q ws) (lasts_copX (by omega)) ?_ ?_
                    · intro ρ w' ⟨p1, p2, p3⟩ hS hEE hn
                      simp at hn
                      go_simp
                      have hsz := hS.size
                      exact got_call (copies_gen ar q cr ws w' HQ.out hxl HXF.out (HWS.out w' hS)) fun e w'' ⟨g, cp, es', he, hex, hr, hb⟩ => ⟨_, he, appS_of (by simp) hb, g, cp, w''.heap.size, rfl, Nat.le_refl _, (hr.inW hex HXF.out).wider hsz (Nat.le_refl _)⟩
                    refine slotU_fact (AggX wc.heap.size q xa true 32 ws) (lasts_aggX (by omega)) ?_ ?_
                    · intro ρ w' ⟨p1, p2, p3⟩ hS hEE hn
                      simp at hn
                      obtain ⟨x76, x79, g, cp, hi, xC, h2, h3⟩ := hn
                      go_simp
                      exact ⟨appS_refl (by simp) _, g, cp, hi, rfl, h2, h3⟩
                    refine slotU_fact (BsX wc.heap.size ob xa true 32 ws) (lasts_bsX (by omega)) ?_ ?_
                    · intro ρ w' ⟨p1, p2, p3⟩ hS hEE hn
                      simp at hn
                      obtain ⟨g, cp, hi, xA, h2, h3⟩ := hn
                      go_simp
                      have hsz := hS.size
                      have hal : Below w'.heap.size w' (w'.alloc (.cells #[.int .i64 (xa), .bool true, .int .i64 (32), .slice (some ⟨g, 0, none⟩) q cp] 50)) := (Below.refl _ _).alloc (Nat.le_refl _) _
                      exact ⟨appS_alloc (by simp) _ _, w'.heap.size, g, cp, hi, rfl, by omega, by simp, evX_cells w' _ _ _ ws g cp _ hi q HQ.out, Nat.le_trans h2 hal.size, h3.below h2 hal⟩
                    refine slotU_fact (AppX w.heap.size es ⟨xa, true, 32, ws⟩) lasts_appX ?_ ?_
                    · intro ρ w' ⟨p1, p2, p3⟩ hS hEE hn
                      have hrow := hEE rfl
                      have hsz := hS.size
                      have hwz : w.heap.size ≤ w'.heap.size := Nat.le_trans HBC.out.size hsz
                      simp at hn
                      obtain ⟨xV, g', g, cp, hi, xB, hg1, hg2, hg3, hg4, hg5⟩ := hn
                      refine got_append (.tmp 74) (.tmp 84) _ rfl w.heap.size 50 i0 (.agg #[.int .i64 0, .bool false, .int .i64 0, .slice none 0 0]) 4 48 Try.underlying26 HI0.out HX0.out.1 HX0.out.2.1 HX0.out.2.2 (by rfl) (by omega) v es.length (es.flatMap evVals) xV hrow.own ⟨g', 0, none⟩ 1 1 (evVals (evX xa true 32 ws (some ⟨g, 0, none⟩) cp wc.heap.size hi)) xB (by rfl) hg3 (evVals_one _) (by omega) (by unfold maxLen; omega) (by omega) hwz _ rfl ?_
                      intro g5 c5 w5 r1 r2 r3 r4
                      refine ⟨appS_grown (by rw [← HOB.out]; exact r2), g5, c5, _, rfl, hrow.more (x := evX xa true 32 ws (some ⟨g, 0, none⟩) cp wc.heap.size hi) ⟨by show w.heap.size ≤ wc.heap.size; exact HBC.out.size, hg4, hg5⟩ (fun gg hgg => ?_) r1 r2 r3, rfl⟩
                      rw [HOB.out] at hgg
                      injection hgg with hgg
                      show gg < wc.heap.size
                      omega
                    refine slotU_end ?_
                    rintro vs w6 hS hF
                    simp at hF
                    obtain ⟨⟨g5, c5, X, x85, hrx, hxe⟩, ⟨yy1, yy2, yy3, yy4, x84, -⟩, ⟨yy5, yy6, yy7, x83, -⟩, ⟨yy8, yy9, yy10, x82, -⟩, x81, x80, x79, x78, x77, x76, x75, x74⟩ := hF
                    rw [x85] at hrx
                    simp only [List.take_succ_cons, List.take_zero, List.drop_succ_cons, List.drop_zero, putAll, x85, x84, x83, x82, x81, x80, x79, x78, x77, x76, x75, x74]
                    clear x85 x84 x83 x82 x81 x80 x79 x78 x77 x76 x75 x74
                    simp only [Act.put, List.setIfInBounds_toArray, List.set_cons_succ, List.set_cons_zero]
                    have HR9 := Lib.hid hrx
                    have HB9 : Hid (Below w.heap.size w w6) := HBC.out.grown hS HBC.out.size fun j hj => by
                      injection hj with hj
                      rw [← hj]
                      exact (HRC.out.own.lt ob HOB.out).1
                    have HE2 : Hid (evsOf (es ++ [X]) = evsTo acs rs (k + 1)) := by
                      show _ = _
                      have h := HE.out
                      have h2 := HEV2.out
                      unfold evsOf at h ⊢
                      rw [HTO.out, hev, if_pos rfl, List.map_append, h, List.map_cons, List.map_nil, hxe, h2]
                    have hl9 : (es ++ [X]).length ≤ k + 1 := by simp; omega
                    clear hrx hS hxe HCX HWS HRC HBC HE HTO
                    go_wp2
                    exact ⟨⟨k + 1, _, es ++ [X], g5, by omega, hl9, by go_num, rfl, Lib.hid rfl, HE2, HR9, HB9⟩, by simp [intOf]; omega⟩
                · have hbf : btw xb 0 5 = false := by simpa using hb
                  have hev : eventB ⟨3, xa, xb, xc, xd, xe⟩ 3 q = false := by simp [eventB, putK, hbf]
                  rw [hbf]
                  have HE2 : Hid (evsOf es = evsTo acs rs (k + 1)) := by
                    show _ = _
                    rw [HTO.out, hev, if_neg (by simp), List.append_nil]
                    exact HE.out
                  go_wp2
                  exact ⟨⟨k + 1, v, es, ob, by omega, by omega, by go_num, rfl, HOB, HE2, HRC, HBC⟩, by simp [intOf]; omega⟩
              · have hcb3 : (rc == 3) = false := by simpa using hc3
                have hev : eventB ⟨3, xa, xb, xc, xd, xe⟩ rc q = false := by simp [eventB, putK, okShow, hcb, hcb3]
                have HE2 : Hid (evsOf es = evsTo acs rs (k + 1)) := by
                  show _ = _
                  rw [HTO.out, hev, if_neg (by simp), List.append_nil]
                  exact HE.out
                go_wp2
                exact ⟨⟨k + 1, v, es, ob, by omega, by omega, by go_num, rfl, HOB, HE2, HRC, HBC⟩, by simp [intOf]; omega⟩
          by_cases h4 : xk = 4
          · subst h4
            by_cases hc0 : rc = 0
            · subst hc0
              by_cases hd : 0 ≤ xd
              · have hev : eventB ⟨4, xa, xb, xc, xd, xe⟩ 0 q = true := by simp [eventB, putK, okShow, hd]
                have HEV2 : Hid ((⟨xa, true, xd, ws⟩ : Ev) = eventE ⟨4, xa, xb, xc, xd, xe⟩ ws) := by
                  show _ = _
                  simp [eventE, putK]
                go_upto_region 19 with fail
                refine wp_region_slots_u 11 [[(5, false)], [(7, false)], [(102, true)], [(7, false)], [(104, true)], [(8, false)], [(106, true)], [(107, true)], [(103, true), (105, true), (108, true)], [(109, true)], [(101, true), (110, true)]] (fun w' => wc.grownBy w' (some ob)) (fun w' => wc.grownBy w' (some ob)) (fun _ w' => wc.grownBy w' (some ob)) (fun d w' => d = some 111 → RowX w' w.heap.size v es) (fun _ => none) (AppS 111 (some ob)) (by kernel_rfl) (by kernel_rfl) (by rfl) ⟨rfl, rfl, rfl, Nat.le_refl _, fun _ _ _ => rfl⟩ (by kernel_rfl) (fun _ _ => HRC.out.below (Below.refl _ _).drew) (fun _ h => by cases h) (fun d d' hd w w' h1 h2 h3 => (h1 h3).below (appS_below (h3 ▸ hd) h2)) (fun _ _ _ _ _ _ h => by cases h) (fun d _ w w' h1 h2 => grownT h1 (appS_any h2)) (fun _ _ _ h => h) (fun _ _ _ h => h) ?_
                apply slotU_eq
                · intro ρ w' ⟨p1, p2, p3⟩ hS hEE hn
                  simp at hn
                  go_simp
                  exact ⟨appS_refl (by simp) _, rfl⟩
                apply slotU_eq
                · intro ρ w' ⟨p1, p2, p3⟩ hS hEE hn
                  simp at hn
                  go_simp
                  exact ⟨appS_refl (by simp) _, rfl⟩
                apply slotU_eq
                · intro ρ w' ⟨p1, p2, p3⟩ hS hEE hn
                  obtain ⟨⟨x1, x2, x4⟩, y1⟩ := HCX.out w' hS
                  simp at hn
                  go_simp
                  exact ⟨appS_refl (by simp) _, rfl⟩
                apply slotU_eq
                · intro ρ w' ⟨p1, p2, p3⟩ hS hEE hn
                  simp at hn
                  go_simp
                  exact ⟨appS_refl (by simp) _, rfl⟩
                apply slotU_eq
                · intro ρ w' ⟨p1, p2, p3⟩ hS hEE hn
                  obtain ⟨⟨x1, x2, x4⟩, y1⟩ := HCX.out w' hS
                  simp at hn
                  go_simp
                  exact ⟨appS_refl (by simp) _, rfl⟩
                apply slotU_eq
                · intro ρ w' ⟨p1, p2, p3⟩ hS hEE hn
                  simp at hn
                  go_simp
                  exact ⟨appS_refl (by simp) _, rfl⟩
                apply slotU_eq
                · intro ρ w' ⟨p1, p2, p3⟩ hS hEE hn
                  obtain ⟨⟨x1, x2, x4⟩, y1⟩ := HCX.out w' hS
                  simp at hn
                  go_simp
                  exact ⟨appS_refl (by simp) _, rfl⟩
                refine slotU_fact (CopX wc.heap.size q ws) (lasts_copX (by omega)) ?_ ?_
                · intro ρ w' ⟨p1, p2, p3⟩ hS hEE hn
                  simp at hn
                  go_simp
                  have hsz := hS.size
                  exact got_call (copies_gen ar q cr ws w' HQ.out hxl HXF.out (HWS.out w' hS)) fun e w'' ⟨g, cp, es', he, hex, hr, hb⟩ => ⟨_, he, appS_of (by simp) hb, g, cp, w''.heap.size, rfl, Nat.le_refl _, (hr.inW hex HXF.out).wider hsz (Nat.le_refl _)⟩
                refine slotU_fact (AggX wc.heap.size q xa true xd ws) (lasts_aggX (by omega)) ?_ ?_
                · intro ρ w' ⟨p1, p2, p3⟩ hS hEE hn
                  simp at hn
                  obtain ⟨x103, x105, g, cp, hi, xC, h2, h3⟩ := hn
                  go_simp
                  exact ⟨appS_refl (by simp) _, g, cp, hi, rfl, h2, h3⟩
                refine slotU_fact (BsX wc.heap.size ob xa true xd ws) (lasts_bsX (by omega)) ?_ ?_
                · intro ρ w' ⟨p1, p2, p3⟩ hS hEE hn
                  simp at hn
                  obtain ⟨g, cp, hi, xA, h2, h3⟩ := hn
                  go_simp
                  have hsz := hS.size
                  have hal : Below w'.heap.size w' (w'.alloc (.cells #[.int .i64 (xa), .bool true, .int .i64 (xd), .slice (some ⟨g, 0, none⟩) q cp] 50)) := (Below.refl _ _).alloc (Nat.le_refl _) _
                  exact ⟨appS_alloc (by simp) _ _, w'.heap.size, g, cp, hi, rfl, by omega, by simp, evX_cells w' _ _ _ ws g cp _ hi q HQ.out, Nat.le_trans h2 hal.size, h3.below h2 hal⟩
                refine slotU_fact (AppX w.heap.size es ⟨xa, true, xd, ws⟩) lasts_appX ?_ ?_
                · intro ρ w' ⟨p1, p2, p3⟩ hS hEE hn
                  have hrow := hEE rfl
                  have hsz := hS.size
                  have hwz : w.heap.size ≤ w'.heap.size := Nat.le_trans HBC.out.size hsz
                  simp at hn
                  obtain ⟨xV, g', g, cp, hi, xB, hg1, hg2, hg3, hg4, hg5⟩ := hn
                  refine got_append (.tmp 101) (.tmp 110) _ rfl w.heap.size 50 i0 (.agg #[.int .i64 0, .bool false, .int .i64 0, .slice none 0 0]) 4 48 Try.underlying26 HI0.out HX0.out.1 HX0.out.2.1 HX0.out.2.2 (by rfl) (by omega) v es.length (es.flatMap evVals) xV hrow.own ⟨g', 0, none⟩ 1 1 (evVals (evX xa true xd ws (some ⟨g, 0, none⟩) cp wc.heap.size hi)) xB (by rfl) hg3 (evVals_one _) (by omega) (by unfold maxLen; omega) (by omega) hwz _ rfl ?_
                  intro g5 c5 w5 r1 r2 r3 r4
                  refine ⟨appS_grown (by rw [← HOB.out]; exact r2), g5, c5, _, rfl, hrow.more (x := evX xa true xd ws (some ⟨g, 0, none⟩) cp wc.heap.size hi) ⟨by show w.heap.size ≤ wc.heap.size; exact HBC.out.size, hg4, hg5⟩ (fun gg hgg => ?_) r1 r2 r3, rfl⟩
                  rw [HOB.out] at hgg
                  injection hgg with hgg
                  show gg < wc.heap.size
                  omega
                refine slotU_end ?_
                rintro vs w6 hS hF
                simp at hF
                obtain ⟨⟨g5, c5, X, x111, hrx, hxe⟩, ⟨yy1, yy2, yy3, yy4, x110, -⟩, ⟨yy5, yy6, yy7, x109, -⟩, ⟨yy8, yy9, yy10, x108, -⟩, x107, x106, x105, x104, x103, x102, x101⟩ := hF
                rw [x111] at hrx
                simp only [List.take_succ_cons, List.take_zero, List.drop_succ_cons, List.drop_zero, putAll, x111, x110, x109, x108, x107, x106, x105, x104, x103, x102, x101]
                clear x111 x110 x109 x108 x107 x106 x105 x104 x103 x102 x101
                simp only [Act.put, List.setIfInBounds_toArray, List.set_cons_succ, List.set_cons_zero]
                have HR9 := Lib.hid hrx
                have HB9 : Hid (Below w.heap.size w w6) := HBC.out.grown hS HBC.out.size fun j hj => by
                  injection hj with hj
                  rw [← hj]
                  exact (HRC.out.own.lt ob HOB.out).1
                have HE2 : Hid (evsOf (es ++ [X]) = evsTo acs rs (k + 1)) := by
                  show _ = _
                  have h := HE.out
                  have h2 := HEV2.out
                  unfold evsOf at h ⊢
                  rw [HTO.out, hev, if_pos rfl, List.map_append, h, List.map_cons, List.map_nil, hxe, h2]
                have hl9 : (es ++ [X]).length ≤ k + 1 := by simp; omega
                clear hrx hS hxe HCX HWS HRC HBC HE HTO
                go_wp2
                exact ⟨⟨k + 1, _, es ++ [X], g5, by omega, hl9, by go_num, rfl, Lib.hid rfl, HE2, HR9, HB9⟩, by simp [intOf]; omega⟩
              · have hev : eventB ⟨4, xa, xb, xc, xd, xe⟩ 0 q = false := by simp [eventB, putK, hd]
                have HE2 : Hid (evsOf es = evsTo acs rs (k + 1)) := by
                  show _ = _
                  rw [HTO.out, hev, if_neg (by simp), List.append_nil]
                  exact HE.out
                go_wp2
                exact ⟨⟨k + 1, v, es, ob, by omega, by omega, by go_num, rfl, HOB, HE2, HRC, HBC⟩, by simp [intOf]; omega⟩
            · have hcb : (rc == 0) = false := by simpa using hc0
              by_cases hc3 : rc = 3
              · subst hc3
                by_cases hd : 0 ≤ xd
                · have hev : eventB ⟨4, xa, xb, xc, xd, xe⟩ 3 q = true := by simp [eventB, putK, okShow, hd]
                  have HEV2 : Hid ((⟨xa, true, xd, ws⟩ : Ev) = eventE ⟨4, xa, xb, xc, xd, xe⟩ ws) := by
                    show _ = _
                    simp [eventE, putK]
                  go_upto_region 19 with fail
                  refine wp_region_slots_u 11 [[(5, false)], [(7, false)], [(102, true)], [(7, false)], [(104, true)], [(8, false)], [(106, true)], [(107, true)], [(103, true), (105, true), (108, true)], [(109, true)], [(101, true), (110, true)]] (fun w' => wc.grownBy w' (some ob)) (fun w' => wc.grownBy w' (some ob)) (fun _ w' => wc.grownBy w' (some ob)) (fun d w' => d = some 111 → RowX w' w.heap.size v es) (fun _ => none) (AppS 111 (some ob)) (by kernel_rfl) (by kernel_rfl) (by rfl) ⟨rfl, rfl, rfl, Nat.le_refl _, fun _ _ _ => rfl⟩ (by kernel_rfl) (fun _ _ => HRC.out.below (Below.refl _ _).drew) (fun _ h => by cases h) (fun d d' hd w w' h1 h2 h3 => (h1 h3).below (appS_below (h3 ▸ hd) h2)) (fun _ _ _ _ _ _ h => by cases h) (fun d _ w w' h1 h2 => grownT h1 (appS_any h2)) (fun _ _ _ h => h) (fun _ _ _ h => h) ?_
                  apply slotU_eq
                  · intro ρ w' ⟨p1, p2, p3⟩ hS hEE hn
                    simp at hn
                    go_simp
                    exact ⟨appS_refl (by simp) _, rfl⟩
                  apply slotU_eq
                  · intro ρ w' ⟨p1, p2, p3⟩ hS hEE hn
                    simp at hn
                    go_simp
                    exact ⟨appS_refl (by simp) _, rfl⟩
                  apply slotU_eq
                  · intro ρ w' ⟨p1, p2, p3⟩ hS hEE hn
                    obtain ⟨⟨x1, x2, x4⟩, y1⟩ := HCX.out w' hS
                    simp at hn
                    go_simp
                    exact ⟨appS_refl (by simp) _, rfl⟩
                  apply slotU_eq
                  · intro ρ w' ⟨p1, p2, p3⟩ hS hEE hn
                    simp at hn
                    go_simp
                    exact ⟨appS_refl (by simp) _, rfl⟩
                  apply slotU_eq
                  · intro ρ w' ⟨p1, p2, p3⟩ hS hEE hn
                    obtain ⟨⟨x1, x2, x4⟩, y1⟩ := HCX.out w' hS
                    simp at hn
                    go_simp
                    exact ⟨appS_refl (by simp) _, rfl⟩
                  apply slotU_eq
                  · intro ρ w' ⟨p1, p2, p3⟩ hS hEE hn
                    simp at hn
                    go_simp
                    exact ⟨appS_refl (by simp) _, rfl⟩
                  apply slotU_eq
                  · intro ρ w' ⟨p1, p2, p3⟩ hS hEE hn
                    obtain ⟨⟨x1, x2, x4⟩, y1⟩ := HCX.out w' hS
                    simp at hn
                    go_simp
                    exact ⟨appS_refl (by simp) _, rfl⟩
                  refine slotU_fact (CopX wc.heap.size q ws) (lasts_copX (by omega)) ?_ ?_
                  · intro ρ w' ⟨p1, p2, p3⟩ hS hEE hn
                    simp at hn
                    go_simp
                    have hsz := hS.size
                    exact got_call (copies_gen ar q cr ws w' HQ.out hxl HXF.out (HWS.out w' hS)) fun e w'' ⟨g, cp, es', he, hex, hr, hb⟩ => ⟨_, he, appS_of (by simp) hb, g, cp, w''.heap.size, rfl, Nat.le_refl _, (hr.inW hex HXF.out).wider hsz (Nat.le_refl _)⟩
                  refine slotU_fact (AggX wc.heap.size q xa true xd ws) (lasts_aggX (by omega)) ?_ ?_
                  · intro ρ w' ⟨p1, p2, p3⟩ hS hEE hn
                    simp at hn
                    obtain ⟨x103, x105, g, cp, hi, xC, h2, h3⟩ := hn
                    go_simp
                    exact ⟨appS_refl (by simp) _, g, cp, hi, rfl, h2, h3⟩
                  refine slotU_fact (BsX wc.heap.size ob xa true xd ws) (lasts_bsX (by omega)) ?_ ?_
                  · intro ρ w' ⟨p1, p2, p3⟩ hS hEE hn
                    simp at hn
                    obtain ⟨g, cp, hi, xA, h2, h3⟩ := hn
                    go_simp
                    have hsz := hS.size
                    have hal : Below w'.heap.size w' (w'.alloc (.cells #[.int .i64 (xa), .bool true, .int .i64 (xd), .slice (some ⟨g, 0, none⟩) q cp] 50)) := (Below.refl _ _).alloc (Nat.le_refl _) _
                    exact ⟨appS_alloc (by simp) _ _, w'.heap.size, g, cp, hi, rfl, by omega, by simp, evX_cells w' _ _ _ ws g cp _ hi q HQ.out, Nat.le_trans h2 hal.size, h3.below h2 hal⟩
                  refine slotU_fact (AppX w.heap.size es ⟨xa, true, xd, ws⟩) lasts_appX ?_ ?_
                  · intro ρ w' ⟨p1, p2, p3⟩ hS hEE hn
                    have hrow := hEE rfl
                    have hsz := hS.size
                    have hwz : w.heap.size ≤ w'.heap.size := Nat.le_trans HBC.out.size hsz
                    simp at hn
                    obtain ⟨xV, g', g, cp, hi, xB, hg1, hg2, hg3, hg4, hg5⟩ := hn
                    refine got_append (.tmp 101) (.tmp 110) _ rfl w.heap.size 50 i0 (.agg #[.int .i64 0, .bool false, .int .i64 0, .slice none 0 0]) 4 48 Try.underlying26 HI0.out HX0.out.1 HX0.out.2.1 HX0.out.2.2 (by rfl) (by omega) v es.length (es.flatMap evVals) xV hrow.own ⟨g', 0, none⟩ 1 1 (evVals (evX xa true xd ws (some ⟨g, 0, none⟩) cp wc.heap.size hi)) xB (by rfl) hg3 (evVals_one _) (by omega) (by unfold maxLen; omega) (by omega) hwz _ rfl ?_
                    intro g5 c5 w5 r1 r2 r3 r4
                    refine ⟨appS_grown (by rw [← HOB.out]; exact r2), g5, c5, _, rfl, hrow.more (x := evX xa true xd ws (some ⟨g, 0, none⟩) cp wc.heap.size hi) ⟨by show w.heap.size ≤ wc.heap.size; exact HBC.out.size, hg4, hg5⟩ (fun gg hgg => ?_) r1 r2 r3, rfl⟩
                    rw [HOB.out] at hgg
                    injection hgg with hgg
                    show gg < wc.heap.size
                    omega
                  refine slotU_end ?_
                  rintro vs w6 hS hF
                  simp at hF
                  obtain ⟨⟨g5, c5, X, x111, hrx, hxe⟩, ⟨yy1, yy2, yy3, yy4, x110, -⟩, ⟨yy5, yy6, yy7, x109, -⟩, ⟨yy8, yy9, yy10, x108, -⟩, x107, x106, x105, x104, x103, x102, x101⟩ := hF
                  rw [x111] at hrx
                  simp only [List.take_succ_cons, List.take_zero, List.drop_succ_cons, List.drop_zero, putAll, x111, x110, x109, x108, x107, x106, x105, x104, x103, x102, x101]
                  clear x111 x110 x109 x108 x107 x106 x105 x104 x103 x102 x101
                  simp only [Act.put, List.setIfInBounds_toArray, List.set_cons_succ, List.set_cons_zero]
                  have HR9 := Lib.hid hrx
                  have HB9 : Hid (Below w.heap.size w w6) := HBC.out.grown hS HBC.out.size fun j hj => by
                    injection hj with hj
                    rw [← hj]
                    exact (HRC.out.own.lt ob HOB.out).1
                  have HE2 : Hid (evsOf (es ++ [X]) = evsTo acs rs (k + 1)) := by
                    show _ = _
                    have h := HE.out
                    have h2 := HEV2.out
                    unfold evsOf at h ⊢
                    rw [HTO.out, hev, if_pos rfl, List.map_append, h, List.map_cons, List.map_nil, hxe, h2]
                  have hl9 : (es ++ [X]).length ≤ k + 1 := by simp; omega
                  clear hrx hS hxe HCX HWS HRC HBC HE HTO
                  go_wp2
                  exact ⟨⟨k + 1, _, es ++ [X], g5, by omega, hl9, by go_num, rfl, Lib.hid rfl, HE2, HR9, HB9⟩, by simp [intOf]; omega⟩
                · have hev : eventB ⟨4, xa, xb, xc, xd, xe⟩ 3 q = false := by simp [eventB, putK, hd]
                  have HE2 : Hid (evsOf es = evsTo acs rs (k + 1)) := by
                    show _ = _
                    rw [HTO.out, hev, if_neg (by simp), List.append_nil]
                    exact HE.out
                  go_wp2
                  exact ⟨⟨k + 1, v, es, ob, by omega, by omega, by go_num, rfl, HOB, HE2, HRC, HBC⟩, by simp [intOf]; omega⟩
              · have hcb3 : (rc == 3) = false := by simpa using hc3
                have hev : eventB ⟨4, xa, xb, xc, xd, xe⟩ rc q = false := by simp [eventB, putK, okShow, hcb, hcb3]
                have HE2 : Hid (evsOf es = evsTo acs rs (k + 1)) := by
                  show _ = _
                  rw [HTO.out, hev, if_neg (by simp), List.append_nil]
                  exact HE.out
                go_wp2
                exact ⟨⟨k + 1, v, es, ob, by omega, by omega, by go_num, rfl, HOB, HE2, HRC, HBC⟩, by simp [intOf]; omega⟩
          have hk1 : (xk == 1) = false := by simpa using h1
          have hk2 : (xk == 2) = false := by simpa using h2
          have hk10 : (xk == 10) = false := by simpa using h10
          have hk3 : (xk == 3) = false := by simpa using h3
          have hk4 : (xk == 4) = false := by simpa using h4
          have hev : eventB ⟨xk, xa, xb, xc, xd, xe⟩ rc q = false := by simp [eventB, putK, h1, h2, h10, h3, h4]
          have HE2 : Hid (evsOf es = evsTo acs rs (k + 1)) := by
            show _ = _
            rw [HTO.out, hev, if_neg (by simp), List.append_nil]
            exact HE.out
          go_wp2
          exact ⟨⟨k + 1, v, es, ob, by omega, by omega, by go_num, rfl, HOB, HE2, HRC, HBC⟩, by simp [intOf]; omega⟩
      · obtain rfl : k = n := by omega
        go_wp2
        go_ret
        exact ⟨_, es, rfl, HE.out.trans HEV.out.symm, HR.out, HB.out⟩
  · have hne' : ¬ (n : Int) = (n' : Int) := by omega
    have HEV : Hid (evsA acs rs = []) := by
      show _ = _
      unfold evsA
      rw [if_neg (by omega)]
    clear hn hn'
    go_enter Try.func6, Try.ntmps6
    go_wp2
    go_ret
    exact ⟨_, [], rfl, HEV.out.symm, rowX_start w w.heap.size (Nat.le_refl _), (Below.refl _ _).alloc (Nat.le_refl _) _⟩

end Go.Proofs.Ytobcefkjoojflaa
