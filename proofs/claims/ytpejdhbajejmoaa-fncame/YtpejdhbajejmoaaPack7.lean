/- The draw of posts. -/
import Derived.Test.YtpejdhbajejmoaaPack6
import Derived.Deep.DeepCutAuto
import Derived.Lib.Hide
namespace Go.Proofs.Ytpejdhbajejmoaa
open Go.ChangeShapes Go.WideShapes Go.ChangeAt Go.RowKit Go.Joins
attribute [local go_sem ↓] Go.wp_at_zero Go.wp_at_succ

theorem infoVec : (Try.prog.info? 28).map (fun i => (i.zero, i.size, i.bytes)) = some (some (.agg #[.slice none 0 0]), 1, 24) := by kernel_rfl

theorem infoPostD : (Try.prog.info? 33).map (fun i => (i.zero, i.size, i.bytes)) = some (some (.agg #[.int .i64 0, .slice none 0 0, .int .i64 0]), 3, 40) := by kernel_rfl

theorem run_field_vec (x : Option Addr) (n cp : Nat) (w : World) : (Instr.field 28 (.agg #[.slice x n cp]) 0).run Try.prog w = .ok (.slice x n cp) w := by kernel_rfl

theorem tick_four {xs : List Int} {si : Int} (h : tickOk xs si = true) : (tickV xs si).length = 4 := by
  rw [tickV_good h, List.length_set]
  unfold tickOk at h
  simp only [Bool.and_eq_true] at h
  obtain ⟨x0, x1, x2, x3, rfl, -⟩ := vecB_four h.1
  rfl

theorem run_make_four (w : World) :
    (Instr.makeSlice 26 (.int .i64 4) (.int .i64 4)).run Try.prog w = .ok (.slice (some ⟨w.heap.size, 0, none⟩) 4 4) (w.alloc (.cells #[.int .i64 0, .int .i64 0, .int .i64 0, .int .i64 0] 3)) := by
  obtain ⟨i, hi, hzz⟩ := Option.map_eq_some_iff.1 infoInt
  simp only [Prod.mk.injEq] at hzz
  obtain ⟨hz, hs, hb⟩ := hzz
  have hr := run_make (P := Try.prog) w 26 3 i _ Try.underlying26 hi hz .i64 .i64 4 4 (by omega) (Int.le_refl _) (by rw [hb]; omega) (by omega)
  simp only [hs] at hr
  rw [show madeCells (Value.int .i64 0).cells (Int.toNat 4 * 1) = #[.int .i64 0, .int .i64 0, .int .i64 0, .int .i64 0] by kernel_rfl] at hr
  exact hr

theorem run_make_vecs (w : World) :
    (Instr.makeSlice 56 (.int .i64 4) (.int .i64 4)).run Try.prog w = .ok (.slice (some ⟨w.heap.size, 0, none⟩) 4 4) (w.alloc (.cells #[.slice none 0 0, .slice none 0 0, .slice none 0 0, .slice none 0 0] 28)) := by
  obtain ⟨i, hi, hzz⟩ := Option.map_eq_some_iff.1 infoVec
  simp only [Prod.mk.injEq] at hzz
  obtain ⟨hz, hs, hb⟩ := hzz
  have hr := run_make (P := Try.prog) w 56 28 i _ Try.underlying56 hi hz .i64 .i64 4 4 (by omega) (Int.le_refl _) (by rw [hb]; omega) (by omega)
  simp only [hs] at hr
  rw [show madeCells (Value.agg #[Value.slice none 0 0]).cells (Int.toNat 4 * 1) = #[.slice none 0 0, .slice none 0 0, .slice none 0 0, .slice none 0 0] by kernel_rfl] at hr
  exact hr

/-- The answer of the draw. -/
def PostsAns (w : World) (B : Nat) (a : Option Addr) (len cap : Nat) (N : Int) (e : Ending) (w' : World) : Prop :=
  ∃ x cp ps, e = .returned (.slice x ps.length cp) ∧ ps.length ≤ 12 ∧ ps.length ≤ cp ∧ (∀ i, i < ps.length → (ps.getD i pz).xs.length ≤ 5) ∧ IsPs w' x ps ∧ Cur w' B a len cap (N + 2000) ∧ Hole B w w'

set_option maxRecDepth 100000 in
set_option maxHeartbeats 8000000 in
theorem posts_any (B : Nat) (a : Option Addr) (len cap : Nat) (N : Int) (w : World) (hN : N ≤ 70000) (h : Cur w B a len cap N) :
    Calls Try.prog 13 #[.pointer (some ⟨B, 0, none⟩)] w fun e w' => PostsAns w B a len cap N e w' := by
  have HC := Lib.hid h
  have hB := h.lt
  clear h
  obtain ⟨i0, hi0, hx0⟩ := Option.map_eq_some_iff.1 infoInt
  simp only [Prod.mk.injEq] at hx0
  have HI0 := Lib.hid hi0
  have HX0 := Lib.hid hx0
  clear hi0 hx0
  obtain ⟨ii, hii, hxi⟩ := Option.map_eq_some_iff.1 infoPst
  simp only [Prod.mk.injEq] at hxi
  have HII := Lib.hid hii
  have HXI := Lib.hid hxi
  clear hii hxi
  have HS1 := Lib.hid (S1.start HC.out)
  have hm4 := run_make_four
  have hmv := run_make_vecs
  go_enter Try.func13, Try.ntmps13
  go_wp2
  go_loopw [4] (fun i wr => ∃ k : Nat, k ≤ 4 ∧ i = .int .i64 k ∧ Hid (S1 w wr B a len cap N)) (fun i _ => 4 - (intOf i).toNat)
  case atStart => exact ⟨0, Nat.zero_le _, rfl, HS1⟩
  case round =>
    clear HS1
    obtain ⟨k, hk, rfl, HS⟩ := hrel
    by_cases hk' : k < 4
    · have i1 : (0 : Int) ≤ (k : Int) := by omega
      have i2 : (k : Int) < 4 := by omega
      have hlt := HS.out.lt
      obtain ⟨a2, ys, cp2, c1, -, -⟩ := HS.out.seen k hk'
      have fz := HS.out.fz
      have HS2 := Lib.hid (HS.out.see2 hB k)
      clear HS
      go_wp2
      exact ⟨⟨k + 1, by omega, by go_num, HS2⟩, by simp [intOf]; omega⟩
    · have hkk : k = 4 := by omega
      subst hkk
      have HR := Lib.hid HS.out.row
      clear HS
      clear hm4 hmv
      go_wp2_with fail
      refine (size_any B a len cap _ 9 _ (by omega) (by omega) (by omega) HR.out.cur).mono ?_
      rintro e w2 ⟨r, rfl, r0, r1, hc, hh⟩
      have HP := Lib.hid (HR.out.move hB hh hc)
      clear HR
      obtain ⟨kk, rfl⟩ : ∃ kk : Nat, r = (kk : Int) := ⟨r.toNat, by omega⟩
      clear hc hh r0
      go_wp2
      go_loopw [5, 6] (fun o i wr => ∃ (k n g c : Nat) (es : List EnQ), k ≤ kk ∧ n + k ≤ kk ∧ i = .int .i64 k ∧ o = .slice (some ⟨g, 0, none⟩) n c ∧ Hid (PS w wr B a len cap (N + 1 + 100 * ((kk : Int) - k)) g n c es)) (fun _ i _ => (intOf i).toNat)
      case atStart => exact ⟨kk, 0, _, 0, [], Nat.le_refl _, by omega, rfl, rfl, by simpa using HP⟩
      case round =>
        clear HP
        obtain ⟨k, n, g, c, es, hk, hnk, rfl, rfl, HP⟩ := hrel
        by_cases hk' : 0 < k
        · have i1 : (0 : Int) < (k : Int) := by omega
          go_wp2_with fail
          refine (pick_any B a len cap _ 4 _ (by omega) (by omega) (by omega) HP.out.cur).mono ?_
          rintro e w3 ⟨s, rfl, s0, s1, hc, hh⟩
          obtain ⟨q, rfl⟩ : ∃ q : Nat, s = (q : Int) := ⟨s.toNat, by omega⟩
          have HP3 := Lib.hid (HP.out.move hB hh hc)
          have hlt := HP3.out.lt
          have hq : q < 4 := by omega
          clear hc hh HP s0
          go_upto_region 11 with fail
          go_cut [7, 40] (fun s7 s40 wx => s7 = .int .i64 q ∧ ∃ b, s40 = .bool b ∧ (b = true → 0 < n) ∧ Hid (PS w wx B a len cap (N + 1 + 100 * ((kk : Int) - k) + 10) g n c es))
          case first =>
            by_cases hn0 : n = 0
            · subst hn0
              go_wp2_with fail
              go_meet
              case rel => exact ⟨rfl, false, rfl, by simp, Lib.hid (HP3.out.more (by omega))⟩
            · have hn1 : (0 : Int) < (n : Int) := by omega
              go_wp2_with fail
              refine (pick_any B a len cap _ 2 _ (by omega) (by omega) (by omega) HP3.out.cur).mono ?_
              rintro e w4 ⟨r, rfl, t0, t1, hc, hh⟩
              have HP4 := Lib.hid ((HP3.out.move hB hh hc).more (show _ ≤ N + 1 + 100 * ((kk : Int) - k) + 10 by omega))
              clear hc hh HP3 t0 t1
              obtain ⟨b, hb⟩ : ∃ b, b = (r == 0) := ⟨_, rfl⟩
              go_wp2_with fail
              go_meet
              case rel => exact ⟨rfl, _, rfl, fun _ => by omega, HP4⟩
          case rest =>
            obtain ⟨rfl, b, rfl, hbn, HP⟩ := hcut
            clear HP3 hlt
            cases b
            · skip
              obtain ⟨a2, ys, cp2, c1, hy4, hv2⟩ := HP.out.seen q hq
              have hlt := HP.out.lt
              have hgl := HP.out.glt
              go_wp2_with fail
              refine (specVecTick_any a2 ys.length cp2 ys (q : Int) _ rfl (by unfold maxLen; omega) hv2.isIs).mono ?_
              rintro e w5 ⟨gv, cpv, rfl, ho, hb⟩
              have hz4 := tickV_len ys (q : Int)
              have hzk : tickOk ys (q : Int) = true → (tickV ys (q : Int)).length = 4 := tick_four
              obtain ⟨zs, hzs⟩ : ∃ zs, zs = tickV ys (q : Int) := ⟨_, rfl⟩
              obtain ⟨ok, hok⟩ : ∃ b, b = tickOk ys (q : Int) := ⟨_, rfl⟩
              rw [← hzs] at ho hz4 hzk ⊢
              rw [← hok] at hzk ⊢
              clear hzs hok
              have hv5 : Vs w5 (w.heap.size + 1) g gv zs := Vs.own ho (by omega) hgl.2
              have HP5 := Lib.hid (HP.out.below hB hb)
              have hl5 : w.heap.size < w5.heap.size := HP5.out.lt
              clear ho hb HP hv2 c1 hy4 hlt
              go_upto_region 14 with fail
              have hA : Below w5.heap.size w5 (w5.alloc (.cells #[.slice gv zs.length cpv] 28)) := (Below.refl _ _).alloc (Nat.le_refl _) _
              have HP6 := Lib.hid (HP5.out.below hB hA)
              have HV6 := Lib.hid (hv5.off (Hole.of_below (B := B) hA) (by omega))
              have hbx : w5.heap.size < (w5.alloc (.cells #[.slice gv zs.length cpv] 28)).heap.size := by simp
              have hbc : (w5.alloc (.cells #[.slice gv zs.length cpv] 28)).cell? ⟨w5.heap.size, 0, none⟩ = some (.slice gv zs.length cpv) := by go_simp
              generalize w5.alloc (.cells #[.slice gv zs.length cpv] 28) = w6 at *
              clear hA hv5 HP5
              generalize w5.heap.size = bx at *
              have hk1 : ((k - 1 : Nat) : Int) = (k : Int) - 1 := by omega
              cases ok
              · go_wp2
                exact ⟨⟨k - 1, n, g, c, es, by omega, by omega, by rw [hk1], rfl, HP6.out.more (by rw [hk1]; omega)⟩, by simp [intOf]; omega⟩
              · have hz := hzk rfl
                simp only [hz] at hbc ⊢
                obtain ⟨a3, ys3, cp3, c3, -, -⟩ := HP6.out.seen q hq
                have fz := HP6.out.fz
                have hnx : bx ≠ w.heap.size := by omega
                go_upto_region 16 with fail
                clear c3 fz
                have HP7 := Lib.hid (HP6.out.see hB q (cp := cpv) hz4 HV6.out)
                have HV7 := Lib.hid (HV6.out.set ⟨w.heap.size, q, none⟩ (.inl (Nat.lt_succ_self _)) (.slice gv zs.length cpv))
                simp only [hz] at HP7 HV7
                have hb7 : (w6.setCell ⟨w.heap.size, q, none⟩ (.slice gv 4 cpv)).cell? ⟨bx, 0, none⟩ = some (.slice gv 4 cpv) := (World.cell?_of_block (a := ⟨bx, 0, none⟩) (Below.heap_setCell _ _ _ _ hnx)).trans hbc
                have hx7 : bx < (w6.setCell ⟨w.heap.size, q, none⟩ (.slice gv 4 cpv)).heap.size := by simpa using hbx
                generalize w6.setCell ⟨w.heap.size, q, none⟩ (.slice gv 4 cpv) = w7 at *
                clear HP6 HV6 hbc hbx
                obtain ⟨g2, rfl, hg2⟩ := HV7.out.ptr (by omega)
                have HNW := Lib.hid (HV7.out.news (w7.alloc (.cells #[] 3)) ((Below.refl _ _).alloc (Nat.le_refl _) _))
                have HNL : Hid ((zs.map intV).length = 4 * 1) := by rw [List.length_map, hz]; exact Lib.hid rfl
                have HRE : Hid ((w7.alloc (.cells #[] 3)).ownsRow w7.heap.size 3 1 (.slice (some ⟨w7.heap.size, 0, none⟩) 0 0) 0 []) := World.ownsRow_made w7 #[] 0 (Nat.le_refl _) (by simp [maxLen]) (by simp)
                have hl7 := HP7.out.lt
                have hg7 := HP7.out.glt
                go_wp2_with (at_builtin; refine wpList_append_lies _ (by rfl) _ _ _ (by rfl) w7.heap.size 3 i0 (.int .i64 0) 1 8 Try.underlying26 HI0.out HX0.out.1 HX0.out.2.1 HX0.out.2.2 (by rfl) (by omega) (.slice (some ⟨w7.heap.size, 0, none⟩) 0 0) 0 [] (by rfl) HRE.out ⟨g2, 0, none⟩ 4 cpv (zs.map intV) (by rfl) HNL.out HNW.out (intV_one zs) (by omega) (by unfold maxLen; omega) (by omega) (by simp) _ rfl ?_; intro g5 cp5 w8 hown5 hgrow5 hg5 hlt5; refine Hid.out ?_)
                refine Lib.hid ?_
                have hb8 : Below w7.heap.size w7 w8 := ((Below.refl _ _).alloc (Nat.le_refl _) _).grown hgrow5 (by simp) fun j hj => by
                  simp only [Value.ownBlock, Option.some.injEq] at hj
                  omega
                have HP8 := Lib.hid (HP7.out.below hB hb8)
                have HN8 : Hid (Vs w8 (w.heap.size + 1) g (some ⟨g5, 0, none⟩) zs) := Vs.row (lo := w7.heap.size) (n := 4) (cap := cp5) (by unfold RowI; rw [hz]; simpa using hown5) hz (by omega) hg7.2
                have hb78 := hb8.size
                clear hb8 HP7 hown5 hgrow5 hg5 HRE HNL HNW HV7
                have hA9 : Below w8.heap.size w8 (w8.alloc (.cells #[.int .i64 (q : Int), .slice (some ⟨g5, 0, none⟩) 4 cp5, .int .i64 (k : Int)] 33)) := (Below.refl _ _).alloc (Nat.le_refl _) _
                have HP9 := Lib.hid (HP8.out.below hB hA9)
                have HN9 := Lib.hid (HN8.out.off (Hole.of_below (B := B) hA9) (by omega))
                have HCL : Hid (∀ j u, (pqVals ⟨(q : Int), zs, (k : Int), some ⟨g5, 0, none⟩, cp5⟩)[j]? = some u → (w8.alloc (.cells #[.int .i64 (q : Int), .slice (some ⟨g5, 0, none⟩) 4 cp5, .int .i64 (k : Int)] 33)).cell? ((⟨w8.heap.size, 0, none⟩ : Addr).add j) = some u) := by
                  intro j u hu
                  rw [add_at, Nat.zero_add, cell_of_row _ _ j _ _ (0, 0) (heap_alloc_new w8 _), ← hu]
                  simp [pqVals, hz]
                have HOW := Lib.hid HP9.out.own
                have hsz9 : w.heap.size + 1 ≤ w8.heap.size + 1 := by omega
                clear hA9 HP8 HN8
                go_wp2_with (at_builtin; refine wpList_append_lies _ (by rfl) _ _ _ (by rfl) (w.heap.size + 1) 33 ii (postV 0 none 0 0 0) 3 40 Try.underlying24 HII.out HXI.out.1 HXI.out.2.1 HXI.out.2.2 (by rfl) (by omega) (.slice (some ⟨g, 0, none⟩) n c) n (es.flatMap pqVals) (by rfl) HOW.out ⟨w8.heap.size, 0, none⟩ 1 1 (pqVals ⟨(q : Int), zs, (k : Int), some ⟨g5, 0, none⟩, cp5⟩) (by rfl) (by rfl) HCL.out (pqVals_one _) (by omega) (by unfold maxLen; omega) (by omega) (by simpa using hsz9) _ rfl ?_; intro g8 cp8 w10 hown8 hgrow8 hg8 _; refine Hid.out ?_)
                refine Lib.hid ?_
                have HP10 := Lib.hid (HP9.out.app hB hgrow8 (hg8.imp (fun e => by injection e with e; exact e.symm) id) ⟨(q : Int), zs, (k : Int), some ⟨g5, 0, none⟩, cp5⟩ ⟨by show zs.length ≤ 5; omega, HN9.out⟩ hown8)
                clear hown8 hgrow8 hg8 HOW HCL HN9 HP9
                go_wp2
                exact ⟨⟨k - 1, n + 1, g8, cp8, _, by omega, by omega, by rw [hk1], rfl, HP10.out.more (by rw [hk1]; omega)⟩, by simp [intOf]; omega⟩
            · skip
              have hn := hbn rfl
              clear hbn
              go_upto_region 12 with fail
              have i1 : (0 : Int) ≤ (q : Int) := by omega
              have i2 : (q : Int) < 4 := by omega
              have HQ := Lib.hid (HP.out.more (show _ ≤ N + 1 + 100 * ((kk : Int) - k) + 10 + 3 * 18 - 3 * ((18 : Nat) : Int) by omega))
              clear HP
              refine wp_region_slots_n 17 [[(3, false)], [(7, false)], [(3, false)], [(7, false)], [(43, true), (44, true)], [(45, true)], [(5, false)], [(0, false)], [(5, false)], [(49, true)], [(48, true), (50, true)], [(47, true), (51, true)], [(52, true)], [(53, true)], [(54, true)], [(46, true), (55, true)], [(41, true), (42, true)]] (fun w' => ∃ f : Nat, f ≤ 18 ∧ PS w w' B a len cap (N + 1 + 100 * ((kk : Int) - k) + 10 + 3 * 18 - 3 * (f : Int)) g n c es) (fun w' => PS w w' B a len cap (N + 1 + 100 * ((kk : Int) - k) + 10 + 3 * 18) g n c es) (fun f w' => PS w w' B a len cap (N + 1 + 100 * ((kk : Int) - k) + 10 + 3 * 18 - 3 * (f : Int)) g n c es) (CurK 3 B a len cap) (by kernel_rfl) (by kernel_rfl) (by rfl) (HQ.out.move hB (Hole.refl _ _).drew (HQ.out.cur.below (Below.refl _ _).drew)) (fun f w1 w2 h1 h2 => (h1.move hB h2.1 (h2.2 _ (by omega) h1.cur)).more (by push_cast; omega)) (fun f w1 hf h => ⟨f + 1, Nat.succ_le_of_lt (by simpa using hf), h⟩) (fun f w1 hf h => h.more (by omega)) ?_
              apply slot_eq
              · intro ρ w' ⟨p1, p2, p3⟩ ⟨f, hf, hS⟩ hn
                simp at hn
                go_simp
                exact ⟨curK_refl 3 (by omega) _ _ _ _ _, rfl⟩
              apply slot_eq
              · intro ρ w' ⟨p1, p2, p3⟩ ⟨f, hf, hS⟩ hn
                simp at hn
                go_simp
                exact ⟨curK_refl 3 (by omega) _ _ _ _ _, rfl⟩
              apply slot_eq
              · intro ρ w' ⟨p1, p2, p3⟩ ⟨f, hf, hS⟩ hn
                simp at hn
                go_simp
                exact ⟨curK_refl 3 (by omega) _ _ _ _ _, rfl⟩
              apply slot_eq
              · intro ρ w' ⟨p1, p2, p3⟩ ⟨f, hf, hS⟩ hn
                simp at hn
                go_simp
                exact ⟨curK_refl 3 (by omega) _ _ _ _ _, rfl⟩
              apply slot_eq
              · intro ρ w' ⟨p1, p2, p3⟩ ⟨f, hf, hS⟩ hn
                simp at hn
                go_simp
                exact ⟨curK_refl 3 (by omega) _ _ _ _ _, rfl⟩
              refine slot_fact (SeenF (w.heap.size + 1) g 5) (lasts_seenF _ (by omega)) ?_ ?_
              · intro ρ w' ⟨p1, p2, p3⟩ ⟨f, hf, hS⟩ hn
                obtain ⟨a2, ys, cp2, c1, hy4, hv2⟩ := hS.seen q hq
                simp at hn
                go_simp
                exact ⟨curK_refl 3 (by omega) _ _ _ _ _, a2, ys, cp2, rfl, by omega, hv2⟩
              apply slot_eq
              · intro ρ w' ⟨p1, p2, p3⟩ ⟨f, hf, hS⟩ hn
                simp at hn
                go_simp
                exact ⟨curK_refl 3 (by omega) _ _ _ _ _, rfl⟩
              apply slot_eq
              · intro ρ w' ⟨p1, p2, p3⟩ ⟨f, hf, hS⟩ hn
                simp at hn
                go_simp
                exact ⟨curK_refl 3 (by omega) _ _ _ _ _, rfl⟩
              apply slot_eq
              · intro ρ w' ⟨p1, p2, p3⟩ ⟨f, hf, hS⟩ hn
                simp at hn
                go_simp
                exact ⟨curK_refl 3 (by omega) _ _ _ _ _, rfl⟩
              apply slot_eq
              · intro ρ w' ⟨p1, p2, p3⟩ ⟨f, hf, hS⟩ hn
                simp at hn
                go_simp
                exact ⟨curK_refl 3 (by omega) _ _ _ _ _, rfl⟩
              refine slot_fact (LessK n) (fun _ _ _ h _ => h) ?_ ?_
              · intro ρ w' ⟨p1, p2, p3⟩ ⟨f, hf, hS⟩ hn
                simp at hn
                go_simp
                exact got_call (pick1_curK 3 (by omega) B a len cap _ n w' (by omega) (by omega) (by omega) hS.cur) fun e w'' ⟨r, he, hr, hk⟩ => ⟨_, he, hk, r, rfl, hr⟩
              refine slot_fact (fun v _ => ∃ r : Nat, v = .pointer (some ⟨g, r * 3, none⟩) ∧ (r : Int) < n) (fun _ _ _ h _ => h) ?_ ?_
              · intro ρ w' ⟨p1, p2, p3⟩ ⟨f, hf, hS⟩ hn
                simp at hn
                obtain ⟨f47, r, f51, hr⟩ := hn
                have j1 : (0 : Int) ≤ (r : Int) := by omega
                go_simp
                exact ⟨curK_refl 3 (by omega) _ _ _ _ _, r, rfl, by omega⟩
              refine slot_fact (fun v _ => ∃ r : Nat, v = .pointer (some ⟨g, r * 3 + 1, none⟩) ∧ (r : Int) < n) (fun _ _ _ h _ => h) ?_ ?_
              · intro ρ w' ⟨p1, p2, p3⟩ ⟨f, hf, hS⟩ hn
                simp at hn
                obtain ⟨r, f52, hr⟩ := hn
                go_simp
                exact ⟨curK_refl 3 (by omega) _ _ _ _ _, r, rfl, by omega⟩
              refine slot_fact (SeenL (w.heap.size + 1) g 5) (lasts_seenL _ (by omega)) ?_ ?_
              · intro ρ w' ⟨p1, p2, p3⟩ ⟨f, hf, hS⟩ hn
                simp at hn
                obtain ⟨r, f53, hr⟩ := hn
                obtain ⟨e, -, d0, d1, d2, d3, d4⟩ := hS.at (i := r) (by omega)
                go_simp
                exact ⟨curK_refl 3 (by omega) _ _ _ _ _, e.a, e.xs, e.cp, rfl, d3, d4⟩
              refine slot_fact (SeenF (w.heap.size + 1) g 5) (lasts_seenF _ (by omega)) ?_ ?_
              · intro ρ w' ⟨p1, p2, p3⟩ ⟨f, hf, hS⟩ hn
                simp at hn
                obtain ⟨a3, xs, cp3, f54, h5, hv⟩ := hn
                go_simp
                exact ⟨curK_refl 3 (by omega) _ _ _ _ _, a3, xs, cp3, rfl, h5, hv⟩
              refine slot_fact (SeenF (w.heap.size + 1) g 4) (lasts_seenF _ (by omega)) ?_ ?_
              · intro ρ w' ⟨p1, p2, p3⟩ ⟨f, hf, hS⟩ hn
                simp at hn
                obtain ⟨⟨a3, xs, cp3, f46, h5, hv⟩, a4, ys, cp4, f55, h6, hu⟩ := hn
                have hgl := hS.glt
                go_simp
                exact got_call (specVecJoin_any a3 a4 xs.length ys.length cp3 cp4 xs ys w' rfl (by unfold maxLen; omega) hv.isIs rfl (by unfold maxLen; omega) hu.isIs) fun e w'' ⟨gj, cj, he, ho, hb⟩ => ⟨_, he, curK_below 3 (by omega) _ _ _ _ hb, gj, _, cj, rfl, joinV_len _ _, Vs.own ho (by omega) hgl.2⟩
              apply slot_eq
              · intro ρ w' ⟨p1, p2, p3⟩ ⟨f, hf, hS⟩ hn
                simp at hn
                go_simp
                exact ⟨curK_refl 3 (by omega) _ _ _ _ _, rfl⟩
              refine slot_end ?_
              rintro vs w6 hS hF
              simp at hF
              obtain ⟨f57, ⟨a6, xs6, cp6, f56, h56, hv56⟩, ⟨a5, ys5, cp5', f55, -, -⟩, ⟨a4, ys4, cp4', f54, -, -⟩, ⟨r53, f53, -⟩, ⟨r52, f52, -⟩, ⟨r51, f51, -⟩, f50, f49, f48, f47, ⟨a1, xs1, cp1, f46, -, -⟩, f45, f44, f43, f42, f41⟩ := hF
              simp only [List.take_succ_cons, List.take_zero, List.drop_succ_cons, List.drop_zero, putAll, f57, f56, f55, f54, f53, f52, f51, f50, f49, f48, f47, f46, f45, f44, f43, f42, f41]
              clear f57 f56 f55 f54 f53 f52 f51 f50 f49 f48 f47 f46 f45 f44 f43 f42 f41
              simp only [Act.put, List.setIfInBounds_toArray, List.set_cons_succ, List.set_cons_zero]
              obtain ⟨a3, ys3, cp3, c3, -, -⟩ := hS.seen q hq
              have fz := hS.fz
              have HP := Lib.hid (hS.see hB q (cp := cp6) h56 hv56)
              clear hS HQ h56 hv56
              go_upto_region 13 with fail
              generalize w6.setCell ⟨w.heap.size, q, none⟩ (.slice a6 xs6.length cp6) = wc2 at *
              clear c3 fz
              obtain ⟨a2, ys, cp2, c1, hy4, hv2⟩ := HP.out.seen q hq
              have hlt := HP.out.lt
              have hgl := HP.out.glt
              go_wp2_with fail
              refine (specVecTick_any a2 ys.length cp2 ys (q : Int) _ rfl (by unfold maxLen; omega) hv2.isIs).mono ?_
              rintro e w5 ⟨gv, cpv, rfl, ho, hb⟩
              have hz4 := tickV_len ys (q : Int)
              have hzk : tickOk ys (q : Int) = true → (tickV ys (q : Int)).length = 4 := tick_four
              obtain ⟨zs, hzs⟩ : ∃ zs, zs = tickV ys (q : Int) := ⟨_, rfl⟩
              obtain ⟨ok, hok⟩ : ∃ b, b = tickOk ys (q : Int) := ⟨_, rfl⟩
              rw [← hzs] at ho hz4 hzk ⊢
              rw [← hok] at hzk ⊢
              clear hzs hok
              have hv5 : Vs w5 (w.heap.size + 1) g gv zs := Vs.own ho (by omega) hgl.2
              have HP5 := Lib.hid (HP.out.below hB hb)
              have hl5 : w.heap.size < w5.heap.size := HP5.out.lt
              clear ho hb HP hv2 c1 hy4 hlt
              go_upto_region 14 with fail
              have hA : Below w5.heap.size w5 (w5.alloc (.cells #[.slice gv zs.length cpv] 28)) := (Below.refl _ _).alloc (Nat.le_refl _) _
              have HP6 := Lib.hid (HP5.out.below hB hA)
              have HV6 := Lib.hid (hv5.off (Hole.of_below (B := B) hA) (by omega))
              have hbx : w5.heap.size < (w5.alloc (.cells #[.slice gv zs.length cpv] 28)).heap.size := by simp
              have hbc : (w5.alloc (.cells #[.slice gv zs.length cpv] 28)).cell? ⟨w5.heap.size, 0, none⟩ = some (.slice gv zs.length cpv) := by go_simp
              generalize w5.alloc (.cells #[.slice gv zs.length cpv] 28) = w6 at *
              clear hA hv5 HP5
              generalize w5.heap.size = bx at *
              have hk1 : ((k - 1 : Nat) : Int) = (k : Int) - 1 := by omega
              cases ok
              · go_wp2
                exact ⟨⟨k - 1, n, g, c, es, by omega, by omega, by rw [hk1], rfl, HP6.out.more (by rw [hk1]; omega)⟩, by simp [intOf]; omega⟩
              · have hz := hzk rfl
                simp only [hz] at hbc ⊢
                obtain ⟨a3, ys3, cp3, c3, -, -⟩ := HP6.out.seen q hq
                have fz := HP6.out.fz
                have hnx : bx ≠ w.heap.size := by omega
                go_upto_region 16 with fail
                clear c3 fz
                have HP7 := Lib.hid (HP6.out.see hB q (cp := cpv) hz4 HV6.out)
                have HV7 := Lib.hid (HV6.out.set ⟨w.heap.size, q, none⟩ (.inl (Nat.lt_succ_self _)) (.slice gv zs.length cpv))
                simp only [hz] at HP7 HV7
                have hb7 : (w6.setCell ⟨w.heap.size, q, none⟩ (.slice gv 4 cpv)).cell? ⟨bx, 0, none⟩ = some (.slice gv 4 cpv) := (World.cell?_of_block (a := ⟨bx, 0, none⟩) (Below.heap_setCell _ _ _ _ hnx)).trans hbc
                have hx7 : bx < (w6.setCell ⟨w.heap.size, q, none⟩ (.slice gv 4 cpv)).heap.size := by simpa using hbx
                generalize w6.setCell ⟨w.heap.size, q, none⟩ (.slice gv 4 cpv) = w7 at *
                clear HP6 HV6 hbc hbx
                obtain ⟨g2, rfl, hg2⟩ := HV7.out.ptr (by omega)
                have HNW := Lib.hid (HV7.out.news (w7.alloc (.cells #[] 3)) ((Below.refl _ _).alloc (Nat.le_refl _) _))
                have HNL : Hid ((zs.map intV).length = 4 * 1) := by rw [List.length_map, hz]; exact Lib.hid rfl
                have HRE : Hid ((w7.alloc (.cells #[] 3)).ownsRow w7.heap.size 3 1 (.slice (some ⟨w7.heap.size, 0, none⟩) 0 0) 0 []) := World.ownsRow_made w7 #[] 0 (Nat.le_refl _) (by simp [maxLen]) (by simp)
                have hl7 := HP7.out.lt
                have hg7 := HP7.out.glt
                go_wp2_with (at_builtin; refine wpList_append_lies _ (by rfl) _ _ _ (by rfl) w7.heap.size 3 i0 (.int .i64 0) 1 8 Try.underlying26 HI0.out HX0.out.1 HX0.out.2.1 HX0.out.2.2 (by rfl) (by omega) (.slice (some ⟨w7.heap.size, 0, none⟩) 0 0) 0 [] (by rfl) HRE.out ⟨g2, 0, none⟩ 4 cpv (zs.map intV) (by rfl) HNL.out HNW.out (intV_one zs) (by omega) (by unfold maxLen; omega) (by omega) (by simp) _ rfl ?_; intro g5 cp5 w8 hown5 hgrow5 hg5 hlt5; refine Hid.out ?_)
                refine Lib.hid ?_
                have hb8 : Below w7.heap.size w7 w8 := ((Below.refl _ _).alloc (Nat.le_refl _) _).grown hgrow5 (by simp) fun j hj => by
                  simp only [Value.ownBlock, Option.some.injEq] at hj
                  omega
                have HP8 := Lib.hid (HP7.out.below hB hb8)
                have HN8 : Hid (Vs w8 (w.heap.size + 1) g (some ⟨g5, 0, none⟩) zs) := Vs.row (lo := w7.heap.size) (n := 4) (cap := cp5) (by unfold RowI; rw [hz]; simpa using hown5) hz (by omega) hg7.2
                have hb78 := hb8.size
                clear hb8 HP7 hown5 hgrow5 hg5 HRE HNL HNW HV7
                have hA9 : Below w8.heap.size w8 (w8.alloc (.cells #[.int .i64 (q : Int), .slice (some ⟨g5, 0, none⟩) 4 cp5, .int .i64 (k : Int)] 33)) := (Below.refl _ _).alloc (Nat.le_refl _) _
                have HP9 := Lib.hid (HP8.out.below hB hA9)
                have HN9 := Lib.hid (HN8.out.off (Hole.of_below (B := B) hA9) (by omega))
                have HCL : Hid (∀ j u, (pqVals ⟨(q : Int), zs, (k : Int), some ⟨g5, 0, none⟩, cp5⟩)[j]? = some u → (w8.alloc (.cells #[.int .i64 (q : Int), .slice (some ⟨g5, 0, none⟩) 4 cp5, .int .i64 (k : Int)] 33)).cell? ((⟨w8.heap.size, 0, none⟩ : Addr).add j) = some u) := by
                  intro j u hu
                  rw [add_at, Nat.zero_add, cell_of_row _ _ j _ _ (0, 0) (heap_alloc_new w8 _), ← hu]
                  simp [pqVals, hz]
                have HOW := Lib.hid HP9.out.own
                have hsz9 : w.heap.size + 1 ≤ w8.heap.size + 1 := by omega
                clear hA9 HP8 HN8
                go_wp2_with (at_builtin; refine wpList_append_lies _ (by rfl) _ _ _ (by rfl) (w.heap.size + 1) 33 ii (postV 0 none 0 0 0) 3 40 Try.underlying24 HII.out HXI.out.1 HXI.out.2.1 HXI.out.2.2 (by rfl) (by omega) (.slice (some ⟨g, 0, none⟩) n c) n (es.flatMap pqVals) (by rfl) HOW.out ⟨w8.heap.size, 0, none⟩ 1 1 (pqVals ⟨(q : Int), zs, (k : Int), some ⟨g5, 0, none⟩, cp5⟩) (by rfl) (by rfl) HCL.out (pqVals_one _) (by omega) (by unfold maxLen; omega) (by omega) (by simpa using hsz9) _ rfl ?_; intro g8 cp8 w10 hown8 hgrow8 hg8 _; refine Hid.out ?_)
                refine Lib.hid ?_
                have HP10 := Lib.hid (HP9.out.app hB hgrow8 (hg8.imp (fun e => by injection e with e; exact e.symm) id) ⟨(q : Int), zs, (k : Int), some ⟨g5, 0, none⟩, cp5⟩ ⟨by show zs.length ≤ 5; omega, HN9.out⟩ hown8)
                clear hown8 hgrow8 hg8 HOW HCL HN9 HP9
                go_wp2
                exact ⟨⟨k - 1, n + 1, g8, cp8, _, by omega, by omega, by rw [hk1], rfl, HP10.out.more (by rw [hk1]; omega)⟩, by simp [intOf]; omega⟩
        · skip
          have hkk : k = 0 := by omega
          subst hkk
          go_wp2_with fail
          refine (pick_any B a len cap _ 5 _ (by omega) (by omega) (by omega) HP.out.cur).mono ?_
          rintro e w3 ⟨r, rfl, s0, s1, hc, hh⟩
          have HP3 := Lib.hid ((HP.out.move hB hh hc).more (show _ ≤ N + 1000 by omega))
          clear hc hh HP
          obtain ⟨k3, rfl⟩ : ∃ j : Nat, r = (j : Int) := ⟨r.toNat, by omega⟩
          have hn9 : n ≤ 9 := by omega
          have hk34 : k3 ≤ 4 := by omega
          clear hk hnk hk' s0
          go_wp2
          go_loopw [10] (fun i wr => ∃ (k : Nat) (es : List EnQ), k ≤ k3 ∧ i = .int .i64 k ∧ Hid (PS w wr B a len cap (N + 1000 + 10 * ((k3 : Int) - k)) g n c es)) (fun i _ => (intOf i).toNat)
          case atStart => exact ⟨k3, es, Nat.le_refl _, rfl, by simpa using HP3⟩
          case round =>
            clear HP3
            obtain ⟨k, es, hk3, rfl, HP⟩ := hrel
            by_cases hk0 : 0 < k
            · have i1 : (0 : Int) < (k : Int) := by omega
              by_cases hn1 : 1 < n
              · have i2 : (1 : Int) < (n : Int) := by omega
                go_wp2_with fail
                refine (pick1_any B a len cap _ n _ (by omega) (by omega) (by omega) HP.out.cur).mono ?_
                rintro e w4 ⟨i, rfl, hi, hc, hh⟩
                have HP4 := Lib.hid (HP.out.move hB hh hc)
                clear hc hh HP
                go_wp2_with fail
                refine (pick1_any B a len cap _ n _ (by omega) (by omega) (by omega) HP4.out.cur).mono ?_
                rintro e w5 ⟨j, rfl, hj, hc, hh⟩
                have HP5 := Lib.hid ((HP4.out.move hB hh hc).more (show _ ≤ N + 1000 + 10 * ((k3 : Int) - k) + 10 by omega))
                clear hc hh HP4
                obtain ⟨ei, -, c0, c1, c2, c3, c4⟩ := HP5.out.at (i := i) (by omega)
                have j1 : (0 : Int) ≤ (i : Int) := by omega
                have j2 : (0 : Int) ≤ (j : Int) := by omega
                go_upto_region 22 with fail
                have hA : Below w5.heap.size w5 (w5.alloc (.cells #[.int .i64 ei.f, .slice ei.a ei.xs.length ei.cp, .int .i64 ei.y] 33)) := (Below.refl _ _).alloc (Nat.le_refl _) _
                have HP6 := Lib.hid (HP5.out.below hB hA)
                have HV6 := Lib.hid (c4.off (Hole.of_below (B := B) hA) (by omega))
                have hg5 := HP5.out.glt
                have b0 : (w5.alloc (.cells #[.int .i64 ei.f, .slice ei.a ei.xs.length ei.cp, .int .i64 ei.y] 33)).cell? ⟨w5.heap.size, 0, none⟩ = some (.int .i64 ei.f) := by go_simp
                have b1 : (w5.alloc (.cells #[.int .i64 ei.f, .slice ei.a ei.xs.length ei.cp, .int .i64 ei.y] 33)).cell? ⟨w5.heap.size, 1, none⟩ = some (.slice ei.a ei.xs.length ei.cp) := by go_simp
                have b2 : (w5.alloc (.cells #[.int .i64 ei.f, .slice ei.a ei.xs.length ei.cp, .int .i64 ei.y] 33)).cell? ⟨w5.heap.size, 2, none⟩ = some (.int .i64 ei.y) := by go_simp
                have hgx : w5.heap.size ≠ g := by omega
                clear c0 c1 c2 c4 HP5 hg5
                generalize w5.alloc (.cells #[.int .i64 ei.f, .slice ei.a ei.xs.length ei.cp, .int .i64 ei.y] 33) = w6 at *
                clear hA
                generalize w5.heap.size = bx at *
                obtain ⟨ej, -, c0, c1, c2, c5, c6⟩ := HP6.out.at (i := j) (by omega)
                obtain ⟨ek, -, d0, d1, d2, -, -⟩ := HP6.out.at (i := i) (by omega)
                have fz := fun o => World.ownsRow.frozenAt HP6.out.own o
                go_upto_region 23 with fail
                have HP7 := Lib.hid (HP6.out.put hB i (by omega) ej ⟨c5, c6⟩)
                have HV7 := Lib.hid (((HV6.out.set ⟨g, i * 3, none⟩ (.inr rfl) (.int .i64 ej.f)).set ⟨g, i * 3 + 1, none⟩ (.inr rfl) (.slice ej.a ej.xs.length ej.cp)).set ⟨g, i * 3 + 2, none⟩ (.inr rfl) (.int .i64 ej.y))
                have hst : ∀ (W : World) (o m : Nat) (u : Value), (W.setCell ⟨g, m, none⟩ u).cell? ⟨bx, o, none⟩ = W.cell? ⟨bx, o, none⟩ := fun W o m u => World.cell?_of_block (a := ⟨bx, o, none⟩) (Below.heap_setCell _ _ _ _ hgx)
                have e0 := (((hst _ 0 (i * 3 + 2) (.int .i64 ej.y)).trans (hst _ 0 (i * 3 + 1) (.slice ej.a ej.xs.length ej.cp))).trans (hst w6 0 (i * 3) (.int .i64 ej.f))).trans b0
                have e1 := (((hst _ 1 (i * 3 + 2) (.int .i64 ej.y)).trans (hst _ 1 (i * 3 + 1) (.slice ej.a ej.xs.length ej.cp))).trans (hst w6 1 (i * 3) (.int .i64 ej.f))).trans b1
                have e2 := (((hst _ 2 (i * 3 + 2) (.int .i64 ej.y)).trans (hst _ 2 (i * 3 + 1) (.slice ej.a ej.xs.length ej.cp))).trans (hst w6 2 (i * 3) (.int .i64 ej.f))).trans b2
                clear c0 c1 c2 c5 c6 d0 d1 d2 fz HP6 HV6 b0 b1 b2 hst
                generalize ((w6.setCell ⟨g, i * 3, none⟩ (.int .i64 ej.f)).setCell ⟨g, i * 3 + 1, none⟩ (.slice ej.a ej.xs.length ej.cp)).setCell ⟨g, i * 3 + 2, none⟩ (.int .i64 ej.y) = w7 at *
                obtain ⟨el, -, d0, d1, d2, -, -⟩ := HP7.out.at (i := j) (by omega)
                have fz := fun o => World.ownsRow.frozenAt HP7.out.own o
                have HP8 := Lib.hid (HP7.out.put hB j (by omega) ei ⟨c3, HV7.out⟩)
                have hk1 : ((k - 1 : Nat) : Int) = (k : Int) - 1 := by omega
                clear HP7 HV7
                go_wp2
                exact ⟨⟨k - 1, _, by omega, by rw [hk1], HP8.out.more (by rw [hk1]; omega)⟩, by simp [intOf]; omega⟩
              · have i2 : ¬ (1 : Int) < (n : Int) := by omega
                have HP4 := Lib.hid (HP.out.more (show _ ≤ N + 1100 by omega))
                clear HP
                go_wp2_with fail
                refine (once_any B a len cap _ 6 _ (by omega) (by omega) (by omega) HP4.out.cur).mono ?_
                rintro e w7 ⟨rb, rfl, hc, hh⟩
                have HP7 := Lib.hid (HP4.out.move hB hh hc)
                clear hc hh HP4
                cases rb
                · have HO := Lib.hid HP7.out.out
                  clear HP7
                  go_wp2_with fail
                  refine (once_any B a len cap _ 14 _ (by omega) (by omega) (by omega) HO.out.cur).mono ?_
                  rintro e w8 ⟨rc, rfl, hc, hh⟩
                  have HO8 := Lib.hid (HO.out.move hB hh hc)
                  clear hc hh HO
                  cases rc
                  · go_wp2
                    go_ret
                    exact ⟨some ⟨g, 0, none⟩, c, (es).map toPst, by rw [List.length_map, HO8.out.len]; rfl, by rw [List.length_map, HO8.out.len]; omega, by rw [List.length_map, HO8.out.len]; exact HO8.out.le, small_of fun e he => (HO8.out.vs e he).1, HO8.out.isPs, HO8.out.cur.more (by omega), HO8.out.hole⟩
                  · go_wp2_with fail
                    refine (raw_any B a len cap _ _ (by omega) HO8.out.cur).mono ?_
                    rintro e w9 ⟨rr, rfl, hc, hh⟩
                    have HO9 := Lib.hid (HO8.out.move hB hh hc)
                    clear hc hh HO8
                    go_wp2_with fail
                    refine (vec_any B a len cap _ _ (by omega) HO9.out.cur).mono ?_
                    rintro e w10 ⟨gv, cv, zs, rfl, hz5, hrow, hc, hh⟩
                    have hl9 := HO9.out.lo
                    have hg9 := HO9.out.gl
                    have HV := Lib.hid (Vs.row (base := w.heap.size + 1) hrow rfl (by omega) hg9)
                    have HO10 := Lib.hid (HO9.out.move hB hh hc)
                    clear hc hh hrow HO9 hg9
                    have hA : Below w10.heap.size w10 (w10.alloc (.cells #[.int .i64 rr, .slice (some ⟨gv, 0, none⟩) zs.length cv, .int .i64 0] 33)) := (Below.refl _ _).alloc (Nat.le_refl _) _
                    have HO11 := Lib.hid (HO10.out.move hB (Hole.of_below hA) (HO10.out.cur.below hA))
                    have HE : Hid ((⟨rr, zs, 0, some ⟨gv, 0, none⟩, cv⟩ : EnQ).xs.length ≤ 5 ∧ Vs (w10.alloc (.cells #[.int .i64 rr, .slice (some ⟨gv, 0, none⟩) zs.length cv, .int .i64 0] 33)) (w.heap.size + 1) g (some ⟨gv, 0, none⟩) zs) := ⟨hz5, HV.out.off (Hole.of_below (B := B) hA) (by omega)⟩
                    have HCL : Hid (∀ j u, (pqVals ⟨rr, zs, 0, some ⟨gv, 0, none⟩, cv⟩)[j]? = some u → (w10.alloc (.cells #[.int .i64 rr, .slice (some ⟨gv, 0, none⟩) zs.length cv, .int .i64 0] 33)).cell? ((⟨w10.heap.size, 0, none⟩ : Addr).add j) = some u) := by
                      intro j u hu
                      rw [add_at, Nat.zero_add, cell_of_row _ _ j _ _ (0, 0) (heap_alloc_new w10 _), ← hu]
                      simp [pqVals]
                    clear hA HO10 HV hl9
                    simp only [vecV]
                    have hfd := run_field_vec
                    go_wp2_with (at_builtin; refine wpList_app HO11.out hB (by omega) (by rfl) _ _ _ (by rfl) ii (postV 0 none 0 0 0) Try.underlying24 HII.out HXI.out.1 HXI.out.2.1 HXI.out.2.2 (by rfl) w10.heap.size (by rfl) ⟨rr, zs, 0, some ⟨gv, 0, none⟩, cv⟩ HCL.out HE.out ?_; intro x12 cp12 w12 h0 h1 h2 h3; refine Hid.out ?_)
                    refine Lib.hid ?_
                    have HL := Lib.hid HO11.out.len
                    have HVS := Lib.hid HO11.out.vs
                    clear HO11 HCL
                    have H1 := Lib.hid h1
                    have H2 := Lib.hid (h2.more (show _ ≤ N + 2000 by omega))
                    have H3 := Lib.hid h3
                    clear h1 h2 h3
                    go_wp2
                    go_ret
                    refine ⟨x12, cp12, (es ++ [(⟨rr, zs, 0, some ⟨gv, 0, none⟩, cv⟩ : EnQ)]).map toPst, by rw [List.length_map, List.length_append, HL.out]; rfl, by rw [List.length_map, List.length_append, HL.out]; show _ + 1 ≤ 12; omega, by rw [List.length_map, List.length_append, HL.out]; exact h0, small_of fun e he => ?_, H1.out, H2.out, H3.out⟩
                    rcases List.mem_append.1 he with he | he
                    · exact (HVS.out e he).1
                    · obtain rfl : e = _ := by simpa using he
                      exact hz5
                · by_cases hn0 : n = 0
                  · subst hn0
                    have HO := Lib.hid HP7.out.out
                    clear HP7
                    go_wp2_with fail
                    refine (once_any B a len cap _ 14 _ (by omega) (by omega) (by omega) HO.out.cur).mono ?_
                    rintro e w8 ⟨rc, rfl, hc, hh⟩
                    have HO8 := Lib.hid (HO.out.move hB hh hc)
                    clear hc hh HO
                    cases rc
                    · go_wp2
                      go_ret
                      exact ⟨some ⟨g, 0, none⟩, c, (es).map toPst, by rw [List.length_map, HO8.out.len]; rfl, by rw [List.length_map, HO8.out.len]; omega, by rw [List.length_map, HO8.out.len]; exact HO8.out.le, small_of fun e he => (HO8.out.vs e he).1, HO8.out.isPs, HO8.out.cur.more (by omega), HO8.out.hole⟩
                    · go_wp2_with fail
                      refine (raw_any B a len cap _ _ (by omega) HO8.out.cur).mono ?_
                      rintro e w9 ⟨rr, rfl, hc, hh⟩
                      have HO9 := Lib.hid (HO8.out.move hB hh hc)
                      clear hc hh HO8
                      go_wp2_with fail
                      refine (vec_any B a len cap _ _ (by omega) HO9.out.cur).mono ?_
                      rintro e w10 ⟨gv, cv, zs, rfl, hz5, hrow, hc, hh⟩
                      have hl9 := HO9.out.lo
                      have hg9 := HO9.out.gl
                      have HV := Lib.hid (Vs.row (base := w.heap.size + 1) hrow rfl (by omega) hg9)
                      have HO10 := Lib.hid (HO9.out.move hB hh hc)
                      clear hc hh hrow HO9 hg9
                      have hA : Below w10.heap.size w10 (w10.alloc (.cells #[.int .i64 rr, .slice (some ⟨gv, 0, none⟩) zs.length cv, .int .i64 0] 33)) := (Below.refl _ _).alloc (Nat.le_refl _) _
                      have HO11 := Lib.hid (HO10.out.move hB (Hole.of_below hA) (HO10.out.cur.below hA))
                      have HE : Hid ((⟨rr, zs, 0, some ⟨gv, 0, none⟩, cv⟩ : EnQ).xs.length ≤ 5 ∧ Vs (w10.alloc (.cells #[.int .i64 rr, .slice (some ⟨gv, 0, none⟩) zs.length cv, .int .i64 0] 33)) (w.heap.size + 1) g (some ⟨gv, 0, none⟩) zs) := ⟨hz5, HV.out.off (Hole.of_below (B := B) hA) (by omega)⟩
                      have HCL : Hid (∀ j u, (pqVals ⟨rr, zs, 0, some ⟨gv, 0, none⟩, cv⟩)[j]? = some u → (w10.alloc (.cells #[.int .i64 rr, .slice (some ⟨gv, 0, none⟩) zs.length cv, .int .i64 0] 33)).cell? ((⟨w10.heap.size, 0, none⟩ : Addr).add j) = some u) := by
                        intro j u hu
                        rw [add_at, Nat.zero_add, cell_of_row _ _ j _ _ (0, 0) (heap_alloc_new w10 _), ← hu]
                        simp [pqVals]
                      clear hA HO10 HV hl9
                      simp only [vecV]
                      have hfd := run_field_vec
                      go_wp2_with (at_builtin; refine wpList_app HO11.out hB (by omega) (by rfl) _ _ _ (by rfl) ii (postV 0 none 0 0 0) Try.underlying24 HII.out HXI.out.1 HXI.out.2.1 HXI.out.2.2 (by rfl) w10.heap.size (by rfl) ⟨rr, zs, 0, some ⟨gv, 0, none⟩, cv⟩ HCL.out HE.out ?_; intro x12 cp12 w12 h0 h1 h2 h3; refine Hid.out ?_)
                      refine Lib.hid ?_
                      have HL := Lib.hid HO11.out.len
                      have HVS := Lib.hid HO11.out.vs
                      clear HO11 HCL
                      have H1 := Lib.hid h1
                      have H2 := Lib.hid (h2.more (show _ ≤ N + 2000 by omega))
                      have H3 := Lib.hid h3
                      clear h1 h2 h3
                      go_wp2
                      go_ret
                      refine ⟨x12, cp12, (es ++ [(⟨rr, zs, 0, some ⟨gv, 0, none⟩, cv⟩ : EnQ)]).map toPst, by rw [List.length_map, List.length_append, HL.out]; rfl, by rw [List.length_map, List.length_append, HL.out]; show _ + 1 ≤ 12; omega, by rw [List.length_map, List.length_append, HL.out]; exact h0, small_of fun e he => ?_, H1.out, H2.out, H3.out⟩
                      rcases List.mem_append.1 he with he | he
                      · exact (HVS.out e he).1
                      · obtain rfl : e = _ := by simpa using he
                        exact hz5
                  · obtain ⟨n1, rfl⟩ : ∃ m, n = m + 1 := ⟨n - 1, by omega⟩
                    have hform := HP7.out.form.1
                    have z1 : (0 : Int) < ((n1 + 1 : Nat) : Int) := by omega
                    by_cases hc1 : c = 1
                    · subst hc1
                      obtain rfl : n1 = 0 := by omega
                      have HO := Lib.hid HP7.out.none
                      clear HP7
                      go_wp2_with fail
                      refine (once_any B a len cap _ 14 _ (by omega) (by omega) (by omega) HO.out.cur).mono ?_
                      rintro e w8 ⟨rc, rfl, hc, hh⟩
                      have HO8 := Lib.hid (HO.out.move hB hh hc)
                      clear hc hh HO
                      cases rc
                      · go_wp2
                        go_ret
                        exact ⟨some ⟨g, 0, none⟩, 0, (([] : List EnQ)).map toPst, by rw [List.length_map, HO8.out.len]; rfl, by rw [List.length_map, HO8.out.len]; omega, by rw [List.length_map, HO8.out.len]; exact HO8.out.le, small_of fun e he => (HO8.out.vs e he).1, HO8.out.isPs, HO8.out.cur.more (by omega), HO8.out.hole⟩
                      · go_wp2_with fail
                        refine (raw_any B a len cap _ _ (by omega) HO8.out.cur).mono ?_
                        rintro e w9 ⟨rr, rfl, hc, hh⟩
                        have HO9 := Lib.hid (HO8.out.move hB hh hc)
                        clear hc hh HO8
                        go_wp2_with fail
                        refine (vec_any B a len cap _ _ (by omega) HO9.out.cur).mono ?_
                        rintro e w10 ⟨gv, cv, zs, rfl, hz5, hrow, hc, hh⟩
                        have hl9 := HO9.out.lo
                        have hg9 := HO9.out.gl
                        have HV := Lib.hid (Vs.row (base := w.heap.size + 1) hrow rfl (by omega) hg9)
                        have HO10 := Lib.hid (HO9.out.move hB hh hc)
                        clear hc hh hrow HO9 hg9
                        have hA : Below w10.heap.size w10 (w10.alloc (.cells #[.int .i64 rr, .slice (some ⟨gv, 0, none⟩) zs.length cv, .int .i64 0] 33)) := (Below.refl _ _).alloc (Nat.le_refl _) _
                        have HO11 := Lib.hid (HO10.out.move hB (Hole.of_below hA) (HO10.out.cur.below hA))
                        have HE : Hid ((⟨rr, zs, 0, some ⟨gv, 0, none⟩, cv⟩ : EnQ).xs.length ≤ 5 ∧ Vs (w10.alloc (.cells #[.int .i64 rr, .slice (some ⟨gv, 0, none⟩) zs.length cv, .int .i64 0] 33)) (w.heap.size + 1) g (some ⟨gv, 0, none⟩) zs) := ⟨hz5, HV.out.off (Hole.of_below (B := B) hA) (by omega)⟩
                        have HCL : Hid (∀ j u, (pqVals ⟨rr, zs, 0, some ⟨gv, 0, none⟩, cv⟩)[j]? = some u → (w10.alloc (.cells #[.int .i64 rr, .slice (some ⟨gv, 0, none⟩) zs.length cv, .int .i64 0] 33)).cell? ((⟨w10.heap.size, 0, none⟩ : Addr).add j) = some u) := by
                          intro j u hu
                          rw [add_at, Nat.zero_add, cell_of_row _ _ j _ _ (0, 0) (heap_alloc_new w10 _), ← hu]
                          simp [pqVals]
                        clear hA HO10 HV hl9
                        simp only [vecV]
                        have hfd := run_field_vec
                        go_wp2_with (at_builtin; refine wpList_app HO11.out hB (by omega) (by rfl) _ _ _ (by rfl) ii (postV 0 none 0 0 0) Try.underlying24 HII.out HXI.out.1 HXI.out.2.1 HXI.out.2.2 (by rfl) w10.heap.size (by rfl) ⟨rr, zs, 0, some ⟨gv, 0, none⟩, cv⟩ HCL.out HE.out ?_; intro x12 cp12 w12 h0 h1 h2 h3; refine Hid.out ?_)
                        refine Lib.hid ?_
                        have HL := Lib.hid HO11.out.len
                        have HVS := Lib.hid HO11.out.vs
                        clear HO11 HCL
                        have H1 := Lib.hid h1
                        have H2 := Lib.hid (h2.more (show _ ≤ N + 2000 by omega))
                        have H3 := Lib.hid h3
                        clear h1 h2 h3
                        go_wp2
                        go_ret
                        refine ⟨x12, cp12, (([] : List EnQ) ++ [(⟨rr, zs, 0, some ⟨gv, 0, none⟩, cv⟩ : EnQ)]).map toPst, by rw [List.length_map, List.length_append, HL.out]; rfl, by rw [List.length_map, List.length_append, HL.out]; show _ + 1 ≤ 12; omega, by rw [List.length_map, List.length_append, HL.out]; exact h0, small_of fun e he => ?_, H1.out, H2.out, H3.out⟩
                        rcases List.mem_append.1 he with he | he
                        · exact (HVS.out e he).1
                        · obtain rfl : e = _ := by simpa using he
                          exact hz5
                    · have hc2 : ¬ c - 1 = 0 := by omega
                      have HO := Lib.hid HP7.out.tail
                      clear HP7
                      go_wp2_with fail
                      refine (once_any B a len cap _ 14 _ (by omega) (by omega) (by omega) HO.out.cur).mono ?_
                      rintro e w8 ⟨rc, rfl, hc, hh⟩
                      have HO8 := Lib.hid (HO.out.move hB hh hc)
                      clear hc hh HO
                      cases rc
                      · go_wp2
                        go_ret
                        exact ⟨some ⟨g, 3, none⟩, (c - 1), (es.tail).map toPst, by rw [List.length_map, HO8.out.len]; rfl, by rw [List.length_map, HO8.out.len]; omega, by rw [List.length_map, HO8.out.len]; exact HO8.out.le, small_of fun e he => (HO8.out.vs e he).1, HO8.out.isPs, HO8.out.cur.more (by omega), HO8.out.hole⟩
                      · go_wp2_with fail
                        refine (raw_any B a len cap _ _ (by omega) HO8.out.cur).mono ?_
                        rintro e w9 ⟨rr, rfl, hc, hh⟩
                        have HO9 := Lib.hid (HO8.out.move hB hh hc)
                        clear hc hh HO8
                        go_wp2_with fail
                        refine (vec_any B a len cap _ _ (by omega) HO9.out.cur).mono ?_
                        rintro e w10 ⟨gv, cv, zs, rfl, hz5, hrow, hc, hh⟩
                        have hl9 := HO9.out.lo
                        have hg9 := HO9.out.gl
                        have HV := Lib.hid (Vs.row (base := w.heap.size + 1) hrow rfl (by omega) hg9)
                        have HO10 := Lib.hid (HO9.out.move hB hh hc)
                        clear hc hh hrow HO9 hg9
                        have hA : Below w10.heap.size w10 (w10.alloc (.cells #[.int .i64 rr, .slice (some ⟨gv, 0, none⟩) zs.length cv, .int .i64 0] 33)) := (Below.refl _ _).alloc (Nat.le_refl _) _
                        have HO11 := Lib.hid (HO10.out.move hB (Hole.of_below hA) (HO10.out.cur.below hA))
                        have HE : Hid ((⟨rr, zs, 0, some ⟨gv, 0, none⟩, cv⟩ : EnQ).xs.length ≤ 5 ∧ Vs (w10.alloc (.cells #[.int .i64 rr, .slice (some ⟨gv, 0, none⟩) zs.length cv, .int .i64 0] 33)) (w.heap.size + 1) g (some ⟨gv, 0, none⟩) zs) := ⟨hz5, HV.out.off (Hole.of_below (B := B) hA) (by omega)⟩
                        have HCL : Hid (∀ j u, (pqVals ⟨rr, zs, 0, some ⟨gv, 0, none⟩, cv⟩)[j]? = some u → (w10.alloc (.cells #[.int .i64 rr, .slice (some ⟨gv, 0, none⟩) zs.length cv, .int .i64 0] 33)).cell? ((⟨w10.heap.size, 0, none⟩ : Addr).add j) = some u) := by
                          intro j u hu
                          rw [add_at, Nat.zero_add, cell_of_row _ _ j _ _ (0, 0) (heap_alloc_new w10 _), ← hu]
                          simp [pqVals]
                        clear hA HO10 HV hl9
                        simp only [vecV]
                        have hfd := run_field_vec
                        go_wp2_with (at_builtin; refine wpList_app HO11.out hB (by omega) (by rfl) _ _ _ (by rfl) ii (postV 0 none 0 0 0) Try.underlying24 HII.out HXI.out.1 HXI.out.2.1 HXI.out.2.2 (by rfl) w10.heap.size (by rfl) ⟨rr, zs, 0, some ⟨gv, 0, none⟩, cv⟩ HCL.out HE.out ?_; intro x12 cp12 w12 h0 h1 h2 h3; refine Hid.out ?_)
                        refine Lib.hid ?_
                        have HL := Lib.hid HO11.out.len
                        have HVS := Lib.hid HO11.out.vs
                        clear HO11 HCL
                        have H1 := Lib.hid h1
                        have H2 := Lib.hid (h2.more (show _ ≤ N + 2000 by omega))
                        have H3 := Lib.hid h3
                        clear h1 h2 h3
                        go_wp2
                        go_ret
                        refine ⟨x12, cp12, (es.tail ++ [(⟨rr, zs, 0, some ⟨gv, 0, none⟩, cv⟩ : EnQ)]).map toPst, by rw [List.length_map, List.length_append, HL.out]; rfl, by rw [List.length_map, List.length_append, HL.out]; show _ + 1 ≤ 12; omega, by rw [List.length_map, List.length_append, HL.out]; exact h0, small_of fun e he => ?_, H1.out, H2.out, H3.out⟩
                        rcases List.mem_append.1 he with he | he
                        · exact (HVS.out e he).1
                        · obtain rfl : e = _ := by simpa using he
                          exact hz5
            · obtain rfl : k = 0 := by omega
              have HP4 := Lib.hid (HP.out.more (show _ ≤ N + 1100 by omega))
              clear HP
              go_wp2_with fail
              refine (once_any B a len cap _ 6 _ (by omega) (by omega) (by omega) HP4.out.cur).mono ?_
              rintro e w7 ⟨rb, rfl, hc, hh⟩
              have HP7 := Lib.hid (HP4.out.move hB hh hc)
              clear hc hh HP4
              cases rb
              · have HO := Lib.hid HP7.out.out
                clear HP7
                go_wp2_with fail
                refine (once_any B a len cap _ 14 _ (by omega) (by omega) (by omega) HO.out.cur).mono ?_
                rintro e w8 ⟨rc, rfl, hc, hh⟩
                have HO8 := Lib.hid (HO.out.move hB hh hc)
                clear hc hh HO
                cases rc
                · go_wp2
                  go_ret
                  exact ⟨some ⟨g, 0, none⟩, c, (es).map toPst, by rw [List.length_map, HO8.out.len]; rfl, by rw [List.length_map, HO8.out.len]; omega, by rw [List.length_map, HO8.out.len]; exact HO8.out.le, small_of fun e he => (HO8.out.vs e he).1, HO8.out.isPs, HO8.out.cur.more (by omega), HO8.out.hole⟩
                · go_wp2_with fail
                  refine (raw_any B a len cap _ _ (by omega) HO8.out.cur).mono ?_
                  rintro e w9 ⟨rr, rfl, hc, hh⟩
                  have HO9 := Lib.hid (HO8.out.move hB hh hc)
                  clear hc hh HO8
                  go_wp2_with fail
                  refine (vec_any B a len cap _ _ (by omega) HO9.out.cur).mono ?_
                  rintro e w10 ⟨gv, cv, zs, rfl, hz5, hrow, hc, hh⟩
                  have hl9 := HO9.out.lo
                  have hg9 := HO9.out.gl
                  have HV := Lib.hid (Vs.row (base := w.heap.size + 1) hrow rfl (by omega) hg9)
                  have HO10 := Lib.hid (HO9.out.move hB hh hc)
                  clear hc hh hrow HO9 hg9
                  have hA : Below w10.heap.size w10 (w10.alloc (.cells #[.int .i64 rr, .slice (some ⟨gv, 0, none⟩) zs.length cv, .int .i64 0] 33)) := (Below.refl _ _).alloc (Nat.le_refl _) _
                  have HO11 := Lib.hid (HO10.out.move hB (Hole.of_below hA) (HO10.out.cur.below hA))
                  have HE : Hid ((⟨rr, zs, 0, some ⟨gv, 0, none⟩, cv⟩ : EnQ).xs.length ≤ 5 ∧ Vs (w10.alloc (.cells #[.int .i64 rr, .slice (some ⟨gv, 0, none⟩) zs.length cv, .int .i64 0] 33)) (w.heap.size + 1) g (some ⟨gv, 0, none⟩) zs) := ⟨hz5, HV.out.off (Hole.of_below (B := B) hA) (by omega)⟩
                  have HCL : Hid (∀ j u, (pqVals ⟨rr, zs, 0, some ⟨gv, 0, none⟩, cv⟩)[j]? = some u → (w10.alloc (.cells #[.int .i64 rr, .slice (some ⟨gv, 0, none⟩) zs.length cv, .int .i64 0] 33)).cell? ((⟨w10.heap.size, 0, none⟩ : Addr).add j) = some u) := by
                    intro j u hu
                    rw [add_at, Nat.zero_add, cell_of_row _ _ j _ _ (0, 0) (heap_alloc_new w10 _), ← hu]
                    simp [pqVals]
                  clear hA HO10 HV hl9
                  simp only [vecV]
                  have hfd := run_field_vec
                  go_wp2_with (at_builtin; refine wpList_app HO11.out hB (by omega) (by rfl) _ _ _ (by rfl) ii (postV 0 none 0 0 0) Try.underlying24 HII.out HXI.out.1 HXI.out.2.1 HXI.out.2.2 (by rfl) w10.heap.size (by rfl) ⟨rr, zs, 0, some ⟨gv, 0, none⟩, cv⟩ HCL.out HE.out ?_; intro x12 cp12 w12 h0 h1 h2 h3; refine Hid.out ?_)
                  refine Lib.hid ?_
                  have HL := Lib.hid HO11.out.len
                  have HVS := Lib.hid HO11.out.vs
                  clear HO11 HCL
                  have H1 := Lib.hid h1
                  have H2 := Lib.hid (h2.more (show _ ≤ N + 2000 by omega))
                  have H3 := Lib.hid h3
                  clear h1 h2 h3
                  go_wp2
                  go_ret
                  refine ⟨x12, cp12, (es ++ [(⟨rr, zs, 0, some ⟨gv, 0, none⟩, cv⟩ : EnQ)]).map toPst, by rw [List.length_map, List.length_append, HL.out]; rfl, by rw [List.length_map, List.length_append, HL.out]; show _ + 1 ≤ 12; omega, by rw [List.length_map, List.length_append, HL.out]; exact h0, small_of fun e he => ?_, H1.out, H2.out, H3.out⟩
                  rcases List.mem_append.1 he with he | he
                  · exact (HVS.out e he).1
                  · obtain rfl : e = _ := by simpa using he
                    exact hz5
              · by_cases hn0 : n = 0
                · subst hn0
                  have HO := Lib.hid HP7.out.out
                  clear HP7
                  go_wp2_with fail
                  refine (once_any B a len cap _ 14 _ (by omega) (by omega) (by omega) HO.out.cur).mono ?_
                  rintro e w8 ⟨rc, rfl, hc, hh⟩
                  have HO8 := Lib.hid (HO.out.move hB hh hc)
                  clear hc hh HO
                  cases rc
                  · go_wp2
                    go_ret
                    exact ⟨some ⟨g, 0, none⟩, c, (es).map toPst, by rw [List.length_map, HO8.out.len]; rfl, by rw [List.length_map, HO8.out.len]; omega, by rw [List.length_map, HO8.out.len]; exact HO8.out.le, small_of fun e he => (HO8.out.vs e he).1, HO8.out.isPs, HO8.out.cur.more (by omega), HO8.out.hole⟩
                  · go_wp2_with fail
                    refine (raw_any B a len cap _ _ (by omega) HO8.out.cur).mono ?_
                    rintro e w9 ⟨rr, rfl, hc, hh⟩
                    have HO9 := Lib.hid (HO8.out.move hB hh hc)
                    clear hc hh HO8
                    go_wp2_with fail
                    refine (vec_any B a len cap _ _ (by omega) HO9.out.cur).mono ?_
                    rintro e w10 ⟨gv, cv, zs, rfl, hz5, hrow, hc, hh⟩
                    have hl9 := HO9.out.lo
                    have hg9 := HO9.out.gl
                    have HV := Lib.hid (Vs.row (base := w.heap.size + 1) hrow rfl (by omega) hg9)
                    have HO10 := Lib.hid (HO9.out.move hB hh hc)
                    clear hc hh hrow HO9 hg9
                    have hA : Below w10.heap.size w10 (w10.alloc (.cells #[.int .i64 rr, .slice (some ⟨gv, 0, none⟩) zs.length cv, .int .i64 0] 33)) := (Below.refl _ _).alloc (Nat.le_refl _) _
                    have HO11 := Lib.hid (HO10.out.move hB (Hole.of_below hA) (HO10.out.cur.below hA))
                    have HE : Hid ((⟨rr, zs, 0, some ⟨gv, 0, none⟩, cv⟩ : EnQ).xs.length ≤ 5 ∧ Vs (w10.alloc (.cells #[.int .i64 rr, .slice (some ⟨gv, 0, none⟩) zs.length cv, .int .i64 0] 33)) (w.heap.size + 1) g (some ⟨gv, 0, none⟩) zs) := ⟨hz5, HV.out.off (Hole.of_below (B := B) hA) (by omega)⟩
                    have HCL : Hid (∀ j u, (pqVals ⟨rr, zs, 0, some ⟨gv, 0, none⟩, cv⟩)[j]? = some u → (w10.alloc (.cells #[.int .i64 rr, .slice (some ⟨gv, 0, none⟩) zs.length cv, .int .i64 0] 33)).cell? ((⟨w10.heap.size, 0, none⟩ : Addr).add j) = some u) := by
                      intro j u hu
                      rw [add_at, Nat.zero_add, cell_of_row _ _ j _ _ (0, 0) (heap_alloc_new w10 _), ← hu]
                      simp [pqVals]
                    clear hA HO10 HV hl9
                    simp only [vecV]
                    have hfd := run_field_vec
                    go_wp2_with (at_builtin; refine wpList_app HO11.out hB (by omega) (by rfl) _ _ _ (by rfl) ii (postV 0 none 0 0 0) Try.underlying24 HII.out HXI.out.1 HXI.out.2.1 HXI.out.2.2 (by rfl) w10.heap.size (by rfl) ⟨rr, zs, 0, some ⟨gv, 0, none⟩, cv⟩ HCL.out HE.out ?_; intro x12 cp12 w12 h0 h1 h2 h3; refine Hid.out ?_)
                    refine Lib.hid ?_
                    have HL := Lib.hid HO11.out.len
                    have HVS := Lib.hid HO11.out.vs
                    clear HO11 HCL
                    have H1 := Lib.hid h1
                    have H2 := Lib.hid (h2.more (show _ ≤ N + 2000 by omega))
                    have H3 := Lib.hid h3
                    clear h1 h2 h3
                    go_wp2
                    go_ret
                    refine ⟨x12, cp12, (es ++ [(⟨rr, zs, 0, some ⟨gv, 0, none⟩, cv⟩ : EnQ)]).map toPst, by rw [List.length_map, List.length_append, HL.out]; rfl, by rw [List.length_map, List.length_append, HL.out]; show _ + 1 ≤ 12; omega, by rw [List.length_map, List.length_append, HL.out]; exact h0, small_of fun e he => ?_, H1.out, H2.out, H3.out⟩
                    rcases List.mem_append.1 he with he | he
                    · exact (HVS.out e he).1
                    · obtain rfl : e = _ := by simpa using he
                      exact hz5
                · obtain ⟨n1, rfl⟩ : ∃ m, n = m + 1 := ⟨n - 1, by omega⟩
                  have hform := HP7.out.form.1
                  have z1 : (0 : Int) < ((n1 + 1 : Nat) : Int) := by omega
                  by_cases hc1 : c = 1
                  · subst hc1
                    obtain rfl : n1 = 0 := by omega
                    have HO := Lib.hid HP7.out.none
                    clear HP7
                    go_wp2_with fail
                    refine (once_any B a len cap _ 14 _ (by omega) (by omega) (by omega) HO.out.cur).mono ?_
                    rintro e w8 ⟨rc, rfl, hc, hh⟩
                    have HO8 := Lib.hid (HO.out.move hB hh hc)
                    clear hc hh HO
                    cases rc
                    · go_wp2
                      go_ret
                      exact ⟨some ⟨g, 0, none⟩, 0, (([] : List EnQ)).map toPst, by rw [List.length_map, HO8.out.len]; rfl, by rw [List.length_map, HO8.out.len]; omega, by rw [List.length_map, HO8.out.len]; exact HO8.out.le, small_of fun e he => (HO8.out.vs e he).1, HO8.out.isPs, HO8.out.cur.more (by omega), HO8.out.hole⟩
                    · go_wp2_with fail
                      refine (raw_any B a len cap _ _ (by omega) HO8.out.cur).mono ?_
                      rintro e w9 ⟨rr, rfl, hc, hh⟩
                      have HO9 := Lib.hid (HO8.out.move hB hh hc)
                      clear hc hh HO8
                      go_wp2_with fail
                      refine (vec_any B a len cap _ _ (by omega) HO9.out.cur).mono ?_
                      rintro e w10 ⟨gv, cv, zs, rfl, hz5, hrow, hc, hh⟩
                      have hl9 := HO9.out.lo
                      have hg9 := HO9.out.gl
                      have HV := Lib.hid (Vs.row (base := w.heap.size + 1) hrow rfl (by omega) hg9)
                      have HO10 := Lib.hid (HO9.out.move hB hh hc)
                      clear hc hh hrow HO9 hg9
                      have hA : Below w10.heap.size w10 (w10.alloc (.cells #[.int .i64 rr, .slice (some ⟨gv, 0, none⟩) zs.length cv, .int .i64 0] 33)) := (Below.refl _ _).alloc (Nat.le_refl _) _
                      have HO11 := Lib.hid (HO10.out.move hB (Hole.of_below hA) (HO10.out.cur.below hA))
                      have HE : Hid ((⟨rr, zs, 0, some ⟨gv, 0, none⟩, cv⟩ : EnQ).xs.length ≤ 5 ∧ Vs (w10.alloc (.cells #[.int .i64 rr, .slice (some ⟨gv, 0, none⟩) zs.length cv, .int .i64 0] 33)) (w.heap.size + 1) g (some ⟨gv, 0, none⟩) zs) := ⟨hz5, HV.out.off (Hole.of_below (B := B) hA) (by omega)⟩
                      have HCL : Hid (∀ j u, (pqVals ⟨rr, zs, 0, some ⟨gv, 0, none⟩, cv⟩)[j]? = some u → (w10.alloc (.cells #[.int .i64 rr, .slice (some ⟨gv, 0, none⟩) zs.length cv, .int .i64 0] 33)).cell? ((⟨w10.heap.size, 0, none⟩ : Addr).add j) = some u) := by
                        intro j u hu
                        rw [add_at, Nat.zero_add, cell_of_row _ _ j _ _ (0, 0) (heap_alloc_new w10 _), ← hu]
                        simp [pqVals]
                      clear hA HO10 HV hl9
                      simp only [vecV]
                      have hfd := run_field_vec
                      go_wp2_with (at_builtin; refine wpList_app HO11.out hB (by omega) (by rfl) _ _ _ (by rfl) ii (postV 0 none 0 0 0) Try.underlying24 HII.out HXI.out.1 HXI.out.2.1 HXI.out.2.2 (by rfl) w10.heap.size (by rfl) ⟨rr, zs, 0, some ⟨gv, 0, none⟩, cv⟩ HCL.out HE.out ?_; intro x12 cp12 w12 h0 h1 h2 h3; refine Hid.out ?_)
                      refine Lib.hid ?_
                      have HL := Lib.hid HO11.out.len
                      have HVS := Lib.hid HO11.out.vs
                      clear HO11 HCL
                      have H1 := Lib.hid h1
                      have H2 := Lib.hid (h2.more (show _ ≤ N + 2000 by omega))
                      have H3 := Lib.hid h3
                      clear h1 h2 h3
                      go_wp2
                      go_ret
                      refine ⟨x12, cp12, (([] : List EnQ) ++ [(⟨rr, zs, 0, some ⟨gv, 0, none⟩, cv⟩ : EnQ)]).map toPst, by rw [List.length_map, List.length_append, HL.out]; rfl, by rw [List.length_map, List.length_append, HL.out]; show _ + 1 ≤ 12; omega, by rw [List.length_map, List.length_append, HL.out]; exact h0, small_of fun e he => ?_, H1.out, H2.out, H3.out⟩
                      rcases List.mem_append.1 he with he | he
                      · exact (HVS.out e he).1
                      · obtain rfl : e = _ := by simpa using he
                        exact hz5
                  · have hc2 : ¬ c - 1 = 0 := by omega
                    have HO := Lib.hid HP7.out.tail
                    clear HP7
                    go_wp2_with fail
                    refine (once_any B a len cap _ 14 _ (by omega) (by omega) (by omega) HO.out.cur).mono ?_
                    rintro e w8 ⟨rc, rfl, hc, hh⟩
                    have HO8 := Lib.hid (HO.out.move hB hh hc)
                    clear hc hh HO
                    cases rc
                    · go_wp2
                      go_ret
                      exact ⟨some ⟨g, 3, none⟩, (c - 1), (es.tail).map toPst, by rw [List.length_map, HO8.out.len]; rfl, by rw [List.length_map, HO8.out.len]; omega, by rw [List.length_map, HO8.out.len]; exact HO8.out.le, small_of fun e he => (HO8.out.vs e he).1, HO8.out.isPs, HO8.out.cur.more (by omega), HO8.out.hole⟩
                    · go_wp2_with fail
                      refine (raw_any B a len cap _ _ (by omega) HO8.out.cur).mono ?_
                      rintro e w9 ⟨rr, rfl, hc, hh⟩
                      have HO9 := Lib.hid (HO8.out.move hB hh hc)
                      clear hc hh HO8
                      go_wp2_with fail
                      refine (vec_any B a len cap _ _ (by omega) HO9.out.cur).mono ?_
                      rintro e w10 ⟨gv, cv, zs, rfl, hz5, hrow, hc, hh⟩
                      have hl9 := HO9.out.lo
                      have hg9 := HO9.out.gl
                      have HV := Lib.hid (Vs.row (base := w.heap.size + 1) hrow rfl (by omega) hg9)
                      have HO10 := Lib.hid (HO9.out.move hB hh hc)
                      clear hc hh hrow HO9 hg9
                      have hA : Below w10.heap.size w10 (w10.alloc (.cells #[.int .i64 rr, .slice (some ⟨gv, 0, none⟩) zs.length cv, .int .i64 0] 33)) := (Below.refl _ _).alloc (Nat.le_refl _) _
                      have HO11 := Lib.hid (HO10.out.move hB (Hole.of_below hA) (HO10.out.cur.below hA))
                      have HE : Hid ((⟨rr, zs, 0, some ⟨gv, 0, none⟩, cv⟩ : EnQ).xs.length ≤ 5 ∧ Vs (w10.alloc (.cells #[.int .i64 rr, .slice (some ⟨gv, 0, none⟩) zs.length cv, .int .i64 0] 33)) (w.heap.size + 1) g (some ⟨gv, 0, none⟩) zs) := ⟨hz5, HV.out.off (Hole.of_below (B := B) hA) (by omega)⟩
                      have HCL : Hid (∀ j u, (pqVals ⟨rr, zs, 0, some ⟨gv, 0, none⟩, cv⟩)[j]? = some u → (w10.alloc (.cells #[.int .i64 rr, .slice (some ⟨gv, 0, none⟩) zs.length cv, .int .i64 0] 33)).cell? ((⟨w10.heap.size, 0, none⟩ : Addr).add j) = some u) := by
                        intro j u hu
                        rw [add_at, Nat.zero_add, cell_of_row _ _ j _ _ (0, 0) (heap_alloc_new w10 _), ← hu]
                        simp [pqVals]
                      clear hA HO10 HV hl9
                      simp only [vecV]
                      have hfd := run_field_vec
                      go_wp2_with (at_builtin; refine wpList_app HO11.out hB (by omega) (by rfl) _ _ _ (by rfl) ii (postV 0 none 0 0 0) Try.underlying24 HII.out HXI.out.1 HXI.out.2.1 HXI.out.2.2 (by rfl) w10.heap.size (by rfl) ⟨rr, zs, 0, some ⟨gv, 0, none⟩, cv⟩ HCL.out HE.out ?_; intro x12 cp12 w12 h0 h1 h2 h3; refine Hid.out ?_)
                      refine Lib.hid ?_
                      have HL := Lib.hid HO11.out.len
                      have HVS := Lib.hid HO11.out.vs
                      clear HO11 HCL
                      have H1 := Lib.hid h1
                      have H2 := Lib.hid (h2.more (show _ ≤ N + 2000 by omega))
                      have H3 := Lib.hid h3
                      clear h1 h2 h3
                      go_wp2
                      go_ret
                      refine ⟨x12, cp12, (es.tail ++ [(⟨rr, zs, 0, some ⟨gv, 0, none⟩, cv⟩ : EnQ)]).map toPst, by rw [List.length_map, List.length_append, HL.out]; rfl, by rw [List.length_map, List.length_append, HL.out]; show _ + 1 ≤ 12; omega, by rw [List.length_map, List.length_append, HL.out]; exact h0, small_of fun e he => ?_, H1.out, H2.out, H3.out⟩
                      rcases List.mem_append.1 he with he | he
                      · exact (HVS.out e he).1
                      · obtain rfl : e = _ := by simpa using he
                        exact hz5

end Go.Proofs.Ytpejdhbajejmoaa
