import Derived.Test.YtbbmpfkijhhemaaGreatDoorPack10
import Derived.Test.YtbbmpfkijhhemaaGreatDoorPack8
import Derived.Lib.Split
import Derived.Lib.IndexBytes
import Derived.Test.YtbbmpfkijhhemaaGreatDoorPack9
import Derived.Lib.AtoiAll
import Derived.ChangeSlices
import Derived.Deep.OwnRows
import Derived.Shelf.Strconv.Atoi
import Derived.Shelf.LaysC
import Derived.Shelf.Strconv.AtoiAll
import Derived.Shelf.Strconv.ErrVarAll
import Derived.Shelf.LaysM
import Derived.Shelf.Strings.SplitShaped
import Derived.Test.YtbbmpfkijhhemaaGreatDoorProg
namespace Go.Proofs.YtbbmpfkijhhemaaGreatDoor
open Go.ChangeShapes Go.WideShapes Go.ChangeAt Go.RowKit Go.Joins
set_option maxRecDepth 100000

def NumRow (w : World) (g : Nat) (zs : List Int) : Prop := g < w.heap.size ∧ ∀ i, i < zs.length → w.cell? ⟨g, i, none⟩ = some (.int .i64 (zs.getD i 0))

theorem NumRow.hole {w w' : World} {g B : Nat} {zs : List Int} (h : NumRow w g zs) (hh : Hole B w w') (hn : g ≠ B) : NumRow w' g zs := ⟨Nat.lt_of_lt_of_le h.1 hh.size, fun i hi => (hh.cell h.1 hn).trans (h.2 i hi)⟩

theorem NumRow.below {w w' : World} {g : Nat} {zs : List Int} (h : NumRow w g zs) (hb : Below w.heap.size w w') : NumRow w' g zs := ⟨Nat.lt_of_lt_of_le h.1 hb.size, fun i hi => (hb.cell (p := ⟨g, i, none⟩) h.1).trans (h.2 i hi)⟩

structure TBox (w : World) (b : Nat) (c s q : Int) : Prop where
  lt : b < w.heap.size
  c0 : w.cell? ⟨b, 0, none⟩ = some (.int .i64 c)
  c1 : w.cell? ⟨b, 1, none⟩ = some (.int .i64 s)
  c2 : w.cell? ⟨b, 2, none⟩ = some (.int .i64 q)
  fz : ∀ o, w.frozen? ⟨b, o, none⟩ = false

theorem TBox.start (w : World) (c s q : Int) (t : Nat) : TBox (w.alloc (.cells #[.int .i64 c, .int .i64 s, .int .i64 q] t)) w.heap.size c s q := ⟨by simp, by simp [go_sem], by simp [go_sem], by simp [go_sem], fun o => by simp [go_sem]⟩

theorem TBox.of_block {w w' : World} {b : Nat} {c s q : Int} (h : TBox w b c s q) (hs : w.heap.size ≤ w'.heap.size) (hb : w'.heap[b]? = w.heap[b]?) : TBox w' b c s q := by
  have e : ∀ o, w'.cell? ⟨b, o, none⟩ = w.cell? ⟨b, o, none⟩ := fun o => World.cell?_of_block (a := ⟨b, o, none⟩) hb
  exact ⟨Nat.lt_of_lt_of_le h.lt hs, (e 0).trans h.c0, (e 1).trans h.c1, (e 2).trans h.c2, fun o => (frozen_ofb hb).trans (h.fz o)⟩

def put3 (w : World) (R : Nat) (c s q : Int) : World := ((w.setCell ⟨R, 0, none⟩ (.int .i64 c)).setCell ⟨R, 1, none⟩ (.int .i64 s)).setCell ⟨R, 2, none⟩ (.int .i64 q)

theorem TBox.put3 {w : World} {b : Nat} {c s q : Int} (h : TBox w b c s q) (c' s' q' : Int) : TBox (put3 w b c' s' q') b c' s' q' :=
  have h0 : TBox (w.setCell ⟨b, 0, none⟩ (.int .i64 c')) b c' s q := ⟨by simpa [World.setCell] using h.lt, cell_set_same h.c0, cell_set_off h.c1 (by omega), cell_set_off h.c2 (by omega), fun o => by rw [World.frozen?_setCell]; exact h.fz o⟩
  have h1 : TBox ((w.setCell ⟨b, 0, none⟩ (.int .i64 c')).setCell ⟨b, 1, none⟩ (.int .i64 s')) b c' s' q := ⟨by simpa [World.setCell] using h0.lt, cell_set_off h0.c0 (by omega), cell_set_same h0.c1, cell_set_off h0.c2 (by omega), fun o => by rw [World.frozen?_setCell]; exact h0.fz o⟩
  ⟨by simpa [Go.Proofs.YtbbmpfkijhhemaaGreatDoor.put3, World.setCell] using h1.lt, cell_set_off h1.c0 (by omega), cell_set_off h1.c1 (by omega), cell_set_same h1.c2, fun o => by unfold Go.Proofs.YtbbmpfkijhhemaaGreatDoor.put3; rw [World.frozen?_setCell]; exact h1.fz o⟩

theorem Hole.put3 {B : Nat} {w w' : World} (h : Hole B w w') (c s q : Int) : Hole B w (put3 w' B c s q) := ((h.set 0 _).set 1 _).set 2 _

def TagF (lo : Nat) : Fact := fun v w => ∃ b, v = .pointer (some ⟨b, 0, none⟩) ∧ lo ≤ b ∧ TBox w b 0 0 0

theorem lasts_tag (lo : Nat) : lasts (fun w w' => Below w.heap.size w w') (TagF lo) := by
  rintro v w w' ⟨b, h1, h2, h3⟩ hr
  exact ⟨b, h1, h2, h3.of_block hr.size (hr.block b h3.lt)⟩

theorem tag_mk (w : World) (lo : Nat) (h : lo ≤ w.heap.size) : TagF lo (.pointer (some ⟨w.heap.size, 0, none⟩)) (w.alloc (.cells #[.int .i64 0, .int .i64 0, .int .i64 0] 30)) := ⟨_, rfl, h, TBox.start w 0 0 0 _⟩

theorem appQ_tag {z : Tmp} {ob : Option Nat} {d : Option Tmp} {w w' : World} {b : Nat} {c s q : Int} (h : TBox w b c s q) (hr : AppQ z ob d w w') (hne : ¬ ob = some b) : TBox w' b c s q := by
  unfold AppQ at hr
  split at hr
  · exact h.of_block hr.size (hr.block b h.lt fun e => hne e.symm)
  · exact h.of_block hr.size (hr.block b h.lt)

set_option maxHeartbeats 8000000 in
theorem ofNums_some (g n D : Nat) (zs : List Int) (w : World) (hn : n = 8 + 4 * D) (hD : D ≤ 100) (h8 : ¬ n = 8) (hl : zs.length = n) (hr : NumRow w g zs) :
    Calls Tryz.prog 199 #[.slice (some ⟨g, 0, none⟩) n n] w fun e w' => ∃ a cp, e = .returned (wrV (zs.getD 1 0) (zs.getD 2 0) (zs.getD 3 0) (zs.getD 4 0) (zs.getD 5 0) (zs.getD 6 0 == 1) a D cp) ∧ RowD w' w.heap.size (.slice a D cp) (parseD (zs.drop 8)) ∧ Below w.heap.size w w' := by
  have HR := Lib.hid hr
  have HL := Lib.hid hl
  have HN := Lib.hid hn
  have hgl : g < w.heap.size := hr.1
  have j1 : (1 : Int) < (n : Int) := by omega
  have j2 : (2 : Int) < (n : Int) := by omega
  have j3 : (3 : Int) < (n : Int) := by omega
  have j4 : (4 : Int) < (n : Int) := by omega
  have j5 : (5 : Int) < (n : Int) := by omega
  have j6 : (6 : Int) < (n : Int) := by omega
  have j8 : (8 : Int) ≤ (n : Int) := by omega
  obtain ⟨hd1, hd2⟩ := parseD_at D (l := zs.drop 8) (by rw [List.length_drop, hl]; omega)
  obtain ⟨ds, hds⟩ : ∃ ds, parseD (zs.drop 8) = ds := ⟨_, rfl⟩
  rw [hds] at hd1 hd2 ⊢
  have HDN := Lib.hid hd1
  have HDA : Hid (∀ o, o < D → ds.getD o dz = ⟨zs.getD (8 + 4 * o) 0, zs.getD (8 + 4 * o + 1) 0, zs.getD (8 + 4 * o + 2) 0, zs.getD (8 + 4 * o + 3) 0⟩) := fun o ho => by
    rw [hd2 o ho]
    simp only [drop_getD, Nat.add_assoc]
  have HR0 : Hid (RBox (w.alloc (.cells #[.int .i64 0, .int .i64 0, .int .i64 0, .int .i64 0, .int .i64 0, .bool false, .slice none 0 0] 33)) w.heap.size 0 0 0 0 0 false none 0 0) := RBox.start w 0 0 0 0 0 false none 0 0 _
  have HB0 : Hid (Below w.heap.size w (w.alloc (.cells #[.int .i64 0, .int .i64 0, .int .i64 0, .int .i64 0, .int .i64 0, .bool false, .slice none 0 0] 33))) := (Below.refl _ _).alloc (Nat.le_refl _) _
  have hz0 : w.heap.size < (w.alloc (.cells #[.int .i64 0, .int .i64 0, .int .i64 0, .int .i64 0, .int .i64 0, .bool false, .slice none 0 0] 33)).heap.size := by simp
  have HR1 := Lib.hid (HR.out.below HB0.out)
  have HCE : Hid (∀ w', Below (w.alloc (.cells #[.int .i64 0, .int .i64 0, .int .i64 0, .int .i64 0, .int .i64 0, .bool false, .slice none 0 0] 33)).heap.size (w.alloc (.cells #[.int .i64 0, .int .i64 0, .int .i64 0, .int .i64 0, .int .i64 0, .bool false, .slice none 0 0] 33)) w' → w'.cell? ⟨g, 1, none⟩ = some (.int .i64 (zs.getD 1 0)) ∧ w'.cell? ⟨g, 2, none⟩ = some (.int .i64 (zs.getD 2 0)) ∧ w'.cell? ⟨g, 3, none⟩ = some (.int .i64 (zs.getD 3 0)) ∧ w'.cell? ⟨g, 4, none⟩ = some (.int .i64 (zs.getD 4 0)) ∧ w'.cell? ⟨g, 5, none⟩ = some (.int .i64 (zs.getD 5 0)) ∧ w'.cell? ⟨g, 6, none⟩ = some (.int .i64 (zs.getD 6 0))) := fun w' hb => by
    have h1 := HR1.out.below hb
    exact ⟨h1.2 1 (by omega), h1.2 2 (by omega), h1.2 3 (by omega), h1.2 4 (by omega), h1.2 5 (by omega), h1.2 6 (by omega)⟩
  clear hr hl hd1 hd2 hds HR hn
  generalize zs.getD 1 0 = n0 at *
  generalize zs.getD 2 0 = n1 at *
  generalize zs.getD 3 0 = n2 at *
  generalize zs.getD 4 0 = n3 at *
  generalize zs.getD 5 0 = n4 at *
  generalize zs.getD 6 0 = n5 at *
  go_enter Tryz.func199, Tryz.ntmps199
  go_wp2_with fail
  generalize w.alloc (.cells #[.int .i64 0, .int .i64 0, .int .i64 0, .int .i64 0, .int .i64 0, .bool false, .slice none 0 0] 33) = W0 at *
  refine wp_region_slots 22 [[(0, false)], [(6, true)], [(7, true)], [(0, false)], [(9, true)], [(10, true)], [(0, false)], [(12, true)], [(13, true)], [(0, false)], [(15, true)], [(16, true)], [(11, true), (14, true), (17, true)], [(0, false)], [(19, true)], [(20, true)], [(0, false)], [(22, true)], [(23, true)], [(24, true)], [(8, true), (18, true), (21, true), (25, true)], []] (fun w' => Below W0.heap.size W0 w') (fun w w' => Below w.heap.size w w') (by kernel_rfl) (by kernel_rfl) (by rfl) (Below.refl _ _).drew (fun _ _ h hr => below_step h h.size hr) ?_
  iterate 21 (apply slot_eq; · (intro ρ w' ⟨p1, p2, p3⟩ hS hn; obtain ⟨e0, e1, e2, e3, e4, e5⟩ := HCE.out w' hS; simp at hn; go_simp; exact ⟨Below.refl _ _, rfl⟩))
  refine slot_fact (BoxF W0.heap.size) (lasts_boxR _) ?_ ?_
  · intro ρ w' ⟨p1, p2, p3⟩ hS hn
    have hsz := hS.size
    go_simp
    exact ⟨(Below.refl _ _).alloc (Nat.le_refl _) _, box_mk w' _ hsz⟩
  refine slot_end ?_
  intro tv w4 hS hF
  simp at hF
  obtain ⟨⟨T, f3, hTl, hbox⟩, f26, f25, f24, f23, f22, f21, f20, f19, f18, f17, f16, f15, f14, f13, f12, f11, f10, f9, f8, f7, f6⟩ := hF
  have hs4 : W0.heap.size ≤ w4.heap.size := hS.size
  have HBX := Lib.hid hbox
  have HR4 := Lib.hid (HR1.out.below hS)
  have HX4 := Lib.hid (HR0.out.below hS hz0)
  have HBW4 : Hid (Below w.heap.size w w4) := below_step HB0.out HB0.out.size hS
  simp only [List.take_succ_cons, List.take_zero, List.drop_succ_cons, List.drop_zero, putAll, f3, f26, f25, f24, f23, f22, f21, f20, f19, f18, f17, f16, f15, f14, f13, f12, f11, f10, f9, f8, f7, f6]
  clear f3 f26 f25 f24 f23 f22 f21 f20 f19 f18 f17 f16 f15 f14 f13 f12 f11 f10 f9 f8 f7 f6 hS hbox HCE HR1 HR0 HB0
  simp only [Act.put, List.setIfInBounds_toArray, List.set_cons_succ, List.set_cons_zero]
  obtain ⟨yl, y0, y1, y2, y3, y4, y5, y6, yf⟩ := HBX.out
  go_wp2
  obtain ⟨q, hq⟩ : ∃ q, n - 8 = q := ⟨_, rfl⟩
  rw [hq]
  obtain ⟨Wl, hWl⟩ : ∃ Wl, put7 w4 T n0 n1 n2 n3 n4 (n5 == 1) none 0 0 = Wl := ⟨_, rfl⟩
  have HHL : Hid (Hole T w4 Wl) := by rw [← hWl]; exact (Hole.refl _ _).put7 _ _ _ _ _ _ _ _ _
  have HBL : Hid (RBox Wl T n0 n1 n2 n3 n4 (n5 == 1) none 0 0) := by rw [← hWl]; exact HBX.out.put7 _ _ _ _ _ _ _ _ _
  unfold put7 at hWl
  rw [hWl]
  clear hWl y0 y1 y2 y3 y4 y5 y6 yf
  have hgT : g ≠ T := by omega
  have hTl4 : T < w4.heap.size := HBX.out.lt
  have HRL := Lib.hid (HR4.out.hole HHL.out hgT)
  have HXL := Lib.hid (HX4.out.hole HHL.out (by omega))
  have HBWL : Hid (Below w.heap.size w Wl) := Hole.below HBW4.out HHL.out (by omega) HBW4.out.size
  have hsl : w4.heap.size ≤ Wl.heap.size := HHL.out.size
  obtain ⟨i1, hi1, hx1⟩ := Option.map_eq_some_iff.1 infoDep
  simp only [Prod.mk.injEq] at hx1
  have HI1 := Lib.hid hi1
  have HX1 := Lib.hid hx1
  have HQ : Hid (q = 4 * (D - 0)) := by
    have := HN.out
    show q = _
    omega
  clear hi1 hx1 HBX HR4 HX4 HBW4 HHL yl hq
  go_loopw [4] (fun r wr => ∃ (o q : Nat) (ad x : Option Addr) (cpd : Nat), o ≤ D ∧ Hid (q = 4 * (D - o)) ∧ r = .slice ad q q ∧ Hid (o < D → ad = some ⟨g, 8 + 4 * o, none⟩) ∧ Hid (Hole T Wl wr) ∧ Hid (RBox wr T n0 n1 n2 n3 n4 (n5 == 1) x o cpd) ∧ Hid (RowD wr Wl.heap.size (.slice x o cpd) (ds.take o))) (fun r _ => (match r with | .slice _ k _ => k | _ => 0))
  case atStart => exact ⟨0, q, _, none, 0, Nat.zero_le _, HQ, rfl, fun _ => rfl, Hole.refl _ _, HBL, World.ownsRow_nil _ _ _ _⟩
  case round =>
    clear HQ
    obtain ⟨o, q, ad, x, cpd, ho, HQ, rfl, HAD, HH, HX, HRD⟩ := hrel
    by_cases ho' : o < D
    · obtain rfl := HAD.out ho'
      have hq4 : 4 ≤ q := by have := HQ.out; omega
      have q1 : (1 : Int) < (q : Int) := by omega
      have q2 : (2 : Int) < (q : Int) := by omega
      have q3 : (3 : Int) < (q : Int) := by omega
      have q5 : 0 < q := by omega
      have q4 : (4 : Int) ≤ (q : Int) := by omega
      have hTl2 : T < Wl.heap.size := by omega
      have HDE := Lib.hid (HDA.out o ho')
      have HCE : Hid (∀ w', Hole T Wl w' → w'.cell? ⟨g, 8 + 4 * o, none⟩ = some (.int .i64 (zs.getD (8 + 4 * o) 0)) ∧ w'.cell? ⟨g, 8 + 4 * o + 1, none⟩ = some (.int .i64 (zs.getD (8 + 4 * o + 1) 0)) ∧ w'.cell? ⟨g, 8 + 4 * o + 2, none⟩ = some (.int .i64 (zs.getD (8 + 4 * o + 2) 0)) ∧ w'.cell? ⟨g, 8 + 4 * o + 3, none⟩ = some (.int .i64 (zs.getD (8 + 4 * o + 3) 0))) := fun w' hh => by
        have h1 := HRL.out.hole hh hgT
        have h2 : zs.length = n := HL.out
        have h3 := HN.out
        exact ⟨h1.2 _ (by omega), h1.2 _ (by omega), h1.2 _ (by omega), h1.2 _ (by omega)⟩
      have HAD2 : Hid (∀ p, p = 8 + 4 * o → o + 1 < D → (some ⟨g, p + 4, none⟩ : Option Addr) = some ⟨g, 8 + 4 * (o + 1), none⟩) := fun p hp _ => by rw [hp]; congr 2
      have HQ2 : Hid (q - 4 = 4 * (D - (o + 1))) := by have := HQ.out; show _ = _; omega
      generalize zs.getD (8 + 4 * o) 0 = yk at *
      generalize zs.getD (8 + 4 * o + 1) 0 = yc at *
      generalize zs.getD (8 + 4 * o + 2) 0 = ys at *
      generalize zs.getD (8 + 4 * o + 3) 0 = yq at *
      have HTK : Hid (ds.take (o + 1) = ds.take o ++ [⟨yk, yc, ys, yq⟩]) := by
        have hol : o < ds.length := by rw [HDN.out]; exact ho'
        rw [← HDE.out]
        show _ = _
        rw [List.take_succ_eq_append_getElem hol]
        simp [List.getD, hol]
      have HTL : Hid ((ds.take o).length = o) := by
        show _ = _
        rw [List.length_take, HDN.out]
        omega
      have HQF := Lib.hid HQ.out
      obtain ⟨p, hp⟩ : ∃ p, 8 + 4 * o = p := ⟨_, rfl⟩
      rw [hp] at HCE ⊢
      have HPP := Lib.hid hp
      clear HDE hp HAD HQ
      go_wp2_with fail
      refine wp_region_slots 11 [[(4, false)], [(34, true)], [(35, true)], [(4, false)], [(37, true)], [(38, true)], [(4, false)], [(40, true)], [(41, true)], [(36, true), (39, true), (42, true)], []] (fun w' => Below wr.heap.size wr w') (fun w w' => Below w.heap.size w w') (by kernel_rfl) (by kernel_rfl) (by rfl) (Below.refl _ _).drew (fun _ _ h hr => below_step h h.size hr) ?_
      iterate 10 (apply slot_eq; · (intro ρ w' ⟨p1, p2, p3⟩ hS hn; obtain ⟨s0, s1, s2, s3⟩ := HCE.out w' (HH.out.trans (Hole.of_below hS)); simp at hn; go_simp; exact ⟨Below.refl _ _, rfl⟩))
      refine slot_fact (TagF wr.heap.size) (lasts_tag _) ?_ ?_
      · intro ρ w' ⟨p1, p2, p3⟩ hS hn
        have hsz := hS.size
        go_simp
        exact ⟨(Below.refl _ _).alloc (Nat.le_refl _) _, tag_mk w' _ hsz⟩
      refine slot_end ?_
      intro tv w5 hS hF
      simp at hF
      obtain ⟨⟨b, f5, hbl, hbox⟩, f43, f42, f41, f40, f39, f38, f37, f36, f35, f34⟩ := hF
      have HBB := Lib.hid hbox
      have hwl : Wl.heap.size ≤ wr.heap.size := HH.out.size
      have hOB : ∀ k, (Value.slice x o cpd).ownBlock = some k → Wl.heap.size ≤ k ∧ k < wr.heap.size := fun k hk => World.ownsRow.lt HRD.out k hk
      have HH5 := Lib.hid (HH.out.trans (Hole.of_below hS))
      have HX5 := Lib.hid (HX.out.below hS HX.out.lt)
      have HRD5 := Lib.hid (HRD.out.below hS)
      simp only [List.take_succ_cons, List.take_zero, List.drop_succ_cons, List.drop_zero, putAll, f5, f43, f42, f41, f40, f39, f38, f37, f36, f35, f34]
      clear f5 f43 f42 f41 f40 f39 f38 f37 f36 f35 f34 hS hbox HH HX HRD
      simp only [Act.put, List.setIfInBounds_toArray, List.set_cons_succ, List.set_cons_zero]
      obtain ⟨yl, y0, y1, y2, yf⟩ := HBB.out
      go_wp2_with fail
      obtain ⟨Wt, hWt⟩ : ∃ Wt, put3 w5 b yc ys yq = Wt := ⟨_, rfl⟩
      have HTB : Hid (TBox Wt b yc ys yq) := by rw [← hWt]; exact HBB.out.put3 _ _ _
      have hHb : Hole b w5 Wt := by rw [← hWt]; exact (Hole.refl _ _).put3 _ _ _
      unfold put3 at hWt
      rw [hWt]
      have HHt : Hid (Hole T Wl Wt) := ⟨hHb.os.trans HH5.out.os, hHb.tape.trans HH5.out.tape, hHb.output.trans HH5.out.output, Nat.le_trans HH5.out.size hHb.size, fun k hk hn => (hHb.block k (Nat.lt_of_lt_of_le hk HH5.out.size) (by omega)).trans (HH5.out.block k hk hn)⟩
      have HXt := Lib.hid (HX5.out.hole hHb (by omega))
      have HRt : Hid (RowD Wt Wl.heap.size (.slice x o cpd) (ds.take o)) := World.ownsRow.kept (row := some b) HRD5.out ⟨hHb.os, hHb.tape, hHb.output, hHb.size, fun k hk hn => hHb.block k hk (fun e => hn (by rw [e]))⟩ (.inr fun e => by have := (hOB b e).2; omega)
      have HOB := Lib.hid hOB
      have hwt : wr.heap.size ≤ Wt.heap.size := by have := HBB.out.lt; have := hHb.size; omega
      clear hWt hHb HBB HH5 HX5 HRD5 hOB y0 y1 y2 yf yl
      refine wp_region_slots_u 10 [[(3, false)], [(44, true)], [(4, false)], [(46, true)], [(47, true)], [(5, false)], [(48, true), (49, true)], [(50, true)], [(45, true), (51, true)], [(3, false)]] (fun w' => StQ (n5 == 1) Wl T n0 n1 n2 n3 n4 x o cpd wr.heap.size w' ∧ TBox w' b yc ys yq) (fun w' => StQ (n5 == 1) Wl T n0 n1 n2 n3 n4 x o cpd wr.heap.size w' ∧ TBox w' b yc ys yq) (fun _ w' => StQ (n5 == 1) Wl T n0 n1 n2 n3 n4 x o cpd wr.heap.size w' ∧ TBox w' b yc ys yq) (fun d w' => d = some 52 → RowD w' Wl.heap.size (.slice x o cpd) (ds.take o)) (fun _ => none) (AppQ 52 (Value.slice x o cpd).ownBlock) (by kernel_rfl) (by kernel_rfl) (by rfl) ⟨⟨HHt.out.drew, HXt.out.drew, hwt⟩, HTB.out.of_block (Nat.le_refl _) rfl⟩ (by kernel_rfl) (fun _ _ => HRt.out.below (Below.refl _ _).drew) (fun _ h => by cases h) (fun d d' hd w w' h1 h2 h3 => (h1 h3).below (appQ_below (h3 ▸ hd) h2)) (fun _ _ _ _ _ _ h => by cases h) (fun d _ w w' h1 h2 => ⟨stQ_step HOB.out hTl2 h1.1 h2, appQ_tag h1.2 h2 (fun e => by have := (HOB.out b e).2; omega)⟩) (fun _ _ _ h => h) (fun _ _ _ h => h) ?_
      have HRF : Hid (∀ (d : Option Tmp) (w : World), d ≠ some 52 → AppQ 52 (Value.slice x o cpd).ownBlock d w w) := fun d w hd => appQ_refl hd w
      iterate 7 (apply slotU_eq; · (intro ρ w' ⟨p1, p2, p3⟩ ⟨⟨hH, hX, hlo'⟩, hB⟩ hEE hn; obtain ⟨s0, s1, s2, s3⟩ := HCE.out w' hH; have y6 := hX.c6; have b0 := hB.c0; have b1 := hB.c1; have b2 := hB.c2; simp at hn; go_simp; exact ⟨HRF.out _ _ (by simp), rfl⟩))
      refine slotU_fact (DepNewQ (Value.slice x o cpd).ownBlock ⟨yk, yc, ys, yq⟩) (lasts_depNewQ _ _ _ _ _) ?_ ?_
      · intro ρ w' ⟨p1, p2, p3⟩ ⟨⟨hH, hX, hlo'⟩, hB⟩ hEE hn
        simp at hn
        go_simp
        exact ⟨appQ_alloc (by simp) _ _, _, rfl, by simp, fun e => by have := (HOB.out _ e).2; omega, oneD_cells _ _ ⟨yk, yc, ys, yq⟩⟩
      refine slotU_fact (DepRowQ Wl.heap.size o (ds.take o ++ [⟨yk, yc, ys, yq⟩])) (lasts_depRowQ _ _ _ _ _ _) ?_ ?_
      · intro ρ w' ⟨p1, p2, p3⟩ ⟨⟨hH, hX, hlo'⟩, hB⟩ hEE hn
        simp at hn
        obtain ⟨f45, g', f51, hg3, hg4, hg5⟩ := hn
        have hown := hEE rfl
        unfold RowD at hown
        rw [HTL.out] at hown
        refine got_append (.tmp 45) (.tmp 51) _ rfl Wl.heap.size 81 i1 (depV 0 0 0 0) 4 32 Tryz.underlying31 HI1.out HX1.out.1 HX1.out.2.1 HX1.out.2.2 (by rfl) (by omega) (.slice x o cpd) o ((ds.take o).flatMap dpVals) f45 hown ⟨g', 0, none⟩ 1 1 (dpVals ⟨yk, yc, ys, yq⟩) f51 (by rfl) hg5 (dp_one _) (by omega) (by unfold maxLen; omega) (by omega) (by omega) _ rfl ?_
        intro g3 cp3 w5 h1 h2 h3 h4
        refine ⟨appQ_grown h2, g3, cp3, rfl, ?_⟩
        unfold RowD
        rw [List.length_append, List.flatMap_append, HTL.out]
        simpa using h1
      iterate 1 (apply slotU_eq; · (intro ρ w' ⟨p1, p2, p3⟩ ⟨⟨hH, hX, hlo'⟩, hB⟩ hEE hn; simp at hn; go_simp; exact ⟨HRF.out _ _ (by simp), rfl⟩))
      refine slotU_end ?_
      rintro vs w6 ⟨⟨hH, hX, hlo'⟩, hB⟩ hF
      simp at hF
      obtain ⟨f53, ⟨g3, cp3, f52, hrow⟩, ⟨g', f51, -, -, -⟩, f50, f49, f48, f47, f46, f45, f44⟩ := hF
      have HRW := Lib.hid hrow
      have HHH := Lib.hid hH
      have HXX := Lib.hid hX
      clear hH hX hlo' hB hrow HRF HOB HHt HXt HRt HCE HTB
      simp only [List.take_succ_cons, List.take_zero, List.drop_succ_cons, List.drop_zero, putAll, f53, f52, f51, f50, f49, f48, f47, f46, f45, f44]
      clear f53 f52 f51 f50 f49 f48 f47 f46 f45 f44
      simp only [Act.put, List.setIfInBounds_toArray, List.set_cons_succ, List.set_cons_zero]
      have y6 := HXX.out.c6
      have yf := HXX.out.fz
      have HH7 : Hid (Hole T Wl (w6.setCell ⟨T, 6, none⟩ (.slice (some ⟨g3, 0, none⟩) (o + 1) cp3))) := HHH.out.set 6 _
      have HX7 : Hid (RBox (w6.setCell ⟨T, 6, none⟩ (.slice (some ⟨g3, 0, none⟩) (o + 1) cp3)) T n0 n1 n2 n3 n4 (n5 == 1) (some ⟨g3, 0, none⟩) (o + 1) cp3) := HXX.out.set6 _ _ _
      have HR7 : Hid (RowD (w6.setCell ⟨T, 6, none⟩ (.slice (some ⟨g3, 0, none⟩) (o + 1) cp3)) Wl.heap.size (.slice (some ⟨g3, 0, none⟩) (o + 1) cp3) (ds.take (o + 1))) := by
        rw [HTK.out]
        exact ownsRow_setCell_below (a := ⟨T, 6, none⟩) HRW.out hTl2 _
      clear HHH HXX HRW
      by_cases hq : q = 4
      · have HLT : Hid (¬ o + 1 < D) := by have := HQF.out; show ¬ _; omega
        have HQ0 : Hid (0 = 4 * (D - (o + 1))) := by have := HQ2.out; show _ = _; omega
        go_wp2
        exact ⟨⟨o + 1, 0, _, some ⟨g3, 0, none⟩, cp3, by omega, HQ0, rfl, fun h => absurd h HLT.out, HH7, HX7, HR7⟩, by simp; omega⟩
      · go_wp2
        exact ⟨⟨o + 1, _, _, some ⟨g3, 0, none⟩, cp3, by omega, HQ2, rfl, HAD2.out p HPP.out.symm, HH7, HX7, HR7⟩, by simp; omega⟩
    · have hoD : o = D := by omega
      subst o
      have hq0 : q = 0 := by have := HQ.out; omega
      subst hq0
      have HRW : Hid (RowD wr Wl.heap.size (.slice x D cpd) ds) := by
        have h1 := HRD.out
        rw [List.take_of_length_le (by rw [HDN.out]; exact Nat.le_refl _)] at h1
        exact h1
      have HXW := Lib.hid (HXL.out.hole HH.out (by omega))
      have HBWW : Hid (Below w.heap.size w wr) := Hole.below HBWL.out HH.out (by omega) HBWL.out.size
      have hl0 : w.heap.size < Wl.heap.size := by omega
      obtain ⟨tl, t0, t1, t2, t3, t4, t5, t6, tf⟩ := HX.out
      obtain ⟨yl, y0, y1, y2, y3, y4, y5, y6, yf⟩ := HXW.out
      have HTQ := Lib.hid (HRW.out.holeQ ((Hole.refl w.heap.size wr).put7 n0 n1 n2 n3 n4 (n5 == 1) x D cpd) hl0)
      clear HQ HAD HRD
      go_wp2
      obtain ⟨X, hX⟩ : ∃ X, put7 wr w.heap.size n0 n1 n2 n3 n4 (n5 == 1) x D cpd = X := ⟨_, rfl⟩
      have HZX : Hid (RBox X w.heap.size n0 n1 n2 n3 n4 (n5 == 1) x D cpd) := by rw [← hX]; exact HXW.out.put7 n0 n1 n2 n3 n4 (n5 == 1) x D cpd
      have HBX : Hid (Below w.heap.size w X) := by rw [← hX]; exact Hole.below HBWW.out ((Hole.refl _ _).put7 n0 n1 n2 n3 n4 (n5 == 1) x D cpd) (Nat.le_refl _) HBWW.out.size
      have HQX : Hid (RowD X w.heap.size (.slice x D cpd) ds) := by
        rw [hX] at HTQ
        exact HTQ.out.mono (Nat.le_of_lt hl0)
      unfold put7 at hX
      rw [hX]
      clear hX HTQ
      obtain ⟨zl, z0, z1, z2, z3, z4, z5, z6, zf⟩ := HZX.out
      refine bodyPost_ret (v := wrV n0 n1 n2 n3 n4 (n5 == 1) x D cpd) (by simp [results, Tryz.results199, go_sem, z0, z1, z2, z3, z4, z5, z6]) rfl ?_
      exact ⟨x, cpd, rfl, HQX.out, HBX.out⟩

set_option maxHeartbeats 8000000 in
theorem ofNums_none (g n D : Nat) (zs : List Int) (w : World) (hn : n = 8 + 4 * D) (hD : D ≤ 100) (h8 : n = 8) (hl : zs.length = n) (hr : NumRow w g zs) :
    Calls Tryz.prog 199 #[.slice (some ⟨g, 0, none⟩) n n] w fun e w' => ∃ a cp, e = .returned (wrV (zs.getD 1 0) (zs.getD 2 0) (zs.getD 3 0) (zs.getD 4 0) (zs.getD 5 0) (zs.getD 6 0 == 1) a D cp) ∧ RowD w' w.heap.size (.slice a D cp) (parseD (zs.drop 8)) ∧ Below w.heap.size w w' := by
  have HR := Lib.hid hr
  have HL := Lib.hid hl
  have HN := Lib.hid hn
  have HD0 : Hid (D = 0) := by show D = 0; omega
  subst h8
  have hgl : g < w.heap.size := hr.1
  obtain ⟨hd1, hd2⟩ := parseD_at D (l := zs.drop 8) (by rw [List.length_drop, hl]; omega)
  obtain ⟨ds, hds⟩ : ∃ ds, parseD (zs.drop 8) = ds := ⟨_, rfl⟩
  rw [hds] at hd1 hd2 ⊢
  have HDN := Lib.hid hd1
  have HDA : Hid (∀ o, o < D → ds.getD o dz = ⟨zs.getD (8 + 4 * o) 0, zs.getD (8 + 4 * o + 1) 0, zs.getD (8 + 4 * o + 2) 0, zs.getD (8 + 4 * o + 3) 0⟩) := fun o ho => by
    rw [hd2 o ho]
    simp only [drop_getD, Nat.add_assoc]
  have HR0 : Hid (RBox (w.alloc (.cells #[.int .i64 0, .int .i64 0, .int .i64 0, .int .i64 0, .int .i64 0, .bool false, .slice none 0 0] 33)) w.heap.size 0 0 0 0 0 false none 0 0) := RBox.start w 0 0 0 0 0 false none 0 0 _
  have HB0 : Hid (Below w.heap.size w (w.alloc (.cells #[.int .i64 0, .int .i64 0, .int .i64 0, .int .i64 0, .int .i64 0, .bool false, .slice none 0 0] 33))) := (Below.refl _ _).alloc (Nat.le_refl _) _
  have hz0 : w.heap.size < (w.alloc (.cells #[.int .i64 0, .int .i64 0, .int .i64 0, .int .i64 0, .int .i64 0, .bool false, .slice none 0 0] 33)).heap.size := by simp
  have HR1 := Lib.hid (HR.out.below HB0.out)
  have HCE : Hid (∀ w', Below (w.alloc (.cells #[.int .i64 0, .int .i64 0, .int .i64 0, .int .i64 0, .int .i64 0, .bool false, .slice none 0 0] 33)).heap.size (w.alloc (.cells #[.int .i64 0, .int .i64 0, .int .i64 0, .int .i64 0, .int .i64 0, .bool false, .slice none 0 0] 33)) w' → w'.cell? ⟨g, 1, none⟩ = some (.int .i64 (zs.getD 1 0)) ∧ w'.cell? ⟨g, 2, none⟩ = some (.int .i64 (zs.getD 2 0)) ∧ w'.cell? ⟨g, 3, none⟩ = some (.int .i64 (zs.getD 3 0)) ∧ w'.cell? ⟨g, 4, none⟩ = some (.int .i64 (zs.getD 4 0)) ∧ w'.cell? ⟨g, 5, none⟩ = some (.int .i64 (zs.getD 5 0)) ∧ w'.cell? ⟨g, 6, none⟩ = some (.int .i64 (zs.getD 6 0))) := fun w' hb => by
    have h1 := HR1.out.below hb
    exact ⟨h1.2 1 (by omega), h1.2 2 (by omega), h1.2 3 (by omega), h1.2 4 (by omega), h1.2 5 (by omega), h1.2 6 (by omega)⟩
  clear hr hl hd1 hd2 hds HR hn
  generalize zs.getD 1 0 = n0 at *
  generalize zs.getD 2 0 = n1 at *
  generalize zs.getD 3 0 = n2 at *
  generalize zs.getD 4 0 = n3 at *
  generalize zs.getD 5 0 = n4 at *
  generalize zs.getD 6 0 = n5 at *
  go_enter Tryz.func199, Tryz.ntmps199
  go_wp2_with fail
  generalize w.alloc (.cells #[.int .i64 0, .int .i64 0, .int .i64 0, .int .i64 0, .int .i64 0, .bool false, .slice none 0 0] 33) = W0 at *
  refine wp_region_slots 22 [[(0, false)], [(6, true)], [(7, true)], [(0, false)], [(9, true)], [(10, true)], [(0, false)], [(12, true)], [(13, true)], [(0, false)], [(15, true)], [(16, true)], [(11, true), (14, true), (17, true)], [(0, false)], [(19, true)], [(20, true)], [(0, false)], [(22, true)], [(23, true)], [(24, true)], [(8, true), (18, true), (21, true), (25, true)], []] (fun w' => Below W0.heap.size W0 w') (fun w w' => Below w.heap.size w w') (by kernel_rfl) (by kernel_rfl) (by rfl) (Below.refl _ _).drew (fun _ _ h hr => below_step h h.size hr) ?_
  iterate 21 (apply slot_eq; · (intro ρ w' ⟨p1, p2, p3⟩ hS hn; obtain ⟨e0, e1, e2, e3, e4, e5⟩ := HCE.out w' hS; simp at hn; go_simp; exact ⟨Below.refl _ _, rfl⟩))
  refine slot_fact (BoxF W0.heap.size) (lasts_boxR _) ?_ ?_
  · intro ρ w' ⟨p1, p2, p3⟩ hS hn
    have hsz := hS.size
    go_simp
    exact ⟨(Below.refl _ _).alloc (Nat.le_refl _) _, box_mk w' _ hsz⟩
  refine slot_end ?_
  intro tv w4 hS hF
  simp at hF
  obtain ⟨⟨T, f3, hTl, hbox⟩, f26, f25, f24, f23, f22, f21, f20, f19, f18, f17, f16, f15, f14, f13, f12, f11, f10, f9, f8, f7, f6⟩ := hF
  have hs4 : W0.heap.size ≤ w4.heap.size := hS.size
  have HBX := Lib.hid hbox
  have HR4 := Lib.hid (HR1.out.below hS)
  have HX4 := Lib.hid (HR0.out.below hS hz0)
  have HBW4 : Hid (Below w.heap.size w w4) := below_step HB0.out HB0.out.size hS
  simp only [List.take_succ_cons, List.take_zero, List.drop_succ_cons, List.drop_zero, putAll, f3, f26, f25, f24, f23, f22, f21, f20, f19, f18, f17, f16, f15, f14, f13, f12, f11, f10, f9, f8, f7, f6]
  clear f3 f26 f25 f24 f23 f22 f21 f20 f19 f18 f17 f16 f15 f14 f13 f12 f11 f10 f9 f8 f7 f6 hS hbox HCE HR1 HR0 HB0
  simp only [Act.put, List.setIfInBounds_toArray, List.set_cons_succ, List.set_cons_zero]
  obtain ⟨yl, y0, y1, y2, y3, y4, y5, y6, yf⟩ := HBX.out
  go_wp2
  obtain ⟨Wl, hWl⟩ : ∃ Wl, put7 w4 T n0 n1 n2 n3 n4 (n5 == 1) none 0 0 = Wl := ⟨_, rfl⟩
  have HHL : Hid (Hole T w4 Wl) := by rw [← hWl]; exact (Hole.refl _ _).put7 _ _ _ _ _ _ _ _ _
  have HBL : Hid (RBox Wl T n0 n1 n2 n3 n4 (n5 == 1) none 0 0) := by rw [← hWl]; exact HBX.out.put7 _ _ _ _ _ _ _ _ _
  unfold put7 at hWl
  rw [hWl]
  clear hWl y0 y1 y2 y3 y4 y5 y6 yf
  have hgT : g ≠ T := by omega
  have hTl4 : T < w4.heap.size := HBX.out.lt
  have HRL := Lib.hid (HR4.out.hole HHL.out hgT)
  have HXL := Lib.hid (HX4.out.hole HHL.out (by omega))
  have HBWL : Hid (Below w.heap.size w Wl) := Hole.below HBW4.out HHL.out (by omega) HBW4.out.size
  have hsl : w4.heap.size ≤ Wl.heap.size := HHL.out.size
  obtain ⟨i1, hi1, hx1⟩ := Option.map_eq_some_iff.1 infoDep
  simp only [Prod.mk.injEq] at hx1
  have HI1 := Lib.hid hi1
  have HX1 := Lib.hid hx1
  have HQ : Hid (0 = 4 * (D - 0)) := by
    have := HD0.out
    show 0 = _
    omega
  clear hi1 hx1 HBX HR4 HX4 HBW4 HHL yl
  go_loopw [4] (fun r wr => ∃ (o q : Nat) (ad x : Option Addr) (cpd : Nat), o ≤ D ∧ Hid (q = 4 * (D - o)) ∧ r = .slice ad q q ∧ Hid (o < D → ad = some ⟨g, 8 + 4 * o, none⟩) ∧ Hid (Hole T Wl wr) ∧ Hid (RBox wr T n0 n1 n2 n3 n4 (n5 == 1) x o cpd) ∧ Hid (RowD wr Wl.heap.size (.slice x o cpd) (ds.take o))) (fun r _ => (match r with | .slice _ k _ => k | _ => 0))
  case atStart => exact ⟨0, 0, _, none, 0, Nat.zero_le _, HQ, rfl, fun h => absurd h (by have := HD0.out; omega), Hole.refl _ _, HBL, World.ownsRow_nil _ _ _ _⟩
  case round =>
    clear HQ
    obtain ⟨o, q, ad, x, cpd, ho, HQ, rfl, HAD, HH, HX, HRD⟩ := hrel
    by_cases ho' : o < D
    · have := HD0.out
      omega
    · have hoD : o = D := by omega
      subst o
      have hq0 : q = 0 := by have := HQ.out; omega
      subst hq0
      have HRW : Hid (RowD wr Wl.heap.size (.slice x D cpd) ds) := by
        have h1 := HRD.out
        rw [List.take_of_length_le (by rw [HDN.out]; exact Nat.le_refl _)] at h1
        exact h1
      have HXW := Lib.hid (HXL.out.hole HH.out (by omega))
      have HBWW : Hid (Below w.heap.size w wr) := Hole.below HBWL.out HH.out (by omega) HBWL.out.size
      have hl0 : w.heap.size < Wl.heap.size := by omega
      obtain ⟨tl, t0, t1, t2, t3, t4, t5, t6, tf⟩ := HX.out
      obtain ⟨yl, y0, y1, y2, y3, y4, y5, y6, yf⟩ := HXW.out
      have HTQ := Lib.hid (HRW.out.holeQ ((Hole.refl w.heap.size wr).put7 n0 n1 n2 n3 n4 (n5 == 1) x D cpd) hl0)
      clear HQ HAD HRD
      go_wp2
      obtain ⟨X, hX⟩ : ∃ X, put7 wr w.heap.size n0 n1 n2 n3 n4 (n5 == 1) x D cpd = X := ⟨_, rfl⟩
      have HZX : Hid (RBox X w.heap.size n0 n1 n2 n3 n4 (n5 == 1) x D cpd) := by rw [← hX]; exact HXW.out.put7 n0 n1 n2 n3 n4 (n5 == 1) x D cpd
      have HBX : Hid (Below w.heap.size w X) := by rw [← hX]; exact Hole.below HBWW.out ((Hole.refl _ _).put7 n0 n1 n2 n3 n4 (n5 == 1) x D cpd) (Nat.le_refl _) HBWW.out.size
      have HQX : Hid (RowD X w.heap.size (.slice x D cpd) ds) := by
        rw [hX] at HTQ
        exact HTQ.out.mono (Nat.le_of_lt hl0)
      unfold put7 at hX
      rw [hX]
      clear hX HTQ
      obtain ⟨zl, z0, z1, z2, z3, z4, z5, z6, zf⟩ := HZX.out
      refine bodyPost_ret (v := wrV n0 n1 n2 n3 n4 (n5 == 1) x D cpd) (by simp [results, Tryz.results199, go_sem, z0, z1, z2, z3, z4, z5, z6]) rfl ?_
      exact ⟨x, cpd, rfl, HQX.out, HBX.out⟩

theorem ofNums_any (g n D : Nat) (zs : List Int) (w : World) (hn : n = 8 + 4 * D) (hD : D ≤ 100) (hl : zs.length = n) (hr : NumRow w g zs) :
    Calls Tryz.prog 199 #[.slice (some ⟨g, 0, none⟩) n n] w fun e w' => ∃ a cp, e = .returned (wrV (zs.getD 1 0) (zs.getD 2 0) (zs.getD 3 0) (zs.getD 4 0) (zs.getD 5 0) (zs.getD 6 0 == 1) a D cp) ∧ RowD w' w.heap.size (.slice a D cp) (parseD (zs.drop 8)) ∧ Below w.heap.size w w' := by
  by_cases h8 : n = 8
  · exact ofNums_none g n D zs w hn hD h8 hl hr
  · exact ofNums_some g n D zs w hn hD h8 hl hr

end Go.Proofs.YtbbmpfkijhhemaaGreatDoor

namespace Go.Proofs.YtbbmpfkijhhemaaGreatDoor
set_option maxRecDepth 100000

theorem blank_index : ∀ l : List UInt8, (Lib.indexByte l 32 = -1 ∧ (32 : UInt8) ∉ l) ∨ ∃ a b : List UInt8, Lib.indexByte l 32 = (a.length : Int) ∧ l = a ++ 32 :: b ∧ (32 : UInt8) ∉ a
  | [] => .inl ⟨rfl, by simp⟩
  | x :: l => by
    by_cases hx : x = 32
    · subst hx
      exact .inr ⟨[], l, by simp [Lib.indexByte], rfl, by simp⟩
    · have hb : (x == 32) = false := by simpa using hx
      rcases blank_index l with ⟨h1, h2⟩ | ⟨a, b, h1, h2, h3⟩
      · exact .inl ⟨by simp [Lib.indexByte, hb, h1], by simp [h2]; exact fun e => hx e.symm⟩
      · refine .inr ⟨x :: a, b, ?_, by rw [h2]; rfl, by simp [h3]; exact fun e => hx e.symm⟩
        have hne : ((a.length : Int) == -1) = false := by simp
        simp only [Lib.indexByte, hb, h1, hne, List.length_cons]
        simp

def glueL (ps : List (List UInt8)) : List UInt8 := ps.flatMap fun x => x ++ [32]

theorem split_parts : ∀ (k : Nat) (l : List UInt8), glueL (Lib.splitK [32] 0 k l) = l ++ [32] ∧ ((Lib.splitK [32] 0 k l).length ≤ k ∨ l.length ≤ k → ∀ p ∈ Lib.splitK [32] 0 k l, (32 : UInt8) ∉ p)
  | 0, l => by
    refine ⟨by simp [Lib.splitK, glueL], fun h p hp => ?_⟩
    simp only [Lib.splitK, List.mem_singleton, List.length_singleton] at hp h
    subst hp
    rcases h with h | h
    · omega
    · obtain rfl := List.length_eq_zero_iff.1 (Nat.le_zero.1 h)
      simp
  | k + 1, l => by
    rcases blank_index l with ⟨h1, h2⟩ | ⟨a, b, h1, h2, h3⟩
    · have e : Lib.splitK [32] 0 (k + 1) l = [l] := by simp [Lib.splitK, Lib.index_one, h1]
      rw [e]
      refine ⟨by simp [glueL], fun _ p hp => ?_⟩
      obtain rfl := List.mem_singleton.1 hp
      exact h2
    · have hne : ((a.length : Int) == -1) = false := by simp
      have e : Lib.splitK [32] 0 (k + 1) l = a :: Lib.splitK [32] 0 k b := by
        simp only [Lib.splitK, Lib.index_one, h1, hne]
        rw [h2]
        simp
      obtain ⟨i1, i2⟩ := split_parts k b
      rw [e]
      refine ⟨?_, fun h p hp => ?_⟩
      · have : glueL (a :: Lib.splitK [32] 0 k b) = (a ++ [32]) ++ glueL (Lib.splitK [32] 0 k b) := by simp [glueL]
        rw [this, i1, h2]
        simp
      · rcases List.mem_cons.1 hp with rfl | hp
        · exact h3
        · refine i2 ?_ p hp
          rcases h with h | h
          · left
            simp at h
            omega
          · right
            rw [h2] at h
            simp at h
            omega

theorem splitN_blank (s : ByteArray) (k : Nat) : glue (Lib.splitB ⟨#[32]⟩ 0 k s) = s.data.toList ++ [32] ∧ ((Lib.splitB ⟨#[32]⟩ 0 k s).length ≤ k ∨ s.size ≤ k → NoBlank (Lib.splitB ⟨#[32]⟩ 0 k s)) := by
  have hd := Lib.splitB_data ⟨#[32]⟩ 0 k s
  obtain ⟨h1, h2⟩ := split_parts k s.data.toList
  have hd' : (Lib.splitB ⟨#[32]⟩ 0 k s).map (·.data.toList) = Lib.splitK [32] 0 k s.data.toList := hd
  rw [← hd'] at h1 h2
  refine ⟨?_, fun h x hx => ?_⟩
  · rw [← h1]
    simp [glue, glueL, List.flatMap_map]
  · exact h2 (by simpa using h) _ (List.mem_map.2 ⟨x, hx, rfl⟩)

end Go.Proofs.YtbbmpfkijhhemaaGreatDoor

namespace Go.Proofs.YtbbmpfkijhhemaaGreatDoor
set_option maxRecDepth 100000

theorem parse_digs : ∀ (l : List UInt8) (acc : Nat), Digs l → acc * 10 ^ l.length + dval l < 1000000000000000000 → Lib.parseUint10 acc l = .ok (acc * 10 ^ l.length + dval l)
  | [], acc, _, _ => by simp [Lib.parseUint10, dval]
  | d :: l, acc, hd, h => by
    have h1 := hd d (by simp)
    have e : ∀ (l : List UInt8) (a : Nat), l.foldl (fun n d => 10 * n + (d.toNat - 48)) a = a * 10 ^ l.length + dval l := by
      intro l
      induction l with
      | nil => intro a; simp [dval]
      | cons x r ih =>
        intro a
        unfold dval
        rw [List.foldl_cons, ih, List.foldl_cons, ih, List.length_cons, Nat.pow_succ]
        have : (10 * a + (x.toNat - 48)) * 10 ^ r.length = a * (10 ^ r.length * 10) + (x.toNat - 48) * 10 ^ r.length := by
          rw [Nat.add_mul, Nat.mul_comm 10 a, Nat.mul_assoc, Nat.mul_comm 10 (10 ^ r.length)]
        rw [this]
        simp
        omega
    have hv : dval (d :: l) = (d.toNat - 48) * 10 ^ l.length + dval l := by
      have := e l (10 * 0 + (d.toNat - 48))
      unfold dval at this ⊢
      rw [List.foldl_cons, this]
      simp
    have hp : 1 ≤ 10 ^ l.length := Nat.one_le_pow _ _ (by omega)
    have hr : acc * 10 ^ (d :: l).length + dval (d :: l) = (acc * 10 + (d.toNat - 48)) * 10 ^ l.length + dval l := by
      rw [hv, List.length_cons, Nat.pow_succ, Nat.add_mul, Nat.mul_assoc, Nat.mul_comm 10 (10 ^ l.length)]
      omega
    rw [hr] at h ⊢
    have ha : acc * 10 + (d.toNat - 48) < 1000000000000000000 := by
      have : (acc * 10 + (d.toNat - 48)) * 1 ≤ (acc * 10 + (d.toNat - 48)) * 10 ^ l.length := Nat.mul_le_mul_left _ hp
      omega
    have ih := parse_digs l (acc * 10 + (d.toNat - 48)) (fun x hx => hd x (by simp [hx])) h
    unfold Lib.parseUint10
    rw [if_pos h1, if_neg (by omega), if_neg (by omega)]
    exact ih

theorem atoi_itoa {n : Int} (h : Rng n) : Lib.atoiAll (Lib.itoa n) = .ok n := by
  obtain ⟨f1, f2, f3, _, f5, f6⟩ := itoa_parts h.1 h.2
  have hb : n.natAbs < 1000000000000000000 := by have := h.1; have := h.2; omega
  have hm : Lib.parseMag (unsigned (Lib.itoa n)) = .ok n.natAbs := by
    have h1 := parse_digs (unsigned (Lib.itoa n)) 0 f1 (by rw [f2]; omega)
    unfold Lib.parseMag
    rw [if_neg (by intro e; rw [e] at f3; simp at f3), h1, f2]
    simp
  by_cases hn : n < 0
  · rw [f5 hn]
    simp only [Lib.atoiAll]
    rw [if_pos (.inr rfl), hm]
    dsimp only
    rw [if_neg (fun h => h.1 rfl), if_neg (fun h => by have := h.2; omega), if_pos (show UInt8.toNat 45 = 45 from rfl)]
    congr 1
    omega
  · have e := f6 (by omega)
    rw [e] at hm f1 f3
    cases hc : Lib.itoa n with
    | nil => rw [hc] at f3; simp at f3
    | cons c r =>
      rw [hc] at hm f1
      have hd := f1 c (by simp)
      simp only [Lib.atoiAll]
      rw [if_neg (by omega), hm]
      have h45 : ¬ c.toNat = 45 := by omega
      dsimp only
      rw [if_neg (fun h => by have := h.2; omega), if_neg (fun h => h45 h.1), if_neg h45]
      congr 1
      omega

theorem count_glue : ∀ W : List ByteArray, W.length ≤ (glue W).count 32 ∧ (NoBlank W → (glue W).count 32 = W.length)
  | [] => by simp [glue]
  | x :: r => by
    obtain ⟨h1, h2⟩ := count_glue r
    have e : glue (x :: r) = (x.data.toList ++ [32]) ++ glue r := by simp [glue]
    rw [e, List.count_append, List.count_append]
    refine ⟨by simp; omega, fun h => ?_⟩
    have hx : x.data.toList.count 32 = 0 := List.count_eq_zero.2 (h x (by simp))
    rw [hx, h2 fun y hy => h y (by simp [hy])]
    simp
    omega

theorem words_len (x : Wr) (h : okR x = true) : (wordsOf (nsR x)).length = 8 + 4 * x.xs.length ∧ x.xs.length ≤ 6 := by
  refine ⟨?_, depR_len (ok_parts h).2.2.2.1⟩
  have := ns_len x
  simp [wordsOf]
  omega

theorem many_words {bs : List UInt8} {W : List ByteArray} (hg : glue W = bs ++ [32]) (hl : 32 < W.length) (x : Wr) : ¬ IsText bs x := fun hx => by
  have hr := rng_ns hx.1
  obtain ⟨h1, h2⟩ := words_len x hx.1
  have hc := (count_glue W).1
  have hc' := (count_glue (wordsOf (nsR x))).2 (no_blank_words hr)
  rw [text_glue hx.1, hx.2, ← hg] at hc'
  omega

theorem wrong_words {bs : List UInt8} {W : List ByteArray} (hW : NoBlank W) (hg : glue W = bs ++ [32]) (hl : W.length < 8 ∨ (W.length - 8) % 4 ≠ 0) (x : Wr) : ¬ IsText bs x := fun hx => by
  have e := words_are hx (rng_ns hx.1) hW hg
  obtain ⟨h1, h2⟩ := words_len x hx.1
  rw [← e] at h1
  omega

theorem wrong_mark {bs : List UInt8} {W : List ByteArray} (hW : NoBlank W) (hg : glue W = bs ++ [32]) (hl : W.getD 0 ⟨#[]⟩ ≠ ⟨#[119]⟩) (x : Wr) : ¬ IsText bs x := fun hx => by
  have e := words_are hx (rng_ns hx.1) hW hg
  apply hl
  rw [e]
  rfl

theorem wrong_num {bs : List UInt8} {W : List ByteArray} (hW : NoBlank W) (hg : glue W = bs ++ [32]) {j : Nat} (hj : j + 1 < W.length) (hl : ∀ n, Lib.atoiAll (W.getD (j + 1) ⟨#[]⟩).data.toList ≠ .ok n) (x : Wr) : ¬ IsText bs x := fun hx => by
  have hr := rng_ns hx.1
  have e := words_are hx hr hW hg
  have hj' : j < (nsR x).length := by rw [e] at hj; simp [wordsOf] at hj; omega
  apply hl ((nsR x)[j])
  rw [e]
  have : (wordsOf (nsR x)).getD (j + 1) ⟨#[]⟩ = str (Lib.itoa ((nsR x)[j])) := by simp [wordsOf, List.getD, hj']
  rw [this]
  have h2 := atoi_itoa (hr _ (List.getElem_mem hj'))
  simpa [str] using h2

end Go.Proofs.YtbbmpfkijhhemaaGreatDoor

namespace Go.Proofs.YtbbmpfkijhhemaaGreatDoor
open Go.ChangeShapes Go.WideShapes Go.ChangeAt Go.RowKit Go.Joins
set_option maxRecDepth 100000
attribute [local go_sem ↓] Go.wp_at_zero Go.wp_at_succ

def IsIs (w : World) (a : Option Addr) (zs : List Int) : Prop :=
  zs = [] ∨ ∃ b o, a = some ⟨b, o, none⟩ ∧ b < w.heap.size ∧ ∀ i, i < zs.length → w.cell? ⟨b, o + i, none⟩ = some (.int .i64 (zs.getD i 0))

theorem IsIs.below {w w' : World} {a : Option Addr} {zs : List Int} (h : IsIs w a zs) (hb : Below w.heap.size w w') : IsIs w' a zs := by
  rcases h with h | ⟨b, o, ha, hlt, hh⟩
  · exact .inl h
  · exact .inr ⟨b, o, ha, Nat.lt_of_lt_of_le hlt hb.size, fun i hi => (hb.cell (p := ⟨b, o + i, none⟩) hlt).trans (hh i hi)⟩

theorem IsIs.at {w w' : World} {a : Option Addr} {zs : List Int} (h : IsIs w a zs) (hb : Below w.heap.size w w') {k : Nat} (hk : k < zs.length) : ∃ b o, a = some ⟨b, o, none⟩ ∧ b < w'.heap.size ∧ w'.cell? ⟨b, o + k, none⟩ = some (.int .i64 (zs.getD k 0)) := by
  rcases h.below hb with h | ⟨b, o, ha, hlt, hh⟩
  · subst h
    simp at hk
  · exact ⟨b, o, ha, hlt, hh k hk⟩

def intFill (zs : List Int) (k j : Nat) : Value := .int .i64 (if j < k then zs.getD j 0 else 0)

theorem rowInt_start (w : World) (t n : Nat) (zs : List Int) : (w.alloc (.cells (madeCells #[.int .i64 0] n) t)).rowIs w.heap.size t n (intFill zs 0) := by
  refine ⟨_, Go.Deep.blk_alloc_new _ _, size_madeCells _ _, fun i hi => ?_⟩
  have e : intFill zs 0 i = .int .i64 0 := by unfold intFill; rw [if_neg (by omega)]
  rw [e]
  have h1 : i % 1 = 0 := by omega
  simp [madeCells, hi, h1]

theorem run_make_ints (n : Nat) (hn : n ≤ 1048576) (w : World) :
    (Instr.makeSlice 65 (.int .i64 (n : Int)) (.int .i64 (n : Int))).run Tryz.prog w = .ok (.slice (some ⟨w.heap.size, 0, none⟩) n n) (w.alloc (.cells (madeCells #[.int .i64 0] n) 3)) := by
  obtain ⟨i, hi, hzz⟩ := Option.map_eq_some_iff.1 infoInt
  simp only [Prod.mk.injEq] at hzz
  obtain ⟨hz, hs, hb⟩ := hzz
  have hr := run_make (P := Tryz.prog) w 65 3 i _ Tryz.underlying65 hi hz .i64 .i64 n n (by omega) (Int.le_refl _) (by rw [hb]; omega) (by omega)
  simp only [Int.toNat_natCast, hs, Nat.mul_one] at hr
  exact hr

end Go.Proofs.YtbbmpfkijhhemaaGreatDoor

namespace Go.Proofs
open Go.Shelf
def Tryz.lays244_ren : Go.Shelf.Ren := ⟨fun | 244 => 221 | 247 => 241 | 287 => 256 | 321 => 261 | 322 => 262 | n => n, fun | 9 => 9 | 3 => 3 | 75 => 125 | 4 => 4 | 5 => 5 | 167 => 266 | 37 => 22 | 0 => 0 | 85 => 267 | 2 => 2 | 53 => 117 | 175 => 280 | 46 => 147 | 21 => 21 | 80 => 223 | n => n, fun | n => n⟩
theorem Tryz.lays244 : Go.Proofs.Lays.n244 Tryz.prog Tryz.lays244_ren := {
  mixed := by kernel_rfl
  f244 := Tryz.func221.trans (congrArg some (by kernel_rfl))
  f247 := Tryz.func241.trans (congrArg some (by kernel_rfl))
  f287 := Tryz.func256.trans (congrArg some (by kernel_rfl))
  f321 := Tryz.func261.trans (congrArg some (by kernel_rfl))
  f322 := Tryz.func262.trans (congrArg some (by kernel_rfl))
  t0 := Tryz.underlying0
  a0 := Tryz.isAgg0
  z0 := Tryz.sizeOf0
  v0 := Tryz.zeroValue0
  t2 := Tryz.underlying2
  a2 := Tryz.isAgg2
  z2 := Tryz.sizeOf2
  v2 := Tryz.zeroValue2
  t3 := Tryz.underlying3
  a3 := Tryz.isAgg3
  z3 := Tryz.sizeOf3
  v3 := Tryz.zeroValue3
  t4 := Tryz.underlying4
  a4 := Tryz.isAgg4
  z4 := Tryz.sizeOf4
  v4 := Tryz.zeroValue4
  t5 := Tryz.underlying5
  a5 := Tryz.isAgg5
  z5 := Tryz.sizeOf5
  v5 := Tryz.zeroValue5
  t9 := Tryz.underlying9
  a9 := Tryz.isAgg9
  z9 := Tryz.sizeOf9
  v9 := Tryz.zeroValue9
  t21 := Tryz.underlying21
  a21 := Tryz.isAgg21
  z21 := Tryz.sizeOf21
  v21 := Tryz.zeroValue21
  t37 := Tryz.underlying22
  a37 := Tryz.isAgg22
  z37 := Tryz.sizeOf22
  v37 := Tryz.zeroValue22
  t46 := Tryz.underlying147
  a46 := Tryz.isAgg147
  z46 := Tryz.sizeOf147
  v46 := Tryz.zeroValue147
  t53 := Tryz.underlying117
  a53 := Tryz.isAgg117
  z53 := Tryz.sizeOf117
  v53 := Tryz.zeroValue117
  t75 := Tryz.underlying125
  a75 := Tryz.isAgg125
  z75 := Tryz.sizeOf125
  v75 := Tryz.zeroValue125
  t85 := Tryz.underlying267
  a85 := Tryz.isAgg267
  z85 := Tryz.sizeOf267
  v85 := Tryz.zeroValue267
  t167 := Tryz.underlying266
  a167 := Tryz.isAgg266
  z167 := Tryz.sizeOf266
  v167 := Tryz.zeroValue266
  t175 := Tryz.underlying280
  a175 := Tryz.isAgg280
  z175 := Tryz.sizeOf280
  v175 := Tryz.zeroValue280 }
open Go.RowKit in
theorem Tryz.internal_strconv_Atoi (s : ByteArray) (n : Int) (hl : s.size ≤ 18) (h : Lib.atoi s.data.toList = some n) (w : World) :
    Calls Tryz.prog 221 #[.string s] w fun e w' => e = .returned (.tuple #[.int .i64 n, .nilIface]) ∧ ∃ t, w' = Lib.bytesWorld w 5 t := Any.internal_strconv_Atoi Tryz.lays244 s n hl h w
def Tryz.lays172_ren : Go.Shelf.Ren := ⟨fun | 172 => 208 | 244 => 221 | 245 => 222 | 247 => 241 | 279 => 242 | 280 => 243 | 281 => 244 | 282 => 245 | 287 => 256 | 316 => 257 | 171 => 184 | 205 => 258 | 321 => 261 | 322 => 262 | 243 => 194 | 246 => 203 | 283 => 212 | 284 => 213 | 285 => 214 | 286 => 215 | 129 => 232 | 317 => 233 | 318 => 234 | 319 => 235 | 320 => 236 | 337 => 251 | 338 => 252 | n => n, fun | 9 => 9 | 3 => 3 | 75 => 125 | 76 => 187 | 4 => 4 | 5 => 5 | 167 => 266 | 37 => 22 | 0 => 0 | 85 => 267 | 2 => 2 | 168 => 269 | 53 => 117 | 175 => 280 | 46 => 147 | 210 => 283 | 127 => 232 | 145 => 293 | 143 => 291 | 21 => 21 | 171 => 245 | 173 => 248 | 212 => 261 | 51 => 224 | 20 => 20 | 213 => 262 | 232 => 287 | 233 => 288 | 80 => 223 | n => n, fun | 15 => 7 | 16 => 8 | 17 => 6 | 18 => 9 | 19 => 10 | n => n⟩
theorem Tryz.lays172 : Go.Proofs.Lays.n172 Tryz.prog Tryz.lays172_ren := {
  mixed := by kernel_rfl
  f129 := Tryz.func232.trans (congrArg some (by kernel_rfl))
  f171 := Tryz.func184.trans (congrArg some (by kernel_rfl))
  f172 := Tryz.func208.trans (congrArg some (by kernel_rfl))
  f205 := Tryz.func258.trans (congrArg some (by kernel_rfl))
  f243 := Tryz.func194.trans (congrArg some (by kernel_rfl))
  f244 := Tryz.func221.trans (congrArg some (by kernel_rfl))
  f245 := Tryz.func222.trans (congrArg some (by kernel_rfl))
  f246 := Tryz.func203.trans (congrArg some (by kernel_rfl))
  f247 := Tryz.func241.trans (congrArg some (by kernel_rfl))
  f279 := Tryz.func242.trans (congrArg some (by kernel_rfl))
  f280 := Tryz.func243.trans (congrArg some (by kernel_rfl))
  f281 := Tryz.func244.trans (congrArg some (by kernel_rfl))
  f282 := Tryz.func245.trans (congrArg some (by kernel_rfl))
  f283 := Tryz.func212.trans (congrArg some (by kernel_rfl))
  f284 := Tryz.func213.trans (congrArg some (by kernel_rfl))
  f285 := Tryz.func214.trans (congrArg some (by kernel_rfl))
  f286 := Tryz.func215.trans (congrArg some (by kernel_rfl))
  f287 := Tryz.func256.trans (congrArg some (by kernel_rfl))
  f316 := Tryz.func257.trans (congrArg some (by kernel_rfl))
  f317 := Tryz.func233.trans (congrArg some (by kernel_rfl))
  f318 := Tryz.func234.trans (congrArg some (by kernel_rfl))
  f319 := Tryz.func235.trans (congrArg some (by kernel_rfl))
  f320 := Tryz.func236.trans (congrArg some (by kernel_rfl))
  f321 := Tryz.func261.trans (congrArg some (by kernel_rfl))
  f322 := Tryz.func262.trans (congrArg some (by kernel_rfl))
  f337 := Tryz.func251.trans (congrArg some (by kernel_rfl))
  f338 := Tryz.func252.trans (congrArg some (by kernel_rfl))
  t0 := Tryz.underlying0
  a0 := Tryz.isAgg0
  z0 := Tryz.sizeOf0
  v0 := Tryz.zeroValue0
  t2 := Tryz.underlying2
  a2 := Tryz.isAgg2
  z2 := Tryz.sizeOf2
  v2 := Tryz.zeroValue2
  t3 := Tryz.underlying3
  a3 := Tryz.isAgg3
  z3 := Tryz.sizeOf3
  v3 := Tryz.zeroValue3
  t4 := Tryz.underlying4
  a4 := Tryz.isAgg4
  z4 := Tryz.sizeOf4
  v4 := Tryz.zeroValue4
  t5 := Tryz.underlying5
  a5 := Tryz.isAgg5
  z5 := Tryz.sizeOf5
  v5 := Tryz.zeroValue5
  t9 := Tryz.underlying9
  a9 := Tryz.isAgg9
  z9 := Tryz.sizeOf9
  v9 := Tryz.zeroValue9
  t20 := Tryz.underlying20
  a20 := Tryz.isAgg20
  z20 := Tryz.sizeOf20
  v20 := Tryz.zeroValue20
  t21 := Tryz.underlying21
  a21 := Tryz.isAgg21
  z21 := Tryz.sizeOf21
  v21 := Tryz.zeroValue21
  t37 := Tryz.underlying22
  a37 := Tryz.isAgg22
  z37 := Tryz.sizeOf22
  v37 := Tryz.zeroValue22
  t46 := Tryz.underlying147
  a46 := Tryz.isAgg147
  z46 := Tryz.sizeOf147
  v46 := Tryz.zeroValue147
  t51 := Tryz.underlying224
  a51 := Tryz.isAgg224
  z51 := Tryz.sizeOf224
  v51 := Tryz.zeroValue224
  t53 := Tryz.underlying117
  a53 := Tryz.isAgg117
  z53 := Tryz.sizeOf117
  v53 := Tryz.zeroValue117
  t75 := Tryz.underlying125
  a75 := Tryz.isAgg125
  z75 := Tryz.sizeOf125
  v75 := Tryz.zeroValue125
  t76 := Tryz.underlying187
  a76 := Tryz.isAgg187
  z76 := Tryz.sizeOf187
  v76 := Tryz.zeroValue187
  t85 := Tryz.underlying267
  a85 := Tryz.isAgg267
  z85 := Tryz.sizeOf267
  v85 := Tryz.zeroValue267
  t127 := Tryz.underlying232
  a127 := Tryz.isAgg232
  z127 := Tryz.sizeOf232
  v127 := Tryz.zeroValue232
  t143 := Tryz.underlying291
  a143 := Tryz.isAgg291
  z143 := Tryz.sizeOf291
  v143 := Tryz.zeroValue291
  t145 := Tryz.underlying293
  a145 := Tryz.isAgg293
  z145 := Tryz.sizeOf293
  v145 := Tryz.zeroValue293
  t167 := Tryz.underlying266
  a167 := Tryz.isAgg266
  z167 := Tryz.sizeOf266
  v167 := Tryz.zeroValue266
  t168 := Tryz.underlying269
  a168 := Tryz.isAgg269
  z168 := Tryz.sizeOf269
  v168 := Tryz.zeroValue269
  t171 := Tryz.underlying245
  a171 := Tryz.isAgg245
  z171 := Tryz.sizeOf245
  v171 := Tryz.zeroValue245
  t173 := Tryz.underlying248
  a173 := Tryz.isAgg248
  z173 := Tryz.sizeOf248
  v173 := Tryz.zeroValue248
  t175 := Tryz.underlying280
  a175 := Tryz.isAgg280
  z175 := Tryz.sizeOf280
  v175 := Tryz.zeroValue280
  t210 := Tryz.underlying283
  a210 := Tryz.isAgg283
  z210 := Tryz.sizeOf283
  v210 := Tryz.zeroValue283
  t212 := Tryz.underlying261
  a212 := Tryz.isAgg261
  z212 := Tryz.sizeOf261
  v212 := Tryz.zeroValue261
  t213 := Tryz.underlying262
  a213 := Tryz.isAgg262
  z213 := Tryz.sizeOf262
  t232 := Tryz.underlying287
  a232 := Tryz.isAgg287
  z232 := Tryz.sizeOf287
  v232 := Tryz.zeroValue287
  t233 := Tryz.underlying288
  a233 := Tryz.isAgg288
  z233 := Tryz.sizeOf288
  v233 := Tryz.zeroValue288
  g15 := by kernel_rfl
  g16 := by kernel_rfl
  g17 := by kernel_rfl
  g18 := by kernel_rfl
  g19 := by kernel_rfl }
open Go.RowKit in
theorem Tryz.strconv_Atoi (s : ByteArray) (n : Int) (hl : s.size ≤ 18) (h : Lib.atoi s.data.toList = some n) (w : World) :
    Calls Tryz.prog 208 #[.string s] w fun e w' => e = .returned (.tuple #[.int .i64 n, .nilIface]) ∧ ∃ t, w' = Lib.bytesWorld w 5 t := Any.strconv_Atoi Tryz.lays172 s n hl h w
def Tryz.laysC172_ren : Go.Shelf.Ren := ⟨fun | 172 => 208 | 244 => 221 | 245 => 222 | 247 => 241 | 279 => 242 | 280 => 243 | 281 => 244 | 282 => 245 | 287 => 256 | 316 => 257 | 171 => 184 | 205 => 258 | 321 => 261 | 322 => 262 | 243 => 194 | 246 => 203 | 283 => 212 | 284 => 213 | 285 => 214 | 286 => 215 | 129 => 232 | 317 => 233 | 318 => 234 | 319 => 235 | 320 => 236 | 337 => 251 | 338 => 252 | n => n, fun | 9 => 9 | 3 => 3 | 75 => 125 | 76 => 187 | 4 => 4 | 5 => 5 | 167 => 266 | 37 => 22 | 0 => 0 | 85 => 267 | 2 => 2 | 168 => 269 | 53 => 117 | 175 => 280 | 46 => 147 | 210 => 283 | 127 => 232 | 145 => 293 | 143 => 291 | 21 => 21 | 171 => 245 | 173 => 248 | 212 => 261 | 51 => 224 | 20 => 20 | 213 => 262 | 232 => 287 | 233 => 288 | 80 => 223 | n => n, fun | 15 => 7 | 16 => 8 | 17 => 6 | 18 => 9 | 19 => 10 | n => n⟩
theorem Tryz.laysC172 : Go.Proofs.LaysC.n172 Tryz.prog Tryz.laysC172_ren := {
  mixed := by kernel_rfl
  f129 := Tryz.func232.trans (congrArg some (by kernel_rfl))
  f171 := Tryz.func184.trans (congrArg some (by kernel_rfl))
  f172 := Tryz.func208.trans (congrArg some (by kernel_rfl))
  f205 := Tryz.func258.trans (congrArg some (by kernel_rfl))
  f243 := Tryz.func194.trans (congrArg some (by kernel_rfl))
  f244 := Tryz.func221.trans (congrArg some (by kernel_rfl))
  f245 := Tryz.func222.trans (congrArg some (by kernel_rfl))
  f246 := Tryz.func203.trans (congrArg some (by kernel_rfl))
  f247 := Tryz.func241.trans (congrArg some (by kernel_rfl))
  f279 := Tryz.func242.trans (congrArg some (by kernel_rfl))
  f280 := Tryz.func243.trans (congrArg some (by kernel_rfl))
  f281 := Tryz.func244.trans (congrArg some (by kernel_rfl))
  f282 := Tryz.func245.trans (congrArg some (by kernel_rfl))
  f283 := Tryz.func212.trans (congrArg some (by kernel_rfl))
  f284 := Tryz.func213.trans (congrArg some (by kernel_rfl))
  f285 := Tryz.func214.trans (congrArg some (by kernel_rfl))
  f286 := Tryz.func215.trans (congrArg some (by kernel_rfl))
  f287 := Tryz.func256.trans (congrArg some (by kernel_rfl))
  f316 := Tryz.func257.trans (congrArg some (by kernel_rfl))
  f317 := Tryz.func233.trans (congrArg some (by kernel_rfl))
  f318 := Tryz.func234.trans (congrArg some (by kernel_rfl))
  f319 := Tryz.func235.trans (congrArg some (by kernel_rfl))
  f320 := Tryz.func236.trans (congrArg some (by kernel_rfl))
  f321 := Tryz.func261.trans (congrArg some (by kernel_rfl))
  f322 := Tryz.func262.trans (congrArg some (by kernel_rfl))
  f337 := Tryz.func251.trans (congrArg some (by kernel_rfl))
  f338 := Tryz.func252.trans (congrArg some (by kernel_rfl))
  t0 := Tryz.underlying0
  a0 := Tryz.isAgg0
  z0 := Tryz.sizeOf0
  v0 := Tryz.zeroValue0
  t2 := Tryz.underlying2
  a2 := Tryz.isAgg2
  z2 := Tryz.sizeOf2
  v2 := Tryz.zeroValue2
  t3 := Tryz.underlying3
  a3 := Tryz.isAgg3
  z3 := Tryz.sizeOf3
  v3 := Tryz.zeroValue3
  t4 := Tryz.underlying4
  a4 := Tryz.isAgg4
  z4 := Tryz.sizeOf4
  v4 := Tryz.zeroValue4
  t5 := Tryz.underlying5
  a5 := Tryz.isAgg5
  z5 := Tryz.sizeOf5
  v5 := Tryz.zeroValue5
  t9 := Tryz.underlying9
  a9 := Tryz.isAgg9
  z9 := Tryz.sizeOf9
  v9 := Tryz.zeroValue9
  t20 := Tryz.underlying20
  a20 := Tryz.isAgg20
  z20 := Tryz.sizeOf20
  v20 := Tryz.zeroValue20
  t21 := Tryz.underlying21
  a21 := Tryz.isAgg21
  z21 := Tryz.sizeOf21
  v21 := Tryz.zeroValue21
  t37 := Tryz.underlying22
  a37 := Tryz.isAgg22
  z37 := Tryz.sizeOf22
  v37 := Tryz.zeroValue22
  t46 := Tryz.underlying147
  a46 := Tryz.isAgg147
  z46 := Tryz.sizeOf147
  v46 := Tryz.zeroValue147
  t51 := Tryz.underlying224
  a51 := Tryz.isAgg224
  z51 := Tryz.sizeOf224
  v51 := Tryz.zeroValue224
  t53 := Tryz.underlying117
  a53 := Tryz.isAgg117
  z53 := Tryz.sizeOf117
  v53 := Tryz.zeroValue117
  t75 := Tryz.underlying125
  a75 := Tryz.isAgg125
  z75 := Tryz.sizeOf125
  v75 := Tryz.zeroValue125
  t76 := Tryz.underlying187
  a76 := Tryz.isAgg187
  z76 := Tryz.sizeOf187
  v76 := Tryz.zeroValue187
  t85 := Tryz.underlying267
  a85 := Tryz.isAgg267
  z85 := Tryz.sizeOf267
  v85 := Tryz.zeroValue267
  t127 := Tryz.underlying232
  a127 := Tryz.isAgg232
  z127 := Tryz.sizeOf232
  v127 := Tryz.zeroValue232
  t143 := Tryz.underlying291
  a143 := Tryz.isAgg291
  z143 := Tryz.sizeOf291
  v143 := Tryz.zeroValue291
  t145 := Tryz.underlying293
  a145 := Tryz.isAgg293
  z145 := Tryz.sizeOf293
  v145 := Tryz.zeroValue293
  t167 := Tryz.underlying266
  a167 := Tryz.isAgg266
  z167 := Tryz.sizeOf266
  v167 := Tryz.zeroValue266
  t168 := Tryz.underlying269
  a168 := Tryz.isAgg269
  z168 := Tryz.sizeOf269
  v168 := Tryz.zeroValue269
  t171 := Tryz.underlying245
  a171 := Tryz.isAgg245
  z171 := Tryz.sizeOf245
  v171 := Tryz.zeroValue245
  t173 := Tryz.underlying248
  a173 := Tryz.isAgg248
  z173 := Tryz.sizeOf248
  v173 := Tryz.zeroValue248
  t175 := Tryz.underlying280
  a175 := Tryz.isAgg280
  z175 := Tryz.sizeOf280
  v175 := Tryz.zeroValue280
  t210 := Tryz.underlying283
  a210 := Tryz.isAgg283
  z210 := Tryz.sizeOf283
  v210 := Tryz.zeroValue283
  t212 := Tryz.underlying261
  a212 := Tryz.isAgg261
  z212 := Tryz.sizeOf261
  v212 := Tryz.zeroValue261
  t213 := Tryz.underlying262
  a213 := Tryz.isAgg262
  z213 := Tryz.sizeOf262
  t232 := Tryz.underlying287
  a232 := Tryz.isAgg287
  z232 := Tryz.sizeOf287
  v232 := Tryz.zeroValue287
  t233 := Tryz.underlying288
  a233 := Tryz.isAgg288
  z233 := Tryz.sizeOf288
  v233 := Tryz.zeroValue288
  g15 := by kernel_rfl
  g16 := by kernel_rfl
  g17 := by kernel_rfl
  g18 := by kernel_rfl
  g19 := by kernel_rfl
  t80 := Tryz.underlying223
  a80 := Tryz.isAgg223
  z80 := Tryz.sizeOf223
  v80 := Tryz.zeroValue223
  i0 := by kernel_rfl
  i2 := by kernel_rfl
  i3 := by kernel_rfl
  i4 := by kernel_rfl
  i5 := by kernel_rfl
  i9 := by kernel_rfl
  i20 := by kernel_rfl
  i21 := by kernel_rfl
  i37 := by kernel_rfl
  i46 := by kernel_rfl
  i51 := by kernel_rfl
  i53 := by kernel_rfl
  i75 := by kernel_rfl
  i76 := by kernel_rfl
  i80 := by kernel_rfl
  i85 := by kernel_rfl
  i127 := by kernel_rfl
  i143 := by kernel_rfl
  i145 := by kernel_rfl
  i167 := by kernel_rfl
  i168 := by kernel_rfl
  i171 := by kernel_rfl
  i173 := by kernel_rfl
  i175 := by kernel_rfl
  i210 := by kernel_rfl
  i212 := by kernel_rfl
  i232 := by kernel_rfl
  i233 := by kernel_rfl
  m15 := by kernel_rfl
  m16 := by kernel_rfl
  m17 := by kernel_rfl
  m18 := by kernel_rfl
  m19 := by kernel_rfl
  c0 := by kernel_rfl
  c2 := by kernel_rfl
  c3 := by kernel_rfl
  c4 := by kernel_rfl
  c5 := by kernel_rfl
  c9 := by kernel_rfl
  c20 := by kernel_rfl
  c21 := by kernel_rfl
  c37 := by kernel_rfl
  c46 := by kernel_rfl
  c51 := by kernel_rfl
  c53 := by kernel_rfl
  c75 := by kernel_rfl
  c76 := by kernel_rfl
  c80 := by kernel_rfl
  c85 := by kernel_rfl
  c127 := by kernel_rfl
  c143 := by kernel_rfl
  c145 := by kernel_rfl
  c167 := by kernel_rfl
  c168 := by kernel_rfl
  c171 := by kernel_rfl
  c173 := by kernel_rfl
  c175 := by kernel_rfl
  c210 := by kernel_rfl
  c212 := by kernel_rfl
  c213 := by kernel_rfl
  c232 := by kernel_rfl
  c233 := by kernel_rfl }
open Go.RowKit in
theorem Tryz.strconv_Atoi_ok (s : ByteArray) (hmax : s.size ≤ 9223372036854775806) (v : Int) (h : Lib.atoiAll s.data.toList = .ok v) (w : World) :
    Calls Tryz.prog 208 #[.string s] w fun e w' => e = .returned (.tuple #[.int .i64 v, .nilIface]) ∧ (w' = w ∨ ∃ t, w' = Lib.bytesWorld w 5 t) := Any.strconv_Atoi_ok Tryz.laysC172 s hmax v h w
open Go.RowKit in
theorem Tryz.strconv_Atoi_syntax (s : ByteArray) (hlim : s.size ≤ 281474976710656) (h : Lib.atoiAll s.data.toList = .«syntax») (ev : Value) (w : World) (hv : w.cell? ⟨7, 0, none⟩ = some ev) (hev : ev = .nilIface ∨ ∃ te pe, ev = .iface te pe) :
    Calls Tryz.prog 208 #[.string s] w fun e w' => ∃ N, e = .returned (.tuple #[.int .i64 (0), .iface 269 (.pointer (some ⟨N, 0, none⟩))]) ∧ w.heap.size ≤ N ∧ w'.heap[N]? = some (.cells #[.string ⟨#[65, 116, 111, 105]⟩, .string s, ev] 283 (0, 0)) ∧ Below w.heap.size w w' := Any.strconv_Atoi_syntax Tryz.laysC172 s hlim h ev w hv hev
open Go.RowKit in
theorem Tryz.strconv_Atoi_range (s : ByteArray) (hlim : s.size ≤ 281474976710656) (h : Lib.atoiAll s.data.toList = .range) (ev : Value) (w : World) (hv : w.cell? ⟨8, 0, none⟩ = some ev) (hev : ev = .nilIface ∨ ∃ te pe, ev = .iface te pe) :
    Calls Tryz.prog 208 #[.string s] w fun e w' => ∃ N, e = .returned (.tuple #[.int .i64 (Lib.atoiSat s.data.toList), .iface 269 (.pointer (some ⟨N, 0, none⟩))]) ∧ w.heap.size ≤ N ∧ w'.heap[N]? = some (.cells #[.string ⟨#[65, 116, 111, 105]⟩, .string s, ev] 283 (0, 0)) ∧ Below w.heap.size w w' := Any.strconv_Atoi_range Tryz.laysC172 s hlim h ev w hv hev
open Go.RowKit in
theorem Tryz.strconv_Atoi_syntax_var (s : ByteArray) (hlim : s.size ≤ 281474976710656) (h : Lib.atoiAll s.data.toList = .«syntax») (tp : TypeId) (p : Value) (w : World) (hvar : w.var? Tryz.prog "strconv.ErrSyntax" = some #[.iface tp p]) :
    Calls Tryz.prog 208 #[.string s] w fun e w' => ∃ N, e = .returned (.tuple #[.int .i64 0, .iface 269 (.pointer (some ⟨N, 0, none⟩))]) ∧ w.heap.size ≤ N ∧ w'.heap[N]? = some (.cells #[.string ⟨#[65, 116, 111, 105]⟩, .string s, .iface tp p] 283 (0, 0)) ∧ Below w.heap.size w w' := Any.strconv_Atoi_syntax_var Tryz.laysC172 s hlim h tp p w hvar
open Go.RowKit in
theorem Tryz.strconv_Atoi_range_var (s : ByteArray) (hlim : s.size ≤ 281474976710656) (h : Lib.atoiAll s.data.toList = .range) (tp : TypeId) (p : Value) (w : World) (hvar : w.var? Tryz.prog "strconv.ErrRange" = some #[.iface tp p]) :
    Calls Tryz.prog 208 #[.string s] w fun e w' => ∃ N, e = .returned (.tuple #[.int .i64 (Lib.atoiSat s.data.toList), .iface 269 (.pointer (some ⟨N, 0, none⟩))]) ∧ w.heap.size ≤ N ∧ w'.heap[N]? = some (.cells #[.string ⟨#[65, 116, 111, 105]⟩, .string s, .iface tp p] 283 (0, 0)) ∧ Below w.heap.size w w' := Any.strconv_Atoi_range_var Tryz.laysC172 s hlim h tp p w hvar
def Tryz.laysM147_ren : Go.Shelf.Ren := ⟨fun | 147 => 207 | 221 => 220 | 268 => 239 | 138 => 240 | 143 => 197 | 195 => 253 | 197 => 254 | 218 => 255 | 219 => 206 | 260 => 260 | 217 => 216 | 225 => 217 | 224 => 218 | 267 => 219 | 266 => 237 | 314 => 238 | n => n, fun | 9 => 9 | 3 => 3 | 31 => 182 | 4 => 4 | 0 => 0 | 105 => 278 | 21 => 21 | 5 => 5 | 46 => 147 | 119 => 294 | 139 => 297 | 138 => 296 | 146 => 263 | 51 => 224 | n => n, fun | 1 => 5 | 3 => 11 | 4 => 12 | n => n⟩
theorem Tryz.laysM147 : Go.Proofs.LaysM.n147 Tryz.prog Tryz.laysM147_ren := {
  mixed := by kernel_rfl
  f138 := Tryz.func240.trans (congrArg some (by kernel_rfl))
  f143 := Tryz.func197.trans (congrArg some (by kernel_rfl))
  f147 := Tryz.func207.trans (congrArg some (by kernel_rfl))
  f195 := Tryz.func253.trans (congrArg some (by kernel_rfl))
  f197 := Tryz.func254.trans (congrArg some (by kernel_rfl))
  f217 := Tryz.func216.trans (congrArg some (by kernel_rfl))
  f218 := Tryz.func255.trans (congrArg some (by kernel_rfl))
  f219 := Tryz.func206.trans (congrArg some (by kernel_rfl))
  f221 := Tryz.func220.trans (congrArg some (by kernel_rfl))
  f224 := Tryz.func218.trans (congrArg some (by kernel_rfl))
  f225 := Tryz.func217.trans (congrArg some (by kernel_rfl))
  f260 := Tryz.func260.trans (congrArg some (by kernel_rfl))
  f266 := Tryz.func237.trans (congrArg some (by kernel_rfl))
  f267 := Tryz.func219.trans (congrArg some (by kernel_rfl))
  f268 := Tryz.func239.trans (congrArg some (by kernel_rfl))
  f314 := Tryz.func238.trans (congrArg some (by kernel_rfl))
  t0 := Tryz.underlying0
  a0 := Tryz.isAgg0
  z0 := Tryz.sizeOf0
  v0 := Tryz.zeroValue0
  t3 := Tryz.underlying3
  a3 := Tryz.isAgg3
  z3 := Tryz.sizeOf3
  v3 := Tryz.zeroValue3
  t4 := Tryz.underlying4
  a4 := Tryz.isAgg4
  z4 := Tryz.sizeOf4
  v4 := Tryz.zeroValue4
  t5 := Tryz.underlying5
  a5 := Tryz.isAgg5
  z5 := Tryz.sizeOf5
  v5 := Tryz.zeroValue5
  t9 := Tryz.underlying9
  a9 := Tryz.isAgg9
  z9 := Tryz.sizeOf9
  v9 := Tryz.zeroValue9
  t21 := Tryz.underlying21
  a21 := Tryz.isAgg21
  z21 := Tryz.sizeOf21
  v21 := Tryz.zeroValue21
  t31 := Tryz.underlying182
  a31 := Tryz.isAgg182
  z31 := Tryz.sizeOf182
  v31 := Tryz.zeroValue182
  t46 := Tryz.underlying147
  a46 := Tryz.isAgg147
  z46 := Tryz.sizeOf147
  v46 := Tryz.zeroValue147
  t51 := Tryz.underlying224
  a51 := Tryz.isAgg224
  z51 := Tryz.sizeOf224
  v51 := Tryz.zeroValue224
  t105 := Tryz.underlying278
  a105 := Tryz.isAgg278
  z105 := Tryz.sizeOf278
  v105 := Tryz.zeroValue278
  t119 := Tryz.underlying294
  a119 := Tryz.isAgg294
  z119 := Tryz.sizeOf294
  t138 := Tryz.underlying296
  a138 := Tryz.isAgg296
  z138 := Tryz.sizeOf296
  v138 := Tryz.zeroValue296
  t139 := Tryz.underlying297
  a139 := Tryz.isAgg297
  z139 := Tryz.sizeOf297
  v139 := Tryz.zeroValue297
  t146 := Tryz.underlying263
  a146 := Tryz.isAgg263
  z146 := Tryz.sizeOf263
  v146 := Tryz.zeroValue263
  g1 := by kernel_rfl
  g3 := by kernel_rfl
  g4 := by kernel_rfl
  i0 := by kernel_rfl
  i3 := by kernel_rfl
  i4 := by kernel_rfl
  i5 := by kernel_rfl
  i9 := by kernel_rfl
  i21 := by kernel_rfl
  i31 := by kernel_rfl
  i46 := by kernel_rfl
  i51 := by kernel_rfl
  i105 := by kernel_rfl
  i138 := by kernel_rfl
  i139 := by kernel_rfl
  i146 := by kernel_rfl
  m1 := by kernel_rfl
  s1_3 := fun w h => Go.Proofs.cell_of_shapedOpen_int (zero := #[.int .i64 0]) (t := 3) h (of_decide_eq_true (by kernel_rfl)) (by kernel_rfl) rfl (by kernel_rfl) (by kernel_rfl) Tryz.underlying3
  m3 := by kernel_rfl
  m4 := by kernel_rfl }
open Go.RowKit Go.Lib in
theorem Tryz.strings_SplitN_shaped (s sep : ByteArray) (n : Nat) (w : World) (h : w.ShapedOpen Tryz.prog) (hs : s.size < 4294967281) (h1 : 1 ≤ sep.size) (hn : 1 ≤ n) (hn63 : n ≤ 9223372036854775807) :
    Calls Tryz.prog 207 #[.string s, .string sep, .int .i64 n] w fun e w' =>
      e = .returned (.slice (some ⟨w.heap.size, 0, none⟩) (Lib.splitB sep 0 (min n (s.size + 1) - 1) s).length (min n (s.size + 1))) ∧ w' = w.alloc (.cells (Lib.cellsOf (Lib.splitB sep 0 (min n (s.size + 1) - 1) s) (min n (s.size + 1))) 9) := Any.strings_SplitN_shaped Tryz.laysM147 s sep n w h hs h1 hn hn63
end Go.Proofs
