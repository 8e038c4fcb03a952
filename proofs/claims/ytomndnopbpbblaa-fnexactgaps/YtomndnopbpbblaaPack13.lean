import Derived.Test.YtomndnopbpbblaaPack12
import Derived.Test.YtomndnopbpbblaaPack8
import Derived.Deep.DeepCutAuto
import Derived.Deep.OwnRows
import Derived.Test.YtomndnopbpbblaaPack7
import Derived.Test.YtomndnopbpbblaaPack6
/- Gaps, the program's side: the contract of impl.Gaps. -/
namespace Go.Proofs.Ytomndnopbpbblaa
open Go.ChangeShapes Go.WideShapes Go.ChangeAt Go.RowKit Go.Joins
attribute [local go_sem ↓] Go.wp_at_zero Go.wp_at_succ

theorem lacks_late (s : Int) (ws : List Wr) (k : Int) (t : Tg) : lacksT (addAll (fun _ _ => none) s ws) s k t = !lateB ws k t := by
  have hw : LatestOf (addAll (fun _ _ => none) s ws) (ws.map fun x => (s, x)) := by simpa using latest_all s ws latest_nil
  cases hb : lateB ws k t with
  | true =>
    obtain ⟨x, hx, x1, x2⟩ := (lateB_iff ws k t).1 hb
    exact (lacks_iff hw s k t).2 ⟨(s, x), List.mem_map.2 ⟨x, hx, rfl⟩, rfl, x1, x2⟩
  | false =>
    cases hl : lacksT (addAll (fun _ _ => none) s ws) s k t with
    | true => rfl
    | false =>
      obtain ⟨p, hp, _, p2, p3⟩ := (lacks_iff hw s k t).1 hl
      obtain ⟨x, hx, rfl⟩ := List.mem_map.1 hp
      rw [(lateB_iff ws k t).2 ⟨x, hx, p2, p3⟩] at hb
      cases hb

/-- What stays: where the teller's map lies (B), what was made until it was there (M). -/
structure GapK (w : World) (B M : Nat) (gs : List EnG) : Prop where
  lo : w.heap.size + 1 < B
  hi : B + 1 < M
  far : ∀ e ∈ gs, 0 < e.x.xs.length → e.g < M ∧ e.g ≠ B
  pair : gs.Pairwise fun e e' => 0 < e.x.xs.length → 0 < e'.x.xs.length → e.g ≠ e'.g
  once : (gs.map (·.x)).Nodup

def leftG (gs : List EnG) (T : List Wr) : List EnG := gs.filter fun e => !hasW T e.x

structure GapJ (w : World) (B M n : Nat) (gs : List EnG) (sn : Nat) (f : Int → Int → Option Tg) (eo : Obj) (wr : World) (T out : List Wr) (v : Value) (ts : List EnG) : Prop where
  below : Below w.heap.size w wr
  big : M ≤ wr.heap.size
  xs : ts.map (·.x) = out
  sub : ∀ e ∈ ts, e ∈ gs
  row : RowG wr w.heap.size v ts
  new : ∀ g, v.ownBlock = some g → M ≤ g
  deps : ∀ e ∈ gs, FreshDeps B wr e.a e.g e.x.xs
  tell : ∃ V, RowsIs wr B n B V (rowE (leftG gs T)) ∧ ∀ y, SetS B V y → y < M
  lat : LatIs wr (w.heap.size + 1) sn f
  pbox : wr.cell? ⟨B + 1, 0, none⟩ = some (.map (some B))
  ebox : wr.heap[w.heap.size]? = some eo

theorem GapJ.more {w : World} {B M n : Nat} {gs : List EnG} {sn : Nat} {f : Int → Int → Option Tg} {eo : Obj} {wr w' : World} {T out : List Wr} {v : Value} {ts : List EnG} (h : GapJ w B M n gs sn f eo wr T out v ts) (hb : Below wr.heap.size wr w') : GapJ w B M n gs sn f eo w' T out v ts where
  below := below_step h.below h.below.size hb
  big := Nat.le_trans h.big hb.size
  xs := h.xs
  sub := h.sub
  row := h.row.below hb
  new := h.new
  deps := fun e he => (h.deps e he).below hb
  tell := by
    obtain ⟨V, h1, h2⟩ := h.tell
    exact ⟨V, h1.below hb, h2⟩
  lat := h.lat.below hb
  pbox := (hb.cell (p := ⟨B + 1, 0, none⟩) (World.block_lt_of_cell? wr _ h.pbox)).trans h.pbox
  ebox := (hb.block _ (Array.getElem?_eq_some_iff.1 h.ebox).1).trans h.ebox

/-- One more was asked of. -/
theorem GapJ.asked {w : World} {B M n : Nat} {gs : List EnG} {sn : Nat} {f : Int → Int → Option Tg} {eo : Obj} {wr w' : World} {T T' out : List Wr} {v v2 : Value} {ts ts2 : List EnG} {ds : List Dp} (hk : GapK w B M gs) (h : GapJ w B M n gs sn f eo wr T out v ts) (hc : ToldC M wr w' B n B (leftG gs T) ds v2 ts2)
    (hT : leftG (leftG gs T) (ts2.map (·.x)) = leftG gs T') : GapJ w B M n gs sn f eo w' T' out v ts where
  below := Below.butOn h.below hc.but h.below.size fun y hy => by have := hk.lo; omega
  big := Nat.le_trans h.big hc.but.size
  xs := h.xs
  sub := h.sub
  row := h.row.but hc.but (fun g hg e => by
    have := h.new _ hg
    have := hk.hi
    omega) fun e he hp e' => (hk.far e (h.sub e he) hp).2 e'
  new := h.new
  deps := fun e he => (h.deps e he).of_block hc.but.size fun hp => hc.but.block e.g (h.deps e he hp).2.2.1 (hk.far e he hp).2
  tell := by
    obtain ⟨V', h1, h2⟩ := hc.left
    have e : (leftG gs T).filter (fun e => !hasW (ts2.map (·.x)) e.x) = leftG gs T' := hT
    rw [e] at h1
    exact ⟨V', h1, h2⟩
  lat := MapIs.of_block h.lat (hc.but.block _ h.lat.lt (by have := hk.lo; omega))
  pbox := (World.cell?_of_block (a := ⟨B + 1, 0, none⟩) (hc.but.block (B + 1) (World.block_lt_of_cell? wr _ h.pbox) (by omega))).trans h.pbox
  ebox := (hc.but.block _ (Array.getElem?_eq_some_iff.1 h.ebox).1 (by have := hk.lo; omega)).trans h.ebox

/-- One gap more. -/
theorem GapJ.told {w : World} {B M n : Nat} {gs : List EnG} {sn : Nat} {f : Int → Int → Option Tg} {eo : Obj} {wr w5 : World} {T out : List Wr} {v : Value} {ts : List EnG} {e : EnG} {g5 cap5 : Nat} (hk : GapK w B M gs) (h : GapJ w B M n gs sn f eo wr T out v ts) (he : e ∈ gs) (hn : e.x ∉ out)
    (hown : w5.ownsRow w.heap.size 37 7 (.slice (some ⟨g5, 0, none⟩) (ts.length + 1) cap5) (ts.length + 1) (ts.flatMap wrValsG ++ wrValsG e)) (hgrow : wr.grownBy w5 v.ownBlock) (hg : v.ownBlock = some g5 ∨ g5 = wr.heap.size) : GapJ w B M n gs sn f eo w5 T (out ++ [e.x]) (.slice (some ⟨g5, 0, none⟩) (ts.length + 1) cap5) (ts ++ [e]) := by
  have hM : ∀ y, y < M → w5.heap[y]? = wr.heap[y]? := fun y hy => hgrow.block y (Nat.lt_of_lt_of_le hy h.big) fun e' => by have := h.new y e'.symm; omega
  have hlo := hk.lo
  have hhi := hk.hi
  have hfd : ∀ d ∈ gs, FreshDeps B w5 d.a d.g d.x.xs := fun d hd => (h.deps d hd).of_block hgrow.size fun hp => hM _ (hk.far d hd hp).1
  refine ⟨h.below.grown hgrow h.below.size fun j hj => by have := h.new j hj; omega, Nat.le_trans h.big hgrow.size, by rw [List.map_append, h.xs]; rfl, fun d hd => ?_, ?_, fun g hg' => ?_, hfd, ?_, MapIs.of_block h.lat (hM _ (by omega)), (World.cell?_of_block (a := ⟨B + 1, 0, none⟩) (hM (B + 1) (by omega))).trans h.pbox, (hM _ (by omega)).trans h.ebox⟩
  · rcases List.mem_append.1 hd with hd | hd
    · exact h.sub d hd
    · obtain rfl : d = e := by simpa using hd
      exact he
  · refine h.row.more ((h.deps e he).mono (by omega)) (fun hp e' => by have := h.new e.g e'; have := (hk.far e he hp).1; omega) (fun d hd hp hq => ?_) hown hgrow hg
    exact pair_mem (fun a b hab hb ha => (hab ha hb).symm) hk.pair (h.sub d hd) he (fun e0 => hn (by rw [← h.xs, ← e0]; exact List.mem_map.2 ⟨d, hd, rfl⟩)) hp hq
  · have e5 : g5 = g := by
      simp only [Value.ownBlock, Option.some.injEq] at hg'
      exact hg'
    rcases hg with hg | hg
    · exact h.new g (by rw [hg, e5])
    · have := h.big
      omega
  · obtain ⟨V, h1, h2⟩ := h.tell
    exact ⟨V, h1.keep fun x hx => hM x (h2 x hx), h2⟩

theorem leftG_left {gs : List EnG} {all T : List Wr} {x : Wr} {ts : List EnG} (hts : ts.map (·.x) = (causesL all x.xs).filter (notIn T)) : leftG (leftG gs T) (ts.map (·.x)) = leftG gs (tellT all T x) := by
  unfold leftG
  rw [List.filter_filter]
  refine List.filter_congr fun e _ => ?_
  rw [hts]
  have h1 : ∀ X : List Wr, (!hasW X e.x) = notIn X e.x := fun _ => rfl
  rw [h1, h1, h1]
  have h2 : (notIn ((causesL all x.xs).filter (notIn T)) e.x && notIn T e.x) = true ↔ notIn (tellT all T x) e.x = true := by
    rw [Bool.and_eq_true, notIn_iff, notIn_iff, notIn_iff]
    unfold tellT
    rw [List.mem_append, List.mem_filter, notIn_iff]
    constructor
    · rintro ⟨a, b⟩ (c | c)
      · exact b c
      · exact a c
    · intro a
      exact ⟨fun c => a (.inr c), fun c => a (.inl c)⟩
  cases hp : (notIn ((causesL all x.xs).filter (notIn T)) e.x && notIn T e.x) <;> cases hq : notIn (tellT all T x) e.x <;> simp_all

theorem leftG_x {gs : List EnG} {all T : List Wr} (hg : gs.map (·.x) = all) : (leftG gs T).map (·.x) = all.filter (notIn T) := by
  rw [← hg, List.filter_map]
  rfl

theorem leftG_nil (gs : List EnG) : leftG gs [] = gs := by
  unfold leftG
  exact List.filter_eq_self.2 fun e _ => rfl

set_option maxRecDepth 100000 in
set_option maxHeartbeats 16000000 in
theorem implGaps_any (a : Option Addr) (n cap : Nat) (es : List Ev) (z : Int) (w : World) (hn : es.length = n) (hm : n ≤ 1048576) (hx : FewE es) (hh : heftB (evW es) ≤ 1048576) (hr : EsR es) (hi : IsEs w a es) :
    Calls Try.prog 19 #[.slice a n cap, .int .i64 z] w fun e w' => ∃ v ts, e = .returned v ∧ ts.map (·.x) = gapsL es z ∧ RowG w' w.heap.size v ts ∧ Below w.heap.size w w' := by
  have HI := Lib.hid hi
  have HN := Lib.hid hn
  have HX := Lib.hid hx
  have HHE := Lib.hid hh
  have HR := Lib.hid hr
  have HND := Lib.hid (written_nodup es)
  have HWG : Hid (wgt (writtenL es) ≤ 1048576) := Nat.le_trans (written_wgt es) hh
  have HRR := Lib.hid (written_R hr)
  have HWR : Hid (WsR (writtenL es)) := fun j hj => written_R hr _ (by simp [List.getD, hj])
  clear hi hn hx hh hr
  obtain ⟨i0, hi0, hx0⟩ := Option.map_eq_some_iff.1 infoWr
  simp only [Prod.mk.injEq] at hx0
  have HI0 := Lib.hid hi0
  have HX0 := Lib.hid hx0
  clear hi0 hx0
  have hmm := @run_makeMap Try.prog
  go_enter Try.func19, Try.ntmps19
  go_wp2_with fail
  refine (inRange_any _ _ _ _).mono ?_
  rintro e w' ⟨rfl, hw'⟩
  subst w'
  by_cases hz : 0 ≤ z ∧ z < (n : Int)
  case neg =>
    have hbt : btw z 0 ((n : Int) - 1) = false := by
      unfold btw
      simp only [decide_eq_false_iff_not]
      omega
    rw [hbt]
    have HF : Hid (gapsL es z = []) := gaps_out (by rw [HN.out]; exact hz)
    clear hmm
    go_wp2
    go_ret
    exact ⟨_, [], rfl, HF.out.symm, rowG_nil _ _, Below.refl _ _⟩
  obtain ⟨i, rfl⟩ : ∃ i : Nat, z = (i : Int) := ⟨z.toNat, by omega⟩
  have hin : i < n := by omega
  have hbt : btw (i : Int) 0 ((n : Int) - 1) = true := by
    unfold btw
    simp only [decide_eq_true_eq]
    omega
  rw [hbt]
  have hiw : i < es.length := by rw [HN.out]; exact hin
  have i1 : (0 : Int) ≤ (i : Int) := by omega
  have i2 : (i : Int) < (n : Int) := by omega
  obtain ⟨b, o, ad, cp, rfl, hzb, e0, hw⟩ := HI.out.at (Below.refl _ w) hiw
  have HW := Lib.hid hw
  have HSH : Hid ((es.getD i evz).sh = false → gapsL es (i : Int) = []) := fun h => gaps_sh h
  have HMK : Hid ((es.getD i evz).m < 0 → gapsL es (i : Int) = []) := fun h => gaps_mask h
  have HGI : Hid ((es.getD i evz).sh = true → 0 ≤ (es.getD i evz).m → gapsL es (i : Int) = (toldT (writtenL es) (es.getD i evz).ws).filter (gapP (es.getD i evz).m (es.getD i evz).ws)) := fun h h2 => gaps_in hiw h h2
  obtain ⟨hrs, hrm, hrw⟩ := HR.out i hiw
  obtain ⟨hli, hfi⟩ := HX.out i hiw
  have HFI := Lib.hid hfi
  have HRW := Lib.hid hrw
  have HRS := Lib.hid hrs
  clear hfi hw hiw hz hrw hrs
  generalize es.getD i evz = y at *
  obtain ⟨ys, ysh, ym, yw⟩ := y
  unfold EvAt at e0
  simp only at e0 hli HSH HMK HGI hrm HFI HW HRW HRS
  obtain ⟨e0, e1, e2, e3⟩ := e0
  have hmi : ym ≤ 9223372036854775807 := hrm.2
  clear hrm
  obtain ⟨q, hq⟩ : ∃ q, yw.length = q := ⟨_, rfl⟩
  have HQ := Lib.hid hq
  rw [hq] at e3 hli
  clear hq
  cases ysh
  · have HF : Hid (gapsL es (i : Int) = []) := HSH.out rfl
    clear hmm
    go_wp2
    go_ret
    exact ⟨_, [], rfl, HF.out.symm, rowG_nil _ _, Below.refl _ _⟩
  by_cases hm0 : ym < 0
  · have HF : Hid (gapsL es (i : Int) = []) := HMK.out hm0
    clear hmm
    go_wp2
    go_ret
    exact ⟨_, [], rfl, HF.out.symm, rowG_nil _ _, Below.refl _ _⟩
  have HGE := Lib.hid (HGI.out rfl (by omega))
  clear HSH HMK HGI
  have HEB : Hid (((w.alloc (.cells #[.int .i64 ys, .bool true, .int .i64 ym, .slice ad q cp] 59)).alloc (.map #[] 0)).heap[w.heap.size]? = some (.cells #[.int .i64 ys, .bool true, .int .i64 ym, .slice ad q cp] 59 (0, 0))) := (Below.heap_alloc _ _ _ (by simp)).trans (heap_alloc_new w _)
  have HB2 : Hid (Below w.heap.size w ((w.alloc (.cells #[.int .i64 ys, .bool true, .int .i64 ym, .slice ad q cp] 59)).alloc (.map #[] 0))) := ((Below.refl _ _).alloc (Nat.le_refl _) _).alloc (by simp) _
  have HS2 : Hid (((w.alloc (.cells #[.int .i64 ys, .bool true, .int .i64 ym, .slice ad q cp] 59)).alloc (.map #[] 0)).heap.size = w.heap.size + 2) := by show _ = _; simp
  have HL2 : Hid (LatIs ((w.alloc (.cells #[.int .i64 ys, .bool true, .int .i64 ym, .slice ad q cp] 59)).alloc (.map #[] 0)) (w.heap.size + 1) 0 (fun _ _ => none)) := by
    have h := mapIs_made keyS (w.alloc (.cells #[.int .i64 ys, .bool true, .int .i64 ym, .slice ad q cp] 59))
    rw [show (w.alloc (.cells #[.int .i64 ys, .bool true, .int .i64 ym, .slice ad q cp] 59)).heap.size = w.heap.size + 1 by simp] at h
    exact h
  go_upto_region 5 with fail
  clear hmm e0 e1 e2 e3
  generalize (w.alloc (.cells #[.int .i64 ys, .bool true, .int .i64 ym, .slice ad q cp] 59)).alloc (.map #[] 0) = W2 at *
  have b0 := cell_of_row W2 w.heap.size 0 _ _ _ HEB.out
  have b1 := cell_of_row W2 w.heap.size 1 _ _ _ HEB.out
  have b2 := cell_of_row W2 w.heap.size 2 _ _ _ HEB.out
  have b3 := cell_of_row W2 w.heap.size 3 _ _ _ HEB.out
  simp at b0 b1 b2 b3
  go_wp2_with fail
  refine (latAdd_any (w.heap.size + 1) 0 (fun _ _ => none) ys true ym ad q cp yw w W2 HRS.out HQ.out hli (by omega) HRW.out HW.out HB2.out (by omega) HL2.out).mono ?_
  rintro e w3 ⟨rfl, hlat, hgr⟩
  have HL3 := Lib.hid hlat
  have HB3 : Hid (Below w.heap.size w w3) := HB2.out.grown hgr HB2.out.size fun j hj => by
    injection hj with hj
    omega
  have HE3 : Hid (w3.heap[w.heap.size]? = some (.cells #[.int .i64 ys, .bool true, .int .i64 ym, .slice ad q cp] 59 (0, 0))) := (hgr.block _ (Array.getElem?_eq_some_iff.1 HEB.out).1 fun e => by injection e with e; omega).trans HEB.out
  have hz3 : w.heap.size + 2 ≤ w3.heap.size := by
    have h1 := hgr.size
    have h2 := HS2.out
    omega
  clear b0 b1 b2 b3 hlat hgr HL2 HB2 HEB HS2
  go_wp2_with fail
  refine (causeTeller_any (some ⟨b, o, none⟩) n cap es w3 HN.out hm HX.out HHE.out HR.out HWR.out (HI.out.below HB3.out)).mono ?_
  rintro e w4 ⟨v4, gs, rfl, hgs, V4, hT⟩
  obtain ⟨all, hall⟩ : ∃ all, writtenL es = all := ⟨_, rfl⟩
  rw [hall] at HND HWG HGE HRR hgs
  have HGS : Hid (gs.map (·.x) = all) := hgs
  obtain ⟨B, hB⟩ : ∃ B, w3.heap.size = B := ⟨_, rfl⟩
  have hpl := World.block_lt_of_cell? w4 _ hT.box
  have HK : Hid (GapK w B w4.heap.size gs) := by
    rw [← hB]
    exact ⟨by omega, hpl, fun e he hp => ⟨((hT.row.deps e he).1 hp).2.2.1, fun e0 => hT.dis2 e he hp (.inl e0)⟩, hT.row.apart, by rw [hgs]; exact HND.out⟩
  have HJ : Hid (GapJ w B w4.heap.size gs.length gs (0 + q) (addAll (fun _ _ => none) ys yw) (.cells #[.int .i64 ys, .bool true, .int .i64 ym, .slice ad q cp] 59 (0, 0)) w4 (toldT all (yw.take 0)) ((toldT all (yw.take 0)).filter (gapP ym yw)) (.slice none 0 0) []) := by
    rw [← hB]
    have hb4 : Below w3.heap.size w3 w4 := hT.below
    refine ⟨below_step HB3.out HB3.out.size hb4, Nat.le_refl _, rfl, fun e he => (by cases he), rowG_nil _ _, fun g hg => (by simp [Value.ownBlock] at hg), fun e he => (hT.row.deps e he).1, ⟨V4, ?_, hT.rows.lt⟩, HL3.out.below hb4, hT.box, (hb4.block _ (Array.getElem?_eq_some_iff.1 HE3.out).1).trans HE3.out⟩
    have h := hT.rows
    rw [List.take_of_length_le (Nat.le_refl _)] at h
    rw [show toldT all (yw.take 0) = [] from rfl, leftG_nil]
    exact h
  clear hT hgs hall hpl HL3 HB3 HE3 hz3 HWR
  rw [hB]
  clear hB
  have q3 := cell_of_row w4 w.heap.size 3 _ _ _ HJ.out.ebox
  simp at q3
  obtain ⟨M, hM⟩ : ∃ M, w4.heap.size = M := ⟨_, rfl⟩
  rw [hM] at HK HJ
  clear hM
  go_wp2
  clear q3
  have HFF : Hid (∀ k t, lacksT (addAll (fun _ _ => none) ys yw) ys k t = !lateB yw k t) := lacks_late ys yw
  generalize (addAll (fun _ _ => none) ys yw) = ff at HJ HFF
  go_loopw [8, 48] (fun t8 t48 wr => ∃ (k : Nat) (v : Value) (ts : List EnG), k ≤ q ∧ v = t8 ∧ t48 = .int .i64 k ∧ Hid (GapJ w B M gs.length gs (0 + q) ff (.cells #[.int .i64 ys, .bool true, .int .i64 ym, .slice ad q cp] 59 (0, 0)) wr (toldT all (yw.take k)) ((toldT all (yw.take k)).filter (gapP ym yw)) v ts)) (fun _ i _ => q - (intOf i).toNat)
  case atStart => exact ⟨0, _, [], Nat.zero_le _, rfl, rfl, HJ⟩
  case round =>
    clear HJ
    obtain ⟨k, v, ts, hk, rfl, rfl, HJ⟩ := hrel
    by_cases hk' : k < q
    · have hkw : k < yw.length := by rw [HQ.out]; exact hk'
      have j1 : (0 : Int) ≤ (k : Int) := by omega
      have j2 : (k : Int) < (q : Int) := by omega
      obtain ⟨bz, oz, az, cz, hza, hbz, ⟨f0, f1, f2, f3, f4, f5, f6⟩, hdz⟩ := HW.out.at HJ.out.below HQ.out hk'
      subst hza
      have hxl := HFI.out k hkw
      have hxr := HRW.out k hkw
      have HTN := Lib.hid (toldT_next all yw hkw)
      have HTT := Lib.hid (toldT_is HND.out (yw.take k))
      have HTT2 : Hid (TellT all (toldT all (yw.take (k + 1)))) := toldT_is HND.out _
      have HDZ := Lib.hid hdz
      have HDX := Lib.hid (wr_deps hxr)
      clear hdz hxr
      generalize yw.getD k wz = x at *
      generalize hT2 : toldT all (yw.take (k + 1)) = T2 at *
      have HT2E := Lib.hid hT2
      clear hT2
      generalize toldT all (yw.take k) = T at *
      obtain ⟨xk, xc, xs', xq, xv, xd, xx⟩ := x
      simp only at f0 f1 f2 f3 f4 f5 f6 hxl HDZ HDX
      have hbC : Below wr.heap.size wr (wr.alloc (.cells #[.int .i64 xk, .int .i64 xc, .int .i64 xs', .int .i64 xq, .int .i64 xv, .bool xd, .slice az xx.length cz] 37)) := (Below.refl _ _).alloc (Nat.le_refl _) _
      have HJC := Lib.hid (HJ.out.more hbC)
      have HXC : Hid ((wr.alloc (.cells #[.int .i64 xk, .int .i64 xc, .int .i64 xs', .int .i64 xq, .int .i64 xv, .bool xd, .slice az xx.length cz] 37)).heap[wr.heap.size]? = some (.cells #[.int .i64 xk, .int .i64 xc, .int .i64 xs', .int .i64 xq, .int .i64 xv, .bool xd, .slice az xx.length cz] 37 (0, 0))) := heap_alloc_new wr _
      have HDC := Lib.hid (HDZ.out.below hbC)
      go_upto_region 11 with fail
      clear f0 f1 f2 f3 f4 f5 f6 hbz hbC HJ HDZ
      obtain ⟨BX, hBX⟩ : ∃ BX, wr.heap.size = BX := ⟨_, rfl⟩
      rw [hBX] at HXC
      try rw [hBX]
      generalize wr.alloc (.cells #[.int .i64 xk, .int .i64 xc, .int .i64 xs', .int .i64 xq, .int .i64 xv, .bool xd, .slice az xx.length cz] 37) = wC at *
      clear hBX
      have c0 := cell_of_row wC BX 0 _ _ _ HXC.out
      have c1 := cell_of_row wC BX 1 _ _ _ HXC.out
      have c2 := cell_of_row wC BX 2 _ _ _ HXC.out
      have c3 := cell_of_row wC BX 3 _ _ _ HXC.out
      have c4 := cell_of_row wC BX 4 _ _ _ HXC.out
      have c5 := cell_of_row wC BX 5 _ _ _ HXC.out
      have c6 := cell_of_row wC BX 6 _ _ _ HXC.out
      simp at c0 c1 c2 c3 c4 c5 c6
      obtain ⟨V, hV1, hV2⟩ := HJC.out.tell
      have hlx := leftG_x (T := T) HGS.out
      have HTL := Lib.hid (teller_any M (B + 1) B gs.length B (leftG gs T) V ⟨xk, xc, xs', xq, xv, xd, xx⟩ az cz wC (by rw [hlx]; exact HND.out.filter _) (by rw [hlx]; exact Nat.le_trans (bulk_sub _ _ (HND.out.filter _) fun y hy => (List.mem_filter.1 hy).1) HWG.out) hxl HDC.out HDX.out
        (fun y hy => wr_deps (HRR.out y (by rw [hlx] at hy; exact (List.mem_filter.1 hy).1))) (fun e he => ⟨HJC.out.deps e (List.mem_filter.1 he).1, fun hp => (HK.out.far e (List.mem_filter.1 he).1 hp).2⟩) (HK.out.pair.filter _) (by have := HJC.out.big; have := HK.out.hi; omega) HJC.out.pbox (by omega) hV1 hV2 HJC.out.big)
      unfold wrOf at HTL
      simp only at HTL
      clear hV1 hV2 hlx HDC HXC
      go_wp2_with fail
      refine HTL.out.mono ?_
      rintro e w5 ⟨v2, ts2, rfl, hc⟩
      have HTS : Hid (ts2.map (·.x) = (causesL all xx).filter (notIn T)) := by
        rw [hc.is, leftG_x HGS.out]
        exact causes_rest HND.out HTT.out.closed xx
      have HJ5 : Hid (GapJ w B M gs.length gs (0 + q) ff (.cells #[.int .i64 ys, .bool true, .int .i64 ym, .slice (some ⟨bz, oz, none⟩) q cp] 59 (0, 0)) w5 T2 (T.filter (gapP ym yw)) v ts) := by
        rw [HTN.out]
        exact GapJ.asked HK.out HJC.out hc (leftG_left (x := ⟨xk, xc, xs', xq, xv, xd, xx⟩) HTS.out)
      have HR2 : Hid (RowSh w5 B v2 ts2) := hc.row.own
      have HNE : Hid (∀ g, v.ownBlock = some g → v2.ownBlock ≠ some g) := fun g h1 h2 => by
        have h3 := hc.new g h2
        have h4 := (World.ownsRow.lt HJC.out.row.own g h1).2
        omega
      have HSB : Hid (∀ e ∈ ts2, e ∈ gs) := fun e he => (List.mem_filter.1 (hc.sub e he)).1
      have HU : Hid (T2 = T ++ ts2.map (·.x)) := by
        rw [HTN.out, HTS.out]
        exact Lib.hid rfl
      clear hc HTL HJC HTS c0 c1 c2 c3 c4 c5 c6
      obtain ⟨a2, cc, rfl⟩ := HR2.out.form
      have hc2 : ts2.length ≤ 1048576 := by
        have h1 := bulk_sub _ _ HTT2.out.once HTT2.out.sub
        have h2 := HWG.out
        have h3 := congrArg List.length HU.out
        rw [List.length_append, List.length_map] at h3
        unfold wgt at h1 h2
        omega
      obtain ⟨C, hC⟩ : ∃ C, ts2.length = C := ⟨_, rfl⟩
      have HCN := Lib.hid hC
      rw [hC] at HR2 hc2 HNE ⊢
      clear hC
      obtain ⟨tl, htl⟩ : ∃ tl, T.length = tl := ⟨_, rfl⟩
      have HTLN := Lib.hid htl
      clear htl
      have HG0 : Hid (GapJ w B M gs.length gs (0 + q) ff (.cells #[.int .i64 ys, .bool true, .int .i64 ym, .slice (some ⟨bz, oz, none⟩) q cp] 59 (0, 0)) w5 T2 ((T2.take (tl + 0)).filter (gapP ym yw)) v ts) := by
        rw [HU.out, Nat.add_zero, ← HTLN.out, List.take_left]
        rw [← HU.out]
        exact HJ5.out
      clear HJ5
      go_wp2
      go_loopw [8, 56] (fun t8 t56 wr => ∃ (j : Nat) (v : Value) (ts : List EnG), j ≤ C ∧ v = t8 ∧ t56 = .int .i64 j ∧ Hid (GapJ w B M gs.length gs (0 + q) ff (.cells #[.int .i64 ys, .bool true, .int .i64 ym, .slice (some ⟨bz, oz, none⟩) q cp] 59 (0, 0)) wr T2 ((T2.take (tl + j)).filter (gapP ym yw)) v ts) ∧ Hid (RowSh wr B (.slice a2 C cc) ts2) ∧ Hid (∀ g, v.ownBlock = some g → (Value.slice a2 C cc).ownBlock ≠ some g)) (fun _ i _ => C - (intOf i).toNat)
      case atStart => exact ⟨0, _, _, Nat.zero_le _, rfl, rfl, HG0, HR2, HNE⟩
      case round =>
        clear HG0 HR2 HNE
        obtain ⟨j, v, ts, hj, rfl, rfl, HJ, HR2, HNE⟩ := hrel
        by_cases hj' : j < C
        · have hjc : j < ts2.length := by rw [HCN.out]; exact hj'
          have i3 : (0 : Int) ≤ (j : Int) := by omega
          have i4 : (j : Int) < (C : Int) := by omega
          obtain ⟨g2, o2, cap2, hra, hz2, e0, e1, e2, e3, e4, e5, e6⟩ := rowSh_at HR2.out hjc
          injection hra with hra1 hra2 hra3
          subst hra1
          clear hra2 hra3
          have hmem : ts2.getD j ezG ∈ ts2 := by simp [List.getD, hjc]
          have HMEM := Lib.hid (HSB.out _ hmem)
          have HXA : Hid ((ts2.getD j ezG).x ∈ all) := by
            rw [← HGS.out]
            exact List.mem_map.2 ⟨_, HMEM.out, rfl⟩
          have hlt2 : tl + j < T2.length := by
            rw [HU.out, List.length_append, List.length_map, HTLN.out]
            omega
          have hgd : T2.getD (tl + j) wz = (ts2.getD j ezG).x := by
            rw [HU.out, ← HTLN.out]
            simp [List.getD, hjc]
          have HNI : Hid (T2.take (tl + (j + 1)) = T2.take (tl + j) ++ [(ts2.getD j ezG).x]) := by
            rw [← Nat.add_assoc, take_next T2 wz hlt2, hgd]
            exact Lib.hid rfl
          have HNN : Hid ((ts2.getD j ezG).x ∉ T2.take (tl + j)) := by
            have hnd := HTT2.out.once.sublist (List.take_sublist (tl + (j + 1)) T2)
            rw [HNI.out] at hnd
            exact fun hc => (List.nodup_append.1 hnd).2.2 _ hc _ (by simp) rfl
          have HDZ := Lib.hid (HJ.out.deps _ HMEM.out).isDeps
          have hzk := (HRR.out _ HXA.out).1
          clear hmem hgd hlt2 HXA hjc
          generalize ts2.getD j ezG = c at *
          obtain ⟨⟨zk, zc, zs, zq, zv, zd, zz⟩, za, zg, zp⟩ := c
          simp only at e0 e1 e2 e3 e4 e5 e6 HNI HNN HDZ hzk
          have hbD : Below wr.heap.size wr (wr.alloc (.cells #[.int .i64 zk, .int .i64 zc, .int .i64 zs, .int .i64 zq, .int .i64 zv, .bool zd, .slice za zz.length zp] 37)) := (Below.refl _ _).alloc (Nat.le_refl _) _
          have HJD := Lib.hid (HJ.out.more hbD)
          have HRD : Hid (RowSh (wr.alloc (.cells #[.int .i64 zk, .int .i64 zc, .int .i64 zs, .int .i64 zq, .int .i64 zv, .bool zd, .slice za zz.length zp] 37)) B (.slice (some ⟨g2, o2, none⟩) C cc) ts2) := HR2.out.keep fun g hg => hbD.block g (World.ownsRow.lt HR2.out g hg).2
          have HXD : Hid ((wr.alloc (.cells #[.int .i64 zk, .int .i64 zc, .int .i64 zs, .int .i64 zq, .int .i64 zv, .bool zd, .slice za zz.length zp] 37)).heap[wr.heap.size]? = some (.cells #[.int .i64 zk, .int .i64 zc, .int .i64 zs, .int .i64 zq, .int .i64 zv, .bool zd, .slice za zz.length zp] 37 (0, 0))) := heap_alloc_new wr _
          go_upto_region 14 with fail
          clear e0 e1 e2 e3 e4 e5 e6 hz2 hbD HJ HR2 HDZ
          obtain ⟨BZ, hBZ⟩ : ∃ BZ, wr.heap.size = BZ := ⟨_, rfl⟩
          rw [hBZ] at HXD
          try rw [hBZ]
          generalize wr.alloc (.cells #[.int .i64 zk, .int .i64 zc, .int .i64 zs, .int .i64 zq, .int .i64 zv, .bool zd, .slice za zz.length zp] 37) = wD at *
          clear hBZ
          have c0 := cell_of_row wD BZ 0 _ _ _ HXD.out
          have c1 := cell_of_row wD BZ 1 _ _ _ HXD.out
          have c2 := cell_of_row wD BZ 2 _ _ _ HXD.out
          have c3 := cell_of_row wD BZ 3 _ _ _ HXD.out
          have c4 := cell_of_row wD BZ 4 _ _ _ HXD.out
          have c5 := cell_of_row wD BZ 5 _ _ _ HXD.out
          have c6 := cell_of_row wD BZ 6 _ _ _ HXD.out
          have d2 := cell_of_row wD w.heap.size 2 _ _ _ HJD.out.ebox
          simp at c0 c1 c2 c3 c4 c5 c6 d2
          have HWN := Lib.hid (wants_gen ym ⟨zk, zc, zs, zq, zv, zd, zz⟩ za zp wD hmi)
          unfold wrOf at HWN
          simp only at HWN
          have HNO : Hid ((bitG ym zk && !lateB yw zk ⟨zc, zs, zq⟩) = false → (T2.take (tl + (j + 1))).filter (gapP ym yw) = (T2.take (tl + j)).filter (gapP ym yw)) := fun h => by
            rw [HNI.out, app_filter]
            have hp : gapP ym yw ⟨zk, zc, zs, zq, zv, zd, zz⟩ = false := h
            simp [List.filter, hp]
          have HYE : Hid ((bitG ym zk && !lateB yw zk ⟨zc, zs, zq⟩) = true → (T2.take (tl + (j + 1))).filter (gapP ym yw) = (T2.take (tl + j)).filter (gapP ym yw) ++ [⟨zk, zc, zs, zq, zv, zd, zz⟩]) := fun h => by
            rw [HNI.out, app_filter]
            have hp : gapP ym yw ⟨zk, zc, zs, zq, zv, zd, zz⟩ = true := h
            simp [List.filter, hp]
          have HLC : Hid (∀ W, LatIs W (w.heap.size + 1) (0 + q) ff → Calls Try.prog 40 #[.map (some (w.heap.size + 1)), .agg #[.int .i64 ys, .int .i64 zk], tagV zc zs zq] W fun e w' => e = .returned (.bool (!lateB yw zk ⟨zc, zs, zq⟩)) ∧ Below W.heap.size W w') := fun W hW => by
            rw [← HFF.out]
            exact lacks_any _ _ ff ys zk zc zs zq W HRS.out hzk hW
          clear hzk
          generalize bitG ym zk = ab at *
          generalize lateB yw zk ⟨zc, zs, zq⟩ = lb at *
          go_wp2_with fail
          refine HWN.out.mono ?_
          rintro e w6 ⟨rfl, hb⟩
          have HJ6 := Lib.hid (HJD.out.more hb)
          have HR6 : Hid (RowSh w6 B (.slice (some ⟨g2, o2, none⟩) C cc) ts2) := HRD.out.keep fun g hg => hb.block g (World.ownsRow.lt HRD.out g hg).2
          have HX6 : Hid (w6.heap[BZ]? = some (.cells #[.int .i64 zk, .int .i64 zc, .int .i64 zs, .int .i64 zq, .int .i64 zv, .bool zd, .slice za zz.length zp] 37 (0, 0))) := (hb.block BZ (Array.getElem?_eq_some_iff.1 HXD.out).1).trans HXD.out
          clear hb HWN HJD HRD HXD c0 c1 c2 c3 c4 c5 c6 d2
          cases ab
          · have HJ7 : Hid (GapJ w B M gs.length gs (0 + q) ff (.cells #[.int .i64 ys, .bool true, .int .i64 ym, .slice (some ⟨bz, oz, none⟩) q cp] 59 (0, 0)) w6 T2 ((T2.take (tl + (j + 1))).filter (gapP ym yw)) v ts) := by
              rw [HNO.out rfl]
              exact HJ6.out
            clear HLC HNO HYE HJ6 HX6
            go_wp2
            exact ⟨⟨j + 1, v, ts, by omega, rfl, by go_num, HJ7, HR6, HNE⟩, by simp [intOf]; omega⟩
          have c0 := cell_of_row w6 BZ 0 _ _ _ HX6.out
          have c1 := cell_of_row w6 BZ 1 _ _ _ HX6.out
          have c2 := cell_of_row w6 BZ 2 _ _ _ HX6.out
          have c3 := cell_of_row w6 BZ 3 _ _ _ HX6.out
          have d0 := cell_of_row w6 w.heap.size 0 _ _ _ HJ6.out.ebox
          simp at c0 c1 c2 c3 d0
          go_wp2_with fail
          refine (HLC.out w6 HJ6.out.lat).mono ?_
          rintro e w7 ⟨rfl, hb⟩
          have HJ7 := Lib.hid (HJ6.out.more hb)
          have HR7 : Hid (RowSh w7 B (.slice (some ⟨g2, o2, none⟩) C cc) ts2) := HR6.out.keep fun g hg => hb.block g (World.ownsRow.lt HR6.out g hg).2
          have HX7 : Hid (w7.heap[BZ]? = some (.cells #[.int .i64 zk, .int .i64 zc, .int .i64 zs, .int .i64 zq, .int .i64 zv, .bool zd, .slice za zz.length zp] 37 (0, 0))) := (hb.block BZ (Array.getElem?_eq_some_iff.1 HX6.out).1).trans HX6.out
          clear hb HLC HJ6 HR6 HX6 c0 c1 c2 c3 d0
          cases lb
          rotate_left
          · have HJ8 : Hid (GapJ w B M gs.length gs (0 + q) ff (.cells #[.int .i64 ys, .bool true, .int .i64 ym, .slice (some ⟨bz, oz, none⟩) q cp] 59 (0, 0)) w7 T2 ((T2.take (tl + (j + 1))).filter (gapP ym yw)) v ts) := by
              rw [HNO.out rfl]
              exact HJ7.out
            clear HNO HYE HJ7 HX7
            go_wp2
            exact ⟨⟨j + 1, v, ts, by omega, rfl, by go_num, HJ8, HR7, HNE⟩, by simp [intOf]; omega⟩
          have c0 := cell_of_row w7 BZ 0 _ _ _ HX7.out
          have c1 := cell_of_row w7 BZ 1 _ _ _ HX7.out
          have c2 := cell_of_row w7 BZ 2 _ _ _ HX7.out
          have c3 := cell_of_row w7 BZ 3 _ _ _ HX7.out
          have c4 := cell_of_row w7 BZ 4 _ _ _ HX7.out
          have c5 := cell_of_row w7 BZ 5 _ _ _ HX7.out
          have c6 := cell_of_row w7 BZ 6 _ _ _ HX7.out
          simp at c0 c1 c2 c3 c4 c5 c6
          have hbE : Below w7.heap.size w7 (w7.alloc (.cells #[.int .i64 zk, .int .i64 zc, .int .i64 zs, .int .i64 zq, .int .i64 zv, .bool zd, .slice za zz.length zp] 37)) := (Below.refl _ _).alloc (Nat.le_refl _) _
          have HJE := Lib.hid (HJ7.out.more hbE)
          have HRE : Hid (RowSh (w7.alloc (.cells #[.int .i64 zk, .int .i64 zc, .int .i64 zs, .int .i64 zq, .int .i64 zv, .bool zd, .slice za zz.length zp] 37)) B (.slice (some ⟨g2, o2, none⟩) C cc) ts2) := HR7.out.keep fun g hg => hbE.block g (World.ownsRow.lt HR7.out g hg).2
          have HXE : Hid ((w7.alloc (.cells #[.int .i64 zk, .int .i64 zc, .int .i64 zs, .int .i64 zq, .int .i64 zv, .bool zd, .slice za zz.length zp] 37)).heap[w7.heap.size]? = some (.cells #[.int .i64 zk, .int .i64 zc, .int .i64 zs, .int .i64 zq, .int .i64 zv, .bool zd, .slice za zz.length zp] 37 (0, 0))) := heap_alloc_new w7 _
          have hwr : w.heap.size ≤ w7.heap.size := HJ7.out.below.size
          have htl : ts.length ≤ 1048576 := by
            have h1 := congrArg List.length HJ7.out.xs
            rw [List.length_map] at h1
            have h2 := List.length_filter_le (gapP ym yw) (T2.take (tl + j))
            have h3 := List.length_take_le (tl + j) T2
            have h4 := bulk_sub _ _ HTT2.out.once HTT2.out.sub
            have h5 := HWG.out
            unfold wgt at h4 h5
            have h6 : (T2.take (tl + j)).length ≤ T2.length := by rw [List.length_take]; omega
            omega
          clear hbE HJ7 HR7 HX7
          go_wp2_with (at_builtin; refine wpList_append_lies _ (by rfl) _ _ _ (by rfl) w.heap.size 37 i0 (wrV 0 0 0 0 0 false none 0 0) 7 72 Try.underlying30 HI0.out HX0.out.1 HX0.out.2.1 HX0.out.2.2 (by rfl) (by omega) v ts.length (ts.flatMap wrValsG) (by rfl) HJE.out.row.own ⟨w7.heap.size, 0, none⟩ 1 1 (wrValsG ⟨⟨zk, zc, zs, zq, zv, zd, zz⟩, za, zg, zp⟩) (by rfl) (by rfl) (news_cells (e := ⟨⟨zk, zc, zs, zq, zv, zd, zz⟩, za, zg, zp⟩) HXE.out) (by simpa using valsG_one [⟨⟨zk, zc, zs, zq, zv, zd, zz⟩, za, zg, zp⟩]) (by omega) (by unfold maxLen; omega) (by omega) (by simp; omega) _ rfl ?_; intro g3 cp3 w9 hown hgrow hg3 _; refine Hid.out ?_)
          refine Lib.hid ?_
          have HJ9 : Hid (GapJ w B M gs.length gs (0 + q) ff (.cells #[.int .i64 ys, .bool true, .int .i64 ym, .slice (some ⟨bz, oz, none⟩) q cp] 59 (0, 0)) w9 T2 ((T2.take (tl + (j + 1))).filter (gapP ym yw)) (.slice (some ⟨g3, 0, none⟩) (ts.length + 1) cp3) (ts ++ [⟨⟨zk, zc, zs, zq, zv, zd, zz⟩, za, zg, zp⟩])) := by
            rw [HYE.out rfl]
            exact GapJ.told (e := ⟨⟨zk, zc, zs, zq, zv, zd, zz⟩, za, zg, zp⟩) HK.out HJE.out HMEM.out (fun hc => HNN.out (List.mem_filter.1 hc).1) hown hgrow hg3
          have HR9 : Hid (RowSh w9 B (.slice (some ⟨g2, o2, none⟩) C cc) ts2) := HRE.out.keep fun g hg => hgrow.block g (World.ownsRow.lt HRE.out g hg).2 fun e => HNE.out g e.symm hg
          have HNE9 : Hid (∀ g, (Value.slice (some ⟨g3, 0, none⟩) (ts.length + 1) cp3).ownBlock = some g → (Value.slice (some ⟨g2, o2, none⟩) C cc).ownBlock ≠ some g) := fun g h1 h2 => by
            have e3 : g3 = g := by
              simp only [Value.ownBlock, Option.some.injEq] at h1
              exact h1
            rcases hg3 with h | h
            · exact HNE.out g (by rw [h, e3]) h2
            · have := (World.ownsRow.lt HRE.out g h2).2
              omega
          clear hown hgrow hg3 HJE HRE HXE HNE HNO HYE c0 c1 c2 c3 c4 c5 c6
          go_wp2
          exact ⟨⟨j + 1, _, _, by omega, rfl, by go_num, HJ9, HR9, HNE9⟩, by simp [intOf]; omega⟩
        · have hjj : j = C := by omega
          subst hjj
          have HJ2 : Hid (GapJ w B M gs.length gs (0 + q) ff (.cells #[.int .i64 ys, .bool true, .int .i64 ym, .slice (some ⟨bz, oz, none⟩) q cp] 59 (0, 0)) wr T2 (T2.filter (gapP ym yw)) v ts) := by
            have h := HJ.out
            rw [List.take_of_length_le (by rw [HU.out, List.length_append, List.length_map, HTLN.out, HCN.out]; exact Nat.le_refl _)] at h
            exact h
          rw [← HT2E.out] at HJ2
          go_wp2
          exact ⟨⟨k + 1, v, ts, by omega, rfl, by go_num, HJ2⟩, by simp [intOf]; omega⟩
    · have hkk : k = q := by omega
      subst hkk
      have HE : Hid (gapsL es (i : Int) = (toldT all (yw.take k)).filter (gapP ym yw)) := by
        rw [HGE.out, List.take_of_length_le (by rw [HQ.out]; exact Nat.le_refl _)]
        exact Lib.hid rfl
      go_wp2
      go_ret
      exact ⟨_, ts, rfl, by rw [HE.out]; exact HJ.out.xs, HJ.out.row, HJ.out.below⟩

theorem gaps_wgt (es : List Ev) (z : Int) : wgt (gapsL es z) ≤ wgt (writtenL es) := by
  unfold gapsL
  split
  · have hT := toldT_is (written_nodup es) (es.getD z.toNat evz).ws
    exact bulk_sub _ _ (hT.once.filter _) fun y hy => hT.sub y (List.mem_filter.1 hy).1
  · simp [wgt, bulk]

end Go.Proofs.Ytomndnopbpbblaa

/- The laws' copies of batches: the contracts of toBatch and toBatchS. -/
namespace Go.Proofs.Ytomndnopbpbblaa
open Go.ChangeShapes Go.WideShapes Go.ChangeAt Go.RowKit Go.Joins
attribute [local go_sem ↓] Go.wp_at_zero Go.wp_at_succ

set_option maxRecDepth 100000 in
theorem OwnG.lower {w : World} {base base' b : Nat} {ws : List Wr} {γ : Nat → Nat} (h : OwnG w base b ws γ) (hb : base' ≤ base) : OwnG w base' b ws γ where
  lt := h.lt
  le := Nat.le_trans hb h.le
  open_ := h.open_
  at_ := h.at_
  deps := fun i hi hp => ⟨Nat.le_trans hb (h.deps i hi hp).1, (h.deps i hi hp).2⟩
  inj := h.inj

set_option maxRecDepth 100000 in
theorem OwnA.wider {w : World} {lo lo' hi hi' : Nat} {a : Option Addr} {ws : List Wr} {γ : Nat → Nat} (h : OwnA w lo hi a ws γ) (h1 : lo' ≤ lo) (h2 : hi ≤ hi') : OwnA w lo' hi' a ws γ := by
  rcases h with h | ⟨b, q1, q2, q3, q4⟩
  · exact .inl h
  · exact .inr ⟨b, q1, q2.lower h1, Nat.lt_of_lt_of_le q3 h2, fun i hi hp => Nat.lt_of_lt_of_le (q4 i hi hp) h2⟩

set_option maxRecDepth 100000 in
theorem OwnA.setLow {w : World} {lo hi : Nat} {a : Option Addr} {ws : List Wr} {γ : Nat → Nat} (h : OwnA w lo hi a ws γ) {b : Nat} (hb : b < lo) (o : Nat) (v : Value) : OwnA (w.setCell ⟨b, o, none⟩ v) lo hi a ws γ :=
  h.only (S := fun x => x = b) (Only.set (S := fun x => x = b) (Only.refl _ w) rfl o v) fun x hx => by rw [hx]; exact hb

/-- The row while it is filled in. -/
def fillBat (es : List Bat) (j : Nat) : Value := if j < es.length then batV (es.getD j btz) else .slice none 0 0

set_option maxRecDepth 100000 in
theorem get_old (es : List Bat) (x : Bat) {i : Nat} (h : i < es.length) : (es ++ [x]).getD i btz = es.getD i btz := by
  rw [List.getD_eq_getElem?_getD, List.getD_eq_getElem?_getD, List.getElem?_append_left h]

set_option maxRecDepth 100000 in
theorem fillBat_step (es : List Bat) (x : Bat) (j : Nat) : (if j = es.length then batV x else fillBat es j) = fillBat (es ++ [x]) j := by
  unfold fillBat
  by_cases h : j = es.length
  · rw [if_pos h, if_pos (by simp; omega), h]
    simp [List.getD]
  · rw [if_neg h]
    by_cases hl : j < es.length
    · rw [if_pos hl, if_pos (by simp; omega), get_old es x hl]
    · rw [if_neg hl, if_neg (by simp; omega)]

set_option maxRecDepth 100000 in
theorem rowBat_start (w : World) (t n : Nat) : (w.alloc (.cells (madeCells #[.slice none 0 0] n) t)).rowIs w.heap.size t n (fillBat []) := by
  refine ⟨_, Go.Deep.blk_alloc_new _ _, size_madeCells _ _, fun i hi => ?_⟩
  have e : fillBat [] i = .slice none 0 0 := by unfold fillBat; rw [if_neg (by simp)]
  rw [e]
  have h1 : i % 1 = 0 := by omega
  simp [madeCells, hi, h1]

/-- The batches that are laid so far. -/
def LaidB (w : World) (B : Nat) (es : List Bat) : Prop := (∀ i, i < es.length → B < (es.getD i btz).lo ∧ (es.getD i btz).hi ≤ w.heap.size ∧ OwnA w (es.getD i btz).lo (es.getD i btz).hi (es.getD i btz).a (es.getD i btz).ws (es.getD i btz).γ) ∧ ∀ i j, i < j → j < es.length → (es.getD i btz).hi ≤ (es.getD j btz).lo

set_option maxRecDepth 100000 in
theorem get_new (es : List Bat) (x : Bat) : (es ++ [x]).getD es.length btz = x := by simp [List.getD]

set_option maxRecDepth 100000 in
theorem LaidB.more {w w' : World} {B : Nat} {es : List Bat} (h : LaidB w B es) (hb : Below w.heap.size w w') {x : Bat} (h1 : B < x.lo) (h2 : w.heap.size ≤ x.lo) (h3 : x.hi ≤ w'.heap.size) (h4 : OwnA w' x.lo x.hi x.a x.ws x.γ) : LaidB w' B (es ++ [x]) := by
  constructor
  · intro i hi
    by_cases hl : i < es.length
    · rw [get_old es x hl]
      obtain ⟨q1, q2, q3⟩ := h.1 i hl
      exact ⟨q1, Nat.le_trans q2 hb.size, q3.below hb⟩
    · have hi' : i = es.length := by simp at hi; omega
      rw [hi', get_new]
      exact ⟨h1, h3, h4⟩
  · intro i j hij hj
    by_cases hl : j < es.length
    · rw [get_old es x hl, get_old es x (by omega)]
      exact h.2 i j hij hl
    · have hj' : j = es.length := by simp at hj; omega
      rw [hj', get_new, get_old es x (by omega)]
      exact Nat.le_trans (h.1 i (by omega)).2.1 h2

set_option maxRecDepth 100000 in
theorem LaidB.setRow {w : World} {B : Nat} {es : List Bat} (h : LaidB w B es) (o : Nat) (v : Value) : LaidB (w.setCell ⟨B, o, none⟩ v) B es :=
  ⟨fun i hi => ⟨(h.1 i hi).1, by simpa using (h.1 i hi).2.1, (h.1 i hi).2.2.setLow (h.1 i hi).1 o v⟩, h.2⟩

end Go.Proofs.Ytomndnopbpbblaa

/- Events of one's own: the contracts of toEvent and toEventS. -/
namespace Go.Proofs.Ytomndnopbpbblaa
open Go.ChangeShapes Go.WideShapes Go.ChangeAt Go.RowKit Go.Joins
attribute [local go_sem ↓] Go.wp_at_zero Go.wp_at_succ

theorem toWriteS_ownA (a : Option Addr) (n cap : Nat) (ws : List Wr) (w : World) (hn : ws.length = n) (hm : n ≤ 1048576) (hx : Few ws) (h : IsWs w a ws) :
    Calls Try.prog 43 #[.slice a n cap] w fun e w' => ∃ γ, e = .returned (.slice (some ⟨w.heap.size, 0, none⟩) n n) ∧ OwnA w' w.heap.size w'.heap.size (some ⟨w.heap.size, 0, none⟩) ws γ ∧ Below w.heap.size w w' :=
  (toWriteS_any a n cap ws w hm hn (fun i hi => hx i (by rw [hn]; exact hi)) h).mono fun _ _ ⟨γ, he, ho, hb⟩ => ⟨γ, he, ho.gen.ownA, hb⟩

def put4 (w : World) (b o : Nat) (s : Int) (sh : Bool) (m : Int) (v : Value) : World :=
  (((w.setCell ⟨b, o, none⟩ (.int .i64 s)).setCell ⟨b, o + 1, none⟩ (.bool sh)).setCell ⟨b, o + 2, none⟩ (.int .i64 m)).setCell ⟨b, o + 3, none⟩ v

theorem OwnA.put4 {w : World} {lo hi : Nat} {a : Option Addr} {ws : List Wr} {γ : Nat → Nat} (h : OwnA w lo hi a ws γ) {b : Nat} (hb : b < lo) (o : Nat) (s : Int) (sh : Bool) (m : Int) (v : Value) : OwnA (Proofs.Ytomndnopbpbblaa.put4 w b o s sh m v) lo hi a ws γ :=
  (((h.setLow hb _ _).setLow hb _ _).setLow hb _ _).setLow hb _ _

theorem Below.put4' {B : Nat} {w w' : World} (h : Below B w w') {b : Nat} (hb : B ≤ b) (o : Nat) (s : Int) (sh : Bool) (m : Int) (v : Value) : Below B w (put4 w' b o s sh m v) :=
  (((h.setCell (p := ⟨b, o, none⟩) hb _).setCell (p := ⟨b, o + 1, none⟩) hb _).setCell (p := ⟨b, o + 2, none⟩) hb _).setCell (p := ⟨b, o + 3, none⟩) hb _

theorem put4_size (w : World) (b o : Nat) (s : Int) (sh : Bool) (m : Int) (v : Value) : (put4 w b o s sh m v).heap.size = w.heap.size := by simp [put4]

set_option maxRecDepth 100000 in
set_option maxHeartbeats 4000000 in
theorem toEvent_any (s : Int) (sh : Bool) (m : Int) (a : Option Addr) (n cap : Nat) (ws : List Wr) (w : World) (hn : ws.length = n) (hm : n ≤ 1048576) (hx : Few ws) (h : IsWs w a ws) :
    Calls Try.prog 25 #[evV s sh m a n cap] w fun e w' => ∃ b γ, e = .returned (evV s sh m (some ⟨b, 0, none⟩) n n) ∧ OwnA w' w.heap.size w'.heap.size (some ⟨b, 0, none⟩) ws γ ∧ Below w.heap.size w w' := by
  have H := Lib.hid h
  have HN := Lib.hid hn
  have HX := Lib.hid hx
  clear h hn hx
  obtain ⟨O1, hO1⟩ : ∃ O, O = Obj.cells #[.int .i64 s, .bool sh, .int .i64 m, .slice a n cap] 51 := ⟨_, rfl⟩
  obtain ⟨O2, hO2⟩ : ∃ O, O = Obj.cells #[.int .i64 0, .bool false, .int .i64 0, .slice none 0 0] 59 := ⟨_, rfl⟩
  obtain ⟨O3, hO3⟩ : ∃ O, O = Obj.cells #[.int .i64 s, .bool sh, .int .i64 m, .slice none 0 0] 59 := ⟨_, rfl⟩
  have HB : Hid (Below w.heap.size w (((w.alloc O1).alloc O2).alloc O3)) := (((Below.refl _ _).alloc (Nat.le_refl _) _).alloc (by simp) _).alloc (by simp; omega) _
  have hsz : (((w.alloc O1).alloc O2).alloc O3).heap.size = w.heap.size + 3 := by simp
  have e : (w.alloc O1).heap.size = w.heap.size + 1 := by simp
  have HZ2 : Hid ((((w.alloc O1).alloc O2).alloc O3).heap[w.heap.size + 1]? = some O2) := by
    have := heap_alloc2_old (w.alloc O1) O2 O3
    rwa [e] at this
  have HZ3 : Hid ((((w.alloc O1).alloc O2).alloc O3).heap[w.heap.size + 2]? = some O3) := by
    have := heap_alloc2_new (w.alloc O1) O2 O3
    rwa [e] at this
  clear e
  subst hO1 hO2 hO3
  go_enter Try.func25, Try.ntmps25
  go_wp2_with fail
  generalize ((w.alloc (.cells #[.int .i64 s, .bool sh, .int .i64 m, .slice a n cap] 51)).alloc (.cells #[.int .i64 0, .bool false, .int .i64 0, .slice none 0 0] 59)).alloc (.cells #[.int .i64 s, .bool sh, .int .i64 m, .slice none 0 0] 59) = W3 at *
  refine (toWriteS_ownA a n cap ws _ HN.out hm HX.out (H.out.below HB.out)).mono ?_
  rintro e w4 ⟨γ, rfl, hO, hb⟩
  have HO := Lib.hid hO
  have HB4 : Hid (Below w.heap.size w w4) := below_step HB.out HB.out.size hb
  have q2 := (hb.block (w.heap.size + 1) (by omega)).trans HZ2.out
  have q3 := (hb.block (w.heap.size + 2) (by omega)).trans HZ3.out
  have hs4 : W3.heap.size ≤ w4.heap.size := hb.size
  have d0 := cell_of_row w4 (w.heap.size + 1) 0 _ _ _ q2
  have d1 := cell_of_row w4 (w.heap.size + 1) 1 _ _ _ q2
  have d2 := cell_of_row w4 (w.heap.size + 1) 2 _ _ _ q2
  have d3 := cell_of_row w4 (w.heap.size + 1) 3 _ _ _ q2
  have c0 := cell_of_row w4 (w.heap.size + 2) 0 _ _ _ q3
  have c1 := cell_of_row w4 (w.heap.size + 2) 1 _ _ _ q3
  have c2 := cell_of_row w4 (w.heap.size + 2) 2 _ _ _ q3
  have c3 := cell_of_row w4 (w.heap.size + 2) 3 _ _ _ q3
  have f2 : ∀ o, w4.frozen? ⟨w.heap.size + 1, o, none⟩ = false := fun o => frozen_of_row w4 (w.heap.size + 1) o _ _ q2
  have f3 : ∀ o, w4.frozen? ⟨w.heap.size + 2, o, none⟩ = false := fun o => frozen_of_row w4 (w.heap.size + 2) o _ _ q3
  simp at d0 d1 d2 d3 c0 c1 c2 c3
  clear hb hO HB HZ2 HZ3 q2 q3
  go_wp2
  have hw3 : W3.heap.size = w.heap.size + 3 := hsz
  refine bodyPost_ret (v := evV s sh m (some ⟨w.heap.size + 3, 0, none⟩) n n) (by simp [results, Try.results25, go_sem, d0, d1, d2, d3]) rfl ⟨w.heap.size + 3, γ, rfl, ?_, ?_⟩
  · have h1 := HO.out
    rw [hw3] at h1
    exact ((h1.setLow (b := w.heap.size + 1 + 1) (by omega) 3 _).put4 (b := w.heap.size + 1) (by omega) 0 s sh m _).wider (by omega) (by simp)
  · exact Below.put4' (HB4.out.setCell (p := ⟨w.heap.size + 1 + 1, 3, none⟩) (by simp; omega) _) (b := w.heap.size + 1) (by omega) 0 s sh m _

/-- An event of one's own: its site, whether it was shown, its mask, its writes as a batch. -/
structure EvB where
  s : Int
  sh : Bool
  m : Int
  b : Bat

def ebz : EvB := ⟨0, false, 0, btz⟩

def evOf (e : EvB) : Ev := ⟨e.s, e.sh, e.m, e.b.ws⟩

def evsOf (es : List EvB) : List Ev := es.map evOf

theorem evsOf_len (es : List EvB) : (evsOf es).length = es.length := by simp [evsOf]

theorem evsOf_get (es : List EvB) {i : Nat} (h : i < es.length) : (evsOf es).getD i evz = evOf (es.getD i ebz) := by simp [evsOf, List.getD, h]

/-- Field c of an event. -/
def fieldE (e : EvB) (c : Nat) : Value := if c = 0 then .int .i64 e.s else if c = 1 then .bool e.sh else if c = 2 then .int .i64 e.m else batV e.b

/-- f has these events, four cells each. -/
def EvsIn (f : Nat → Value) (es : List EvB) : Prop := ∀ i, i < es.length → ∀ c, c < 4 → f (i * 4 + c) = fieldE (es.getD i ebz) c

/-- The memory of the writes of events, below none of them the row's. -/
def LaidE (w : World) (lo hi b : Nat) (es : List EvB) : Prop := (∀ i, i < es.length → lo ≤ (es.getD i ebz).b.lo ∧ (es.getD i ebz).b.hi ≤ hi ∧ (b < (es.getD i ebz).b.lo ∨ (es.getD i ebz).b.hi ≤ b) ∧ OwnA w (es.getD i ebz).b.lo (es.getD i ebz).b.hi (es.getD i ebz).b.a (es.getD i ebz).b.ws (es.getD i ebz).b.γ) ∧ ∀ i j, i < j → j < es.length → (es.getD i ebz).b.hi ≤ (es.getD j ebz).b.lo

/-- Events of one's own: a row, and each event's writes apart from the row and from the others'. -/
def OwnE (w : World) (lo hi : Nat) (a : Option Addr) (es : List EvB) : Prop :=
  es = [] ∨ ∃ b N f, a = some ⟨b, 0, none⟩ ∧ lo ≤ b ∧ b < hi ∧ w.rowIs b 59 N f ∧ es.length * 4 ≤ N ∧ EvsIn f es ∧ LaidE w lo hi b es

theorem LaidE.below {w w' : World} {lo hi b : Nat} {es : List EvB} (h : LaidE w lo hi b es) (hb : Below w.heap.size w w') : LaidE w' lo hi b es :=
  ⟨fun i hi => ⟨(h.1 i hi).1, (h.1 i hi).2.1, (h.1 i hi).2.2.1, (h.1 i hi).2.2.2.below hb⟩, h.2⟩

theorem OwnE.below {w w' : World} {lo hi : Nat} {a : Option Addr} {es : List EvB} (h : OwnE w lo hi a es) (hb : Below w.heap.size w w') : OwnE w' lo hi a es := by
  rcases h with h | ⟨b, N, f, h1, h2, h3, h4, h5, h6, h7⟩
  · exact .inl h
  · exact .inr ⟨b, N, f, h1, h2, h3, h4.of_block (hb.block b h4.lt), h5, h6, h7.below hb⟩

theorem OwnE.only {w w' : World} {S : Nat → Prop} {lo hi : Nat} {a : Option Addr} {es : List EvB} (h : OwnE w lo hi a es) (ho : Only S w w') (hS : ∀ x, S x → x < lo) : OwnE w' lo hi a es := by
  rcases h with h | ⟨b, N, f, h1, h2, h3, h4, h5, h6, h7⟩
  · exact .inl h
  · exact .inr ⟨b, N, f, h1, h2, h3, h4.of_block (ho.block b fun e => by have := hS b e; omega), h5, h6, fun i hi => ⟨(h7.1 i hi).1, (h7.1 i hi).2.1, (h7.1 i hi).2.2.1, (h7.1 i hi).2.2.2.only ho fun x hx => by have := hS x hx; have := (h7.1 i hi).1; omega⟩, h7.2⟩

theorem EvsIn.at_ {f : Nat → Value} {es : List EvB} (h : EvsIn f es) {w : World} {b t N : Nat} (hr : w.rowIs b t N f) (hN : es.length * 4 ≤ N) {i : Nat} (hi : i < es.length) : EvAt w b (i * 4) (evOf (es.getD i ebz)) (es.getD i ebz).b.a (es.getD i ebz).b.cap := by
  have c : ∀ c, c < 4 → w.cell? ⟨b, i * 4 + c, none⟩ = some (fieldE (es.getD i ebz) c) := fun c hc => by rw [hr.cell (i := i * 4 + c) (by omega), h i hi c hc]
  exact ⟨c 0 (by omega), c 1 (by omega), c 2 (by omega), c 3 (by omega)⟩

theorem OwnE.isEs {w : World} {lo hi : Nat} {a : Option Addr} {es : List EvB} (h : OwnE w lo hi a es) (hx : FewE (evsOf es)) : IsEs w a (evsOf es) := by
  rcases h with h | ⟨b, N, f, h1, h2, h3, h4, h5, h6, h7⟩
  · exact .inl (by rw [h]; rfl)
  · refine .inr ⟨b, 0, h1, h4.lt, fun i hi => ?_⟩
    have hi' : i < es.length := by rwa [evsOf_len] at hi
    have hf := (hx i hi).2
    rw [evsOf_get es hi'] at hf ⊢
    exact ⟨_, _, by rw [Nat.zero_add]; exact h6.at_ h4 h5 hi', (h7.1 i hi').2.2.2.isWs hf⟩

/-- The row while it is filled in. -/
def fillE (es : List EvB) (j : Nat) : Value := fieldE (es.getD (j / 4) ebz) (j % 4)

theorem fillE_in (es : List EvB) : EvsIn (fillE es) es := fun i _ c hc => by
  unfold fillE
  rw [show (i * 4 + c) / 4 = i by omega, show (i * 4 + c) % 4 = c by omega]

theorem eb_old (es : List EvB) (x : EvB) {i : Nat} (h : i ≠ es.length) : (es ++ [x]).getD i ebz = es.getD i ebz := by
  rw [List.getD_eq_getElem?_getD, List.getD_eq_getElem?_getD]
  by_cases hl : i < es.length
  · rw [List.getElem?_append_left hl]
  · rw [List.getElem?_eq_none (by simp; omega), List.getElem?_eq_none (by omega)]

theorem eb_new (es : List EvB) (x : EvB) : (es ++ [x]).getD es.length ebz = x := by simp [List.getD]

theorem fillE_step (es : List EvB) (x : EvB) (j : Nat) : (if j = es.length * 4 + 3 then batV x.b else if j = es.length * 4 + 2 then .int .i64 x.m else if j = es.length * 4 + 1 then .bool x.sh else if j = es.length * 4 then .int .i64 x.s else fillE es j) = fillE (es ++ [x]) j := by
  unfold fillE
  by_cases h3 : j = es.length * 4 + 3
  · rw [if_pos h3, show j / 4 = es.length by omega, show j % 4 = 3 by omega, eb_new]
    rfl
  rw [if_neg h3]
  by_cases h2 : j = es.length * 4 + 2
  · rw [if_pos h2, show j / 4 = es.length by omega, show j % 4 = 2 by omega, eb_new]
    rfl
  rw [if_neg h2]
  by_cases h1 : j = es.length * 4 + 1
  · rw [if_pos h1, show j / 4 = es.length by omega, show j % 4 = 1 by omega, eb_new]
    rfl
  rw [if_neg h1]
  by_cases h0 : j = es.length * 4
  · rw [if_pos h0, show j / 4 = es.length by omega, show j % 4 = 0 by omega, eb_new]
    rfl
  rw [if_neg h0, eb_old es x (by omega)]

set_option maxRecDepth 100000 in
theorem infoEvent : (Try.prog.info? 59).map (fun i => (i.zero, i.size, i.bytes)) = some (some (.agg #[.int .i64 0, .bool false, .int .i64 0, .slice none 0 0]), 4, 48) := by kernel_rfl

set_option maxRecDepth 100000 in
theorem run_make_evs (n : Nat) (hn : n ≤ 1048576) (w : World) :
    (Instr.makeSlice 32 (.int .i64 (n : Int)) (.int .i64 (n : Int))).run Try.prog w = .ok (.slice (some ⟨w.heap.size, 0, none⟩) n n) (w.alloc (.cells (madeCells #[.int .i64 0, .bool false, .int .i64 0, .slice none 0 0] (n * 4)) 59)) := by
  obtain ⟨i, hi, hzz⟩ := Option.map_eq_some_iff.1 infoEvent
  simp only [Prod.mk.injEq] at hzz
  obtain ⟨hz, hs, hb⟩ := hzz
  have hr := run_make (P := Try.prog) w 32 59 i _ Try.underlying32 hi hz .i64 .i64 n n (by omega) (Int.le_refl _) (by rw [hb]; omega) (by omega)
  simp only [Int.toNat_natCast, hs] at hr
  exact hr

theorem rowEv_start (w : World) (t n : Nat) : (w.alloc (.cells (madeCells #[.int .i64 0, .bool false, .int .i64 0, .slice none 0 0] (n * 4)) t)).rowIs w.heap.size t (n * 4) (fillE []) := by
  refine ⟨_, Go.Deep.blk_alloc_new _ _, size_madeCells _ _, fun i hi => ?_⟩
  have e : ([] : List EvB).getD (i / 4) ebz = ebz := rfl
  unfold fillE
  rw [e]
  have h4 : i % 4 = 0 ∨ i % 4 = 1 ∨ i % 4 = 2 ∨ i % 4 = 3 := by omega
  rcases h4 with h4 | h4 | h4 | h4 <;> simp [madeCells, hi, h4, fieldE, ebz, btz, batV]

theorem LaidE.more {w w' : World} {B : Nat} {es : List EvB} (h : LaidE w B w.heap.size B es) (hB : B < w.heap.size) (hb : Below w.heap.size w w') {x : EvB} (h2 : w.heap.size ≤ x.b.lo) (h3 : x.b.hi ≤ w'.heap.size) (h4 : OwnA w' x.b.lo x.b.hi x.b.a x.b.ws x.b.γ) : LaidE w' B w'.heap.size B (es ++ [x]) := by
  constructor
  · intro i hi
    by_cases hl : i < es.length
    · rw [eb_old es x (by omega)]
      obtain ⟨q1, q2, q3, q4⟩ := h.1 i hl
      exact ⟨q1, Nat.le_trans q2 hb.size, q3, q4.below hb⟩
    · have hi' : i = es.length := by simp at hi; omega
      rw [hi', eb_new]
      exact ⟨by omega, h3, .inl (by omega), h4⟩
  · intro i j hij hj
    by_cases hl : j < es.length
    · rw [eb_old es x (by omega), eb_old es x (by omega)]
      exact h.2 i j hij hl
    · have hj' : j = es.length := by simp at hj; omega
      rw [hj', eb_new, eb_old es x (by omega)]
      exact Nat.le_trans (h.1 i (by omega)).2.1 h2

theorem LaidE.setRow {w : World} {B : Nat} {es : List EvB} (h : LaidE w B w.heap.size B es) (hs : ∀ i, i < es.length → B < (es.getD i ebz).b.lo) (o : Nat) (s : Int) (sh : Bool) (m : Int) (v : Value) : LaidE (put4 w B o s sh m v) B (put4 w B o s sh m v).heap.size B es :=
  ⟨fun i hi => ⟨(h.1 i hi).1, by rw [put4_size]; exact (h.1 i hi).2.1, (h.1 i hi).2.2.1, (h.1 i hi).2.2.2.put4 (hs i hi) o s sh m v⟩, h.2⟩

set_option maxRecDepth 100000 in
set_option maxHeartbeats 4000000 in
theorem toEventS_any (a : Option Addr) (n cap : Nat) (xs : List Ev) (w : World) (hn : xs.length = n) (hm : n ≤ 1048576) (hx : FewE xs) (h : IsEs w a xs) :
    Calls Try.prog 8 #[.slice a n cap] w fun e w' => ∃ es, e = .returned (.slice (some ⟨w.heap.size, 0, none⟩) n n) ∧ evsOf es = xs ∧ OwnE w' w.heap.size w'.heap.size (some ⟨w.heap.size, 0, none⟩) es ∧ Below w.heap.size w w' := by
  have H := Lib.hid h
  have HN := Lib.hid hn
  have HX := Lib.hid hx
  clear h hn hx
  have hmk := run_make_evs n hm
  go_enter Try.func8, Try.ntmps8
  go_wp2
  clear hmk
  go_loopw [4] (fun i wr => ∃ (k : Nat) (es : List EvB), k ≤ n ∧ i = .int .i64 k ∧ es.length = k ∧ Hid (evsOf es = xs.take k) ∧ Hid (wr.rowIs w.heap.size 59 (n * 4) (fillE es)) ∧ Hid (LaidE wr w.heap.size wr.heap.size w.heap.size es) ∧ Hid (∀ i, i < es.length → w.heap.size < (es.getD i ebz).b.lo) ∧ Hid (Below w.heap.size w wr)) (fun i _ => n - (intOf i).toNat)
  case atStart => exact ⟨0, [], Nat.zero_le _, rfl, rfl, rfl, rowEv_start _ _ _, ⟨fun i hi => by simp at hi, fun i j _ hj => by simp at hj⟩, fun i hi => by simp at hi, (Below.refl _ _).alloc (Nat.le_refl _) _⟩
  case round =>
    obtain ⟨k, es, hk, rfl, hel, HE, HR, HL, HS, HB⟩ := hrel
    by_cases hk' : k < n
    · have hkk : k < xs.length := by rw [HN.out]; exact hk'
      have i1 : (0 : Int) ≤ (k : Int) := by omega
      have i2 : (k : Int) < (n : Int) := by omega
      obtain ⟨b, o, ad, cp, rfl, hz, e0, hw⟩ := H.out.at HB.out hkk
      obtain ⟨hl, hf⟩ := HX.out k hkk
      have HW := Lib.hid hw
      have HF := Lib.hid hf
      have HT : Hid (xs.take (k + 1) = xs.take k ++ [xs.getD k evz]) := by
        show _ = _
        rw [List.take_add_one, List.getElem?_eq_getElem hkk]
        simp [List.getD, hkk]
      have hlt : w.heap.size < wr.heap.size := HR.out.lt
      clear hw hf
      generalize xs.getD k evz = y at *
      obtain ⟨ys, yh, ym, ws⟩ := y
      unfold EvAt at e0
      simp only at e0 hl HW HF
      obtain ⟨c0, c1, c2, c3⟩ := e0
      obtain ⟨q, hq⟩ : ∃ q, ws.length = q := ⟨_, rfl⟩
      rw [hq] at c3 hl
      have HQ := Lib.hid hq
      clear hq
      go_wp2_with fail
      refine (toEvent_any ys yh ym ad q cp ws _ HQ.out hl HF.out HW.out).mono ?_
      rintro e w2 ⟨b2, γ, rfl, hO, hb⟩
      obtain ⟨X, hX⟩ : ∃ X : EvB, X = ⟨ys, yh, ym, ⟨ws, some ⟨b2, 0, none⟩, q, wr.heap.size, w2.heap.size, γ⟩⟩ := ⟨_, rfl⟩
      have HR2 : Hid (w2.rowIs w.heap.size 59 (n * 4) (fillE es)) := HR.out.of_block (hb.block _ hlt)
      have HL2 : Hid (LaidE w2 w.heap.size w2.heap.size w.heap.size (es ++ [X])) := HL.out.more hlt hb (by rw [hX]; exact Nat.le_refl _) (by rw [hX]; exact Nat.le_refl _) (by rw [hX]; exact hO)
      have HS2 : Hid (∀ i, i < (es ++ [X]).length → w.heap.size < ((es ++ [X]).getD i ebz).b.lo) := fun i hi => by
        by_cases hl : i < es.length
        · rw [eb_old es X (by omega)]
          exact HS.out i hl
        · have hi' : i = es.length := by simp at hi; omega
          rw [hi', eb_new, hX]
          exact hlt
      have HB2 := Lib.hid (below_step HB.out HB.out.size hb)
      have HE2 : Hid (evsOf (es ++ [X]) = xs.take (k + 1)) := by
        show _ = _
        unfold evsOf at *
        rw [HT.out, List.map_append, HE.out, hX]
        rfl
      have d0 := HR2.out.cell (i := k * 4) (by omega)
      have d1 := HR2.out.cell (i := k * 4 + 1) (by omega)
      have d2 := HR2.out.cell (i := k * 4 + 2) (by omega)
      have d3 := HR2.out.cell (i := k * 4 + 3) (by omega)
      have fz := HR2.out.frozen
      have HP : Hid ((put4 w2 w.heap.size (k * 4) ys yh ym (.slice (some ⟨b2, 0, none⟩) q q)).rowIs w.heap.size 59 (n * 4) (fillE (es ++ [X]))) := ((((HR2.out.set (k * 4) _).set (k * 4 + 1) _).set (k * 4 + 2) _).set (k * 4 + 3) _).congr fun j _ => by
        have := fillE_step es X j
        rw [hel] at this
        rw [← this, hX]
        unfold batV
        rw [HQ.out]
      clear hO hb HR HL HB HR2 HS
      go_wp2
      exact ⟨⟨k + 1, es ++ [X], by omega, by go_num, by simp [hel], HE2, HP, HL2.out.setRow HS2.out _ _ _ _ _, HS2, Below.put4' HB2.out (Nat.le_refl _) _ _ _ _ _⟩, by simp [intOf]; omega⟩
    · have hkk : k = n := by omega
      subst hkk
      have HE2 : Hid (evsOf es = xs) := by
        have h := HE.out
        rw [List.take_of_length_le (by rw [HN.out]; exact Nat.le_refl _)] at h
        exact h
      go_wp2
      go_ret
      exact ⟨es, rfl, HE2.out, .inr ⟨w.heap.size, k * 4, _, rfl, Nat.le_refl _, HR.out.lt, HR.out, by omega, fillE_in es, HL.out⟩, HB.out⟩

end Go.Proofs.Ytomndnopbpbblaa
