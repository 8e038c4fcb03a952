import Derived.Test.YtobcefkjoojflaaPack4
import Derived.Deep.Slices
import Derived.Test.YtobcefkjoojflaaPack2
import Derived.Deep.DeepCutAuto
import Derived.Lib.Hide
namespace Go.Proofs.Ytobcefkjoojflaa
open Go.ChangeShapes Go.WideShapes Go.ChangeAt Go.RowKit Go.Joins
set_option maxRecDepth 100000
attribute [local go_sem ↓] Go.wp_at_zero Go.wp_at_succ

def put2 (w : World) (b o : Nat) (s : Int) (v : Value) : World :=
  (w.setCell ⟨b, o, none⟩ (.int .i64 s)).setCell ⟨b, o + 1, none⟩ v

theorem OwnA.put2 {w : World} {lo hi : Nat} {a : Option Addr} {ws : List Wr} {γ : Nat → Nat} (h : OwnA w lo hi a ws γ) {b : Nat} (hb : b < lo) (o : Nat) (s : Int) (v : Value) : OwnA (Proofs.Ytobcefkjoojflaa.put2 w b o s v) lo hi a ws γ :=
  (h.setLow hb _ _).setLow hb _ _

theorem Below.put2' {B : Nat} {w w' : World} (h : Below B w w') {b : Nat} (hb : B ≤ b) (o : Nat) (s : Int) (v : Value) : Below B w (put2 w' b o s v) :=
  (h.setCell (p := ⟨b, o, none⟩) hb _).setCell (p := ⟨b, o + 1, none⟩) hb _

theorem put2_size (w : World) (b o : Nat) (s : Int) (v : Value) : (put2 w b o s v).heap.size = w.heap.size := by simp [put2]

set_option maxHeartbeats 4000000 in
theorem toReply_any (s : Int) (a : Option Addr) (n cap : Nat) (ws : List Wr) (w : World) (hn : ws.length = n) (hm : n ≤ 1048576) (hx : Few ws) (h : IsWs w a ws) :
    Calls Try.prog 21 #[rpV s a n cap] w fun e w' => ∃ b γ, e = .returned (rpV s (some ⟨b, 0, none⟩) n n) ∧ OwnA w' w.heap.size w'.heap.size (some ⟨b, 0, none⟩) ws γ ∧ Below w.heap.size w w' := by
  have H := Lib.hid h
  have HN := Lib.hid hn
  have HX := Lib.hid hx
  clear h hn hx
  obtain ⟨O1, hO1⟩ : ∃ O, O = Obj.cells #[.int .i64 s, .slice a n cap] 42 := ⟨_, rfl⟩
  obtain ⟨O2, hO2⟩ : ∃ O, O = Obj.cells #[.int .i64 0, .slice none 0 0] 47 := ⟨_, rfl⟩
  obtain ⟨O3, hO3⟩ : ∃ O, O = Obj.cells #[.int .i64 s, .slice none 0 0] 47 := ⟨_, rfl⟩
  have HB : Hid (Below w.heap.size w (((w.alloc O1).alloc O2).alloc O3)) := (((Below.refl _ _).alloc (Nat.le_refl _) _).alloc (by simp) _).alloc (by simp; omega) _
  have hsz : (((w.alloc O1).alloc O2).alloc O3).heap.size = w.heap.size + 3 := by simp
  have e : (w.alloc O1).heap.size = w.heap.size + 1 := by simp
  have HZ2 : Hid ((((w.alloc O1).alloc O2).alloc O3).heap[w.heap.size + 1]? = some O2) := by
    have := heap_alloc2_old (w.alloc O1) O2 O3
    rwa [e] at this
  have HZ3 : Hid ((((w.alloc O1).alloc O2).alloc O3).heap[w.heap.size + 2]? = some O3) := by
    have := heap_alloc2_new (w.alloc O1) O2 O3
    rwa [e] at this
  clear e
  subst hO1 hO2 hO3
  go_enter Try.func21, Try.ntmps21
  go_wp2_with fail
  generalize ((w.alloc (.cells #[.int .i64 s, .slice a n cap] 42)).alloc (.cells #[.int .i64 0, .slice none 0 0] 47)).alloc (.cells #[.int .i64 s, .slice none 0 0] 47) = W3 at *
  refine (toWriteS_ownA a n cap ws _ HN.out hm HX.out (H.out.below HB.out)).mono ?_
  rintro e w4 ⟨γ, rfl, hO, hb⟩
  have HO := Lib.hid hO
  have HB4 : Hid (Below w.heap.size w w4) := below_step HB.out HB.out.size hb
  have q2 := (hb.block (w.heap.size + 1) (by omega)).trans HZ2.out
  have q3 := (hb.block (w.heap.size + 2) (by omega)).trans HZ3.out
  have hs4 : W3.heap.size ≤ w4.heap.size := hb.size
  have d0 := cell_of_row w4 (w.heap.size + 1) 0 _ _ _ q2
  have d1 := cell_of_row w4 (w.heap.size + 1) 1 _ _ _ q2
  have c0 := cell_of_row w4 (w.heap.size + 2) 0 _ _ _ q3
  have c1 := cell_of_row w4 (w.heap.size + 2) 1 _ _ _ q3
  have f2 : ∀ o, w4.frozen? ⟨w.heap.size + 1, o, none⟩ = false := fun o => frozen_of_row w4 (w.heap.size + 1) o _ _ q2
  have f3 : ∀ o, w4.frozen? ⟨w.heap.size + 2, o, none⟩ = false := fun o => frozen_of_row w4 (w.heap.size + 2) o _ _ q3
  simp at d0 d1 c0 c1
  clear hb hO HB HZ2 HZ3 q2 q3
  go_wp2
  have hw3 : W3.heap.size = w.heap.size + 3 := hsz
  refine bodyPost_ret (v := rpV s (some ⟨w.heap.size + 3, 0, none⟩) n n) (by simp [results, Try.results21, go_sem, d0, d1]) rfl ⟨w.heap.size + 3, γ, rfl, ?_, ?_⟩
  · have h1 := HO.out
    rw [hw3] at h1
    exact ((h1.setLow (b := w.heap.size + 1 + 1) (by omega) 1 _).put2 (b := w.heap.size + 1) (by omega) 0 s _).wider (by omega) (by simp)
  · exact Below.put2' (HB4.out.setCell (p := ⟨w.heap.size + 1 + 1, 1, none⟩) (by simp; omega) _) (b := w.heap.size + 1) (by omega) 0 s _

structure RpB where
  c : Int
  b : Bat

def rbz : RpB := ⟨0, btz⟩

def rpOf (e : RpB) : Rp := ⟨e.c, e.b.ws⟩

def rpsOf (es : List RpB) : List Rp := es.map rpOf

theorem rpsOf_len (es : List RpB) : (rpsOf es).length = es.length := by simp [rpsOf]

theorem rpsOf_get (es : List RpB) {i : Nat} (h : i < es.length) : (rpsOf es).getD i rpz = rpOf (es.getD i rbz) := by simp [rpsOf, List.getD, h]

def fieldR (e : RpB) (c : Nat) : Value := if c = 0 then .int .i64 e.c else batV e.b

def RpsIn (f : Nat → Value) (es : List RpB) : Prop := ∀ i, i < es.length → ∀ c, c < 2 → f (i * 2 + c) = fieldR (es.getD i rbz) c

def LaidR (w : World) (lo hi b : Nat) (es : List RpB) : Prop := (∀ i, i < es.length → lo ≤ (es.getD i rbz).b.lo ∧ (es.getD i rbz).b.hi ≤ hi ∧ (b < (es.getD i rbz).b.lo ∨ (es.getD i rbz).b.hi ≤ b) ∧ OwnA w (es.getD i rbz).b.lo (es.getD i rbz).b.hi (es.getD i rbz).b.a (es.getD i rbz).b.ws (es.getD i rbz).b.γ) ∧ ∀ i j, i < j → j < es.length → (es.getD i rbz).b.hi ≤ (es.getD j rbz).b.lo

def OwnR (w : World) (lo hi : Nat) (a : Option Addr) (es : List RpB) : Prop :=
  es = [] ∨ ∃ b N f, a = some ⟨b, 0, none⟩ ∧ lo ≤ b ∧ b < hi ∧ w.rowIs b 47 N f ∧ es.length * 2 ≤ N ∧ RpsIn f es ∧ LaidR w lo hi b es

theorem LaidR.below {w w' : World} {lo hi b : Nat} {es : List RpB} (h : LaidR w lo hi b es) (hb : Below w.heap.size w w') : LaidR w' lo hi b es :=
  ⟨fun i hi => ⟨(h.1 i hi).1, (h.1 i hi).2.1, (h.1 i hi).2.2.1, (h.1 i hi).2.2.2.below hb⟩, h.2⟩

theorem OwnR.below {w w' : World} {lo hi : Nat} {a : Option Addr} {es : List RpB} (h : OwnR w lo hi a es) (hb : Below w.heap.size w w') : OwnR w' lo hi a es := by
  rcases h with h | ⟨b, N, f, h1, h2, h3, h4, h5, h6, h7⟩
  · exact .inl h
  · exact .inr ⟨b, N, f, h1, h2, h3, h4.of_block (hb.block b h4.lt), h5, h6, h7.below hb⟩

theorem OwnR.only {w w' : World} {S : Nat → Prop} {lo hi : Nat} {a : Option Addr} {es : List RpB} (h : OwnR w lo hi a es) (ho : Only S w w') (hS : ∀ x, S x → x < lo) : OwnR w' lo hi a es := by
  rcases h with h | ⟨b, N, f, h1, h2, h3, h4, h5, h6, h7⟩
  · exact .inl h
  · exact .inr ⟨b, N, f, h1, h2, h3, h4.of_block (ho.block b fun e => by have := hS b e; omega), h5, h6, fun i hi => ⟨(h7.1 i hi).1, (h7.1 i hi).2.1, (h7.1 i hi).2.2.1, (h7.1 i hi).2.2.2.only ho fun x hx => by have := hS x hx; have := (h7.1 i hi).1; omega⟩, h7.2⟩

theorem RpsIn.at_ {f : Nat → Value} {es : List RpB} (h : RpsIn f es) {w : World} {b t N : Nat} (hr : w.rowIs b t N f) (hN : es.length * 2 ≤ N) {i : Nat} (hi : i < es.length) : RpAt w b (i * 2) (rpOf (es.getD i rbz)) (es.getD i rbz).b.a (es.getD i rbz).b.cap := by
  have c : ∀ c, c < 2 → w.cell? ⟨b, i * 2 + c, none⟩ = some (fieldR (es.getD i rbz) c) := fun c hc => by rw [hr.cell (i := i * 2 + c) (by omega), h i hi c hc]
  exact ⟨c 0 (by omega), c 1 (by omega)⟩

theorem OwnR.isRs {w : World} {lo hi : Nat} {a : Option Addr} {es : List RpB} (h : OwnR w lo hi a es) (hx : FewR (rpsOf es)) : IsRs w a (rpsOf es) := by
  rcases h with h | ⟨b, N, f, h1, h2, h3, h4, h5, h6, h7⟩
  · exact .inl (by rw [h]; rfl)
  · refine .inr ⟨b, 0, h1, h4.lt, fun i hi => ?_⟩
    have hi' : i < es.length := by rwa [rpsOf_len] at hi
    have hf := (hx i hi).2
    rw [rpsOf_get es hi'] at hf ⊢
    exact ⟨_, _, by rw [Nat.zero_add]; exact h6.at_ h4 h5 hi', (h7.1 i hi').2.2.2.isWs hf⟩

def fillR (es : List RpB) (j : Nat) : Value := fieldR (es.getD (j / 2) rbz) (j % 2)

theorem fillR_in (es : List RpB) : RpsIn (fillR es) es := fun i _ c hc => by
  unfold fillR
  rw [show (i * 2 + c) / 2 = i by omega, show (i * 2 + c) % 2 = c by omega]

theorem rb_old (es : List RpB) (x : RpB) {i : Nat} (h : i ≠ es.length) : (es ++ [x]).getD i rbz = es.getD i rbz := by
  rw [List.getD_eq_getElem?_getD, List.getD_eq_getElem?_getD]
  by_cases hl : i < es.length
  · rw [List.getElem?_append_left hl]
  · rw [List.getElem?_eq_none (by simp; omega), List.getElem?_eq_none (by omega)]

theorem rb_new (es : List RpB) (x : RpB) : (es ++ [x]).getD es.length rbz = x := by simp [List.getD]

theorem fillR_step (es : List RpB) (x : RpB) (j : Nat) : (if j = es.length * 2 + 1 then batV x.b else if j = es.length * 2 then .int .i64 x.c else fillR es j) = fillR (es ++ [x]) j := by
  unfold fillR
  by_cases h1 : j = es.length * 2 + 1
  · rw [if_pos h1, show j / 2 = es.length by omega, show j % 2 = 1 by omega, rb_new]
    rfl
  rw [if_neg h1]
  by_cases h0 : j = es.length * 2
  · rw [if_pos h0, show j / 2 = es.length by omega, show j % 2 = 0 by omega, rb_new]
    rfl
  rw [if_neg h0, rb_old es x (by omega)]

theorem infoReply : (Try.prog.info? 47).map (fun i => (i.zero, i.size, i.bytes)) = some (some (.agg #[.int .i64 0, .slice none 0 0]), 2, 32) := by kernel_rfl

theorem run_make_rps (n : Nat) (hn : n ≤ 1048576) (w : World) :
    (Instr.makeSlice 30 (.int .i64 (n : Int)) (.int .i64 (n : Int))).run Try.prog w = .ok (.slice (some ⟨w.heap.size, 0, none⟩) n n) (w.alloc (.cells (madeCells #[.int .i64 0, .slice none 0 0] (n * 2)) 47)) := by
  obtain ⟨i, hi, hzz⟩ := Option.map_eq_some_iff.1 infoReply
  simp only [Prod.mk.injEq] at hzz
  obtain ⟨hz, hs, hb⟩ := hzz
  have hr := run_make (P := Try.prog) w 30 47 i _ Try.underlying30 hi hz .i64 .i64 n n (by omega) (Int.le_refl _) (by rw [hb]; omega) (by omega)
  simp only [Int.toNat_natCast, hs] at hr
  exact hr

theorem rowRp_start (w : World) (t n : Nat) : (w.alloc (.cells (madeCells #[.int .i64 0, .slice none 0 0] (n * 2)) t)).rowIs w.heap.size t (n * 2) (fillR []) := by
  refine ⟨_, Go.Deep.blk_alloc_new _ _, size_madeCells _ _, fun i hi => ?_⟩
  have e : ([] : List RpB).getD (i / 2) rbz = rbz := rfl
  unfold fillR
  rw [e]
  have h4 : i % 2 = 0 ∨ i % 2 = 1 := by omega
  rcases h4 with h4 | h4 <;> simp [madeCells, hi, h4, fieldR, rbz, btz, batV]

theorem LaidR.more {w w' : World} {B : Nat} {es : List RpB} (h : LaidR w B w.heap.size B es) (hB : B < w.heap.size) (hb : Below w.heap.size w w') {x : RpB} (h2 : w.heap.size ≤ x.b.lo) (h3 : x.b.hi ≤ w'.heap.size) (h4 : OwnA w' x.b.lo x.b.hi x.b.a x.b.ws x.b.γ) : LaidR w' B w'.heap.size B (es ++ [x]) := by
  constructor
  · intro i hi
    by_cases hl : i < es.length
    · rw [rb_old es x (by omega)]
      obtain ⟨q1, q2, q3, q4⟩ := h.1 i hl
      exact ⟨q1, Nat.le_trans q2 hb.size, q3, q4.below hb⟩
    · have hi' : i = es.length := by simp at hi; omega
      rw [hi', rb_new]
      exact ⟨by omega, h3, .inl (by omega), h4⟩
  · intro i j hij hj
    by_cases hl : j < es.length
    · rw [rb_old es x (by omega), rb_old es x (by omega)]
      exact h.2 i j hij hl
    · have hj' : j = es.length := by simp at hj; omega
      rw [hj', rb_new, rb_old es x (by omega)]
      exact Nat.le_trans (h.1 i (by omega)).2.1 h2

theorem LaidR.setRow {w : World} {B : Nat} {es : List RpB} (h : LaidR w B w.heap.size B es) (hs : ∀ i, i < es.length → B < (es.getD i rbz).b.lo) (o : Nat) (s : Int) (v : Value) : LaidR (put2 w B o s v) B (put2 w B o s v).heap.size B es :=
  ⟨fun i hi => ⟨(h.1 i hi).1, by rw [put2_size]; exact (h.1 i hi).2.1, (h.1 i hi).2.2.1, (h.1 i hi).2.2.2.put2 (hs i hi) o s v⟩, h.2⟩

set_option maxHeartbeats 4000000 in
theorem toReplyS_any (a : Option Addr) (n cap : Nat) (xs : List Rp) (w : World) (hn : xs.length = n) (hm : n ≤ 1048576) (hx : FewR xs) (h : IsRs w a xs) :
    Calls Try.prog 8 #[.slice a n cap] w fun e w' => ∃ es, e = .returned (.slice (some ⟨w.heap.size, 0, none⟩) n n) ∧ rpsOf es = xs ∧ OwnR w' w.heap.size w'.heap.size (some ⟨w.heap.size, 0, none⟩) es ∧ Below w.heap.size w w' := by
  have H := Lib.hid h
  have HN := Lib.hid hn
  have HX := Lib.hid hx
  clear h hn hx
  have hmk := run_make_rps n hm
  go_enter Try.func8, Try.ntmps8
  go_wp2
  clear hmk
  go_loopw [4] (fun i wr => ∃ (k : Nat) (es : List RpB), k ≤ n ∧ i = .int .i64 k ∧ es.length = k ∧ Hid (rpsOf es = xs.take k) ∧ Hid (wr.rowIs w.heap.size 47 (n * 2) (fillR es)) ∧ Hid (LaidR wr w.heap.size wr.heap.size w.heap.size es) ∧ Hid (∀ i, i < es.length → w.heap.size < (es.getD i rbz).b.lo) ∧ Hid (Below w.heap.size w wr)) (fun i _ => n - (intOf i).toNat)
  case atStart => exact ⟨0, [], Nat.zero_le _, rfl, rfl, rfl, rowRp_start _ _ _, ⟨fun i hi => by simp at hi, fun i j _ hj => by simp at hj⟩, fun i hi => by simp at hi, (Below.refl _ _).alloc (Nat.le_refl _) _⟩
  case round =>
    obtain ⟨k, es, hk, rfl, hel, HE, HR, HL, HS, HB⟩ := hrel
    by_cases hk' : k < n
    · have hkk : k < xs.length := by rw [HN.out]; exact hk'
      have i1 : (0 : Int) ≤ (k : Int) := by omega
      have i2 : (k : Int) < (n : Int) := by omega
      obtain ⟨b, o, ad, cp, rfl, hz, e0, hw⟩ := H.out.at HB.out hkk
      obtain ⟨hl, hf⟩ := HX.out k hkk
      have HW := Lib.hid hw
      have HF := Lib.hid hf
      have HT : Hid (xs.take (k + 1) = xs.take k ++ [xs.getD k rpz]) := by
        show _ = _
        rw [List.take_add_one, List.getElem?_eq_getElem hkk]
        simp [List.getD, hkk]
      have hlt : w.heap.size < wr.heap.size := HR.out.lt
      clear hw hf
      generalize xs.getD k rpz = y at *
      obtain ⟨ys, ws⟩ := y
      unfold RpAt at e0
      simp only at e0 hl HW HF
      obtain ⟨c0, c3⟩ := e0
      obtain ⟨q, hq⟩ : ∃ q, ws.length = q := ⟨_, rfl⟩
      rw [hq] at c3 hl
      have HQ := Lib.hid hq
      clear hq
      go_wp2_with fail
      refine (toReply_any ys ad q cp ws _ HQ.out hl HF.out HW.out).mono ?_
      rintro e w2 ⟨b2, γ, rfl, hO, hb⟩
      obtain ⟨X, hX⟩ : ∃ X : RpB, X = ⟨ys, ⟨ws, some ⟨b2, 0, none⟩, q, wr.heap.size, w2.heap.size, γ⟩⟩ := ⟨_, rfl⟩
      have HR2 : Hid (w2.rowIs w.heap.size 47 (n * 2) (fillR es)) := HR.out.of_block (hb.block _ hlt)
      have HL2 : Hid (LaidR w2 w.heap.size w2.heap.size w.heap.size (es ++ [X])) := HL.out.more hlt hb (by rw [hX]; exact Nat.le_refl _) (by rw [hX]; exact Nat.le_refl _) (by rw [hX]; exact hO)
      have HS2 : Hid (∀ i, i < (es ++ [X]).length → w.heap.size < ((es ++ [X]).getD i rbz).b.lo) := fun i hi => by
        by_cases hl : i < es.length
        · rw [rb_old es X (by omega)]
          exact HS.out i hl
        · have hi' : i = es.length := by simp at hi; omega
          rw [hi', rb_new, hX]
          exact hlt
      have HB2 := Lib.hid (below_step HB.out HB.out.size hb)
      have HE2 : Hid (rpsOf (es ++ [X]) = xs.take (k + 1)) := by
        show _ = _
        unfold rpsOf at *
        rw [HT.out, List.map_append, HE.out, hX]
        rfl
      have d0 := HR2.out.cell (i := k * 2) (by omega)
      have d1 := HR2.out.cell (i := k * 2 + 1) (by omega)
      have fz := HR2.out.frozen
      have HP : Hid ((put2 w2 w.heap.size (k * 2) ys (.slice (some ⟨b2, 0, none⟩) q q)).rowIs w.heap.size 47 (n * 2) (fillR (es ++ [X]))) := ((HR2.out.set (k * 2) _).set (k * 2 + 1) _).congr fun j _ => by
        have := fillR_step es X j
        rw [hel] at this
        rw [← this, hX]
        unfold batV
        rw [HQ.out]
      clear hO hb HR HL HB HR2 HS
      go_wp2
      exact ⟨⟨k + 1, es ++ [X], by omega, by go_num, by simp [hel], HE2, HP, HL2.out.setRow HS2.out _ _ _, HS2, Below.put2' HB2.out (Nat.le_refl _) _ _ _⟩, by simp [intOf]; omega⟩
    · have hkk : k = n := by omega
      subst hkk
      have HE2 : Hid (rpsOf es = xs) := by
        have h := HE.out
        rw [List.take_of_length_le (by rw [HN.out]; exact Nat.le_refl _)] at h
        exact h
      go_wp2
      go_ret
      exact ⟨es, rfl, HE2.out, .inr ⟨w.heap.size, k * 2, _, rfl, Nat.le_refl _, HR.out.lt, HR.out, by omega, fillR_in es, HL.out⟩, HB.out⟩

end Go.Proofs.Ytobcefkjoojflaa

namespace Go.Proofs.Ytobcefkjoojflaa
open Go.ChangeShapes Go.WideShapes Go.ChangeAt Go.RowKit Go.Joins
set_option maxRecDepth 100000
attribute [local go_sem ↓] Go.wp_at_zero Go.wp_at_succ

def markKR (es : List RpB) (k : Int) : Int := es.foldl (fun k e => markK e.b.ws (k + 1) e.b.ws.length) k

theorem markKR_take (es : List RpB) (k : Int) {i : Nat} (h : i < es.length) : markKR (es.take (i + 1)) k = markK (es.getD i rbz).b.ws (markKR (es.take i) k + 1) (es.getD i rbz).b.ws.length := by
  unfold markKR
  have e : es.take (i + 1) = es.take i ++ [es.getD i rbz] := by
    rw [List.take_add_one, List.getElem?_eq_getElem h]
    simp [List.getD, h]
  rw [e, List.foldl_append]
  rfl

def TameR (es : List RpB) (k : Int) : Prop := (∀ i, i < es.length → (es.getD i rbz).b.ws.length ≤ 1048576 ∧ bulk (es.getD i rbz).b.ws ≤ 1048576) ∧ ∀ i, i ≤ es.length → 0 ≤ markKR (es.take i) k ∧ markKR (es.take i) k ≤ 1073741800

theorem markKR_bd : ∀ (es : List RpB) (k : Int), k ≤ markKR es k ∧ markKR es k ≤ k + 1 * (es.length : Int) + 6 * (heftB (rpW (rpsOf es)) : Int)
  | [], k => by simp [markKR, rpsOf, rpW, heftB]
  | e :: r, k => by
    have h1 := markK_bd e.b.ws (k + 1)
    have h2 := markKR_bd r (markK e.b.ws (k + 1) e.b.ws.length)
    have e1 : markKR (e :: r) k = markKR r (markK e.b.ws (k + 1) e.b.ws.length) := rfl
    have e2 : heftB (rpW (rpsOf (e :: r))) = e.b.ws.length + bulk e.b.ws + heftB (rpW (rpsOf r)) := rfl
    rw [e1, e2]
    generalize markK e.b.ws (k + 1) e.b.ws.length = m at *
    simp only [List.length_cons]
    push_cast at *
    omega

theorem tameR_heft {es : List RpB} {k : Int} (hk : 0 ≤ k) (hk2 : k ≤ 1000000000) (h : heftB (rpW (rpsOf es)) ≤ 1048576) (hl : es.length ≤ 1048576) : TameR es k := by
  refine ⟨fun i hi => ?_, fun i hi => ?_⟩
  · have h1 := heft_one (rpW (rpsOf es)) i (by rw [rpW_len, rpsOf_len]; exact hi)
    rw [rpW_get _ (by rw [rpsOf_len]; exact hi), rpsOf_get es hi] at h1
    simp only [rpOf] at h1
    omega
  · have h3 := markKR_bd (es.take i) k
    have h4 : rpW (rpsOf (es.take i)) = (rpW (rpsOf es)).take i := by simp [rpsOf, rpW]
    rw [h4] at h3
    have h5 := heft_part (rpW (rpsOf es)) i
    have h6 : (es.take i).length ≤ es.length := by simp; omega
    omega

def markFR (e : RpB) (k : Int) (c : Nat) : Value := if c = 0 then .int .i64 k else batV e.b

def MarkRowR (f : Nat → Value) (es : List RpB) (k : Int) (j : Nat) : Prop := ∀ i, i < es.length → ∀ c, c < 2 → f (i * 2 + c) = if i < j then markFR (es.getD i rbz) (markKR (es.take i) k) c else fieldR (es.getD i rbz) c

abbrev mark1 (w : World) (b o : Nat) (m : Int) : World := w.setCell ⟨b, o, none⟩ (.int .i64 m)

theorem MarkRowR.step {f g : Nat → Value} {es : List RpB} {k m : Int} {j : Nat} (h : MarkRowR f es k j) (hm : markKR (es.take j) k = m) (hg : ∀ o, g o = if o = j * 2 then .int .i64 m else f o) : MarkRowR g es k (j + 1) := by
  intro i hi c hc
  by_cases hij : i = j
  · subst hij
    rw [if_pos (by omega), hm]
    have h4 : c = 0 ∨ c = 1 := by omega
    rcases h4 with rfl | rfl
    · rw [hg, if_pos (by omega)]
      rfl
    · rw [hg, if_neg (by omega), h i hi 1 (by omega), if_neg (by omega)]
      rfl
  · rw [hg, if_neg (by omega), h i hi c hc]
    by_cases hl : i < j
    · rw [if_pos hl, if_pos (by omega)]
    · rw [if_neg hl, if_neg (by omega)]

def MarkedR (w : World) (a : Option Addr) (es : List RpB) (k : Int) : Prop := es = [] ∨ ∃ b N f, a = some ⟨b, 0, none⟩ ∧ w.rowIs b 47 N f ∧ es.length * 2 ≤ N ∧ MarkRowR f es k es.length ∧ ∀ i, i < es.length → MarkedA w (es.getD i rbz).b.a (es.getD i rbz).b.ws (es.getD i rbz).b.γ (markKR (es.take i) k + 1)

theorem MarkedR.below {w w' : World} {a : Option Addr} {es : List RpB} {k : Int} (h : MarkedR w a es k) (hb : Below w.heap.size w w') : MarkedR w' a es k := by
  rcases h with h | ⟨b, N, f, h1, h2, h3, h4, h5⟩
  · exact .inl h
  · exact .inr ⟨b, N, f, h1, h2.of_block (hb.block b h2.lt), h3, h4, fun i hi => (h5 i hi).below hb⟩

set_option maxHeartbeats 4000000 in
theorem markReplyS_any (lo hi n cap : Nat) (a : Option Addr) (k : Int) (es : List RpB) (w : World) (hn : es.length = n) (hm : n ≤ 1048576) (ht : TameR es k) (ho : OwnR w lo hi a es) :
    Calls Try.prog 14 #[.slice a n cap, .int .i64 k] w fun e w' => e = .returned (.int .i64 (markKR es k)) ∧ MarkedR w' a es k ∧ Only (Span lo hi) w w' := by
  by_cases hz : n = 0
  · subst hz
    have he : es = [] := List.length_eq_zero_iff.1 hn
    subst he
    clear ho hn ht
    go_enter Try.func14, Try.ntmps14
    go_wp2
    go_loopw [1, 5] (fun l i wr => i = .int .i64 0 ∧ l = .int .i64 k ∧ wr = w) (fun _ _ _ => 0)
    case atStart => exact ⟨rfl, rfl, rfl⟩
    case round =>
      obtain ⟨rfl, rfl, rfl⟩ := hrel
      go_wp2
      go_ret
      exact ⟨rfl, .inl rfl, Only.refl _ _⟩
  · obtain ⟨b, N, f0, rfl, hlo, hhi, hrow, hN, hin, hla, hpw⟩ : ∃ b N f, a = some ⟨b, 0, none⟩ ∧ lo ≤ b ∧ b < hi ∧ w.rowIs b 47 N f ∧ es.length * 2 ≤ N ∧ RpsIn f es ∧ LaidR w lo hi b es := by
      rcases ho with h | h
      · rw [h] at hn
        exact absurd hn.symm hz
      · exact h
    have HROW := Lib.hid hrow
    have HIN : Hid (MarkRowR f0 es k 0) := fun i hi c hc => by rw [if_neg (by omega)]; exact hin i hi c hc
    have HOW := Lib.hid hla
    have HPW := Lib.hid hpw
    have HT := Lib.hid ht
    have HN := Lib.hid hn
    clear hin hla hpw ht hn ho hrow
    go_enter Try.func14, Try.ntmps14
    go_wp2
    go_loopw [1, 5] (fun l i wr => ∃ (j : Nat) (f : Nat → Value), j ≤ n ∧ i = .int .i64 j ∧ l = .int .i64 (markKR (es.take j) k) ∧ Hid (wr.rowIs b 47 N f) ∧ Hid (MarkRowR f es k j) ∧ Hid (∀ i, i < j → MarkedS wr (es.getD i rbz).b (markKR (es.take i) k + 1)) ∧ Hid (∀ i, j ≤ i → i < n → OwnA wr (es.getD i rbz).b.lo (es.getD i rbz).b.hi (es.getD i rbz).b.a (es.getD i rbz).b.ws (es.getD i rbz).b.γ) ∧ Hid (Only (Span lo hi) w wr)) (fun _ i _ => n - (intOf i).toNat)
    case atStart => exact ⟨0, f0, Nat.zero_le _, rfl, rfl, HROW, HIN, fun i h => absurd h (Nat.not_lt_zero i), fun i _ h => (HOW.out i (by rw [HN.out]; exact h)).2.2.2, Only.refl _ _⟩
    case round =>
      obtain ⟨j, f, hj, rfl, rfl, HA, HR, HM, HO, HL⟩ := hrel
      by_cases hj' : j < n
      · have hjj : j < es.length := by rw [HN.out]; exact hj'
        have i1 : (0 : Int) ≤ (j : Int) := by omega
        have i2 : (j : Int) < (n : Int) := by omega
        have hj4 : j * 2 + 1 < N := by omega
        have c0 := HA.out.cell (i := j * 2) (by omega)
        have c3 : wr.cell? ⟨b, j * 2 + 1, none⟩ = some (batV (es.getD j rbz).b) := by
          rw [HA.out.cell (i := j * 2 + 1) hj4, HR.out j hjj 1 (by omega), if_neg (by omega)]
          rfl
        have fz := HA.out.frozen
        unfold batV at c3
        obtain ⟨b1, b2⟩ := HT.out.1 j hjj
        obtain ⟨t1, t2⟩ := HT.out.2 j (by omega)
        have HK := Lib.hid (markKR_take es k hjj)
        have HE := Lib.hid (HO.out j (Nat.le_refl _) hj')
        have HI := Lib.hid (HOW.out j hjj)
        obtain ⟨kk, hkk⟩ : ∃ kk, markKR (es.take j) k = kk := ⟨_, rfl⟩
        have HRW : Hid ((mark1 wr b (j * 2) kk).rowIs b 47 N _) := HA.out.set (j * 2) _
        have HR2 := Lib.hid (HR.out.step hkk fun _ => rfl)
        rw [hkk] at t1 t2 HK ⊢
        have HKK := Lib.hid hkk
        obtain ⟨x, hx⟩ : ∃ x, es.getD j rbz = x := ⟨_, rfl⟩
        rw [hx] at c3 b1 b2 HK HE HI
        have HX := Lib.hid hx
        clear hkk hx HR
        obtain ⟨xs, xw, xa, xc, xl, xh, xg⟩ := x
        simp only at c3 b1 b2 HK HE HI
        obtain ⟨q, hq⟩ : ∃ q, xw.length = q := ⟨_, rfl⟩
        rw [hq] at c3 b1 HK
        have HQ := Lib.hid hq
        clear hq
        obtain ⟨k3, hk3⟩ : ∃ k3, markK xw (kk + 1) q = k3 := ⟨_, rfl⟩
        rw [hk3] at HK
        have HK3 := Lib.hid hk3
        clear hk3
        have HO3 : Hid (Only (fun x => x = b) wr (mark1 wr b (j * 2) kk)) := Only.set (S := fun x => x = b) (Only.refl _ wr) rfl _ _
        have HE3 : Hid (OwnA (mark1 wr b (j * 2) kk) xl xh xa xw xg) := by
          refine HE.out.apart HO3.out fun x hx => ?_
          have h1 := HI.out.2.2.1
          subst hx
          exact h1
        go_wp2_with fail
        refine (markWriteS_all xl xh q xc xa (kk + 1) xw xg _ HQ.out b1 b2 (by omega) (by omega) HE3.out).mono ?_
        rintro e w2 ⟨rfl, hmk, ho⟩
        rw [HK3.out]
        have hnb : ¬ Span xl xh b := fun hx => by have h1 := HI.out.2.2.1; have h2 := hx.1; have h3 := hx.2; omega
        have HA2 := Lib.hid (HRW.out.of_block (ho.block b hnb))
        have HXL : Hid ((es.getD j rbz).b.lo = xl ∧ (es.getD j rbz).b.hi = xh) := by rw [HX.out]; exact ⟨rfl, rfl⟩
        have HM2 : Hid (∀ i, i < j + 1 → MarkedS w2 (es.getD i rbz).b (markKR (es.take i) k + 1)) := fun i hi => by
          by_cases hij : i < j
          · exact ((HM.out i hij).only HO3.out fun x hx => by have h1 := (HOW.out i (by omega)).2.2.1; subst hx; exact h1).only ho fun x hx => .inr (by have h1 := HPW.out i j hij hjj; have h2 := hx.1; have h3 := HXL.out.1; omega)
          · obtain rfl : i = j := by omega
            rw [HX.out, HKK.out]
            exact OwnA.marked (e := ⟨xw, xa, xc, xl, xh, xg⟩) HE.out hmk
        have HO2 : Hid (∀ i, j + 1 ≤ i → i < n → OwnA w2 (es.getD i rbz).b.lo (es.getD i rbz).b.hi (es.getD i rbz).b.a (es.getD i rbz).b.ws (es.getD i rbz).b.γ) := fun i h1 h2 => ((HO.out i (by omega) h2).apart HO3.out fun x hx => by have h3 := (HOW.out i (by rw [HN.out]; exact h2)).2.2.1; subst hx; exact h3).only ho fun x hx => by have h3 := HPW.out j i (by omega) (by rw [HN.out]; exact h2); have h4 := hx.2; have h5 := HXL.out.2; omega
        have HL2 : Hid (Only (Span lo hi) w w2) := (HL.out.trans HO3.out fun x hx => by subst hx; exact ⟨hlo, hhi⟩).trans ho fun x hx => ⟨by have := HI.out.1; have := hx.1; omega, by have := HI.out.2.1; have := hx.2; omega⟩
        clear hmk ho HE HE3 HO3 HI HX HXL HM HO HA HL HK3 HQ HKK HRW
        go_wp2
        exact ⟨⟨j + 1, _, by omega, by go_num, by rw [HK.out], HA2, HR2, HM2, HO2, HL2⟩, by simp [intOf]; omega⟩
      · have hjj : j = n := by omega
        subst hjj
        have HF : Hid (es.take j = es) := List.take_of_length_le (by rw [HN.out]; exact Nat.le_refl _)
        rw [HF.out]
        go_wp2
        go_ret
        exact ⟨rfl, .inr ⟨b, N, f, rfl, HA.out, hN, by rw [HN.out]; exact HR.out, fun i hi => (HM.out i (by rw [← HN.out]; exact hi)).1⟩, HL.out⟩

end Go.Proofs.Ytobcefkjoojflaa

namespace Go.Proofs.Ytobcefkjoojflaa
open Go.ChangeShapes Go.WideShapes Go.ChangeAt Go.RowKit Go.Joins Go.Deep
set_option maxRecDepth 100000
attribute [local go_sem ↓] Go.wp_at_zero Go.wp_at_succ

structure Ac where
  k : Int
  a : Int
  b : Int
  c : Int
  d : Int
  e : Int

def acz : Ac := ⟨0, 0, 0, 0, 0, 0⟩

abbrev acV (x : Ac) : Value := .agg #[.int .i64 x.k, .int .i64 x.a, .int .i64 x.b, .int .i64 x.c, .int .i64 x.d, .int .i64 x.e]

def acC (x : Ac) (c : Nat) : Int := if c = 0 then x.k else if c = 1 then x.a else if c = 2 then x.b else if c = 3 then x.c else if c = 4 then x.d else x.e

def AcAt (w : World) (b o : Nat) (x : Ac) : Prop :=
  w.cell? ⟨b, o, none⟩ = some (.int .i64 x.k) ∧ w.cell? ⟨b, o + 1, none⟩ = some (.int .i64 x.a) ∧ w.cell? ⟨b, o + 2, none⟩ = some (.int .i64 x.b) ∧ w.cell? ⟨b, o + 3, none⟩ = some (.int .i64 x.c) ∧ w.cell? ⟨b, o + 4, none⟩ = some (.int .i64 x.d) ∧ w.cell? ⟨b, o + 5, none⟩ = some (.int .i64 x.e)

theorem AcAt.of_block {w w' : World} {b o : Nat} {x : Ac} (h : AcAt w b o x) (hb : w'.heap[b]? = w.heap[b]?) : AcAt w' b o x := by
  have c : ∀ o, w'.cell? ⟨b, o, none⟩ = w.cell? ⟨b, o, none⟩ := fun o => World.cell?_of_block (a := ⟨b, o, none⟩) hb
  exact ⟨(c _).trans h.1, (c _).trans h.2.1, (c _).trans h.2.2.1, (c _).trans h.2.2.2.1, (c _).trans h.2.2.2.2.1, (c _).trans h.2.2.2.2.2⟩

def IsAs (w : World) (a : Option Addr) (xs : List Ac) : Prop :=
  xs = [] ∨ ∃ b o, a = some ⟨b, o, none⟩ ∧ b < w.heap.size ∧ ∀ i, i < xs.length → AcAt w b (o + i * 6) (xs.getD i acz)

theorem IsAs.below {w w' : World} {a : Option Addr} {xs : List Ac} (h : IsAs w a xs) (hb : Below w.heap.size w w') : IsAs w' a xs := by
  rcases h with h | ⟨b, o, ha, hlt, hh⟩
  · exact .inl h
  · exact .inr ⟨b, o, ha, Nat.lt_of_lt_of_le hlt hb.size, fun i hi => (hh i hi).of_block (hb.block b hlt)⟩

theorem IsAs.at {w w' : World} {a : Option Addr} {xs : List Ac} (h : IsAs w a xs) (hb : Below w.heap.size w w') {k : Nat} (hk : k < xs.length) : ∃ b o, a = some ⟨b, o, none⟩ ∧ b < w'.heap.size ∧ AcAt w' b (o + k * 6) (xs.getD k acz) := by
  rcases h.below hb with h | ⟨b, o, ha, hlt, hh⟩
  · subst h
    simp at hk
  · exact ⟨b, o, ha, hlt, hh k hk⟩

def acFill (xs : List Ac) (k j : Nat) : Value := .int .i64 (if j < k * 6 then acC (xs.getD (j / 6) acz) (j % 6) else 0)

theorem acFill_step (xs : List Ac) (k j : Nat) : (if j = k * 6 + 5 then Value.int .i64 (xs.getD k acz).e else if j = k * 6 + 4 then Value.int .i64 (xs.getD k acz).d else if j = k * 6 + 3 then Value.int .i64 (xs.getD k acz).c else if j = k * 6 + 2 then Value.int .i64 (xs.getD k acz).b else if j = k * 6 + 1 then Value.int .i64 (xs.getD k acz).a else if j = k * 6 then Value.int .i64 (xs.getD k acz).k else acFill xs k j) = acFill xs (k + 1) j := by
  unfold acFill
  have hr : ∀ r, r < 6 → j = k * 6 + r → (Value.int .i64 (if j < (k + 1) * 6 then acC (xs.getD (j / 6) acz) (j % 6) else 0)) = Value.int .i64 (acC (xs.getD k acz) r) := fun r h1 h2 => by
    rw [if_pos (by omega), show j / 6 = k by omega, show j % 6 = r by omega]
  by_cases h5 : j = k * 6 + 5
  · rw [if_pos h5, hr 5 (by omega) h5]
    rfl
  rw [if_neg h5]
  by_cases h4 : j = k * 6 + 4
  · rw [if_pos h4, hr 4 (by omega) h4]
    rfl
  rw [if_neg h4]
  by_cases h3 : j = k * 6 + 3
  · rw [if_pos h3, hr 3 (by omega) h3]
    rfl
  rw [if_neg h3]
  by_cases h2 : j = k * 6 + 2
  · rw [if_pos h2, hr 2 (by omega) h2]
    rfl
  rw [if_neg h2]
  by_cases h1 : j = k * 6 + 1
  · rw [if_pos h1, hr 1 (by omega) h1]
    rfl
  rw [if_neg h1]
  by_cases h0 : j = k * 6
  · rw [if_pos h0, hr 0 (by omega) h0]
    rfl
  rw [if_neg h0]
  by_cases hl : j < k * 6
  · rw [if_pos hl, if_pos (by omega)]
  · rw [if_neg hl, if_neg (by omega)]

def OwnAs (w : World) (lo hi : Nat) (a : Option Addr) (xs : List Ac) : Prop :=
  xs = [] ∨ ∃ b N f, a = some ⟨b, 0, none⟩ ∧ lo ≤ b ∧ b < hi ∧ w.rowIs b 44 N f ∧ N = xs.length * 6 ∧ ∀ j, j < N → f j = acFill xs xs.length j

theorem OwnAs.below {w w' : World} {lo hi : Nat} {a : Option Addr} {xs : List Ac} (h : OwnAs w lo hi a xs) (hb : Below w.heap.size w w') : OwnAs w' lo hi a xs := by
  rcases h with h | ⟨b, N, f, h1, h2, h3, h4, h5⟩
  · exact .inl h
  · exact .inr ⟨b, N, f, h1, h2, h3, h4.of_block (hb.block b h4.lt), h5⟩

theorem OwnAs.isAs {w : World} {lo hi : Nat} {a : Option Addr} {xs : List Ac} (h : OwnAs w lo hi a xs) : IsAs w a xs := by
  rcases h with h | ⟨b, N, f, h1, h2, h3, h4, h5, h6⟩
  · exact .inl h
  · refine .inr ⟨b, 0, h1, h4.lt, fun i hi => ?_⟩
    have c : ∀ r, r < 6 → w.cell? ⟨b, 0 + i * 6 + r, none⟩ = some (.int .i64 (acC (xs.getD i acz) r)) := fun r hr => by
      rw [Nat.zero_add, h4.cell (i := i * 6 + r) (by omega), h6 _ (by omega)]
      unfold acFill
      rw [if_pos (by omega), show (i * 6 + r) / 6 = i by omega, show (i * 6 + r) % 6 = r by omega]
    exact ⟨c 0 (by omega), c 1 (by omega), c 2 (by omega), c 3 (by omega), c 4 (by omega), c 5 (by omega)⟩

theorem OwnAs.only {w w' : World} {S : Nat → Prop} {lo hi : Nat} {a : Option Addr} {xs : List Ac} (h : OwnAs w lo hi a xs) (ho : Only S w w') (hS : ∀ x, S x → x < lo ∨ hi ≤ x) : OwnAs w' lo hi a xs := by
  rcases h with h | ⟨b, N, f, h1, h2, h3, h4, h5⟩
  · exact .inl h
  · exact .inr ⟨b, N, f, h1, h2, h3, h4.of_block (ho.block b fun e => by have := hS b e; omega), h5⟩

theorem infoAct : (Try.prog.info? 44).map (fun i => (i.zero, i.size, i.bytes)) = some (some (acV acz), 6, 48) := by kernel_rfl

theorem run_make_acts (n : Nat) (hn : n ≤ 1048576) (w : World) :
    (Instr.makeSlice 28 (.int .i64 (n : Int)) (.int .i64 (n : Int))).run Try.prog w = .ok (.slice (some ⟨w.heap.size, 0, none⟩) n n) (w.alloc (.cells (madeCells (acV acz).cells (n * 6)) 44)) := by
  obtain ⟨i, hi, hzz⟩ := Option.map_eq_some_iff.1 infoAct
  simp only [Prod.mk.injEq] at hzz
  obtain ⟨hz, hs, hb⟩ := hzz
  have hr := run_make (P := Try.prog) w 28 44 i _ Try.underlying28 hi hz .i64 .i64 n n (by omega) (Int.le_refl _) (by rw [hb]; omega) (by omega)
  simp only [Int.toNat_natCast, hs] at hr
  exact hr

theorem rowAc_start (w : World) (t n : Nat) (xs : List Ac) : (w.alloc (.cells (madeCells (acV acz).cells (n * 6)) t)).rowIs w.heap.size t (n * 6) (acFill xs 0) := by
  refine ⟨_, Go.Deep.blk_alloc_new _ _, size_madeCells _ _, fun i hi => ?_⟩
  have e : (acV acz).cells = #[.int .i64 0, .int .i64 0, .int .i64 0, .int .i64 0, .int .i64 0, .int .i64 0] := by kernel_rfl
  have h6 : i % 6 = 0 ∨ i % 6 = 1 ∨ i % 6 = 2 ∨ i % 6 = 3 ∨ i % 6 = 4 ∨ i % 6 = 5 := by omega
  rw [e]
  rcases h6 with h6 | h6 | h6 | h6 | h6 | h6 <;> simp [madeCells, hi, h6, acFill]

set_option maxHeartbeats 1000000 in
theorem szActS_any (a : Option Addr) (n cap : Nat) (left : Int) (w : World) (h0 : 0 ≤ left) (h1 : left ≤ 1048576) (hm : n ≤ maxLen) :
    Calls Try.prog 4 #[.slice a n cap, .int .i64 left] w fun e w' => ∃ r : Int, e = .returned (.int .i64 r) ∧ (r = -1 ∨ (0 ≤ r ∧ r = left - n)) ∧ Below w.heap.size w w' := by
  have hm' : n ≤ 9223372036854775807 := hm
  clear hm
  go_enter Try.func4, Try.ntmps4
  by_cases hb : left < (n : Int)
  · go_wp2
    go_ret
    exact ⟨_, rfl, .inl rfl, Below.refl _ _⟩
  · go_wp2
    go_ret
    exact ⟨_, rfl, .inr ⟨by omega, rfl⟩, Below.refl _ _⟩

set_option maxHeartbeats 2000000 in
theorem eqAct_same (x : Ac) (w : World) :
    Calls Try.prog 24 #[acV x, acV x] w fun e w' => e = .returned (.bool true) ∧ Below w.heap.size w w' := by
  obtain ⟨k, a, b, c, d, e⟩ := x
  go_enter Try.func24, Try.ntmps24
  go_wp2
  go_ret
  exact ⟨rfl, ((Below.refl _ _).alloc (Nat.le_refl _) _).alloc (by simp) _⟩

set_option maxHeartbeats 2000000 in
theorem toAct_any (x : Ac) (w : World) :
    Calls Try.prog 20 #[acV x] w fun e w' => e = .returned (acV x) ∧ Below w.heap.size w w' := by
  obtain ⟨k, a, b, c, d, e⟩ := x
  go_enter Try.func20, Try.ntmps20
  go_wp2
  refine bodyPost_ret (v := acV ⟨k, a, b, c, d, e⟩) (by simp [results, Try.results20, go_sem]) rfl ⟨rfl, ?_⟩
  exact (((Below.refl _ _).alloc (Nat.le_refl _) _).alloc (by simp) _).alloc (by simp; omega) _

set_option maxHeartbeats 4000000 in
theorem toActS_any (a : Option Addr) (n cap : Nat) (xs : List Ac) (w : World) (hn : xs.length = n) (hm : n ≤ 1048576) (h : IsAs w a xs) :
    Calls Try.prog 7 #[.slice a n cap] w fun e w' => e = .returned (.slice (some ⟨w.heap.size, 0, none⟩) n n) ∧ OwnAs w' w.heap.size w'.heap.size (some ⟨w.heap.size, 0, none⟩) xs ∧ Below w.heap.size w w' := by
  have H := Lib.hid h
  have HN := Lib.hid hn
  clear h hn
  have hmk := run_make_acts n hm
  go_enter Try.func7, Try.ntmps7
  go_wp2
  clear hmk
  go_loopw [4] (fun i wr => ∃ k : Nat, k ≤ n ∧ i = .int .i64 k ∧ Hid (wr.rowIs w.heap.size 44 (n * 6) (acFill xs k)) ∧ Hid (Below w.heap.size w wr)) (fun i _ => n - (intOf i).toNat)
  case atStart => exact ⟨0, Nat.zero_le _, rfl, rowAc_start _ _ _ _, (Below.refl _ _).alloc (Nat.le_refl _) _⟩
  case round =>
    obtain ⟨k, hk, rfl, HR, HB⟩ := hrel
    by_cases hk' : k < n
    · have i1 : (0 : Int) ≤ (k : Int) := by omega
      have i2 : (k : Int) < (n : Int) := by omega
      obtain ⟨b, o, rfl, hz, c0, c1, c2, c3, c4, c5⟩ := H.out.at HB.out (k := k) (by rw [HN.out]; exact hk')
      have HST := Lib.hid (acFill_step xs k)
      generalize xs.getD k acz = x at *
      go_wp2_with fail
      refine (toAct_any ⟨x.k, x.a, x.b, x.c, x.d, x.e⟩ _).mono ?_
      rintro e w2 ⟨rfl, hb⟩
      have HR2 := Lib.hid (HR.out.of_block (hb.block _ HR.out.lt))
      have HB2 := Lib.hid (below_step HB.out HB.out.size hb)
      have d0 := HR2.out.cell (i := k * 6) (by omega)
      have d1 := HR2.out.cell (i := k * 6 + 1) (by omega)
      have d2 := HR2.out.cell (i := k * 6 + 2) (by omega)
      have d3 := HR2.out.cell (i := k * 6 + 3) (by omega)
      have d4 := HR2.out.cell (i := k * 6 + 4) (by omega)
      have d5 := HR2.out.cell (i := k * 6 + 5) (by omega)
      have fz := HR2.out.frozen
      have HP := Lib.hid (((((((HR2.out.set (k * 6) (.int .i64 x.k)).set (k * 6 + 1) (.int .i64 x.a)).set (k * 6 + 2) (.int .i64 x.b)).set (k * 6 + 3) (.int .i64 x.c)).set (k * 6 + 4) (.int .i64 x.d)).set (k * 6 + 5) (.int .i64 x.e)).congr fun j _ => HST.out j)
      have HB3 := Lib.hid (((((((HB2.out.setCell (p := ⟨w.heap.size, k * 6, none⟩) (Nat.le_refl _) (.int .i64 x.k)).setCell (p := ⟨w.heap.size, k * 6 + 1, none⟩) (Nat.le_refl _) (.int .i64 x.a)).setCell (p := ⟨w.heap.size, k * 6 + 2, none⟩) (Nat.le_refl _) (.int .i64 x.b)).setCell (p := ⟨w.heap.size, k * 6 + 3, none⟩) (Nat.le_refl _) (.int .i64 x.c)).setCell (p := ⟨w.heap.size, k * 6 + 4, none⟩) (Nat.le_refl _) (.int .i64 x.d)).setCell (p := ⟨w.heap.size, k * 6 + 5, none⟩) (Nat.le_refl _) (.int .i64 x.e)))
      clear hb HR HR2 HB HST c0 c1 c2 c3 c4 c5
      go_wp2
      exact ⟨⟨k + 1, by omega, by go_num, HP, HB3⟩, by simp [intOf]; omega⟩
    · obtain rfl : k = n := by omega
      go_wp2
      go_ret
      exact ⟨rfl, .inr ⟨w.heap.size, k * 6, _, rfl, Nat.le_refl _, HR.out.lt, HR.out, by rw [HN.out], fun j _ => by rw [HN.out]⟩, HB.out⟩

set_option maxHeartbeats 4000000 in
theorem eqActS_same (a a' : Option Addr) (n cap cap' : Nat) (xs : List Ac) (w : World) (hn : xs.length = n) (hm : n ≤ 1048576) (h : IsAs w a xs) (h' : IsAs w a' xs) :
    Calls Try.prog 11 #[.slice a n cap, .slice a' n cap'] w fun e w' => e = .returned (.bool true) ∧ Below w.heap.size w w' := by
  have H := Lib.hid h
  have H' := Lib.hid h'
  have HN := Lib.hid hn
  clear h h' hn
  go_enter Try.func11, Try.ntmps11
  go_wp2
  go_loopw [5] (fun i wr => ∃ k : Nat, k ≤ n ∧ i = .int .i64 k ∧ Hid (Below w.heap.size w wr)) (fun i _ => n - (intOf i).toNat)
  case atStart => exact ⟨0, Nat.zero_le _, rfl, Below.refl _ _⟩
  case round =>
    obtain ⟨k, hk, rfl, HB⟩ := hrel
    by_cases hk' : k < n
    · have hkk : k < xs.length := by rw [HN.out]; exact hk'
      have i1 : (0 : Int) ≤ (k : Int) := by omega
      have i2 : (k : Int) < (n : Int) := by omega
      obtain ⟨b, o, rfl, hz, e0⟩ := H.out.at HB.out hkk
      obtain ⟨b', o', rfl, hz', f0⟩ := H'.out.at HB.out hkk
      have HE : Hid (∀ W, Below wr.heap.size wr W → AcAt W b (o + k * 6) (xs.getD k acz) ∧ AcAt W b' (o' + k * 6) (xs.getD k acz)) := fun W hW => ⟨e0.of_block (hW.block b hz), f0.of_block (hW.block b' hz')⟩
      clear e0 f0
      generalize xs.getD k acz = y at *
      have HC : Hid (∀ W, Calls Try.prog 24 #[acV y, acV y] W fun e w' => e = .returned (.bool true) ∧ Below W.heap.size W w') := fun W => eqAct_same y W
      unfold AcAt at HE
      go_wp2_with fail
      refine wp_region_slots 10 [[(0, false)], [(5, false)], [(17, true), (18, true)], [(19, true)], [(1, false)], [(5, false)], [(21, true), (22, true)], [(23, true)], [(20, true), (24, true)], [(25, true)]] (fun w' => Below wr.heap.size wr w') (fun w w' => Below w.heap.size w w') (by kernel_rfl) (by kernel_rfl) (by rfl) ((Below.refl _ _).drew) (fun _ _ h hb => below_step h h.size hb) ?_
      iterate 8 (apply slot_eq; · (intro ρ w' ⟨p1, p2, p3⟩ hbl hn; obtain ⟨⟨c1, c2, c3, c4, c5, c6⟩, ⟨d1, d2, d3, d4, d5, d6⟩⟩ := HE.out w' hbl; simp at hn; go_simp; exact ⟨Below.refl _ _, rfl⟩))
      apply slot_eq
      · intro ρ w' ⟨p1, p2, p3⟩ hbl hn
        simp at hn
        obtain ⟨e1, e2⟩ := hn
        go_simp
        exact got_call (HC.out w') fun e w'' ⟨he, hb⟩ => ⟨_, he, hb, rfl⟩
      apply slot_eq
      · intro ρ w' ⟨p1, p2, p3⟩ hbl hn
        simp at hn
        go_simp
        exact ⟨Below.refl _ _, rfl⟩
      refine slot_end ?_
      intro vs w3 hS hF
      simp at hF
      obtain ⟨h26, -⟩ := hF
      have HB3 := Lib.hid (below_step HB.out HB.out.size hS)
      clear hS
      simp only [List.take_succ_cons, List.take_zero, List.drop_succ_cons, List.drop_zero, putAll, h26]
      clear h26
      simp only [Act.put, List.setIfInBounds_toArray, List.set_cons_succ, List.set_cons_zero]
      go_wp2
      exact ⟨⟨k + 1, by omega, by go_num, HB3⟩, by simp [intOf]; omega⟩
    · obtain rfl : k = n := by omega
      go_wp2
      go_ret
      exact ⟨rfl, HB.out⟩

set_option maxHeartbeats 4000000 in
theorem markActS_any (lo hi n cap : Nat) (a : Option Addr) (k : Int) (xs : List Ac) (w : World) (hn : xs.length = n) (hm : n ≤ 1048576) (h0 : 0 ≤ k) (h1 : k ≤ 1099511627776) (ho : OwnAs w lo hi a xs) :
    Calls Try.prog 13 #[.slice a n cap, .int .i64 k] w fun e w' => e = .returned (.int .i64 (k + 6 * n)) ∧ Only (Span lo hi) w w' := by
  by_cases hz : n = 0
  · subst hz
    clear ho hn
    go_enter Try.func13, Try.ntmps13
    go_wp2
    go_loopw [1, 5] (fun l i wr => i = .int .i64 0 ∧ l = .int .i64 k ∧ wr = w) (fun _ _ _ => 0)
    case atStart => exact ⟨rfl, rfl, rfl⟩
    case round =>
      obtain ⟨rfl, rfl, rfl⟩ := hrel
      go_wp2
      go_ret
      exact ⟨by simp, Only.refl _ _⟩
  · obtain ⟨b, N, f0, rfl, hlo, hhi, hrow, hN, -⟩ : ∃ b N f, a = some ⟨b, 0, none⟩ ∧ lo ≤ b ∧ b < hi ∧ w.rowIs b 44 N f ∧ N = xs.length * 6 ∧ ∀ j, j < N → f j = acFill xs xs.length j := by
      rcases ho with h | h
      · rw [h] at hn
        exact absurd hn.symm hz
      · exact h
    rw [hn] at hN
    subst hN
    have HROW := Lib.hid hrow
    clear ho hrow
    go_enter Try.func13, Try.ntmps13
    go_wp2
    go_loopw [1, 5] (fun l i wr => ∃ (j : Nat) (f : Nat → Value), j ≤ n ∧ i = .int .i64 j ∧ l = .int .i64 (k + 6 * j) ∧ Hid (wr.rowIs b 44 (n * 6) f) ∧ Hid (Only (Span lo hi) w wr)) (fun _ i _ => n - (intOf i).toNat)
    case atStart => exact ⟨0, f0, Nat.zero_le _, rfl, by simp, HROW, Only.refl _ _⟩
    case round =>
      obtain ⟨j, f, hj, rfl, rfl, HA, HL⟩ := hrel
      by_cases hj' : j < n
      · have i1 : (0 : Int) ≤ (j : Int) := by omega
        have i2 : (j : Int) < (n : Int) := by omega
        obtain ⟨m, hm2⟩ : ∃ m : Int, m = k + 6 * j := ⟨_, rfl⟩
        have m0 : 0 ≤ m := by omega
        have m1 : m ≤ 1099520000000 := by omega
        have d0 := HA.out.cell (i := j * 6) (by omega)
        have d1 := HA.out.cell (i := j * 6 + 1) (by omega)
        have d2 := HA.out.cell (i := j * 6 + 2) (by omega)
        have d3 := HA.out.cell (i := j * 6 + 3) (by omega)
        have d4 := HA.out.cell (i := j * 6 + 4) (by omega)
        have d5 := HA.out.cell (i := j * 6 + 5) (by omega)
        have fz := HA.out.frozen
        have HP := Lib.hid ((((((HA.out.set (j * 6) (.int .i64 m)).set (j * 6 + 1) (.int .i64 (m + 1))).set (j * 6 + 2) (.int .i64 (m + 1 + 1))).set (j * 6 + 3) (.int .i64 (m + 1 + 1 + 1))).set (j * 6 + 4) (.int .i64 (m + 1 + 1 + 1 + 1))).set (j * 6 + 5) (.int .i64 (m + 1 + 1 + 1 + 1 + 1)))
        have HL2 := Lib.hid (((((((HL.out.set (b := b) ⟨hlo, hhi⟩ (j * 6) (.int .i64 m)).set (b := b) ⟨hlo, hhi⟩ (j * 6 + 1) (.int .i64 (m + 1))).set (b := b) ⟨hlo, hhi⟩ (j * 6 + 2) (.int .i64 (m + 1 + 1))).set (b := b) ⟨hlo, hhi⟩ (j * 6 + 3) (.int .i64 (m + 1 + 1 + 1))).set (b := b) ⟨hlo, hhi⟩ (j * 6 + 4) (.int .i64 (m + 1 + 1 + 1 + 1))).set (b := b) ⟨hlo, hhi⟩ (j * 6 + 5) (.int .i64 (m + 1 + 1 + 1 + 1 + 1))))
        rw [← hm2]
        have HM := Lib.hid hm2
        clear hm2 HA HL
        go_wp2
        exact ⟨⟨j + 1, _, by omega, by go_num, by have := HM.out; go_num, HP, HL2⟩, by simp [intOf]; omega⟩
      · obtain rfl : j = n := by omega
        go_wp2
        go_ret
        exact ⟨rfl, HL.out⟩

end Go.Proofs.Ytobcefkjoojflaa

namespace Go.Proofs.Ytobcefkjoojflaa
open Go.ChangeShapes Go.WideShapes Go.ChangeAt Go.RowKit Go.Joins
set_option maxRecDepth 100000
attribute [local go_sem ↓] Go.wp_at_zero Go.wp_at_succ

set_option maxHeartbeats 8000000 in
theorem copyWrites_any (a : Option Addr) (n cap : Nat) (ws : List Wr) (w : World) (hn : ws.length = n) (hm : n ≤ 1048576) (hx : Few ws) (hh : IsWs w a ws) :
    Calls Try.prog 32 #[.slice a n cap] w fun e w' => ∃ v es, e = .returned v ∧ es.map (·.x) = ws ∧ RowG w' w.heap.size v es ∧ Below w.heap.size w w' := by
  have HH := Lib.hid hh
  have HN := Lib.hid hn
  have HX := Lib.hid hx
  clear hh hn hx
  obtain ⟨i0, hi0, hx0⟩ := Option.map_eq_some_iff.1 infoWr
  simp only [Prod.mk.injEq] at hx0
  have HI0 := Lib.hid hi0
  have HX0 := Lib.hid hx0
  clear hi0 hx0
  go_enter Try.func32, Try.ntmps32
  go_wp2
  go_loopw [3, 8] (fun t i wr => ∃ (k : Nat) (v : Value) (es : List EnG), k ≤ n ∧ es.length = k ∧ i = .int .i64 k ∧ v = t ∧ Hid (es.map (·.x) = ws.take k) ∧ Hid (RowG wr w.heap.size v es) ∧ Hid (Below w.heap.size w wr)) (fun _ i _ => n - (intOf i).toNat)
  case atStart => exact ⟨0, _, [], Nat.zero_le _, rfl, rfl, rfl, rfl, rowG_nil _ _, Below.refl _ _⟩
  case round =>
    obtain ⟨k, v, es, hk, hek, rfl, rfl, HE, HR, HB⟩ := hrel
    by_cases hk' : k < n
    · have hkw : k < ws.length := by rw [HN.out]; exact hk'
      have i1 : (0 : Int) ≤ (k : Int) := by omega
      have i2 : (k : Int) < (n : Int) := by omega
      obtain ⟨b, o, ad, cq, rfl, hz, ⟨e0, e1, e2, e3, e4, e5, e6⟩, hde⟩ := HH.out.at HB.out HN.out hk'
      have HFT : Hid (ws.take (k + 1) = ws.take k ++ [ws.getD k wz]) := by
        show _ = _
        rw [List.take_add_one, List.getElem?_eq_getElem hkw]
        simp [List.getD, hkw]
      have hxl := HX.out k hkw
      have HD := Lib.hid hde
      clear hde
      generalize ws.getD k wz = x at *
      obtain ⟨yk, yc, ys, yq, yv, yd, yy⟩ := x
      simp only at e0 e1 e2 e3 e4 e5 e6 hxl HD
      have HBA : Hid (Below wr.heap.size wr (wr.alloc (.cells #[.int .i64 yk, .int .i64 yc, .int .i64 ys, .int .i64 yq, .int .i64 yv, .bool yd, .slice ad yy.length cq] 66))) := (Below.refl _ _).alloc (Nat.le_refl _) _
      have HB2 := Lib.hid (below_step HB.out HB.out.size HBA.out)
      have HD2 := Lib.hid (HD.out.below HBA.out)
      have HR1 := Lib.hid (HR.out.below HBA.out)
      have hzz : wr.heap.size < (wr.alloc (.cells #[.int .i64 yk, .int .i64 yc, .int .i64 ys, .int .i64 yq, .int .i64 yv, .bool yd, .slice ad yy.length cq] 66)).heap.size := by simp
      go_upto_region 5 with fail
      have cc : ∀ (W : World) r u, (#[Value.int .i64 yk, .int .i64 yc, .int .i64 ys, .int .i64 yq, .int .i64 yv, .bool yd, .slice ad yy.length cq] : Array Value)[r]? = some u → (wr.alloc (.cells #[.int .i64 yk, .int .i64 yc, .int .i64 ys, .int .i64 yq, .int .i64 yv, .bool yd, .slice ad yy.length cq] 66)).cell? ⟨wr.heap.size, r, none⟩ = some u := fun W r u h => by rw [cell_of_row _ _ r _ _ (0, 0) (heap_alloc_new wr _)]; exact h
      have c0 := cc wr 0 _ rfl
      have c1 := cc wr 1 _ rfl
      have c2 := cc wr 2 _ rfl
      have c3 := cc wr 3 _ rfl
      have c4 := cc wr 4 _ rfl
      have c5 := cc wr 5 _ rfl
      have c6 := cc wr 6 _ rfl
      clear cc e0 e1 e2 e3 e4 e5 e6 HBA
      generalize wr.alloc (.cells #[.int .i64 yk, .int .i64 yc, .int .i64 ys, .int .i64 yq, .int .i64 yv, .bool yd, .slice ad yy.length cq] 66) = w1 at *
      go_wp2_with fail
      refine (icopy_any ⟨yk, yc, ys, yq, yv, yd, yy⟩ ad cq _ hxl HD2.out).mono ?_
      rintro e w2 ⟨a2, g2, cp2, rfl, hg, hb⟩
      have HB3 : Hid (Below w.heap.size w w2) := below_step HB2.out HB2.out.size hb
      have HG : Hid (FreshDeps wr.heap.size w2 a2 g2 yy) := hg.mono (Nat.le_of_lt hzz)
      have HR2 : Hid (RowG w2 w.heap.size v es) := HR1.out.below hb
      have hwr : w.heap.size ≤ wr.heap.size := HB.out.size
      have HAP : Hid (∀ d ∈ es, 0 < d.x.xs.length → 0 < yy.length → d.g ≠ g2) := fun d hd hp hq => by
        have h1 := ((HR.out.deps d hd).1 hp).2.2.1
        have h2 := (HG.out hq).2.1
        omega
      have HV : Hid (0 < yy.length → v.ownBlock ≠ some g2) := fun hq e => by
        have h1 := (HR.out.own.lt g2 e).2
        have h2 := (HG.out hq).2.1
        omega
      clear hb hg c0 c1 c2 c3 c4 c5 c6
      have HBC : Hid (Below w2.heap.size w2 (w2.alloc (.cells #[.int .i64 yk, .int .i64 yc, .int .i64 ys, .int .i64 yq, .int .i64 yv, .bool yd, .slice a2 yy.length cp2] 66))) := (Below.refl _ _).alloc (Nat.le_refl _) _
      have HRC := Lib.hid (HR2.out.below HBC.out)
      have hsz : w.heap.size ≤ w2.heap.size := HB3.out.size
      go_wp2_with (at_builtin; refine wpList_append_lies _ (by rfl) _ _ _ (by rfl) w.heap.size 66 i0 (wrV 0 0 0 0 0 false none 0 0) 7 72 Try.underlying45 HI0.out HX0.out.1 HX0.out.2.1 HX0.out.2.2 (by rfl) (by omega) v es.length (es.flatMap wrValsG) (by rfl) HRC.out.own ⟨w2.heap.size, 0, none⟩ 1 1 (wrValsG ⟨⟨yk, yc, ys, yq, yv, yd, yy⟩, a2, g2, cp2⟩) (by rfl) (by rfl) (oneG_cells w2 _ ⟨⟨yk, yc, ys, yq, yv, yd, yy⟩, a2, g2, cp2⟩) (by simpa using valsG_one [⟨⟨yk, yc, ys, yq, yv, yd, yy⟩, a2, g2, cp2⟩]) (by omega) (by unfold maxLen; omega) (by omega) (by simp; omega) _ rfl ?_; intro g3 cp3 w5 hown hgrow hg3 _; refine Hid.out ?_)
      refine Lib.hid ?_
      have HB5 : Hid (Below w.heap.size w w5) := (HB3.out.alloc hsz _).grown hgrow (by simp; omega) fun j hj => (HR2.out.own.lt j hj).1
      have HR5 : Hid (RowG w5 w.heap.size (.slice (some ⟨g3, 0, none⟩) (es.length + 1) cp3) (es ++ [⟨⟨yk, yc, ys, yq, yv, yd, yy⟩, a2, g2, cp2⟩])) :=
        HRC.out.more ((HG.out.below HBC.out).mono hwr) HV.out HAP.out hown hgrow hg3
      have HE5 : Hid ((es ++ [(⟨⟨yk, yc, ys, yq, yv, yd, yy⟩, a2, g2, cp2⟩ : EnG)]).map (·.x) = ws.take (k + 1)) := by
        rw [HFT.out, List.map_append, HE.out]
        exact Lib.hid rfl
      have hl5 : (es ++ [(⟨⟨yk, yc, ys, yq, yv, yd, yy⟩, a2, g2, cp2⟩ : EnG)]).length = k + 1 := by simp; omega
      rw [hek] at HR5
      clear hown hgrow HRC HBC
      go_wp2
      exact ⟨⟨k + 1, _, _, by omega, hl5, by go_num, rfl, HE5, HR5, HB5⟩, by simp [intOf]; omega⟩
    · have hkk : k = n := by omega
      subst hkk
      have HF : Hid (es.map (·.x) = ws) := by
        have h := HE.out
        rw [List.take_of_length_le (by rw [HN.out]; exact Nat.le_refl _)] at h
        exact h
      go_wp2
      go_ret
      exact ⟨_, es, rfl, HF.out, HR.out, HB.out⟩

end Go.Proofs.Ytobcefkjoojflaa
