/- The draws of RingOf and Prefer. -/
import Derived.Test.YtofejfmfbifphacDoorRingD
namespace Go.Proofs.YtofejfmfbifphacDoor
open Go.ChangeShapes Go.WideShapes Go.ChangeAt Go.RowKit Go.Joins

/-- What one operation with the cursor may do: three numbers drawn at most. -/
def CurQ (B : Nat) (a : Option Addr) (len cap : Nat) (w w' : World) : Prop := Hole B w w' ∧ ∀ K : Int, K ≤ 100000 → Cur w B a len cap K → Cur w' B a len cap (K + 3)

def CurT (w3 : World) (B : Nat) (a : Option Addr) (len cap : Nat) (M : Int) (f : Nat) (w' : World) : Prop := Hole B w3 w' ∧ Cur w' B a len cap (M - 3 * f) ∧ M ≤ 100000

def CurL (w3 : World) (B : Nat) (a : Option Addr) (len cap : Nat) (M : Int) (w' : World) : Prop := Hole B w3 w' ∧ Cur w' B a len cap M

set_option maxRecDepth 100000 in
theorem curT_step {w3 : World} {B : Nat} {a : Option Addr} {len cap : Nat} {M : Int} (f : Nat) (w w' : World) (h : CurT w3 B a len cap M (f + 1) w) (hr : CurQ B a len cap w w') : CurT w3 B a len cap M f w' :=
  ⟨h.1.trans hr.1, (hr.2 _ (by have := h.2.2; omega) h.2.1).more (by push_cast; omega), h.2.2⟩

set_option maxRecDepth 100000 in
theorem curT_any {w3 : World} {B : Nat} {a : Option Addr} {len cap : Nat} {M : Int} {f : Nat} {w : World} (h : CurT w3 B a len cap M f w) : CurL w3 B a len cap M w := ⟨h.1, h.2.1.more (by omega)⟩

set_option maxRecDepth 100000 in
theorem curT_start {w : World} {B : Nat} {a : Option Addr} {len cap : Nat} {M : Int} (n : Nat) (hM : M ≤ 100000) (h : Cur w B a len cap (M - 3 * n)) : CurT w B a len cap M n w.drew := ⟨(Hole.refl _ _).drew, h.below (Below.refl _ _).drew, hM⟩

set_option maxRecDepth 100000 in
theorem curQ_refl (B : Nat) (a : Option Addr) (len cap : Nat) (w : World) : CurQ B a len cap w w := ⟨Hole.refl _ _, fun _ _ h => h.more (by omega)⟩

set_option maxRecDepth 100000 in
theorem curQ_alloc (B : Nat) (a : Option Addr) (len cap : Nat) (w : World) (o : Obj) : CurQ B a len cap w (w.alloc o) := ⟨(Hole.refl _ _).alloc o, fun _ _ h => (h.below ((Below.refl _ _).alloc (Nat.le_refl _) o)).more (by omega)⟩

set_option maxRecDepth 100000 in
theorem pick_curQ (B : Nat) (a : Option Addr) (len cap : Nat) (M n : Int) (w : World) (hM : M ≤ 100000) (hn : 2 ≤ n) (hn' : n ≤ 1000) (h : Cur w B a len cap M) :
    Calls Tryd.prog 16 #[.pointer (some ⟨B, 0, none⟩), .int .i64 n] w fun e w' => ∃ r : Nat, e = .returned (.int .i64 (r : Int)) ∧ (r : Int) < n ∧ CurQ B a len cap w w' := by
  obtain ⟨at_, seed, hc, hN', hk, hl⟩ := h
  have h0 : Cur w B a len cap at_ := ⟨at_, seed, hc, Int.le_refl _, hk, hl⟩
  refine (pick_any B a len cap at_ n w (by omega) hn (by omega) h0).mono ?_
  rintro e w' ⟨r, rfl, r0, r1, hc', hh⟩
  refine ⟨r.toNat, by rw [Int.toNat_of_nonneg r0], by omega, hh, fun K _ hK => hc'.more ?_⟩
  obtain ⟨at2, seed2, hc2, h2, _⟩ := hK
  have e1 : at2 = at_ := by
    have h3 := hc2.c1
    rw [hc.c1] at h3
    injection h3 with h3
    injection h3 with _ h3
    exact h3.symm
  omega

set_option maxRecDepth 100000 in
theorem raw_curQ (B : Nat) (a : Option Addr) (len cap : Nat) (M : Int) (w : World) (hM : M ≤ 100000) (h : Cur w B a len cap M) :
    Calls Tryd.prog 15 #[.pointer (some ⟨B, 0, none⟩)] w fun e w' => ∃ r : Int, e = .returned (.int .i64 r) ∧ CurQ B a len cap w w' := by
  obtain ⟨at_, seed, hc, hN', hk, hl⟩ := h
  have h0 : Cur w B a len cap at_ := ⟨at_, seed, hc, Int.le_refl _, hk, hl⟩
  refine (raw_any B a len cap at_ w (by omega) h0).mono ?_
  rintro e w' ⟨r, rfl, hc', hh⟩
  refine ⟨r, rfl, hh, fun K _ hK => hc'.more ?_⟩
  obtain ⟨at2, seed2, hc2, h2, _⟩ := hK
  have e1 : at2 = at_ := by
    have h3 := hc2.c1
    rw [hc.c1] at h3
    injection h3 with h3
    injection h3 with _ h3
    exact h3.symm
  omega

def IntF : Fact := fun v _ => ∃ r : Int, v = .int .i64 r

def LessF (n : Int) : Fact := fun v _ => ∃ r : Nat, v = .int .i64 (r : Int) ∧ (r : Int) < n

/-- A row of numbers that was laid. -/
def LaidI (lo n : Nat) (b : Nat) (w : World) : Prop := lo ≤ b ∧ ∃ cs : Array Value, w.heap[b]? = some (.cells cs 3 (0, 0)) ∧ ∀ i, i < n → ∃ z : Int, cs[i]? = some (.int .i64 z)

def BuiltF (lo n : Nat) : Fact := fun v w => ∃ b, v = .slice (some ⟨b, 0, none⟩) n n ∧ LaidI lo n b w

def PtrF (lo n : Nat) : Fact := fun v w => ∃ b q, v = .pointer (some ⟨b, q, none⟩) ∧ q < n ∧ LaidI lo n b w

set_option maxRecDepth 100000 in
theorem LaidI.step {lo n b B : Nat} {a : Option Addr} {len cap : Nat} {w w' : World} (h : LaidI lo n b w) (hr : CurQ B a len cap w w') (hB : B < lo) : LaidI lo n b w' := by
  obtain ⟨h1, cs, h2, h3⟩ := h
  exact ⟨h1, cs, (hr.1.block b (Array.getElem?_eq_some_iff.1 h2).1 (by omega)).trans h2, h3⟩

set_option maxRecDepth 100000 in
theorem LaidI.cell {lo n b : Nat} {w : World} (h : LaidI lo n b w) {i : Nat} (hi : i < n) : ∃ z : Int, w.cell? ⟨b, i, none⟩ = some (.int .i64 z) := by
  obtain ⟨_, cs, h2, h3⟩ := h
  obtain ⟨z, hz⟩ := h3 i hi
  exact ⟨z, (cell_of_row _ _ i _ _ (0, 0) h2).trans hz⟩

set_option maxRecDepth 100000 in
theorem lasts_built (lo n B : Nat) (a : Option Addr) (len cap : Nat) (hB : B < lo) : lasts (CurQ B a len cap) (BuiltF lo n) := by
  rintro v w w' ⟨b, h1, h2⟩ hr
  exact ⟨b, h1, h2.step hr hB⟩

set_option maxRecDepth 100000 in
theorem lasts_ptr (lo n B : Nat) (a : Option Addr) (len cap : Nat) (hB : B < lo) : lasts (CurQ B a len cap) (PtrF lo n) := by
  rintro v w w' ⟨b, q, h1, h0, h2⟩ hr
  exact ⟨b, q, h1, h0, h2.step hr hB⟩

set_option maxRecDepth 100000 in
theorem laid4 (w : World) (lo : Nat) (r : Int) (h : lo ≤ w.heap.size) : LaidI lo 4 w.heap.size (w.alloc (.cells #[.int .i64 1, .int .i64 3, .int .i64 6, .int .i64 r] 3)) :=
  ⟨h, _, heap_alloc_new w _, fun i hi => by
    match i, hi with
    | 0, _ => exact ⟨_, rfl⟩
    | 1, _ => exact ⟨_, rfl⟩
    | 2, _ => exact ⟨_, rfl⟩
    | 3, _ => exact ⟨_, rfl⟩⟩

set_option maxRecDepth 100000 in
theorem laid2 (w : World) (lo : Nat) (q r : Int) (h : lo ≤ w.heap.size) : LaidI lo 2 w.heap.size (w.alloc (.cells #[.int .i64 q, .int .i64 r] 3)) :=
  ⟨h, _, heap_alloc_new w _, fun i hi => by
    match i, hi with
    | 0, _ => exact ⟨_, rfl⟩
    | 1, _ => exact ⟨_, rfl⟩⟩

set_option maxRecDepth 100000 in
set_option maxHeartbeats 4000000 in
theorem drawRingOf_any (a : Option Addr) (len cap : Nat) (w : World) (h : Bytes w a len) (hl : len ≤ 1048576) :
    Calls Tryd.prog 5 #[.slice a len cap] w fun e w' => ∃ v zs z, e = .returned (.tuple #[v, .int .i64 z]) ∧ RowI w' w.heap.size v zs ∧ zs.length ≤ 9 ∧ Below w.heap.size w w' := by
  have HO := Lib.hid (open_any a len cap w h hl)
  clear h
  go_enter Tryd.func5, Tryd.ntmps5
  go_wp2_with fail
  refine HO.out.mono ?_
  rintro e w1 ⟨rfl, hc1, hb1⟩
  have HC1 := Lib.hid hc1
  have HB1 := Lib.hid hb1
  have hlt1 := hc1.lt
  clear hc1 hb1 HO
  go_wp2_with fail
  refine (nodes_any w.heap.size a len cap 0 _ (by omega) HC1.out).mono ?_
  rintro e w2 ⟨v, zs, rfl, hr, hzl, hc2, hh2⟩
  have HR2 := Lib.hid hr
  have HC2 := Lib.hid hc2
  have HH2 := Lib.hid hh2
  have hs2 : w1.heap.size ≤ w2.heap.size := hh2.size
  clear hr hc2 hh2 HC1
  have HC3 : Hid (Cur w2 w.heap.size a len cap (1000 - 3 * (10 : Nat))) := HC2.out.more (by omega)
  go_wp2_with fail
  refine wp_region_slots_n 10 [[(5, false)], [(4, false)], [(11, true)], [(12, true)], [(4, false)], [(14, true)], [(13, true), (15, true)], [(16, true)], [(10, true)], [(17, true)]] (CurL w2 w.heap.size a len cap 1000) (CurL w2 w.heap.size a len cap 1000) (CurT w2 w.heap.size a len cap 1000) (CurQ w.heap.size a len cap) (by kernel_rfl) (by kernel_rfl) (by rfl) (curT_start _ (by omega) HC3.out) curT_step (fun _ _ _ h => curT_any h) (fun _ _ _ h => curT_any h) ?_
  iterate 2 (apply slot_eq; · (intro ρ w' ⟨p1, p2, p3⟩ ⟨hH, hC⟩ hn; simp at hn; go_simp; exact ⟨curQ_refl _ _ _ _ _, rfl⟩))
  refine slot_fact IntF (fun _ _ _ h _ => h) ?_ ?_
  · intro ρ w' ⟨p1, p2, p3⟩ ⟨hH, hC⟩ hn
    simp at hn
    go_simp
    exact got_call (raw_curQ w.heap.size a len cap _ _ (by omega) hC) fun e w'' ⟨r, he, h1⟩ => ⟨_, he, h1, r, rfl⟩
  refine slot_fact (BuiltF w1.heap.size 4) (lasts_built _ _ _ _ _ _ hlt1) ?_ ?_
  · intro ρ w' ⟨p1, p2, p3⟩ ⟨hH, hC⟩ hn
    simp at hn
    obtain ⟨r, f12⟩ := hn
    have hsz := hH.size
    go_simp
    exact ⟨curQ_alloc _ _ _ _ _ _, _, rfl, laid4 w' _ r (by omega)⟩
  apply slot_eq
  · intro ρ w' ⟨p1, p2, p3⟩ ⟨hH, hC⟩ hn
    simp at hn
    go_simp
    exact ⟨curQ_refl _ _ _ _ _, rfl⟩
  refine slot_fact (LessF 4) (fun _ _ _ h _ => h) ?_ ?_
  · intro ρ w' ⟨p1, p2, p3⟩ ⟨hH, hC⟩ hn
    simp at hn
    go_simp
    exact got_call (pick_curQ w.heap.size a len cap _ 4 _ (by omega) (by omega) (by omega) hC) fun e w'' ⟨r, he, hr, h1⟩ => ⟨_, he, h1, r, rfl, hr⟩
  refine slot_fact (PtrF w1.heap.size 4) (lasts_ptr _ _ _ _ _ _ hlt1) ?_ ?_
  · intro ρ w' ⟨p1, p2, p3⟩ ⟨hH, hC⟩ hn
    simp at hn
    obtain ⟨⟨b, f13, hL⟩, q, f15, hq⟩ := hn
    have i1 : (0 : Int) ≤ (q : Int) := by omega
    go_simp
    exact ⟨curQ_refl _ _ _ _ _, b, q, rfl, by omega, hL⟩
  refine slot_fact IntF (fun _ _ _ h _ => h) ?_ ?_
  · intro ρ w' ⟨p1, p2, p3⟩ ⟨hH, hC⟩ hn
    simp at hn
    obtain ⟨b, q, f16, hq, hL⟩ := hn
    obtain ⟨z, hz⟩ := hL.cell hq
    go_simp
    exact ⟨curQ_refl _ _ _ _ _, z, rfl⟩
  apply slot_eq
  · intro ρ w' ⟨p1, p2, p3⟩ ⟨hH, hC⟩ hn
    simp at hn
    go_simp
    exact ⟨curQ_refl _ _ _ _ _, rfl⟩
  refine slot_fact IntF (fun _ _ _ h _ => h) ?_ ?_
  · intro ρ w' ⟨p1, p2, p3⟩ ⟨hH, hC⟩ hn
    simp at hn
    obtain ⟨z, f17⟩ := hn
    go_simp
    exact ⟨curQ_refl _ _ _ _ _, z, rfl⟩
  refine slot_end ?_
  rintro tv w5 ⟨hH, hC⟩ hF
  simp at hF
  obtain ⟨⟨z, f3⟩, f2, ⟨z17, f17⟩, ⟨b16, q16, f16, -⟩, ⟨q15, f15, -⟩, f14, ⟨b13, f13, -⟩, ⟨z12, f12⟩, f11, f10⟩ := hF
  have HR5 := Lib.hid ((HR2.out.hole hH hlt1).mono (base' := w.heap.size) (by have := HB1.out.size; omega))
  have HB5 : Hid (Below w.heap.size w w5) := Hole.below HB1.out (HH2.out.trans hH) (Nat.le_refl _) HB1.out.size
  simp only [List.take_succ_cons, List.take_zero, List.drop_succ_cons, List.drop_zero, putAll, f3, f2, f17, f16, f15, f14, f13, f12, f11, f10]
  clear f3 f2 f17 f16 f15 f14 f13 f12 f11 f10 hH hC
  simp only [Act.put, List.setIfInBounds_toArray, List.set_cons_succ, List.set_cons_zero]
  go_wp2
  exact bodyPost_ret (v := .tuple #[v, .int .i64 z]) (by simp [results, Tryd.results5, go_sem]) rfl ⟨_, zs, z, rfl, HR5.out, hzl, HB5.out⟩

end Go.Proofs.YtofejfmfbifphacDoor
