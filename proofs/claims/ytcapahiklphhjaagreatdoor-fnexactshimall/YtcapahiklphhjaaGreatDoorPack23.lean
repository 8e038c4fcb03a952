import Derived.Test.YtcapahiklphhjaaGreatDoorPack22
import Derived.Test.YtcapahiklphhjaaGreatDoorPack3
import Derived.Lib.RabinKarpLaws
import Derived.Test.YtcapahiklphhjaaGreatDoorPack14
import Derived.Test.YtcapahiklphhjaaGreatDoorPack20
import Derived.Test.YtcapahiklphhjaaGreatDoorPack13
import Derived.Test.YtcapahiklphhjaaGreatDoorPack21
import Derived.Test.YtcapahiklphhjaaGreatDoorPack9
/- The program's causes: contracts of wants, add, told and of impl.Because. -/
namespace Go.Proofs.YtcapahiklphhjaaGreatDoor
open Go.ChangeShapes Go.WideShapes Go.ChangeAt Go.RowKit Go.Joins
attribute [local go_sem ↓] Go.wp_at_zero Go.wp_at_succ

set_option maxRecDepth 100000 in
set_option maxHeartbeats 2000000 in
theorem wants_any (mask : Int) (x : Wr) (a : Option Addr) (cp : Nat) (w : World) (h0 : 0 ≤ mask) (h1 : mask ≤ 9223372036854775807) (hk : 0 ≤ x.k ∧ x.k ≤ 5) :
    Calls Tryz.prog 69 #[.int .i64 mask, wrOf x a cp] w fun e w' => e = .returned (.bool (bitB mask x.k)) ∧ Below w.heap.size w w' := by
  obtain ⟨xk, xc, xs', xq, xv, xd, xx⟩ := x
  simp only at hk ⊢
  obtain ⟨k, rfl⟩ : ∃ k : Nat, xk = (k : Int) := ⟨xk.toNat, by omega⟩
  have hp : (0 : Int) < 2 ^ k := Int.pow_pos (by omega)
  have hd0 : 0 ≤ mask / 2 ^ k := Int.ediv_nonneg h0 (by omega)
  have hd1 : mask / 2 ^ k ≤ mask := Int.ediv_le_self _ h0
  have k0 : (0 : Int) ≤ (k : Int) := by omega
  have hand : bits BinOp.and IntKind.i64 (mask / 2 ^ k) 1 = mask / 2 ^ k % 2 := by
    have := and_one (mask / 2 ^ k).toNat (by omega)
    rw [Int.toNat_of_nonneg hd0] at this
    rw [this]
    omega
  have hb : bitB mask (k : Int) = decide (mask / 2 ^ k % 2 = 1) := rfl
  rw [hb]
  clear hb
  have HB : Hid (Below w.heap.size w (w.alloc (.cells #[.int .i64 (k : Int), .int .i64 xc, .int .i64 xs', .int .i64 xq, .int .i64 xv, .bool xd, .slice a xx.length cp] 37))) := (Below.refl _ _).alloc (Nat.le_refl _) _
  unfold wrOf
  go_enter Tryz.func69, Tryz.ntmps69
  go_wp2
  go_ret
  exact ⟨rfl, HB.out⟩

/-- One number of a tag. -/
def tgN (t : Tg) : Nat → Int
  | 0 => t.c
  | 1 => t.s
  | _ => t.q

def fillT (ts : List Tg) (j : Nat) : Value := .int .i64 (tgN (ts.getD (j / 3) tgz) (j % 3))

theorem fillT_0 (ts : List Tg) (k : Nat) : fillT ts (k * 3) = .int .i64 (ts.getD k tgz).c := by
  unfold fillT
  have h1 : k * 3 / 3 = k := by omega
  have h2 : k * 3 % 3 = 0 := by omega
  rw [h1, h2]
  rfl

theorem fillT_1 (ts : List Tg) (k : Nat) : fillT ts (k * 3 + 1) = .int .i64 (ts.getD k tgz).s := by
  unfold fillT
  have h1 : (k * 3 + 1) / 3 = k := by omega
  have h2 : (k * 3 + 1) % 3 = 1 := by omega
  rw [h1, h2]
  rfl

theorem fillT_2 (ts : List Tg) (k : Nat) : fillT ts (k * 3 + 2) = .int .i64 (ts.getD k tgz).q := by
  unfold fillT
  have h1 : (k * 3 + 2) / 3 = k := by omega
  have h2 : (k * 3 + 2) % 3 = 2 := by omega
  rw [h1, h2]
  rfl

/-- A tag stored as a whole. -/
def putT (w : World) (b o : Nat) (c s q : Int) : World := ((w.setCell ⟨b, o, none⟩ (.int .i64 c)).setCell ⟨b, o + 1, none⟩ (.int .i64 s)).setCell ⟨b, o + 2, none⟩ (.int .i64 q)

theorem hole_putT {B : Nat} {w w' : World} (h : Hole B w w') (o : Nat) (c s q : Int) : Hole B w (putT w' B o c s q) := ((h.set o _).set (o + 1) _).set (o + 2) _

theorem row_putT {w : World} {b t : Nat} {ts : List Tg} (h : w.rowIs b t 18 (fillT ts)) (hl : ts.length = 6) {k : Nat} (hk : k < 6) (c s q : Int) : (putT w b (k * 3) c s q).rowIs b t 18 (fillT (ts.set k ⟨c, s, q⟩)) := by
  refine (((h.set (k * 3) _).set (k * 3 + 1) _).set (k * 3 + 2) _).congr fun j hj => ?_
  by_cases e : j / 3 = k
  · have hg : (ts.set k ⟨c, s, q⟩).getD (j / 3) tgz = ⟨c, s, q⟩ := by
      rw [e]
      simp [List.getD, hl, hk]
    unfold fillT
    rw [hg]
    have h3 : j % 3 = 0 ∨ j % 3 = 1 ∨ j % 3 = 2 := by omega
    rcases h3 with h3 | h3 | h3
    · rw [if_neg (by omega), if_neg (by omega), if_pos (by omega), h3]
      rfl
    · rw [if_neg (by omega), if_pos (by omega), h3]
      rfl
    · rw [if_pos (by omega), h3]
      rfl
  · rw [if_neg (by omega), if_neg (by omega), if_neg (by omega)]
    unfold fillT
    have hg : (ts.set k ⟨c, s, q⟩).getD (j / 3) tgz = ts.getD (j / 3) tgz := by
      simp [List.getD, Ne.symm e]
    rw [hg]

theorem hole_grown {b : Nat} {w w' : World} (h : Hole b w w') : w.grownBy w' (some b) := ⟨h.os, h.tape, h.output, h.size, fun k hk hn => h.block k hk (fun e => hn (by rw [e]))⟩

theorem row_below {w w' : World} {b t n : Nat} {f : Nat → Value} (h : w.rowIs b t n f) (hb : Below w.heap.size w w') : w'.rowIs b t n f := h.of_block (hb.block b h.lt)

theorem putC_take (xs : List Dp) (ts : List Tg) (k : Nat) (h : k < xs.length) : (xs.take (k + 1)).foldl putC ts = putC ((xs.take k).foldl putC ts) (xs.getD k dz) := by
  have e : xs.take (k + 1) = xs.take k ++ [xs.getD k dz] := by
    rw [List.take_add_one, List.getElem?_eq_getElem h]
    simp [List.getD, h]
  rw [e, List.foldl_append]
  rfl

theorem putF_len : ∀ (xs : List Dp) (ts : List Tg), (xs.foldl putC ts).length = ts.length
  | [], _ => rfl
  | d :: r, ts => by
    have := putF_len r (putC ts d)
    rw [putC_len] at this
    exact this

set_option maxRecDepth 100000 in
set_option maxHeartbeats 8000000 in
theorem causAdd_any (b : Nat) (ts : List Tg) (a : Option Addr) (n cap : Nat) (xs : List Dp) (w : World) (hl : ts.length = 6) (hn : xs.length = n) (hm : n ≤ 1048576) (hok : ∀ d ∈ xs, 0 ≤ d.k ∧ d.k ≤ 5) (hi : IsDepsX b w a xs) (hr : w.rowIs b 96 18 (fillT ts)) :
    Calls Tryz.prog 80 #[.pointer (some ⟨b, 0, none⟩), .slice a n cap] w fun e w' => e = .returned (.tuple #[]) ∧ w'.rowIs b 96 18 (fillT (xs.foldl putC ts)) ∧ Hole b w w' := by
  have HI := Lib.hid hi
  have HN := Lib.hid hn
  have HO := Lib.hid hok
  have HR0 := Lib.hid hr
  have HL := Lib.hid hl
  clear hi hn hok hr hl
  go_enter Tryz.func80, Tryz.ntmps80
  go_wp2
  go_loopw [8] (fun i wr => ∃ k : Nat, k ≤ n ∧ i = .int .i64 k ∧ Hid (wr.rowIs b 96 18 (fillT ((xs.take k).foldl putC ts))) ∧ Hid (Hole b w wr)) (fun i _ => n - (intOf i).toNat)
  case atStart => exact ⟨0, Nat.zero_le _, rfl, HR0, Hole.refl _ _⟩
  case round =>
    clear HR0
    obtain ⟨k, hk, rfl, HR, HH⟩ := hrel
    by_cases hk' : k < n
    · have hkx : k < xs.length := by rw [HN.out]; exact hk'
      have i1 : (0 : Int) ≤ (k : Int) := by omega
      have i2 : (k : Int) < (n : Int) := by omega
      obtain ⟨g, o, rfl, hz, e0, e1, e2, e3⟩ := (HI.out.now (hole_grown HH.out)).at (Below.refl _ _) hkx
      have HT := Lib.hid (putC_take xs ts k hkx)
      have hkey := HO.out (xs.getD k dz) (by simp [List.getD, hkx])
      have HL2 : Hid (((xs.take k).foldl putC ts).length = 6) := by rw [putF_len]; exact HL
      generalize (xs.take k).foldl putC ts = us at *
      generalize xs.getD k dz = d at *
      obtain ⟨dk, dc, ds, dq⟩ := d
      simp only at e0 e1 e2 e3 HT hkey
      obtain ⟨kk, rfl⟩ : ∃ kk : Nat, dk = (kk : Int) := ⟨dk.toNat, by omega⟩
      have hk6 : kk < 6 := by omega
      have q1 : (0 : Int) ≤ (kk : Int) := by omega
      have q2 : (kk : Int) < 6 := by omega
      have HBA : Hid (Below wr.heap.size wr (wr.alloc (.cells #[.int .i64 (kk : Int), .int .i64 dc, .int .i64 ds, .int .i64 dq] 99))) := (Below.refl _ _).alloc (Nat.le_refl _) _
      have HRA := Lib.hid (row_below HR.out HBA.out)
      have HDA : Hid (DBox (wr.alloc (.cells #[.int .i64 (kk : Int), .int .i64 dc, .int .i64 ds, .int .i64 dq] 99)) wr.heap.size ⟨(kk : Int), dc, ds, dq⟩) := DBox.start wr ⟨(kk : Int), dc, ds, dq⟩ 99
      have HHA := Lib.hid (HH.out.alloc (.cells #[.int .i64 (kk : Int), .int .i64 dc, .int .i64 ds, .int .i64 dq] 99))
      have hbl : b < wr.heap.size := HR.out.lt
      have HC : Hid (∀ w', Below (wr.heap.size + 1) (wr.alloc (.cells #[.int .i64 (kk : Int), .int .i64 dc, .int .i64 ds, .int .i64 dq] 99)) w' → (w'.cell? ⟨b, kk * 3, none⟩ = some (.int .i64 (us.getD kk tgz).c) ∧ w'.cell? ⟨b, kk * 3 + 1, none⟩ = some (.int .i64 (us.getD kk tgz).s) ∧ w'.cell? ⟨b, kk * 3 + 2, none⟩ = some (.int .i64 (us.getD kk tgz).q)) ∧ DBox w' wr.heap.size ⟨(kk : Int), dc, ds, dq⟩) := fun w' hb => by
        have hzz : (wr.alloc (.cells #[.int .i64 (kk : Int), .int .i64 dc, .int .i64 ds, .int .i64 dq] 99)).heap.size = wr.heap.size + 1 := by simp
        have hb2 : Below (wr.alloc (.cells #[.int .i64 (kk : Int), .int .i64 dc, .int .i64 ds, .int .i64 dq] 99)).heap.size (wr.alloc (.cells #[.int .i64 (kk : Int), .int .i64 dc, .int .i64 ds, .int .i64 dq] 99)) w' := by rw [hzz]; exact hb
        have hr2 := row_below HRA.out hb2
        have c0 := hr2.cell (i := kk * 3) (by omega)
        have c1 := hr2.cell (i := kk * 3 + 1) (by omega)
        have c2 := hr2.cell (i := kk * 3 + 2) (by omega)
        rw [fillT_0] at c0
        rw [fillT_1] at c1
        rw [fillT_2] at c2
        exact ⟨⟨c0, c1, c2⟩, HDA.out.below hb2⟩
      have HPC : Hid (putC us ⟨(kk : Int), dc, ds, dq⟩ = if 0 < tcmp dc ds dq (us.getD kk tgz).c (us.getD kk tgz).s (us.getD kk tgz).q then us.set kk ⟨dc, ds, dq⟩ else us) := Lib.hid rfl
      generalize us.getD kk tgz = y at *
      obtain ⟨yc, ys, yq⟩ := y
      simp only at HC HPC
      go_wp2_with fail
      have hzz : (wr.alloc (.cells #[.int .i64 (kk : Int), .int .i64 dc, .int .i64 ds, .int .i64 dq] 99)).heap.size = wr.heap.size + 1 := by simp
      generalize (wr.alloc (.cells #[.int .i64 (kk : Int), .int .i64 dc, .int .i64 ds, .int .i64 dq] 99)) = V1 at *
      refine wp_region_slots 9 [[(5, false)], [(12, true)], [(0, false)], [(5, false)], [(15, true)], [(14, true)], [(17, true), (16, true)], [(18, true)], [(13, true), (19, true)]] (fun w' => Below V1.heap.size V1 w') (fun w w' => Below w.heap.size w w') (by kernel_rfl) (by kernel_rfl) (by rfl) ((Below.refl _ _).drew) (fun _ _ h hb => below_step h h.size hb) ?_
      rw [← hzz] at HC
      iterate 8 (apply slot_eq; · (intro ρ w' ⟨p1, p2, p3⟩ hbl hn; obtain ⟨⟨c0, c1, c2⟩, ⟨_, x0, x1, x2, x3, _⟩⟩ := HC.out w' hbl; simp at hn; go_simp; exact ⟨Below.refl _ _, rfl⟩))
      apply slot_eq
      · intro ρ w' ⟨p1, p2, p3⟩ hbl hn
        simp at hn
        go_simp
        exact got_call (implTagCmp_any dc ds dq yc ys yq w') fun e w'' ⟨he, hb⟩ => ⟨_, he, hb, rfl⟩
      refine slot_end ?_
      rintro tv w4 hb4 hF
      simp at hF
      obtain ⟨f20, f19, f18, f17, f16, f15, f14, f13, f12⟩ := hF
      simp only [List.take_succ_cons, List.take_zero, List.drop_succ_cons, List.drop_zero, putAll, f20, f19, f18, f17, f16, f15, f14, f13, f12]
      clear f20 f19 f18 f17 f16 f15 f14 f13 f12
      simp only [Act.put, List.setIfInBounds_toArray, List.set_cons_succ, List.set_cons_zero]
      obtain ⟨⟨c0, c1, c2⟩, ⟨_, x0, x1, x2, x3, _⟩⟩ := HC.out w4 hb4
      have HR4 := Lib.hid (row_below HRA.out hb4)
      have HH4 : Hid (Hole b w w4) := HHA.out.trans (Hole.of_below hb4)
      have hfz : ∀ i, w4.frozen? ⟨b, i, none⟩ = false := HR4.out.frozen
      clear hb4 HRA HHA HC HDA HBA
      by_cases hpos : 0 < tcmp dc ds dq yc ys yq
      · rw [if_pos hpos] at HPC
        generalize tcmp dc ds dq yc ys yq = z at *
        go_wp2_with fail
        refine wp_region_slots 7 [[(0, false)], [(5, false)], [(23, true)], [(5, false)], [(25, true)], [(22, true)], [(27, true), (24, true)]] (fun w' => w' = w4.drew) (fun w w' => w' = w) (by kernel_rfl) (by kernel_rfl) (by rfl) rfl (fun w w' h1 h2 => h2.trans h1) ?_
        iterate 7 (apply slot_eq; · (rintro ρ w' ⟨p1, p2, p3⟩ rfl hn; simp at hn; go_simp; exact ⟨rfl, rfl⟩))
        refine slot_end ?_
        rintro tv w5 rfl hF
        simp at hF
        obtain ⟨f28, f27, f26, f25, f24, f23, f22⟩ := hF
        simp only [List.take_succ_cons, List.take_zero, List.drop_succ_cons, List.drop_zero, putAll, f28, f27, f26, f25, f24, f23, f22]
        clear f28 f27 f26 f25 f24 f23 f22
        simp only [Act.put, List.setIfInBounds_toArray, List.set_cons_succ, List.set_cons_zero]
        have HR6 : Hid ((putT w4.drew b (kk * 3) dc ds dq).rowIs b 96 18 (fillT ((xs.take (k + 1)).foldl putC ts))) := by
          rw [HT.out, HPC.out]
          exact row_putT HR4.out.drew HL2.out hk6 dc ds dq
        have HH6 : Hid (Hole b w (putT w4.drew b (kk * 3) dc ds dq)) := hole_putT HH4.out.drew _ dc ds dq
        go_wp2
        exact ⟨⟨k + 1, by omega, by go_num, HR6, HH6⟩, by simp [intOf]; omega⟩
      · rw [if_neg hpos] at HPC
        have HR5 : Hid (w4.rowIs b 96 18 (fillT ((xs.take (k + 1)).foldl putC ts))) := by
          rw [HT.out, HPC.out]
          exact HR4
        generalize tcmp dc ds dq yc ys yq = z at *
        go_wp2
        exact ⟨⟨k + 1, by omega, by go_num, HR5, HH4⟩, by simp [intOf]; omega⟩
    · have hkk : k = n := by omega
      subst hkk
      have HE : Hid (xs.take k = xs) := List.take_of_length_le (by rw [HN.out]; exact Nat.le_refl _)
      rw [HE.out] at HR
      go_wp2
      exact bodyPost_end (v := .tuple #[]) (by simp [results, Tryz.results80]) rfl ⟨rfl, HR.out, HH.out⟩

/-- The cells of six tags. -/
def IsTgs (cs : Array Value) (ts : List Tg) : Prop := cs.size = 18 ∧ ts.length = 6 ∧ ∀ j, j < 18 → cs[j]? = some (fillT ts j)

theorem under_causes : Tryz.prog.underlying 96 = some (.array 6 34) := by kernel_rfl

theorem infoCauses : (Tryz.prog.info? 96).map (·.size) = some 18 := by kernel_rfl

set_option maxRecDepth 100000 in
theorem run_indexT {cs : Array Value} {ts : List Tg} (h : IsTgs cs ts) {q : Nat} (hq : q < 6) (w : World) : (Instr.index 96 (.agg cs) (.int .i64 (q : Int))).run Tryz.prog w = .ok (tagV (ts.getD q tgz).c (ts.getD q tgz).s (ts.getD q tgz).q) w := by
  obtain ⟨h1, h2, h3⟩ := h
  have c0 := h3 (q * 3) (by omega)
  have c1 := h3 (q * 3 + 1) (by omega)
  have c2 := h3 (q * 3 + 2) (by omega)
  rw [fillT_0] at c0
  rw [fillT_1] at c1
  rw [fillT_2] at c2
  have he : cs.extract (q * 3) (q * 3 + 3) = #[.int .i64 (ts.getD q tgz).c, .int .i64 (ts.getD q tgz).s, .int .i64 (ts.getD q tgz).q] := by
    apply Array.ext_getElem?
    intro i
    rw [Array.getElem?_extract]
    have hm : min (q * 3 + 3) cs.size - q * 3 = 3 := by omega
    rw [hm]
    match i with
    | 0 => rw [if_pos (by omega)]; exact c0
    | 1 => rw [if_pos (by omega)]; exact c1
    | 2 => rw [if_pos (by omega)]; exact c2
    | i + 3 => rw [if_neg (by omega)]; simp
  simp [Instr.index, go_sem, Go.part]
  rw [if_pos hq, he]
  simp [tagV, List.getD]

theorem tgs_of_row {w : World} {b t : Nat} {ts : List Tg} (h : w.rowIs b t 18 (fillT ts)) (hl : ts.length = 6) : ∃ cs, w.heap[b]? = some (.cells cs t (0, 0)) ∧ IsTgs cs ts := by
  obtain ⟨c, h1, h2, h3⟩ := h
  exact ⟨c, h1, h2, hl, h3⟩

theorem tellAt_app : ∀ (us vs : List Tg) (i : Nat), tellAt i (us ++ vs) = tellAt i us ++ tellAt (i + us.length) vs
  | [], vs, i => by simp [tellAt]
  | t :: r, vs, i => by
    have := tellAt_app r vs (i + 1)
    simp only [List.cons_append, tellAt, List.length_cons, List.append_assoc]
    rw [this, show i + 1 + r.length = i + (r.length + 1) by omega]

theorem tell_take (ts : List Tg) (k : Nat) (h : k < ts.length) : tellC (ts.take (k + 1)) = tellC (ts.take k) ++ (if isZ (ts.getD k tgz) = true then [] else [⟨(k : Int), (ts.getD k tgz).c, (ts.getD k tgz).s, (ts.getD k tgz).q⟩]) := by
  have e : ts.take (k + 1) = ts.take k ++ [ts.getD k tgz] := by
    rw [List.take_add_one, List.getElem?_eq_getElem h]
    simp [List.getD, h]
  unfold tellC
  rw [e, tellAt_app]
  have hl : 0 + (ts.take k).length = k := by simp; omega
  rw [hl]
  simp only [tellAt, List.append_nil]

theorem tell_len (ts : List Tg) : (tellC ts).length ≤ ts.length := by
  have : ∀ (ts : List Tg) (i : Nat), (tellAt i ts).length ≤ ts.length := by
    intro ts
    induction ts with
    | nil => intro i; simp [tellAt]
    | cons t r ih =>
      intro i
      have := ih (i + 1)
      unfold tellAt
      split <;> simp <;> omega
  exact this ts 0

set_option maxRecDepth 100000 in
theorem tag_eql (d : Nat) (yc ys yq : Int) (w : World) (h : isZ ⟨yc, ys, yq⟩ = false) : (Op.equalIn (d + 2) 34 (.agg #[.int .i64 yc, .int .i64 ys, .int .i64 yq]) (.agg #[.int .i64 0, .int .i64 0, .int .i64 0])).run Tryz.prog w = .ok false w := by
  simp [isZ] at h
  go_simp
  by_cases h1 : yc = 0
  · by_cases h2 : ys = 0
    · simp [h1, h2, h h1 h2]
    · simp [h1, h2]
  · simp [h1]

set_option maxRecDepth 100000 in
set_option maxHeartbeats 4000000 in
theorem causTold_any (cs : Array Value) (ts : List Tg) (w : World) (h : IsTgs cs ts) :
    Calls Tryz.prog 81 #[.agg cs] w fun e w' => ∃ v, e = .returned v ∧ RowD w' w.heap.size v (tellC ts) ∧ Below w.heap.size w w' := by
  have H := Lib.hid h
  clear h
  obtain ⟨i0, hi0, hx0⟩ := Option.map_eq_some_iff.1 infoDep
  simp only [Prod.mk.injEq] at hx0
  have HI0 := Lib.hid hi0
  have HX0 := Lib.hid hx0
  clear hi0 hx0
  have HB0 : Hid (Below w.heap.size w (w.alloc (.cells cs 96))) := (Below.refl _ _).alloc (Nat.le_refl _) _
  have hg : (w.alloc (.cells cs 96)).heap[w.heap.size]? = some (.cells cs 96 (0, 0)) := heap_alloc_new w _
  have s0 : (Tryz.prog.info? 96).map (·.size) = some cs.size := by rw [infoCauses, H.out.1]
  go_enter Tryz.func81, Tryz.ntmps81
  go_wp2_with (refine wpList_load_row rfl 96 _ rfl w.heap.size rfl _ cs _ _ hg under_causes rfl s0 ?_)
  clear hg
  generalize w.alloc (.cells cs 96) = W0 at *
  go_loopw [3, 7] (fun t i wr => ∃ (k : Nat) (v : Value), k ≤ 6 ∧ i = .int .i64 k ∧ v = t ∧ Hid (RowD wr w.heap.size v (tellC (ts.take k))) ∧ Hid (Below w.heap.size w wr)) (fun _ i _ => 6 - (intOf i).toNat)
  case atStart => exact ⟨0, _, Nat.zero_le _, rfl, rfl, World.ownsRow_nil _ _ _ _, HB0⟩
  case round =>
    clear HB0
    obtain ⟨k, v, hk, rfl, rfl, HR, HB⟩ := hrel
    by_cases hk' : k < 6
    · have i1 : (0 : Int) ≤ (k : Int) := by omega
      have i2 : (k : Int) < 6 := by omega
      have hix := fun w => run_indexT H.out hk' w
      have HT := Lib.hid (tell_take ts k (by have := H.out.2.1; omega))
      have hlen := tell_len (ts.take k)
      have hlt : (ts.take k).length ≤ 6 := by simp; omega
      obtain ⟨zs, hzs⟩ : ∃ zs, zs = tellC (ts.take k) := ⟨_, rfl⟩
      rw [← hzs] at HT HR hlen
      clear hzs
      generalize ts.getD k tgz = y at *
      obtain ⟨yc, ys, yq⟩ := y
      simp only at HT hix
      have hsw : w.heap.size ≤ wr.heap.size := HB.out.size
      unfold tagV at hix
      by_cases hz : isZ ⟨yc, ys, yq⟩ = true
      · rw [if_pos hz, List.append_nil] at HT
        rw [← HT.out] at HR
        have hz2 : yc = 0 ∧ ys = 0 ∧ yq = 0 := by simpa [isZ] using hz
        obtain ⟨rfl, rfl, rfl⟩ := hz2
        have HB2 : Hid (Below w.heap.size w (wr.alloc (.cells #[.int .i64 0, .int .i64 0, .int .i64 0] 34))) := HB.out.alloc hsw _
        have HR2 : Hid (RowD (wr.alloc (.cells #[.int .i64 0, .int .i64 0, .int .i64 0] 34)) w.heap.size v (tellC (ts.take (k + 1)))) := HR.out.below ((Below.refl _ _).alloc (Nat.le_refl _) _)
        go_wp2
        exact ⟨⟨k + 1, v, by omega, by go_num, rfl, HR2, HB2⟩, by simp [intOf]; omega⟩
      · rw [if_neg hz] at HT
        have heq : ∀ w, (Op.equalIn 10000 34 (.agg #[.int .i64 yc, .int .i64 ys, .int .i64 yq]) (.agg #[.int .i64 0, .int .i64 0, .int .i64 0])).run Tryz.prog w = .ok false w := fun w => tag_eql 9998 yc ys yq w (by simpa using hz)
        have HBA : Hid (Below wr.heap.size wr (wr.alloc (.cells #[.int .i64 yc, .int .i64 ys, .int .i64 yq] 34))) := (Below.refl _ _).alloc (Nat.le_refl _) _
        have hsA : (wr.alloc (.cells #[.int .i64 yc, .int .i64 ys, .int .i64 yq] 34)).heap.size = wr.heap.size + 1 := by simp
        have HR2 := Lib.hid (HR.out.below HBA.out)
        have HB2 := Lib.hid (below_step HB.out HB.out.size HBA.out)
        clear HBA hz
        have HBA4 : Hid (Below (wr.alloc (.cells #[.int .i64 yc, .int .i64 ys, .int .i64 yq] 34)).heap.size (wr.alloc (.cells #[.int .i64 yc, .int .i64 ys, .int .i64 yq] 34)) ((wr.alloc (.cells #[.int .i64 yc, .int .i64 ys, .int .i64 yq] 34)).alloc (.cells #[.int .i64 (k : Int), .int .i64 yc, .int .i64 ys, .int .i64 yq] 99))) := (Below.refl _ _).alloc (Nat.le_refl _) _
        have HRA4 := Lib.hid (HR2.out.below HBA4.out)
        have HB04 := Lib.hid (below_step HB2.out HB2.out.size HBA4.out)
        have HC4 := Lib.hid (oneD_cells (wr.alloc (.cells #[.int .i64 yc, .int .i64 ys, .int .i64 yq] 34)) 99 ⟨(k : Int), yc, ys, yq⟩)
        rw [hsA] at HC4
        clear HBA4 hsA HR2 HB2
        go_wp2_with (at_builtin; refine wpList_append_lies _ (by rfl) _ _ _ (by rfl) w.heap.size 99 i0 (depV 0 0 0 0) 4 32 Tryz.underlying35 HI0.out HX0.out.1 HX0.out.2.1 HX0.out.2.2 (by rfl) (by omega) v (zs).length ((zs).flatMap dpVals) (by rfl) HRA4.out ⟨wr.heap.size + 1, 0, none⟩ 1 1 (dpVals ⟨(k : Int), yc, ys, yq⟩) (by rfl) (by rfl) HC4.out (dp_one _) (by omega) (by unfold maxLen; (try simp); omega) (by (try simp); omega) (by (try simp); omega) _ rfl ?_; intro g4 cp4 w4 hown4 hgrow4 hg4 _; refine Hid.out ?_)
        refine Lib.hid ?_
        have HB4 : Hid (Below w.heap.size w w4) := HB04.out.grown hgrow4 HB04.out.size fun j hj => by have := (World.ownsRow.lt HRA4.out j hj).1; omega
        have HR4 : Hid (RowD w4 w.heap.size (.slice (some ⟨g4, 0, none⟩) ((zs).length + 1) cp4) (tellC (ts.take (k + 1)))) := by
          rw [HT.out]
          refine Lib.hid ?_
          unfold RowD
          rw [List.length_append, List.flatMap_append]
          simpa using hown4
        go_wp2
        exact ⟨⟨k + 1, _, by omega, by go_num, rfl, HR4, HB4⟩, by simp [intOf]; omega⟩
    · have hkk : k = 6 := by omega
      have e : ts.take k = ts := List.take_of_length_le (by have := H.out.2.1; omega)
      rw [e] at HR
      have hk6 : ¬ (k : Int) < 6 := by omega
      go_wp2
      go_ret
      exact ⟨_, rfl, HR.out, HB.out⟩

theorem cauL_take (ws : List Wr) (mask : Int) (k : Nat) (h : k < ws.length) : cauL (ws.take (k + 1)) mask = cauRun mask (cauL (ws.take k) mask) (ws.getD k wz) := by
  unfold cauL
  have e : ws.take (k + 1) = ws.take k ++ [ws.getD k wz] := by
    rw [List.take_add_one, List.getElem?_eq_getElem h]
    simp [List.getD, h]
  rw [e, List.foldl_append]
  rfl

theorem cauRun_len (mask : Int) (ts : List Tg) (x : Wr) : (cauRun mask ts x).length = ts.length := by
  unfold cauRun
  split
  · rw [putF_len, putC_len]
  · rfl

theorem cauF_len (mask : Int) : ∀ (ws : List Wr) (ts : List Tg), (ws.foldl (cauRun mask) ts).length = ts.length
  | [], _ => rfl
  | x :: r, ts => by
    have := cauF_len mask r (cauRun mask ts x)
    rw [cauRun_len] at this
    exact this

theorem holds_one (w : World) (d : Dp) (ty : Nat) : HoldsDeps (w.alloc (.cells #[.int .i64 d.k, .int .i64 d.c, .int .i64 d.s, .int .i64 d.q] ty)) w.heap.size 0 [d] := fun i hi => by
  have e : i = 0 := by simp at hi; omega
  subst e
  have h := DBox.start w d ty
  exact ⟨h.c0, h.c1, h.c2, h.c3⟩

set_option maxRecDepth 100000 in
set_option maxHeartbeats 8000000 in
theorem implBecause_any (a : Option Addr) (n cap : Nat) (ws : List Wr) (mask : Int) (w : World) (hn : ws.length = n) (hm : n ≤ 1048576) (hx : Few ws) (hh : IsWs w a ws) (hM : mask ≤ 9223372036854775807) :
    Calls Tryz.prog 44 #[.slice a n cap, .int .i64 mask] w fun e w' => ∃ v, e = .returned v ∧ RowD w' w.heap.size v (becB ws mask) ∧ Below w.heap.size w w' := by
  have HH := Lib.hid hh
  have HN := Lib.hid hn
  have HX := Lib.hid hx
  clear hh hn hx
  go_enter Tryz.func44, Tryz.ntmps44
  by_cases hm0 : mask < 0
  · have HE : Hid (becB ws mask = []) := by unfold becB; rw [if_neg (by omega)]; exact Lib.hid rfl
    go_wp2
    go_ret
    exact ⟨_, rfl, by rw [HE.out]; exact World.ownsRow_nil _ _ _ _, Below.refl _ _⟩
  have hm0' : 0 ≤ mask := by omega
  go_wp2_with fail
  refine (implMapOk_any _ n _ ws _ HN.out hm HX.out HH.out).mono ?_
  rintro e w1 ⟨rfl, hb⟩
  have HB1 := Lib.hid hb
  clear hb
  by_cases hok : mapOkB ws = true
  rotate_left
  · have hokf : mapOkB ws = false := by simpa using hok
    have HE : Hid (becB ws mask = []) := by unfold becB; rw [if_neg (by simp [hokf])]; exact Lib.hid rfl
    rw [hokf]
    clear hok hokf
    go_wp2
    go_ret
    exact ⟨_, rfl, by rw [HE.out]; exact World.ownsRow_nil _ _ _ _, HB1.out⟩
  have HE : Hid (becB ws mask = tellC (cauL ws mask)) := by unfold becB; rw [if_pos ⟨hok, hm0'⟩, cau_tell hok]; exact Lib.hid rfl
  have HOK : Hid (∀ x ∈ ws, okW x = true) := ((mapOk_iff ws).1 hok).1
  rw [hok]
  clear hok
  have hsz1 : w.heap.size ≤ w1.heap.size := HB1.out.size
  have HBA : Hid (Below w.heap.size w (w1.alloc (.cells #[.int .i64 0, .int .i64 0, .int .i64 0, .int .i64 0, .int .i64 0, .int .i64 0, .int .i64 0, .int .i64 0, .int .i64 0, .int .i64 0, .int .i64 0, .int .i64 0, .int .i64 0, .int .i64 0, .int .i64 0, .int .i64 0, .int .i64 0, .int .i64 0] 96))) := HB1.out.alloc hsz1 _
  have HRA : Hid ((w1.alloc (.cells #[.int .i64 0, .int .i64 0, .int .i64 0, .int .i64 0, .int .i64 0, .int .i64 0, .int .i64 0, .int .i64 0, .int .i64 0, .int .i64 0, .int .i64 0, .int .i64 0, .int .i64 0, .int .i64 0, .int .i64 0, .int .i64 0, .int .i64 0, .int .i64 0] 96)).rowIs w1.heap.size 96 18 (fillT cz)) := World.rowIs_alloc w1 _ _ _ (by intro i hi; have hi' : i < 18 := hi; match i, hi' with | 0, _ => rfl | 1, _ => rfl | 2, _ => rfl | 3, _ => rfl | 4, _ => rfl | 5, _ => rfl | 6, _ => rfl | 7, _ => rfl | 8, _ => rfl | 9, _ => rfl | 10, _ => rfl | 11, _ => rfl | 12, _ => rfl | 13, _ => rfl | 14, _ => rfl | 15, _ => rfl | 16, _ => rfl | 17, _ => rfl | j + 18, h => exact absurd h (by omega))
  go_wp2
  generalize (w1.alloc (.cells #[.int .i64 0, .int .i64 0, .int .i64 0, .int .i64 0, .int .i64 0, .int .i64 0, .int .i64 0, .int .i64 0, .int .i64 0, .int .i64 0, .int .i64 0, .int .i64 0, .int .i64 0, .int .i64 0, .int .i64 0, .int .i64 0, .int .i64 0, .int .i64 0] 96)) = W0 at *
  generalize w1.heap.size = B at *
  clear HB1
  go_loopw [17] (fun i wr => ∃ k : Nat, k ≤ n ∧ i = .int .i64 k ∧ Hid (wr.rowIs B 96 18 (fillT (cauL (ws.take k) mask))) ∧ Hid (Below w.heap.size w wr)) (fun i _ => n - (intOf i).toNat)
  case atStart => exact ⟨0, Nat.zero_le _, rfl, HRA, HBA⟩
  case round =>
    clear HRA HBA
    obtain ⟨k, hk, rfl, HR, HB⟩ := hrel
    by_cases hk' : k < n
    · have hkw : k < ws.length := by rw [HN.out]; exact hk'
      have i1 : (0 : Int) ≤ (k : Int) := by omega
      have i2 : (k : Int) < (n : Int) := by omega
      obtain ⟨b, o, ad, cp, rfl, hz, ⟨e0, e1, e2, e3, e4, e5, e6⟩, hde⟩ := HH.out.base HB.out HN.out hk'
      have HDE := Lib.hid hde
      have HT := Lib.hid (cauL_take ws mask k hkw)
      have hok1 := HOK.out (ws.getD k wz) (by simp [List.getD, hkw])
      have hkey := okW_key hok1
      have hxl := okW_len hok1
      have HXD : Hid (∀ d ∈ (ws.getD k wz).xs, 0 ≤ d.k ∧ d.k ≤ 5) := fun d hd => (depsOk_each (okW_parts hok1).2.2 hd).1
      have HLL : Hid ((cauL (ws.take k) mask).length = 6) := cauF_len mask _ cz
      clear hok1 hde
      generalize cauL (ws.take k) mask = us at *
      generalize ws.getD k wz = x at *
      obtain ⟨xk, xc, xs', xq, xv, xd, xx⟩ := x
      simp only at e0 e1 e2 e3 e4 e5 e6 HT hkey hxl HDE HXD
      have HBX : Hid (Below wr.heap.size wr (wr.alloc (.cells #[.int .i64 xk, .int .i64 xc, .int .i64 xs', .int .i64 xq, .int .i64 xv, .bool xd, .slice ad xx.length cp] 37))) := (Below.refl _ _).alloc (Nat.le_refl _) _
      have HXX : Hid (WrAt (wr.alloc (.cells #[.int .i64 xk, .int .i64 xc, .int .i64 xs', .int .i64 xq, .int .i64 xv, .bool xd, .slice ad xx.length cp] 37)) wr.heap.size 0 ⟨xk, xc, xs', xq, xv, xd, xx⟩ ad cp) := by
        have h := heap_alloc_new wr (.cells #[.int .i64 xk, .int .i64 xc, .int .i64 xs', .int .i64 xq, .int .i64 xv, .bool xd, .slice ad xx.length cp] 37)
        refine ⟨?_, ?_, ?_, ?_, ?_, ?_, ?_⟩ <;> (rw [cell_of_row _ _ _ _ _ (0, 0) h]; rfl)
      have hxs : wr.heap.size < (wr.alloc (.cells #[.int .i64 xk, .int .i64 xc, .int .i64 xs', .int .i64 xq, .int .i64 xv, .bool xd, .slice ad xx.length cp] 37)).heap.size := by simp
      have HR2 := Lib.hid (row_below HR.out HBX.out)
      have HB2 := Lib.hid (below_step HB.out HB.out.size HBX.out)
      go_wp2_with fail
      generalize (wr.alloc (.cells #[.int .i64 xk, .int .i64 xc, .int .i64 xs', .int .i64 xq, .int .i64 xv, .bool xd, .slice ad xx.length cp] 37)) = V1 at *
      refine (wants_any mask ⟨xk, xc, xs', xq, xv, xd, xx⟩ ad cp _ hm0' hM hkey).mono ?_
      rintro e w3 ⟨rfl, hb⟩
      have HR3 := Lib.hid (row_below HR2.out hb)
      have HB3 := Lib.hid (below_step HB2.out HB2.out.size hb)
      have hx3 : wr.heap.size < w3.heap.size := Nat.lt_of_lt_of_le hxs hb.size
      have HX3 : Hid (WrAt w3 wr.heap.size 0 ⟨xk, xc, xs', xq, xv, xd, xx⟩ ad cp) := HXX.out.of_block (hb.block _ hxs)
      clear hb HXX HR2 HB2 HBX e0 e1 e2 e3 e4 e5 e6
      simp only
      by_cases hbit : bitB mask xk = true
      rotate_left
      · have hbf : bitB mask xk = false := by simpa using hbit
        rw [hbf]
        have HR4 : Hid (w3.rowIs B 96 18 (fillT (cauL (ws.take (k + 1)) mask))) := by
          rw [HT.out]
          unfold cauRun
          rw [if_neg (by simpa using hbf)]
          exact HR3
        clear hbit hbf
        go_wp2
        exact ⟨⟨k + 1, by omega, by go_num, HR4, HB3⟩, by simp [intOf]; omega⟩
      rw [hbit]
      have HT2 : Hid (cauL (ws.take (k + 1)) mask = xx.foldl putC (putC us ⟨xk, xc, xs', xq⟩)) := by
        rw [HT.out]
        unfold cauRun
        rw [if_pos hbit]
        exact Lib.hid rfl
      clear hbit HT
      obtain ⟨c0, c1, c2, c3, c4, c5, c6⟩ := HX3.out
      simp only [Nat.zero_add] at c0 c1 c2 c3 c4 c5 c6
      have hBl : B < w3.heap.size := HR3.out.lt
      have HBS : Hid (Below w3.heap.size w3 (w3.alloc (.cells #[.int .i64 xk, .int .i64 xc, .int .i64 xs', .int .i64 xq] 99))) := (Below.refl _ _).alloc (Nat.le_refl _) _
      have HR4 := Lib.hid (row_below HR3.out HBS.out)
      have HB4 := Lib.hid (below_step HB3.out HB3.out.size HBS.out)
      have HX4 : Hid (WrAt (w3.alloc (.cells #[.int .i64 xk, .int .i64 xc, .int .i64 xs', .int .i64 xq] 99)) wr.heap.size 0 ⟨xk, xc, xs', xq, xv, xd, xx⟩ ad cp) := HX3.out.of_block (HBS.out.block _ hx3)
      have hs4 : (w3.alloc (.cells #[.int .i64 xk, .int .i64 xc, .int .i64 xs', .int .i64 xq] 99)).heap.size = w3.heap.size + 1 := by simp
      have HD4 : Hid (IsDepsX B (w3.alloc (.cells #[.int .i64 xk, .int .i64 xc, .int .i64 xs', .int .i64 xq] 99)) (some ⟨w3.heap.size, 0, none⟩) [⟨xk, xc, xs', xq⟩]) := .inr ⟨w3.heap.size, 0, rfl, by omega, by rw [hs4]; omega, holds_one w3 ⟨xk, xc, xs', xq⟩ _⟩
      go_wp2_with fail
      generalize (w3.alloc (.cells #[.int .i64 xk, .int .i64 xc, .int .i64 xs', .int .i64 xq] 99)) = V2 at *
      refine (causAdd_any B us _ 1 1 [⟨xk, xc, xs', xq⟩] _ HLL.out rfl (by omega) (fun d hd => by have e : d = ⟨xk, xc, xs', xq⟩ := (by simpa using hd); rw [e]; exact hkey) HD4.out HR4.out).mono ?_
      rintro e w5 ⟨rfl, hr5, hh5⟩
      have HR5 : Hid (w5.rowIs B 96 18 (fillT (putC us ⟨xk, xc, xs', xq⟩))) := hr5
      have HB5 : Hid (Below w.heap.size w w5) := Hole.below HB4.out hh5 hsz1 HB4.out.size
      have hx4 : wr.heap.size < V2.heap.size := by rw [hs4]; omega
      have hne : wr.heap.size ≠ B := by have := HR.out.lt; omega
      have HX5 : Hid (WrAt w5 wr.heap.size 0 ⟨xk, xc, xs', xq, xv, xd, xx⟩ ad cp) := HX4.out.of_block (hh5.block _ hx4 hne)
      clear hr5 hh5 HR4 HB4 HD4 HX4 HBS c0 c1 c2 c3 c4 c5 c6
      obtain ⟨c0, c1, c2, c3, c4, c5, c6⟩ := HX5.out
      simp only [Nat.zero_add] at c0 c1 c2 c3 c4 c5 c6
      have HD5 : Hid (IsDepsX B w5 ad xx) := HDE.out.away HB5.out hsz1
      have HL5 : Hid ((putC us ⟨xk, xc, xs', xq⟩).length = 6) := by rw [putC_len]; exact HLL
      go_wp2_with fail
      refine (causAdd_any B _ ad xx.length cp xx _ HL5.out rfl (by omega) HXD.out HD5.out HR5.out).mono ?_
      rintro e w6 ⟨rfl, hr6, hh6⟩
      have HR6 : Hid (w6.rowIs B 96 18 (fillT (cauL (ws.take (k + 1)) mask))) := by rw [HT2.out]; exact hr6
      have HB6 : Hid (Below w.heap.size w w6) := Hole.below HB5.out hh6 hsz1 HB5.out.size
      clear hr6 hh6
      go_wp2
      exact ⟨⟨k + 1, by omega, by go_num, HR6, HB6⟩, by simp [intOf]; omega⟩
    · have hkk : k = n := by omega
      subst hkk
      have e : ws.take k = ws := List.take_of_length_le (by rw [HN.out]; exact Nat.le_refl _)
      rw [e] at HR
      obtain ⟨cs, hg, hT⟩ := tgs_of_row HR.out (cauF_len mask ws cz)
      have HTG := Lib.hid hT
      have s0 : (Tryz.prog.info? 96).map (·.size) = some cs.size := by rw [infoCauses, hT.1]
      have hB0 : B < wr.heap.size := HR.out.lt
      clear hT
      go_wp2_with (refine wpList_load_row rfl 96 _ rfl B rfl _ cs _ _ hg under_causes rfl s0 ?_)
      refine (causTold_any cs _ _ HTG.out).mono ?_
      rintro e w7 ⟨v7, rfl, hr7, hb⟩
      have HB7 := Lib.hid (below_step HB.out HB.out.size hb)
      have hsr : w.heap.size ≤ wr.heap.size := HB.out.size
      have HR7 := Lib.hid (hr7.mono hsr)
      clear hb hr7
      go_wp2
      go_ret
      exact ⟨_, rfl, by rw [HE.out]; exact HR7.out, HB7.out⟩

end Go.Proofs.YtcapahiklphhjaaGreatDoor

/- Two cuts, joined, are a cut: with no program in sight. -/
namespace Go.Proofs.YtcapahiklphhjaaGreatDoor
open Go.ChangeShapes Go.WideShapes Go.ChangeAt Go.RowKit Go.Joins

theorem has_join_left : ∀ (vs : List Wr) {us : List Wr}, Rise us → ∀ {key c s q : Int}, hasB us key c s q = true → hasB (joinW us vs) key c s q = true
  | [], _, _, _, _, _, _, h => h
  | x :: r, _, hr, key, c, s, q, h => has_join_left r (rise_putW hr x) ((has_put hr x key c s q).2 (.inl h))

theorem has_join_mem : ∀ (vs : List Wr) {us : List Wr}, Rise us → ∀ {y : Wr}, y ∈ vs → ∀ {c s q : Int}, 0 ≤ tcmp y.c y.s y.q c s q → hasB (joinW us vs) y.k c s q = true
  | [], _, _, _, hy, _, _, _, _ => by simp at hy
  | x :: r, _, hr, y, hy, c, s, q, h => by
    rcases List.mem_cons.1 hy with rfl | hy
    · exact has_join_left r (rise_putW hr y) ((has_put hr y y.k c s q).2 (.inr ⟨rfl, h⟩))
    · exact has_join_mem r (rise_putW hr x) hy h

theorem has_mem {us : List Wr} {key c s q : Int} (h : hasB us key c s q = true) : ∃ u ∈ us, u.k = key ∧ 0 ≤ tcmp u.c u.s u.q c s q := by
  unfold hasB at h
  cases hf : findW us key with
  | none => rw [hf] at h; cases h
  | some u =>
    rw [hf] at h
    exact ⟨u, findW_mem hf, findW_key hf, by simpa using h⟩

theorem has_join_right {us vs : List Wr} (hr : Rise us) {key c s q : Int} (h : hasB vs key c s q = true) : hasB (joinW us vs) key c s q = true := by
  obtain ⟨u, hu, hk, ht⟩ := has_mem h
  rw [← hk]
  exact has_join_mem vs hr hu ht

theorem cut_parts {ws : List Wr} (h : cutB ws = true) : mapOkB ws = true ∧ ∀ x ∈ ws, covB ws x.xs = true := by
  unfold cutB at h
  rw [Bool.and_eq_true] at h
  exact ⟨h.1, fun x hx => List.all_eq_true.1 h.2 x hx⟩

theorem cut_of {ws : List Wr} (h : mapOkB ws = true) (h' : ∀ x ∈ ws, covB ws x.xs = true) : cutB ws = true := by
  unfold cutB
  rw [h, Bool.true_and, List.all_eq_true]
  exact h'

theorem cut_join {us vs : List Wr} (hu : cutB us = true) (hv : cutB vs = true) : cutB (joinB us vs) = true := by
  obtain ⟨hu1, hu2⟩ := cut_parts hu
  obtain ⟨hv1, hv2⟩ := cut_parts hv
  refine cut_of (joinB_mapOk us vs) fun x hx => ?_
  have hr := ((mapOk_iff us).1 hu1).2
  have e : joinB us vs = joinW us vs := by
    unfold joinB
    rw [if_pos ⟨hu1, hv1⟩]
  rw [e] at hx ⊢
  rw [cov_iff]
  intro d hd
  obtain ⟨-, h2, -⟩ := join_spec vs us hr
  rcases h2 x hx with h | h
  · exact has_join_left vs hr ((cov_iff _ _).1 (hu2 x h) d hd)
  · exact has_join_right hr ((cov_iff _ _).1 (hv2 x h) d hd)

end Go.Proofs.YtcapahiklphhjaaGreatDoor

/- What is asked of a site: the contracts of spec.ShimAll, impl.chosen, impl.ShimAll. -/
namespace Go.Proofs.YtcapahiklphhjaaGreatDoor
open Go.ChangeShapes Go.WideShapes Go.ChangeAt Go.RowKit Go.Joins
attribute [local go_sem ↓] Go.wp_at_zero Go.wp_at_succ

theorem filter_take {P : Wr → Bool} {ws : List Wr} {k : Nat} (h : k < ws.length) : (ws.take (k + 1)).filter P = (ws.take k).filter P ++ (if P (ws.getD k wz) = true then [ws.getD k wz] else []) := by
  have e : ws.take (k + 1) = ws.take k ++ [ws.getD k wz] := by
    rw [List.take_add_one, List.getElem?_eq_getElem h]
    simp [List.getD, h]
  rw [e, List.filter_append]
  generalize ws.getD k wz = x
  cases hp : P x <;> simp [List.filter, hp]

theorem ok_map {x : Sm} (h : smOkB x = true) : mapOkB x.ws = true := by
  unfold smOkB at h
  simp only [Bool.and_eq_true] at h
  exact (cut_parts h.1.1.1.1.1.1.1.2).1

/-- What is asked of a site. -/
noncomputable def allX (x : Sm) (mask : Int) : List Wr := if smOkB x = true ∧ 0 ≤ mask then x.ws.filter (fun y => bitB mask y.k) else []

set_option maxRecDepth 100000 in
set_option maxHeartbeats 8000000 in
theorem specAll_x (x : Sm) (a : Option Addr) (cap : Nat) (mask : Int) (w : World) (hn : x.ws.length ≤ 1048576) (hx : Few x.ws) (ht : x.t.size ≤ 1048576) (h : IsWs w a x.ws) (hM : mask ≤ 9223372036854775807) :
    Calls Tryz.prog 28 #[smV x a cap, .int .i64 mask] w fun e w' => ∃ a' cp, e = .returned (.slice a' (allX x mask).length cp) ∧ IsWs w' a' (allX x mask) ∧ Below w.heap.size w w' := by
  obtain ⟨si, cl, sq, la, ws, t⟩ := x
  simp only at hn hx ht h
  have H := Lib.hid h
  have HX := Lib.hid hx
  clear h hx
  have HSP : Hid (∀ W a cap, IsWs W a ws → Calls Tryz.prog 9 #[shV si cl sq la a ws.length cap t] W fun e w' => e = .returned (.bool (smOkB ⟨si, cl, sq, la, ws, t⟩)) ∧ Below W.heap.size W w') := fun W a cap hw => specOk_x ⟨si, cl, sq, la, ws, t⟩ a cap W hn HX.out ht hw
  have HOKM : Hid (smOkB ⟨si, cl, sq, la, ws, t⟩ = true → mapOkB ws = true) := fun h => ok_map h
  obtain ⟨R, hR⟩ : ∃ R, R = allX ⟨si, cl, sq, la, ws, t⟩ mask := ⟨_, rfl⟩
  rw [← hR]
  unfold allX at hR
  simp only at hR
  obtain ⟨rr, hrr⟩ : ∃ rr, rr = smOkB ⟨si, cl, sq, la, ws, t⟩ := ⟨_, rfl⟩
  rw [← hrr] at HSP HOKM hR
  have HR := Lib.hid hR
  clear hR hrr
  unfold smV
  simp only
  obtain ⟨n, hnn⟩ : ∃ n, ws.length = n := ⟨_, rfl⟩
  rw [hnn] at hn HSP
  rw [hnn]
  have HN := Lib.hid hnn
  clear hnn
  obtain ⟨i0, hi0, hx0⟩ := Option.map_eq_some_iff.1 infoWr
  simp only [Prod.mk.injEq] at hx0
  have HI0 := Lib.hid hi0
  have HX0 := Lib.hid hx0
  clear hi0 hx0
  have HB0 : Hid (Below w.heap.size w (w.alloc (.cells #[.int .i64 si, .int .i64 cl, .int .i64 sq, .int .i64 la, .slice a n cap, .string t] 29))) := (Below.refl _ _).alloc (Nat.le_refl _) _
  have HS0 := Lib.hid (SBox.start w si cl sq la a n cap t 29)
  have hz0 : (w.alloc (.cells #[.int .i64 si, .int .i64 cl, .int .i64 sq, .int .i64 la, .slice a n cap, .string t] 29)).heap.size = w.heap.size + 1 := by simp
  obtain ⟨W0, hW0⟩ : ∃ W0, w.alloc (.cells #[.int .i64 si, .int .i64 cl, .int .i64 sq, .int .i64 la, .slice a n cap, .string t] 29) = W0 := ⟨_, rfl⟩
  rw [hW0] at HB0 HS0 hz0
  have HR0 : Hid (RowEs (W0.alloc (.cells #[] 37)) W0.heap.size (w.heap.size + 1) 0 []) := by have := rowEs_start W0 W0.heap.size (Nat.le_refl _); rw [hz0] at this ⊢; exact this
  have HT0 : Hid (Below W0.heap.size W0 (W0.alloc (.cells #[] 37))) := (Below.refl _ _).alloc (Nat.le_refl _) _
  have HI := Lib.hid (H.out.below HB0.out)
  unfold shV
  obtain ⟨-, x0, x1, x2, x3, x4, x5, -⟩ := HS0.out.below HT0.out
  go_enter Tryz.func28, Tryz.ntmps28
  go_wp2_with fail
  generalize (W0.alloc (.cells #[] 37)) = V0 at *
  clear hW0 x0 x1 x2 x3 x4 x5
  refine (HSP.out _ a cap (HI.out.below HT0.out)).mono ?_
  rintro e w1 ⟨rfl, hb⟩
  have HT1 := Lib.hid (below_step HT0.out HT0.out.size hb)
  have HR1 := Lib.hid (HR0.out.below hb)
  have HBT : Hid (∀ w', Below W0.heap.size W0 w' → Below w.heap.size w w') := fun w' h => HB0.out.trans (h.mono (by omega))
  clear hb HT0 HR0
  by_cases hok : rr = true
  rotate_left
  · have hrf : rr = false := by simpa using hok
    have HE : Hid (R = []) := by rw [HR.out, if_neg (by simp [hrf])]; exact Lib.hid rfl
    subst hrf
    clear hok
    go_wp2
    go_ret
    exact ⟨some ⟨w.heap.size + 1, 0, none⟩, 0, by rw [HE.out]; rfl, by rw [HE.out]; exact .inl rfl, HBT.out _ HT1.out⟩
  by_cases hm0 : mask < 0
  · have HE : Hid (R = []) := by rw [HR.out, if_neg (by omega)]; exact Lib.hid rfl
    subst hok
    go_wp2
    go_ret
    exact ⟨some ⟨w.heap.size + 1, 0, none⟩, 0, by rw [HE.out]; rfl, by rw [HE.out]; exact .inl rfl, HBT.out _ HT1.out⟩
  have hm0' : 0 ≤ mask := by omega
  have HE : Hid (R = ws.filter (fun y => bitB mask y.k)) := by rw [HR.out, if_pos ⟨hok, hm0'⟩]; exact Lib.hid rfl
  have HOW : Hid (∀ x ∈ ws, okW x = true) := ((mapOk_iff ws).1 (HOKM.out hok)).1
  have hn6 : n ≤ 6 := by rw [← HN.out]; exact mapOk_len (HOKM.out hok)
  subst hok
  clear HR HOKM HSP
  go_wp2
  go_loopw [5, 6] (fun t' i wr => ∃ (k L g cp : Nat) (es : List En), k ≤ n ∧ L ≤ k ∧ i = .int .i64 k ∧ t' = .slice (some ⟨g, 0, none⟩) L cp ∧ Hid (es.length = L) ∧ Hid (es.map (·.x) = (ws.take k).filter (fun y => bitB mask y.k)) ∧ Hid (RowEs wr W0.heap.size g cp es) ∧ Hid (Below W0.heap.size W0 wr)) (fun _ i _ => n - (intOf i).toNat)
  case atStart => exact ⟨0, 0, _, 0, [], Nat.zero_le _, Nat.le_refl _, rfl, rfl, rfl, rfl, HR1, HT1⟩
  case round =>
    clear HR1 HT1
    obtain ⟨k, L, g, cp, es, hk, hLk, rfl, rfl, HL, HM, HR, HT⟩ := hrel
    obtain ⟨-, x0, x1, x2, x3, x4, x5, -⟩ := HS0.out.below HT.out
    by_cases hk' : k < n
    · have hkw : k < ws.length := by rw [HN.out]; exact hk'
      have i1 : (0 : Int) ≤ (k : Int) := by omega
      have i2 : (k : Int) < (n : Int) := by omega
      obtain ⟨b, o, ad, cq, rfl, hz, ⟨e0, e1, e2, e3, e4, e5, e6⟩, hde⟩ := HI.out.at HT.out HN.out hk'
      have HFT := Lib.hid (filter_take (P := fun y => bitB mask y.k) hkw)
      have hok1 := HOW.out (ws.getD k wz) (by simp [List.getD, hkw])
      have hkey := okW_key hok1
      have hxl := okW_len hok1
      have HD := Lib.hid hde
      clear hok1 hde
      generalize ws.getD k wz = x at *
      obtain ⟨xk, xc, xs', xq, xv, xd, xx⟩ := x
      simp only at e0 e1 e2 e3 e4 e5 e6 HFT hkey hxl HD
      obtain ⟨kk, rfl⟩ : ∃ kk : Nat, xk = (kk : Int) := ⟨xk.toNat, by omega⟩
      go_wp2_with fail
      refine (bit7_any mask kk _ hm0' hM (by omega)).mono ?_
      rintro e w2 ⟨rfl, hw⟩
      subst w2
      cases hbit : bitB mask (kk : Int)
      · rw [hbit, if_neg (by simp), List.append_nil] at HFT
        have HM2 : Hid (es.map (·.x) = (ws.take (k + 1)).filter (fun y => bitB mask y.k)) := by rw [HFT.out]; exact HM
        clear hbit
        go_wp2
        exact ⟨⟨k + 1, L, g, cp, es, by omega, by omega, by go_num, rfl, HL, HM2, HR, HT⟩, by simp [intOf]; omega⟩
      rw [hbit, if_pos rfl] at HFT
      clear hbit
      go_wp2_with fail
      refine (copy_any ⟨(kk : Int), xc, xs', xq, xv, xd, xx⟩ _ _ _ (by simp only; omega) HD.out).mono ?_
      rintro e w2 ⟨g2, cp2, rfl, hg1, hg2, hg3, hb⟩
      have HT2 := Lib.hid (below_step HT.out HT.out.size hb)
      have HR2 := Lib.hid (HR.out.below hb)
      have HG : Hid (HoldsDeps w2 g2 0 xx) := hg3
      have hg5 : g2 ≠ g := by have := HR.out.lt; omega
      have hg6 : W0.heap.size ≤ g2 := Nat.le_trans HT.out.size hg1
      clear hb hg3 hg1 HD x0 x1 x2 x3 x4 x5 e0 e1 e2 e3 e4 e5 e6
      have HW : Hid (RowEs (w2.alloc (.cells #[.int .i64 (kk : Int), .int .i64 xc, .int .i64 xs', .int .i64 xq, .int .i64 xv, .bool xd, .slice (some ⟨g2, 0, none⟩) xx.length cp2] 37)) W0.heap.size g cp es) := HR2.out.below ((Below.refl _ _).alloc (Nat.le_refl _) _)
      have HOW2 : Hid ((w2.alloc (.cells #[.int .i64 (kk : Int), .int .i64 xc, .int .i64 xs', .int .i64 xq, .int .i64 xv, .bool xd, .slice (some ⟨g2, 0, none⟩) xx.length cp2] 37)).ownsRow W0.heap.size 37 7 (.slice (some ⟨g, 0, none⟩) L cp) L (es.flatMap wrVals)) := by
        have := HW.out.own
        rw [HL.out] at this
        exact this
      have hsz : W0.heap.size ≤ w2.heap.size := HT2.out.size
      go_wp2_with (at_builtin; refine wpList_append_lies _ (by rfl) _ _ _ (by rfl) W0.heap.size 37 i0 (wrV 0 0 0 0 0 false none 0 0) 7 72 Tryz.underlying27 HI0.out HX0.out.1 HX0.out.2.1 HX0.out.2.2 (by rfl) (by omega) (.slice (some ⟨g, 0, none⟩) L cp) L (es.flatMap wrVals) (by rfl) HOW2.out ⟨w2.heap.size, 0, none⟩ 1 1 (wrVals ⟨⟨(kk : Int), xc, xs', xq, xv, xd, xx⟩, g2, cp2⟩) (by rfl) (by rfl) (one_cells w2 _ ⟨⟨(kk : Int), xc, xs', xq, xv, xd, xx⟩, g2, cp2⟩) (by simpa using vals_one [⟨⟨(kk : Int), xc, xs', xq, xv, xd, xx⟩, g2, cp2⟩]) (by omega) (by unfold maxLen; omega) (by omega) (by simp; omega) _ rfl ?_; intro g3 cp3 w5 hown hgrow hg3 _; refine Hid.out ?_)
      refine Lib.hid ?_
      have HT5 : Hid (Below W0.heap.size W0 w5) := (HT2.out.alloc hsz _).grown hgrow (by simp; omega) fun j hj => by simp only [Value.ownBlock, Option.some.injEq] at hj; have := HR2.out.le; omega
      have HR5 : Hid (RowEs w5 W0.heap.size g3 cp3 (es ++ [⟨⟨(kk : Int), xc, xs', xq, xv, xd, xx⟩, g2, cp2⟩])) := by
        refine HW.out.more ⟨hg6, by simp; omega, hg5, HG.out.below ((Below.refl w2.heap.size w2).alloc (Nat.le_refl _) _) hg2⟩ (by rw [HL.out]; exact hown) hgrow hg3
      have HM5 : Hid ((es ++ [(⟨⟨(kk : Int), xc, xs', xq, xv, xd, xx⟩, g2, cp2⟩ : En)]).map (·.x) = (ws.take (k + 1)).filter (fun y => bitB mask y.k)) := by
        rw [HFT.out, List.map_append, HM.out]
        exact Lib.hid rfl
      have HL5 : Hid ((es ++ [(⟨⟨(kk : Int), xc, xs', xq, xv, xd, xx⟩, g2, cp2⟩ : En)]).length = L + 1) := by
        rw [List.length_append, HL.out]
        exact Lib.hid rfl
      clear hown hgrow HW HOW2
      go_wp2
      exact ⟨⟨k + 1, L + 1, g3, cp3, _, by omega, by omega, by go_num, rfl, HL5, HM5, HR5, HT5⟩, by simp [intOf]; omega⟩
    · have hkk : k = n := by omega
      subst hkk
      have HMF : Hid (es.map (·.x) = R) := by
        rw [HE.out]
        have h := HM.out
        rw [List.take_of_length_le (by rw [HN.out]; exact Nat.le_refl _)] at h
        exact h
      have HFR : Hid (Few R) := fun i hi => by
        have hm : R.getD i wz ∈ R := by simp [List.getD, hi]
        have h1 : R.getD i wz ∈ ws := by
          have h2 := HE.out
          rw [h2] at hm ⊢
          exact (List.mem_filter.1 hm).1
        have := okW_len (HOW.out _ h1)
        omega
      have HLF : Hid (R.length = L) := by rw [← HMF.out, List.length_map]; exact HL
      go_wp2
      go_ret
      exact ⟨some ⟨g, 0, none⟩, cp, by rw [HLF.out]; rfl, HR.out.isWs HMF.out HFR.out, HBT.out _ HT.out⟩

end Go.Proofs.YtcapahiklphhjaaGreatDoor

/- What is asked of a site, the program's side: the contracts of impl.chosen and impl.ShimAll. -/
namespace Go.Proofs.YtcapahiklphhjaaGreatDoor
open Go.ChangeShapes Go.WideShapes Go.ChangeAt Go.RowKit Go.Joins
attribute [local go_sem ↓] Go.wp_at_zero Go.wp_at_succ

set_option maxRecDepth 100000 in
theorem call_enter {f : FuncId} {fn : Func} (hf : Tryz.prog.funcs[f]? = some fn) (h1 : (fn.name == "runtime.NumGoroutine") = false) (h2 : fn.body.isNone = false) (args : Array Value) (w : World) : (callFunc f args).run Tryz.prog w = .ok (.enter f args) w := by
  have h1' : ¬ fn.name = "runtime.NumGoroutine" := by simpa using h1
  have h2' : ¬ fn.body = none := by
    intro e
    rw [e] at h2
    simp at h2
  simp [go_sem, callFunc, hf]
  rw [if_neg h1', if_neg h2']

set_option maxRecDepth 100000 in
set_option maxHeartbeats 8000000 in
/-- A list of writes, chosen by a function value that is bound to one value. -/
theorem chosen_any (fid : FuncId) (v0 : Value) (P : Wr → Bool) (a : Option Addr) (n cap : Nat) (ws : List Wr) (w : World) (hn : ws.length = n) (hm : n ≤ 1000000) (hx : Few ws) (hh : IsWs w a ws)
    (hcf : ∀ (args : Array Value) (w : World), (callFunc fid args).run Tryz.prog w = .ok (.enter fid args) w) (hc : ∀ W, Below w.heap.size w W → ∀ x ∈ ws, ∀ ad cp, IsDeps W ad x.xs → Calls Tryz.prog fid #[v0, wrOf x ad cp] W fun e w' => e = .returned (.bool (P x)) ∧ Below W.heap.size W w') :
    Calls Tryz.prog 58 #[.slice a n cap, .func (.func fid) #[v0] #[]] w fun e w' => ∃ v es, e = .returned v ∧ es.map (·.x) = ws.filter P ∧ RowG w' w.heap.size v es ∧ Below w.heap.size w w' := by
  have HH := Lib.hid hh
  have HN := Lib.hid hn
  have HX := Lib.hid hx
  have HC := Lib.hid hc
  clear hh hn hx hc
  obtain ⟨i0, hi0, hx0⟩ := Option.map_eq_some_iff.1 infoWr
  simp only [Prod.mk.injEq] at hx0
  have HI0 := Lib.hid hi0
  have HX0 := Lib.hid hx0
  clear hi0 hx0
  go_enter Tryz.func58, Tryz.ntmps58
  go_wp2
  go_loopw [5, 10] (fun t i wr => ∃ (k : Nat) (v : Value) (es : List EnG), k ≤ n ∧ es.length ≤ k ∧ i = .int .i64 k ∧ v = t ∧ Hid (es.map (·.x) = (ws.take k).filter P) ∧ Hid (RowG wr w.heap.size v es) ∧ Hid (Below w.heap.size w wr)) (fun _ i _ => n - (intOf i).toNat)
  case atStart => exact ⟨0, _, [], Nat.zero_le _, Nat.le_refl _, rfl, rfl, rfl, rowG_nil _ _, Below.refl _ _⟩
  case round =>
    obtain ⟨k, v, es, hk, hek, rfl, rfl, HE, HR, HB⟩ := hrel
    by_cases hk' : k < n
    · have hkw : k < ws.length := by rw [HN.out]; exact hk'
      have i1 : (0 : Int) ≤ (k : Int) := by omega
      have i2 : (k : Int) < (n : Int) := by omega
      obtain ⟨b, o, ad, cq, rfl, hz, ⟨e0, e1, e2, e3, e4, e5, e6⟩, hde⟩ := HH.out.at HB.out HN.out hk'
      have HFT := Lib.hid (filter_take (P := P) hkw)
      have hxl := HX.out k hkw
      have HCX : Hid (∀ W, Below w.heap.size w W → ∀ ad cp, IsDeps W ad (ws.getD k wz).xs → Calls Tryz.prog fid #[v0, wrOf (ws.getD k wz) ad cp] W fun e w' => e = .returned (.bool (P (ws.getD k wz))) ∧ Below W.heap.size W w') := fun W hW => HC.out W hW _ (by simp [List.getD, hkw])
      have HD := Lib.hid hde
      clear hde
      generalize ws.getD k wz = x at *
      obtain ⟨pv, hpv⟩ : ∃ pv, pv = P x := ⟨_, rfl⟩
      rw [← hpv] at HFT HCX
      clear hpv
      obtain ⟨yk, yc, ys, yq, yv, yd, yy⟩ := x
      simp only at e0 e1 e2 e3 e4 e5 e6 hxl HD HCX
      have HBA : Hid (Below wr.heap.size wr (wr.alloc (.cells #[.int .i64 yk, .int .i64 yc, .int .i64 ys, .int .i64 yq, .int .i64 yv, .bool yd, .slice ad yy.length cq] 37))) := (Below.refl _ _).alloc (Nat.le_refl _) _
      have HXX : Hid (WrAt (wr.alloc (.cells #[.int .i64 yk, .int .i64 yc, .int .i64 ys, .int .i64 yq, .int .i64 yv, .bool yd, .slice ad yy.length cq] 37)) wr.heap.size 0 ⟨yk, yc, ys, yq, yv, yd, yy⟩ ad cq) := by
        have h := heap_alloc_new wr (.cells #[.int .i64 yk, .int .i64 yc, .int .i64 ys, .int .i64 yq, .int .i64 yv, .bool yd, .slice ad yy.length cq] 37)
        refine ⟨?_, ?_, ?_, ?_, ?_, ?_, ?_⟩ <;> (rw [cell_of_row _ _ _ _ _ (0, 0) h]; rfl)
      have hxs : wr.heap.size < (wr.alloc (.cells #[.int .i64 yk, .int .i64 yc, .int .i64 ys, .int .i64 yq, .int .i64 yv, .bool yd, .slice ad yy.length cq] 37)).heap.size := by simp
      have HB1 := Lib.hid (below_step HB.out HB.out.size HBA.out)
      have HD1 := Lib.hid (HD.out.below HBA.out)
      go_wp2_with fail
      refine (HCX.out _ HB1.out ad cq HD1.out).mono ?_
      rintro e w1 ⟨rfl, hb⟩
      have HB2 := Lib.hid (below_step HB1.out HB1.out.size hb)
      have HX1 : Hid (WrAt w1 wr.heap.size 0 ⟨yk, yc, ys, yq, yv, yd, yy⟩ ad cq) := HXX.out.of_block (hb.block _ hxs)
      have HD2 := Lib.hid (HD1.out.below hb)
      have HA2 : Hid (Below wr.heap.size wr w1) := below_step HBA.out HBA.out.size hb
      have HR1 := Lib.hid (HR.out.below HA2.out)
      have hzz : wr.heap.size < w1.heap.size := Nat.lt_of_lt_of_le hxs hb.size
      clear hb HXX HD1 HB1 HBA hxs e0 e1 e2 e3 e4 e5 e6
      cases pv
      · rw [if_neg (by simp), List.append_nil] at HFT
        have HE2 : Hid (es.map (·.x) = (ws.take (k + 1)).filter P) := by rw [HFT.out]; exact HE
        go_wp2
        exact ⟨⟨k + 1, v, es, by omega, by omega, by go_num, rfl, HE2, HR1, HB2⟩, by simp [intOf]; omega⟩
      rw [if_pos rfl] at HFT
      obtain ⟨c0, c1, c2, c3, c4, c5, c6⟩ := HX1.out
      simp only [Nat.zero_add] at c0 c1 c2 c3 c4 c5 c6
      go_wp2_with fail
      refine (icopy_any ⟨yk, yc, ys, yq, yv, yd, yy⟩ ad cq _ hxl HD2.out).mono ?_
      rintro e w2 ⟨a2, g2, cp2, rfl, hg, hb⟩
      have HB3 : Hid (Below w.heap.size w w2) := below_step HB2.out HB2.out.size hb
      have HG : Hid (FreshDeps wr.heap.size w2 a2 g2 yy) := hg.mono (Nat.le_of_lt hzz)
      have HR2 : Hid (RowG w2 w.heap.size v es) := HR1.out.below hb
      have hwr : w.heap.size ≤ wr.heap.size := HB.out.size
      have HAP : Hid (∀ d ∈ es, 0 < d.x.xs.length → 0 < yy.length → d.g ≠ g2) := fun d hd hp hq => by
        have h1 := ((HR.out.deps d hd).1 hp).2.2.1
        have h2 := (HG.out hq).2.1
        omega
      have HV : Hid (0 < yy.length → v.ownBlock ≠ some g2) := fun hq e => by
        have h1 := (HR.out.own.lt g2 e).2
        have h2 := (HG.out hq).2.1
        omega
      clear hb hg c0 c1 c2 c3 c4 c5 c6
      have HBC : Hid (Below w2.heap.size w2 (w2.alloc (.cells #[.int .i64 yk, .int .i64 yc, .int .i64 ys, .int .i64 yq, .int .i64 yv, .bool yd, .slice a2 yy.length cp2] 37))) := (Below.refl _ _).alloc (Nat.le_refl _) _
      have HRC := Lib.hid (HR2.out.below HBC.out)
      have hsz : w.heap.size ≤ w2.heap.size := HB3.out.size
      go_wp2_with (at_builtin; refine wpList_append_lies _ (by rfl) _ _ _ (by rfl) w.heap.size 37 i0 (wrV 0 0 0 0 0 false none 0 0) 7 72 Tryz.underlying27 HI0.out HX0.out.1 HX0.out.2.1 HX0.out.2.2 (by rfl) (by omega) v es.length (es.flatMap wrValsG) (by rfl) HRC.out.own ⟨w2.heap.size, 0, none⟩ 1 1 (wrValsG ⟨⟨yk, yc, ys, yq, yv, yd, yy⟩, a2, g2, cp2⟩) (by rfl) (by rfl) (oneG_cells w2 _ ⟨⟨yk, yc, ys, yq, yv, yd, yy⟩, a2, g2, cp2⟩) (by simpa using valsG_one [⟨⟨yk, yc, ys, yq, yv, yd, yy⟩, a2, g2, cp2⟩]) (by omega) (by unfold maxLen; omega) (by omega) (by simp; omega) _ rfl ?_; intro g3 cp3 w5 hown hgrow hg3 _; refine Hid.out ?_)
      refine Lib.hid ?_
      have HB5 : Hid (Below w.heap.size w w5) := (HB3.out.alloc hsz _).grown hgrow (by simp; omega) fun j hj => (HR2.out.own.lt j hj).1
      have HR5 : Hid (RowG w5 w.heap.size (.slice (some ⟨g3, 0, none⟩) (es.length + 1) cp3) (es ++ [⟨⟨yk, yc, ys, yq, yv, yd, yy⟩, a2, g2, cp2⟩])) :=
        HRC.out.more ((HG.out.below HBC.out).mono hwr) HV.out HAP.out hown hgrow hg3
      have HE5 : Hid ((es ++ [(⟨⟨yk, yc, ys, yq, yv, yd, yy⟩, a2, g2, cp2⟩ : EnG)]).map (·.x) = (ws.take (k + 1)).filter P) := by
        rw [HFT.out, List.map_append, HE.out]
        exact Lib.hid rfl
      have hl5 : (es ++ [(⟨⟨yk, yc, ys, yq, yv, yd, yy⟩, a2, g2, cp2⟩ : EnG)]).length ≤ k + 1 := by simp; omega
      clear hown hgrow HRC HBC
      go_wp2
      exact ⟨⟨k + 1, _, _, by omega, hl5, by go_num, rfl, HE5, HR5, HB5⟩, by simp [intOf]; omega⟩
    · have hkk : k = n := by omega
      subst hkk
      have HF : Hid (es.map (·.x) = ws.filter P) := by
        have h := HE.out
        rw [List.take_of_length_le (by rw [HN.out]; exact Nat.le_refl _)] at h
        exact h
      go_wp2
      go_ret
      exact ⟨_, es, rfl, HF.out, HR.out, HB.out⟩

set_option maxRecDepth 100000 in
set_option maxHeartbeats 8000000 in
theorem implAll_x (x : Sm) (a : Option Addr) (cap : Nat) (mask : Int) (w : World) (hn : x.ws.length ≤ 1048576) (hx : Few x.ws) (ht : x.t.size ≤ 1048576) (h : IsWs w a x.ws) (hM : mask ≤ 9223372036854775807) (hL : LV w) :
    Calls Tryz.prog 29 #[smV x a cap, .int .i64 mask] w fun e w' => ∃ a' cp γ, e = .returned (.slice a' (allX x mask).length cp) ∧ OwnA w' w.heap.size w'.heap.size a' (allX x mask) γ ∧ Below w.heap.size w w' := by
  obtain ⟨si, cl, sq, la, ws, t⟩ := x
  simp only at hn hx ht h
  have H := Lib.hid h
  have HX := Lib.hid hx
  have HL := Lib.hid hL
  clear h hx hL
  have HIM : Hid (∀ W a cap, LV W → IsWs W a ws → Calls Tryz.prog 11 #[shV si cl sq la a ws.length cap t] W fun e w' => e = .returned (.bool (smOkB ⟨si, cl, sq, la, ws, t⟩)) ∧ Below W.heap.size W w') := fun W a cap hv hw => implOk_x ⟨si, cl, sq, la, ws, t⟩ a cap W hn HX.out ht hw hv
  have HOKM : Hid (smOkB ⟨si, cl, sq, la, ws, t⟩ = true → mapOkB ws = true) := fun h => ok_map h
  obtain ⟨R, hR⟩ : ∃ R, R = allX ⟨si, cl, sq, la, ws, t⟩ mask := ⟨_, rfl⟩
  rw [← hR]
  unfold allX at hR
  simp only at hR
  obtain ⟨rr, hrr⟩ : ∃ rr, rr = smOkB ⟨si, cl, sq, la, ws, t⟩ := ⟨_, rfl⟩
  rw [← hrr] at HIM HOKM hR
  have HR := Lib.hid hR
  clear hR hrr
  unfold smV
  simp only
  obtain ⟨n, hnn⟩ : ∃ n, ws.length = n := ⟨_, rfl⟩
  rw [hnn] at hn HIM
  rw [hnn]
  have HN := Lib.hid hnn
  clear hnn
  have HB0 : Hid (Below w.heap.size w (w.alloc (.cells #[.int .i64 si, .int .i64 cl, .int .i64 sq, .int .i64 la, .slice a n cap, .string t] 29))) := (Below.refl _ _).alloc (Nat.le_refl _) _
  have HS0 := Lib.hid (SBox.start w si cl sq la a n cap t 29)
  have hmf : ∀ (fn : Fn) (first cap : Array Value) (w : World), (Instr.makeFunc fn first cap).run Tryz.prog w = .ok (.func fn first cap) w := fun _ _ _ _ => rfl
  unfold shV
  go_enter Tryz.func29, Tryz.ntmps29
  by_cases hm0 : mask < 0
  · have HE : Hid (R = []) := by rw [HR.out, if_neg (by omega)]; exact Lib.hid rfl
    go_wp2
    go_ret
    exact ⟨none, 0, fun _ => 0, by rw [HE.out]; rfl, by rw [HE.out]; exact .inl rfl, HB0.out⟩
  have hm0' : 0 ≤ mask := by omega
  go_wp2_with fail
  generalize w.alloc (.cells #[.int .i64 si, .int .i64 cl, .int .i64 sq, .int .i64 la, .slice a n cap, .string t] 29) = W0 at *
  have HLV := Lib.hid (HL.out.below HB0.out)
  refine (HIM.out _ a cap HLV.out (H.out.below HB0.out)).mono ?_
  rintro e w1 ⟨rfl, hb⟩
  have HB1 := Lib.hid (below_step HB0.out HB0.out.size hb)
  have HS1 := Lib.hid (HS0.out.below hb)
  clear hb HB0 HS0 HLV
  by_cases hok : rr = true
  rotate_left
  · have hrf : rr = false := by simpa using hok
    have HE : Hid (R = []) := by rw [HR.out, if_neg (by simp [hrf])]; exact Lib.hid rfl
    subst hrf
    clear hok
    go_wp2
    go_ret
    exact ⟨none, 0, fun _ => 0, by rw [HE.out]; rfl, by rw [HE.out]; exact .inl rfl, HB1.out⟩
  have HE : Hid (R = ws.filter (fun y => bitB mask y.k)) := by rw [HR.out, if_pos ⟨hok, hm0'⟩]; exact Lib.hid rfl
  have HOW : Hid (∀ x ∈ ws, okW x = true) := ((mapOk_iff ws).1 (HOKM.out hok)).1
  have hn6 : n ≤ 6 := by rw [← HN.out]; exact mapOk_len (HOKM.out hok)
  subst hok
  clear HR HOKM HIM
  obtain ⟨-, x0, x1, x2, x3, x4, x5, -⟩ := HS1.out
  go_wp2_with fail
  have hcf : ∀ (args : Array Value) (w : World), (callFunc 69 args).run Tryz.prog w = .ok (.enter 69 args) w := call_enter Tryz.func69 (by kernel_rfl) (by kernel_rfl)
  refine (chosen_any 69 (.int .i64 mask) (fun y => bitB mask y.k) a n cap ws _ HN.out (by omega) HX.out (H.out.below HB1.out) hcf (fun W _ x hx ad cp _ => wants_any mask x ad cp W hm0' hM (okW_key (HOW.out x hx)))).mono ?_
  rintro e w2 ⟨v, es, rfl, hes, hrow, hb⟩
  have HB2 := Lib.hid (below_step HB1.out HB1.out.size hb)
  obtain ⟨ga, gc, L, rfl, hl, hg⟩ := hrow.ownA (hes.trans HE.out.symm)
  have HG := Lib.hid (hg.wider HB1.out.size (Nat.le_refl _))
  have HLL := Lib.hid hl
  clear hb hrow hes hg hl
  go_wp2
  go_ret
  exact ⟨ga, gc, gammaG es, by rw [HLL.out]; rfl, HG.out, HB2.out⟩

end Go.Proofs.YtcapahiklphhjaaGreatDoor
