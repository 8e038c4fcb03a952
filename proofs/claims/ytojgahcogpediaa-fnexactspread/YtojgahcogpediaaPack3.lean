import Derived.Test.YtojgahcogpediaaPack2
import Derived.Test.YtojgahcogpediaaPack1
import Derived.Deep.DrawnRows
/- A row of writes that grows; the contract of the specification's l02Copies. -/
namespace Go.Proofs.Ytojgahcogpediaa
open Go.ChangeShapes Go.WideShapes Go.ChangeAt Go.RowKit Go.Joins
attribute [local go_sem ↓] Go.wp_at_zero Go.wp_at_succ

/-- A write, the block of its dependencies, and their room. -/
structure En where
  x : Wr
  g : Nat
  cp : Nat

def ez : En := ⟨wz, 0, 0⟩

def wrVals (e : En) : List Value := [.int .i64 e.x.k, .int .i64 e.x.c, .int .i64 e.x.s, .int .i64 e.x.q, .int .i64 e.x.v, .bool e.x.de, .slice (some ⟨e.g, 0, none⟩) e.x.xs.length e.cp]

theorem vals_len : ∀ es : List En, (es.flatMap wrVals).length = es.length * 7
  | [] => rfl
  | e :: r => by
    rw [List.flatMap_cons, List.length_append, vals_len r]
    simp [wrVals]
    omega

theorem vals_at : ∀ (es : List En) (i c : Nat), i < es.length → c < 7 → (es.flatMap wrVals)[i * 7 + c]? = (wrVals (es.getD i ez))[c]?
  | [], i, c, hi, _ => by simp at hi
  | e :: r, 0, c, _, hc => by
    rw [List.flatMap_cons, List.getElem?_append_left (by simp [wrVals]; omega)]
    simp
  | e :: r, i + 1, c, hi, hc => by
    rw [List.flatMap_cons, List.getElem?_append_right (by simp [wrVals]; omega)]
    have := vals_at r i c (by simpa using hi) hc
    rw [show (i + 1) * 7 + c - (wrVals e).length = i * 7 + c by simp [wrVals]; omega, this]
    simp

theorem vals_one (es : List En) : ∀ u ∈ es.flatMap wrVals, u.oneCell' = true := by
  intro u hu
  obtain ⟨e, _, h⟩ := List.mem_flatMap.1 hu
  simp only [wrVals, List.mem_cons, List.not_mem_nil, or_false] at h
  rcases h with rfl | rfl | rfl | rfl | rfl | rfl | rfl <;> rfl

/-- A row of writes of one's own, from block number base on. -/
structure RowEs (w : World) (base g cap : Nat) (es : List En) : Prop where
  le : base ≤ g
  lt : g < w.heap.size
  own : w.ownsRow base 41 7 (.slice (some ⟨g, 0, none⟩) es.length cap) es.length (es.flatMap wrVals)
  deps : ∀ e ∈ es, base ≤ e.g ∧ e.g < w.heap.size ∧ e.g ≠ g ∧ HoldsDeps w e.g 0 e.x.xs

theorem RowEs.below {w w' : World} {base g cap : Nat} {es : List En} (h : RowEs w base g cap es) (hb : Below w.heap.size w w') : RowEs w' base g cap es where
  le := h.le
  lt := Nat.lt_of_lt_of_le h.lt hb.size
  own := h.own.kept (row := none) ⟨hb.os, hb.tape, hb.output, hb.size, fun k hk _ => hb.block k hk⟩ (.inr (by simp [Value.ownBlock]))
  deps := fun e he => ⟨(h.deps e he).1, Nat.lt_of_lt_of_le (h.deps e he).2.1 hb.size, (h.deps e he).2.2.1, (h.deps e he).2.2.2.below hb (h.deps e he).2.1⟩

theorem rowEs_start (w : World) (base : Nat) (hb : base ≤ w.heap.size) : RowEs (w.alloc (.cells #[] 41)) base w.heap.size 0 [] where
  le := hb
  lt := by simp
  own := World.ownsRow_made w #[] 0 hb (by simp [maxLen]) (by simp)
  deps := fun e he => by simp at he

def gamma (es : List En) (i : Nat) : Nat := (es.getD i ez).g

theorem RowEs.holds {w : World} {base g cap : Nat} {es : List En} (h : RowEs w base g cap es) {ws : List Wr} (hw : es.map (·.x) = ws) : HoldsWs w g ws (gamma es) := by
  subst hw
  refine ⟨h.lt, fun i hi => ?_⟩
  have hi' : i < es.length := by simpa using hi
  have hx : (es.map (·.x)).getD i wz = (es.getD i ez).x := by simp [List.getD, hi']
  have hm : es.getD i ez ∈ es := by simp [List.getD, hi']
  rw [hx]
  have c : ∀ c, c < 7 → w.cell? ⟨g, i * 7 + c, none⟩ = (wrVals (es.getD i ez))[c]? := fun c hc => by rw [h.own.cellAt _ (by omega), vals_at es i c hi' hc]
  exact ⟨⟨(es.getD i ez).cp, c 0 (by omega), c 1 (by omega), c 2 (by omega), c 3 (by omega), c 4 (by omega), c 5 (by omega), c 6 (by omega)⟩, (h.deps _ hm).2.1, (h.deps _ hm).2.2.2⟩

/-- One write more. -/
theorem RowEs.more {w w5 : World} {base g cap g5 cap5 : Nat} {es : List En} {e : En} (h : RowEs w base g cap es) (he : base ≤ e.g ∧ e.g < w.heap.size ∧ e.g ≠ g ∧ HoldsDeps w e.g 0 e.x.xs)
    (hown : w5.ownsRow base 41 7 (.slice (some ⟨g5, 0, none⟩) (es.length + 1) cap5) (es.length + 1) (es.flatMap wrVals ++ wrVals e)) (hgrow : w.grownBy w5 (some g)) (hg : some g = some g5 ∨ g5 = w.heap.size) : RowEs w5 base g5 cap5 (es ++ [e]) where
  le := (hown.lt g5 rfl).1
  lt := (hown.lt g5 rfl).2
  own := by
    rw [List.length_append, List.flatMap_append]
    simpa using hown
  deps := by
    have : ∀ d : En, (base ≤ d.g ∧ d.g < w.heap.size ∧ d.g ≠ g ∧ HoldsDeps w d.g 0 d.x.xs) → base ≤ d.g ∧ d.g < w5.heap.size ∧ d.g ≠ g5 ∧ HoldsDeps w5 d.g 0 d.x.xs := fun d ⟨h1, h2, h3, h4⟩ =>
      ⟨h1, Nat.lt_of_lt_of_le h2 hgrow.size, by
        rcases hg with hg | hg
        · injection hg with hg
          rw [← hg]
          exact h3
        · omega, fun i hi => by
        have e' : ∀ o, w5.cell? ⟨d.g, o, none⟩ = w.cell? ⟨d.g, o, none⟩ := fun o => World.cell?_of_block (a := ⟨d.g, o, none⟩) (hgrow.block d.g h2 (by simpa using h3))
        obtain ⟨a0, a1, a2, a3⟩ := h4 i hi
        exact ⟨(e' _).trans a0, (e' _).trans a1, (e' _).trans a2, (e' _).trans a3⟩⟩
    intro d hd
    rcases List.mem_append.1 hd with hd | hd
    · exact this d (h.deps d hd)
    · have hd : d = e := by simpa using hd
      subst hd
      exact this d he

theorem one_cells (w : World) (t : Nat) (e : En) : ∀ j u, (wrVals e)[j]? = some u → (w.alloc (.cells #[.int .i64 e.x.k, .int .i64 e.x.c, .int .i64 e.x.s, .int .i64 e.x.q, .int .i64 e.x.v, .bool e.x.de, .slice (some ⟨e.g, 0, none⟩) e.x.xs.length e.cp] t)).cell? ((⟨w.heap.size, 0, none⟩ : Addr).add j) = some u := by
  intro j u hu
  have e1 : (⟨w.heap.size, 0, none⟩ : Addr).add j = ⟨w.heap.size, j, none⟩ := by
    unfold Addr.add
    split
    · rename_i h
      rw [h]
    · simp
  rw [e1, cell_of_row _ _ j _ t (0, 0) (heap_alloc_new w _), ← hu]
  simp [wrVals]

set_option maxHeartbeats 2000000 in
theorem copies_gen (a : Option Addr) (n cap : Nat) (ws : List Wr) (w : World) (hn : ws.length = n) (hm : n ≤ 1048576) (hx : Few ws) (hh : IsWs w a ws) :
    Calls Try.prog 88 #[.slice a n cap] w fun e w' => ∃ g cp es, e = .returned (.slice (some ⟨g, 0, none⟩) n cp) ∧ es.map (·.x) = ws ∧ RowEs w' w.heap.size g cp es ∧ Below w.heap.size w w' := by
  have HH : Hid (IsWs w a ws) := hh
  have HN : Hid (ws.length = n) := hn
  have HX : Hid (Few ws) := hx
  clear hh hn hx
  obtain ⟨i0, hi0, hx0⟩ := Option.map_eq_some_iff.1 infoWr
  simp only [Prod.mk.injEq] at hx0
  have HI0 := Lib.hid hi0
  have HX0 := Lib.hid hx0
  clear hi0 hx0
  go_enter Try.func88, Try.ntmps88
  go_wp2
  go_loopw [3, 4] (fun t i wr => ∃ (k g cp : Nat) (es : List En), k ≤ n ∧ i = .int .i64 k ∧ t = .slice (some ⟨g, 0, none⟩) k cp ∧ Hid (es.map (·.x) = ws.take k) ∧ Hid (es.length = k) ∧ Hid (RowEs wr w.heap.size g cp es) ∧ Hid (Below w.heap.size w wr)) (fun _ i _ => n - (intOf i).toNat)
  case atStart => exact ⟨0, w.heap.size, 0, [], Nat.zero_le _, rfl, rfl, by simp [Hid], rfl, rowEs_start w _ (Nat.le_refl _), (Below.refl _ _).alloc (Nat.le_refl _) _⟩
  case round =>
    obtain ⟨k, g, cp, es, hk, rfl, rfl, HE, HL, HR, HB⟩ := hrel
    by_cases hk' : k < n
    · obtain ⟨b, o, ad, cq, rfl, hz, ⟨e0, e1, e2, e3, e4, e5, e6⟩, hd⟩ := HH.out.at HB.out HN.out hk'
      have i1 : (0 : Int) ≤ (k : Int) := by omega
      have i2 : (k : Int) < (n : Int) := by omega
      have hxl := HX.out k (by rw [HN.out]; exact hk')
      have HD : Hid (IsDeps wr ad (ws.getD k wz).xs) := hd
      have HT : Hid (ws.take (k + 1) = ws.take k ++ [ws.getD k wz]) := by
        have hkw : k < ws.length := by rw [HN.out]; exact hk'
        rw [List.take_add_one, List.getElem?_eq_getElem hkw]
        simp [List.getD, hkw, Hid]
      clear hd
      generalize ws.getD k wz = x at *
      obtain ⟨xk, xc, xs', xq, xv, xd, xx⟩ := x
      simp only at e0 e1 e2 e3 e4 e5 e6 hxl HD
      go_wp2_with fail
      refine (copy_any ⟨xk, xc, xs', xq, xv, xd, xx⟩ _ _ _ hxl HD.out).mono ?_
      rintro e w2 ⟨g2, cp2, rfl, hg1, hg2, hg3, hb⟩
      have HB2 : Hid (Below w.heap.size w w2) := below_step HB.out HB.out.size hb
      have HR2 : Hid (RowEs w2 w.heap.size g cp es) := HR.out.below hb
      have HG : Hid (HoldsDeps w2 g2 0 xx) := hg3
      have hg5 : g2 ≠ g := by have := HR.out.lt; omega
      have hg6 : w.heap.size ≤ g2 := Nat.le_trans HB.out.size hg1
      clear hb hg3 hg1 HD
      have HW : Hid (RowEs (w2.alloc (.cells #[.int .i64 xk, .int .i64 xc, .int .i64 xs', .int .i64 xq, .int .i64 xv, .bool xd, .slice (some ⟨g2, 0, none⟩) xx.length cp2] 41)) w.heap.size g cp es) := HR2.out.below ((Below.refl _ _).alloc (Nat.le_refl _) _)
      have HOW : Hid ((w2.alloc (.cells #[.int .i64 xk, .int .i64 xc, .int .i64 xs', .int .i64 xq, .int .i64 xv, .bool xd, .slice (some ⟨g2, 0, none⟩) xx.length cp2] 41)).ownsRow w.heap.size 41 7 (.slice (some ⟨g, 0, none⟩) k cp) k (es.flatMap wrVals)) := by
        have := HW.out.own
        rw [HL.out] at this
        exact this
      have hsz : w.heap.size ≤ w2.heap.size := HB2.out.size
      go_wp2_with (at_builtin; refine wpList_append_lies _ (by rfl) _ _ _ (by rfl) w.heap.size 41 i0 (wrV 0 0 0 0 0 false none 0 0) 7 72 Try.underlying44 HI0.out HX0.out.1 HX0.out.2.1 HX0.out.2.2 (by rfl) (by omega) (.slice (some ⟨g, 0, none⟩) k cp) k (es.flatMap wrVals) (by rfl) HOW.out ⟨w2.heap.size, 0, none⟩ 1 1 (wrVals ⟨⟨xk, xc, xs', xq, xv, xd, xx⟩, g2, cp2⟩) (by rfl) (by rfl) (one_cells w2 _ ⟨⟨xk, xc, xs', xq, xv, xd, xx⟩, g2, cp2⟩) (by simpa using vals_one [⟨⟨xk, xc, xs', xq, xv, xd, xx⟩, g2, cp2⟩]) (by omega) (by unfold maxLen; omega) (by omega) (by simp; omega) _ rfl ?_; intro g3 cp3 w5 hown hgrow hg3 _; refine Hid.out ?_)
      refine Lib.hid ?_
      have HB5 : Hid (Below w.heap.size w w5) := (HB2.out.alloc hsz _).grown hgrow (by simp; omega) fun j hj => by simp only [Value.ownBlock, Option.some.injEq] at hj; have := HR2.out.le; omega
      have HR5 : Hid (RowEs w5 w.heap.size g3 cp3 (es ++ [⟨⟨xk, xc, xs', xq, xv, xd, xx⟩, g2, cp2⟩])) := by
        refine HW.out.more ⟨hg6, by simp; omega, hg5, HG.out.below ((Below.refl w2.heap.size w2).alloc (Nat.le_refl _) _) hg2⟩ (by rw [HL.out]; exact hown) hgrow hg3
      have HE5 : Hid ((es ++ [(⟨⟨xk, xc, xs', xq, xv, xd, xx⟩, g2, cp2⟩ : En)]).map (·.x) = ws.take (k + 1)) := by
        rw [HT.out, List.map_append, HE.out]
        exact Lib.hid rfl
      have HL5 : Hid ((es ++ [(⟨⟨xk, xc, xs', xq, xv, xd, xx⟩, g2, cp2⟩ : En)]).length = k + 1) := by
        rw [List.length_append, HL.out]
        exact Lib.hid rfl
      clear hown hgrow HW HOW
      go_wp2
      exact ⟨⟨k + 1, g3, cp3, _, by omega, by go_num, rfl, HE5, HL5, HR5, HB5⟩, by simp [intOf]; omega⟩
    · have hkk : k = n := by omega
      subst hkk
      go_wp2
      go_ret
      refine ⟨g, cp, es, rfl, ?_, HR.out, HB.out⟩
      rw [HE.out, List.take_of_length_le (by rw [HN.out]; exact Nat.le_refl _)]

theorem copies_any (b n cap : Nat) (ws : List Wr) (γ : Nat → Nat) (w : World) (hn : ws.length = n) (hm : n ≤ 1048576) (hx : Few ws) (hh : HoldsWs w b ws γ) :
    Calls Try.prog 88 #[.slice (some ⟨b, 0, none⟩) n cap] w fun e w' => ∃ g cp es, e = .returned (.slice (some ⟨g, 0, none⟩) n cp) ∧ es.map (·.x) = ws ∧ RowEs w' w.heap.size g cp es ∧ Below w.heap.size w w' :=
  copies_gen _ n cap ws w hn hm hx (hh.isWs hx)

end Go.Proofs.Ytojgahcogpediaa

/- Plain facts on the order of writes: no Go in sight. -/
namespace Go.Proofs.Ytojgahcogpediaa

def dcmp (d e : Dp) : Int := if d.k ≠ e.k then sgn d.k e.k else tcmp d.c d.s d.q e.c e.s e.q

def depsCmp : List Dp → List Dp → Int
  | [], [] => 0
  | [], _ :: _ => -1
  | _ :: _, [] => 1
  | d :: r, e :: t => if dcmp d e ≠ 0 then dcmp d e else depsCmp r t

def bit (b : Bool) : Int := if b then 1 else 0

def wcmp (k c s q v : Int) (de : Bool) (xs : List Dp) (k' c' s' q' v' : Int) (de' : Bool) (ys : List Dp) : Int :=
  if tcmp c s q c' s' q' ≠ 0 then tcmp c s q c' s' q' else if k ≠ k' then sgn k k' else if v ≠ v' then sgn v v' else if de ≠ de' then sgn (bit de) (bit de') else depsCmp xs ys

theorem dcmp_or (d e : Dp) : orI [sgn d.k e.k, tcmp d.c d.s d.q e.c e.s e.q] = dcmp d e := by
  unfold dcmp
  by_cases h : d.k = e.k
  · have hs : sgn e.k e.k = 0 := sgn_self _
    simp only [orI, h]
    by_cases ht : tcmp d.c d.s d.q e.c e.s e.q = 0
    · simp [ht, hs]
    · simp [ht, hs]
  · have hs : sgn d.k e.k ≠ 0 := fun e0 => h (sgn_zero.1 e0)
    simp [orI, hs, h]

theorem depsCmp_first : ∀ (xs ys : List Dp) (j : Nat), j < xs.length → j < ys.length → (∀ i, i < j → dcmp (xs.getD i dz) (ys.getD i dz) = 0) → dcmp (xs.getD j dz) (ys.getD j dz) ≠ 0 → depsCmp xs ys = dcmp (xs.getD j dz) (ys.getD j dz)
  | [], _, _, h, _, _, _ => by simp at h
  | _ :: _, [], _, _, h, _, _ => by simp at h
  | d :: r, e :: t, 0, _, _, _, hn => by
    have hn' : dcmp d e ≠ 0 := hn
    simp [depsCmp, hn']
  | d :: r, e :: t, j + 1, h1, h2, hz, hn => by
    have h0 : dcmp d e = 0 := hz 0 (by omega)
    have ih := depsCmp_first r t j (by simpa using h1) (by simpa using h2) (fun i hi => by simpa using hz (i + 1) (by omega)) (by simpa using hn)
    simp only [depsCmp, h0, ne_eq, not_true_eq_false, if_false]
    simpa using ih

theorem depsCmp_none : ∀ (xs ys : List Dp), (∀ i, i < xs.length → i < ys.length → dcmp (xs.getD i dz) (ys.getD i dz) = 0) → depsCmp xs ys = sgn xs.length ys.length
  | [], [], _ => by simp [depsCmp, sgn]
  | [], e :: t, _ => by
    simp only [depsCmp, sgn, List.length_nil, List.length_cons]
    rw [if_pos (by omega)]
  | d :: r, [], _ => by
    simp only [depsCmp, sgn, List.length_nil, List.length_cons]
    rw [if_neg (by omega), if_pos (by omega)]
  | d :: r, e :: t, h => by
    have h0 : dcmp d e = 0 := h 0 (by simp) (by simp)
    have ih := depsCmp_none r t (fun i h1 h2 => by simpa using h (i + 1) (by simpa using h1) (by simpa using h2))
    simp only [depsCmp, h0, ne_eq, not_true_eq_false, if_false, ih, List.length_cons]
    unfold sgn
    by_cases h1 : (r.length : Int) < t.length
    · rw [if_pos h1, if_pos (by omega)]
    · rw [if_neg h1]
      by_cases h2 : (t.length : Int) < r.length
      · rw [if_pos h2, if_neg (by omega), if_pos (by omega)]
      · rw [if_neg h2, if_neg (by omega), if_neg (by omega)]

theorem bit_sgn {a b : Bool} : sgn (bit a) (bit b) = 0 ↔ a = b := by
  rw [sgn_zero]
  cases a <;> cases b <;> simp [bit]

theorem wcmp_or (k c s q v : Int) (de : Bool) (xs : List Dp) (k' c' s' q' v' : Int) (de' : Bool) (ys : List Dp) :
    orI [tcmp c s q c' s' q', sgn k k', sgn v v', sgn (bit de) (bit de'), depsCmp xs ys] = wcmp k c s q v de xs k' c' s' q' v' de' ys := by
  simp only [orI, wcmp, ne_eq, sgn_zero (a := k), sgn_zero (a := v), bit_sgn]
  by_cases h : depsCmp xs ys = 0
  · simp [h]
  · simp [h]

theorem wcmp_tag {k c s q v : Int} {de : Bool} {xs : List Dp} {k' c' s' q' v' : Int} {de' : Bool} {ys : List Dp} (h : ¬ (c = c' ∧ s = s' ∧ q = q')) : wcmp k c s q v de xs k' c' s' q' v' de' ys = tcmp c s q c' s' q' := by
  unfold wcmp
  rw [if_pos]
  intro e
  exact h (tcmp_zero.1 e)

theorem wcmp_key {k c s q v : Int} {de : Bool} {xs : List Dp} {k' v' : Int} {de' : Bool} {ys : List Dp} (h : k ≠ k') : wcmp k c s q v de xs k' c s q v' de' ys = sgn k k' := by
  unfold wcmp
  rw [tcmp_self, if_neg (by simp), if_pos h]

theorem wcmp_val {k c s q v : Int} {de : Bool} {xs : List Dp} {v' : Int} {de' : Bool} {ys : List Dp} (h : v ≠ v') : wcmp k c s q v de xs k c s q v' de' ys = sgn v v' := by
  unfold wcmp
  rw [tcmp_self, if_neg (by simp), if_neg (by simp), if_pos h]

theorem wcmp_dead {k c s q v : Int} {de : Bool} {xs : List Dp} {de' : Bool} {ys : List Dp} (h : de ≠ de') : wcmp k c s q v de xs k c s q v de' ys = sgn (bit de) (bit de') := by
  unfold wcmp
  rw [tcmp_self, if_neg (by simp), if_neg (by simp), if_neg (by simp), if_pos h]

theorem wcmp_deps {k c s q v : Int} {de : Bool} {xs ys : List Dp} : wcmp k c s q v de xs k c s q v de ys = depsCmp xs ys := by
  unfold wcmp
  rw [tcmp_self, if_neg (by simp), if_neg (by simp), if_neg (by simp), if_neg (by simp)]

end Go.Proofs.Ytojgahcogpediaa

/- The contract of impl.TagCmp. -/
namespace Go.Proofs.Ytojgahcogpediaa
open Go.ChangeShapes Go.WideShapes Go.ChangeAt Go.RowKit
attribute [local go_sem ↓] Go.wp_at_zero Go.wp_at_succ

set_option maxHeartbeats 400000 in
theorem implTagCmp_eq (c s q : Int) (w : World) :
    Calls Try.prog 65 #[tagV c s q, tagV c s q] w fun e w' => e = .returned (.int .i64 0) ∧ Below w.heap.size w w' := by
  go_enter Try.func65, Try.ntmps65
  go_wp2_with fail
  go_ret
  exact ⟨rfl, ((Below.refl _ _).alloc (Nat.le_refl _) _).alloc (by simp) _⟩

theorem three_cells (W : World) (x y z : Int) (t b : Nat) (hb : W.heap.size = b) : ∀ i, i < [x, y, z].length → (W.alloc (Obj.cells #[.int .i64 x, .int .i64 y, .int .i64 z] t)).drew.cell? ⟨b, i, none⟩ = some (.int .i64 ([x, y, z].getD i 0)) := by
  subst hb
  intro i hi
  match i, hi with
  | 0, _ => simp [go_sem]
  | 1, _ => simp [go_sem]
  | 2, _ => simp [go_sem]

set_option maxHeartbeats 1000000 in
theorem implTagCmp_ne1 (c s q c' s' q' : Int) (w : World) (h : ¬ c = c') :
    Calls Try.prog 65 #[tagV c s q, tagV c' s' q'] w fun e w' => e = .returned (.int .i64 (orI [sgn c c', sgn s s', sgn q q'])) ∧ Below w.heap.size w w' := by
  go_enter Try.func65, Try.ntmps65
  go_wp2_with fail
  go_region_held3 (fun w' => w'.cell? ⟨w.heap.size, 0, none⟩ = some (.int .i64 c) ∧ w'.cell? ⟨w.heap.size, 1, none⟩ = some (.int .i64 s) ∧ w'.cell? ⟨w.heap.size, 2, none⟩ = some (.int .i64 q) ∧ w'.cell? ⟨w.heap.size + 1, 0, none⟩ = some (.int .i64 c') ∧ w'.cell? ⟨w.heap.size + 1, 1, none⟩ = some (.int .i64 s') ∧ w'.cell? ⟨w.heap.size + 1, 2, none⟩ = some (.int .i64 q')) (go_keep)
    (first | (go_at_call 66; refine (compare_any _ _ _).mono ?_; rintro e w' ⟨rfl, rfl⟩) | (go_at_call 64; refine (or_any _ [sgn c c', sgn s s', sgn q q'] _ _ (by simp) (by exact three_cells _ _ _ _ _ _ (by simp))).mono ?_; rintro e w' ⟨rfl, rfl⟩))
  all_goals
    go_wp2
    go_ret
    exact ⟨rfl, ((((Below.refl _ _).alloc (Nat.le_refl _) _).alloc (by simp) _).alloc (by simp; omega) _).drew⟩

set_option maxHeartbeats 1000000 in
theorem implTagCmp_ne2 (c s q s' q' : Int) (w : World) (h : ¬ s = s') :
    Calls Try.prog 65 #[tagV c s q, tagV c s' q'] w fun e w' => e = .returned (.int .i64 (orI [sgn c c, sgn s s', sgn q q'])) ∧ Below w.heap.size w w' := by
  go_enter Try.func65, Try.ntmps65
  go_wp2_with fail
  go_region_held3 (fun w' => w'.cell? ⟨w.heap.size, 0, none⟩ = some (.int .i64 c) ∧ w'.cell? ⟨w.heap.size, 1, none⟩ = some (.int .i64 s) ∧ w'.cell? ⟨w.heap.size, 2, none⟩ = some (.int .i64 q) ∧ w'.cell? ⟨w.heap.size + 1, 0, none⟩ = some (.int .i64 c) ∧ w'.cell? ⟨w.heap.size + 1, 1, none⟩ = some (.int .i64 s') ∧ w'.cell? ⟨w.heap.size + 1, 2, none⟩ = some (.int .i64 q')) (go_keep)
    (first | (go_at_call 66; refine (compare_any _ _ _).mono ?_; rintro e w' ⟨rfl, rfl⟩) | (go_at_call 64; refine (or_any _ [sgn c c, sgn s s', sgn q q'] _ _ (by simp) (by exact three_cells _ _ _ _ _ _ (by simp))).mono ?_; rintro e w' ⟨rfl, rfl⟩))
  all_goals
    go_wp2
    go_ret
    exact ⟨rfl, ((((Below.refl _ _).alloc (Nat.le_refl _) _).alloc (by simp) _).alloc (by simp; omega) _).drew⟩

set_option maxHeartbeats 1000000 in
theorem implTagCmp_ne3 (c s q q' : Int) (w : World) (h : ¬ q = q') :
    Calls Try.prog 65 #[tagV c s q, tagV c s q'] w fun e w' => e = .returned (.int .i64 (orI [sgn c c, sgn s s, sgn q q'])) ∧ Below w.heap.size w w' := by
  go_enter Try.func65, Try.ntmps65
  go_wp2_with fail
  go_region_held3 (fun w' => w'.cell? ⟨w.heap.size, 0, none⟩ = some (.int .i64 c) ∧ w'.cell? ⟨w.heap.size, 1, none⟩ = some (.int .i64 s) ∧ w'.cell? ⟨w.heap.size, 2, none⟩ = some (.int .i64 q) ∧ w'.cell? ⟨w.heap.size + 1, 0, none⟩ = some (.int .i64 c) ∧ w'.cell? ⟨w.heap.size + 1, 1, none⟩ = some (.int .i64 s) ∧ w'.cell? ⟨w.heap.size + 1, 2, none⟩ = some (.int .i64 q')) (go_keep)
    (first | (go_at_call 66; refine (compare_any _ _ _).mono ?_; rintro e w' ⟨rfl, rfl⟩) | (go_at_call 64; refine (or_any _ [sgn c c, sgn s s, sgn q q'] _ _ (by simp) (by exact three_cells _ _ _ _ _ _ (by simp))).mono ?_; rintro e w' ⟨rfl, rfl⟩))
  all_goals
    go_wp2
    go_ret
    exact ⟨rfl, ((((Below.refl _ _).alloc (Nat.le_refl _) _).alloc (by simp) _).alloc (by simp; omega) _).drew⟩

theorem implTagCmp_any (c s q c' s' q' : Int) (w : World) :
    Calls Try.prog 65 #[tagV c s q, tagV c' s' q'] w fun e w' => e = .returned (.int .i64 (tcmp c s q c' s' q')) ∧ Below w.heap.size w w' := by
  rw [← orI_three]
  by_cases h1 : c = c'
  · by_cases h2 : s = s'
    · by_cases h3 : q = q'
      · subst h1 h2 h3
        rw [orI_three, tcmp_self]
        exact implTagCmp_eq c s q w
      · subst h1 h2
        exact implTagCmp_ne3 c s q q' w h3
    · subst h1
      exact implTagCmp_ne2 c s q s' q' w h2
  · exact implTagCmp_ne1 c s q c' s' q' w h1

end Go.Proofs.Ytojgahcogpediaa

/- Contracts of impl.flagNum, spec.l01Bit, impl.depCmp, slices.CompareFunc over dependencies. -/
namespace Go.Proofs.Ytojgahcogpediaa
open Go.ChangeShapes Go.WideShapes Go.ChangeAt Go.RowKit Go.Joins
attribute [local go_sem ↓] Go.wp_at_zero Go.wp_at_succ

theorem flagNum_any (b : Bool) (w : World) :
    Calls Try.prog 67 #[.bool b] w fun e w' => e = .returned (.int .i64 (bit b)) ∧ w' = w := by
  cases b
  · go_enter Try.func67, Try.ntmps67
    go_wp2
    go_ret
    exact ⟨rfl, rfl⟩
  · go_enter Try.func67, Try.ntmps67
    go_wp2
    go_ret
    exact ⟨rfl, rfl⟩

theorem bit_any (b : Bool) (w : World) :
    Calls Try.prog 63 #[.bool b] w fun e w' => e = .returned (.int .i64 (bit b)) ∧ w' = w := by
  cases b
  · go_enter Try.func63, Try.ntmps63
    go_wp2
    go_ret
    exact ⟨rfl, rfl⟩
  · go_enter Try.func63, Try.ntmps63
    go_wp2
    go_ret
    exact ⟨rfl, rfl⟩

theorem two_cells (W : World) (x y : Int) (t b : Nat) (hb : W.heap.size = b) : ∀ i, i < [x, y].length → (W.alloc (Obj.cells #[.int .i64 x, .int .i64 y] t)).cell? ⟨b, i, none⟩ = some (.int .i64 ([x, y].getD i 0)) := by
  subst hb
  intro i hi
  match i, hi with
  | 0, _ => simp [go_sem]
  | 1, _ => simp [go_sem]

theorem alloc_held {W : World} {b o : Nat} {v : Value} (X : Obj) (h : W.cell? ⟨b, o, none⟩ = some v) (hz : b < W.heap.size) : (W.alloc X).cell? ⟨b, o, none⟩ = some v :=
  held_cell ((Below.refl _ _).alloc (Nat.le_refl _) X) h hz

theorem alloc_lt {W : World} {b : Nat} (X : Obj) (h : b < W.heap.size) : b < (W.alloc X).heap.size := by simp; omega

theorem alloc_below {w W : World} (X : Obj) (h : Below w.heap.size w W) : Below w.heap.size w (W.alloc X) := h.alloc h.size X

set_option maxHeartbeats 1000000 in
theorem depCmp_any (k c s q k' c' s' q' : Int) (w : World) :
    Calls Try.prog 69 #[depV k c s q, depV k' c' s' q'] w fun e w' => e = .returned (.int .i64 (dcmp ⟨k, c, s, q⟩ ⟨k', c', s', q'⟩)) ∧ Below w.heap.size w w' := by
  rw [← dcmp_or]
  go_enter Try.func69, Try.ntmps69
  go_wp2_with fail
  go_region_held3 (fun w' => w'.cell? ⟨w.heap.size, 0, none⟩ = some (.int .i64 k) ∧ w'.cell? ⟨w.heap.size, 1, none⟩ = some (.int .i64 c) ∧ w'.cell? ⟨w.heap.size, 2, none⟩ = some (.int .i64 s) ∧ w'.cell? ⟨w.heap.size, 3, none⟩ = some (.int .i64 q) ∧ w'.cell? ⟨w.heap.size + 1, 0, none⟩ = some (.int .i64 k') ∧ w'.cell? ⟨w.heap.size + 1, 1, none⟩ = some (.int .i64 c') ∧ w'.cell? ⟨w.heap.size + 1, 2, none⟩ = some (.int .i64 s') ∧ w'.cell? ⟨w.heap.size + 1, 3, none⟩ = some (.int .i64 q') ∧ w.heap.size + 1 < w'.heap.size ∧ Below w.heap.size w w')
    (first | (refine ⟨?_, ?_, ?_, ?_, ?_, ?_, ?_, ?_, ?_, ?_⟩ <;> first | (simp; done) | (simp; omega) | exact (((Below.refl _ _).alloc (Nat.le_refl _) _).alloc (by simp) _).drew) | (go_split_ands; refine ⟨?_, ?_, ?_, ?_, ?_, ?_, ?_, ?_, ?_, ?_⟩ <;> first | assumption | exact held_cell (by assumption) (by assumption) (by omega) | exact Nat.lt_of_lt_of_le (by assumption) (Below.size (by assumption)) | exact below_step (by assumption) (by omega) (by assumption) | exact alloc_held _ (by assumption) (by omega) | exact alloc_lt _ (by assumption) | exact alloc_below _ (by assumption)))
    (first | (go_at_call 66; refine (compare_any _ _ _).mono ?_; rintro e w1 ⟨rfl, rfl⟩) | (go_at_call 65; refine (implTagCmp_any _ _ _ _ _ _ _).mono ?_; rintro e w2 ⟨rfl, hb2⟩) | (go_at_call 64; refine (or_any _ [sgn k k', tcmp c s q c' s' q'] _ _ (by simp) (by exact two_cells _ _ _ _ _ (by simp))).mono ?_; rintro e w3 ⟨rfl, rfl⟩))
  obtain ⟨-, -, -, -, -, -, -, -, -, HB0⟩ := ‹_ ∧ _›
  have HB : Hid (Below w.heap.size w _) := HB0
  clear HB0 hb2
  go_wp2
  go_ret
  exact ⟨rfl, HB.out⟩

theorem depCmp_is (d e : Dp) (z : Int) (h : dcmp d e = z) (w : World) :
    Calls Try.prog 69 #[depV d.k d.c d.s d.q, depV e.k e.c e.s e.q] w fun r w' => r = .returned (.int .i64 z) ∧ Below w.heap.size w w' := by
  subst h
  exact depCmp_any d.k d.c d.s d.q e.k e.c e.s e.q w

set_option maxHeartbeats 1000000 in
theorem compareFunc_gen (a a' : Option Addr) (xs ys : List Dp) (cap cap' : Nat) (w : World) (hn : xs.length ≤ 1048576) (_hm : ys.length ≤ 1048576) (hh : IsDeps w a xs) (hh' : IsDeps w a' ys) :
    Calls Try.prog 68 #[.slice a xs.length cap, .slice a' ys.length cap', .func (.func 69) #[] #[]] w fun e w' => e = .returned (.int .i64 (depsCmp xs ys)) ∧ Below w.heap.size w w' := by
  have HH : Hid (IsDeps w a xs) := hh
  have HH' : Hid (IsDeps w a' ys) := hh'
  clear hh hh'
  go_enter Try.func68, Try.ntmps68
  go_wp2
  go_loopw [13] (fun i wr => ∃ k : Nat, k ≤ xs.length ∧ k ≤ ys.length ∧ i = .int .i64 k ∧ Hid (∀ j, j < k → dcmp (xs.getD j dz) (ys.getD j dz) = 0) ∧ Hid (Below w.heap.size w wr)) (fun i _ => xs.length - (intOf i).toNat)
  case atStart => exact ⟨0, Nat.zero_le _, Nat.zero_le _, rfl, fun j hj => by omega, Below.refl _ _⟩
  case round =>
    obtain ⟨k, hk, hky, rfl, HG, HB⟩ := hrel
    have i1 : (0 : Int) ≤ (k : Int) := by omega
    by_cases hk' : k < xs.length
    · obtain ⟨b, o, rfl, hz, e0, e1, e2, e3⟩ := HH.out.at HB.out hk'
      have i2 : (k : Int) < (xs.length : Int) := by omega
      by_cases hy' : k < ys.length
      · obtain ⟨b', o', rfl, hz', f0, f1, f2, f3⟩ := HH'.out.at HB.out hy'
        have i3 : (k : Int) < (ys.length : Int) := by omega
        have HBA : ∀ X Y, Hid (Below w.heap.size w ((wr.alloc X).alloc Y)) := fun X Y => (HB.out.alloc HB.out.size X).alloc (HB.out.alloc HB.out.size X).size Y
        have HN : Hid (dcmp (xs.getD k dz) (ys.getD k dz) ≠ 0 → depsCmp xs ys = dcmp (xs.getD k dz) (ys.getD k dz)) := fun h => depsCmp_first xs ys k hk' hy' HG.out h
        have HG' : Hid (dcmp (xs.getD k dz) (ys.getD k dz) = 0 → ∀ j, j < k + 1 → dcmp (xs.getD j dz) (ys.getD j dz) = 0) := fun h0 j hj => by
          by_cases h : j < k
          · exact HG.out j h
          · have : j = k := by omega
            rw [this]
            exact h0
        generalize xs.getD k dz = d at *
        generalize ys.getD k dz = e at *
        by_cases hd : dcmp d e = 0
        · have HD : Hid (dcmp d e = 0) := hd
          clear hd
          go_wp2_with fail
          refine (depCmp_is d e 0 HD.out _).mono ?_
          rintro r wq ⟨rfl, hq⟩
          have HBQ : Hid (Below w.heap.size w wq) := below_step (HBA _ _).out (HBA _ _).out.size hq
          clear hq HBA
          go_wp2
          exact ⟨⟨k + 1, by omega, by omega, by go_num, HG'.out HD.out, HBQ⟩, by simp [intOf]; omega⟩
        · have HD : Hid (depsCmp xs ys = dcmp d e) := HN.out hd
          have hd' : (dcmp d e != 0) = true := by rw [bne_iff_ne]; exact hd
          clear hd
          go_wp2_with fail
          refine (depCmp_is d e _ rfl _).mono ?_
          rintro r wq ⟨rfl, hq⟩
          have HBQ : Hid (Below w.heap.size w wq) := below_step (HBA _ _).out (HBA _ _).out.size hq
          clear hq HBA
          go_wp2
          go_ret
          exact ⟨ret_i64 HD.out.symm, HBQ.out⟩
      · have HF : Hid (depsCmp xs ys = 1) := by
          show depsCmp xs ys = 1
          have h := depsCmp_none xs ys (fun i h1 h2 => HG.out i (by omega))
          rw [h]
          unfold sgn
          rw [if_neg (by omega), if_pos (by omega)]
        go_wp2
        go_ret
        exact ⟨ret_i64 HF.out.symm, HB.out.alloc HB.out.size _⟩
    · have HF : Hid (depsCmp xs ys = sgn xs.length ys.length) := depsCmp_none xs ys (fun i h1 h2 => HG.out i (by omega))
      by_cases hl : xs.length < ys.length
      · have HS : Hid (sgn xs.length ys.length = -1) := by
          unfold sgn
          exact if_pos (by omega)
        go_wp2
        go_ret
        exact ⟨ret_i64 (by rw [HF.out, HS.out]), HB.out⟩
      · have HS : Hid (sgn xs.length ys.length = 0) := sgn_zero.2 (by omega)
        go_wp2
        go_ret
        exact ⟨ret_i64 (by rw [HF.out, HS.out]), HB.out⟩

theorem compareFunc_any (b o b' o' : Nat) (xs ys : List Dp) (cap cap' : Nat) (w : World) (hn : xs.length ≤ 1048576) (_hm : ys.length ≤ 1048576) (hlt : b < w.heap.size) (hlt' : b' < w.heap.size) (hh : HoldsDeps w b o xs) (hh' : HoldsDeps w b' o' ys) :
    Calls Try.prog 68 #[.slice (some ⟨b, o, none⟩) xs.length cap, .slice (some ⟨b', o', none⟩) ys.length cap', .func (.func 69) #[] #[]] w fun e w' => e = .returned (.int .i64 (depsCmp xs ys)) ∧ Below w.heap.size w w' :=
  compareFunc_gen _ _ xs ys cap cap' w hn _hm (.inr ⟨b, o, rfl, hlt, hh⟩) (.inr ⟨b', o', rfl, hlt', hh'⟩)

end Go.Proofs.Ytojgahcogpediaa

/- The contract of impl.WriteCmp. -/
namespace Go.Proofs.Ytojgahcogpediaa
open Go.ChangeShapes Go.WideShapes Go.ChangeAt Go.RowKit Go.Joins
attribute [local go_sem ↓] Go.wp_at_zero Go.wp_at_succ

theorem five_cells (W : World) (x y z u v : Int) (t b : Nat) (hb : W.heap.size = b) : ∀ i, i < [x, y, z, u, v].length → (W.alloc (Obj.cells #[.int .i64 x, .int .i64 y, .int .i64 z, .int .i64 u, .int .i64 v] t)).cell? ⟨b, i, none⟩ = some (.int .i64 ([x, y, z, u, v].getD i 0)) := by
  subst hb
  intro i hi
  match i, hi with
  | 0, _ => simp [go_sem]
  | 1, _ => simp [go_sem]
  | 2, _ => simp [go_sem]
  | 3, _ => simp [go_sem]
  | 4, _ => simp [go_sem]

/-- Two boxes of writes behind what was there. -/
abbrev TwoIn (w : World) (k c s q v : Int) (de : Bool) (a : Option Addr) (len cap : Nat) (k' c' s' q' v' : Int) (de' : Bool) (a' : Option Addr) (len' cap' : Nat) (W : World) : Prop :=
  W.cell? ⟨w.heap.size, 0, none⟩ = some (.int .i64 k) ∧ W.cell? ⟨w.heap.size, 1, none⟩ = some (.int .i64 c) ∧ W.cell? ⟨w.heap.size, 2, none⟩ = some (.int .i64 s) ∧ W.cell? ⟨w.heap.size, 3, none⟩ = some (.int .i64 q) ∧ W.cell? ⟨w.heap.size, 4, none⟩ = some (.int .i64 v) ∧ W.cell? ⟨w.heap.size, 5, none⟩ = some (.bool de) ∧ W.cell? ⟨w.heap.size, 6, none⟩ = some (.slice a len cap) ∧ W.cell? ⟨w.heap.size + 1, 0, none⟩ = some (.int .i64 k') ∧ W.cell? ⟨w.heap.size + 1, 1, none⟩ = some (.int .i64 c') ∧ W.cell? ⟨w.heap.size + 1, 2, none⟩ = some (.int .i64 s') ∧ W.cell? ⟨w.heap.size + 1, 3, none⟩ = some (.int .i64 q') ∧ W.cell? ⟨w.heap.size + 1, 4, none⟩ = some (.int .i64 v') ∧ W.cell? ⟨w.heap.size + 1, 5, none⟩ = some (.bool de') ∧ W.cell? ⟨w.heap.size + 1, 6, none⟩ = some (.slice a' len' cap') ∧ w.heap.size + 1 < W.heap.size ∧ Below w.heap.size w W

theorem two_step {w W w1 : World} {k c s q v : Int} {de : Bool} {a : Option Addr} {len cap : Nat} {k' c' s' q' v' : Int} {de' : Bool} {a' : Option Addr} {len' cap' : Nat} (h : TwoIn w k c s q v de a len cap k' c' s' q' v' de' a' len' cap' W) (hb : Below W.heap.size W w1) : TwoIn w k c s q v de a len cap k' c' s' q' v' de' a' len' cap' w1 := by
  obtain ⟨e0, e1, e2, e3, e4, e5, e6, f0, f1, f2, f3, f4, f5, f6, hz, hB⟩ := h
  have hz' : w.heap.size < W.heap.size := by omega
  exact ⟨held_cell hb e0 hz', held_cell hb e1 hz', held_cell hb e2 hz', held_cell hb e3 hz', held_cell hb e4 hz', held_cell hb e5 hz', held_cell hb e6 hz', held_cell hb f0 hz, held_cell hb f1 hz, held_cell hb f2 hz, held_cell hb f3 hz, held_cell hb f4 hz, held_cell hb f5 hz, held_cell hb f6 hz, Nat.lt_of_lt_of_le hz hb.size, below_step hB hB.size hb⟩

theorem two_alloc {w W : World} {k c s q v : Int} {de : Bool} {a : Option Addr} {len cap : Nat} {k' c' s' q' v' : Int} {de' : Bool} {a' : Option Addr} {len' cap' : Nat} (X : Obj) (h : TwoIn w k c s q v de a len cap k' c' s' q' v' de' a' len' cap' W) : TwoIn w k c s q v de a len cap k' c' s' q' v' de' a' len' cap' (W.alloc X) :=
  two_step h ((Below.refl _ _).alloc (Nat.le_refl _) X)

theorem two_start (w : World) (k c s q v : Int) (de : Bool) (a : Option Addr) (len cap : Nat) (k' c' s' q' v' : Int) (de' : Bool) (a' : Option Addr) (len' cap' : Nat) (t t' : Nat) : TwoIn w k c s q v de a len cap k' c' s' q' v' de' a' len' cap' ((w.alloc (.cells #[.int .i64 k, .int .i64 c, .int .i64 s, .int .i64 q, .int .i64 v, .bool de, .slice a len cap] t)).alloc (.cells #[.int .i64 k', .int .i64 c', .int .i64 s', .int .i64 q', .int .i64 v', .bool de', .slice a' len' cap'] t')) := by
  refine ⟨?_, ?_, ?_, ?_, ?_, ?_, ?_, ?_, ?_, ?_, ?_, ?_, ?_, ?_, ?_, ?_⟩ <;> first | (simp [go_sem]; done) | (simp; omega) | exact ((Below.refl _ _).alloc (Nat.le_refl _) _).alloc (by simp) _

theorem two_drew {w W : World} {k c s q v : Int} {de : Bool} {a : Option Addr} {len cap : Nat} {k' c' s' q' v' : Int} {de' : Bool} {a' : Option Addr} {len' cap' : Nat} (h : TwoIn w k c s q v de a len cap k' c' s' q' v' de' a' len' cap' W) : TwoIn w k c s q v de a len cap k' c' s' q' v' de' a' len' cap' W.drew :=
  two_step h (Below.refl _ _).drew

set_option maxHeartbeats 4000000 in
theorem implWriteCmp_raw (k c s q v : Int) (de : Bool) (a : Option Addr) (xs : List Dp) (cap : Nat) (k' c' s' q' v' : Int) (de' : Bool) (a' : Option Addr) (ys : List Dp) (cap' : Nat) (w : World)
    (hn : xs.length ≤ 1048576) (hm : ys.length ≤ 1048576) (hh : IsDeps w a xs) (hh' : IsDeps w a' ys) :
    Calls Try.prog 28 #[wrV k c s q v de a xs.length cap, wrV k' c' s' q' v' de' a' ys.length cap'] w fun e w' => e = .returned (.int .i64 (orI [tcmp c s q c' s' q', sgn k k', sgn v v', sgn (bit de) (bit de'), depsCmp xs ys])) ∧ Below w.heap.size w w' := by
  have HH : Hid (IsDeps w a xs) := hh
  have HH' : Hid (IsDeps w a' ys) := hh'
  clear hh hh'
  go_enter Try.func28, Try.ntmps28
  go_wp2_with fail
  go_region_held3 (fun w' => w'.cell? ⟨w.heap.size, 0, none⟩ = some (.int .i64 k) ∧ w'.cell? ⟨w.heap.size, 1, none⟩ = some (.int .i64 c) ∧ w'.cell? ⟨w.heap.size, 2, none⟩ = some (.int .i64 s) ∧ w'.cell? ⟨w.heap.size, 3, none⟩ = some (.int .i64 q) ∧ w'.cell? ⟨w.heap.size, 4, none⟩ = some (.int .i64 v) ∧ w'.cell? ⟨w.heap.size, 5, none⟩ = some (.bool de) ∧ w'.cell? ⟨w.heap.size, 6, none⟩ = some (.slice a xs.length cap) ∧ w'.cell? ⟨w.heap.size + 1, 0, none⟩ = some (.int .i64 k') ∧ w'.cell? ⟨w.heap.size + 1, 1, none⟩ = some (.int .i64 c') ∧ w'.cell? ⟨w.heap.size + 1, 2, none⟩ = some (.int .i64 s') ∧ w'.cell? ⟨w.heap.size + 1, 3, none⟩ = some (.int .i64 q') ∧ w'.cell? ⟨w.heap.size + 1, 4, none⟩ = some (.int .i64 v') ∧ w'.cell? ⟨w.heap.size + 1, 5, none⟩ = some (.bool de') ∧ w'.cell? ⟨w.heap.size + 1, 6, none⟩ = some (.slice a' ys.length cap') ∧ w.heap.size + 1 < w'.heap.size ∧ Below w.heap.size w w')
    (first | assumption | exact two_drew (two_start _ _ _ _ _ _ _ _ _ _ _ _ _ _ _ _ _ _ _ _ _) | exact two_step (by assumption) hb2 | exact two_step (by assumption) hb3 | exact two_alloc _ (by assumption))
    (first | (go_at_call 66; refine (compare_any _ _ _).mono ?_; rintro e w1 ⟨rfl, rfl⟩) | (go_at_call 67; refine (flagNum_any _ _).mono ?_; rintro e w1 ⟨rfl, rfl⟩) | (go_at_call 65; refine (implTagCmp_any _ _ _ _ _ _ _).mono ?_; rintro e w2 ⟨rfl, hb2⟩; have HB2 : Hid (Below w.heap.size w w2) := below_step (((Below.refl w.heap.size w).alloc (Nat.le_refl _) _).alloc (by simp) _).drew (by simp; omega) hb2) | (go_at_call 68; refine (compareFunc_gen _ _ xs ys _ _ _ hn hm (HH.out.below HB2.out) (HH'.out.below HB2.out)).mono ?_; rintro e w3 ⟨rfl, hb3⟩) | (go_at_call 64; refine (or_any _ [tcmp c s q c' s' q', sgn k k', sgn v v', sgn (bit de) (bit de'), depsCmp xs ys] _ _ (by simp) (by exact five_cells _ _ _ _ _ _ _ _ (by simp))).mono ?_; rintro e w4 ⟨rfl, rfl⟩))
  obtain ⟨-, -, -, -, -, -, -, -, -, -, -, -, -, -, -, HB0⟩ := ‹_ ∧ _›
  have HB : Hid (Below w.heap.size w _) := HB0
  clear HB0 hb2 hb3
  go_wp2
  go_ret
  exact ⟨rfl, HB.out⟩

theorem implWriteCmp_gen (k c s q v : Int) (de : Bool) (a : Option Addr) (xs : List Dp) (len cap : Nat) (k' c' s' q' v' : Int) (de' : Bool) (a' : Option Addr) (ys : List Dp) (len' cap' : Nat) (w : World) (hl : xs.length = len) (hl' : ys.length = len')
    (hn : len ≤ 1048576) (hm : len' ≤ 1048576) (hh : IsDeps w a xs) (hh' : IsDeps w a' ys) :
    Calls Try.prog 28 #[wrV k c s q v de a len cap, wrV k' c' s' q' v' de' a' len' cap'] w fun e w' => e = .returned (.int .i64 (wcmp k c s q v de xs k' c' s' q' v' de' ys)) ∧ Below w.heap.size w w' := by
  subst hl hl'
  rw [← wcmp_or]
  exact implWriteCmp_raw k c s q v de a xs cap k' c' s' q' v' de' a' ys cap' w hn hm hh hh'

theorem implWriteCmp_any (k c s q v : Int) (de : Bool) (g : Nat) (xs : List Dp) (len cap : Nat) (k' c' s' q' v' : Int) (de' : Bool) (g' : Nat) (ys : List Dp) (len' cap' : Nat) (w : World) (hl : xs.length = len) (hl' : ys.length = len')
    (hn : len ≤ 1048576) (hm : len' ≤ 1048576) (hlt : g < w.heap.size) (hlt' : g' < w.heap.size) (hh : HoldsDeps w g 0 xs) (hh' : HoldsDeps w g' 0 ys) :
    Calls Try.prog 28 #[wrV k c s q v de (some ⟨g, 0, none⟩) len cap, wrV k' c' s' q' v' de' (some ⟨g', 0, none⟩) len' cap'] w fun e w' => e = .returned (.int .i64 (wcmp k c s q v de xs k' c' s' q' v' de' ys)) ∧ Below w.heap.size w w' :=
  implWriteCmp_gen k c s q v de _ xs len cap k' c' s' q' v' de' _ ys len' cap' w hl hl' hn hm (.inr ⟨g, 0, rfl, hlt, hh⟩) (.inr ⟨g', 0, rfl, hlt', hh'⟩)

end Go.Proofs.Ytojgahcogpediaa
