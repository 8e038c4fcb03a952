import Derived.Test.YtojgahcogpediaaPack4
import Derived.Test.YtojgahcogpediaaPack1
import Derived.BigQuiet
import Derived.Deep.QuietTactic
import Derived.WalkSmall
/- The contract of the specification's l02Put. -/
namespace Go.Proofs.Ytojgahcogpediaa
open Go.ChangeShapes Go.WideShapes Go.ChangeAt Go.RowKit Go.Joins
attribute [local go_sem ↓] Go.wp_at_zero Go.wp_at_succ

abbrev cmpW (x y : Wr) : Int := wcmp x.k x.c x.s x.q x.v x.de x.xs y.k y.c y.s y.q y.v y.de y.xs

def putStep (x : Wr) (st : List Wr × Bool) (y : Wr) : List Wr × Bool :=
  if y.k = x.k then (if cmpW y x < 0 then (st.1 ++ [x], true) else (st.1 ++ [y], true))
  else if x.k < y.k ∧ st.2 = false then (st.1 ++ [x] ++ [y], true) else (st.1 ++ [y], st.2)

def putTo (ws : List Wr) (x : Wr) : List Wr × Bool := ws.foldl (putStep x) ([], false)

def putW (ws : List Wr) (x : Wr) : List Wr := if (putTo ws x).2 then (putTo ws x).1 else (putTo ws x).1 ++ [x]

theorem putTo_next (ws : List Wr) (x : Wr) (k : Nat) (h : k < ws.length) : putTo (ws.take (k + 1)) x = putStep x (putTo (ws.take k) x) (ws.getD k wz) := by
  have e : ws.take (k + 1) = ws.take k ++ [ws.getD k wz] := by
    rw [List.take_add_one, List.getElem?_eq_getElem h]
    simp [List.getD, h]
  unfold putTo
  rw [e, List.foldl_append]
  rfl

theorem putTo_len (ws : List Wr) (x : Wr) : (putTo ws x).1.length ≤ 2 * ws.length := by
  have : ∀ (l : List Wr) (st : List Wr × Bool), (l.foldl (putStep x) st).1.length ≤ st.1.length + 2 * l.length := by
    intro l
    induction l with
    | nil => intro st; simp
    | cons y r ih =>
      intro st
      have h := ih (putStep x st y)
      have h1 : (putStep x st y).1.length ≤ st.1.length + 2 := by
        unfold putStep
        split
        · split <;> simp
        · split <;> simp
      simp only [List.foldl_cons, List.length_cons]
      omega
  have := this ws ([], false)
  simpa [putTo] using this

abbrev cells7 (x : Wr) (g cp : Nat) : Array Value := #[.int .i64 x.k, .int .i64 x.c, .int .i64 x.s, .int .i64 x.q, .int .i64 x.v, .bool x.de, .slice (some ⟨g, 0, none⟩) x.xs.length cp]

theorem grow_own {w2 : World} {base g cp L : Nat} {es : List En} (h : RowEs w2 base g cp es) (hL : es.length = L) (o : Obj) : (w2.alloc o).ownsRow base 41 7 (.slice (some ⟨g, 0, none⟩) L cp) L (es.flatMap wrVals) := by
  have := (h.below ((Below.refl w2.heap.size w2).alloc (Nat.le_refl _) o)).own
  rw [hL] at this
  exact this

/-- One write more, in a row behind a box. -/
theorem grow_one {w w2 w5 : World} {k c s q v : Int} {de : Bool} {a : Option Addr} {len cap : Nat} {g cp g3 cp3 L : Nat} {es : List En} {x : Wr} {g2 cp2 : Nat} (hL : es.length = L) (hX : BoxIn w w2 k c s q v de a len cap) (hR : RowEs w2 (w.heap.size + 1) g cp es)
    (hG : HoldsDeps w2 g2 0 x.xs) (hg2 : g2 < w2.heap.size) (hg5 : g2 ≠ g) (hg6 : w.heap.size + 1 ≤ g2)
    (hown : w5.ownsRow (w.heap.size + 1) 41 7 (.slice (some ⟨g3, 0, none⟩) (L + 1) cp3) (L + 1) (es.flatMap wrVals ++ wrVals ⟨x, g2, cp2⟩)) (hgrow : (w2.alloc (.cells (cells7 x g2 cp2) 41)).grownBy w5 (some g)) (hg3 : some g = some g3 ∨ g3 = (w2.alloc (.cells (cells7 x g2 cp2) 41)).heap.size) :
    BoxIn w w5 k c s q v de a len cap ∧ RowEs w5 (w.heap.size + 1) g3 cp3 (es ++ [⟨x, g2, cp2⟩]) := by
  have hA : Below w2.heap.size w2 (w2.alloc (.cells (cells7 x g2 cp2) 41)) := (Below.refl _ _).alloc (Nat.le_refl _) _
  have hXA := hX.step hA
  have hle := hR.le
  refine ⟨hXA.other hgrow.size (hXA.below.grown hgrow hXA.below.size fun j hj => by injection hj with hj; omega) (hgrow.block _ hXA.lt (by simp; omega)), ?_⟩
  refine (hR.below hA).more ⟨hg6, by simp; omega, hg5, hG.below hA hg2⟩ (by rw [hL]; exact hown) hgrow hg3

theorem step_same_lt {x y : Wr} {es : List En} {st : List Wr × Bool} {put : Bool} {g cp : Nat} (hs : (es.map (·.x), put) = st) (h1 : y.k = x.k) (h2 : cmpW y x < 0) : ((es ++ [(⟨x, g, cp⟩ : En)]).map (·.x), true) = putStep x st y := by
  subst hs
  simp [putStep, h1, h2]

theorem step_same_ge {x y : Wr} {es : List En} {st : List Wr × Bool} {put : Bool} {g cp : Nat} (hs : (es.map (·.x), put) = st) (h1 : y.k = x.k) (h2 : ¬ cmpW y x < 0) : ((es ++ [(⟨y, g, cp⟩ : En)]).map (·.x), true) = putStep x st y := by
  subst hs
  simp [putStep, h1, h2]

theorem step_ahead {x y : Wr} {es : List En} {st : List Wr × Bool} {g cp g' cp' : Nat} (hs : (es.map (·.x), false) = st) (h1 : ¬ y.k = x.k) (h2 : x.k < y.k) : ((es ++ [(⟨x, g, cp⟩ : En)] ++ [(⟨y, g', cp'⟩ : En)]).map (·.x), true) = putStep x st y := by
  subst hs
  simp [putStep, h1, h2]

theorem step_else {x y : Wr} {es : List En} {st : List Wr × Bool} {put : Bool} {g cp : Nat} (hs : (es.map (·.x), put) = st) (h1 : ¬ y.k = x.k) (h2 : ¬ (x.k < y.k ∧ put = false)) : ((es ++ [(⟨y, g, cp⟩ : En)]).map (·.x), put) = putStep x st y := by
  subst hs
  simp only [putStep, h1, if_false]
  rw [if_neg h2]
  simp

set_option maxRecDepth 100000 in
set_option maxHeartbeats 8000000 in
theorem put_gen (a : Option Addr) (n cap : Nat) (ws : List Wr) (x : Wr) (ax : Option Addr) (cx : Nat) (w : World) (hn : ws.length = n) (hm : n ≤ 1048576) (hx : Few ws) (hh : IsWs w a ws) (hlx : x.xs.length ≤ 1048576) (hhx : IsDeps w ax x.xs) :
    Calls Try.prog 51 #[.slice a n cap, wrOf x ax cx] w fun e w' => ∃ g cp es L, e = .returned (.slice (some ⟨g, 0, none⟩) L cp) ∧ es.length = L ∧ es.map (·.x) = putW ws x ∧ RowEs w' (w.heap.size + 1) g cp es ∧ Below w.heap.size w w' := by
  have HH : Hid (IsWs w a ws) := hh
  have HN : Hid (ws.length = n) := hn
  have HX : Hid (Few ws) := hx
  have HGX : Hid (IsDeps w ax x.xs) := hhx
  have HXX : Hid (putW ws x = if (putTo ws x).2 then (putTo ws x).1 else (putTo ws x).1 ++ [x]) := rfl
  clear hh hn hx hhx
  obtain ⟨i0, hi0, hx0⟩ := Option.map_eq_some_iff.1 infoWr
  simp only [Prod.mk.injEq] at hx0
  have HI0 := Lib.hid hi0
  have HX0 := Lib.hid hx0
  clear hi0 hx0
  obtain ⟨xk, xc, xs', xq, xv, xd, xx⟩ := x
  simp only at hlx HGX ⊢
  go_enter Try.func51, Try.ntmps51
  go_wp2
  have HXs : Hid (BoxIn w ((w.alloc (.cells #[.int .i64 xk, .int .i64 xc, .int .i64 xs', .int .i64 xq, .int .i64 xv, .bool xd, .slice ax xx.length cx] 41)).alloc (.cells #[] 41)) xk xc xs' xq xv xd ax xx.length cx) := BoxIn.start (t := 41) ((Below.refl _ _).alloc (Nat.le_refl _) _)
  have HRs : Hid (RowEs ((w.alloc (.cells #[.int .i64 xk, .int .i64 xc, .int .i64 xs', .int .i64 xq, .int .i64 xv, .bool xd, .slice ax xx.length cx] 41)).alloc (.cells #[] 41)) (w.heap.size + 1) (w.heap.size + 1) 0 []) := by
    have := rowEs_start (w.alloc (.cells #[.int .i64 xk, .int .i64 xc, .int .i64 xs', .int .i64 xq, .int .i64 xv, .bool xd, .slice ax xx.length cx] 41)) (w.heap.size + 1) (by simp)
    exact Lib.hid (by simpa using this)
  go_loopw [5, 6, 7] (fun t pt i wr => ∃ (k L g cp : Nat) (es : List En) (put : Bool), k ≤ n ∧ L ≤ 2 * k ∧ i = .int .i64 k ∧ pt = .bool put ∧ t = .slice (some ⟨g, 0, none⟩) L cp ∧ Hid ((es.map (·.x), put) = putTo (ws.take k) ⟨xk, xc, xs', xq, xv, xd, xx⟩) ∧ Hid (es.length = L) ∧ Hid (RowEs wr (w.heap.size + 1) g cp es) ∧ Hid (BoxIn w wr xk xc xs' xq xv xd ax xx.length cx)) (fun _ _ i _ => n - (intOf i).toNat)
  case atStart => exact ⟨0, 0, w.heap.size + 1, 0, [], false, Nat.zero_le _, Nat.zero_le _, rfl, rfl, rfl, by simp [Hid, putTo], rfl, HRs, HXs⟩
  case round =>
    clear HXs HRs
    obtain ⟨k, L, g, cp, es, put, hk, hLk, rfl, rfl, rfl, HP, HL, HR, HB⟩ := hrel
    by_cases hk' : k < n
    · obtain ⟨b, o, ak, cq, rfl, hlat⟩ := HH.out.later HN.out hk'
      have HYA : Hid (∀ w', Below w.heap.size w w' → b < w'.heap.size ∧ w'.cell? ⟨b, o + k * 7, none⟩ = some (.int .i64 (ws.getD k wz).k) ∧ w'.cell? ⟨b, o + k * 7 + 1, none⟩ = some (.int .i64 (ws.getD k wz).c) ∧ w'.cell? ⟨b, o + k * 7 + 2, none⟩ = some (.int .i64 (ws.getD k wz).s) ∧ w'.cell? ⟨b, o + k * 7 + 3, none⟩ = some (.int .i64 (ws.getD k wz).q) ∧ w'.cell? ⟨b, o + k * 7 + 4, none⟩ = some (.int .i64 (ws.getD k wz).v) ∧ w'.cell? ⟨b, o + k * 7 + 5, none⟩ = some (.bool (ws.getD k wz).de) ∧ w'.cell? ⟨b, o + k * 7 + 6, none⟩ = some (.slice ak (ws.getD k wz).xs.length cq) ∧ b < w'.heap.size ∧ IsDeps w' ak (ws.getD k wz).xs) := fun w' hb => by
        obtain ⟨hz0, ⟨a0, a1, a2, a3, a4, a5, a6⟩, hd1⟩ := hlat w' hb
        exact ⟨hz0, a0, a1, a2, a3, a4, a5, a6, hz0, hd1⟩
      have HPN : Hid (putTo (ws.take (k + 1)) ⟨xk, xc, xs', xq, xv, xd, xx⟩ = putStep ⟨xk, xc, xs', xq, xv, xd, xx⟩ (putTo (ws.take k) ⟨xk, xc, xs', xq, xv, xd, xx⟩) (ws.getD k wz)) := putTo_next ws _ k (by rw [HN.out]; exact hk')
      have hly := HX.out k (by rw [HN.out]; exact hk')
      have i1 : (0 : Int) ≤ (k : Int) := by omega
      have i2 : (k : Int) < (n : Int) := by omega
      clear hlat HH
      generalize ws.getD k wz = y at *
      obtain ⟨yk, yc, ys, yq, yv, yd, yy⟩ := y
      simp only at HYA hly
      by_cases hky : yk = xk
      · subst hky
        have HC : Hid (∀ p : Aft wr.heap.size wr, Calls Try.prog 27 #[wrOf ⟨yk, yc, ys, yq, yv, yd, yy⟩ ak cq, wrOf ⟨yk, xc, xs', xq, xv, xd, xx⟩ ax cx] p.now fun e w' => e = .returned (.int .i64 (cmpW ⟨yk, yc, ys, yq, yv, yd, yy⟩ ⟨yk, xc, xs', xq, xv, xd, xx⟩)) ∧ Below p.now.heap.size p.now w') := fun p => by
          have hb := below_step HB.out.below HB.out.below.size p.below
          exact specWriteCmp_gen _ _ _ _ _ _ _ yy _ _ _ _ _ _ _ _ _ xx _ _ _ rfl rfl hly hlx (HYA.out _ hb).2.2.2.2.2.2.2.2.2 (HGX.out.below hb)
        have HZ : Hid (cmpW ⟨yk, yc, ys, yq, yv, yd, yy⟩ ⟨yk, xc, xs', xq, xv, xd, xx⟩ = cmpW ⟨yk, yc, ys, yq, yv, yd, yy⟩ ⟨yk, xc, xs', xq, xv, xd, xx⟩) := rfl
        generalize hzc : cmpW ⟨yk, yc, ys, yq, yv, yd, yy⟩ ⟨yk, xc, xs', xq, xv, xd, xx⟩ = z at HC
        clear HZ
        have HZ := Lib.hid hzc
        clear hzc
        by_cases hz0 : z < 0
        · have b0 := HB.out.c0
          have b1 := HB.out.c1
          have b2 := HB.out.c2
          have b3 := HB.out.c3
          have b4 := HB.out.c4
          have b5 := HB.out.c5
          have b6 := HB.out.c6
          have hzb := HB.out.lt
          obtain ⟨hz, e0, e1, e2, e3, e4, e5, e6, -, -⟩ := HYA.out _ HB.out.below
          go_wp2_with fail
          have gb0 := aft_cell hzb b0
          have gb1 := aft_cell hzb b1
          have gb2 := aft_cell hzb b2
          have gb3 := aft_cell hzb b3
          have gb4 := aft_cell hzb b4
          have gb5 := aft_cell hzb b5
          have gb6 := aft_cell hzb b6
          have ge0 := aft_cell hz e0
          have ge1 := aft_cell hz e1
          have ge2 := aft_cell hz e2
          have ge3 := aft_cell hz e3
          have ge4 := aft_cell hz e4
          have ge5 := aft_cell hz e5
          have ge6 := aft_cell hz e6
          have ne := aft_some wr
          refine wp_region_aft (by kernel_rfl) (by kernel_rfl) ?_
          repeat (first | go_big_quiet_step (first | (go_at_call 27; exact aft_of (HC.out _))))
          refine wpQuiet_nil ?_
          intro wq hq
          clear gb0 gb1 gb2 gb3 gb4 gb5 gb6 ge0 ge1 ge2 ge3 ge4 ge5 ge6 ne
          have HXq : Hid (BoxIn w wq yk xc xs' xq xv xd ax xx.length cx) := HB.out.step hq
          have HRq : Hid (RowEs wq (w.heap.size + 1) g cp es) := HR.out.below hq
          clear hq hzb b0 b1 b2 b3 b4 b5 b6 hz e0 e1 e2 e3 e4 e5 e6
          have b0 := HXq.out.c0
          have b1 := HXq.out.c1
          have b2 := HXq.out.c2
          have b3 := HXq.out.c3
          have b4 := HXq.out.c4
          have b5 := HXq.out.c5
          have b6 := HXq.out.c6
          go_wp2_with fail
          refine (copy_any ⟨yk, xc, xs', xq, xv, xd, xx⟩ _ _ _ hlx (HGX.out.below HXq.out.below)).mono ?_
          rintro e u5 ⟨p5, r5, rfl, hg1, hg2, hg3, hb⟩
          have HXa : Hid (BoxIn w u5 yk xc xs' xq xv xd ax xx.length cx) := HXq.out.step hb
          have HRa : Hid (RowEs u5 (w.heap.size + 1) g cp es) := HRq.out.below hb
          have HGa : Hid (HoldsDeps u5 p5 0 xx) := hg3
          have hg5 : p5 ≠ g := by have := HRq.out.lt; omega
          have hg6 : w.heap.size + 1 ≤ p5 := by have := HXq.out.lt; omega
          have hsz : w.heap.size + 1 ≤ u5.heap.size := HXa.out.lt
          clear hb hg3 hg1
          have HOW : Hid ((u5.alloc (.cells #[.int .i64 yk, .int .i64 xc, .int .i64 xs', .int .i64 xq, .int .i64 xv, .bool xd, .slice (some ⟨p5, 0, none⟩) xx.length r5] 41)).ownsRow (w.heap.size + 1) 41 7 (.slice (some ⟨g, 0, none⟩) L cp) L (es.flatMap wrVals)) := grow_own HRa.out HL.out _
          go_wp2_with (at_builtin; refine wpList_append_lies _ (by rfl) _ _ _ (by rfl) (w.heap.size + 1) 41 i0 (wrV 0 0 0 0 0 false none 0 0) 7 72 Try.underlying44 HI0.out HX0.out.1 HX0.out.2.1 HX0.out.2.2 (by rfl) (by omega) (.slice (some ⟨g, 0, none⟩) L cp) L (es.flatMap wrVals) (by rfl) HOW.out ⟨u5.heap.size, 0, none⟩ 1 1 (wrVals ⟨⟨yk, xc, xs', xq, xv, xd, xx⟩, p5, r5⟩) (by rfl) (by rfl) (one_cells u5 _ ⟨⟨yk, xc, xs', xq, xv, xd, xx⟩, p5, r5⟩) (by simpa using vals_one [⟨⟨yk, xc, xs', xq, xv, xd, xx⟩, p5, r5⟩]) (by omega) (by unfold maxLen; omega) (by omega) (by simp; omega) _ rfl ?_; intro g5 cp5 w5 hown hgrow hg3 _; refine Hid.out ?_)
          refine Lib.hid ?_
          obtain ⟨hXn, hRn⟩ := grow_one (x := ⟨yk, xc, xs', xq, xv, xd, xx⟩) HL.out HXa.out HRa.out HGa.out hg2 hg5 hg6 hown hgrow hg3
          have HX5 : Hid (BoxIn w w5 yk xc xs' xq xv xd ax xx.length cx) := hXn
          have HR5 : Hid (RowEs w5 (w.heap.size + 1) g5 cp5 (es ++ [⟨⟨yk, xc, xs', xq, xv, xd, xx⟩, p5, r5⟩])) := hRn
          have HL5 : Hid ((es ++ [(⟨⟨yk, xc, xs', xq, xv, xd, xx⟩, p5, r5⟩ : En)]).length = L + 1) := by
            rw [List.length_append, HL.out]
            exact Lib.hid rfl
          clear hown hgrow HOW HXa HRa HGa hXn hRn hg2 hg3 hg5 hg6 hsz
          have HPn : Hid (((es ++ [(⟨⟨yk, xc, xs', xq, xv, xd, xx⟩, p5, r5⟩ : En)]).map (·.x), true) = putTo (ws.take (k + 1)) ⟨yk, xc, xs', xq, xv, xd, xx⟩) := by
            rw [HPN.out]
            exact step_same_lt HP.out rfl (by rw [HZ.out]; exact hz0)
          clear b0 b1 b2 b3 b4 b5 b6
          go_wp2
          exact ⟨⟨k + 1, L + 1, g5, cp5, _, true, by omega, by omega, by go_num, rfl, rfl, HPn, HL5, HR5, HX5⟩, by simp [intOf]; omega⟩
        · have b0 := HB.out.c0
          have b1 := HB.out.c1
          have b2 := HB.out.c2
          have b3 := HB.out.c3
          have b4 := HB.out.c4
          have b5 := HB.out.c5
          have b6 := HB.out.c6
          have hzb := HB.out.lt
          obtain ⟨hz, e0, e1, e2, e3, e4, e5, e6, -, -⟩ := HYA.out _ HB.out.below
          go_wp2_with fail
          have gb0 := aft_cell hzb b0
          have gb1 := aft_cell hzb b1
          have gb2 := aft_cell hzb b2
          have gb3 := aft_cell hzb b3
          have gb4 := aft_cell hzb b4
          have gb5 := aft_cell hzb b5
          have gb6 := aft_cell hzb b6
          have ge0 := aft_cell hz e0
          have ge1 := aft_cell hz e1
          have ge2 := aft_cell hz e2
          have ge3 := aft_cell hz e3
          have ge4 := aft_cell hz e4
          have ge5 := aft_cell hz e5
          have ge6 := aft_cell hz e6
          have ne := aft_some wr
          refine wp_region_aft (by kernel_rfl) (by kernel_rfl) ?_
          repeat (first | go_big_quiet_step (first | (go_at_call 27; exact aft_of (HC.out _))))
          refine wpQuiet_nil ?_
          intro wq hq
          clear gb0 gb1 gb2 gb3 gb4 gb5 gb6 ge0 ge1 ge2 ge3 ge4 ge5 ge6 ne
          have HXq : Hid (BoxIn w wq yk xc xs' xq xv xd ax xx.length cx) := HB.out.step hq
          have HRq : Hid (RowEs wq (w.heap.size + 1) g cp es) := HR.out.below hq
          clear hq hzb b0 b1 b2 b3 b4 b5 b6 hz e0 e1 e2 e3 e4 e5 e6
          have b0 := HXq.out.c0
          have b1 := HXq.out.c1
          have b2 := HXq.out.c2
          have b3 := HXq.out.c3
          have b4 := HXq.out.c4
          have b5 := HXq.out.c5
          have b6 := HXq.out.c6
          have hzb := HXq.out.lt
          obtain ⟨hz, e0, e1, e2, e3, e4, e5, e6, -, -⟩ := HYA.out _ HXq.out.below
          go_wp2_with fail
          have gb0 := aft_cell hzb b0
          have gb1 := aft_cell hzb b1
          have gb2 := aft_cell hzb b2
          have gb3 := aft_cell hzb b3
          have gb4 := aft_cell hzb b4
          have gb5 := aft_cell hzb b5
          have gb6 := aft_cell hzb b6
          have ge0 := aft_cell hz e0
          have ge1 := aft_cell hz e1
          have ge2 := aft_cell hz e2
          have ge3 := aft_cell hz e3
          have ge4 := aft_cell hz e4
          have ge5 := aft_cell hz e5
          have ge6 := aft_cell hz e6
          have ne := aft_some wq
          refine wp_region_aft (by kernel_rfl) (by kernel_rfl) ?_
          repeat (first | go_big_quiet_step (first | fail))
          refine wpQuiet_nil ?_
          intro wt hq
          clear gb0 gb1 gb2 gb3 gb4 gb5 gb6 ge0 ge1 ge2 ge3 ge4 ge5 ge6 ne
          have HXt : Hid (BoxIn w wt yk xc xs' xq xv xd ax xx.length cx) := HXq.out.step hq
          have HRt : Hid (RowEs wt (w.heap.size + 1) g cp es) := HRq.out.below hq
          clear hq hzb b0 b1 b2 b3 b4 b5 b6 hz e0 e1 e2 e3 e4 e5 e6
          obtain ⟨hz, e0, e1, e2, e3, e4, e5, e6, -, -⟩ := HYA.out _ HXt.out.below
          go_wp2_with fail
          refine (copy_any ⟨yk, yc, ys, yq, yv, yd, yy⟩ _ _ _ hly (HYA.out _ HXt.out.below).2.2.2.2.2.2.2.2.2).mono ?_
          rintro e u5 ⟨p5, r5, rfl, hg1, hg2, hg3, hb⟩
          have HXa : Hid (BoxIn w u5 yk xc xs' xq xv xd ax xx.length cx) := HXt.out.step hb
          have HRa : Hid (RowEs u5 (w.heap.size + 1) g cp es) := HRt.out.below hb
          have HGa : Hid (HoldsDeps u5 p5 0 yy) := hg3
          have hg5 : p5 ≠ g := by have := HRt.out.lt; omega
          have hg6 : w.heap.size + 1 ≤ p5 := by have := HXt.out.lt; omega
          have hsz : w.heap.size + 1 ≤ u5.heap.size := HXa.out.lt
          clear hb hg3 hg1
          have HOW : Hid ((u5.alloc (.cells #[.int .i64 yk, .int .i64 yc, .int .i64 ys, .int .i64 yq, .int .i64 yv, .bool yd, .slice (some ⟨p5, 0, none⟩) yy.length r5] 41)).ownsRow (w.heap.size + 1) 41 7 (.slice (some ⟨g, 0, none⟩) L cp) L (es.flatMap wrVals)) := grow_own HRa.out HL.out _
          go_wp2_with (at_builtin; refine wpList_append_lies _ (by rfl) _ _ _ (by rfl) (w.heap.size + 1) 41 i0 (wrV 0 0 0 0 0 false none 0 0) 7 72 Try.underlying44 HI0.out HX0.out.1 HX0.out.2.1 HX0.out.2.2 (by rfl) (by omega) (.slice (some ⟨g, 0, none⟩) L cp) L (es.flatMap wrVals) (by rfl) HOW.out ⟨u5.heap.size, 0, none⟩ 1 1 (wrVals ⟨⟨yk, yc, ys, yq, yv, yd, yy⟩, p5, r5⟩) (by rfl) (by rfl) (one_cells u5 _ ⟨⟨yk, yc, ys, yq, yv, yd, yy⟩, p5, r5⟩) (by simpa using vals_one [⟨⟨yk, yc, ys, yq, yv, yd, yy⟩, p5, r5⟩]) (by omega) (by unfold maxLen; omega) (by omega) (by simp; omega) _ rfl ?_; intro g5 cp5 w5 hown hgrow hg3 _; refine Hid.out ?_)
          refine Lib.hid ?_
          obtain ⟨hXn, hRn⟩ := grow_one (x := ⟨yk, yc, ys, yq, yv, yd, yy⟩) HL.out HXa.out HRa.out HGa.out hg2 hg5 hg6 hown hgrow hg3
          have HX5 : Hid (BoxIn w w5 yk xc xs' xq xv xd ax xx.length cx) := hXn
          have HR5 : Hid (RowEs w5 (w.heap.size + 1) g5 cp5 (es ++ [⟨⟨yk, yc, ys, yq, yv, yd, yy⟩, p5, r5⟩])) := hRn
          have HL5 : Hid ((es ++ [(⟨⟨yk, yc, ys, yq, yv, yd, yy⟩, p5, r5⟩ : En)]).length = L + 1) := by
            rw [List.length_append, HL.out]
            exact Lib.hid rfl
          clear hown hgrow HOW HXa HRa HGa hXn hRn hg2 hg3 hg5 hg6 hsz
          have HPn : Hid (((es ++ [(⟨⟨yk, yc, ys, yq, yv, yd, yy⟩, p5, r5⟩ : En)]).map (·.x), true) = putTo (ws.take (k + 1)) ⟨yk, xc, xs', xq, xv, xd, xx⟩) := by
            rw [HPN.out]
            exact step_same_ge HP.out rfl (by rw [HZ.out]; omega)
          clear hz e0 e1 e2 e3 e4 e5 e6
          go_wp2
          exact ⟨⟨k + 1, L + 1, g5, cp5, _, true, by omega, by omega, by go_num, rfl, rfl, HPn, HL5, HR5, HX5⟩, by simp [intOf]; omega⟩
      · have hky' : (yk == xk) = false := by simpa using hky
        by_cases hkl : xk < yk
        · cases hpf : put
          · subst hpf
            have b0 := HB.out.c0
            have b1 := HB.out.c1
            have b2 := HB.out.c2
            have b3 := HB.out.c3
            have b4 := HB.out.c4
            have b5 := HB.out.c5
            have b6 := HB.out.c6
            have hzb := HB.out.lt
            obtain ⟨hz, e0, e1, e2, e3, e4, e5, e6, -, -⟩ := HYA.out _ HB.out.below
            go_wp2_with fail
            have gb0 := aft_cell hzb b0
            have gb1 := aft_cell hzb b1
            have gb2 := aft_cell hzb b2
            have gb3 := aft_cell hzb b3
            have gb4 := aft_cell hzb b4
            have gb5 := aft_cell hzb b5
            have gb6 := aft_cell hzb b6
            have ge0 := aft_cell hz e0
            have ge1 := aft_cell hz e1
            have ge2 := aft_cell hz e2
            have ge3 := aft_cell hz e3
            have ge4 := aft_cell hz e4
            have ge5 := aft_cell hz e5
            have ge6 := aft_cell hz e6
            have ne := aft_some wr
            refine wp_region_aft (by kernel_rfl) (by kernel_rfl) ?_
            repeat (first | go_big_quiet_step (first | fail))
            refine wpQuiet_nil ?_
            intro wq hq
            clear gb0 gb1 gb2 gb3 gb4 gb5 gb6 ge0 ge1 ge2 ge3 ge4 ge5 ge6 ne
            have HXq : Hid (BoxIn w wq xk xc xs' xq xv xd ax xx.length cx) := HB.out.step hq
            have HRq : Hid (RowEs wq (w.heap.size + 1) g cp es) := HR.out.below hq
            clear hq hzb b0 b1 b2 b3 b4 b5 b6 hz e0 e1 e2 e3 e4 e5 e6
            have b0 := HXq.out.c0
            have b1 := HXq.out.c1
            have b2 := HXq.out.c2
            have b3 := HXq.out.c3
            have b4 := HXq.out.c4
            have b5 := HXq.out.c5
            have b6 := HXq.out.c6
            have hzb := HXq.out.lt
            obtain ⟨hz, e0, e1, e2, e3, e4, e5, e6, -, -⟩ := HYA.out _ HXq.out.below
            go_wp2_with fail
            have gb0 := aft_cell hzb b0
            have gb1 := aft_cell hzb b1
            have gb2 := aft_cell hzb b2
            have gb3 := aft_cell hzb b3
            have gb4 := aft_cell hzb b4
            have gb5 := aft_cell hzb b5
            have gb6 := aft_cell hzb b6
            have ge0 := aft_cell hz e0
            have ge1 := aft_cell hz e1
            have ge2 := aft_cell hz e2
            have ge3 := aft_cell hz e3
            have ge4 := aft_cell hz e4
            have ge5 := aft_cell hz e5
            have ge6 := aft_cell hz e6
            have ne := aft_some wq
            refine wp_region_aft (by kernel_rfl) (by kernel_rfl) ?_
            repeat (first | go_big_quiet_step (first | fail))
            refine wpQuiet_nil ?_
            intro wt hq
            clear gb0 gb1 gb2 gb3 gb4 gb5 gb6 ge0 ge1 ge2 ge3 ge4 ge5 ge6 ne
            have HXt : Hid (BoxIn w wt xk xc xs' xq xv xd ax xx.length cx) := HXq.out.step hq
            have HRt : Hid (RowEs wt (w.heap.size + 1) g cp es) := HRq.out.below hq
            clear hq hzb b0 b1 b2 b3 b4 b5 b6 hz e0 e1 e2 e3 e4 e5 e6
            have b0 := HXt.out.c0
            have b1 := HXt.out.c1
            have b2 := HXt.out.c2
            have b3 := HXt.out.c3
            have b4 := HXt.out.c4
            have b5 := HXt.out.c5
            have b6 := HXt.out.c6
            have hzb := HXt.out.lt
            obtain ⟨hz, e0, e1, e2, e3, e4, e5, e6, -, -⟩ := HYA.out _ HXt.out.below
            go_wp2_with fail
            have gb0 := aft_cell hzb b0
            have gb1 := aft_cell hzb b1
            have gb2 := aft_cell hzb b2
            have gb3 := aft_cell hzb b3
            have gb4 := aft_cell hzb b4
            have gb5 := aft_cell hzb b5
            have gb6 := aft_cell hzb b6
            have ge0 := aft_cell hz e0
            have ge1 := aft_cell hz e1
            have ge2 := aft_cell hz e2
            have ge3 := aft_cell hz e3
            have ge4 := aft_cell hz e4
            have ge5 := aft_cell hz e5
            have ge6 := aft_cell hz e6
            have ne := aft_some wt
            refine wp_region_aft (by kernel_rfl) (by kernel_rfl) ?_
            repeat (first | go_big_quiet_step (first | fail))
            refine wpQuiet_nil ?_
            intro wv hq
            clear gb0 gb1 gb2 gb3 gb4 gb5 gb6 ge0 ge1 ge2 ge3 ge4 ge5 ge6 ne
            have HXv : Hid (BoxIn w wv xk xc xs' xq xv xd ax xx.length cx) := HXt.out.step hq
            have HRv : Hid (RowEs wv (w.heap.size + 1) g cp es) := HRt.out.below hq
            clear hq hzb b0 b1 b2 b3 b4 b5 b6 hz e0 e1 e2 e3 e4 e5 e6
            have b0 := HXv.out.c0
            have b1 := HXv.out.c1
            have b2 := HXv.out.c2
            have b3 := HXv.out.c3
            have b4 := HXv.out.c4
            have b5 := HXv.out.c5
            have b6 := HXv.out.c6
            go_wp2_with fail
            refine (copy_any ⟨xk, xc, xs', xq, xv, xd, xx⟩ _ _ _ hlx (HGX.out.below HXv.out.below)).mono ?_
            rintro e u5 ⟨p5, r5, rfl, hg1, hg2, hg3, hb⟩
            have HXa : Hid (BoxIn w u5 xk xc xs' xq xv xd ax xx.length cx) := HXv.out.step hb
            have HRa : Hid (RowEs u5 (w.heap.size + 1) g cp es) := HRv.out.below hb
            have HGa : Hid (HoldsDeps u5 p5 0 xx) := hg3
            have hg5 : p5 ≠ g := by have := HRv.out.lt; omega
            have hg6 : w.heap.size + 1 ≤ p5 := by have := HXv.out.lt; omega
            have hsz : w.heap.size + 1 ≤ u5.heap.size := HXa.out.lt
            clear hb hg3 hg1
            have HOW : Hid ((u5.alloc (.cells #[.int .i64 xk, .int .i64 xc, .int .i64 xs', .int .i64 xq, .int .i64 xv, .bool xd, .slice (some ⟨p5, 0, none⟩) xx.length r5] 41)).ownsRow (w.heap.size + 1) 41 7 (.slice (some ⟨g, 0, none⟩) L cp) L (es.flatMap wrVals)) := grow_own HRa.out HL.out _
            go_wp2_with (at_builtin; refine wpList_append_lies _ (by rfl) _ _ _ (by rfl) (w.heap.size + 1) 41 i0 (wrV 0 0 0 0 0 false none 0 0) 7 72 Try.underlying44 HI0.out HX0.out.1 HX0.out.2.1 HX0.out.2.2 (by rfl) (by omega) (.slice (some ⟨g, 0, none⟩) L cp) L (es.flatMap wrVals) (by rfl) HOW.out ⟨u5.heap.size, 0, none⟩ 1 1 (wrVals ⟨⟨xk, xc, xs', xq, xv, xd, xx⟩, p5, r5⟩) (by rfl) (by rfl) (one_cells u5 _ ⟨⟨xk, xc, xs', xq, xv, xd, xx⟩, p5, r5⟩) (by simpa using vals_one [⟨⟨xk, xc, xs', xq, xv, xd, xx⟩, p5, r5⟩]) (by omega) (by unfold maxLen; omega) (by omega) (by simp; omega) _ rfl ?_; intro g5 cp5 w5 hown hgrow hg3 _; refine Hid.out ?_)
            refine Lib.hid ?_
            obtain ⟨hXn, hRn⟩ := grow_one (x := ⟨xk, xc, xs', xq, xv, xd, xx⟩) HL.out HXa.out HRa.out HGa.out hg2 hg5 hg6 hown hgrow hg3
            have HX5 : Hid (BoxIn w w5 xk xc xs' xq xv xd ax xx.length cx) := hXn
            have HR5 : Hid (RowEs w5 (w.heap.size + 1) g5 cp5 (es ++ [⟨⟨xk, xc, xs', xq, xv, xd, xx⟩, p5, r5⟩])) := hRn
            have HL5 : Hid ((es ++ [(⟨⟨xk, xc, xs', xq, xv, xd, xx⟩, p5, r5⟩ : En)]).length = L + 1) := by
              rw [List.length_append, HL.out]
              exact Lib.hid rfl
            clear hown hgrow HOW HXa HRa HGa hXn hRn hg2 hg3 hg5 hg6 hsz
            clear b0 b1 b2 b3 b4 b5 b6
            obtain ⟨hz, e0, e1, e2, e3, e4, e5, e6, -, -⟩ := HYA.out _ HX5.out.below
            go_wp2_with fail
            refine (copy_any ⟨yk, yc, ys, yq, yv, yd, yy⟩ _ _ _ hly (HYA.out _ HX5.out.below).2.2.2.2.2.2.2.2.2).mono ?_
            rintro e u6 ⟨p6, r6, rfl, hg1, hg2, hg3, hb⟩
            have HXa : Hid (BoxIn w u6 xk xc xs' xq xv xd ax xx.length cx) := HX5.out.step hb
            have HRa : Hid (RowEs u6 (w.heap.size + 1) g5 cp5 (es ++ [(⟨⟨xk, xc, xs', xq, xv, xd, xx⟩, p5, r5⟩ : En)])) := HR5.out.below hb
            have HGa : Hid (HoldsDeps u6 p6 0 yy) := hg3
            have hg5 : p6 ≠ g5 := by have := HR5.out.lt; omega
            have hg6 : w.heap.size + 1 ≤ p6 := by have := HX5.out.lt; omega
            have hsz : w.heap.size + 1 ≤ u6.heap.size := HXa.out.lt
            clear hb hg3 hg1
            have HOW : Hid ((u6.alloc (.cells #[.int .i64 yk, .int .i64 yc, .int .i64 ys, .int .i64 yq, .int .i64 yv, .bool yd, .slice (some ⟨p6, 0, none⟩) yy.length r6] 41)).ownsRow (w.heap.size + 1) 41 7 (.slice (some ⟨g5, 0, none⟩) (L + 1) cp5) (L + 1) ((es ++ [(⟨⟨xk, xc, xs', xq, xv, xd, xx⟩, p5, r5⟩ : En)]).flatMap wrVals)) := grow_own HRa.out HL5.out _
            go_wp2_with (at_builtin; refine wpList_append_lies _ (by rfl) _ _ _ (by rfl) (w.heap.size + 1) 41 i0 (wrV 0 0 0 0 0 false none 0 0) 7 72 Try.underlying44 HI0.out HX0.out.1 HX0.out.2.1 HX0.out.2.2 (by rfl) (by omega) (.slice (some ⟨g5, 0, none⟩) (L + 1) cp5) (L + 1) ((es ++ [(⟨⟨xk, xc, xs', xq, xv, xd, xx⟩, p5, r5⟩ : En)]).flatMap wrVals) (by rfl) HOW.out ⟨u6.heap.size, 0, none⟩ 1 1 (wrVals ⟨⟨yk, yc, ys, yq, yv, yd, yy⟩, p6, r6⟩) (by rfl) (by rfl) (one_cells u6 _ ⟨⟨yk, yc, ys, yq, yv, yd, yy⟩, p6, r6⟩) (by simpa using vals_one [⟨⟨yk, yc, ys, yq, yv, yd, yy⟩, p6, r6⟩]) (by omega) (by unfold maxLen; omega) (by omega) (by simp; omega) _ rfl ?_; intro g6 cp6 w6 hown hgrow hg3 _; refine Hid.out ?_)
            refine Lib.hid ?_
            obtain ⟨hXn, hRn⟩ := grow_one (x := ⟨yk, yc, ys, yq, yv, yd, yy⟩) HL5.out HXa.out HRa.out HGa.out hg2 hg5 hg6 hown hgrow hg3
            have HX6 : Hid (BoxIn w w6 xk xc xs' xq xv xd ax xx.length cx) := hXn
            have HR6 : Hid (RowEs w6 (w.heap.size + 1) g6 cp6 ((es ++ [(⟨⟨xk, xc, xs', xq, xv, xd, xx⟩, p5, r5⟩ : En)]) ++ [⟨⟨yk, yc, ys, yq, yv, yd, yy⟩, p6, r6⟩])) := hRn
            have HL6 : Hid (((es ++ [(⟨⟨xk, xc, xs', xq, xv, xd, xx⟩, p5, r5⟩ : En)]) ++ [(⟨⟨yk, yc, ys, yq, yv, yd, yy⟩, p6, r6⟩ : En)]).length = (L + 1) + 1) := by
              rw [List.length_append, HL5.out]
              exact Lib.hid rfl
            clear hown hgrow HOW HXa HRa HGa hXn hRn hg2 hg3 hg5 hg6 hsz
            have HPn : Hid (((es ++ [(⟨⟨xk, xc, xs', xq, xv, xd, xx⟩, p5, r5⟩ : En)] ++ [(⟨⟨yk, yc, ys, yq, yv, yd, yy⟩, p6, r6⟩ : En)]).map (·.x), true) = putTo (ws.take (k + 1)) ⟨xk, xc, xs', xq, xv, xd, xx⟩) := by
              rw [HPN.out]
              exact step_ahead HP.out hky hkl
            clear hz e0 e1 e2 e3 e4 e5 e6
            go_wp2
            exact ⟨⟨k + 1, L + 1 + 1, g6, cp6, _, true, by omega, by omega, by go_num, rfl, rfl, HPn, HL6, HR6, HX6⟩, by simp [intOf]; omega⟩
          · subst hpf
            have b0 := HB.out.c0
            have b1 := HB.out.c1
            have b2 := HB.out.c2
            have b3 := HB.out.c3
            have b4 := HB.out.c4
            have b5 := HB.out.c5
            have b6 := HB.out.c6
            have hzb := HB.out.lt
            obtain ⟨hz, e0, e1, e2, e3, e4, e5, e6, -, -⟩ := HYA.out _ HB.out.below
            go_wp2_with fail
            have gb0 := aft_cell hzb b0
            have gb1 := aft_cell hzb b1
            have gb2 := aft_cell hzb b2
            have gb3 := aft_cell hzb b3
            have gb4 := aft_cell hzb b4
            have gb5 := aft_cell hzb b5
            have gb6 := aft_cell hzb b6
            have ge0 := aft_cell hz e0
            have ge1 := aft_cell hz e1
            have ge2 := aft_cell hz e2
            have ge3 := aft_cell hz e3
            have ge4 := aft_cell hz e4
            have ge5 := aft_cell hz e5
            have ge6 := aft_cell hz e6
            have ne := aft_some wr
            refine wp_region_aft (by kernel_rfl) (by kernel_rfl) ?_
            repeat (first | go_big_quiet_step (first | fail))
            refine wpQuiet_nil ?_
            intro wq hq
            clear gb0 gb1 gb2 gb3 gb4 gb5 gb6 ge0 ge1 ge2 ge3 ge4 ge5 ge6 ne
            have HXq : Hid (BoxIn w wq xk xc xs' xq xv xd ax xx.length cx) := HB.out.step hq
            have HRq : Hid (RowEs wq (w.heap.size + 1) g cp es) := HR.out.below hq
            clear hq hzb b0 b1 b2 b3 b4 b5 b6 hz e0 e1 e2 e3 e4 e5 e6
            have b0 := HXq.out.c0
            have b1 := HXq.out.c1
            have b2 := HXq.out.c2
            have b3 := HXq.out.c3
            have b4 := HXq.out.c4
            have b5 := HXq.out.c5
            have b6 := HXq.out.c6
            have hzb := HXq.out.lt
            obtain ⟨hz, e0, e1, e2, e3, e4, e5, e6, -, -⟩ := HYA.out _ HXq.out.below
            go_wp2_with fail
            have gb0 := aft_cell hzb b0
            have gb1 := aft_cell hzb b1
            have gb2 := aft_cell hzb b2
            have gb3 := aft_cell hzb b3
            have gb4 := aft_cell hzb b4
            have gb5 := aft_cell hzb b5
            have gb6 := aft_cell hzb b6
            have ge0 := aft_cell hz e0
            have ge1 := aft_cell hz e1
            have ge2 := aft_cell hz e2
            have ge3 := aft_cell hz e3
            have ge4 := aft_cell hz e4
            have ge5 := aft_cell hz e5
            have ge6 := aft_cell hz e6
            have ne := aft_some wq
            refine wp_region_aft (by kernel_rfl) (by kernel_rfl) ?_
            repeat (first | go_big_quiet_step (first | fail))
            refine wpQuiet_nil ?_
            intro wt hq
            clear gb0 gb1 gb2 gb3 gb4 gb5 gb6 ge0 ge1 ge2 ge3 ge4 ge5 ge6 ne
            have HXt : Hid (BoxIn w wt xk xc xs' xq xv xd ax xx.length cx) := HXq.out.step hq
            have HRt : Hid (RowEs wt (w.heap.size + 1) g cp es) := HRq.out.below hq
            clear hq hzb b0 b1 b2 b3 b4 b5 b6 hz e0 e1 e2 e3 e4 e5 e6
            have b0 := HXt.out.c0
            have b1 := HXt.out.c1
            have b2 := HXt.out.c2
            have b3 := HXt.out.c3
            have b4 := HXt.out.c4
            have b5 := HXt.out.c5
            have b6 := HXt.out.c6
            have hzb := HXt.out.lt
            obtain ⟨hz, e0, e1, e2, e3, e4, e5, e6, -, -⟩ := HYA.out _ HXt.out.below
            go_wp2_with fail
            have gb0 := aft_cell hzb b0
            have gb1 := aft_cell hzb b1
            have gb2 := aft_cell hzb b2
            have gb3 := aft_cell hzb b3
            have gb4 := aft_cell hzb b4
            have gb5 := aft_cell hzb b5
            have gb6 := aft_cell hzb b6
            have ge0 := aft_cell hz e0
            have ge1 := aft_cell hz e1
            have ge2 := aft_cell hz e2
            have ge3 := aft_cell hz e3
            have ge4 := aft_cell hz e4
            have ge5 := aft_cell hz e5
            have ge6 := aft_cell hz e6
            have ne := aft_some wt
            refine wp_region_aft (by kernel_rfl) (by kernel_rfl) ?_
            repeat (first | go_big_quiet_step (first | fail))
            refine wpQuiet_nil ?_
            intro wv hq
            clear gb0 gb1 gb2 gb3 gb4 gb5 gb6 ge0 ge1 ge2 ge3 ge4 ge5 ge6 ne
            have HXv : Hid (BoxIn w wv xk xc xs' xq xv xd ax xx.length cx) := HXt.out.step hq
            have HRv : Hid (RowEs wv (w.heap.size + 1) g cp es) := HRt.out.below hq
            clear hq hzb b0 b1 b2 b3 b4 b5 b6 hz e0 e1 e2 e3 e4 e5 e6
            obtain ⟨hz, e0, e1, e2, e3, e4, e5, e6, -, -⟩ := HYA.out _ HXv.out.below
            go_wp2_with fail
            refine (copy_any ⟨yk, yc, ys, yq, yv, yd, yy⟩ _ _ _ hly (HYA.out _ HXv.out.below).2.2.2.2.2.2.2.2.2).mono ?_
            rintro e u5 ⟨p5, r5, rfl, hg1, hg2, hg3, hb⟩
            have HXa : Hid (BoxIn w u5 xk xc xs' xq xv xd ax xx.length cx) := HXv.out.step hb
            have HRa : Hid (RowEs u5 (w.heap.size + 1) g cp es) := HRv.out.below hb
            have HGa : Hid (HoldsDeps u5 p5 0 yy) := hg3
            have hg5 : p5 ≠ g := by have := HRv.out.lt; omega
            have hg6 : w.heap.size + 1 ≤ p5 := by have := HXv.out.lt; omega
            have hsz : w.heap.size + 1 ≤ u5.heap.size := HXa.out.lt
            clear hb hg3 hg1
            have HOW : Hid ((u5.alloc (.cells #[.int .i64 yk, .int .i64 yc, .int .i64 ys, .int .i64 yq, .int .i64 yv, .bool yd, .slice (some ⟨p5, 0, none⟩) yy.length r5] 41)).ownsRow (w.heap.size + 1) 41 7 (.slice (some ⟨g, 0, none⟩) L cp) L (es.flatMap wrVals)) := grow_own HRa.out HL.out _
            go_wp2_with (at_builtin; refine wpList_append_lies _ (by rfl) _ _ _ (by rfl) (w.heap.size + 1) 41 i0 (wrV 0 0 0 0 0 false none 0 0) 7 72 Try.underlying44 HI0.out HX0.out.1 HX0.out.2.1 HX0.out.2.2 (by rfl) (by omega) (.slice (some ⟨g, 0, none⟩) L cp) L (es.flatMap wrVals) (by rfl) HOW.out ⟨u5.heap.size, 0, none⟩ 1 1 (wrVals ⟨⟨yk, yc, ys, yq, yv, yd, yy⟩, p5, r5⟩) (by rfl) (by rfl) (one_cells u5 _ ⟨⟨yk, yc, ys, yq, yv, yd, yy⟩, p5, r5⟩) (by simpa using vals_one [⟨⟨yk, yc, ys, yq, yv, yd, yy⟩, p5, r5⟩]) (by omega) (by unfold maxLen; omega) (by omega) (by simp; omega) _ rfl ?_; intro g5 cp5 w5 hown hgrow hg3 _; refine Hid.out ?_)
            refine Lib.hid ?_
            obtain ⟨hXn, hRn⟩ := grow_one (x := ⟨yk, yc, ys, yq, yv, yd, yy⟩) HL.out HXa.out HRa.out HGa.out hg2 hg5 hg6 hown hgrow hg3
            have HX5 : Hid (BoxIn w w5 xk xc xs' xq xv xd ax xx.length cx) := hXn
            have HR5 : Hid (RowEs w5 (w.heap.size + 1) g5 cp5 (es ++ [⟨⟨yk, yc, ys, yq, yv, yd, yy⟩, p5, r5⟩])) := hRn
            have HL5 : Hid ((es ++ [(⟨⟨yk, yc, ys, yq, yv, yd, yy⟩, p5, r5⟩ : En)]).length = L + 1) := by
              rw [List.length_append, HL.out]
              exact Lib.hid rfl
            clear hown hgrow HOW HXa HRa HGa hXn hRn hg2 hg3 hg5 hg6 hsz
            have HPn : Hid (((es ++ [(⟨⟨yk, yc, ys, yq, yv, yd, yy⟩, p5, r5⟩ : En)]).map (·.x), true) = putTo (ws.take (k + 1)) ⟨xk, xc, xs', xq, xv, xd, xx⟩) := by
              rw [HPN.out]
              exact step_else HP.out hky (fun h => by cases h.2)
            clear hz e0 e1 e2 e3 e4 e5 e6
            go_wp2
            exact ⟨⟨k + 1, L + 1, g5, cp5, _, true, by omega, by omega, by go_num, rfl, rfl, HPn, HL5, HR5, HX5⟩, by simp [intOf]; omega⟩
        · have hkl' : decide (xk < yk) = false := by simp; omega
          have b0 := HB.out.c0
          have b1 := HB.out.c1
          have b2 := HB.out.c2
          have b3 := HB.out.c3
          have b4 := HB.out.c4
          have b5 := HB.out.c5
          have b6 := HB.out.c6
          have hzb := HB.out.lt
          obtain ⟨hz, e0, e1, e2, e3, e4, e5, e6, -, -⟩ := HYA.out _ HB.out.below
          go_wp2_with fail
          have gb0 := aft_cell hzb b0
          have gb1 := aft_cell hzb b1
          have gb2 := aft_cell hzb b2
          have gb3 := aft_cell hzb b3
          have gb4 := aft_cell hzb b4
          have gb5 := aft_cell hzb b5
          have gb6 := aft_cell hzb b6
          have ge0 := aft_cell hz e0
          have ge1 := aft_cell hz e1
          have ge2 := aft_cell hz e2
          have ge3 := aft_cell hz e3
          have ge4 := aft_cell hz e4
          have ge5 := aft_cell hz e5
          have ge6 := aft_cell hz e6
          have ne := aft_some wr
          refine wp_region_aft (by kernel_rfl) (by kernel_rfl) ?_
          repeat (first | go_big_quiet_step (first | fail))
          refine wpQuiet_nil ?_
          intro wq hq
          clear gb0 gb1 gb2 gb3 gb4 gb5 gb6 ge0 ge1 ge2 ge3 ge4 ge5 ge6 ne
          have HXq : Hid (BoxIn w wq xk xc xs' xq xv xd ax xx.length cx) := HB.out.step hq
          have HRq : Hid (RowEs wq (w.heap.size + 1) g cp es) := HR.out.below hq
          clear hq hzb b0 b1 b2 b3 b4 b5 b6 hz e0 e1 e2 e3 e4 e5 e6
          have b0 := HXq.out.c0
          have b1 := HXq.out.c1
          have b2 := HXq.out.c2
          have b3 := HXq.out.c3
          have b4 := HXq.out.c4
          have b5 := HXq.out.c5
          have b6 := HXq.out.c6
          have hzb := HXq.out.lt
          obtain ⟨hz, e0, e1, e2, e3, e4, e5, e6, -, -⟩ := HYA.out _ HXq.out.below
          go_wp2_with fail
          have gb0 := aft_cell hzb b0
          have gb1 := aft_cell hzb b1
          have gb2 := aft_cell hzb b2
          have gb3 := aft_cell hzb b3
          have gb4 := aft_cell hzb b4
          have gb5 := aft_cell hzb b5
          have gb6 := aft_cell hzb b6
          have ge0 := aft_cell hz e0
          have ge1 := aft_cell hz e1
          have ge2 := aft_cell hz e2
          have ge3 := aft_cell hz e3
          have ge4 := aft_cell hz e4
          have ge5 := aft_cell hz e5
          have ge6 := aft_cell hz e6
          have ne := aft_some wq
          refine wp_region_aft (by kernel_rfl) (by kernel_rfl) ?_
          repeat (first | go_big_quiet_step (first | fail))
          refine wpQuiet_nil ?_
          intro wt hq
          clear gb0 gb1 gb2 gb3 gb4 gb5 gb6 ge0 ge1 ge2 ge3 ge4 ge5 ge6 ne
          have HXt : Hid (BoxIn w wt xk xc xs' xq xv xd ax xx.length cx) := HXq.out.step hq
          have HRt : Hid (RowEs wt (w.heap.size + 1) g cp es) := HRq.out.below hq
          clear hq hzb b0 b1 b2 b3 b4 b5 b6 hz e0 e1 e2 e3 e4 e5 e6
          have b0 := HXt.out.c0
          have b1 := HXt.out.c1
          have b2 := HXt.out.c2
          have b3 := HXt.out.c3
          have b4 := HXt.out.c4
          have b5 := HXt.out.c5
          have b6 := HXt.out.c6
          have hzb := HXt.out.lt
          obtain ⟨hz, e0, e1, e2, e3, e4, e5, e6, -, -⟩ := HYA.out _ HXt.out.below
          go_wp2_with fail
          have gb0 := aft_cell hzb b0
          have gb1 := aft_cell hzb b1
          have gb2 := aft_cell hzb b2
          have gb3 := aft_cell hzb b3
          have gb4 := aft_cell hzb b4
          have gb5 := aft_cell hzb b5
          have gb6 := aft_cell hzb b6
          have ge0 := aft_cell hz e0
          have ge1 := aft_cell hz e1
          have ge2 := aft_cell hz e2
          have ge3 := aft_cell hz e3
          have ge4 := aft_cell hz e4
          have ge5 := aft_cell hz e5
          have ge6 := aft_cell hz e6
          have ne := aft_some wt
          refine wp_region_aft (by kernel_rfl) (by kernel_rfl) ?_
          repeat (first | go_big_quiet_step (first | fail))
          refine wpQuiet_nil ?_
          intro wv hq
          clear gb0 gb1 gb2 gb3 gb4 gb5 gb6 ge0 ge1 ge2 ge3 ge4 ge5 ge6 ne
          have HXv : Hid (BoxIn w wv xk xc xs' xq xv xd ax xx.length cx) := HXt.out.step hq
          have HRv : Hid (RowEs wv (w.heap.size + 1) g cp es) := HRt.out.below hq
          clear hq hzb b0 b1 b2 b3 b4 b5 b6 hz e0 e1 e2 e3 e4 e5 e6
          obtain ⟨hz, e0, e1, e2, e3, e4, e5, e6, -, -⟩ := HYA.out _ HXv.out.below
          go_wp2_with fail
          refine (copy_any ⟨yk, yc, ys, yq, yv, yd, yy⟩ _ _ _ hly (HYA.out _ HXv.out.below).2.2.2.2.2.2.2.2.2).mono ?_
          rintro e u5 ⟨p5, r5, rfl, hg1, hg2, hg3, hb⟩
          have HXa : Hid (BoxIn w u5 xk xc xs' xq xv xd ax xx.length cx) := HXv.out.step hb
          have HRa : Hid (RowEs u5 (w.heap.size + 1) g cp es) := HRv.out.below hb
          have HGa : Hid (HoldsDeps u5 p5 0 yy) := hg3
          have hg5 : p5 ≠ g := by have := HRv.out.lt; omega
          have hg6 : w.heap.size + 1 ≤ p5 := by have := HXv.out.lt; omega
          have hsz : w.heap.size + 1 ≤ u5.heap.size := HXa.out.lt
          clear hb hg3 hg1
          have HOW : Hid ((u5.alloc (.cells #[.int .i64 yk, .int .i64 yc, .int .i64 ys, .int .i64 yq, .int .i64 yv, .bool yd, .slice (some ⟨p5, 0, none⟩) yy.length r5] 41)).ownsRow (w.heap.size + 1) 41 7 (.slice (some ⟨g, 0, none⟩) L cp) L (es.flatMap wrVals)) := grow_own HRa.out HL.out _
          go_wp2_with (at_builtin; refine wpList_append_lies _ (by rfl) _ _ _ (by rfl) (w.heap.size + 1) 41 i0 (wrV 0 0 0 0 0 false none 0 0) 7 72 Try.underlying44 HI0.out HX0.out.1 HX0.out.2.1 HX0.out.2.2 (by rfl) (by omega) (.slice (some ⟨g, 0, none⟩) L cp) L (es.flatMap wrVals) (by rfl) HOW.out ⟨u5.heap.size, 0, none⟩ 1 1 (wrVals ⟨⟨yk, yc, ys, yq, yv, yd, yy⟩, p5, r5⟩) (by rfl) (by rfl) (one_cells u5 _ ⟨⟨yk, yc, ys, yq, yv, yd, yy⟩, p5, r5⟩) (by simpa using vals_one [⟨⟨yk, yc, ys, yq, yv, yd, yy⟩, p5, r5⟩]) (by omega) (by unfold maxLen; omega) (by omega) (by simp; omega) _ rfl ?_; intro g5 cp5 w5 hown hgrow hg3 _; refine Hid.out ?_)
          refine Lib.hid ?_
          obtain ⟨hXn, hRn⟩ := grow_one (x := ⟨yk, yc, ys, yq, yv, yd, yy⟩) HL.out HXa.out HRa.out HGa.out hg2 hg5 hg6 hown hgrow hg3
          have HX5 : Hid (BoxIn w w5 xk xc xs' xq xv xd ax xx.length cx) := hXn
          have HR5 : Hid (RowEs w5 (w.heap.size + 1) g5 cp5 (es ++ [⟨⟨yk, yc, ys, yq, yv, yd, yy⟩, p5, r5⟩])) := hRn
          have HL5 : Hid ((es ++ [(⟨⟨yk, yc, ys, yq, yv, yd, yy⟩, p5, r5⟩ : En)]).length = L + 1) := by
            rw [List.length_append, HL.out]
            exact Lib.hid rfl
          clear hown hgrow HOW HXa HRa HGa hXn hRn hg2 hg3 hg5 hg6 hsz
          have HPn : Hid (((es ++ [(⟨⟨yk, yc, ys, yq, yv, yd, yy⟩, p5, r5⟩ : En)]).map (·.x), put) = putTo (ws.take (k + 1)) ⟨xk, xc, xs', xq, xv, xd, xx⟩) := by
            rw [HPN.out]
            exact step_else HP.out hky (fun h => by have h1 : xk < yk := h.1; omega)
          clear hz e0 e1 e2 e3 e4 e5 e6
          go_wp2
          exact ⟨⟨k + 1, L + 1, g5, cp5, _, put, by omega, by omega, by go_num, rfl, rfl, HPn, HL5, HR5, HX5⟩, by simp [intOf]; omega⟩
    · have hkk : k = n := by omega
      subst hkk
      cases put
      · have b0 := HB.out.c0
        have b1 := HB.out.c1
        have b2 := HB.out.c2
        have b3 := HB.out.c3
        have b4 := HB.out.c4
        have b5 := HB.out.c5
        have b6 := HB.out.c6
        go_wp2_with fail
        refine (copy_any ⟨xk, xc, xs', xq, xv, xd, xx⟩ _ _ _ hlx (HGX.out.below HB.out.below)).mono ?_
        rintro e u5 ⟨p5, r5, rfl, hg1, hg2, hg3, hb⟩
        have HXa : Hid (BoxIn w u5 xk xc xs' xq xv xd ax xx.length cx) := HB.out.step hb
        have HRa : Hid (RowEs u5 (w.heap.size + 1) g cp es) := HR.out.below hb
        have HGa : Hid (HoldsDeps u5 p5 0 xx) := hg3
        have hg5 : p5 ≠ g := by have := HR.out.lt; omega
        have hg6 : w.heap.size + 1 ≤ p5 := by have := HB.out.lt; omega
        have hsz : w.heap.size + 1 ≤ u5.heap.size := HXa.out.lt
        clear hb hg3 hg1
        have HOW : Hid ((u5.alloc (.cells #[.int .i64 xk, .int .i64 xc, .int .i64 xs', .int .i64 xq, .int .i64 xv, .bool xd, .slice (some ⟨p5, 0, none⟩) xx.length r5] 41)).ownsRow (w.heap.size + 1) 41 7 (.slice (some ⟨g, 0, none⟩) L cp) L (es.flatMap wrVals)) := grow_own HRa.out HL.out _
        go_wp2_with (at_builtin; refine wpList_append_lies _ (by rfl) _ _ _ (by rfl) (w.heap.size + 1) 41 i0 (wrV 0 0 0 0 0 false none 0 0) 7 72 Try.underlying44 HI0.out HX0.out.1 HX0.out.2.1 HX0.out.2.2 (by rfl) (by omega) (.slice (some ⟨g, 0, none⟩) L cp) L (es.flatMap wrVals) (by rfl) HOW.out ⟨u5.heap.size, 0, none⟩ 1 1 (wrVals ⟨⟨xk, xc, xs', xq, xv, xd, xx⟩, p5, r5⟩) (by rfl) (by rfl) (one_cells u5 _ ⟨⟨xk, xc, xs', xq, xv, xd, xx⟩, p5, r5⟩) (by simpa using vals_one [⟨⟨xk, xc, xs', xq, xv, xd, xx⟩, p5, r5⟩]) (by omega) (by unfold maxLen; omega) (by omega) (by simp; omega) _ rfl ?_; intro g5 cp5 w5 hown hgrow hg3 _; refine Hid.out ?_)
        refine Lib.hid ?_
        obtain ⟨hXn, hRn⟩ := grow_one (x := ⟨xk, xc, xs', xq, xv, xd, xx⟩) HL.out HXa.out HRa.out HGa.out hg2 hg5 hg6 hown hgrow hg3
        have HX5 : Hid (BoxIn w w5 xk xc xs' xq xv xd ax xx.length cx) := hXn
        have HR5 : Hid (RowEs w5 (w.heap.size + 1) g5 cp5 (es ++ [⟨⟨xk, xc, xs', xq, xv, xd, xx⟩, p5, r5⟩])) := hRn
        have HL5 : Hid ((es ++ [(⟨⟨xk, xc, xs', xq, xv, xd, xx⟩, p5, r5⟩ : En)]).length = L + 1) := by
          rw [List.length_append, HL.out]
          exact Lib.hid rfl
        clear hown hgrow HOW HXa HRa HGa hXn hRn hg2 hg3 hg5 hg6 hsz
        have hW : Hid ((es ++ [(⟨⟨xk, xc, xs', xq, xv, xd, xx⟩, p5, r5⟩ : En)]).map (·.x) = putW ws ⟨xk, xc, xs', xq, xv, xd, xx⟩) := by
          have hp := HP.out
          rw [List.take_of_length_le (by rw [HN.out]; exact Nat.le_refl _)] at hp
          rw [HXX.out, ← hp, List.map_append]
          exact Lib.hid rfl
        clear b0 b1 b2 b3 b4 b5 b6
        go_wp2
        go_ret
        exact ⟨g5, cp5, _, L + 1, rfl, HL5.out, hW.out, HR5.out, HX5.out.below⟩
      · have hW : Hid (es.map (·.x) = putW ws ⟨xk, xc, xs', xq, xv, xd, xx⟩) := by
          have hp := HP.out
          rw [List.take_of_length_le (by rw [HN.out]; exact Nat.le_refl _)] at hp
          rw [HXX.out, ← hp]
          exact Lib.hid rfl
        go_wp2
        go_ret
        exact ⟨g, cp, es, L, rfl, HL.out, hW.out, HR.out, HB.out.below⟩

theorem put_any (b n cap : Nat) (ws : List Wr) (γ : Nat → Nat) (x : Wr) (gx cx : Nat) (w : World) (hn : ws.length = n) (hm : n ≤ 1048576) (hx : Few ws) (hh : HoldsWs w b ws γ) (hlx : x.xs.length ≤ 1048576) (hgx : gx < w.heap.size) (hhx : HoldsDeps w gx 0 x.xs) :
    Calls Try.prog 51 #[.slice (some ⟨b, 0, none⟩) n cap, wrOf x (some ⟨gx, 0, none⟩) cx] w fun e w' => ∃ g cp es L, e = .returned (.slice (some ⟨g, 0, none⟩) L cp) ∧ es.length = L ∧ es.map (·.x) = putW ws x ∧ RowEs w' (w.heap.size + 1) g cp es ∧ Below w.heap.size w w' :=
  put_gen _ n cap ws x _ cx w hn hm hx (hh.isWs hx) hlx (.inr ⟨gx, 0, rfl, hgx, hhx⟩)

end Go.Proofs.Ytojgahcogpediaa

/- The cursor of the drawn inputs: its place in memory, and the contracts of l01Open, pick, once. -/
namespace Go.Proofs.Ytojgahcogpediaa
open Go.ChangeShapes Go.WideShapes Go.ChangeAt Go.RowKit Go.Joins

/-- Nothing that was there has turned, but for the one block B. -/
structure Hole (B : Nat) (w w' : World) : Prop where
  os : w'.os = w.os
  tape : w'.tape = w.tape
  output : w'.output = w.output
  size : w.heap.size ≤ w'.heap.size
  block : ∀ k, k < w.heap.size → k ≠ B → w'.heap[k]? = w.heap[k]?

theorem Hole.refl (B : Nat) (w : World) : Hole B w w := ⟨rfl, rfl, rfl, Nat.le_refl _, fun _ _ _ => rfl⟩

theorem Hole.trans {B : Nat} {a b c : World} (h : Hole B a b) (k : Hole B b c) : Hole B a c :=
  ⟨k.os.trans h.os, k.tape.trans h.tape, k.output.trans h.output, Nat.le_trans h.size k.size, fun i hi hn => (k.block i (Nat.lt_of_lt_of_le hi h.size) hn).trans (h.block i hi hn)⟩

theorem Hole.of_below {B : Nat} {w w' : World} (h : Below w.heap.size w w') : Hole B w w' := ⟨h.os, h.tape, h.output, h.size, fun k hk _ => h.block k hk⟩

theorem Hole.drew {B : Nat} {w w' : World} (h : Hole B w w') : Hole B w w'.drew := ⟨h.os, h.tape, h.output, h.size, h.block⟩

theorem Hole.drewN {B : Nat} {w w' : World} (h : Hole B w w') (n : Nat) : Hole B w (w'.drewN n) := h.trans (Hole.of_below (below_drewN (Below.refl _ _) n))

theorem Hole.alloc {B : Nat} {w w' : World} (h : Hole B w w') (o : Obj) : Hole B w (w'.alloc o) := h.trans (Hole.of_below ((Below.refl _ _).alloc (Nat.le_refl _) o))

theorem Hole.set {B : Nat} {w w' : World} (h : Hole B w w') (o : Nat) (v : Value) : Hole B w (w'.setCell ⟨B, o, none⟩ v) :=
  h.trans ⟨rfl, rfl, rfl, by simp [World.setCell], fun k _ hn => Below.heap_setCell _ _ _ _ hn⟩

theorem Hole.cell {B : Nat} {w w' : World} (h : Hole B w w') {b o : Nat} (hb : b < w.heap.size) (hn : b ≠ B) : w'.cell? ⟨b, o, none⟩ = w.cell? ⟨b, o, none⟩ := World.cell?_of_block (w := w) (h.block b hb hn)

theorem Hole.frozen {B : Nat} {w w' : World} (h : Hole B w w') {b o : Nat} (hb : b < w.heap.size) (hn : b ≠ B) : w'.frozen? ⟨b, o, none⟩ = w.frozen? ⟨b, o, none⟩ := World.frozen?_of_block (w := w) (h.block b hb hn)

theorem Hole.below {B c : Nat} {w0 w w' : World} (h0 : Below c w0 w) (h : Hole B w w') (hB : c ≤ B) (hc : c ≤ w.heap.size) : Below c w0 w' :=
  h0.trans ⟨h.os, h.tape, h.output, h.size, fun k hk => h.block k (by omega) (by omega)⟩

structure CurAt (w : World) (B : Nat) (a : Option Addr) (len cap : Nat) (at_ seed : Int) : Prop where
  lt : B < w.heap.size
  c0 : w.cell? ⟨B, 0, none⟩ = some (.slice a len cap)
  c1 : w.cell? ⟨B, 1, none⟩ = some (.int .i64 at_)
  c2 : w.cell? ⟨B, 2, none⟩ = some (.int .i64 seed)
  fz : ∀ o, w.frozen? ⟨B, o, none⟩ = false
  p0 : 0 ≤ at_
  s0 : 0 ≤ seed
  s1 : seed ≤ 65520

/-- The code's bytes, in a block that is not the cursor's. -/
def CodeAt (w : World) (B : Nat) (a : Option Addr) (len : Nat) : Prop :=
  len = 0 ∨ ∃ b o, a = some ⟨b, o, none⟩ ∧ b < B ∧ ∀ i, i < len → ∃ z : Int, 0 ≤ z ∧ z ≤ 255 ∧ w.cell? ⟨b, o + i, none⟩ = some (.int .u8 z)

theorem CodeAt.hole {w w' : World} {B : Nat} {a : Option Addr} {len : Nat} (h : CodeAt w B a len) (hB : B < w.heap.size) (hh : Hole B w w') : CodeAt w' B a len := by
  rcases h with h | ⟨b, o, ha, hb, hz⟩
  · exact .inl h
  · refine .inr ⟨b, o, ha, hb, fun i hi => ?_⟩
    obtain ⟨z, z0, z1, hc⟩ := hz i hi
    exact ⟨z, z0, z1, (hh.cell (by omega) (by omega)).trans hc⟩

/-- The cursor stands at most N bytes on. -/
def Cur (w : World) (B : Nat) (a : Option Addr) (len cap : Nat) (N : Int) : Prop := ∃ at_ seed, CurAt w B a len cap at_ seed ∧ at_ ≤ N ∧ CodeAt w B a len ∧ len ≤ 1048576

theorem Cur.below {w w' : World} {B : Nat} {a : Option Addr} {len cap : Nat} {N : Int} (h : Cur w B a len cap N) (hb : Below w.heap.size w w') : Cur w' B a len cap N := by
  obtain ⟨at_, seed, hc, hN, hk, hl⟩ := h
  refine ⟨at_, seed, ⟨Nat.lt_of_lt_of_le hc.lt hb.size, held_cell hb hc.c0 hc.lt, held_cell hb hc.c1 hc.lt, held_cell hb hc.c2 hc.lt, fun o => (hb.frozen (p := ⟨B, o, none⟩) hc.lt).trans (hc.fz o), hc.p0, hc.s0, hc.s1⟩, hN, hk.hole hc.lt (Hole.of_below hb), hl⟩

theorem Cur.more {w : World} {B : Nat} {a : Option Addr} {len cap : Nat} {N M : Int} (h : Cur w B a len cap N) (hM : N ≤ M) : Cur w B a len cap M := by
  obtain ⟨at_, seed, hc, hN, hk⟩ := h
  exact ⟨at_, seed, hc, Int.le_trans hN hM, hk⟩

theorem Cur.lt {w : World} {B : Nat} {a : Option Addr} {len cap : Nat} {N : Int} (h : Cur w B a len cap N) : B < w.heap.size := by
  obtain ⟨_, _, hc, _⟩ := h
  exact hc.lt

theorem mod_lt {x n : Int} (hn : 2 ≤ n) : 0 ≤ x % n ∧ x % n < n := ⟨Int.emod_nonneg _ (by omega), Int.emod_lt_of_pos _ (by omega)⟩

set_option maxHeartbeats 1000000 in
theorem pick_in (B : Nat) (b o len cap : Nat) (at_ n z : Int) (w : World) (c0 : w.cell? ⟨B, 0, none⟩ = some (.slice (some ⟨b, o, none⟩) len cap)) (c1 : w.cell? ⟨B, 1, none⟩ = some (.int .i64 at_)) (fz : ∀ o, w.frozen? ⟨B, o, none⟩ = false)
    (hz : w.cell? ⟨b, o + at_.toNat, none⟩ = some (.int .u8 z)) (z0 : 0 ≤ z) (z1 : z ≤ 255) (p0 : 0 ≤ at_) (p1 : at_ < len) (hl : len ≤ 1048576) (hn : 2 ≤ n) (hn' : n ≤ 100000) :
    Calls Try.prog 60 #[.pointer (some ⟨B, 0, none⟩), .int .i64 n] w fun e w' => e = .returned (.int .i64 (z % n)) ∧ ∃ m, w' = (w.drewN m).setCell ⟨B, 1, none⟩ (.int .i64 (at_ + 1)) := by
  go_enter Try.func60, Try.ntmps60
  go_wp2_with fail
  go_quiet (fail)
  go_wp2_with fail
  go_quiet (fail)
  go_wp2
  go_ret
  exact ⟨rfl, _, rfl⟩

set_option maxHeartbeats 1000000 in
theorem pick_out (B : Nat) (b o len cap : Nat) (at_ seed n z : Int) (w : World) (hne : b ≠ B) (c0 : w.cell? ⟨B, 0, none⟩ = some (.slice (some ⟨b, o, none⟩) len cap)) (c1 : w.cell? ⟨B, 1, none⟩ = some (.int .i64 at_)) (c2 : w.cell? ⟨B, 2, none⟩ = some (.int .i64 seed)) (fz : ∀ o, w.frozen? ⟨B, o, none⟩ = false)
    (hz : w.cell? ⟨b, o + (at_ % len).toNat, none⟩ = some (.int .u8 z)) (z0 : 0 ≤ z) (z1 : z ≤ 255) (p0 : 0 ≤ at_) (p2 : at_ ≤ 1000000) (p1 : (len : Int) ≤ at_) (s0 : 0 ≤ seed) (s1 : seed ≤ 65520) (hl0 : (0 : Int) < len) (hl : len ≤ 1048576) (hn : 2 ≤ n) (hn' : n ≤ 100000) :
    Calls Try.prog 60 #[.pointer (some ⟨B, 0, none⟩), .int .i64 n] w fun e w' => e = .returned (.int .i64 (((seed * 1103 + 12345) % 65521 / 7 + z) % n)) ∧ ∃ m m', w' = ((((w.drewN m).setCell ⟨B, 2, none⟩ (.int .i64 ((seed * 1103 + 12345) % 65521))).drewN m').setCell ⟨B, 1, none⟩ (.int .i64 (at_ + 1))) := by
  have i1 : (0 : Int) ≤ at_ % len := Int.emod_nonneg _ (by omega)
  have i2 : at_ % len < (len : Int) := Int.emod_lt_of_pos _ hl0
  go_enter Try.func60, Try.ntmps60
  go_wp2_with fail
  go_quiet (fail)
  go_wp2_with fail
  go_quiet (fail)
  go_wp2
  go_ret
  exact ⟨rfl, _, _, rfl⟩

set_option maxHeartbeats 1000000 in
theorem pick_nil (B : Nat) (a : Option Addr) (cap : Nat) (at_ seed n : Int) (w : World) (c0 : w.cell? ⟨B, 0, none⟩ = some (.slice a 0 cap)) (c1 : w.cell? ⟨B, 1, none⟩ = some (.int .i64 at_)) (c2 : w.cell? ⟨B, 2, none⟩ = some (.int .i64 seed)) (fz : ∀ o, w.frozen? ⟨B, o, none⟩ = false)
    (p0 : 0 ≤ at_) (p2 : at_ ≤ 1000000) (s0 : 0 ≤ seed) (s1 : seed ≤ 65520) (hn : 2 ≤ n) (hn' : n ≤ 100000) :
    Calls Try.prog 60 #[.pointer (some ⟨B, 0, none⟩), .int .i64 n] w fun e w' => e = .returned (.int .i64 (0 % n)) ∧ ∃ m m', w' = ((((w.drewN m).setCell ⟨B, 2, none⟩ (.int .i64 ((seed * 1103 + 12345) % 65521))).drewN m').setCell ⟨B, 1, none⟩ (.int .i64 (at_ + 1))) := by
  go_enter Try.func60, Try.ntmps60
  go_wp2_with fail
  go_quiet (fail)
  go_wp2
  go_ret
  exact ⟨by simp, _, 0, rfl⟩

theorem cell_set_same {w : World} {B o : Nat} {u v : Value} (h : w.cell? ⟨B, o, none⟩ = some u) : (w.setCell ⟨B, o, none⟩ v).cell? ⟨B, o, none⟩ = some v := World.cell?_setCell_same _ _ _ h

theorem cell_set_off {w : World} {B o o' : Nat} {u v : Value} (h : w.cell? ⟨B, o', none⟩ = some u) (hn : o ≠ o') : (w.setCell ⟨B, o, none⟩ v).cell? ⟨B, o', none⟩ = some u :=
  (World.cell?_setCell_other _ _ _ _ (fun e => hn (by injection e))).trans h

theorem cur_set1 {w : World} {B : Nat} {a : Option Addr} {len cap : Nat} {at_ seed p : Int} (h : CurAt w B a len cap at_ seed) (hp : 0 ≤ p) : CurAt (w.setCell ⟨B, 1, none⟩ (.int .i64 p)) B a len cap p seed :=
  ⟨by simpa [World.setCell] using h.lt, cell_set_off h.c0 (by omega), cell_set_same h.c1, cell_set_off h.c2 (by omega), fun o => by rw [World.frozen?_setCell]; exact h.fz o, hp, h.s0, h.s1⟩

theorem cur_set2 {w : World} {B : Nat} {a : Option Addr} {len cap : Nat} {at_ seed p : Int} (h : CurAt w B a len cap at_ seed) (hp : 0 ≤ p) (hq : p ≤ 65520) : CurAt (w.setCell ⟨B, 2, none⟩ (.int .i64 p)) B a len cap at_ p :=
  ⟨by simpa [World.setCell] using h.lt, cell_set_off h.c0 (by omega), cell_set_off h.c1 (by omega), cell_set_same h.c2, fun o => by rw [World.frozen?_setCell]; exact h.fz o, h.p0, hp, hq⟩

theorem cur_drewN {w : World} {B : Nat} {a : Option Addr} {len cap : Nat} {at_ seed : Int} (h : CurAt w B a len cap at_ seed) (n : Nat) : CurAt (w.drewN n) B a len cap at_ seed := by
  have hb : Below w.heap.size w (w.drewN n) := below_drewN (Below.refl _ _) n
  exact ⟨Nat.lt_of_lt_of_le h.lt hb.size, held_cell hb h.c0 h.lt, held_cell hb h.c1 h.lt, held_cell hb h.c2 h.lt, fun o => (hb.frozen (p := ⟨B, o, none⟩) h.lt).trans (h.fz o), h.p0, h.s0, h.s1⟩

theorem pick_any (B : Nat) (a : Option Addr) (len cap : Nat) (N n : Int) (w : World) (hN : N ≤ 1000000) (hn : 2 ≤ n) (hn' : n ≤ 100000) (h : Cur w B a len cap N) :
    Calls Try.prog 60 #[.pointer (some ⟨B, 0, none⟩), .int .i64 n] w fun e w' => ∃ r : Int, e = .returned (.int .i64 r) ∧ 0 ≤ r ∧ r < n ∧ Cur w' B a len cap (N + 1) ∧ Hole B w w' := by
  obtain ⟨at_, seed, hc, hN', hk, hl⟩ := h
  have hs : 0 ≤ (seed * 1103 + 12345) % 65521 ∧ (seed * 1103 + 12345) % 65521 ≤ 65520 := by
    have := hc.s0
    have := hc.s1
    omega
  have hp := hc.p0
  rcases hk with h0 | ⟨b, o, rfl, hb, hz⟩
  · subst h0
    refine (pick_nil B a cap at_ seed n w hc.c0 hc.c1 hc.c2 hc.fz hc.p0 (by omega) hc.s0 hc.s1 hn hn').mono ?_
    rintro e w' ⟨rfl, m, m', rfl⟩
    exact ⟨_, rfl, (mod_lt hn).1, (mod_lt hn).2, ⟨at_ + 1, _, cur_set1 (cur_drewN (cur_set2 (cur_drewN hc m) hs.1 hs.2) m') (by omega), by omega, .inl rfl, hl⟩, ((((Hole.refl B w).drewN m).set 2 _).drewN m').set 1 _⟩
  · by_cases hlt : at_ < len
    · obtain ⟨z, z0, z1, hzc⟩ := hz at_.toNat (by omega)
      refine (pick_in B b o len cap at_ n z w hc.c0 hc.c1 hc.fz hzc z0 z1 hc.p0 hlt hl hn hn').mono ?_
      rintro e w' ⟨rfl, m, rfl⟩
      have hh : Hole B w ((w.drewN m).setCell ⟨B, 1, none⟩ (.int .i64 (at_ + 1))) := ((Hole.refl B w).drewN m).set 1 _
      exact ⟨_, rfl, (mod_lt hn).1, (mod_lt hn).2, ⟨at_ + 1, seed, cur_set1 (cur_drewN hc m) (by omega), by omega, (CodeAt.hole (.inr ⟨b, o, rfl, hb, hz⟩) hc.lt hh), hl⟩, hh⟩
    · by_cases h0 : len = 0
      · subst h0
        refine (pick_nil B _ cap at_ seed n w hc.c0 hc.c1 hc.c2 hc.fz hc.p0 (by omega) hc.s0 hc.s1 hn hn').mono ?_
        rintro e w' ⟨rfl, m, m', rfl⟩
        exact ⟨_, rfl, (mod_lt hn).1, (mod_lt hn).2, ⟨at_ + 1, _, cur_set1 (cur_drewN (cur_set2 (cur_drewN hc m) hs.1 hs.2) m') (by omega), by omega, .inl rfl, hl⟩, ((((Hole.refl B w).drewN m).set 2 _).drewN m').set 1 _⟩
      · have hl0 : (0 : Int) < len := by omega
        have i1 : (0 : Int) ≤ at_ % len := Int.emod_nonneg _ (by omega)
        have i2 : at_ % len < (len : Int) := Int.emod_lt_of_pos _ hl0
        obtain ⟨z, z0, z1, hzc⟩ := hz (at_ % len).toNat (by omega)
        refine (pick_out B b o len cap at_ seed n z w (by omega) hc.c0 hc.c1 hc.c2 hc.fz hzc z0 z1 hc.p0 (by omega) (by omega) hc.s0 hc.s1 hl0 hl hn hn').mono ?_
        rintro e w' ⟨rfl, m, m', rfl⟩
        have hh : Hole B w ((((w.drewN m).setCell ⟨B, 2, none⟩ (.int .i64 ((seed * 1103 + 12345) % 65521))).drewN m').setCell ⟨B, 1, none⟩ (.int .i64 (at_ + 1))) := ((((Hole.refl B w).drewN m).set 2 _).drewN m').set 1 _
        exact ⟨_, rfl, (mod_lt hn).1, (mod_lt hn).2, ⟨at_ + 1, _, cur_set1 (cur_drewN (cur_set2 (cur_drewN hc m) hs.1 hs.2) m') (by omega), by omega, (CodeAt.hole (.inr ⟨b, o, rfl, hb, hz⟩) hc.lt hh), hl⟩, hh⟩

set_option maxHeartbeats 400000 in
theorem once_any (B : Nat) (a : Option Addr) (len cap : Nat) (N n : Int) (w : World) (hN : N ≤ 1000000) (hn : 2 ≤ n) (hn' : n ≤ 100000) (h : Cur w B a len cap N) :
    Calls Try.prog 90 #[.pointer (some ⟨B, 0, none⟩), .int .i64 n] w fun e w' => ∃ r : Bool, e = .returned (.bool r) ∧ Cur w' B a len cap (N + 1) ∧ Hole B w w' := by
  have HC : Hid (Cur w B a len cap N) := h
  clear h
  go_enter Try.func90, Try.ntmps90
  go_wp2_with fail
  refine (pick_any B a len cap N n _ hN hn hn' HC.out).mono ?_
  rintro e w1 ⟨r, rfl, r0, r1, hc1, hh1⟩
  have HC1 : Hid (Cur w1 B a len cap (N + 1)) := hc1
  have HH1 : Hid (Hole B w w1) := hh1
  clear hc1 hh1
  go_wp2
  go_ret
  exact ⟨_, rfl, HC1.out, HH1.out⟩

theorem Hole.setNew {B R : Nat} {w w' : World} (h : Hole B w w') (hR : w.heap.size ≤ R) (o : Nat) (v : Value) : Hole B w (w'.setCell ⟨R, o, none⟩ v) :=
  ⟨h.os, h.tape, h.output, by simpa [World.setCell] using h.size, fun k hk hn => (Below.heap_setCell _ _ _ _ (by show k ≠ R; omega)).trans (h.block k hk hn)⟩

theorem Cur.setOther {w : World} {B R : Nat} {a : Option Addr} {len cap : Nat} {N : Int} (h : Cur w B a len cap N) (hR : B < R) (o : Nat) (v : Value) : Cur (w.setCell ⟨R, o, none⟩ v) B a len cap N := by
  obtain ⟨at_, seed, hc, hN, hk, hl⟩ := h
  have hne : ∀ b o', b < R → (Addr.mk R o none) ≠ ⟨b, o', none⟩ := fun b o' hb e => by
    have : R = b := by injection e
    omega
  refine ⟨at_, seed, ⟨by simpa [World.setCell] using hc.lt, (World.cell?_setCell_other _ _ _ _ (hne _ _ hR)).trans hc.c0, (World.cell?_setCell_other _ _ _ _ (hne _ _ hR)).trans hc.c1, (World.cell?_setCell_other _ _ _ _ (hne _ _ hR)).trans hc.c2, fun o => by rw [World.frozen?_setCell]; exact hc.fz o, hc.p0, hc.s0, hc.s1⟩, hN, ?_, hl⟩
  rcases hk with h0 | ⟨b, o', ha, hb, hz⟩
  · exact .inl h0
  · refine .inr ⟨b, o', ha, hb, fun i hi => ?_⟩
    obtain ⟨z, z0, z1, hcz⟩ := hz i hi
    exact ⟨z, z0, z1, (World.cell?_setCell_other _ _ _ _ (hne _ _ (by omega))).trans hcz⟩

/-- A tag in a block of its own. -/
structure TagBox (w : World) (b : Nat) (c s q : Int) : Prop where
  lt : b < w.heap.size
  c0 : w.cell? ⟨b, 0, none⟩ = some (.int .i64 c)
  c1 : w.cell? ⟨b, 1, none⟩ = some (.int .i64 s)
  c2 : w.cell? ⟨b, 2, none⟩ = some (.int .i64 q)
  fz : ∀ o, w.frozen? ⟨b, o, none⟩ = false

theorem TagBox.start (w : World) (c s q : Int) (t : Nat) : TagBox (w.alloc (.cells #[.int .i64 c, .int .i64 s, .int .i64 q] t)) w.heap.size c s q :=
  ⟨by simp, by simp [go_sem], by simp [go_sem], by simp [go_sem], fun o => by simp [go_sem]⟩

theorem TagBox.hole {w w' : World} {B b : Nat} {c s q : Int} (h : TagBox w b c s q) (hh : Hole B w w') (hn : b ≠ B) : TagBox w' b c s q :=
  ⟨Nat.lt_of_lt_of_le h.lt hh.size, (hh.cell h.lt hn).trans h.c0, (hh.cell h.lt hn).trans h.c1, (hh.cell h.lt hn).trans h.c2, fun o => (hh.frozen h.lt hn).trans (h.fz o)⟩

theorem ints_cell (w : World) (l : List Int) (t i : Nat) (hi : i < l.length) : (w.alloc (.cells (l.map (Value.int .i64)).toArray t)).cell? ⟨w.heap.size, i, none⟩ = some (.int .i64 (l.getD i 0)) := by
  simp [go_sem, List.getD, hi]

set_option maxHeartbeats 1000000 in
theorem raw_any (B : Nat) (a : Option Addr) (len cap : Nat) (N : Int) (w : World) (hN : N ≤ 100000) (h : Cur w B a len cap N) :
    Calls Try.prog 96 #[.pointer (some ⟨B, 0, none⟩)] w fun e w' => ∃ r : Int, e = .returned (.int .i64 r) ∧ Cur w' B a len cap (N + 2) ∧ Hole B w w' := by
  have HC : Hid (Cur w B a len cap N) := h
  clear h
  go_enter Try.func96, Try.ntmps96
  go_wp2_with fail
  refine (pick_any B a len cap N 8 _ (by omega) (by omega) (by omega) HC.out).mono ?_
  rintro e w1 ⟨r, rfl, r0, r1, hc1, hh1⟩
  have HC1 : Hid (Cur w1 B a len cap (N + 1)) := hc1
  have HH1 : Hid (Hole B w w1) := hh1
  clear hc1 hh1
  by_cases k0 : r = 0
  · subst k0
    go_wp2_with fail
    refine (pick_any B a len cap (N + 1) 256 _ (by omega) (by omega) (by omega) HC1.out).mono ?_
    rintro e w2 ⟨r2, rfl, q0, q1, hc2, hh2⟩
    have HC2 : Hid (Cur w2 B a len cap (N + 2)) := hc2.more (by omega)
    have HH2 : Hid (Hole B w w2) := HH1.out.trans hh2
    clear hc2 hh2
    go_wp2
    go_ret
    exact ⟨_, rfl, HC2.out, HH2.out⟩
  · by_cases k1 : r = 1
    · subst k1
      go_wp2_with fail
      have HA : Hid (Below w1.heap.size w1 (w1.alloc (.cells ((([9223372036854775807, -9223372036854775808, 4611686018427387904, 1000, 1001, -1000, 100000, 100001] : List Int).map (Value.int .i64)).toArray) 3))) := (Below.refl _ _).alloc (Nat.le_refl _) _
      refine (pick_any B a len cap (N + 1) 8 _ (by omega) (by omega) (by omega) (HC1.out.below HA.out)).mono ?_
      rintro e w2 ⟨r2, rfl, q0, q1, hc2, hh2⟩
      have HC2 : Hid (Cur w2 B a len cap (N + 2)) := hc2.more (by omega)
      have HH2 : Hid (Hole B w w2) := (HH1.out.trans (Hole.of_below HA.out)).trans hh2
      have hcell : w2.cell? ⟨w1.heap.size, r2.toNat, none⟩ = some (.int .i64 _) := (hh2.cell (by simp) (by have := HC1.out.lt; omega)).trans (ints_cell w1 [9223372036854775807, -9223372036854775808, 4611686018427387904, 1000, 1001, -1000, 100000, 100001] _ r2.toNat (by simp; omega))
      generalize List.getD [9223372036854775807, -9223372036854775808, 4611686018427387904, 1000, 1001, -1000, 100000, 100001] r2.toNat 0 = v at hcell
      clear hc2 hh2 HA
      go_wp2
      go_ret
      exact ⟨_, rfl, HC2.out, HH2.out⟩
    · have k0' : (r == 0) = false := by simp [k0]
      have k1' : (r == 1) = false := by simp [k1]
      clear k0 k1
      go_wp2_with fail
      refine (pick_any B a len cap (N + 1) 14 _ (by omega) (by omega) (by omega) HC1.out).mono ?_
      rintro e w2 ⟨r2, rfl, q0, q1, hc2, hh2⟩
      have HC2 : Hid (Cur w2 B a len cap (N + 2)) := hc2.more (by omega)
      have HH2 : Hid (Hole B w w2) := HH1.out.trans hh2
      clear hc2 hh2
      go_wp2
      go_ret
      exact ⟨_, rfl, HC2.out, HH2.out⟩

end Go.Proofs.Ytojgahcogpediaa
