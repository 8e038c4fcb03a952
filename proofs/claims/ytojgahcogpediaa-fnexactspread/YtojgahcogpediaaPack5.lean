import Derived.Test.YtojgahcogpediaaPack3
import Derived.Test.YtojgahcogpediaaPack4
import Derived.Test.YtojgahcogpediaaPack2
/- The contract of the specification's l02Put. -/
namespace Go.Proofs.Ytojgahcogpediaa
open Go.ChangeShapes Go.WideShapes Go.ChangeAt Go.RowKit Go.Joins
attribute [local go_sem ↓] Go.wp_at_zero Go.wp_at_succ

abbrev cmpW (x y : Wr) : Int := wcmp x.k x.c x.s x.q x.v x.de x.xs y.k y.c y.s y.q y.v y.de y.xs

def putStep (x : Wr) (st : List Wr × Bool) (y : Wr) : List Wr × Bool :=
  if y.k = x.k then (if cmpW y x < 0 then (st.1 ++ [x], true) else (st.1 ++ [y], true))
  else if x.k < y.k ∧ st.2 = false then (st.1 ++ [x] ++ [y], true) else (st.1 ++ [y], st.2)

def putTo (ws : List Wr) (x : Wr) : List Wr × Bool := ws.foldl (putStep x) ([], false)

def putW (ws : List Wr) (x : Wr) : List Wr := if (putTo ws x).2 then (putTo ws x).1 else (putTo ws x).1 ++ [x]

theorem putTo_next (ws : List Wr) (x : Wr) (k : Nat) (h : k < ws.length) : putTo (ws.take (k + 1)) x = putStep x (putTo (ws.take k) x) (ws.getD k wz) := by
  have e : ws.take (k + 1) = ws.take k ++ [ws.getD k wz] := by
    rw [List.take_add_one, List.getElem?_eq_getElem h]
    simp [List.getD, h]
  unfold putTo
  rw [e, List.foldl_append]
  rfl

theorem putTo_len (ws : List Wr) (x : Wr) : (putTo ws x).1.length ≤ 2 * ws.length := by
  have : ∀ (l : List Wr) (st : List Wr × Bool), (l.foldl (putStep x) st).1.length ≤ st.1.length + 2 * l.length := by
    intro l
    induction l with
    | nil => intro st; simp
    | cons y r ih =>
      intro st
      have h := ih (putStep x st y)
      have h1 : (putStep x st y).1.length ≤ st.1.length + 2 := by
        unfold putStep
        split
        · split <;> simp
        · split <;> simp
      simp only [List.foldl_cons, List.length_cons]
      omega
  have := this ws ([], false)
  simpa [putTo] using this

abbrev cells7 (x : Wr) (g cp : Nat) : Array Value := #[.int .i64 x.k, .int .i64 x.c, .int .i64 x.s, .int .i64 x.q, .int .i64 x.v, .bool x.de, .slice (some ⟨g, 0, none⟩) x.xs.length cp]

theorem grow_own {w2 : World} {base g cp L : Nat} {es : List En} (h : RowEs w2 base g cp es) (hL : es.length = L) (o : Obj) : (w2.alloc o).ownsRow base 41 7 (.slice (some ⟨g, 0, none⟩) L cp) L (es.flatMap wrVals) := by
  have := (h.below ((Below.refl w2.heap.size w2).alloc (Nat.le_refl _) o)).own
  rw [hL] at this
  exact this

/-- One write more, in a row behind a box. -/
theorem grow_one {w w2 w5 : World} {k c s q v : Int} {de : Bool} {a : Option Addr} {len cap : Nat} {g cp g3 cp3 L : Nat} {es : List En} {x : Wr} {g2 cp2 : Nat} (hL : es.length = L) (hX : BoxIn w w2 k c s q v de a len cap) (hR : RowEs w2 (w.heap.size + 1) g cp es)
    (hG : HoldsDeps w2 g2 0 x.xs) (hg2 : g2 < w2.heap.size) (hg5 : g2 ≠ g) (hg6 : w.heap.size + 1 ≤ g2)
    (hown : w5.ownsRow (w.heap.size + 1) 41 7 (.slice (some ⟨g3, 0, none⟩) (L + 1) cp3) (L + 1) (es.flatMap wrVals ++ wrVals ⟨x, g2, cp2⟩)) (hgrow : (w2.alloc (.cells (cells7 x g2 cp2) 41)).grownBy w5 (some g)) (hg3 : some g = some g3 ∨ g3 = (w2.alloc (.cells (cells7 x g2 cp2) 41)).heap.size) :
    BoxIn w w5 k c s q v de a len cap ∧ RowEs w5 (w.heap.size + 1) g3 cp3 (es ++ [⟨x, g2, cp2⟩]) := by
  have hA : Below w2.heap.size w2 (w2.alloc (.cells (cells7 x g2 cp2) 41)) := (Below.refl _ _).alloc (Nat.le_refl _) _
  have hXA := hX.step hA
  have hle := hR.le
  refine ⟨hXA.other hgrow.size (hXA.below.grown hgrow hXA.below.size fun j hj => by injection hj with hj; omega) (hgrow.block _ hXA.lt (by simp; omega)), ?_⟩
  refine (hR.below hA).more ⟨hg6, by simp; omega, hg5, hG.below hA hg2⟩ (by rw [hL]; exact hown) hgrow hg3

theorem step_same_lt {x y : Wr} {es : List En} {st : List Wr × Bool} {put : Bool} {g cp : Nat} (hs : (es.map (·.x), put) = st) (h1 : y.k = x.k) (h2 : cmpW y x < 0) : ((es ++ [(⟨x, g, cp⟩ : En)]).map (·.x), true) = putStep x st y := by
  subst hs
  simp [putStep, h1, h2]

theorem step_same_ge {x y : Wr} {es : List En} {st : List Wr × Bool} {put : Bool} {g cp : Nat} (hs : (es.map (·.x), put) = st) (h1 : y.k = x.k) (h2 : ¬ cmpW y x < 0) : ((es ++ [(⟨y, g, cp⟩ : En)]).map (·.x), true) = putStep x st y := by
  subst hs
  simp [putStep, h1, h2]

theorem step_ahead {x y : Wr} {es : List En} {st : List Wr × Bool} {g cp g' cp' : Nat} (hs : (es.map (·.x), false) = st) (h1 : ¬ y.k = x.k) (h2 : x.k < y.k) : ((es ++ [(⟨x, g, cp⟩ : En)] ++ [(⟨y, g', cp'⟩ : En)]).map (·.x), true) = putStep x st y := by
  subst hs
  simp [putStep, h1, h2]

theorem step_else {x y : Wr} {es : List En} {st : List Wr × Bool} {put : Bool} {g cp : Nat} (hs : (es.map (·.x), put) = st) (h1 : ¬ y.k = x.k) (h2 : ¬ (x.k < y.k ∧ put = false)) : ((es ++ [(⟨y, g, cp⟩ : En)]).map (·.x), put) = putStep x st y := by
  subst hs
  simp only [putStep, h1, if_false]
  rw [if_neg h2]
  simp

set_option maxRecDepth 100000 in
set_option maxHeartbeats 8000000 in
theorem put_gen (a : Option Addr) (n cap : Nat) (ws : List Wr) (x : Wr) (ax : Option Addr) (cx : Nat) (w : World) (hn : ws.length = n) (hm : n ≤ 1048576) (hx : Few ws) (hh : IsWs w a ws) (hlx : x.xs.length ≤ 1048576) (hhx : IsDeps w ax x.xs) :
    Calls Try.prog 51 #[.slice a n cap, wrOf x ax cx] w fun e w' => ∃ g cp es L, e = .returned (.slice (some ⟨g, 0, none⟩) L cp) ∧ es.length = L ∧ es.map (·.x) = putW ws x ∧ RowEs w' (w.heap.size + 1) g cp es ∧ Below w.heap.size w w' := by
  have HH : Hid (IsWs w a ws) := hh
  have HN : Hid (ws.length = n) := hn
  have HX : Hid (Few ws) := hx
  have HGX : Hid (IsDeps w ax x.xs) := hhx
  have HXX : Hid (putW ws x = if (putTo ws x).2 then (putTo ws x).1 else (putTo ws x).1 ++ [x]) := rfl
  clear hh hn hx hhx
  obtain ⟨i0, hi0, hx0⟩ := Option.map_eq_some_iff.1 infoWr
  simp only [Prod.mk.injEq] at hx0
  have HI0 := Lib.hid hi0
  have HX0 := Lib.hid hx0
  clear hi0 hx0
  obtain ⟨xk, xc, xs', xq, xv, xd, xx⟩ := x
  simp only at hlx HGX ⊢
  go_enter Try.func51, Try.ntmps51
  go_wp2
  have HXs : Hid (BoxIn w ((w.alloc (.cells #[.int .i64 xk, .int .i64 xc, .int .i64 xs', .int .i64 xq, .int .i64 xv, .bool xd, .slice ax xx.length cx] 41)).alloc (.cells #[] 41)) xk xc xs' xq xv xd ax xx.length cx) := BoxIn.start (t := 41) ((Below.refl _ _).alloc (Nat.le_refl _) _)
  have HRs : Hid (RowEs ((w.alloc (.cells #[.int .i64 xk, .int .i64 xc, .int .i64 xs', .int .i64 xq, .int .i64 xv, .bool xd, .slice ax xx.length cx] 41)).alloc (.cells #[] 41)) (w.heap.size + 1) (w.heap.size + 1) 0 []) := by
    have := rowEs_start (w.alloc (.cells #[.int .i64 xk, .int .i64 xc, .int .i64 xs', .int .i64 xq, .int .i64 xv, .bool xd, .slice ax xx.length cx] 41)) (w.heap.size + 1) (by simp)
    exact Lib.hid (by simpa using this)
  go_loopw [5, 6, 7] (fun t pt i wr => ∃ (k L g cp : Nat) (es : List En) (put : Bool), k ≤ n ∧ L ≤ 2 * k ∧ i = .int .i64 k ∧ pt = .bool put ∧ t = .slice (some ⟨g, 0, none⟩) L cp ∧ Hid ((es.map (·.x), put) = putTo (ws.take k) ⟨xk, xc, xs', xq, xv, xd, xx⟩) ∧ Hid (es.length = L) ∧ Hid (RowEs wr (w.heap.size + 1) g cp es) ∧ Hid (BoxIn w wr xk xc xs' xq xv xd ax xx.length cx)) (fun _ _ i _ => n - (intOf i).toNat)
  case atStart => exact ⟨0, 0, w.heap.size + 1, 0, [], false, Nat.zero_le _, Nat.zero_le _, rfl, rfl, rfl, by simp [Hid, putTo], rfl, HRs, HXs⟩
  case round =>
    clear HXs HRs
    obtain ⟨k, L, g, cp, es, put, hk, hLk, rfl, rfl, rfl, HP, HL, HR, HB⟩ := hrel
    by_cases hk' : k < n
    · obtain ⟨b, o, ak, cq, rfl, hlat⟩ := HH.out.later HN.out hk'
      have HYA : Hid (∀ w', Below w.heap.size w w' → b < w'.heap.size ∧ w'.cell? ⟨b, o + k * 7, none⟩ = some (.int .i64 (ws.getD k wz).k) ∧ w'.cell? ⟨b, o + k * 7 + 1, none⟩ = some (.int .i64 (ws.getD k wz).c) ∧ w'.cell? ⟨b, o + k * 7 + 2, none⟩ = some (.int .i64 (ws.getD k wz).s) ∧ w'.cell? ⟨b, o + k * 7 + 3, none⟩ = some (.int .i64 (ws.getD k wz).q) ∧ w'.cell? ⟨b, o + k * 7 + 4, none⟩ = some (.int .i64 (ws.getD k wz).v) ∧ w'.cell? ⟨b, o + k * 7 + 5, none⟩ = some (.bool (ws.getD k wz).de) ∧ w'.cell? ⟨b, o + k * 7 + 6, none⟩ = some (.slice ak (ws.getD k wz).xs.length cq) ∧ b < w'.heap.size ∧ IsDeps w' ak (ws.getD k wz).xs) := fun w' hb => by
        obtain ⟨hz0, ⟨a0, a1, a2, a3, a4, a5, a6⟩, hd1⟩ := hlat w' hb
        exact ⟨hz0, a0, a1, a2, a3, a4, a5, a6, hz0, hd1⟩
      have HPN : Hid (putTo (ws.take (k + 1)) ⟨xk, xc, xs', xq, xv, xd, xx⟩ = putStep ⟨xk, xc, xs', xq, xv, xd, xx⟩ (putTo (ws.take k) ⟨xk, xc, xs', xq, xv, xd, xx⟩) (ws.getD k wz)) := putTo_next ws _ k (by rw [HN.out]; exact hk')
      have hly := HX.out k (by rw [HN.out]; exact hk')
      have i1 : (0 : Int) ≤ (k : Int) := by omega
      have i2 : (k : Int) < (n : Int) := by omega
      clear hlat HH
      generalize ws.getD k wz = y at *
      obtain ⟨yk, yc, ys, yq, yv, yd, yy⟩ := y
      simp only at HYA hly
      by_cases hky : yk = xk
      · subst hky
        have HC : Hid (∀ p : Aft wr.heap.size wr, Calls Try.prog 27 #[wrOf ⟨yk, yc, ys, yq, yv, yd, yy⟩ ak cq, wrOf ⟨yk, xc, xs', xq, xv, xd, xx⟩ ax cx] p.now fun e w' => e = .returned (.int .i64 (cmpW ⟨yk, yc, ys, yq, yv, yd, yy⟩ ⟨yk, xc, xs', xq, xv, xd, xx⟩)) ∧ Below p.now.heap.size p.now w') := fun p => by
          have hb := below_step HB.out.below HB.out.below.size p.below
          exact specWriteCmp_gen _ _ _ _ _ _ _ yy _ _ _ _ _ _ _ _ _ xx _ _ _ rfl rfl hly hlx (HYA.out _ hb).2.2.2.2.2.2.2.2.2 (HGX.out.below hb)
        have HZ : Hid (cmpW ⟨yk, yc, ys, yq, yv, yd, yy⟩ ⟨yk, xc, xs', xq, xv, xd, xx⟩ = cmpW ⟨yk, yc, ys, yq, yv, yd, yy⟩ ⟨yk, xc, xs', xq, xv, xd, xx⟩) := rfl
        generalize hzc : cmpW ⟨yk, yc, ys, yq, yv, yd, yy⟩ ⟨yk, xc, xs', xq, xv, xd, xx⟩ = z at HC
        clear HZ
        have HZ := Lib.hid hzc
        clear hzc
        by_cases hz0 : z < 0
        · have b0 := HB.out.c0
          have b1 := HB.out.c1
          have b2 := HB.out.c2
          have b3 := HB.out.c3
          have b4 := HB.out.c4
          have b5 := HB.out.c5
          have b6 := HB.out.c6
          have hzb := HB.out.lt
          obtain ⟨hz, e0, e1, e2, e3, e4, e5, e6, -, -⟩ := HYA.out _ HB.out.below
          go_wp2_with fail
          have gb0 := aft_cell hzb b0
          have gb1 := aft_cell hzb b1
          have gb2 := aft_cell hzb b2
          have gb3 := aft_cell hzb b3
          have gb4 := aft_cell hzb b4
          have gb5 := aft_cell hzb b5
          have gb6 := aft_cell hzb b6
          have ge0 := aft_cell hz e0
          have ge1 := aft_cell hz e1
          have ge2 := aft_cell hz e2
          have ge3 := aft_cell hz e3
          have ge4 := aft_cell hz e4
          have ge5 := aft_cell hz e5
          have ge6 := aft_cell hz e6
          have ne := aft_some wr
          refine wp_region_aft (by kernel_rfl) (by kernel_rfl) ?_
          repeat (first | go_big_quiet_step (first | (go_at_call 27; exact aft_of (HC.out _))))
          refine wpQuiet_nil ?_
          intro wq hq
          clear gb0 gb1 gb2 gb3 gb4 gb5 gb6 ge0 ge1 ge2 ge3 ge4 ge5 ge6 ne
          have HXq : Hid (BoxIn w wq yk xc xs' xq xv xd ax xx.length cx) := HB.out.step hq
          have HRq : Hid (RowEs wq (w.heap.size + 1) g cp es) := HR.out.below hq
          clear hq hzb b0 b1 b2 b3 b4 b5 b6 hz e0 e1 e2 e3 e4 e5 e6
          have b0 := HXq.out.c0
          have b1 := HXq.out.c1
          have b2 := HXq.out.c2
          have b3 := HXq.out.c3
          have b4 := HXq.out.c4
          have b5 := HXq.out.c5
          have b6 := HXq.out.c6
          go_wp2_with fail
          refine (copy_any ⟨yk, xc, xs', xq, xv, xd, xx⟩ _ _ _ hlx (HGX.out.below HXq.out.below)).mono ?_
          rintro e u5 ⟨p5, r5, rfl, hg1, hg2, hg3, hb⟩
          have HXa : Hid (BoxIn w u5 yk xc xs' xq xv xd ax xx.length cx) := HXq.out.step hb
          have HRa : Hid (RowEs u5 (w.heap.size + 1) g cp es) := HRq.out.below hb
          have HGa : Hid (HoldsDeps u5 p5 0 xx) := hg3
          have hg5 : p5 ≠ g := by have := HRq.out.lt; omega
          have hg6 : w.heap.size + 1 ≤ p5 := by have := HXq.out.lt; omega
          have hsz : w.heap.size + 1 ≤ u5.heap.size := HXa.out.lt
          clear hb hg3 hg1
          have HOW : Hid ((u5.alloc (.cells #[.int .i64 yk, .int .i64 xc, .int .i64 xs', .int .i64 xq, .int .i64 xv, .bool xd, .slice (some ⟨p5, 0, none⟩) xx.length r5] 41)).ownsRow (w.heap.size + 1) 41 7 (.slice (some ⟨g, 0, none⟩) L cp) L (es.flatMap wrVals)) := grow_own HRa.out HL.out _
          go_wp2_with (at_builtin; refine wpList_append_lies _ (by rfl) _ _ _ (by rfl) (w.heap.size + 1) 41 i0 (wrV 0 0 0 0 0 false none 0 0) 7 72 Try.underlying44 HI0.out HX0.out.1 HX0.out.2.1 HX0.out.2.2 (by rfl) (by omega) (.slice (some ⟨g, 0, none⟩) L cp) L (es.flatMap wrVals) (by rfl) HOW.out ⟨u5.heap.size, 0, none⟩ 1 1 (wrVals ⟨⟨yk, xc, xs', xq, xv, xd, xx⟩, p5, r5⟩) (by rfl) (by rfl) (one_cells u5 _ ⟨⟨yk, xc, xs', xq, xv, xd, xx⟩, p5, r5⟩) (by simpa using vals_one [⟨⟨yk, xc, xs', xq, xv, xd, xx⟩, p5, r5⟩]) (by omega) (by unfold maxLen; omega) (by omega) (by simp; omega) _ rfl ?_; intro g5 cp5 w5 hown hgrow hg3 _; refine Hid.out ?_)
          refine Lib.hid ?_
          obtain ⟨hXn, hRn⟩ := grow_one (x := ⟨yk, xc, xs', xq, xv, xd, xx⟩) HL.out HXa.out HRa.out HGa.out hg2 hg5 hg6 hown hgrow hg3
          have HX5 : Hid (BoxIn w w5 yk xc xs' xq xv xd ax xx.length cx) := hXn
          have HR5 : Hid (RowEs w5 (w.heap.size + 1) g5 cp5 (es ++ [⟨⟨yk, xc, xs', xq, xv, xd, xx⟩, p5, r5⟩])) := hRn
          have HL5 : Hid ((es ++ [(⟨⟨yk, xc, xs', xq, xv, xd, xx⟩, p5, r5⟩ : En)]).length = L + 1) := by
            rw [List.length_append, HL.out]
            exact Lib.hid rfl
          clear hown hgrow HOW HXa HRa HGa hXn hRn hg2 hg3 hg5 hg6 hsz
          have HPn : Hid (((es ++ [(⟨⟨yk, xc, xs', xq, xv, xd, xx⟩, p5, r5⟩ : En)]).map (·.x), true) = putTo (ws.take (k + 1)) ⟨yk, xc, xs', xq, xv, xd, xx⟩) := by
            rw [HPN.out]
            exact step_same_lt HP.out rfl (by rw [HZ.out]; exact hz0)
          clear b0 b1 b2 b3 b4 b5 b6
          go_wp2
          exact ⟨⟨k + 1, L + 1, g5, cp5, _, true, by omega, by omega, by go_num, rfl, rfl, HPn, HL5, HR5, HX5⟩, by simp [intOf]; omega⟩
        · have b0 := HB.out.c0
          have b1 := HB.out.c1
          have b2 := HB.out.c2
          have b3 := HB.out.c3
          have b4 := HB.out.c4
          have b5 := HB.out.c5
          have b6 := HB.out.c6
          have hzb := HB.out.lt
          obtain ⟨hz, e0, e1, e2, e3, e4, e5, e6, -, -⟩ := HYA.out _ HB.out.below
          go_wp2_with fail
          have gb0 := aft_cell hzb b0
          have gb1 := aft_cell hzb b1
          have gb2 := aft_cell hzb b2
          have gb3 := aft_cell hzb b3
          have gb4 := aft_cell hzb b4
          have gb5 := aft_cell hzb b5
          have gb6 := aft_cell hzb b6
          have ge0 := aft_cell hz e0
          have ge1 := aft_cell hz e1
          have ge2 := aft_cell hz e2
          have ge3 := aft_cell hz e3
          have ge4 := aft_cell hz e4
          have ge5 := aft_cell hz e5
          have ge6 := aft_cell hz e6
          have ne := aft_some wr
          refine wp_region_aft (by kernel_rfl) (by kernel_rfl) ?_
          repeat (first | go_big_quiet_step (first | (go_at_call 27; exact aft_of (HC.out _))))
          refine wpQuiet_nil ?_
          intro wq hq
          clear gb0 gb1 gb2 gb3 gb4 gb5 gb6 ge0 ge1 ge2 ge3 ge4 ge5 ge6 ne
          have HXq : Hid (BoxIn w wq yk xc xs' xq xv xd ax xx.length cx) := HB.out.step hq
          have HRq : Hid (RowEs wq (w.heap.size + 1) g cp es) := HR.out.below hq
          clear hq hzb b0 b1 b2 b3 b4 b5 b6 hz e0 e1 e2 e3 e4 e5 e6
          have b0 := HXq.out.c0
          have b1 := HXq.out.c1
          have b2 := HXq.out.c2
          have b3 := HXq.out.c3
          have b4 := HXq.out.c4
          have b5 := HXq.out.c5
          have b6 := HXq.out.c6
          have hzb := HXq.out.lt
          obtain ⟨hz, e0, e1, e2, e3, e4, e5, e6, -, -⟩ := HYA.out _ HXq.out.below
          go_wp2_with fail
          have gb0 := aft_cell hzb b0
          have gb1 := aft_cell hzb b1
          have gb2 := aft_cell hzb b2
          have gb3 := aft_cell hzb b3
          have gb4 := aft_cell hzb b4
          have gb5 := aft_cell hzb b5
          have gb6 := aft_cell hzb b6
          have ge0 := aft_cell hz e0
          have ge1 := aft_cell hz e1
          have ge2 := aft_cell hz e2
          have ge3 := aft_cell hz e3
          have ge4 := aft_cell hz e4
          have ge5 := aft_cell hz e5
          have ge6 := aft_cell hz e6
          have ne := aft_some wq
          refine wp_region_aft (by kernel_rfl) (by kernel_rfl) ?_
          repeat (first | go_big_quiet_step (first | fail))
          refine wpQuiet_nil ?_
          intro wt hq
          clear gb0 gb1 gb2 gb3 gb4 gb5 gb6 ge0 ge1 ge2 ge3 ge4 ge5 ge6 ne
          have HXt : Hid (BoxIn w wt yk xc xs' xq xv xd ax xx.length cx) := HXq.out.step hq
          have HRt : Hid (RowEs wt (w.heap.size + 1) g cp es) := HRq.out.below hq
          clear hq hzb b0 b1 b2 b3 b4 b5 b6 hz e0 e1 e2 e3 e4 e5 e6
          obtain ⟨hz, e0, e1, e2, e3, e4, e5, e6, -, -⟩ := HYA.out _ HXt.out.below
          go_wp2_with fail
          refine (copy_any ⟨yk, yc, ys, yq, yv, yd, yy⟩ _ _ _ hly (HYA.out _ HXt.out.below).2.2.2.2.2.2.2.2.2).mono ?_
          rintro e u5 ⟨p5, r5, rfl, hg1, hg2, hg3, hb⟩
          have HXa : Hid (BoxIn w u5 yk xc xs' xq xv xd ax xx.length cx) := HXt.out.step hb
          have HRa : Hid (RowEs u5 (w.heap.size + 1) g cp es) := HRt.out.below hb
          have HGa : Hid (HoldsDeps u5 p5 0 yy) := hg3
          have hg5 : p5 ≠ g := by have := HRt.out.lt; omega
          have hg6 : w.heap.size + 1 ≤ p5 := by have := HXt.out.lt; omega
          have hsz : w.heap.size + 1 ≤ u5.heap.size := HXa.out.lt
          clear hb hg3 hg1
          have HOW : Hid ((u5.alloc (.cells #[.int .i64 yk, .int .i64 yc, .int .i64 ys, .int .i64 yq, .int .i64 yv, .bool yd, .slice (some ⟨p5, 0, none⟩) yy.length r5] 41)).ownsRow (w.heap.size + 1) 41 7 (.slice (some ⟨g, 0, none⟩) L cp) L (es.flatMap wrVals)) := grow_own HRa.out HL.out _
          go_wp2_with (at_builtin; refine wpList_append_lies _ (by rfl) _ _ _ (by rfl) (w.heap.size + 1) 41 i0 (wrV 0 0 0 0 0 false none 0 0) 7 72 Try.underlying44 HI0.out HX0.out.1 HX0.out.2.1 HX0.out.2.2 (by rfl) (by omega) (.slice (some ⟨g, 0, none⟩) L cp) L (es.flatMap wrVals) (by rfl) HOW.out ⟨u5.heap.size, 0, none⟩ 1 1 (wrVals ⟨⟨yk, yc, ys, yq, yv, yd, yy⟩, p5, r5⟩) (by rfl) (by rfl) (one_cells u5 _ ⟨⟨yk, yc, ys, yq, yv, yd, yy⟩, p5, r5⟩) (by simpa using vals_one [⟨⟨yk, yc, ys, yq, yv, yd, yy⟩, p5, r5⟩]) (by omega) (by unfold maxLen; omega) (by omega) (by simp; omega) _ rfl ?_; intro g5 cp5 w5 hown hgrow hg3 _; refine Hid.out ?_)
          refine Lib.hid ?_
          obtain ⟨hXn, hRn⟩ := grow_one (x := ⟨yk, yc, ys, yq, yv, yd, yy⟩) HL.out HXa.out HRa.out HGa.out hg2 hg5 hg6 hown hgrow hg3
          have HX5 : Hid (BoxIn w w5 yk xc xs' xq xv xd ax xx.length cx) := hXn
          have HR5 : Hid (RowEs w5 (w.heap.size + 1) g5 cp5 (es ++ [⟨⟨yk, yc, ys, yq, yv, yd, yy⟩, p5, r5⟩])) := hRn
          have HL5 : Hid ((es ++ [(⟨⟨yk, yc, ys, yq, yv, yd, yy⟩, p5, r5⟩ : En)]).length = L + 1) := by
            rw [List.length_append, HL.out]
            exact Lib.hid rfl
          clear hown hgrow HOW HXa HRa HGa hXn hRn hg2 hg3 hg5 hg6 hsz
          have HPn : Hid (((es ++ [(⟨⟨yk, yc, ys, yq, yv, yd, yy⟩, p5, r5⟩ : En)]).map (·.x), true) = putTo (ws.take (k + 1)) ⟨yk, xc, xs', xq, xv, xd, xx⟩) := by
            rw [HPN.out]
            exact step_same_ge HP.out rfl (by rw [HZ.out]; omega)
          clear hz e0 e1 e2 e3 e4 e5 e6
          go_wp2
          exact ⟨⟨k + 1, L + 1, g5, cp5, _, true, by omega, by omega, by go_num, rfl, rfl, HPn, HL5, HR5, HX5⟩, by simp [intOf]; omega⟩
      · have hky' : (yk == xk) = false := by simpa using hky
        by_cases hkl : xk < yk
        · cases hpf : put
          · subst hpf
            have b0 := HB.out.c0
            have b1 := HB.out.c1
            have b2 := HB.out.c2
            have b3 := HB.out.c3
            have b4 := HB.out.c4
            have b5 := HB.out.c5
            have b6 := HB.out.c6
            have hzb := HB.out.lt
            obtain ⟨hz, e0, e1, e2, e3, e4, e5, e6, -, -⟩ := HYA.out _ HB.out.below
            go_wp2_with fail
            have gb0 := aft_cell hzb b0
            have gb1 := aft_cell hzb b1
            have gb2 := aft_cell hzb b2
            have gb3 := aft_cell hzb b3
            have gb4 := aft_cell hzb b4
            have gb5 := aft_cell hzb b5
            have gb6 := aft_cell hzb b6
            have ge0 := aft_cell hz e0
            have ge1 := aft_cell hz e1
            have ge2 := aft_cell hz e2
            have ge3 := aft_cell hz e3
            have ge4 := aft_cell hz e4
            have ge5 := aft_cell hz e5
            have ge6 := aft_cell hz e6
            have ne := aft_some wr
            refine wp_region_aft (by kernel_rfl) (by kernel_rfl) ?_
            repeat (first | go_big_quiet_step (first | fail))
            refine wpQuiet_nil ?_
            intro wq hq
            clear gb0 gb1 gb2 gb3 gb4 gb5 gb6 ge0 ge1 ge2 ge3 ge4 ge5 ge6 ne
            have HXq : Hid (BoxIn w wq xk xc xs' xq xv xd ax xx.length cx) := HB.out.step hq
            have HRq : Hid (RowEs wq (w.heap.size + 1) g cp es) := HR.out.below hq
            clear hq hzb b0 b1 b2 b3 b4 b5 b6 hz e0 e1 e2 e3 e4 e5 e6
            have b0 := HXq.out.c0
            have b1 := HXq.out.c1
            have b2 := HXq.out.c2
            have b3 := HXq.out.c3
            have b4 := HXq.out.c4
            have b5 := HXq.out.c5
            have b6 := HXq.out.c6
            have hzb := HXq.out.lt
            obtain ⟨hz, e0, e1, e2, e3, e4, e5, e6, -, -⟩ := HYA.out _ HXq.out.below
            go_wp2_with fail
            have gb0 := aft_cell hzb b0
            have gb1 := aft_cell hzb b1
            have gb2 := aft_cell hzb b2
            have gb3 := aft_cell hzb b3
            have gb4 := aft_cell hzb b4
            have gb5 := aft_cell hzb b5
            have gb6 := aft_cell hzb b6
            have ge0 := aft_cell hz e0
            have ge1 := aft_cell hz e1
            have ge2 := aft_cell hz e2
            have ge3 := aft_cell hz e3
            have ge4 := aft_cell hz e4
            have ge5 := aft_cell hz e5
            have ge6 := aft_cell hz e6
            have ne := aft_some wq
            refine wp_region_aft (by kernel_rfl) (by kernel_rfl) ?_
            repeat (first | go_big_quiet_step (first | fail))
            refine wpQuiet_nil ?_
            intro wt hq
            clear gb0 gb1 gb2 gb3 gb4 gb5 gb6 ge0 ge1 ge2 ge3 ge4 ge5 ge6 ne
            have HXt : Hid (BoxIn w wt xk xc xs' xq xv xd ax xx.length cx) := HXq.out.step hq
            have HRt : Hid (RowEs wt (w.heap.size + 1) g cp es) := HRq.out.below hq
            clear hq hzb b0 b1 b2 b3 b4 b5 b6 hz e0 e1 e2 e3 e4 e5 e6
            have b0 := HXt.out.c0
            have b1 := HXt.out.c1
            have b2 := HXt.out.c2
            have b3 := HXt.out.c3
            have b4 := HXt.out.c4
            have b5 := HXt.out.c5
            have b6 := HXt.out.c6
            have hzb := HXt.out.lt
            obtain ⟨hz, e0, e1, e2, e3, e4, e5, e6, -, -⟩ := HYA.out _ HXt.out.below
            go_wp2_with fail
            have gb0 := aft_cell hzb b0
            have gb1 := aft_cell hzb b1
            have gb2 := aft_cell hzb b2
            have gb3 := aft_cell hzb b3
            have gb4 := aft_cell hzb b4
            have gb5 := aft_cell hzb b5
            have gb6 := aft_cell hzb b6
            have ge0 := aft_cell hz e0
            have ge1 := aft_cell hz e1
            have ge2 := aft_cell hz e2
            have ge3 := aft_cell hz e3
            have ge4 := aft_cell hz e4
            have ge5 := aft_cell hz e5
            have ge6 := aft_cell hz e6
            have ne := aft_some wt
            refine wp_region_aft (by kernel_rfl) (by kernel_rfl) ?_
            repeat (first | go_big_quiet_step (first | fail))
            refine wpQuiet_nil ?_
            intro wv hq
            clear gb0 gb1 gb2 gb3 gb4 gb5 gb6 ge0 ge1 ge2 ge3 ge4 ge5 ge6 ne
            have HXv : Hid (BoxIn w wv xk xc xs' xq xv xd ax xx.length cx) := HXt.out.step hq
            have HRv : Hid (RowEs wv (w.heap.size + 1) g cp es) := HRt.out.below hq
            clear hq hzb b0 b1 b2 b3 b4 b5 b6 hz e0 e1 e2 e3 e4 e5 e6
            have b0 := HXv.out.c0
            have b1 := HXv.out.c1
            have b2 := HXv.out.c2
            have b3 := HXv.out.c3
            have b4 := HXv.out.c4
            have b5 := HXv.out.c5
            have b6 := HXv.out.c6
            go_wp2_with fail
            refine (copy_any ⟨xk, xc, xs', xq, xv, xd, xx⟩ _ _ _ hlx (HGX.out.below HXv.out.below)).mono ?_
            rintro e u5 ⟨p5, r5, rfl, hg1, hg2, hg3, hb⟩
            have HXa : Hid (BoxIn w u5 xk xc xs' xq xv xd ax xx.length cx) := HXv.out.step hb
            have HRa : Hid (RowEs u5 (w.heap.size + 1) g cp es) := HRv.out.below hb
            have HGa : Hid (HoldsDeps u5 p5 0 xx) := hg3
            have hg5 : p5 ≠ g := by have := HRv.out.lt; omega
            have hg6 : w.heap.size + 1 ≤ p5 := by have := HXv.out.lt; omega
            have hsz : w.heap.size + 1 ≤ u5.heap.size := HXa.out.lt
            clear hb hg3 hg1
            have HOW : Hid ((u5.alloc (.cells #[.int .i64 xk, .int .i64 xc, .int .i64 xs', .int .i64 xq, .int .i64 xv, .bool xd, .slice (some ⟨p5, 0, none⟩) xx.length r5] 41)).ownsRow (w.heap.size + 1) 41 7 (.slice (some ⟨g, 0, none⟩) L cp) L (es.flatMap wrVals)) := grow_own HRa.out HL.out _
            go_wp2_with (at_builtin; refine wpList_append_lies _ (by rfl) _ _ _ (by rfl) (w.heap.size + 1) 41 i0 (wrV 0 0 0 0 0 false none 0 0) 7 72 Try.underlying44 HI0.out HX0.out.1 HX0.out.2.1 HX0.out.2.2 (by rfl) (by omega) (.slice (some ⟨g, 0, none⟩) L cp) L (es.flatMap wrVals) (by rfl) HOW.out ⟨u5.heap.size, 0, none⟩ 1 1 (wrVals ⟨⟨xk, xc, xs', xq, xv, xd, xx⟩, p5, r5⟩) (by rfl) (by rfl) (one_cells u5 _ ⟨⟨xk, xc, xs', xq, xv, xd, xx⟩, p5, r5⟩) (by simpa using vals_one [⟨⟨xk, xc, xs', xq, xv, xd, xx⟩, p5, r5⟩]) (by omega) (by unfold maxLen; omega) (by omega) (by simp; omega) _ rfl ?_; intro g5 cp5 w5 hown hgrow hg3 _; refine Hid.out ?_)
            refine Lib.hid ?_
            obtain ⟨hXn, hRn⟩ := grow_one (x := ⟨xk, xc, xs', xq, xv, xd, xx⟩) HL.out HXa.out HRa.out HGa.out hg2 hg5 hg6 hown hgrow hg3
            have HX5 : Hid (BoxIn w w5 xk xc xs' xq xv xd ax xx.length cx) := hXn
            have HR5 : Hid (RowEs w5 (w.heap.size + 1) g5 cp5 (es ++ [⟨⟨xk, xc, xs', xq, xv, xd, xx⟩, p5, r5⟩])) := hRn
            have HL5 : Hid ((es ++ [(⟨⟨xk, xc, xs', xq, xv, xd, xx⟩, p5, r5⟩ : En)]).length = L + 1) := by
              rw [List.length_append, HL.out]
              exact Lib.hid rfl
            clear hown hgrow HOW HXa HRa HGa hXn hRn hg2 hg3 hg5 hg6 hsz
            clear b0 b1 b2 b3 b4 b5 b6
            obtain ⟨hz, e0, e1, e2, e3, e4, e5, e6, -, -⟩ := HYA.out _ HX5.out.below
            go_wp2_with fail
            refine (copy_any ⟨yk, yc, ys, yq, yv, yd, yy⟩ _ _ _ hly (HYA.out _ HX5.out.below).2.2.2.2.2.2.2.2.2).mono ?_
            rintro e u6 ⟨p6, r6, rfl, hg1, hg2, hg3, hb⟩
            have HXa : Hid (BoxIn w u6 xk xc xs' xq xv xd ax xx.length cx) := HX5.out.step hb
            have HRa : Hid (RowEs u6 (w.heap.size + 1) g5 cp5 (es ++ [(⟨⟨xk, xc, xs', xq, xv, xd, xx⟩, p5, r5⟩ : En)])) := HR5.out.below hb
            have HGa : Hid (HoldsDeps u6 p6 0 yy) := hg3
            have hg5 : p6 ≠ g5 := by have := HR5.out.lt; omega
            have hg6 : w.heap.size + 1 ≤ p6 := by have := HX5.out.lt; omega
            have hsz : w.heap.size + 1 ≤ u6.heap.size := HXa.out.lt
            clear hb hg3 hg1
            have HOW : Hid ((u6.alloc (.cells #[.int .i64 yk, .int .i64 yc, .int .i64 ys, .int .i64 yq, .int .i64 yv, .bool yd, .slice (some ⟨p6, 0, none⟩) yy.length r6] 41)).ownsRow (w.heap.size + 1) 41 7 (.slice (some ⟨g5, 0, none⟩) (L + 1) cp5) (L + 1) ((es ++ [(⟨⟨xk, xc, xs', xq, xv, xd, xx⟩, p5, r5⟩ : En)]).flatMap wrVals)) := grow_own HRa.out HL5.out _
            go_wp2_with (at_builtin; refine wpList_append_lies _ (by rfl) _ _ _ (by rfl) (w.heap.size + 1) 41 i0 (wrV 0 0 0 0 0 false none 0 0) 7 72 Try.underlying44 HI0.out HX0.out.1 HX0.out.2.1 HX0.out.2.2 (by rfl) (by omega) (.slice (some ⟨g5, 0, none⟩) (L + 1) cp5) (L + 1) ((es ++ [(⟨⟨xk, xc, xs', xq, xv, xd, xx⟩, p5, r5⟩ : En)]).flatMap wrVals) (by rfl) HOW.out ⟨u6.heap.size, 0, none⟩ 1 1 (wrVals ⟨⟨yk, yc, ys, yq, yv, yd, yy⟩, p6, r6⟩) (by rfl) (by rfl) (one_cells u6 _ ⟨⟨yk, yc, ys, yq, yv, yd, yy⟩, p6, r6⟩) (by simpa using vals_one [⟨⟨yk, yc, ys, yq, yv, yd, yy⟩, p6, r6⟩]) (by omega) (by unfold maxLen; omega) (by omega) (by simp; omega) _ rfl ?_; intro g6 cp6 w6 hown hgrow hg3 _; refine Hid.out ?_)
            refine Lib.hid ?_
            obtain ⟨hXn, hRn⟩ := grow_one (x := ⟨yk, yc, ys, yq, yv, yd, yy⟩) HL5.out HXa.out HRa.out HGa.out hg2 hg5 hg6 hown hgrow hg3
            have HX6 : Hid (BoxIn w w6 xk xc xs' xq xv xd ax xx.length cx) := hXn
            have HR6 : Hid (RowEs w6 (w.heap.size + 1) g6 cp6 ((es ++ [(⟨⟨xk, xc, xs', xq, xv, xd, xx⟩, p5, r5⟩ : En)]) ++ [⟨⟨yk, yc, ys, yq, yv, yd, yy⟩, p6, r6⟩])) := hRn
            have HL6 : Hid (((es ++ [(⟨⟨xk, xc, xs', xq, xv, xd, xx⟩, p5, r5⟩ : En)]) ++ [(⟨⟨yk, yc, ys, yq, yv, yd, yy⟩, p6, r6⟩ : En)]).length = (L + 1) + 1) := by
              rw [List.length_append, HL5.out]
              exact Lib.hid rfl
            clear hown hgrow HOW HXa HRa HGa hXn hRn hg2 hg3 hg5 hg6 hsz
            have HPn : Hid (((es ++ [(⟨⟨xk, xc, xs', xq, xv, xd, xx⟩, p5, r5⟩ : En)] ++ [(⟨⟨yk, yc, ys, yq, yv, yd, yy⟩, p6, r6⟩ : En)]).map (·.x), true) = putTo (ws.take (k + 1)) ⟨xk, xc, xs', xq, xv, xd, xx⟩) := by
              rw [HPN.out]
              exact step_ahead HP.out hky hkl
            clear hz e0 e1 e2 e3 e4 e5 e6
            go_wp2
            exact ⟨⟨k + 1, L + 1 + 1, g6, cp6, _, true, by omega, by omega, by go_num, rfl, rfl, HPn, HL6, HR6, HX6⟩, by simp [intOf]; omega⟩
          · subst hpf
            have b0 := HB.out.c0
            have b1 := HB.out.c1
            have b2 := HB.out.c2
            have b3 := HB.out.c3
            have b4 := HB.out.c4
            have b5 := HB.out.c5
            have b6 := HB.out.c6
            have hzb := HB.out.lt
            obtain ⟨hz, e0, e1, e2, e3, e4, e5, e6, -, -⟩ := HYA.out _ HB.out.below
            go_wp2_with fail
            have gb0 := aft_cell hzb b0
            have gb1 := aft_cell hzb b1
            have gb2 := aft_cell hzb b2
            have gb3 := aft_cell hzb b3
            have gb4 := aft_cell hzb b4
            have gb5 := aft_cell hzb b5
            have gb6 := aft_cell hzb b6
            have ge0 := aft_cell hz e0
            have ge1 := aft_cell hz e1
            have ge2 := aft_cell hz e2
            have ge3 := aft_cell hz e3
            have ge4 := aft_cell hz e4
            have ge5 := aft_cell hz e5
            have ge6 := aft_cell hz e6
            have ne := aft_some wr
            refine wp_region_aft (by kernel_rfl) (by kernel_rfl) ?_
            repeat (first | go_big_quiet_step (first | fail))
            refine wpQuiet_nil ?_
            intro wq hq
            clear gb0 gb1 gb2 gb3 gb4 gb5 gb6 ge0 ge1 ge2 ge3 ge4 ge5 ge6 ne
            have HXq : Hid (BoxIn w wq xk xc xs' xq xv xd ax xx.length cx) := HB.out.step hq
            have HRq : Hid (RowEs wq (w.heap.size + 1) g cp es) := HR.out.below hq
            clear hq hzb b0 b1 b2 b3 b4 b5 b6 hz e0 e1 e2 e3 e4 e5 e6
            have b0 := HXq.out.c0
            have b1 := HXq.out.c1
            have b2 := HXq.out.c2
            have b3 := HXq.out.c3
            have b4 := HXq.out.c4
            have b5 := HXq.out.c5
            have b6 := HXq.out.c6
            have hzb := HXq.out.lt
            obtain ⟨hz, e0, e1, e2, e3, e4, e5, e6, -, -⟩ := HYA.out _ HXq.out.below
            go_wp2_with fail
            have gb0 := aft_cell hzb b0
            have gb1 := aft_cell hzb b1
            have gb2 := aft_cell hzb b2
            have gb3 := aft_cell hzb b3
            have gb4 := aft_cell hzb b4
            have gb5 := aft_cell hzb b5
            have gb6 := aft_cell hzb b6
            have ge0 := aft_cell hz e0
            have ge1 := aft_cell hz e1
            have ge2 := aft_cell hz e2
            have ge3 := aft_cell hz e3
            have ge4 := aft_cell hz e4
            have ge5 := aft_cell hz e5
            have ge6 := aft_cell hz e6
            have ne := aft_some wq
            refine wp_region_aft (by kernel_rfl) (by kernel_rfl) ?_
            repeat (first | go_big_quiet_step (first | fail))
            refine wpQuiet_nil ?_
            intro wt hq
            clear gb0 gb1 gb2 gb3 gb4 gb5 gb6 ge0 ge1 ge2 ge3 ge4 ge5 ge6 ne
            have HXt : Hid (BoxIn w wt xk xc xs' xq xv xd ax xx.length cx) := HXq.out.step hq
            have HRt : Hid (RowEs wt (w.heap.size + 1) g cp es) := HRq.out.below hq
            clear hq hzb b0 b1 b2 b3 b4 b5 b6 hz e0 e1 e2 e3 e4 e5 e6
            have b0 := HXt.out.c0
            have b1 := HXt.out.c1
            have b2 := HXt.out.c2
            have b3 := HXt.out.c3
            have b4 := HXt.out.c4
            have b5 := HXt.out.c5
            have b6 := HXt.out.c6
            have hzb := HXt.out.lt
            obtain ⟨hz, e0, e1, e2, e3, e4, e5, e6, -, -⟩ := HYA.out _ HXt.out.below
            go_wp2_with fail
            have gb0 := aft_cell hzb b0
            have gb1 := aft_cell hzb b1
            have gb2 := aft_cell hzb b2
            have gb3 := aft_cell hzb b3
            have gb4 := aft_cell hzb b4
            have gb5 := aft_cell hzb b5
            have gb6 := aft_cell hzb b6
            have ge0 := aft_cell hz e0
            have ge1 := aft_cell hz e1
            have ge2 := aft_cell hz e2
            have ge3 := aft_cell hz e3
            have ge4 := aft_cell hz e4
            have ge5 := aft_cell hz e5
            have ge6 := aft_cell hz e6
            have ne := aft_some wt
            refine wp_region_aft (by kernel_rfl) (by kernel_rfl) ?_
            repeat (first | go_big_quiet_step (first | fail))
            refine wpQuiet_nil ?_
            intro wv hq
            clear gb0 gb1 gb2 gb3 gb4 gb5 gb6 ge0 ge1 ge2 ge3 ge4 ge5 ge6 ne
            have HXv : Hid (BoxIn w wv xk xc xs' xq xv xd ax xx.length cx) := HXt.out.step hq
            have HRv : Hid (RowEs wv (w.heap.size + 1) g cp es) := HRt.out.below hq
            clear hq hzb b0 b1 b2 b3 b4 b5 b6 hz e0 e1 e2 e3 e4 e5 e6
            obtain ⟨hz, e0, e1, e2, e3, e4, e5, e6, -, -⟩ := HYA.out _ HXv.out.below
            go_wp2_with fail
            refine (copy_any ⟨yk, yc, ys, yq, yv, yd, yy⟩ _ _ _ hly (HYA.out _ HXv.out.below).2.2.2.2.2.2.2.2.2).mono ?_
            rintro e u5 ⟨p5, r5, rfl, hg1, hg2, hg3, hb⟩
            have HXa : Hid (BoxIn w u5 xk xc xs' xq xv xd ax xx.length cx) := HXv.out.step hb
            have HRa : Hid (RowEs u5 (w.heap.size + 1) g cp es) := HRv.out.below hb
            have HGa : Hid (HoldsDeps u5 p5 0 yy) := hg3
            have hg5 : p5 ≠ g := by have := HRv.out.lt; omega
            have hg6 : w.heap.size + 1 ≤ p5 := by have := HXv.out.lt; omega
            have hsz : w.heap.size + 1 ≤ u5.heap.size := HXa.out.lt
            clear hb hg3 hg1
            have HOW : Hid ((u5.alloc (.cells #[.int .i64 yk, .int .i64 yc, .int .i64 ys, .int .i64 yq, .int .i64 yv, .bool yd, .slice (some ⟨p5, 0, none⟩) yy.length r5] 41)).ownsRow (w.heap.size + 1) 41 7 (.slice (some ⟨g, 0, none⟩) L cp) L (es.flatMap wrVals)) := grow_own HRa.out HL.out _
            go_wp2_with (at_builtin; refine wpList_append_lies _ (by rfl) _ _ _ (by rfl) (w.heap.size + 1) 41 i0 (wrV 0 0 0 0 0 false none 0 0) 7 72 Try.underlying44 HI0.out HX0.out.1 HX0.out.2.1 HX0.out.2.2 (by rfl) (by omega) (.slice (some ⟨g, 0, none⟩) L cp) L (es.flatMap wrVals) (by rfl) HOW.out ⟨u5.heap.size, 0, none⟩ 1 1 (wrVals ⟨⟨yk, yc, ys, yq, yv, yd, yy⟩, p5, r5⟩) (by rfl) (by rfl) (one_cells u5 _ ⟨⟨yk, yc, ys, yq, yv, yd, yy⟩, p5, r5⟩) (by simpa using vals_one [⟨⟨yk, yc, ys, yq, yv, yd, yy⟩, p5, r5⟩]) (by omega) (by unfold maxLen; omega) (by omega) (by simp; omega) _ rfl ?_; intro g5 cp5 w5 hown hgrow hg3 _; refine Hid.out ?_)
            refine Lib.hid ?_
            obtain ⟨hXn, hRn⟩ := grow_one (x := ⟨yk, yc, ys, yq, yv, yd, yy⟩) HL.out HXa.out HRa.out HGa.out hg2 hg5 hg6 hown hgrow hg3
            have HX5 : Hid (BoxIn w w5 xk xc xs' xq xv xd ax xx.length cx) := hXn
            have HR5 : Hid (RowEs w5 (w.heap.size + 1) g5 cp5 (es ++ [⟨⟨yk, yc, ys, yq, yv, yd, yy⟩, p5, r5⟩])) := hRn
            have HL5 : Hid ((es ++ [(⟨⟨yk, yc, ys, yq, yv, yd, yy⟩, p5, r5⟩ : En)]).length = L + 1) := by
              rw [List.length_append, HL.out]
              exact Lib.hid rfl
            clear hown hgrow HOW HXa HRa HGa hXn hRn hg2 hg3 hg5 hg6 hsz
            have HPn : Hid (((es ++ [(⟨⟨yk, yc, ys, yq, yv, yd, yy⟩, p5, r5⟩ : En)]).map (·.x), true) = putTo (ws.take (k + 1)) ⟨xk, xc, xs', xq, xv, xd, xx⟩) := by
              rw [HPN.out]
              exact step_else HP.out hky (fun h => by cases h.2)
            clear hz e0 e1 e2 e3 e4 e5 e6
            go_wp2
            exact ⟨⟨k + 1, L + 1, g5, cp5, _, true, by omega, by omega, by go_num, rfl, rfl, HPn, HL5, HR5, HX5⟩, by simp [intOf]; omega⟩
        · have hkl' : decide (xk < yk) = false := by simp; omega
          have b0 := HB.out.c0
          have b1 := HB.out.c1
          have b2 := HB.out.c2
          have b3 := HB.out.c3
          have b4 := HB.out.c4
          have b5 := HB.out.c5
          have b6 := HB.out.c6
          have hzb := HB.out.lt
          obtain ⟨hz, e0, e1, e2, e3, e4, e5, e6, -, -⟩ := HYA.out _ HB.out.below
          go_wp2_with fail
          have gb0 := aft_cell hzb b0
          have gb1 := aft_cell hzb b1
          have gb2 := aft_cell hzb b2
          have gb3 := aft_cell hzb b3
          have gb4 := aft_cell hzb b4
          have gb5 := aft_cell hzb b5
          have gb6 := aft_cell hzb b6
          have ge0 := aft_cell hz e0
          have ge1 := aft_cell hz e1
          have ge2 := aft_cell hz e2
          have ge3 := aft_cell hz e3
          have ge4 := aft_cell hz e4
          have ge5 := aft_cell hz e5
          have ge6 := aft_cell hz e6
          have ne := aft_some wr
          refine wp_region_aft (by kernel_rfl) (by kernel_rfl) ?_
          repeat (first | go_big_quiet_step (first | fail))
          refine wpQuiet_nil ?_
          intro wq hq
          clear gb0 gb1 gb2 gb3 gb4 gb5 gb6 ge0 ge1 ge2 ge3 ge4 ge5 ge6 ne
          have HXq : Hid (BoxIn w wq xk xc xs' xq xv xd ax xx.length cx) := HB.out.step hq
          have HRq : Hid (RowEs wq (w.heap.size + 1) g cp es) := HR.out.below hq
          clear hq hzb b0 b1 b2 b3 b4 b5 b6 hz e0 e1 e2 e3 e4 e5 e6
          have b0 := HXq.out.c0
          have b1 := HXq.out.c1
          have b2 := HXq.out.c2
          have b3 := HXq.out.c3
          have b4 := HXq.out.c4
          have b5 := HXq.out.c5
          have b6 := HXq.out.c6
          have hzb := HXq.out.lt
          obtain ⟨hz, e0, e1, e2, e3, e4, e5, e6, -, -⟩ := HYA.out _ HXq.out.below
          go_wp2_with fail
          have gb0 := aft_cell hzb b0
          have gb1 := aft_cell hzb b1
          have gb2 := aft_cell hzb b2
          have gb3 := aft_cell hzb b3
          have gb4 := aft_cell hzb b4
          have gb5 := aft_cell hzb b5
          have gb6 := aft_cell hzb b6
          have ge0 := aft_cell hz e0
          have ge1 := aft_cell hz e1
          have ge2 := aft_cell hz e2
          have ge3 := aft_cell hz e3
          have ge4 := aft_cell hz e4
          have ge5 := aft_cell hz e5
          have ge6 := aft_cell hz e6
          have ne := aft_some wq
          refine wp_region_aft (by kernel_rfl) (by kernel_rfl) ?_
          repeat (first | go_big_quiet_step (first | fail))
          refine wpQuiet_nil ?_
          intro wt hq
          clear gb0 gb1 gb2 gb3 gb4 gb5 gb6 ge0 ge1 ge2 ge3 ge4 ge5 ge6 ne
          have HXt : Hid (BoxIn w wt xk xc xs' xq xv xd ax xx.length cx) := HXq.out.step hq
          have HRt : Hid (RowEs wt (w.heap.size + 1) g cp es) := HRq.out.below hq
          clear hq hzb b0 b1 b2 b3 b4 b5 b6 hz e0 e1 e2 e3 e4 e5 e6
          have b0 := HXt.out.c0
          have b1 := HXt.out.c1
          have b2 := HXt.out.c2
          have b3 := HXt.out.c3
          have b4 := HXt.out.c4
          have b5 := HXt.out.c5
          have b6 := HXt.out.c6
          have hzb := HXt.out.lt
          obtain ⟨hz, e0, e1, e2, e3, e4, e5, e6, -, -⟩ := HYA.out _ HXt.out.below
          go_wp2_with fail
          have gb0 := aft_cell hzb b0
          have gb1 := aft_cell hzb b1
          have gb2 := aft_cell hzb b2
          have gb3 := aft_cell hzb b3
          have gb4 := aft_cell hzb b4
          have gb5 := aft_cell hzb b5
          have gb6 := aft_cell hzb b6
          have ge0 := aft_cell hz e0
          have ge1 := aft_cell hz e1
          have ge2 := aft_cell hz e2
          have ge3 := aft_cell hz e3
          have ge4 := aft_cell hz e4
          have ge5 := aft_cell hz e5
          have ge6 := aft_cell hz e6
          have ne := aft_some wt
          refine wp_region_aft (by kernel_rfl) (by kernel_rfl) ?_
          repeat (first | go_big_quiet_step (first | fail))
          refine wpQuiet_nil ?_
          intro wv hq
          clear gb0 gb1 gb2 gb3 gb4 gb5 gb6 ge0 ge1 ge2 ge3 ge4 ge5 ge6 ne
          have HXv : Hid (BoxIn w wv xk xc xs' xq xv xd ax xx.length cx) := HXt.out.step hq
          have HRv : Hid (RowEs wv (w.heap.size + 1) g cp es) := HRt.out.below hq
          clear hq hzb b0 b1 b2 b3 b4 b5 b6 hz e0 e1 e2 e3 e4 e5 e6
          obtain ⟨hz, e0, e1, e2, e3, e4, e5, e6, -, -⟩ := HYA.out _ HXv.out.below
          go_wp2_with fail
          refine (copy_any ⟨yk, yc, ys, yq, yv, yd, yy⟩ _ _ _ hly (HYA.out _ HXv.out.below).2.2.2.2.2.2.2.2.2).mono ?_
          rintro e u5 ⟨p5, r5, rfl, hg1, hg2, hg3, hb⟩
          have HXa : Hid (BoxIn w u5 xk xc xs' xq xv xd ax xx.length cx) := HXv.out.step hb
          have HRa : Hid (RowEs u5 (w.heap.size + 1) g cp es) := HRv.out.below hb
          have HGa : Hid (HoldsDeps u5 p5 0 yy) := hg3
          have hg5 : p5 ≠ g := by have := HRv.out.lt; omega
          have hg6 : w.heap.size + 1 ≤ p5 := by have := HXv.out.lt; omega
          have hsz : w.heap.size + 1 ≤ u5.heap.size := HXa.out.lt
          clear hb hg3 hg1
          have HOW : Hid ((u5.alloc (.cells #[.int .i64 yk, .int .i64 yc, .int .i64 ys, .int .i64 yq, .int .i64 yv, .bool yd, .slice (some ⟨p5, 0, none⟩) yy.length r5] 41)).ownsRow (w.heap.size + 1) 41 7 (.slice (some ⟨g, 0, none⟩) L cp) L (es.flatMap wrVals)) := grow_own HRa.out HL.out _
          go_wp2_with (at_builtin; refine wpList_append_lies _ (by rfl) _ _ _ (by rfl) (w.heap.size + 1) 41 i0 (wrV 0 0 0 0 0 false none 0 0) 7 72 Try.underlying44 HI0.out HX0.out.1 HX0.out.2.1 HX0.out.2.2 (by rfl) (by omega) (.slice (some ⟨g, 0, none⟩) L cp) L (es.flatMap wrVals) (by rfl) HOW.out ⟨u5.heap.size, 0, none⟩ 1 1 (wrVals ⟨⟨yk, yc, ys, yq, yv, yd, yy⟩, p5, r5⟩) (by rfl) (by rfl) (one_cells u5 _ ⟨⟨yk, yc, ys, yq, yv, yd, yy⟩, p5, r5⟩) (by simpa using vals_one [⟨⟨yk, yc, ys, yq, yv, yd, yy⟩, p5, r5⟩]) (by omega) (by unfold maxLen; omega) (by omega) (by simp; omega) _ rfl ?_; intro g5 cp5 w5 hown hgrow hg3 _; refine Hid.out ?_)
          refine Lib.hid ?_
          obtain ⟨hXn, hRn⟩ := grow_one (x := ⟨yk, yc, ys, yq, yv, yd, yy⟩) HL.out HXa.out HRa.out HGa.out hg2 hg5 hg6 hown hgrow hg3
          have HX5 : Hid (BoxIn w w5 xk xc xs' xq xv xd ax xx.length cx) := hXn
          have HR5 : Hid (RowEs w5 (w.heap.size + 1) g5 cp5 (es ++ [⟨⟨yk, yc, ys, yq, yv, yd, yy⟩, p5, r5⟩])) := hRn
          have HL5 : Hid ((es ++ [(⟨⟨yk, yc, ys, yq, yv, yd, yy⟩, p5, r5⟩ : En)]).length = L + 1) := by
            rw [List.length_append, HL.out]
            exact Lib.hid rfl
          clear hown hgrow HOW HXa HRa HGa hXn hRn hg2 hg3 hg5 hg6 hsz
          have HPn : Hid (((es ++ [(⟨⟨yk, yc, ys, yq, yv, yd, yy⟩, p5, r5⟩ : En)]).map (·.x), put) = putTo (ws.take (k + 1)) ⟨xk, xc, xs', xq, xv, xd, xx⟩) := by
            rw [HPN.out]
            exact step_else HP.out hky (fun h => by have h1 : xk < yk := h.1; omega)
          clear hz e0 e1 e2 e3 e4 e5 e6
          go_wp2
          exact ⟨⟨k + 1, L + 1, g5, cp5, _, put, by omega, by omega, by go_num, rfl, rfl, HPn, HL5, HR5, HX5⟩, by simp [intOf]; omega⟩
    · have hkk : k = n := by omega
      subst hkk
      cases put
      · have b0 := HB.out.c0
        have b1 := HB.out.c1
        have b2 := HB.out.c2
        have b3 := HB.out.c3
        have b4 := HB.out.c4
        have b5 := HB.out.c5
        have b6 := HB.out.c6
        go_wp2_with fail
        refine (copy_any ⟨xk, xc, xs', xq, xv, xd, xx⟩ _ _ _ hlx (HGX.out.below HB.out.below)).mono ?_
        rintro e u5 ⟨p5, r5, rfl, hg1, hg2, hg3, hb⟩
        have HXa : Hid (BoxIn w u5 xk xc xs' xq xv xd ax xx.length cx) := HB.out.step hb
        have HRa : Hid (RowEs u5 (w.heap.size + 1) g cp es) := HR.out.below hb
        have HGa : Hid (HoldsDeps u5 p5 0 xx) := hg3
        have hg5 : p5 ≠ g := by have := HR.out.lt; omega
        have hg6 : w.heap.size + 1 ≤ p5 := by have := HB.out.lt; omega
        have hsz : w.heap.size + 1 ≤ u5.heap.size := HXa.out.lt
        clear hb hg3 hg1
        have HOW : Hid ((u5.alloc (.cells #[.int .i64 xk, .int .i64 xc, .int .i64 xs', .int .i64 xq, .int .i64 xv, .bool xd, .slice (some ⟨p5, 0, none⟩) xx.length r5] 41)).ownsRow (w.heap.size + 1) 41 7 (.slice (some ⟨g, 0, none⟩) L cp) L (es.flatMap wrVals)) := grow_own HRa.out HL.out _
        go_wp2_with (at_builtin; refine wpList_append_lies _ (by rfl) _ _ _ (by rfl) (w.heap.size + 1) 41 i0 (wrV 0 0 0 0 0 false none 0 0) 7 72 Try.underlying44 HI0.out HX0.out.1 HX0.out.2.1 HX0.out.2.2 (by rfl) (by omega) (.slice (some ⟨g, 0, none⟩) L cp) L (es.flatMap wrVals) (by rfl) HOW.out ⟨u5.heap.size, 0, none⟩ 1 1 (wrVals ⟨⟨xk, xc, xs', xq, xv, xd, xx⟩, p5, r5⟩) (by rfl) (by rfl) (one_cells u5 _ ⟨⟨xk, xc, xs', xq, xv, xd, xx⟩, p5, r5⟩) (by simpa using vals_one [⟨⟨xk, xc, xs', xq, xv, xd, xx⟩, p5, r5⟩]) (by omega) (by unfold maxLen; omega) (by omega) (by simp; omega) _ rfl ?_; intro g5 cp5 w5 hown hgrow hg3 _; refine Hid.out ?_)
        refine Lib.hid ?_
        obtain ⟨hXn, hRn⟩ := grow_one (x := ⟨xk, xc, xs', xq, xv, xd, xx⟩) HL.out HXa.out HRa.out HGa.out hg2 hg5 hg6 hown hgrow hg3
        have HX5 : Hid (BoxIn w w5 xk xc xs' xq xv xd ax xx.length cx) := hXn
        have HR5 : Hid (RowEs w5 (w.heap.size + 1) g5 cp5 (es ++ [⟨⟨xk, xc, xs', xq, xv, xd, xx⟩, p5, r5⟩])) := hRn
        have HL5 : Hid ((es ++ [(⟨⟨xk, xc, xs', xq, xv, xd, xx⟩, p5, r5⟩ : En)]).length = L + 1) := by
          rw [List.length_append, HL.out]
          exact Lib.hid rfl
        clear hown hgrow HOW HXa HRa HGa hXn hRn hg2 hg3 hg5 hg6 hsz
        have hW : Hid ((es ++ [(⟨⟨xk, xc, xs', xq, xv, xd, xx⟩, p5, r5⟩ : En)]).map (·.x) = putW ws ⟨xk, xc, xs', xq, xv, xd, xx⟩) := by
          have hp := HP.out
          rw [List.take_of_length_le (by rw [HN.out]; exact Nat.le_refl _)] at hp
          rw [HXX.out, ← hp, List.map_append]
          exact Lib.hid rfl
        clear b0 b1 b2 b3 b4 b5 b6
        go_wp2
        go_ret
        exact ⟨g5, cp5, _, L + 1, rfl, HL5.out, hW.out, HR5.out, HX5.out.below⟩
      · have hW : Hid (es.map (·.x) = putW ws ⟨xk, xc, xs', xq, xv, xd, xx⟩) := by
          have hp := HP.out
          rw [List.take_of_length_le (by rw [HN.out]; exact Nat.le_refl _)] at hp
          rw [HXX.out, ← hp]
          exact Lib.hid rfl
        go_wp2
        go_ret
        exact ⟨g, cp, es, L, rfl, HL.out, hW.out, HR.out, HB.out.below⟩

theorem put_any (b n cap : Nat) (ws : List Wr) (γ : Nat → Nat) (x : Wr) (gx cx : Nat) (w : World) (hn : ws.length = n) (hm : n ≤ 1048576) (hx : Few ws) (hh : HoldsWs w b ws γ) (hlx : x.xs.length ≤ 1048576) (hgx : gx < w.heap.size) (hhx : HoldsDeps w gx 0 x.xs) :
    Calls Try.prog 51 #[.slice (some ⟨b, 0, none⟩) n cap, wrOf x (some ⟨gx, 0, none⟩) cx] w fun e w' => ∃ g cp es L, e = .returned (.slice (some ⟨g, 0, none⟩) L cp) ∧ es.length = L ∧ es.map (·.x) = putW ws x ∧ RowEs w' (w.heap.size + 1) g cp es ∧ Below w.heap.size w w' :=
  put_gen _ n cap ws x _ cx w hn hm hx (hh.isWs hx) hlx (.inr ⟨gx, 0, rfl, hgx, hhx⟩)

end Go.Proofs.Ytojgahcogpediaa

/- What a put keeps: lengths, members. -/
namespace Go.Proofs.Ytojgahcogpediaa
open Go.ChangeShapes Go.WideShapes Go.ChangeAt Go.RowKit Go.Joins

theorem few_iff {ws : List Wr} : Few ws ↔ ∀ x ∈ ws, x.xs.length ≤ 1048576 := by
  constructor
  · intro h x hx
    obtain ⟨i, hi, rfl⟩ := List.mem_iff_getElem.1 hx
    have := h i hi
    simpa [List.getD, hi] using this
  · intro h i hi
    exact h _ (by simp [List.getD, hi])

theorem fold_mem (x : Wr) : ∀ (ws : List Wr) (st : List Wr × Bool), ∀ z ∈ (ws.foldl (putStep x) st).1, z ∈ st.1 ∨ z = x ∨ z ∈ ws
  | [], st, z, h => .inl h
  | y :: r, st, z, h => by
    rcases fold_mem x r (putStep x st y) z h with h1 | h1 | h1
    · unfold putStep at h1
      split at h1
      · split at h1
        · rcases List.mem_append.1 h1 with h2 | h2
          · exact .inl h2
          · exact .inr (.inl (by simpa using h2))
        · rcases List.mem_append.1 h1 with h2 | h2
          · exact .inl h2
          · exact .inr (.inr (by simp at h2; simp [h2]))
      · split at h1
        · rcases List.mem_append.1 h1 with h2 | h2
          · rcases List.mem_append.1 h2 with h3 | h3
            · exact .inl h3
            · exact .inr (.inl (by simpa using h3))
          · exact .inr (.inr (by simp at h2; simp [h2]))
        · rcases List.mem_append.1 h1 with h2 | h2
          · exact .inl h2
          · exact .inr (.inr (by simp at h2; simp [h2]))
    · exact .inr (.inl h1)
    · exact .inr (.inr (by simp [h1]))

theorem put_mem (ws : List Wr) (x : Wr) : ∀ z ∈ putW ws x, z = x ∨ z ∈ ws := by
  intro z hz
  have h := fold_mem x ws ([], false) z
  unfold putW at hz
  split at hz
  · rcases h hz with h1 | h1
    · simp at h1
    · exact h1
  · rcases List.mem_append.1 hz with h1 | h1
    · rcases h h1 with h2 | h2
      · simp at h2
      · exact h2
    · exact .inl (by simpa using h1)

def pend (b : Bool) : Nat := match b with | true => 0 | false => 1

theorem fold_len (x : Wr) : ∀ (ws : List Wr) (st : List Wr × Bool), (ws.foldl (putStep x) st).1.length + pend (ws.foldl (putStep x) st).2 ≤ st.1.length + pend st.2 + ws.length
  | [], st => Nat.le_refl _
  | y :: r, st => by
    have h := fold_len x r (putStep x st y)
    have h1 : (putStep x st y).1.length + pend (putStep x st y).2 ≤ st.1.length + pend st.2 + 1 := by
      unfold putStep
      split
      · split
        · simp [pend]
        · simp [pend]
      · split
        · rename_i h2
          simp [h2.2, pend]
        · simp
          omega
    simp only [List.foldl_cons, List.length_cons]
    omega

theorem put_len (ws : List Wr) (x : Wr) : (putW ws x).length ≤ ws.length + 1 := by
  have h := fold_len x ws ([], false)
  have e : putTo ws x = ws.foldl (putStep x) ([], false) := rfl
  rw [← e] at h
  unfold putW
  cases h1 : (putTo ws x).2
  · rw [h1] at h
    simp [pend] at h ⊢
    omega
  · rw [h1] at h
    simp [pend] at h ⊢
    omega

theorem put_few {ws : List Wr} {x : Wr} (h : Few ws) (hx : x.xs.length ≤ 1048576) : Few (putW ws x) := by
  rw [few_iff] at *
  intro z hz
  rcases put_mem ws x z hz with h1 | h1
  · rw [h1]; exact hx
  · exact h z h1

theorem RowEs.mono {w : World} {base base' g cap : Nat} {es : List En} (h : RowEs w base g cap es) (hb : base' ≤ base) : RowEs w base' g cap es where
  le := Nat.le_trans hb h.le
  lt := h.lt
  own := by
    refine ⟨h.own.1, ?_⟩
    rcases h.own.2 with h1 | ⟨g, cap, cur, h1, h2, h3⟩
    · exact .inl h1
    · exact .inr ⟨g, cap, cur, h1, Nat.le_trans hb h2, h3⟩
  deps := fun e he => ⟨Nat.le_trans hb (h.deps e he).1, (h.deps e he).2⟩

theorem RowEs.setBelow {w : World} {base g cap : Nat} {es : List En} (h : RowEs w base g cap es) {X : Nat} (hX : X < base) (o : Nat) (u : Value) : RowEs (w.setCell ⟨X, o, none⟩ u) base g cap es where
  le := h.le
  lt := by simpa [World.setCell] using h.lt
  own := ownsRow_setCell_below (a := ⟨X, o, none⟩) h.own hX u
  deps := fun e he => by
    obtain ⟨h1, h2, h3, h4⟩ := h.deps e he
    have hne : ∀ o', (⟨X, o, none⟩ : Addr) ≠ ⟨e.g, o', none⟩ := fun o' hh => by
      injection hh with hb
      omega
    refine ⟨h1, by simpa [World.setCell] using h2, h3, fun i hi => ?_⟩
    obtain ⟨a0, a1, a2, a3⟩ := h4 i hi
    exact ⟨(World.cell?_setCell_other _ _ _ _ (hne _)).trans a0, (World.cell?_setCell_other _ _ _ _ (hne _)).trans a1, (World.cell?_setCell_other _ _ _ _ (hne _)).trans a2, (World.cell?_setCell_other _ _ _ _ (hne _)).trans a3⟩

end Go.Proofs.Ytojgahcogpediaa

/- The orders of tags and writes: turned round they are turned round, and they go on. No Go in sight. -/
namespace Go.Proofs.Ytojgahcogpediaa

def lexI (a b : Int) : Int := if a ≠ 0 then a else b

/-- What three answers of one order have to do with one another: of a with b, of b with c, of a with c. -/
structure T3 (x y z : Int) : Prop where
  l : x = 0 → z = y
  r : y = 0 → z = x
  n : x < 0 → y < 0 → z < 0

theorem T3.lex {x y z x' y' z' : Int} (h : T3 x y z) (h' : T3 x' y' z') : T3 (lexI x x') (lexI y y') (lexI z z') := by
  obtain ⟨l, r, n⟩ := h
  obtain ⟨l', r', n'⟩ := h'
  unfold lexI
  by_cases hx : x = 0
  · have hz := l hx
    by_cases hy : y = 0
    · have hz0 : z = 0 := by omega
      simp only [hx, hy, hz0, ne_eq, not_true_eq_false, if_false]
      exact ⟨l', r', n'⟩
    · have hz0 : z ≠ 0 := by omega
      simp only [hx, hy, hz0, ne_eq, not_true_eq_false, not_false_eq_true, if_false, if_true]
      exact ⟨fun _ => hz, fun e => absurd e hy, fun h1 h2 => by omega⟩
  · by_cases hy : y = 0
    · have hz := r hy
      have hz0 : z ≠ 0 := by omega
      simp only [hx, hy, hz0, ne_eq, not_true_eq_false, not_false_eq_true, if_false, if_true]
      exact ⟨fun e => absurd e hx, fun _ => hz, fun h1 h2 => by omega⟩
    · simp only [hx, hy, ne_eq, not_false_eq_true, if_true]
      refine ⟨fun e => absurd e hx, fun e => absurd e hy, fun h1 h2 => ?_⟩
      have := n h1 h2
      rw [if_pos (by omega)]
      exact this

theorem T3.on {x y z : Int} (h : T3 x y z) (hx : x ≤ 0) (hy : y ≤ 0) : z < 0 ∨ (z = 0 ∧ x = 0 ∧ y = 0) := by
  obtain ⟨l, r, n⟩ := h
  by_cases h0 : x = 0
  · have := l h0
    omega
  · by_cases h1 : y = 0
    · have := r h1
      omega
    · have := n (by omega) (by omega)
      omega

theorem lexI_neg (a b : Int) : lexI (-a) (-b) = -lexI a b := by
  unfold lexI
  by_cases h : a = 0
  · simp [h]
  · have h' : -a ≠ 0 := by omega
    simp [h]

theorem sgn_three (a b c : Int) : T3 (sgn a b) (sgn b c) (sgn a c) := by
  refine ⟨fun h => ?_, fun h => ?_, fun h1 h2 => ?_⟩
  · rw [sgn_zero.1 h]
  · rw [sgn_zero.1 h]
  · unfold sgn at *
    by_cases e1 : a < b
    · by_cases e2 : b < c
      · rw [if_pos (by omega)]
        omega
      · rw [if_neg e2] at h2
        split at h2 <;> omega
    · rw [if_neg e1] at h1
      split at h1 <;> omega

theorem tcmp_lex (c s q c' s' q' : Int) : tcmp c s q c' s' q' = lexI (sgn c c') (lexI (sgn s s') (sgn q q')) := by
  unfold tcmp lexI
  simp only [ne_eq, sgn_zero]

theorem tcmp_three (a1 a2 a3 b1 b2 b3 c1 c2 c3 : Int) : T3 (tcmp a1 a2 a3 b1 b2 b3) (tcmp b1 b2 b3 c1 c2 c3) (tcmp a1 a2 a3 c1 c2 c3) := by
  rw [tcmp_lex, tcmp_lex, tcmp_lex]
  exact (sgn_three _ _ _).lex ((sgn_three _ _ _).lex (sgn_three _ _ _))

theorem tcmp_neg (a1 a2 a3 b1 b2 b3 : Int) : tcmp b1 b2 b3 a1 a2 a3 = -tcmp a1 a2 a3 b1 b2 b3 := by
  rw [tcmp_lex, tcmp_lex, ← lexI_neg, ← lexI_neg, sgn_neg a1 b1, sgn_neg a2 b2, sgn_neg a3 b3]

theorem dcmp_lex (d e : Dp) : dcmp d e = lexI (sgn d.k e.k) (tcmp d.c d.s d.q e.c e.s e.q) := by
  unfold dcmp lexI
  simp only [ne_eq, sgn_zero]

theorem dcmp_three (d e f : Dp) : T3 (dcmp d e) (dcmp e f) (dcmp d f) := by
  rw [dcmp_lex, dcmp_lex, dcmp_lex]
  exact (sgn_three _ _ _).lex (tcmp_three _ _ _ _ _ _ _ _ _)

theorem dcmp_neg (d e : Dp) : dcmp e d = -dcmp d e := by
  rw [dcmp_lex, dcmp_lex, ← lexI_neg, sgn_neg d.k e.k, tcmp_neg d.c d.s d.q e.c e.s e.q]

theorem depsCmp_cons (d e : Dp) (r t : List Dp) : depsCmp (d :: r) (e :: t) = lexI (dcmp d e) (depsCmp r t) := rfl

theorem depsCmp_neg : ∀ xs ys : List Dp, depsCmp ys xs = -depsCmp xs ys
  | [], [] => rfl
  | [], _ :: _ => rfl
  | _ :: _, [] => rfl
  | d :: r, e :: t => by rw [depsCmp_cons, depsCmp_cons, dcmp_neg d e, depsCmp_neg r t, lexI_neg]

theorem depsCmp_three : ∀ xs ys zs : List Dp, T3 (depsCmp xs ys) (depsCmp ys zs) (depsCmp xs zs)
  | [], [], [] => ⟨fun _ => rfl, fun _ => rfl, fun h _ => absurd h (by simp [depsCmp])⟩
  | [], [], _ :: _ => ⟨fun _ => rfl, fun h => absurd h (by simp [depsCmp]), fun h _ => absurd h (by simp [depsCmp])⟩
  | [], _ :: _, [] => ⟨fun h => absurd h (by simp [depsCmp]), fun h => absurd h (by simp [depsCmp]), fun _ h => absurd h (by simp [depsCmp])⟩
  | [], _ :: _, _ :: _ => ⟨fun h => absurd h (by simp [depsCmp]), fun _ => rfl, fun _ _ => by simp [depsCmp]⟩
  | _ :: _, [], [] => ⟨fun h => absurd h (by simp [depsCmp]), fun _ => rfl, fun h _ => absurd h (by simp [depsCmp])⟩
  | _ :: _, [], _ :: _ => ⟨fun h => absurd h (by simp [depsCmp]), fun h => absurd h (by simp [depsCmp]), fun h _ => absurd h (by simp [depsCmp])⟩
  | _ :: _, _ :: _, [] => ⟨fun _ => rfl, fun h => absurd h (by simp [depsCmp]), fun _ h => absurd h (by simp [depsCmp])⟩
  | d :: r, e :: t, f :: u => by
    rw [depsCmp_cons, depsCmp_cons, depsCmp_cons]
    exact (dcmp_three d e f).lex (depsCmp_three r t u)

theorem wcmp_lex (k c s q v : Int) (de : Bool) (xs : List Dp) (k' c' s' q' v' : Int) (de' : Bool) (ys : List Dp) :
    wcmp k c s q v de xs k' c' s' q' v' de' ys = lexI (tcmp c s q c' s' q') (lexI (sgn k k') (lexI (sgn v v') (lexI (sgn (bit de) (bit de')) (depsCmp xs ys)))) := by
  unfold wcmp lexI
  simp only [ne_eq, sgn_zero (a := k), sgn_zero (a := v), bit_sgn]

theorem wcmp_three (k c s q v : Int) (de : Bool) (xs : List Dp) (k' c' s' q' v' : Int) (de' : Bool) (ys : List Dp) (k2 c2 s2 q2 v2 : Int) (de2 : Bool) (zs : List Dp) :
    T3 (wcmp k c s q v de xs k' c' s' q' v' de' ys) (wcmp k' c' s' q' v' de' ys k2 c2 s2 q2 v2 de2 zs) (wcmp k c s q v de xs k2 c2 s2 q2 v2 de2 zs) := by
  rw [wcmp_lex, wcmp_lex, wcmp_lex]
  exact (tcmp_three _ _ _ _ _ _ _ _ _).lex ((sgn_three _ _ _).lex ((sgn_three _ _ _).lex ((sgn_three _ _ _).lex (depsCmp_three _ _ _))))

theorem wcmp_neg (k c s q v : Int) (de : Bool) (xs : List Dp) (k' c' s' q' v' : Int) (de' : Bool) (ys : List Dp) :
    wcmp k' c' s' q' v' de' ys k c s q v de xs = -wcmp k c s q v de xs k' c' s' q' v' de' ys := by
  rw [wcmp_lex, wcmp_lex, ← lexI_neg, ← lexI_neg, ← lexI_neg, ← lexI_neg, tcmp_neg c s q, sgn_neg k k', sgn_neg v v', sgn_neg (bit de) (bit de'), depsCmp_neg xs ys]

theorem depsCmp_bd : ∀ xs ys : List Dp, -1 ≤ depsCmp xs ys ∧ depsCmp xs ys ≤ 1
  | [], [] => by simp [depsCmp]
  | [], _ :: _ => by simp [depsCmp]
  | _ :: _, [] => by simp [depsCmp]
  | d :: r, e :: t => by
    have h := depsCmp_bd r t
    have h1 := sgn_bd d.k e.k
    have h2 := tcmp_bd d.c d.s d.q e.c e.s e.q
    rw [depsCmp_cons, dcmp_lex]
    unfold lexI
    by_cases g1 : sgn d.k e.k = 0
    · by_cases g2 : tcmp d.c d.s d.q e.c e.s e.q = 0
      · simpa [g1, g2] using h
      · simpa [g1, g2] using h2
    · simpa [g1] using h1

theorem wcmp_bd (k c s q v : Int) (de : Bool) (xs : List Dp) (k' c' s' q' v' : Int) (de' : Bool) (ys : List Dp) : -1 ≤ wcmp k c s q v de xs k' c' s' q' v' de' ys ∧ wcmp k c s q v de xs k' c' s' q' v' de' ys ≤ 1 := by
  have h1 := tcmp_bd c s q c' s' q'
  have h2 := sgn_bd k k'
  have h3 := sgn_bd v v'
  have h4 := sgn_bd (bit de) (bit de')
  have h5 := depsCmp_bd xs ys
  unfold wcmp
  split
  · exact h1
  · split
    · exact h2
    · split
      · exact h3
      · split
        · exact h4
        · exact h5

end Go.Proofs.Ytojgahcogpediaa

/- The contracts of the specification's MapAt and MapHas. -/
namespace Go.Proofs.Ytojgahcogpediaa
open Go.ChangeShapes Go.WideShapes Go.ChangeAt Go.RowKit Go.Joins
attribute [local go_sem ↓] Go.wp_at_zero Go.wp_at_succ

/-- Number i is the first write of this key. -/
def FirstAt (ws : List Wr) (key : Int) (i : Nat) : Prop := i < ws.length ∧ (ws.getD i wz).k = key ∧ ∀ j, j < i → (ws.getD j wz).k ≠ key
/-- There is none of this key. -/
def NoneAt (ws : List Wr) (key : Int) : Prop := ∀ j, j < ws.length → (ws.getD j wz).k ≠ key

theorem FirstAt.same {ws : List Wr} {key : Int} {i j : Nat} (h : FirstAt ws key i) (h' : FirstAt ws key j) : i = j := by
  by_cases h1 : i < j
  · exact absurd h.2.1 (h'.2.2 i h1)
  · by_cases h2 : j < i
    · exact absurd h'.2.1 (h.2.2 j h2)
    · omega

theorem FirstAt.no {ws : List Wr} {key : Int} {i : Nat} (h : FirstAt ws key i) (h' : NoneAt ws key) : False := h' i h.1 h.2.1

/-- What a look at a map tells: a write of one's own, or nothing. -/
def Told (ws : List Wr) (key : Int) (w w' : World) (v : Value) : Prop :=
  (∃ i g cp, FirstAt ws key i ∧ v = .tuple #[wrOf (ws.getD i wz) (some ⟨g, 0, none⟩) cp, .bool true] ∧ w.heap.size ≤ g ∧ g < w'.heap.size ∧ HoldsDeps w' g 0 (ws.getD i wz).xs) ∨
  (NoneAt ws key ∧ v = .tuple #[wrV 0 0 0 0 0 false none 0 0, .bool false])

def findW (ws : List Wr) (key : Int) : Option Wr := ws.find? fun x => x.k == key

theorem find_first : ∀ {ws : List Wr} {key : Int} {i : Nat}, FirstAt ws key i → findW ws key = some (ws.getD i wz)
  | [], _, _, h => by simp [FirstAt] at h
  | x :: r, key, 0, h => by
    have hk : x.k = key := h.2.1
    simp [findW, hk]
  | x :: r, key, i + 1, h => by
    have hk : x.k ≠ key := h.2.2 0 (by omega)
    have : FirstAt r key i := ⟨by simpa using h.1, h.2.1, fun j hj => h.2.2 (j + 1) (by omega)⟩
    have := find_first this
    simp only [findW, List.find?_cons, beq_eq_false_iff_ne.2 hk] at this ⊢
    exact this

theorem find_none {ws : List Wr} {key : Int} (h : NoneAt ws key) : findW ws key = none := by
  induction ws with
  | nil => rfl
  | cons x r ih =>
    have hk : x.k ≠ key := h 0 (by simp)
    have := ih fun j hj => h (j + 1) (by simpa using hj)
    simp only [findW, List.find?_cons, beq_eq_false_iff_ne.2 hk] at this ⊢
    exact this

def hasB (ws : List Wr) (key c s q : Int) : Bool := match findW ws key with | some x => decide (0 ≤ tcmp x.c x.s x.q c s q) | none => false

end Go.Proofs.Ytojgahcogpediaa
