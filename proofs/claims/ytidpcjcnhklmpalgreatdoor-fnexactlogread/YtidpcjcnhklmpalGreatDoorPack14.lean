import Derived.Test.YtidpcjcnhklmpalGreatDoorPack12
import Derived.Test.YtidpcjcnhklmpalGreatDoorPack13
import Derived.Test.YtidpcjcnhklmpalGreatDoorPack11
/- The contract of spec.LogRead. -/
namespace Go.Proofs.YtidpcjcnhklmpalGreatDoor
open Go.ChangeShapes Go.WideShapes Go.ChangeAt Go.RowKit Go.Joins
attribute [local go_sem ↓] Go.wp_at_zero Go.wp_at_succ

set_option maxRecDepth 100000 in
theorem OwnG.kept {w w' : World} {base b hi : Nat} {ws : List Wr} {γ : Nat → Nat} (h : OwnG w base b ws γ) (hs : w.heap.size ≤ w'.heap.size) (hb : b < hi) (hg : ∀ i, i < ws.length → 0 < (ws.getD i wz).xs.length → γ i < hi) (hk : ∀ x, base ≤ x → x < hi → x < w.heap.size → w'.heap[x]? = w.heap[x]?) : OwnG w' base b ws γ where
  lt := Nat.lt_of_lt_of_le h.lt hs
  le := h.le
  open_ := fun o => (frozen_of_block (hk b h.le hb h.lt)).trans (h.open_ o)
  at_ := fun i hi => by
    obtain ⟨a, cap, h1, h2⟩ := h.at_ i hi
    exact ⟨a, cap, h1.of_block (hk b h.le hb h.lt), h2⟩
  deps := fun i hi hp => by
    obtain ⟨h1, h2, h3, h4, h5⟩ := h.deps i hi hp
    have hb := hk (γ i) h1 (hg i hi hp) h2
    have e' : ∀ o, w'.cell? ⟨γ i, o, none⟩ = w.cell? ⟨γ i, o, none⟩ := fun o => World.cell?_of_block (a := ⟨γ i, o, none⟩) hb
    exact ⟨h1, Nat.lt_of_lt_of_le h2 hs, h3, fun j hj => ⟨(e' _).trans (h4 j hj).1, (e' _).trans (h4 j hj).2.1, (e' _).trans (h4 j hj).2.2.1, (e' _).trans (h4 j hj).2.2.2⟩, fun o => (frozen_of_block hb).trans (h5 o)⟩
  inj := h.inj

set_option maxRecDepth 100000 in
theorem OwnA.kept {w w' : World} {lo hi : Nat} {a : Option Addr} {ws : List Wr} {γ : Nat → Nat} (h : OwnA w lo hi a ws γ) (hs : w.heap.size ≤ w'.heap.size) (hk : ∀ x, lo ≤ x → x < hi → x < w.heap.size → w'.heap[x]? = w.heap[x]?) : OwnA w' lo hi a ws γ := by
  rcases h with h | ⟨b, h1, h2, h3, h4⟩
  · exact .inl h
  · exact .inr ⟨b, h1, h2.kept hs h3 h4 hk, h3, h4⟩

/-- A row of batches of one's own that grows. -/
structure RowB (w : World) (base : Nat) (v : Value) (es : List Bat) : Prop where
  own : w.ownsRow base 30 1 v es.length (es.map batV)
  laid : ∀ i, i < es.length → base ≤ (es.getD i btz).lo ∧ (es.getD i btz).hi ≤ w.heap.size ∧ OwnA w (es.getD i btz).lo (es.getD i btz).hi (es.getD i btz).a (es.getD i btz).ws (es.getD i btz).γ
  order : ∀ i j, i < j → j < es.length → (es.getD i btz).hi ≤ (es.getD j btz).lo
  apart : ∀ b, v.ownBlock = some b → ∀ i, i < es.length → b < (es.getD i btz).lo ∨ (es.getD i btz).hi ≤ b

set_option maxRecDepth 100000 in
theorem RowB.below {w w' : World} {base : Nat} {v : Value} {es : List Bat} (h : RowB w base v es) (hb : Below w.heap.size w w') : RowB w' base v es where
  own := h.own.kept (row := none) ⟨hb.os, hb.tape, hb.output, hb.size, fun k hk _ => hb.block k hk⟩ (by
    cases e : v.ownBlock
    · exact .inl rfl
    · exact .inr (by simp))
  laid := fun i hi => ⟨(h.laid i hi).1, Nat.le_trans (h.laid i hi).2.1 hb.size, (h.laid i hi).2.2.below hb⟩
  order := h.order
  apart := h.apart

set_option maxRecDepth 100000 in
theorem RowB.more {w w5 : World} {base g5 cap5 : Nat} {v : Value} {es : List Bat} {x : Bat} (h : RowB w base v es) (hx : OwnA w x.lo x.hi x.a x.ws x.γ) (h1 : base ≤ x.lo) (h2 : x.hi ≤ w.heap.size) (hord : ∀ i, i < es.length → (es.getD i btz).hi ≤ x.lo) (hv : ∀ b, v.ownBlock = some b → b < x.lo ∨ x.hi ≤ b)
    (hown : w5.ownsRow base 30 1 (.slice (some ⟨g5, 0, none⟩) (es.length + 1) cap5) (es.length + 1) (es.map batV ++ [batV x])) (hgrow : w.grownBy w5 v.ownBlock) (hg : v.ownBlock = some g5 ∨ g5 = w.heap.size) : RowB w5 base (.slice (some ⟨g5, 0, none⟩) (es.length + 1) cap5) (es ++ [x]) where
  own := by
    rw [List.length_append, List.map_append]
    exact hown
  laid := by
    have k : ∀ d : Bat, OwnA w d.lo d.hi d.a d.ws d.γ → (∀ b, v.ownBlock = some b → b < d.lo ∨ d.hi ≤ b) → OwnA w5 d.lo d.hi d.a d.ws d.γ := fun d hd hn => hd.kept hgrow.size fun y y1 y2 y3 => hgrow.block y y3 fun e => by
      have := hn y e.symm
      omega
    intro i hi
    by_cases hl : i < es.length
    · rw [get_old es x hl]
      obtain ⟨q1, q2, q3⟩ := h.laid i hl
      exact ⟨q1, Nat.le_trans q2 hgrow.size, k _ q3 fun b hb => h.apart b hb i hl⟩
    · have hi' : i = es.length := by simp at hi; omega
      rw [hi', get_new]
      exact ⟨h1, Nat.le_trans h2 hgrow.size, k _ hx hv⟩
  order := by
    intro i j hij hj
    by_cases hl : j < es.length
    · rw [get_old es x hl, get_old es x (by omega)]
      exact h.order i j hij hl
    · have hj' : j = es.length := by simp at hj; omega
      rw [hj', get_new, get_old es x (by omega)]
      exact hord i (by omega)
  apart := by
    intro b hb i hi
    have e5 : g5 = b := by
      simp only [Value.ownBlock, Option.some.injEq] at hb
      exact hb
    subst e5
    by_cases hl : i < es.length
    · rw [get_old es x hl]
      rcases hg with hg | hg
      · exact h.apart _ hg i hl
      · have := (h.laid i hl).2.1
        omega
    · have hi' : i = es.length := by simp at hi; omega
      rw [hi', get_new]
      rcases hg with hg | hg
      · exact hv _ hg
      · omega

set_option maxRecDepth 100000 in
theorem RowB.ownB {w : World} {base n cap : Nat} {a : Option Addr} {es : List Bat} (h : RowB w base (.slice a n cap) es) : n = es.length ∧ OwnB w base w.heap.size a es := by
  rcases h.own.2 with ⟨h1, h2⟩ | ⟨g, cap', cur, h1, h2, h3, _⟩
  · simp only [Value.slice.injEq] at h1
    exact ⟨by omega, .inl (List.length_eq_zero_iff.1 h2)⟩
  · simp only [Value.slice.injEq] at h1
    obtain ⟨rfl, rfl, rfl⟩ := h1
    have hlt : g < w.heap.size := (h.own.lt g rfl).2
    refine ⟨rfl, .inr ⟨g, rfl, h2, hlt, hlt, fun i hi => ?_, fun i hi => ?_, h.order⟩⟩
    · rw [h.own.cellAt i (by omega)]
      simp [List.getD, hi]
    · obtain ⟨q1, q2, q3⟩ := h.laid i hi
      exact ⟨q1, q2, h.apart g rfl i hi, q3⟩

set_option maxRecDepth 100000 in
theorem prefix_drop {a b s : List UInt8} (h : a ++ b <+: s) : b <+: s.drop a.length := by
  obtain ⟨t, rfl⟩ := h
  exact ⟨t, by simp⟩

set_option maxRecDepth 100000 in
theorem prefix_join {a b s : List UInt8} (h : a <+: s) (h' : b <+: s.drop a.length) : a ++ b <+: s := by
  obtain ⟨t, rfl⟩ := h
  rw [List.drop_left] at h'
  exact (List.prefix_append_right_inj a).2 h'

set_option maxRecDepth 100000 in
theorem logT_snoc (bs : List (List Wr)) (b : List Wr) : logT (bs ++ [b]) = logT bs ++ batchT b := by simp [logT]

set_option maxRecDepth 100000 in
set_option maxHeartbeats 8000000 in
theorem specLog_any (s : ByteArray) (w : World) (hs : s.size ≤ 1048576) :
    Calls Tryz.prog 4 #[.string s] w fun e w' => ∃ a cap es, e = .returned (.tuple #[.slice a (List.length es) cap, .int .i64 (((logT (batsOf es)).length : Nat) : Int)]) ∧ IsLog s.data.toList (batsOf es) ∧ es.length ≤ s.size ∧ OwnB w' w.heap.size w'.heap.size a es ∧ Below w.heap.size w w' := by
  obtain ⟨i0, hi0, hx0⟩ := Option.map_eq_some_iff.1 infoBatch
  simp only [Prod.mk.injEq] at hx0
  have HI0 := Lib.hid hi0
  have HX0 := Lib.hid hx0
  clear hi0 hx0
  have hdl : s.data.toList.length = s.size := by simp
  have HDL := Lib.hid hdl
  clear hdl
  have HR0 : Hid (RowB (w.alloc (.cells #[] 30)) w.heap.size (.slice (some ⟨w.heap.size, 0, none⟩) 0 0) []) := ⟨World.ownsRow_made w #[] 0 (Nat.le_refl _) (by simp [maxLen]) (by simp), fun i hi => by simp at hi, fun i j _ hj => by simp at hj, fun b _ i hi => by simp at hi⟩
  have HB0 : Hid (Below w.heap.size w (w.alloc (.cells #[] 30))) := (Below.refl _ _).alloc (Nat.le_refl _) _
  go_enter Tryz.func4, Tryz.ntmps4
  go_wp2
  generalize w.alloc (.cells #[] 30) = W0 at *
  go_loopw [4, 5] (fun o at' wr => ∃ (p : Nat) (a : Option Addr) (n cap : Nat) (es : List Bat), p ≤ s.size ∧ at' = .int .i64 p ∧ o = .slice a n cap ∧ es.length = n ∧ n ≤ p ∧ Hid (∀ b ∈ batsOf es, okWs b = true) ∧ Hid ((logT (batsOf es)).length = p) ∧ Hid (logT (batsOf es) <+: s.data.toList) ∧ Hid (RowB wr w.heap.size (.slice a n cap) es) ∧ Hid (Below w.heap.size w wr)) (fun _ at' _ => s.size - (intOf at').toNat)
  case atStart => exact ⟨0, _, 0, _, [], Nat.zero_le _, rfl, rfl, rfl, Nat.le_refl _, fun b hb => by simp [batsOf] at hb, rfl, List.nil_prefix, HR0, HB0⟩
  case round =>
    clear HR0 HB0
    obtain ⟨p, a, n, cap, es, hp, rfl, rfl, hel, hnp, HOK, HLN, HPR, HR, HB⟩ := hrel
    go_wp2_with fail
    refine (batch_any s p _ hs hp).mono ?_
    rintro e w2 ⟨hb, hans⟩
    have HB2 := Lib.hid (below_step HB.out HB.out.size hb)
    have HR2 := Lib.hid (HR.out.below hb)
    have hs2 : wr.heap.size ≤ w2.heap.size := hb.size
    have hs1 : w.heap.size ≤ wr.heap.size := HB.out.size
    clear hb HB
    rcases hans with ⟨ya, ycp, ys, rfl, hv, hrow⟩ | ⟨hno, rfl⟩
    rotate_left
    · have HIS : Hid (IsLog s.data.toList (batsOf es)) := ⟨HOK.out, HPR.out, fun b hb h => hno b ⟨hb, by
        have := prefix_drop h
        rw [HLN.out] at this
        exact this⟩⟩
      clear hno
      have HBA : Hid (Below w2.heap.size w2 (w2.alloc (.cells #[.slice none 0 0] 30))) := (Below.refl _ _).alloc (Nat.le_refl _) _
      have HB3 := Lib.hid (below_step HB2.out HB2.out.size HBA.out)
      have HR3 := Lib.hid (HR2.out.below HBA.out)
      go_wp2
      refine bodyPost_ret (v := .tuple #[.slice a n cap, .int .i64 (p : Int)]) (by simp [results, Tryz.results4, go_sem]) rfl ?_
      refine ⟨a, cap, es, by rw [hel, HLN.out], HIS.out, by omega, HR3.out.ownB.2, HB3.out⟩
    have hpos := batch_pos hv.1
    have hle : p + (batchT (ys.map (·.x))).length ≤ s.size := by
      have h := hv.2.length_le
      rw [List.length_drop, HDL.out] at h
      omega
    have HPR2 : Hid (logT (batsOf es) ++ batchT (ys.map (·.x)) <+: s.data.toList) := prefix_join HPR.out (by rw [HLN.out]; exact hv.2)
    have HOKX := Lib.hid hv.1
    obtain ⟨a', cap', n', e', hn', hO⟩ := hrow.ownA rfl
    obtain ⟨rfl, rfl, rfl⟩ : ya = a' ∧ ys.length = n' ∧ ycp = cap' := by
      simpa only [Value.slice.injEq] using e'
    have HO := Lib.hid hO
    have HYL : Hid ((ys.map (·.x)).length = ys.length) := hn'
    clear hv hrow e' hn' hO
    generalize gammaG ys = γ at *
    generalize ys.map (·.x) = ws at *
    generalize ys.length = m at *
    obtain ⟨z, hz⟩ : ∃ z, (batchT ws).length = z := ⟨_, rfl⟩
    rw [hz] at hpos hle ⊢
    have HZ := Lib.hid hz
    clear hz
    have HBA : Hid (Below w2.heap.size w2 (w2.alloc (.cells #[.slice ya m ycp] 30))) := (Below.refl _ _).alloc (Nat.le_refl _) _
    have HB3 := Lib.hid (below_step HB2.out HB2.out.size HBA.out)
    have HR3 := Lib.hid (HR2.out.below HBA.out)
    have HO3 := Lib.hid (HO.out.below HBA.out)
    have hs3 : w2.heap.size + 1 = (w2.alloc (.cells #[.slice ya m ycp] 30)).heap.size := by simp
    have HBC : Hid (Below (w2.heap.size + 1) (w2.alloc (.cells #[.slice ya m ycp] 30)) ((w2.alloc (.cells #[.slice ya m ycp] 30)).alloc (.cells #[.slice ya m ycp] 30))) := (Below.refl _ _).alloc (by simp) _
    have HRC := Lib.hid (HR3.out.below (hs3 ▸ HBC.out))
    have HOC := Lib.hid (HO3.out.below (hs3 ▸ HBC.out))
    have HBD := Lib.hid (below_step HB3.out HB3.out.size (hs3 ▸ HBC.out))
    have HCE : Hid (∀ j u, [Value.slice ya m ycp][j]? = some u → ((w2.alloc (.cells #[.slice ya m ycp] 30)).alloc (.cells #[.slice ya m ycp] 30)).cell? ((⟨w2.heap.size + 1, 0, none⟩ : Addr).add j) = some u) := by
      refine Lib.hid fun j u hu => ?_
      match j, hu with
      | 0, hu =>
        obtain rfl : Value.slice ya m ycp = u := by simpa using hu
        simp [go_sem]
    have HOW : Hid (((w2.alloc (.cells #[.slice ya m ycp] 30)).alloc (.cells #[.slice ya m ycp] 30)).ownsRow w.heap.size 30 1 (.slice a n cap) n (es.map batV)) := by
      have h := HRC.out.own
      rw [hel] at h
      exact Lib.hid h
    clear hs3 HBC HR3 HO3 HB3 HBA
    go_wp2_with (at_builtin; refine wpList_append_lies _ (by rfl) _ _ _ (by rfl) w.heap.size 30 i0 (.agg #[.slice none 0 0]) 1 24 Tryz.underlying22 HI0.out HX0.out.1 HX0.out.2.1 HX0.out.2.2 (by rfl) (by omega) (.slice a n cap) n (es.map batV) (by rfl) HOW.out ⟨w2.heap.size + 1, 0, none⟩ 1 1 [.slice ya m ycp] (by rfl) (by rfl) (by simpa using HCE.out) (by simp [Value.oneCell']) (by omega) (by unfold maxLen; omega) (by omega) (by simp; omega) _ rfl ?_; intro g3 cp3 w5 hown hgrow hg3 _; refine Hid.out ?_)
    refine Lib.hid ?_
    have HB5 : Hid (Below w.heap.size w w5) := HBD.out.grown hgrow HBD.out.size fun j hj => (HR2.out.own.lt j hj).1
    have hbv : batV ⟨ws, ya, ycp, wr.heap.size, w2.heap.size, γ⟩ = .slice ya m ycp := by
      unfold batV
      rw [HYL.out]
    have HR5 : Hid (RowB w5 w.heap.size (.slice (some ⟨g3, 0, none⟩) (n + 1) cp3) (es ++ [⟨ws, ya, ycp, wr.heap.size, w2.heap.size, γ⟩])) := by
      subst hel
      refine Lib.hid (HRC.out.more HOC.out hs1 (by simp; omega) (fun i hi => (HR.out.laid i hi).2.1) (fun b hb => .inl (HR.out.own.lt b hb).2) ?_ hgrow hg3)
      rw [hbv]
      exact hown
    have HOK5 : Hid (∀ b ∈ batsOf (es ++ [(⟨ws, ya, ycp, wr.heap.size, w2.heap.size, γ⟩ : Bat)]), okWs b = true) := fun b hb => by
      unfold batsOf at hb
      rw [List.map_append] at hb
      rcases List.mem_append.1 hb with hb | hb
      · exact HOK.out b hb
      · obtain rfl : b = ws := by simpa using hb
        exact HOKX.out
    have HLE : Hid (logT (batsOf (es ++ [(⟨ws, ya, ycp, wr.heap.size, w2.heap.size, γ⟩ : Bat)])) = logT (batsOf es) ++ batchT ws) := by
      show _ = _
      unfold batsOf
      rw [List.map_append]
      exact logT_snoc _ _
    have HLN5 : Hid ((logT (batsOf (es ++ [(⟨ws, ya, ycp, wr.heap.size, w2.heap.size, γ⟩ : Bat)]))).length = p + z) := by
      show _ = _
      rw [HLE.out, List.length_append, HLN.out, HZ.out]
    have HPR5 : Hid (logT (batsOf (es ++ [(⟨ws, ya, ycp, wr.heap.size, w2.heap.size, γ⟩ : Bat)])) <+: s.data.toList) := by
      rw [HLE.out]
      exact HPR2
    clear hown hgrow HRC HOW HCE HOC
    go_wp2
    exact ⟨⟨p + z, _, n + 1, _, _, by omega, by go_num, rfl, by simp [hel], by omega, HOK5, HLN5, HPR5, HR5, HB5⟩, by simp [intOf]; omega⟩

end Go.Proofs.YtidpcjcnhklmpalGreatDoor

/- The contracts of impl.batchesOf and impl.LogRead. -/
namespace Go.Proofs.YtidpcjcnhklmpalGreatDoor
open Go.ChangeShapes Go.WideShapes Go.ChangeAt Go.RowKit Go.Joins
attribute [local go_sem ↓] Go.wp_at_zero Go.wp_at_succ

set_option maxRecDepth 100000 in
theorem RowB.holeQ {w w' : World} {B base : Nat} {v : Value} {es : List Bat} (h : RowB w base v es) (hh : Hole B w w') (hB : B < base) : RowB w' base v es where
  own := World.ownsRow.kept (row := some B) h.own ⟨hh.os, hh.tape, hh.output, hh.size, fun k hk hn => hh.block k hk (fun e => hn (by rw [e]))⟩ (by
    by_cases e : v.ownBlock = none
    · exact .inl e
    · refine .inr fun e2 => ?_
      have := (World.ownsRow.lt h.own B e2).1
      omega)
  laid := fun i hi => ⟨(h.laid i hi).1, Nat.le_trans (h.laid i hi).2.1 hh.size, (h.laid i hi).2.2.kept hh.size fun x x1 _ x3 => hh.block x x3 (by have := (h.laid i hi).1; omega)⟩
  order := h.order
  apart := h.apart

set_option maxRecDepth 100000 in
theorem OwnB.mono {w : World} {lo lo' hi : Nat} {a : Option Addr} {es : List Bat} (h : OwnB w lo hi a es) (hl : lo' ≤ lo) : OwnB w lo' hi a es := by
  rcases h with h | ⟨b, h1, h2, h3, h4, h5, h6, h7⟩
  · exact .inl h
  · exact .inr ⟨b, h1, Nat.le_trans hl h2, h3, h4, h5, fun i hi => ⟨Nat.le_trans hl (h6 i hi).1, (h6 i hi).2⟩, h7⟩

/-- The place of a reader. -/
def rdAt (B : Nat) (w : World) : Nat := match w.cell? ⟨B, 1, none⟩ with
  | some (.int _ z) => z.toNat
  | _ => 0

set_option maxRecDepth 100000 in
theorem rdAt_is {w : World} {B p : Nat} {s : ByteArray} (h : Rdr w B s p) : rdAt B w = p := by
  unfold rdAt
  rw [h.c1]
  simp

set_option maxRecDepth 100000 in
theorem log_all {s : List UInt8} {bs : List (List Wr)} (h : ∀ b ∈ bs, okWs b = true) (hp : logT bs <+: s) (hl : s.length ≤ (logT bs).length) : IsLog s bs := ⟨h, hp, fun b hb hq => by
  have h1 := hq.length_le
  have h2 := batch_pos hb
  rw [List.length_append] at h1
  omega⟩

/-- What reading the batches of a log answers. -/
def LogsAns (s : ByteArray) (w w' : World) (e : Ending) : Prop :=
  Below w.heap.size w w' ∧ ∃ a cap es p, es.length ≤ s.size ∧ IsLog s.data.toList (batsOf es) ∧ (logT (batsOf es)).length = p ∧ OwnB w' w.heap.size w'.heap.size a es ∧
    ((p = s.size ∧ e = .returned (.tuple #[.slice a (List.length es) cap, .nilIface])) ∨ ∃ t v, e = .returned (.tuple #[.slice a (List.length es) cap, .iface 38 (.agg #[.int .i64 (p : Int), .iface t v])]))

set_option maxRecDepth 100000 in
set_option maxHeartbeats 8000000 in
theorem batchesOf_any (s : ByteArray) (w : World) (hs : s.size ≤ 1048576) (hE : EV w) (hV : RV w) (hT : Tab w) :
    Calls Tryz.prog 10 #[.string s] w fun e w' => LogsAns s w w' e := by
  obtain ⟨i0, hi0, hx0⟩ := Option.map_eq_some_iff.1 infoBatch
  simp only [Prod.mk.injEq] at hx0
  have HI0 := Lib.hid hi0
  have HX0 := Lib.hid hx0
  clear hi0 hx0
  have hdl : s.data.toList.length = s.size := by simp
  have HDL := Lib.hid hdl
  clear hdl
  have HE := Lib.hid hE
  have HV := Lib.hid hV
  have HT := Lib.hid hT
  clear hE hV hT
  have HD0 : Hid (Rdr (w.alloc (.cells #[.string s, .int .i64 0] 59)) w.heap.size s 0) := ⟨by simp, by simp [go_sem], by simp [go_sem], fun o => by simp [go_sem]⟩
  have HB0 : Hid (Below w.heap.size w (w.alloc (.cells #[.string s, .int .i64 0] 59))) := (Below.refl _ _).alloc (Nat.le_refl _) _
  have HR0 : Hid (RowB (w.alloc (.cells #[.string s, .int .i64 0] 59)) (w.heap.size + 1) (.slice none 0 0) []) := ⟨World.ownsRow_nil _ _ _ _, fun i hi => by simp at hi, fun i j _ hj => by simp at hj, fun b _ i hi => by simp at hi⟩
  have hz0 : w.heap.size + 1 ≤ (w.alloc (.cells #[.string s, .int .i64 0] 59)).heap.size := by simp
  go_enter Tryz.func10, Tryz.ntmps10
  go_wp2
  generalize w.alloc (.cells #[.string s, .int .i64 0] 59) = W0 at *
  go_loopw [4] (fun o wr => ∃ (p : Nat) (a : Option Addr) (n cap : Nat) (es : List Bat), p ≤ s.size ∧ o = .slice a n cap ∧ es.length = n ∧ n ≤ p ∧ w.heap.size + 1 ≤ wr.heap.size ∧ Hid (∀ b ∈ batsOf es, okWs b = true) ∧ Hid ((logT (batsOf es)).length = p) ∧ Hid (logT (batsOf es) <+: s.data.toList) ∧ Hid (RowB wr (w.heap.size + 1) (.slice a n cap) es) ∧ Hid (Rdr wr w.heap.size s p) ∧ Hid (Below w.heap.size w wr)) (fun _ wr => s.size - rdAt w.heap.size wr)
  case atStart => exact ⟨0, _, 0, _, [], Nat.zero_le _, rfl, rfl, Nat.le_refl _, hz0, fun b hb => by simp [batsOf] at hb, rfl, List.nil_prefix, HR0, HD0, HB0⟩
  case round =>
    clear HR0 HB0 HD0 hz0
    obtain ⟨p, a, n, cap, es, hp, rfl, hel, hnp, hwr, HOK, HLN, HPR, HR, HD, HB⟩ := hrel
    have c1 := HD.out.c1
    by_cases hp' : p < s.size
    rotate_left
    · have hpe : p = s.size := by omega
      have q2 : ¬ (p : Int) < (s.size : Int) := by omega
      have HIS : Hid (IsLog s.data.toList (batsOf es)) := log_all HOK.out HPR.out (by rw [HLN.out, HDL.out]; omega)
      go_wp2
      refine bodyPost_ret (v := .tuple #[.slice a n cap, .nilIface]) (by simp [results, Tryz.results10, go_sem]) rfl ?_
      exact ⟨HB.out, a, cap, es, p, by omega, HIS.out, HLN.out, HR.out.ownB.2.mono (Nat.le_succ _), .inl ⟨hpe, by rw [hel]⟩⟩
    have q2 : (p : Int) < (s.size : Int) := by omega
    go_wp2_with fail
    refine (rdBatch_any w s p w.heap.size _ hs hp HE.out HV.out HT.out HB.out (Nat.le_refl _) HD.out).mono ?_
    rintro e w2 ⟨hh, hans⟩
    have HB2 : Hid (Below w.heap.size w w2) := Hole.below HB.out hh (Nat.le_refl _) HB.out.size
    have HR2 := Lib.hid (HR.out.holeQ hh (Nat.lt_succ_self _))
    have hs2 : wr.heap.size ≤ w2.heap.size := hh.size
    clear hh c1
    rcases hans with ⟨ya, ycp, ys, rfl, hv, hrow, hrd⟩ | ⟨hno, t, v, rfl⟩
    rotate_left
    · have HIS : Hid (IsLog s.data.toList (batsOf es)) := ⟨HOK.out, HPR.out, fun b hb h => hno b ⟨hb, by
        have := prefix_drop h
        rw [HLN.out] at this
        exact this⟩⟩
      clear hno
      go_wp2
      refine bodyPost_ret (v := .tuple #[.slice a n cap, .iface 38 (.agg #[.int .i64 (p : Int), .iface t v])]) (by simp [results, Tryz.results10, go_sem]) rfl ?_
      exact ⟨HB2.out, a, cap, es, p, by omega, HIS.out, HLN.out, HR2.out.ownB.2.mono (Nat.le_succ _), .inr ⟨t, v, by rw [hel]⟩⟩
    have hpos := batch_pos hv.1
    have hle : p + (batchT (ys.map (·.x))).length ≤ s.size := by
      have h := hv.2.length_le
      rw [List.length_drop, HDL.out] at h
      omega
    have HPR2 : Hid (logT (batsOf es) ++ batchT (ys.map (·.x)) <+: s.data.toList) := prefix_join HPR.out (by rw [HLN.out]; exact hv.2)
    have HOKX := Lib.hid hv.1
    obtain ⟨a', cap', n', e', hn', hO⟩ := hrow.ownA rfl
    obtain ⟨rfl, rfl, rfl⟩ : ya = a' ∧ ys.length = n' ∧ ycp = cap' := by
      simpa only [Value.slice.injEq] using e'
    have HO := Lib.hid hO
    have HYL : Hid ((ys.map (·.x)).length = ys.length) := hn'
    have HD2 := Lib.hid hrd
    clear hv hrow e' hn' hO hrd
    generalize gammaG ys = γ at *
    generalize ys.map (·.x) = ws at *
    generalize ys.length = m at *
    obtain ⟨z, hz⟩ : ∃ z, (batchT ws).length = z := ⟨_, rfl⟩
    rw [hz] at hpos hle HD2
    have HZ := Lib.hid hz
    clear hz
    have HBA : Hid (Below w2.heap.size w2 (w2.alloc (.cells #[.slice ya m ycp] 30))) := (Below.refl _ _).alloc (Nat.le_refl _) _
    have HBD := Lib.hid (below_step HB2.out HB2.out.size HBA.out)
    have HRC := Lib.hid (HR2.out.below HBA.out)
    have HOC := Lib.hid (HO.out.below HBA.out)
    have HDC := Lib.hid (HD2.out.below HBA.out)
    have HCE : Hid (∀ j u, [Value.slice ya m ycp][j]? = some u → (w2.alloc (.cells #[.slice ya m ycp] 30)).cell? ((⟨w2.heap.size, 0, none⟩ : Addr).add j) = some u) := by
      refine Lib.hid fun j u hu => ?_
      match j, hu with
      | 0, hu =>
        obtain rfl : Value.slice ya m ycp = u := by simpa using hu
        simp [go_sem]
    have HOW : Hid ((w2.alloc (.cells #[.slice ya m ycp] 30)).ownsRow (w.heap.size + 1) 30 1 (.slice a n cap) n (es.map batV)) := by
      have h := HRC.out.own
      rw [hel] at h
      exact Lib.hid h
    clear HBA
    go_wp2_with (at_builtin; refine wpList_append_lies _ (by rfl) _ _ _ (by rfl) (w.heap.size + 1) 30 i0 (.agg #[.slice none 0 0]) 1 24 Tryz.underlying22 HI0.out HX0.out.1 HX0.out.2.1 HX0.out.2.2 (by rfl) (by omega) (.slice a n cap) n (es.map batV) (by rfl) HOW.out ⟨w2.heap.size, 0, none⟩ 1 1 [.slice ya m ycp] (by rfl) (by rfl) (by simpa using HCE.out) (by simp [Value.oneCell']) (by omega) (by unfold maxLen; omega) (by omega) (by simp; omega) _ rfl ?_; intro g3 cp3 w5 hown hgrow hg3 _; refine Hid.out ?_)
    refine Lib.hid ?_
    have HB5 : Hid (Below w.heap.size w w5) := HBD.out.grown hgrow HBD.out.size fun j hj => by have := (HR2.out.own.lt j hj).1; omega
    have hbv : batV ⟨ws, ya, ycp, wr.heap.size, w2.heap.size, γ⟩ = .slice ya m ycp := by
      unfold batV
      rw [HYL.out]
    have HR5 : Hid (RowB w5 (w.heap.size + 1) (.slice (some ⟨g3, 0, none⟩) (n + 1) cp3) (es ++ [⟨ws, ya, ycp, wr.heap.size, w2.heap.size, γ⟩])) := by
      subst hel
      refine Lib.hid (HRC.out.more HOC.out hwr (by simp) (fun i hi => (HR.out.laid i hi).2.1) (fun b hb => .inl (HR.out.own.lt b hb).2) ?_ hgrow hg3)
      rw [hbv]
      exact hown
    have hobB : (Value.slice a n cap).ownBlock ≠ some w.heap.size := fun e => by have := (HR2.out.own.lt _ e).1; omega
    have HD5 : Hid (Rdr w5 w.heap.size s (p + z)) := HDC.out.of_block hgrow.size (hgrow.block _ HDC.out.lt (fun e => hobB e.symm))
    have hs5 : w.heap.size + 1 ≤ w5.heap.size := HD5.out.lt
    have HOK5 : Hid (∀ b ∈ batsOf (es ++ [(⟨ws, ya, ycp, wr.heap.size, w2.heap.size, γ⟩ : Bat)]), okWs b = true) := fun b hb => by
      unfold batsOf at hb
      rw [List.map_append] at hb
      rcases List.mem_append.1 hb with hb | hb
      · exact HOK.out b hb
      · obtain rfl : b = ws := by simpa using hb
        exact HOKX.out
    have HLE : Hid (logT (batsOf (es ++ [(⟨ws, ya, ycp, wr.heap.size, w2.heap.size, γ⟩ : Bat)])) = logT (batsOf es) ++ batchT ws) := by
      show _ = _
      unfold batsOf
      rw [List.map_append]
      exact logT_snoc _ _
    have HLN5 : Hid ((logT (batsOf (es ++ [(⟨ws, ya, ycp, wr.heap.size, w2.heap.size, γ⟩ : Bat)]))).length = p + z) := by
      show _ = _
      rw [HLE.out, List.length_append, HLN.out, HZ.out]
    have HPR5 : Hid (logT (batsOf (es ++ [(⟨ws, ya, ycp, wr.heap.size, w2.heap.size, γ⟩ : Bat)])) <+: s.data.toList) := by
      rw [HLE.out]
      exact HPR2
    clear hown hgrow HRC HOW HCE HOC HDC
    go_wp2
    exact ⟨⟨p + z, _, n + 1, _, _, by omega, rfl, by simp [hel], by omega, hs5, HOK5, HLN5, HPR5, HR5, HD5, HB5⟩, by rw [rdAt_is HD5.out, rdAt_is HD.out]; omega⟩

set_option maxRecDepth 100000 in
theorem OwnB.wide {w : World} {lo hi hi' : Nat} {a : Option Addr} {es : List Bat} (h : OwnB w lo hi a es) (hl : hi ≤ hi') : OwnB w lo hi' a es := by
  rcases h with h | ⟨b, h1, h2, h3, h4, h5, h6, h7⟩
  · exact .inl h
  · exact .inr ⟨b, h1, h2, Nat.lt_of_lt_of_le h3 hl, h4, h5, fun i hi => ⟨(h6 i hi).1, Nat.le_trans (h6 i hi).2.1 hl, (h6 i hi).2.2⟩, h7⟩

set_option maxRecDepth 100000 in
theorem ET.below {w w' : World} (h : ET w) (hb : Below w.heap.size w w') : ET w' :=
  (hb.cell (p := ⟨0, 0, none⟩) (World.block_lt_of_cell? w _ h)).trans h

set_option maxRecDepth 100000 in
set_option maxHeartbeats 8000000 in
theorem implLog_any (s : ByteArray) (w : World) (hs : s.size ≤ 1048576) (hE : EV w) (hV : RV w) (hT : Tab w) (hY : ET w) :
    Calls Tryz.prog 5 #[.string s] w fun e w' => ∃ a cap es, e = .returned (.tuple #[.slice a (List.length es) cap, .int .i64 (((logT (batsOf es)).length : Nat) : Int)]) ∧ IsLog s.data.toList (batsOf es) ∧ es.length ≤ s.size ∧ OwnB w' w.heap.size w'.heap.size a es ∧ Below w.heap.size w w' := by
  have HE := Lib.hid hE
  have HV := Lib.hid hV
  have HT := Lib.hid hT
  have HY := Lib.hid hY
  clear hE hV hT hY
  go_enter Tryz.func5, Tryz.ntmps5
  go_wp2_with fail
  refine (batchesOf_any s _ hs HE.out HV.out HT.out).mono ?_
  rintro e w1 ⟨hb, a, cap, es, p, hel, hlog, hp, hown, hans⟩
  have HB1 := Lib.hid hb
  have HLG := Lib.hid hlog
  have HP := Lib.hid hp
  have HO := Lib.hid hown
  clear hb hlog hp hown
  generalize hn : es.length = n at *
  have HN := Lib.hid hn
  clear hn
  have HA1 : Hid (Below w1.heap.size w1 (w1.alloc (.cells #[.int .i64 0, .nilIface] 38))) := (Below.refl _ _).alloc (Nat.le_refl _) _
  have HB2 := Lib.hid (below_step HB1.out HB1.out.size HA1.out)
  rcases hans with ⟨hpe, rfl⟩ | ⟨t, v, rfl⟩
  · have HO2 : Hid (OwnB (w1.alloc (.cells #[.int .i64 0, .nilIface] 38)) w.heap.size (w1.alloc (.cells #[.int .i64 0, .nilIface] 38)).heap.size a es) := (HO.out.below HA1.out).wide HA1.out.size
    go_wp2_with fail
    refine (as_nil _ _).mono ?_
    rintro e w2 ⟨rfl, hw⟩
    subst w2
    go_wp2
    refine bodyPost_ret (v := .tuple #[.slice a n cap, .int .i64 (s.size : Int)]) (by simp [results, Tryz.results5, go_sem]) rfl ?_
    exact ⟨a, cap, es, by rw [HN.out, HP.out, hpe], HLG.out, by rw [HN.out]; exact hel, HO2.out, HB2.out⟩
  · have z0 : (w1.alloc (.cells #[.int .i64 0, .nilIface] 38)).cell? ⟨w1.heap.size, 0, none⟩ = some (.int .i64 0) := by simp [go_sem]
    have z1 : (w1.alloc (.cells #[.int .i64 0, .nilIface] 38)).cell? ⟨w1.heap.size, 1, none⟩ = some .nilIface := by simp [go_sem]
    have zf : ∀ o, (w1.alloc (.cells #[.int .i64 0, .nilIface] 38)).frozen? ⟨w1.heap.size, o, none⟩ = false := fun o => by simp [go_sem]
    have HC := Lib.hid (as_hit w1.heap.size (.int .i64 (p : Int)) (.iface t v) (.int .i64 0) .nilIface _ (HY.out.below HB2.out) z0 z1 zf rfl rfl)
    go_wp2_with fail
    generalize hW : w1.alloc (.cells #[.int .i64 0, .nilIface] 38) = W1 at *
    refine HC.out.mono ?_
    rintro e w2 ⟨rfl, hw⟩
    have hsz : w1.heap.size < W1.heap.size := by rw [← hW]; simp
    clear hW HC zf
    have hbb : Below W1.heap.size W1 ((((W1.alloc (.cells #[.pointer (some ⟨w1.heap.size, 0, none⟩)] 40)).alloc (.cells #[.pointer (some ⟨13, 40, none⟩), .pointer (some ⟨W1.heap.size, 0, none⟩), .int .u64 150] 65)).alloc (.cells #[.pointer (some ⟨13, 40, none⟩), .pointer (some ⟨W1.heap.size, 0, none⟩), .int .u64 150] 65)).alloc (.cells #[.int .i64 (p : Int), .iface t v] 38)) := ((((Below.refl _ _).alloc (Nat.le_refl _) _).alloc (by simp) _).alloc (by simp <;> omega) _).alloc (by simp <;> omega) _
    have y0 := (hbb.cell (p := ⟨w1.heap.size, 0, none⟩) hsz).trans z0
    generalize ((((W1.alloc (.cells #[.pointer (some ⟨w1.heap.size, 0, none⟩)] 40)).alloc (.cells #[.pointer (some ⟨13, 40, none⟩), .pointer (some ⟨W1.heap.size, 0, none⟩), .int .u64 150] 65)).alloc (.cells #[.pointer (some ⟨13, 40, none⟩), .pointer (some ⟨W1.heap.size, 0, none⟩), .int .u64 150] 65)).alloc (.cells #[.int .i64 (p : Int), .iface t v] 38)) = X at *
    have hc : w2.cell? ⟨w1.heap.size, 0, none⟩ = some (.int .i64 (p : Int)) := by
      rw [hw]
      exact cell_set_off (cell_set_same y0) (by omega)
    have HB3 : Hid (Below w1.heap.size w1 w2) := by
      rw [hw]
      exact Lib.hid (((below_step HA1.out HA1.out.size hbb).setCell (p := ⟨w1.heap.size, 0, none⟩) (Nat.le_refl _) _).setCell (p := ⟨w1.heap.size, 1, none⟩) (Nat.le_refl _) _)
    clear hw hbb y0 z0 z1
    have HB4 := Lib.hid (below_step HB1.out HB1.out.size HB3.out)
    have HO4 : Hid (OwnB w2 w.heap.size w2.heap.size a es) := (HO.out.below HB3.out).wide HB3.out.size
    go_wp2_with fail
    go_quiet (fail)
    go_wp2
    refine bodyPost_ret (v := .tuple #[.slice a n cap, .int .i64 (p : Int)]) (by simp [results, Tryz.results5, go_sem]) rfl ?_
    refine ⟨a, cap, es, by rw [HN.out, HP.out], HLG.out, by rw [HN.out]; exact hel, ?_, below_drewN HB4.out _⟩
    exact HO4.out.below (below_drewN (Below.refl _ _) _)

end Go.Proofs.YtidpcjcnhklmpalGreatDoor

/- The sizes of batches: the contracts of szBatch and szBatchS. -/
namespace Go.Proofs.YtidpcjcnhklmpalGreatDoor
open Go.ChangeShapes Go.WideShapes Go.ChangeAt Go.RowKit Go.Joins
attribute [local go_sem ↓] Go.wp_at_zero Go.wp_at_succ

/-- How much the batches hold. -/
def heftB : List (List Wr) → Nat
  | [] => 0
  | ws :: r => ws.length + bulk ws + heftB r

set_option maxRecDepth 100000 in
theorem heft_take : ∀ (bs : List (List Wr)) (k : Nat), k < bs.length → heftB (bs.take (k + 1)) = heftB (bs.take k) + ((bs.getD k []).length + bulk (bs.getD k []))
  | [], k, h => by simp at h
  | b :: r, 0, _ => by simp [heftB]
  | b :: r, k + 1, h => by
    have ih := heft_take r k (by simpa using h)
    simp only [List.take_succ_cons, heftB, List.getD_cons_succ]
    omega

set_option maxRecDepth 100000 in
theorem heft_one : ∀ (bs : List (List Wr)) (i : Nat), i < bs.length → (bs.getD i []).length + bulk (bs.getD i []) ≤ heftB bs
  | [], i, h => by simp at h
  | b :: r, 0, _ => by simp [heftB]
  | b :: r, i + 1, h => by
    have ih := heft_one r i (by simpa using h)
    simp only [heftB, List.getD_cons_succ]
    omega

set_option maxRecDepth 100000 in
theorem few_heft {bs : List (List Wr)} (h : heftB bs ≤ 1048576) : FewB bs := fun i hi => by
  have := heft_one bs i hi
  exact ⟨by omega, few_of_bulk (by omega)⟩

end Go.Proofs.YtidpcjcnhklmpalGreatDoor

/- The marks of batches stay within bounds: plain facts. -/
namespace Go.Proofs.YtidpcjcnhklmpalGreatDoor
open Go.ChangeShapes Go.WideShapes Go.ChangeAt Go.RowKit Go.Joins

set_option maxRecDepth 100000 in
theorem markK_bd (ws : List Wr) (k : Int) : k ≤ markK ws k ws.length ∧ markK ws k ws.length ≤ k + 6 * ((ws.length + bulk ws : Nat) : Int) := by
  unfold markK
  rw [List.take_length]
  constructor <;> (push_cast; omega)

set_option maxRecDepth 100000 in
theorem markKB_bd : ∀ (es : List Bat) (k : Int), k ≤ markKB es k ∧ markKB es k ≤ k + 6 * (heftB (batsOf es) : Int)
  | [], k => by simp [markKB, batsOf, heftB]
  | e :: r, k => by
    have h1 := markK_bd e.ws k
    have h2 := markKB_bd r (markK e.ws k e.ws.length)
    have e1 : markKB (e :: r) k = markKB r (markK e.ws k e.ws.length) := rfl
    have e2 : heftB (batsOf (e :: r)) = e.ws.length + bulk e.ws + heftB (batsOf r) := rfl
    rw [e1, e2]
    generalize markK e.ws k e.ws.length = m at *
    push_cast at *
    omega

set_option maxRecDepth 100000 in
theorem heft_part : ∀ (bs : List (List Wr)) (i : Nat), heftB (bs.take i) ≤ heftB bs
  | [], i => by simp
  | b :: r, 0 => by simp [heftB]
  | b :: r, i + 1 => by
    have := heft_part r i
    simp only [List.take_succ_cons, heftB]
    omega

set_option maxRecDepth 100000 in
theorem tame_heft {es : List Bat} (h : heftB (batsOf es) ≤ 100000000) (h2 : ∀ i, i < es.length → (es.getD i btz).ws.length ≤ 1048576 ∧ bulk (es.getD i btz).ws ≤ 1048576) : TameB es 1 := by
  refine ⟨h2, fun i _ => ?_⟩
  have h3 := markKB_bd (es.take i) 1
  have h4 : batsOf (es.take i) = (batsOf es).take i := by simp [batsOf]
  rw [h4] at h3
  have h5 := heft_part (batsOf es) i
  omega

set_option maxRecDepth 100000 in
theorem tame_small {es : List Bat} (h : heftB (batsOf es) ≤ 1048576) : TameB es 1 := tame_heft (by omega) fun i hi => by
  have h1 := heft_one (batsOf es) i (by simpa [batsOf] using hi)
  rw [batsOf_get es hi] at h1
  omega

end Go.Proofs.YtidpcjcnhklmpalGreatDoor

/- What the law FnExactLogRead walks. -/
namespace Go.Proofs.YtidpcjcnhklmpalGreatDoor
open Go.ChangeShapes Go.WideShapes Go.ChangeAt Go.RowKit Go.Joins
attribute [local go_sem ↓] Go.wp_at_zero Go.wp_at_succ

/-- What the variables hold that reading a log looks at. -/
def LV (w : World) : Prop := EV w ∧ RV w ∧ Tab w ∧ ET w

set_option maxRecDepth 100000 in
theorem LV.below {w w' : World} (h : LV w) (hb : Below w.heap.size w w') : LV w' := ⟨h.1.below hb, h.2.1.below hb, h.2.2.1.below hb h.2.2.1.lt, h.2.2.2.below hb⟩

set_option maxRecDepth 100000 in
theorem okWs_bulk {ws : List Wr} (h : okWs ws = true) : ws.length ≤ 6 ∧ bulk ws ≤ 36 := by
  have h1 := okWs_len h
  have h2 := bulk_le (m := 6) fun x hx => depR_len (ok_parts (okWs_all h x hx)).2.2.2.1
  exact ⟨h1.2, by omega⟩

set_option maxRecDepth 100000 in
theorem log_heft : ∀ {bs : List (List Wr)}, (∀ b ∈ bs, okWs b = true) → heftB bs ≤ 42 * bs.length
  | [], _ => by simp [heftB]
  | b :: r, h => by
    have h1 := okWs_bulk (h b (by simp))
    have h2 := log_heft (bs := r) fun x hx => h x (List.mem_cons_of_mem _ hx)
    simp only [heftB, List.length_cons]
    omega

set_option maxRecDepth 100000 in
theorem getB_mem {bs : List (List Wr)} {i : Nat} (h : i < bs.length) : bs.getD i [] ∈ bs := by simp [List.getD, h]

set_option maxRecDepth 100000 in
theorem log_few {bs : List (List Wr)} (h : ∀ b ∈ bs, okWs b = true) : FewB bs := fun i hi => by
  have h1 := okWs_bulk (h _ (getB_mem hi))
  exact ⟨by omega, few_of_bulk (by omega)⟩

set_option maxRecDepth 100000 in
theorem log_tame {es : List Bat} (h : ∀ b ∈ batsOf es, okWs b = true) (hl : es.length ≤ 1048576) : TameB es 1 := by
  have hl2 : (batsOf es).length = es.length := by simp [batsOf]
  refine tame_heft (by have := log_heft h; omega) fun i hi => ?_
  have h1 := okWs_bulk (h _ (getB_mem (i := i) (by omega)))
  rw [batsOf_get es hi] at h1
  omega

set_option maxRecDepth 100000 in
set_option maxHeartbeats 16000000 in
theorem logWalk (s : ByteArray) (w : World) (hs : s.size ≤ maxLen) (hv : LV w) :
    Calls Tryz.prog 3 #[.string s] w fun e w' => e = .returned (.bool true) ∧ Below w.heap.size w w' := by
  have hm : s.size ≤ 9223372036854775807 := hs
  have HV := Lib.hid hv
  clear hs hv
  by_cases hb : s.size ≤ 1048576
  rotate_left
  · have hb' : (1048576 : Int) < (s.size : Int) := by omega
    go_enter Tryz.func3, Tryz.ntmps3
    go_wp2
    go_ret
    exact ⟨rfl, Below.refl _ _⟩
  have hb1 : ¬ (1048576 : Int) < (s.size : Int) := by omega
  go_enter Tryz.func3, Tryz.ntmps3
  go_wp2_with fail
  refine (specLog_any s _ hb).mono ?_
  rintro e w1 ⟨a, cap, es, rfl, hlog, hel, hO, hbl⟩
  have HB1 := Lib.hid hbl
  have HL := Lib.hid hlog
  have HX := Lib.hid (log_few hlog.1)
  have HI1 : Hid (IsBs w1 a (batsOf es)) := hO.isBs (log_few hlog.1)
  have HLB : Hid ((batsOf es).length = es.length) := by simp [batsOf, Hid]
  clear hlog hO hbl
  generalize hbs : batsOf es = bs at *
  generalize hn : es.length = n at *
  clear hbs hn
  obtain ⟨z, hz⟩ : ∃ z, (logT bs).length = z := ⟨_, rfl⟩
  rw [hz]
  have HZ := Lib.hid hz
  clear hz
  go_wp2_with fail
  have hv1 := HV.out.below HB1.out
  refine (implLog_any s _ hb hv1.1 hv1.2.1 hv1.2.2.1 hv1.2.2.2).mono ?_
  clear hv1
  rintro e w2 ⟨a2, cap2, es2, rfl, hlog2, hel2, hO2, hbl⟩
  have HE2 : Hid (batsOf es2 = bs) := log_one hlog2 HL.out
  have hn2 : es2.length = n := by
    have h1 : (batsOf es2).length = es2.length := by simp [batsOf]
    have h2 := HLB.out
    have h3 := HE2.out
    rw [h3] at h1
    omega
  have HTM : Hid (TameB es2 1) := log_tame hlog2.1 (by omega)
  have HS2 := Lib.hid hbl
  have HB2 := Lib.hid (below_step HB1.out HB1.out.size hbl)
  have HO2 := Lib.hid hO2
  rw [HE2.out, HZ.out, hn2]
  have HG2 : Hid (IsBs w2 a2 bs) := by have h := hO2.isBs (by rw [HE2.out]; exact HX.out); rw [HE2.out] at h; exact Lib.hid h
  have HN2 := Lib.hid hn2
  clear hlog2 hO2 hbl hel2 hn2
  go_wp2_with fail
  refine (eqBatchS_same _ _ n _ _ bs _ HLB.out (by omega) HX.out HG2.out (HI1.out.below HS2.out)).mono ?_
  rintro e w3 ⟨rfl, hbl⟩
  have HB3 := Lib.hid (below_step HB2.out HB2.out.size hbl)
  have HS3 := Lib.hid (below_step HS2.out HS2.out.size hbl)
  have HO3 := Lib.hid (HO2.out.below hbl)
  clear hbl HG2 HB2 HS2 HO2
  have HK := Lib.hid (markKB_bd es2 1)
  go_wp2_with fail
  refine (markBatchS_any _ _ n _ _ 1 es2 _ HN2.out (by omega) HTM.out HO3.out).mono ?_
  rintro e w4 ⟨rfl, hmk, ho⟩
  have hbl : Below w1.heap.size w3 w4 := ho.below fun x hx => hx.1
  have HB4 : Hid (Below w.heap.size w w4) := HB3.out.trans (hbl.mono HB1.out.size)
  have HS4 : Hid (Below w1.heap.size w1 w4) := HS3.out.trans hbl
  have HM4 := Lib.hid hmk
  clear hbl ho hmk HB3 HS3 HO3
  go_wp2_with fail
  refine (heldBatchS_any n _ _ 1 es2 _ HN2.out (by omega) HTM.out HM4.out).mono ?_
  rintro e w5 ⟨rfl, hw⟩
  subst w5
  have HC5 : Hid (∀ W, MarkedB W a2 es2 1 → Calls Tryz.prog 8 #[.slice a2 n cap2, .int .i64 1] W fun e w' => e = .returned (.int .i64 (markKB es2 1)) ∧ w' = W) := fun W h => heldBatchS_any n _ _ 1 es2 _ HN2.out (by omega) HTM.out h
  obtain ⟨k, hk⟩ : ∃ k, markKB es2 1 = k := ⟨_, rfl⟩
  rw [hk] at HK HC5 ⊢
  have k0 : 0 ≤ k := by have := HK.out.1; omega
  have k1 : ¬ k < 0 := by omega
  clear hk HK HTM
  go_wp2_with fail
  have hv4 := HV.out.below HB4.out
  refine (implLog_any s _ hb hv4.1 hv4.2.1 hv4.2.2.1 hv4.2.2.2).mono ?_
  clear hv4
  rintro e w6 ⟨a6, cap6, es6, rfl, hlog6, -, hO6, hbl⟩
  have HE6 : Hid (batsOf es6 = bs) := log_one hlog6 HL.out
  have hn6 : es6.length = n := by
    have h1 : (batsOf es6).length = es6.length := by simp [batsOf]
    have h2 := HLB.out
    have h3 := HE6.out
    rw [h3] at h1
    omega
  have HB6 := Lib.hid (below_step HB4.out HB4.out.size hbl)
  have HS6 : Hid (Below w1.heap.size w1 w6) := below_step HS4.out HS4.out.size hbl
  have HM6 := Lib.hid (HM4.out.below hbl)
  rw [HE6.out, HZ.out, hn6]
  have HG6 : Hid (IsBs w6 a6 bs) := by have h := hO6.isBs (by rw [HE6.out]; exact HX.out); rw [HE6.out] at h; exact Lib.hid h
  clear hlog6 hO6 hbl hn6 HB4 HS4 HM4
  go_wp2_with fail
  refine (eqBatchS_same _ _ n _ _ bs _ HLB.out (by omega) HX.out HG6.out (HI1.out.below HS6.out)).mono ?_
  rintro e w7 ⟨rfl, hbl⟩
  have HB7 := Lib.hid (below_step HB6.out HB6.out.size hbl)
  have HM7 := Lib.hid (HM6.out.below hbl)
  clear hbl HG6 HB6 HS6 HM6
  go_wp2_with fail
  refine (HC5.out _ HM7.out).mono ?_
  rintro e w8 ⟨rfl, hw⟩
  subst w8
  go_wp2
  go_ret
  exact ⟨rfl, HB7.out⟩

end Go.Proofs.YtidpcjcnhklmpalGreatDoor
