import Derived.Test.YtfgomgjppcagiaaGreatDoorPack13
import Derived.Test.YtfgomgjppcagiaaGreatDoorPack9
import Derived.Test.YtfgomgjppcagiaaGreatDoorPack6
import Derived.Test.YtfgomgjppcagiaaGreatDoorPack8
/- The contract of spec.LogRead. -/
namespace Go.Proofs.YtfgomgjppcagiaaGreatDoor
open Go.ChangeShapes Go.WideShapes Go.ChangeAt Go.RowKit Go.Joins
attribute [local go_sem ↓] Go.wp_at_zero Go.wp_at_succ

set_option maxRecDepth 100000 in
theorem OwnG.kept {w w' : World} {base b hi : Nat} {ws : List Wr} {γ : Nat → Nat} (h : OwnG w base b ws γ) (hs : w.heap.size ≤ w'.heap.size) (hb : b < hi) (hg : ∀ i, i < ws.length → 0 < (ws.getD i wz).xs.length → γ i < hi) (hk : ∀ x, base ≤ x → x < hi → x < w.heap.size → w'.heap[x]? = w.heap[x]?) : OwnG w' base b ws γ where
  lt := Nat.lt_of_lt_of_le h.lt hs
  le := h.le
  open_ := fun o => (frozen_of_block (hk b h.le hb h.lt)).trans (h.open_ o)
  at_ := fun i hi => by
    obtain ⟨a, cap, h1, h2⟩ := h.at_ i hi
    exact ⟨a, cap, h1.of_block (hk b h.le hb h.lt), h2⟩
  deps := fun i hi hp => by
    obtain ⟨h1, h2, h3, h4, h5⟩ := h.deps i hi hp
    have hb := hk (γ i) h1 (hg i hi hp) h2
    have e' : ∀ o, w'.cell? ⟨γ i, o, none⟩ = w.cell? ⟨γ i, o, none⟩ := fun o => World.cell?_of_block (a := ⟨γ i, o, none⟩) hb
    exact ⟨h1, Nat.lt_of_lt_of_le h2 hs, h3, fun j hj => ⟨(e' _).trans (h4 j hj).1, (e' _).trans (h4 j hj).2.1, (e' _).trans (h4 j hj).2.2.1, (e' _).trans (h4 j hj).2.2.2⟩, fun o => (frozen_of_block hb).trans (h5 o)⟩
  inj := h.inj

set_option maxRecDepth 100000 in
theorem OwnA.kept {w w' : World} {lo hi : Nat} {a : Option Addr} {ws : List Wr} {γ : Nat → Nat} (h : OwnA w lo hi a ws γ) (hs : w.heap.size ≤ w'.heap.size) (hk : ∀ x, lo ≤ x → x < hi → x < w.heap.size → w'.heap[x]? = w.heap[x]?) : OwnA w' lo hi a ws γ := by
  rcases h with h | ⟨b, h1, h2, h3, h4⟩
  · exact .inl h
  · exact .inr ⟨b, h1, h2.kept hs h3 h4 hk, h3, h4⟩

/-- A row of batches of one's own that grows. -/
structure RowB (w : World) (base : Nat) (v : Value) (es : List Bat) : Prop where
  own : w.ownsRow base 89 1 v es.length (es.map batV)
  laid : ∀ i, i < es.length → base ≤ (es.getD i btz).lo ∧ (es.getD i btz).hi ≤ w.heap.size ∧ OwnA w (es.getD i btz).lo (es.getD i btz).hi (es.getD i btz).a (es.getD i btz).ws (es.getD i btz).γ
  order : ∀ i j, i < j → j < es.length → (es.getD i btz).hi ≤ (es.getD j btz).lo
  apart : ∀ b, v.ownBlock = some b → ∀ i, i < es.length → b < (es.getD i btz).lo ∨ (es.getD i btz).hi ≤ b

set_option maxRecDepth 100000 in
theorem RowB.below {w w' : World} {base : Nat} {v : Value} {es : List Bat} (h : RowB w base v es) (hb : Below w.heap.size w w') : RowB w' base v es where
  own := h.own.kept (row := none) ⟨hb.os, hb.tape, hb.output, hb.size, fun k hk _ => hb.block k hk⟩ (by
    cases e : v.ownBlock
    · exact .inl rfl
    · exact .inr (by simp))
  laid := fun i hi => ⟨(h.laid i hi).1, Nat.le_trans (h.laid i hi).2.1 hb.size, (h.laid i hi).2.2.below hb⟩
  order := h.order
  apart := h.apart

set_option maxRecDepth 100000 in
theorem RowB.more {w w5 : World} {base g5 cap5 : Nat} {v : Value} {es : List Bat} {x : Bat} (h : RowB w base v es) (hx : OwnA w x.lo x.hi x.a x.ws x.γ) (h1 : base ≤ x.lo) (h2 : x.hi ≤ w.heap.size) (hord : ∀ i, i < es.length → (es.getD i btz).hi ≤ x.lo) (hv : ∀ b, v.ownBlock = some b → b < x.lo ∨ x.hi ≤ b)
    (hown : w5.ownsRow base 89 1 (.slice (some ⟨g5, 0, none⟩) (es.length + 1) cap5) (es.length + 1) (es.map batV ++ [batV x])) (hgrow : w.grownBy w5 v.ownBlock) (hg : v.ownBlock = some g5 ∨ g5 = w.heap.size) : RowB w5 base (.slice (some ⟨g5, 0, none⟩) (es.length + 1) cap5) (es ++ [x]) where
  own := by
    rw [List.length_append, List.map_append]
    exact hown
  laid := by
    have k : ∀ d : Bat, OwnA w d.lo d.hi d.a d.ws d.γ → (∀ b, v.ownBlock = some b → b < d.lo ∨ d.hi ≤ b) → OwnA w5 d.lo d.hi d.a d.ws d.γ := fun d hd hn => hd.kept hgrow.size fun y y1 y2 y3 => hgrow.block y y3 fun e => by
      have := hn y e.symm
      omega
    intro i hi
    by_cases hl : i < es.length
    · rw [get_old es x hl]
      obtain ⟨q1, q2, q3⟩ := h.laid i hl
      exact ⟨q1, Nat.le_trans q2 hgrow.size, k _ q3 fun b hb => h.apart b hb i hl⟩
    · have hi' : i = es.length := by simp at hi; omega
      rw [hi', get_new]
      exact ⟨h1, Nat.le_trans h2 hgrow.size, k _ hx hv⟩
  order := by
    intro i j hij hj
    by_cases hl : j < es.length
    · rw [get_old es x hl, get_old es x (by omega)]
      exact h.order i j hij hl
    · have hj' : j = es.length := by simp at hj; omega
      rw [hj', get_new, get_old es x (by omega)]
      exact hord i (by omega)
  apart := by
    intro b hb i hi
    have e5 : g5 = b := by
      simp only [Value.ownBlock, Option.some.injEq] at hb
      exact hb
    subst e5
    by_cases hl : i < es.length
    · rw [get_old es x hl]
      rcases hg with hg | hg
      · exact h.apart _ hg i hl
      · have := (h.laid i hl).2.1
        omega
    · have hi' : i = es.length := by simp at hi; omega
      rw [hi', get_new]
      rcases hg with hg | hg
      · exact hv _ hg
      · omega

set_option maxRecDepth 100000 in
theorem RowB.ownB {w : World} {base n cap : Nat} {a : Option Addr} {es : List Bat} (h : RowB w base (.slice a n cap) es) : n = es.length ∧ OwnB w base w.heap.size a es := by
  rcases h.own.2 with ⟨h1, h2⟩ | ⟨g, cap', cur, h1, h2, h3, _⟩
  · simp only [Value.slice.injEq] at h1
    exact ⟨by omega, .inl (List.length_eq_zero_iff.1 h2)⟩
  · simp only [Value.slice.injEq] at h1
    obtain ⟨rfl, rfl, rfl⟩ := h1
    have hlt : g < w.heap.size := (h.own.lt g rfl).2
    refine ⟨rfl, .inr ⟨g, rfl, h2, hlt, hlt, fun i hi => ?_, fun i hi => ?_, h.order⟩⟩
    · rw [h.own.cellAt i (by omega)]
      simp [List.getD, hi]
    · obtain ⟨q1, q2, q3⟩ := h.laid i hi
      exact ⟨q1, q2, h.apart g rfl i hi, q3⟩

set_option maxRecDepth 100000 in
theorem prefix_drop {a b s : List UInt8} (h : a ++ b <+: s) : b <+: s.drop a.length := by
  obtain ⟨t, rfl⟩ := h
  exact ⟨t, by simp⟩

set_option maxRecDepth 100000 in
theorem prefix_join {a b s : List UInt8} (h : a <+: s) (h' : b <+: s.drop a.length) : a ++ b <+: s := by
  obtain ⟨t, rfl⟩ := h
  rw [List.drop_left] at h'
  exact (List.prefix_append_right_inj a).2 h'

set_option maxRecDepth 100000 in
theorem logT_snoc (bs : List (List Wr)) (b : List Wr) : logT (bs ++ [b]) = logT bs ++ batchT b := by simp [logT]

set_option maxRecDepth 100000 in
set_option maxHeartbeats 8000000 in
theorem specLog_any (s : ByteArray) (w : World) (hs : s.size ≤ 1048576) :
    Calls Tryz.prog 117 #[.string s] w fun e w' => ∃ a cap es, e = .returned (.tuple #[.slice a (List.length es) cap, .int .i64 (((logT (batsOf es)).length : Nat) : Int)]) ∧ IsLog s.data.toList (batsOf es) ∧ es.length ≤ s.size ∧ OwnB w' w.heap.size w'.heap.size a es ∧ Below w.heap.size w w' := by
  obtain ⟨i0, hi0, hx0⟩ := Option.map_eq_some_iff.1 infoBatch
  simp only [Prod.mk.injEq] at hx0
  have HI0 := Lib.hid hi0
  have HX0 := Lib.hid hx0
  clear hi0 hx0
  have hdl : s.data.toList.length = s.size := by simp
  have HDL := Lib.hid hdl
  clear hdl
  have HR0 : Hid (RowB (w.alloc (.cells #[] 89)) w.heap.size (.slice (some ⟨w.heap.size, 0, none⟩) 0 0) []) := ⟨World.ownsRow_made w #[] 0 (Nat.le_refl _) (by simp [maxLen]) (by simp), fun i hi => by simp at hi, fun i j _ hj => by simp at hj, fun b _ i hi => by simp at hi⟩
  have HB0 : Hid (Below w.heap.size w (w.alloc (.cells #[] 89))) := (Below.refl _ _).alloc (Nat.le_refl _) _
  go_enter Tryz.func117, Tryz.ntmps117
  go_wp2
  generalize w.alloc (.cells #[] 89) = W0 at *
  go_loopw [4, 5] (fun o at' wr => ∃ (p : Nat) (a : Option Addr) (n cap : Nat) (es : List Bat), p ≤ s.size ∧ at' = .int .i64 p ∧ o = .slice a n cap ∧ es.length = n ∧ n ≤ p ∧ Hid (∀ b ∈ batsOf es, okWs b = true) ∧ Hid ((logT (batsOf es)).length = p) ∧ Hid (logT (batsOf es) <+: s.data.toList) ∧ Hid (RowB wr w.heap.size (.slice a n cap) es) ∧ Hid (Below w.heap.size w wr)) (fun _ at' _ => s.size - (intOf at').toNat)
  case atStart => exact ⟨0, _, 0, _, [], Nat.zero_le _, rfl, rfl, rfl, Nat.le_refl _, fun b hb => by simp [batsOf] at hb, rfl, List.nil_prefix, HR0, HB0⟩
  case round =>
    clear HR0 HB0
    obtain ⟨p, a, n, cap, es, hp, rfl, rfl, hel, hnp, HOK, HLN, HPR, HR, HB⟩ := hrel
    go_wp2_with fail
    refine (batch_any s p _ hs hp).mono ?_
    rintro e w2 ⟨hb, hans⟩
    have HB2 := Lib.hid (below_step HB.out HB.out.size hb)
    have HR2 := Lib.hid (HR.out.below hb)
    have hs2 : wr.heap.size ≤ w2.heap.size := hb.size
    have hs1 : w.heap.size ≤ wr.heap.size := HB.out.size
    clear hb HB
    rcases hans with ⟨ya, ycp, ys, rfl, hv, hrow⟩ | ⟨hno, rfl⟩
    rotate_left
    · have HIS : Hid (IsLog s.data.toList (batsOf es)) := ⟨HOK.out, HPR.out, fun b hb h => hno b ⟨hb, by
        have := prefix_drop h
        rw [HLN.out] at this
        exact this⟩⟩
      clear hno
      have HBA : Hid (Below w2.heap.size w2 (w2.alloc (.cells #[.slice none 0 0] 89))) := (Below.refl _ _).alloc (Nat.le_refl _) _
      have HB3 := Lib.hid (below_step HB2.out HB2.out.size HBA.out)
      have HR3 := Lib.hid (HR2.out.below HBA.out)
      go_wp2
      refine bodyPost_ret (v := .tuple #[.slice a n cap, .int .i64 (p : Int)]) (by simp [results, Tryz.results117, go_sem]) rfl ?_
      refine ⟨a, cap, es, by rw [hel, HLN.out], HIS.out, by omega, HR3.out.ownB.2, HB3.out⟩
    have hpos := batch_pos hv.1
    have hle : p + (batchT (ys.map (·.x))).length ≤ s.size := by
      have h := hv.2.length_le
      rw [List.length_drop, HDL.out] at h
      omega
    have HPR2 : Hid (logT (batsOf es) ++ batchT (ys.map (·.x)) <+: s.data.toList) := prefix_join HPR.out (by rw [HLN.out]; exact hv.2)
    have HOKX := Lib.hid hv.1
    obtain ⟨a', cap', n', e', hn', hO⟩ := hrow.ownA rfl
    obtain ⟨rfl, rfl, rfl⟩ : ya = a' ∧ ys.length = n' ∧ ycp = cap' := by
      simpa only [Value.slice.injEq] using e'
    have HO := Lib.hid hO
    have HYL : Hid ((ys.map (·.x)).length = ys.length) := hn'
    clear hv hrow e' hn' hO
    generalize gammaG ys = γ at *
    generalize ys.map (·.x) = ws at *
    generalize ys.length = m at *
    obtain ⟨z, hz⟩ : ∃ z, (batchT ws).length = z := ⟨_, rfl⟩
    rw [hz] at hpos hle ⊢
    have HZ := Lib.hid hz
    clear hz
    have HBA : Hid (Below w2.heap.size w2 (w2.alloc (.cells #[.slice ya m ycp] 89))) := (Below.refl _ _).alloc (Nat.le_refl _) _
    have HB3 := Lib.hid (below_step HB2.out HB2.out.size HBA.out)
    have HR3 := Lib.hid (HR2.out.below HBA.out)
    have HO3 := Lib.hid (HO.out.below HBA.out)
    have hs3 : w2.heap.size + 1 = (w2.alloc (.cells #[.slice ya m ycp] 89)).heap.size := by simp
    have HBC : Hid (Below (w2.heap.size + 1) (w2.alloc (.cells #[.slice ya m ycp] 89)) ((w2.alloc (.cells #[.slice ya m ycp] 89)).alloc (.cells #[.slice ya m ycp] 89))) := (Below.refl _ _).alloc (by simp) _
    have HRC := Lib.hid (HR3.out.below (hs3 ▸ HBC.out))
    have HOC := Lib.hid (HO3.out.below (hs3 ▸ HBC.out))
    have HBD := Lib.hid (below_step HB3.out HB3.out.size (hs3 ▸ HBC.out))
    have HCE : Hid (∀ j u, [Value.slice ya m ycp][j]? = some u → ((w2.alloc (.cells #[.slice ya m ycp] 89)).alloc (.cells #[.slice ya m ycp] 89)).cell? ((⟨w2.heap.size + 1, 0, none⟩ : Addr).add j) = some u) := by
      refine Lib.hid fun j u hu => ?_
      match j, hu with
      | 0, hu =>
        obtain rfl : Value.slice ya m ycp = u := by simpa using hu
        simp [go_sem]
    have HOW : Hid (((w2.alloc (.cells #[.slice ya m ycp] 89)).alloc (.cells #[.slice ya m ycp] 89)).ownsRow w.heap.size 89 1 (.slice a n cap) n (es.map batV)) := by
      have h := HRC.out.own
      rw [hel] at h
      exact Lib.hid h
    clear hs3 HBC HR3 HO3 HB3 HBA
    go_wp2_with (at_builtin; refine wpList_append_lies _ (by rfl) _ _ _ (by rfl) w.heap.size 89 i0 (.agg #[.slice none 0 0]) 1 24 Tryz.underlying83 HI0.out HX0.out.1 HX0.out.2.1 HX0.out.2.2 (by rfl) (by omega) (.slice a n cap) n (es.map batV) (by rfl) HOW.out ⟨w2.heap.size + 1, 0, none⟩ 1 1 [.slice ya m ycp] (by rfl) (by rfl) (by simpa using HCE.out) (by simp [Value.oneCell']) (by omega) (by unfold maxLen; omega) (by omega) (by simp; omega) _ rfl ?_; intro g3 cp3 w5 hown hgrow hg3 _; refine Hid.out ?_)
    refine Lib.hid ?_
    have HB5 : Hid (Below w.heap.size w w5) := HBD.out.grown hgrow HBD.out.size fun j hj => (HR2.out.own.lt j hj).1
    have hbv : batV ⟨ws, ya, ycp, wr.heap.size, w2.heap.size, γ⟩ = .slice ya m ycp := by
      unfold batV
      rw [HYL.out]
    have HR5 : Hid (RowB w5 w.heap.size (.slice (some ⟨g3, 0, none⟩) (n + 1) cp3) (es ++ [⟨ws, ya, ycp, wr.heap.size, w2.heap.size, γ⟩])) := by
      subst hel
      refine Lib.hid (HRC.out.more HOC.out hs1 (by simp; omega) (fun i hi => (HR.out.laid i hi).2.1) (fun b hb => .inl (HR.out.own.lt b hb).2) ?_ hgrow hg3)
      rw [hbv]
      exact hown
    have HOK5 : Hid (∀ b ∈ batsOf (es ++ [(⟨ws, ya, ycp, wr.heap.size, w2.heap.size, γ⟩ : Bat)]), okWs b = true) := fun b hb => by
      unfold batsOf at hb
      rw [List.map_append] at hb
      rcases List.mem_append.1 hb with hb | hb
      · exact HOK.out b hb
      · obtain rfl : b = ws := by simpa using hb
        exact HOKX.out
    have HLE : Hid (logT (batsOf (es ++ [(⟨ws, ya, ycp, wr.heap.size, w2.heap.size, γ⟩ : Bat)])) = logT (batsOf es) ++ batchT ws) := by
      show _ = _
      unfold batsOf
      rw [List.map_append]
      exact logT_snoc _ _
    have HLN5 : Hid ((logT (batsOf (es ++ [(⟨ws, ya, ycp, wr.heap.size, w2.heap.size, γ⟩ : Bat)]))).length = p + z) := by
      show _ = _
      rw [HLE.out, List.length_append, HLN.out, HZ.out]
    have HPR5 : Hid (logT (batsOf (es ++ [(⟨ws, ya, ycp, wr.heap.size, w2.heap.size, γ⟩ : Bat)])) <+: s.data.toList) := by
      rw [HLE.out]
      exact HPR2
    clear hown hgrow HRC HOW HCE HOC
    go_wp2
    exact ⟨⟨p + z, _, n + 1, _, _, by omega, by go_num, rfl, by simp [hel], by omega, HOK5, HLN5, HPR5, HR5, HB5⟩, by simp [intOf]; omega⟩

end Go.Proofs.YtfgomgjppcagiaaGreatDoor

/- What comes of replaying batches: plain facts; the contract of spec.Replay. -/
namespace Go.Proofs.YtfgomgjppcagiaaGreatDoor
open Go.ChangeShapes Go.WideShapes Go.ChangeAt Go.RowKit Go.Joins
attribute [local go_sem ↓] Go.wp_at_zero Go.wp_at_succ

/-- A write is put if it is WriteOk. -/
def repPut (m : List Wr) (x : Wr) : List Wr := if okW x = true then putW m x else m

def repRun (m : List Wr) (ws : List Wr) : List Wr := ws.foldl repPut m

def replayW (bs : List (List Wr)) : List Wr := bs.foldl repRun []

set_option maxRecDepth 100000 in
theorem one_ok {x : Wr} (h : okW x = true) : mapOkB [x] = true := (mapOk_iff _).2 ⟨fun y hy => by
  have : y = x := by simpa using hy
  rw [this]
  exact h, by simp [Rise]⟩

set_option maxRecDepth 100000 in
theorem repPut_ok {m : List Wr} (h : mapOkB m = true) (x : Wr) : mapOkB (repPut m x) = true := by
  unfold repPut
  split
  · rename_i hx
    have e : joinB m [x] = putW m x := by
      unfold joinB
      rw [if_pos ⟨h, one_ok hx⟩]
      rfl
    rw [← e]
    exact joinB_mapOk _ _
  · exact h

set_option maxRecDepth 100000 in
theorem repRun_ok : ∀ (ws m : List Wr), mapOkB m = true → mapOkB (repRun m ws) = true
  | [], _, h => h
  | x :: r, m, h => repRun_ok r (repPut m x) (repPut_ok h x)

set_option maxRecDepth 100000 in
theorem replay_fold : ∀ (bs : List (List Wr)) (m : List Wr), mapOkB m = true → mapOkB (bs.foldl repRun m) = true
  | [], _, h => h
  | b :: r, m, h => replay_fold r (repRun m b) (repRun_ok b m h)

set_option maxRecDepth 100000 in
theorem replay_ok (bs : List (List Wr)) : mapOkB (replayW bs) = true := replay_fold bs [] rfl

set_option maxRecDepth 100000 in
theorem repRun_take (ws m : List Wr) (k : Nat) (h : k < ws.length) : repRun m (ws.take (k + 1)) = repPut (repRun m (ws.take k)) (ws.getD k wz) := foldl_take repPut ws m k h

set_option maxRecDepth 100000 in
theorem replay_take (bs : List (List Wr)) (k : Nat) (h : k < bs.length) : replayW (bs.take (k + 1)) = repRun (replayW (bs.take k)) (bs.getD k []) := by
  unfold replayW
  have e : bs.take (k + 1) = bs.take k ++ [bs.getD k []] := by
    rw [List.take_add_one, List.getElem?_eq_getElem h]
    simp [List.getD, h]
  rw [e, List.foldl_append]
  rfl

set_option maxRecDepth 100000 in
theorem ok_few {m : List Wr} (h : mapOkB m = true) : Few m := few_of_bulk (by have := mapOk_bulk h; omega)

set_option maxRecDepth 100000 in
set_option maxHeartbeats 4000000 in
theorem specReplay_any (a : Option Addr) (n cap : Nat) (bs : List (List Wr)) (w : World) (hn : bs.length = n) (hm : n ≤ 1048576) (hx : FewB bs) (h : IsBs w a bs) :
    Calls Tryz.prog 118 #[.slice a n cap] w fun e w' => AnsS w w' e (replayW bs) := by
  have H := Lib.hid h
  have HN := Lib.hid hn
  have HX := Lib.hid hx
  clear h hn hx
  have HR0 : Hid (RowEs (w.alloc (.cells #[] 33)) w.heap.size w.heap.size 0 []) := rowEs_start _ _ (Nat.le_refl _)
  have HB0 : Hid (Below w.heap.size w (w.alloc (.cells #[] 33))) := (Below.refl _ _).alloc (Nat.le_refl _) _
  go_enter Tryz.func118, Tryz.ntmps118
  go_wp2
  go_loopw [3, 4] (fun t i wr => ∃ (k L g cp : Nat) (es : List En), k ≤ n ∧ L ≤ 6 ∧ i = .int .i64 k ∧ t = .slice (some ⟨g, 0, none⟩) L cp ∧ Hid (es.length = L) ∧ Hid (es.map (·.x) = replayW (bs.take k)) ∧ Hid (RowEs wr w.heap.size g cp es) ∧ Hid (Below w.heap.size w wr)) (fun _ i _ => n - (intOf i).toNat)
  case atStart => exact ⟨0, 0, w.heap.size, 0, [], Nat.zero_le _, by omega, rfl, rfl, rfl, rfl, HR0, HB0⟩
  case round =>
    clear HR0 HB0
    obtain ⟨k, L, g, cp, es, hk, hL, rfl, rfl, HL, HE, HR, HB⟩ := hrel
    obtain ⟨W1, rfl⟩ : ∃ W1, W1 = wr := ⟨wr, rfl⟩
    by_cases hk' : k < n
    · have hkk : k < bs.length := by rw [HN.out]; exact hk'
      have i1 : (0 : Int) ≤ (k : Int) := by omega
      have i2 : (k : Int) < (n : Int) := by omega
      obtain ⟨b, o, ad, cpd, rfl, hz, e0, hw⟩ := H.out.at HB.out hkk
      obtain ⟨hl, hf⟩ := HX.out k hkk
      have HT := Lib.hid (replay_take bs k hkk)
      have HOK := Lib.hid (replay_ok (bs.take k))
      have HW := Lib.hid hw
      have HF := Lib.hid hf
      clear hw hf
      generalize bs.getD k [] = ws at *
      generalize replayW (bs.take k) = m at *
      obtain ⟨q, hq⟩ : ∃ q, ws.length = q := ⟨_, rfl⟩
      rw [hq] at e0 hl
      have HQ := Lib.hid hq
      clear hq
      go_wp2
      go_loopw [3, 5] (fun t i wq => ∃ (j L g cp : Nat) (es : List En), j ≤ q ∧ L ≤ 6 ∧ i = .int .i64 j ∧ t = .slice (some ⟨g, 0, none⟩) L cp ∧ Hid (es.length = L) ∧ Hid (es.map (·.x) = repRun m (ws.take j)) ∧ Hid (RowEs wq w.heap.size g cp es) ∧ Hid (Below W1.heap.size W1 wq) ∧ Hid (Below w.heap.size w wq)) (fun _ i _ => q - (intOf i).toNat)
      case atStart => exact ⟨0, L, g, cp, es, Nat.zero_le _, hL, rfl, rfl, HL, HE, HR, Below.refl _ _, HB⟩
      case round =>
        clear HL HE HR HB hL
        obtain ⟨j, L, g, cp, es, hj, hL, rfl, rfl, HL, HE, HR, HBR, HB⟩ := hrel
        have e1 := (HBR.out.cell (p := ⟨b, o + k, none⟩) hz).trans e0
        by_cases hj' : j < q
        · have hjj : j < ws.length := by rw [HQ.out]; exact hj'
          have j1 : (0 : Int) ≤ (j : Int) := by omega
          have j2 : (j : Int) < (q : Int) := by omega
          obtain ⟨b2, o2, ad2, cp2, rfl, hz2, ⟨c0, c1, c2, c3, c4, c5, c6⟩, hd⟩ := HW.out.at HBR.out HQ.out hj'
          have hxl := HF.out j hjj
          have HD := Lib.hid hd
          have HS := Lib.hid (repRun_take ws m j hjj)
          have HO := Lib.hid (repRun_ok (ws.take j) m HOK.out)
          have HH : Hid (HoldsWs wr g (repRun m (ws.take j)) (gamma es)) := HR.out.holds HE.out
          have HLL : Hid ((repRun m (ws.take j)).length = L) := by
            rw [← HE.out, List.length_map]
            exact HL
          clear hd
          generalize ws.getD j wz = x at *
          obtain ⟨xk, xc, xs', xq, xv, xd, xx⟩ := x
          simp only at c0 c1 c2 c3 c4 c5 c6 hxl HD
          generalize repRun m (ws.take j) = ms at *
          cases hok : okW ⟨xk, xc, xs', xq, xv, xd, xx⟩
          · have HE2 : Hid (es.map (·.x) = repRun m (ws.take (j + 1))) := by
              show _ = _
              rw [HS.out]
              unfold repPut
              rw [if_neg (by rw [hok]; simp)]
              exact HE.out
            go_wp2_with fail
            refine (specWriteOk_is ⟨xk, xc, xs', xq, xv, xd, xx⟩ false hok ad2 cp2 _ hxl HD.out).mono ?_
            rintro e w2 ⟨rfl, hb⟩
            have HR2 := Lib.hid (HR.out.below hb)
            have HBR2 := Lib.hid (below_step HBR.out HBR.out.size hb)
            have HB2 := Lib.hid (below_step HB.out HB.out.size hb)
            clear hb
            go_wp2
            exact ⟨⟨j + 1, L, g, cp, es, by omega, hL, by go_num, rfl, HL, HE2, HR2, HBR2, HB2⟩, by simp [intOf]; omega⟩
          · have HS2 : Hid (repRun m (ws.take (j + 1)) = putW ms ⟨xk, xc, xs', xq, xv, xd, xx⟩) := by
              show _ = _
              rw [HS.out]
              unfold repPut
              rw [if_pos hok]
            have HO2 : Hid (mapOkB (putW ms ⟨xk, xc, xs', xq, xv, xd, xx⟩) = true) := by
              have := repPut_ok HO.out ⟨xk, xc, xs', xq, xv, xd, xx⟩
              unfold repPut at this
              rw [if_pos hok] at this
              exact this
            go_wp2_with fail
            refine (specWriteOk_is ⟨xk, xc, xs', xq, xv, xd, xx⟩ true hok ad2 cp2 _ hxl HD.out).mono ?_
            rintro e w2 ⟨rfl, hb⟩
            have HR2 := Lib.hid (HR.out.below hb)
            have HBR2 := Lib.hid (below_step HBR.out HBR.out.size hb)
            have HB2 := Lib.hid (below_step HB.out HB.out.size hb)
            have HD2 := Lib.hid (HD.out.below hb)
            have e2 := (hb.cell (p := ⟨b, o + k, none⟩) (Nat.lt_of_lt_of_le hz HBR.out.size)).trans e1
            have d0 := (hb.cell (p := ⟨b2, o2 + j * 7, none⟩) hz2).trans c0
            have d1 := (hb.cell (p := ⟨b2, o2 + j * 7 + 1, none⟩) hz2).trans c1
            have d2 := (hb.cell (p := ⟨b2, o2 + j * 7 + 2, none⟩) hz2).trans c2
            have d3 := (hb.cell (p := ⟨b2, o2 + j * 7 + 3, none⟩) hz2).trans c3
            have d4 := (hb.cell (p := ⟨b2, o2 + j * 7 + 4, none⟩) hz2).trans c4
            have d5 := (hb.cell (p := ⟨b2, o2 + j * 7 + 5, none⟩) hz2).trans c5
            have d6 := (hb.cell (p := ⟨b2, o2 + j * 7 + 6, none⟩) hz2).trans c6
            have HH2 := Lib.hid ((HR2.out.holds HE.out).isWs (ok_few HO.out))
            clear hb hok c0 c1 c2 c3 c4 c5 c6 e1 HR HBR HB HD HH
            go_wp2_with fail
            refine (put_gen _ L cp ms ⟨xk, xc, xs', xq, xv, xd, xx⟩ ad2 cp2 _ HLL.out (by omega) (ok_few HO.out) HH2.out hxl HD2.out).mono ?_
            rintro e w3 ⟨g3, cp3, es3, L3, rfl, hl3, he3, hr3, hb3⟩
            have hL3 : L3 ≤ 6 := by
              have h1 := mapOk_len HO2.out
              rw [← he3, List.length_map, hl3] at h1
              exact h1
            have HL3 := Lib.hid hl3
            have HE3 : Hid (es3.map (·.x) = repRun m (ws.take (j + 1))) := he3.trans HS2.out.symm
            have HR3 := Lib.hid (hr3.mono (Nat.le_trans HB2.out.size (Nat.le_succ _)))
            have HBR3 := Lib.hid (below_step HBR2.out HBR2.out.size hb3)
            have HB3 := Lib.hid (below_step HB2.out HB2.out.size hb3)
            clear hl3 he3 hr3 hb3
            go_wp2
            exact ⟨⟨j + 1, L3, g3, cp3, es3, by omega, hL3, by go_num, rfl, HL3, HE3, HR3, HBR3, HB3⟩, by simp [intOf]; omega⟩
        · have hjj : j = q := by omega
          subst hjj
          have HE2 : Hid (es.map (·.x) = replayW (bs.take (k + 1))) := by
            have h := HE.out
            rw [List.take_of_length_le (by rw [HQ.out]; exact Nat.le_refl _)] at h
            exact h.trans HT.out.symm
          go_wp2
          exact ⟨⟨k + 1, L, g, cp, es, by omega, hL, by go_num, rfl, HL, HE2, HR, HB⟩, by simp [intOf]; omega⟩
    · have hkk : k = n := by omega
      subst hkk
      have HF : Hid (es.map (·.x) = replayW bs) := by
        have h := HE.out
        rw [List.take_of_length_le (by rw [HN.out]; exact Nat.le_refl _)] at h
        exact h
      go_wp2
      go_ret
      exact ⟨g, cp, es, L, rfl, HL.out, HF.out, HR.out, HB.out⟩

end Go.Proofs.YtfgomgjppcagiaaGreatDoor

/- The contract of impl.Replay. -/
namespace Go.Proofs.YtfgomgjppcagiaaGreatDoor
open Go.ChangeShapes Go.WideShapes Go.ChangeAt Go.RowKit Go.Joins
attribute [local go_sem ↓] Go.wp_at_zero Go.wp_at_succ

/-- A write is put to the registers if it is WriteOk. -/
def regRep (M : Int → Option Wr) (x : Wr) : Int → Option Wr := if okW x = true then regPut M x else M

def regRun (M : Int → Option Wr) (ws : List Wr) : Int → Option Wr := ws.foldl regRep M

def regAll (bs : List (List Wr)) : Int → Option Wr := bs.foldl regRun (fun _ => none)

set_option maxRecDepth 100000 in
theorem ok_rise {m : List Wr} (h : mapOkB m = true) : Rise m := ((mapOk_iff m).1 h).2

set_option maxRecDepth 100000 in
theorem regRep_find {m : List Wr} (h : mapOkB m = true) (x : Wr) : regRep (findW m) x = findW (repPut m x) := by
  unfold regRep repPut
  split
  · funext key
    rw [find_putW (ok_rise h)]
    unfold regPut
    rfl
  · rfl

set_option maxRecDepth 100000 in
theorem regRun_find : ∀ (ws m : List Wr), mapOkB m = true → regRun (findW m) ws = findW (repRun m ws)
  | [], _, _ => rfl
  | x :: r, m, h => by
    show regRun (regRep (findW m) x) r = findW (repRun (repPut m x) r)
    rw [regRep_find h]
    exact regRun_find r _ (repPut_ok h x)

set_option maxRecDepth 100000 in
theorem regAll_fold : ∀ (bs : List (List Wr)) (m : List Wr), mapOkB m = true → bs.foldl regRun (findW m) = findW (bs.foldl repRun m)
  | [], _, _ => rfl
  | b :: r, m, h => by
    show r.foldl regRun (regRun (findW m) b) = findW (r.foldl repRun (repRun m b))
    rw [regRun_find b m h]
    exact regAll_fold r _ (repRun_ok b m h)

set_option maxRecDepth 100000 in
theorem regAll_find (bs : List (List Wr)) : regAll bs = findW (replayW bs) := regAll_fold bs [] rfl

set_option maxRecDepth 100000 in
/-- What the registers tell in the end is the map that comes of it. -/
theorem told_replay (bs : List (List Wr)) : toldM (regAll bs) = replayW bs := by
  rw [regAll_find]
  exact told_find (ok_rise (replay_ok bs)) (mapOk_keys (replay_ok bs))

set_option maxRecDepth 100000 in
theorem regRun_take (ws : List Wr) (M : Int → Option Wr) (k : Nat) (h : k < ws.length) : regRun M (ws.take (k + 1)) = regRep (regRun M (ws.take k)) (ws.getD k wz) := foldl_take regRep ws M k h

set_option maxRecDepth 100000 in
theorem regAll_take (bs : List (List Wr)) (k : Nat) (h : k < bs.length) : regAll (bs.take (k + 1)) = regRun (regAll (bs.take k)) (bs.getD k []) := by
  unfold regAll
  have e : bs.take (k + 1) = bs.take k ++ [bs.getD k []] := by
    rw [List.take_add_one, List.getElem?_eq_getElem h]
    simp [List.getD, h]
  rw [e, List.foldl_append]
  rfl

set_option maxRecDepth 100000 in
theorem IsBs.base {w w' : World} {a : Option Addr} {bs : List (List Wr)} (h : IsBs w a bs) (hb : Below w.heap.size w w') {k : Nat} (hk : k < bs.length) : ∃ b o a' cap, a = some ⟨b, o, none⟩ ∧ b < w'.heap.size ∧ w'.cell? ⟨b, o + k, none⟩ = some (.slice a' (bs.getD k []).length cap) ∧ IsWs w a' (bs.getD k []) := by
  rcases h with h | ⟨b, o, ha, hlt, hh⟩
  · subst h
    simp at hk
  · obtain ⟨a', cap, hc, hw⟩ := hh k hk
    exact ⟨b, o, a', cap, ha, Nat.lt_of_lt_of_le hlt hb.size, (hb.cell (p := ⟨b, o + k, none⟩) hlt).trans hc, hw⟩

set_option maxRecDepth 100000 in
theorem implWriteOk_is (x : Wr) (r : Bool) (h : okW x = r) (ad : Option Addr) (cp : Nat) (w : World) (hl : x.xs.length ≤ 1048576) (hd : IsDeps w ad x.xs) :
    Calls Tryz.prog 42 #[wrOf x ad cp] w fun e w' => e = .returned (.bool r) ∧ Below w.heap.size w w' := by
  subst h
  exact implWriteOk_gen x.k x.c x.s x.q x.v x.de ad x.xs _ cp w rfl hl hd

set_option maxRecDepth 100000 in
set_option maxHeartbeats 8000000 in
theorem implReplay_any (a : Option Addr) (n cap : Nat) (bs : List (List Wr)) (w : World) (hn : bs.length = n) (hm : n ≤ 1048576) (hx : FewB bs) (h : IsBs w a bs) :
    Calls Tryz.prog 63 #[.slice a n cap] w fun e w' => ∃ v es, e = .returned v ∧ es.map (·.x) = replayW bs ∧ RowG w' w.heap.size v es ∧ Below w.heap.size w w' := by
  have H := Lib.hid h
  have HN := Lib.hid hn
  have HX := Lib.hid hx
  clear h hn hx
  have HR0 : Hid (RegsW w (w.alloc (.map #[] 0)) w.heap.size 0 (fun _ => none)) := ⟨_, regs_made w, fun k => ⟨fun _ => rfl, fun x h => by cases h⟩⟩
  have HB0 : Hid (Below w.heap.size w (w.alloc (.map #[] 0))) := (Below.refl _ _).alloc (Nat.le_refl _) _
  have hmm := @run_makeMap Tryz.prog
  go_enter Tryz.func63, Tryz.ntmps63
  go_wp2
  clear hmm
  go_loopw [11] (fun i wr => ∃ (k m : Nat), k ≤ n ∧ i = .int .i64 k ∧ m ≤ 1048576 * k ∧ Hid (RegsW w wr w.heap.size m (regAll (bs.take k))) ∧ Hid (Below w.heap.size w wr)) (fun i _ => n - (intOf i).toNat)
  case atStart => exact ⟨0, 0, Nat.zero_le _, rfl, Nat.zero_le _, HR0, HB0⟩
  case round =>
    clear HR0 HB0
    obtain ⟨k, m, hk, rfl, hmk, HR, HB⟩ := hrel
    obtain ⟨W1, rfl⟩ : ∃ W1, W1 = wr := ⟨wr, rfl⟩
    by_cases hk' : k < n
    · have hkk : k < bs.length := by rw [HN.out]; exact hk'
      have i1 : (0 : Int) ≤ (k : Int) := by omega
      have i2 : (k : Int) < (n : Int) := by omega
      obtain ⟨b, o, ad, cpd, rfl, hz, e0, hw⟩ := H.out.base HB.out hkk
      obtain ⟨hl, hf⟩ := HX.out k hkk
      have HT := Lib.hid (regAll_take bs k hkk)
      have HW := Lib.hid hw
      have HF := Lib.hid hf
      clear hw hf
      generalize bs.getD k [] = ws at *
      generalize regAll (bs.take k) = M at *
      obtain ⟨q, hq⟩ : ∃ q, ws.length = q := ⟨_, rfl⟩
      rw [hq] at e0 hl
      have HQ := Lib.hid hq
      clear hq
      have HBA : Hid (Below W1.heap.size W1 (W1.alloc (.cells #[.slice ad q cpd] 89))) := (Below.refl _ _).alloc (Nat.le_refl _) _
      have HRA := Lib.hid (HR.out.below HBA.out)
      have HB1 := Lib.hid (below_step HB.out HB.out.size HBA.out)
      go_wp2
      generalize W1.alloc (.cells #[.slice ad q cpd] 89) = W2 at *
      go_loopw [18] (fun i wq => ∃ (j p : Nat), j ≤ q ∧ i = .int .i64 j ∧ p ≤ 1048576 * k + j ∧ Hid (RegsW w wq w.heap.size p (regRun M (ws.take j))) ∧ Hid (Below w.heap.size w wq)) (fun i _ => q - (intOf i).toNat)
      case atStart => exact ⟨0, m, Nat.zero_le _, rfl, by omega, HRA, HB1⟩
      case round =>
        clear HR HB HBA HRA HB1
        obtain ⟨j, p, hj, rfl, hp, HR, HB⟩ := hrel
        by_cases hj' : j < q
        · have hjj : j < ws.length := by rw [HQ.out]; exact hj'
          have j1 : (0 : Int) ≤ (j : Int) := by omega
          have j2 : (j : Int) < (q : Int) := by omega
          obtain ⟨b2, o2, ad2, cp2, rfl, hz2, ⟨c0, c1, c2, c3, c4, c5, c6⟩, hd⟩ := HW.out.base HB.out HQ.out hj'
          have hxl := HF.out j hjj
          have HD := Lib.hid hd
          have HS := Lib.hid (regRun_take ws M j hjj)
          clear hd
          generalize ws.getD j wz = x at *
          obtain ⟨xk, xc, xs', xq, xv, xd, xx⟩ := x
          simp only at c0 c1 c2 c3 c4 c5 c6 hxl HD
          generalize regRun M (ws.take j) = M2 at *
          have HX0 : Hid (Below wr.heap.size wr (wr.alloc (.cells #[.int .i64 xk, .int .i64 xc, .int .i64 xs', .int .i64 xq, .int .i64 xv, .bool xd, .slice ad2 xx.length cp2] 33))) := (Below.refl _ _).alloc (Nat.le_refl _) _
          have HR1 := Lib.hid (HR.out.below HX0.out)
          have HB1 := Lib.hid (below_step HB.out HB.out.size HX0.out)
          cases hok : okW ⟨xk, xc, xs', xq, xv, xd, xx⟩
          · have HE2 : Hid (regRun M (ws.take (j + 1)) = M2) := by
              show _ = _
              rw [HS.out]
              unfold regRep
              rw [if_neg (by rw [hok]; simp)]
            go_wp2_with fail
            refine (implWriteOk_is ⟨xk, xc, xs', xq, xv, xd, xx⟩ false hok ad2 cp2 _ hxl (HD.out.below HB1.out)).mono ?_
            rintro e w2 ⟨rfl, hb⟩
            have HR2 : Hid (RegsW w w2 w.heap.size p (regRun M (ws.take (j + 1)))) := by
              rw [HE2.out]
              exact HR1.out.below hb
            have HB2 := Lib.hid (below_step HB1.out HB1.out.size hb)
            clear hb
            go_wp2
            exact ⟨⟨j + 1, p, by omega, by go_num, by omega, HR2, HB2⟩, by simp [intOf]; omega⟩
          · have HE2 : Hid (regRun M (ws.take (j + 1)) = regPut M2 ⟨xk, xc, xs', xq, xv, xd, xx⟩) := by
              show _ = _
              rw [HS.out]
              unfold regRep
              rw [if_pos hok]
            have HKY := Lib.hid (okW_key hok)
            go_wp2_with fail
            refine (implWriteOk_is ⟨xk, xc, xs', xq, xv, xd, xx⟩ true hok ad2 cp2 _ hxl (HD.out.below HB1.out)).mono ?_
            rintro e w2 ⟨rfl, hb⟩
            have HX2 : Hid (BoxIn wr w2 xk xc xs' xq xv xd ad2 xx.length cp2) := BoxIn.start (t := 33) hb
            have HR2 := Lib.hid (HR1.out.below hb)
            have HB2 := Lib.hid (below_step HB1.out HB1.out.size hb)
            clear hb hok HR1 HB1 HX0
            have b0 := HX2.out.c0
            have b1 := HX2.out.c1
            have b2' := HX2.out.c2
            have b3 := HX2.out.c3
            have b4 := HX2.out.c4
            have b5 := HX2.out.c5
            have b6 := HX2.out.c6
            go_wp2_with fail
            refine (putOne_any w w.heap.size p M2 ⟨xk, xc, xs', xq, xv, xd, xx⟩ ad2 cp2 _ (by omega) hxl HKY.out HD.out HB2.out (Nat.le_refl _) HR2.out).mono ?_
            rintro e w3 ⟨rfl, hr3, hb3⟩
            have HR3 : Hid (RegsW w w3 w.heap.size (p + 1) (regRun M (ws.take (j + 1)))) := by
              rw [HE2.out]
              exact hr3
            have HB3 := Lib.hid hb3
            clear hr3 hb3
            go_wp2
            exact ⟨⟨j + 1, p + 1, by omega, by go_num, by omega, HR3, HB3⟩, by simp [intOf]; omega⟩
        · have hjj : j = q := by omega
          subst hjj
          have HR2 : Hid (RegsW w wr w.heap.size p (regAll (bs.take (k + 1)))) := by
            have h := HR.out
            rw [List.take_of_length_le (by rw [HQ.out]; exact Nat.le_refl _)] at h
            rw [HT.out]
            exact h
          go_wp2
          exact ⟨⟨k + 1, p, by omega, by go_num, by omega, HR2, HB⟩, by simp [intOf]; omega⟩
    · have hkk : k = n := by omega
      subst hkk
      have HRE : Hid (RegsW w W1 w.heap.size m (regAll bs)) := by
        have h := HR.out
        rw [List.take_of_length_le (by rw [HN.out]; exact Nat.le_refl _)] at h
        exact h
      go_wp2_with fail
      refine (told_any w w.heap.size m (regAll bs) _ HB.out HRE.out).mono ?_
      rintro e w6 ⟨v, es, rfl, hes, hrow, hb6⟩
      have HES : Hid (es.map (·.x) = replayW bs) := hes.trans (told_replay bs)
      have HRW := Lib.hid (hrow.mono HB.out.size)
      have HB6 : Hid (Below w.heap.size w w6) := below_step HB.out HB.out.size hb6
      clear hes hrow hb6
      go_wp2
      go_ret
      exact ⟨v, es, rfl, HES.out, HRW.out, HB6.out⟩

end Go.Proofs.YtfgomgjppcagiaaGreatDoor

/- Contracts of the specification's Lacks, Covered, l03Right. -/
namespace Go.Proofs.YtfgomgjppcagiaaGreatDoor
open Go.ChangeShapes Go.WideShapes Go.ChangeAt Go.RowKit Go.Joins
attribute [local go_sem ↓] Go.wp_at_zero Go.wp_at_succ

def lacking (ws : List Wr) (d : Dp) : Bool := !hasB ws d.k d.c d.s d.q

def lacksL (ws : List Wr) (ds : List Dp) : List Dp := ds.filter (lacking ws)

def covB (ws : List Wr) (ds : List Dp) : Bool := (lacksL ws ds).length == 0

theorem take_next (ds : List Dp) (k : Nat) (h : k < ds.length) : ds.take (k + 1) = ds.take k ++ [ds.getD k dz] := by
  rw [List.take_add_one, List.getElem?_eq_getElem h]
  simp [List.getD, h]

theorem lacks_more {ws : List Wr} {ds : List Dp} {k : Nat} (h : k < ds.length) (hd : lacking ws (ds.getD k dz) = true) : lacksL ws (ds.take (k + 1)) = lacksL ws (ds.take k) ++ [ds.getD k dz] := by
  unfold lacksL
  rw [take_next ds k h, List.filter_append]
  generalize ds.getD k dz = d at *
  simp [hd]

theorem lacks_same {ws : List Wr} {ds : List Dp} {k : Nat} (h : k < ds.length) (hd : lacking ws (ds.getD k dz) = false) : lacksL ws (ds.take (k + 1)) = lacksL ws (ds.take k) := by
  unfold lacksL
  rw [take_next ds k h, List.filter_append]
  generalize ds.getD k dz = d at *
  simp [hd]

theorem lacks_len (ws : List Wr) (ds : List Dp) (k : Nat) : (lacksL ws (ds.take k)).length ≤ k := by
  unfold lacksL
  have h1 := List.length_filter_le (lacking ws) (ds.take k)
  have h2 : (ds.take k).length ≤ k := by simp; omega
  omega

set_option maxHeartbeats 4000000 in
theorem specLacks_any (a ad : Option Addr) (n m cap cd : Nat) (ws : List Wr) (ds : List Dp) (w : World) (hn : ws.length = n) (hm : n ≤ 1048576) (hx : Few ws) (hl : ds.length = m) (hml : m ≤ 1048576) (hh : IsWs w a ws) (hd : IsDeps w ad ds) :
    Calls Tryz.prog 147 #[.slice a n cap, .slice ad m cd] w fun e w' => ∃ v, e = .returned v ∧ RowD w' w.heap.size v (lacksL ws ds) ∧ Below w.heap.size w w' := by
  have HH : Hid (IsWs w a ws) := hh
  have HD : Hid (IsDeps w ad ds) := hd
  have HN : Hid (ws.length = n) := hn
  have HL : Hid (ds.length = m) := hl
  have HX : Hid (Few ws) := hx
  clear hh hd hn hl hx
  obtain ⟨i0, hi0, hx0⟩ := Option.map_eq_some_iff.1 infoDep
  simp only [Prod.mk.injEq] at hx0
  have HI0 := Lib.hid hi0
  have HX0 := Lib.hid hx0
  clear hi0 hx0
  have HR0 : Hid (RowD (w.alloc (.cells #[] 74)) w.heap.size (.slice (some ⟨w.heap.size, 0, none⟩) 0 0) (lacksL ws (ds.take 0))) := World.ownsRow_made w #[] 0 (Nat.le_refl _) (by simp [maxLen]) (by simp)
  go_enter Tryz.func147, Tryz.ntmps147
  go_wp2
  go_loopw [5, 6] (fun t i wr => ∃ (k : Nat) (v : Value), k ≤ m ∧ i = .int .i64 k ∧ v = t ∧ Hid (RowD wr w.heap.size v (lacksL ws (ds.take k))) ∧ Hid (Below w.heap.size w wr)) (fun _ i _ => m - (intOf i).toNat)
  case atStart => exact ⟨0, _, Nat.zero_le _, rfl, rfl, HR0, (Below.refl _ _).alloc (Nat.le_refl _) _⟩
  case round =>
    clear HR0
    obtain ⟨k, v, hk, rfl, rfl, HR, HB⟩ := hrel
    by_cases hk' : k < m
    · have hkd : k < ds.length := by rw [HL.out]; exact hk'
      obtain ⟨b, o, rfl, hz, e0, e1, e2, e3⟩ := HD.out.at HB.out hkd
      have i1 : (0 : Int) ≤ (k : Int) := by omega
      have i2 : (k : Int) < (m : Int) := by omega
      have hln := lacks_len ws ds k
      have HC : Hid (∀ p : Aft wr.heap.size wr, Calls Tryz.prog 166 #[.slice a n cap, .int .i64 (ds.getD k dz).k, tagV (ds.getD k dz).c (ds.getD k dz).s (ds.getD k dz).q] p.now fun e w' => e = .returned (.bool (hasB ws (ds.getD k dz).k (ds.getD k dz).c (ds.getD k dz).s (ds.getD k dz).q)) ∧ Below p.now.heap.size p.now w') := fun p =>
        specMapHas_gen a n cap _ _ _ _ ws _ HN.out hm HX.out (HH.out.below (below_step HB.out HB.out.size p.below))
      have HM : Hid (hasB ws (ds.getD k dz).k (ds.getD k dz).c (ds.getD k dz).s (ds.getD k dz).q = false → lacksL ws (ds.take (k + 1)) = lacksL ws (ds.take k) ++ [ds.getD k dz]) := fun h => lacks_more hkd (by unfold lacking; rw [h]; rfl)
      have HS : Hid (hasB ws (ds.getD k dz).k (ds.getD k dz).c (ds.getD k dz).s (ds.getD k dz).q = true → lacksL ws (ds.take (k + 1)) = lacksL ws (ds.take k)) := fun h => lacks_same hkd (by unfold lacking; rw [h]; rfl)
      clear HD
      generalize ds.getD k dz = d at *
      obtain ⟨dk, dc, dd, dq⟩ := d
      simp only at e0 e1 e2 e3 HC HM HS
      cases hb : hasB ws dk dc dd dq
      · have HE := Lib.hid (HM.out hb)
        rw [hb] at HC
        clear hb HM HS
        generalize lacksL ws (ds.take k) = zs at *
        go_wp2_with fail
        have ge0 := aft_cell hz e0
        have ge1 := aft_cell hz e1
        have ge2 := aft_cell hz e2
        have ge3 := aft_cell hz e3
        have ne := aft_some wr
        refine wp_region_aft (by kernel_rfl) (by kernel_rfl) ?_
        repeat (first | go_big_quiet_step (first | (go_at_call 166; exact aft_of (HC.out _))))
        refine wpQuiet_nil ?_
        intro wq hq
        have HBQ : Hid (Below w.heap.size w wq) := below_step HB.out HB.out.size hq
        have HRQ := Lib.hid (HR.out.below hq)
        replace e0 := held_cell hq e0 hz
        replace e1 := held_cell hq e1 hz
        replace e2 := held_cell hq e2 hz
        replace e3 := held_cell hq e3 hz
        have hwq : w.heap.size ≤ wq.heap.size := HBQ.out.size
        clear hq ge0 ge1 ge2 ge3 ne HC HR HB
        have HBC : Hid (Below wq.heap.size wq (wq.alloc (.cells #[.int .i64 dk, .int .i64 dc, .int .i64 dd, .int .i64 dq] 74))) := (Below.refl _ _).alloc (Nat.le_refl _) _
        have HRC := Lib.hid (HRQ.out.below HBC.out)
        have HBD := Lib.hid (below_step HBQ.out HBQ.out.size HBC.out)
        go_wp2_with (at_builtin; refine wpList_append_lies _ (by rfl) _ _ _ (by rfl) w.heap.size 74 i0 (depV 0 0 0 0) 4 32 Tryz.underlying31 HI0.out HX0.out.1 HX0.out.2.1 HX0.out.2.2 (by rfl) (by omega) v zs.length (zs.flatMap dpVals) (by rfl) HRC.out ⟨wq.heap.size, 0, none⟩ 1 1 (dpVals ⟨dk, dc, dd, dq⟩) (by rfl) (by rfl) (oneD_cells wq _ ⟨dk, dc, dd, dq⟩) (dp_one _) (by omega) (by unfold maxLen; omega) (by omega) (by simp; omega) _ rfl ?_; intro g3 cp3 w5 hown hgrow hg3 _; refine Hid.out ?_)
        refine Lib.hid ?_
        have HB5 : Hid (Below w.heap.size w w5) := HBD.out.grown hgrow HBD.out.size fun j hj => (World.ownsRow.lt HRC.out j hj).1
        have HR5 : Hid (RowD w5 w.heap.size (.slice (some ⟨g3, 0, none⟩) (zs.length + 1) cp3) (lacksL ws (ds.take (k + 1)))) := by
          refine Lib.hid ?_
          rw [HE.out]
          unfold RowD
          rw [List.length_append, List.flatMap_append]
          simpa using hown
        clear hown hgrow
        go_wp2
        exact ⟨⟨k + 1, _, by omega, by go_num, rfl, HR5, HB5⟩, by simp [intOf]; omega⟩
      · have HE := Lib.hid (HS.out hb)
        rw [hb] at HC
        clear hb HM HS
        go_wp2_with fail
        have ge0 := aft_cell hz e0
        have ge1 := aft_cell hz e1
        have ge2 := aft_cell hz e2
        have ge3 := aft_cell hz e3
        have ne := aft_some wr
        refine wp_region_aft (by kernel_rfl) (by kernel_rfl) ?_
        repeat (first | go_big_quiet_step (first | (go_at_call 166; exact aft_of (HC.out _))))
        refine wpQuiet_nil ?_
        intro wq hq
        have HBQ : Hid (Below w.heap.size w wq) := below_step HB.out HB.out.size hq
        have HRQ : Hid (RowD wq w.heap.size v (lacksL ws (ds.take (k + 1)))) := by
          rw [HE.out]
          exact HR.out.below hq
        clear hq ge0 ge1 ge2 ge3 ne HC HR HB
        go_wp2
        exact ⟨⟨k + 1, _, by omega, by go_num, rfl, HRQ, HBQ⟩, by simp [intOf]; omega⟩
    · have hkk : k = m := by omega
      subst hkk
      have HF : Hid (RowD wr w.heap.size v (lacksL ws ds)) := by
        have h := HR.out
        rw [List.take_of_length_le (by rw [HL.out]; exact Nat.le_refl _)] at h
        exact h
      go_wp2
      go_ret
      exact ⟨_, rfl, HF.out, HB.out⟩

set_option maxHeartbeats 1000000 in
theorem specCovered_any (a ad : Option Addr) (n m cap cd : Nat) (ws : List Wr) (ds : List Dp) (w : World) (hn : ws.length = n) (hm : n ≤ 1048576) (hx : Few ws) (hl : ds.length = m) (hml : m ≤ 1048576) (hh : IsWs w a ws) (hd : IsDeps w ad ds) :
    Calls Tryz.prog 116 #[.slice a n cap, .slice ad m cd] w fun e w' => e = .returned (.bool (covB ws ds)) ∧ Below w.heap.size w w' := by
  have HC : Hid (Calls Tryz.prog 147 #[.slice a n cap, .slice ad m cd] w fun e w' => ∃ v, e = .returned v ∧ RowD w' w.heap.size v (lacksL ws ds) ∧ Below w.heap.size w w') := specLacks_any a ad n m cap cd ws ds w hn hm hx hl hml hh hd
  have HE : Hid (covB ws ds = (((lacksL ws ds).length : Int) == 0)) := by
    unfold covB
    show _ = _
    rw [Bool.eq_iff_iff]
    simp
  clear hh hd hn hl hx
  go_enter Tryz.func116, Tryz.ntmps116
  go_wp2_with fail
  refine HC.out.mono ?_
  rintro e w1 ⟨v, rfl, hrow, hb⟩
  obtain ⟨al, cl, rfl, -⟩ := hrow.form
  have HB := Lib.hid hb
  clear hrow hb HC
  go_wp2
  go_ret
  exact ⟨ret_bool HE.out.symm, HB.out⟩

def rightB (ws more : List Wr) : Bool := mapOkB ws && more.all okW

theorem right_false {ws more : List Wr} {k : Nat} (h : k < more.length) (hk : okW (more.getD k wz) = false) : rightB ws more = false := by
  unfold rightB
  rw [Bool.and_eq_false_iff]
  refine .inr ?_
  rw [List.all_eq_false]
  refine ⟨more.getD k wz, ?_, by rw [hk]; simp⟩
  have e : more.getD k wz = more[k] := by simp [List.getD, h]
  rw [e]
  exact List.getElem_mem h

set_option maxHeartbeats 2000000 in
theorem l03Right_any (a b : Option Addr) (n m cap cap' : Nat) (us vs : List Wr) (w : World) (hn : us.length = n) (hm : vs.length = m) (hn1 : n ≤ 1048576) (hm1 : m ≤ 1048576) (hx : Few us) (hy : Few vs) (hi : IsWs w a us) (hj : IsWs w b vs) :
    Calls Tryz.prog 72 #[.slice a n cap, .slice b m cap'] w fun e w' => e = .returned (.bool (rightB us vs)) ∧ Below w.heap.size w w' := by
  have HJ : Hid (IsWs w b vs) := hj
  have HM : Hid (vs.length = m) := hm
  have HY : Hid (Few vs) := hy
  have HC : Hid (Calls Tryz.prog 111 #[.slice a n cap] w fun e w' => e = .returned (.bool (mapOkB us)) ∧ Below w.heap.size w w') := specMapOk_gen a n cap us w hn hn1 hx hi
  clear hi hj hn hm hx hy
  cases ha : mapOkB us
  · have HE : Hid (rightB us vs = false) := by unfold rightB; rw [ha, Bool.false_and]; exact Lib.hid rfl
    rw [ha] at HC
    clear ha
    go_enter Tryz.func72, Tryz.ntmps72
    go_wp2_with fail
    refine HC.out.mono ?_
    rintro e w1 ⟨rfl, hb⟩
    have HB1 := Lib.hid hb
    clear hb
    go_wp2
    go_ret
    exact ⟨ret_bool HE.out.symm, HB1.out⟩
  have HA := Lib.hid ha
  rw [ha] at HC
  clear ha
  go_enter Tryz.func72, Tryz.ntmps72
  go_wp2_with fail
  refine HC.out.mono ?_
  rintro e w1 ⟨rfl, hb⟩
  have HB1 := Lib.hid hb
  clear hb HC
  go_wp2
  go_loopw [5] (fun i wr => ∃ k : Nat, k ≤ m ∧ i = .int .i64 k ∧ Hid (∀ j, j < k → okW (vs.getD j wz) = true) ∧ Hid (Below w.heap.size w wr)) (fun i _ => m - (intOf i).toNat)
  case atStart => exact ⟨0, Nat.zero_le _, rfl, fun j hj => absurd hj (Nat.not_lt_zero j), HB1⟩
  case round =>
    clear HB1
    obtain ⟨k, hk, rfl, HK, HB⟩ := hrel
    by_cases hk' : k < m
    · obtain ⟨b1, o1, ad, cp, rfl, hz, ⟨e0, e1, e2, e3, e4, e5, e6⟩, hd⟩ := HJ.out.at HB.out HM.out hk'
      have i1 : (0 : Int) ≤ (k : Int) := by omega
      have i2 : (k : Int) < (m : Int) := by omega
      have hkm : k < vs.length := by rw [HM.out]; exact hk'
      have HW : Hid (Calls Tryz.prog 98 #[wrOf (vs.getD k wz) ad cp] wr fun e w' => e = .returned (.bool (okW (vs.getD k wz))) ∧ Below wr.heap.size wr w') := specWriteOk_gen _ _ _ _ _ _ ad (vs.getD k wz).xs _ cp wr rfl (HY.out k hkm) hd
      clear hd HJ
      cases h1 : okW (vs.getD k wz)
      · have HF : Hid (rightB us vs = false) := right_false hkm h1
        rw [h1] at HW
        clear h1
        generalize vs.getD k wz = x at *
        obtain ⟨xk, xc, xs', xq, xv, xd, xx⟩ := x
        simp only at e0 e1 e2 e3 e4 e5 e6 HW
        go_wp2_with fail
        refine HW.out.mono ?_
        rintro e w2 ⟨rfl, hb⟩
        have HB2 : Hid (Below w.heap.size w w2) := below_step HB.out HB.out.size hb
        clear hb
        go_wp2
        go_ret
        exact ⟨ret_bool HF.out.symm, HB2.out⟩
      · have HK2 : Hid (∀ j, j < k + 1 → okW (vs.getD j wz) = true) := fun j hj => by
          by_cases h : j < k
          · exact HK.out j h
          · have : j = k := by omega
            rw [this]
            exact h1
        rw [h1] at HW
        clear h1
        generalize vs.getD k wz = x at *
        obtain ⟨xk, xc, xs', xq, xv, xd, xx⟩ := x
        simp only at e0 e1 e2 e3 e4 e5 e6 HW
        go_wp2_with fail
        refine HW.out.mono ?_
        rintro e w2 ⟨rfl, hb⟩
        have HB2 : Hid (Below w.heap.size w w2) := below_step HB.out HB.out.size hb
        clear hb
        go_wp2
        exact ⟨⟨k + 1, by omega, by go_num, HK2, HB2⟩, by simp [intOf]; omega⟩
    · have hkk : k = m := by omega
      subst hkk
      have HF : Hid (rightB us vs = true) := by
        unfold rightB
        rw [HA.out, Bool.true_and]
        show _ = _
        rw [List.all_eq_true]
        intro x hx
        obtain ⟨i, hi, rfl⟩ := List.mem_iff_getElem.1 hx
        have := HK.out i (by rw [← HM.out]; exact hi)
        simpa [List.getD, hi] using this
      go_wp2
      go_ret
      exact ⟨ret_bool HF.out.symm, HB.out⟩

end Go.Proofs.YtfgomgjppcagiaaGreatDoor
