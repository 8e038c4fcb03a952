import Derived.Test.YtbbmpfkijhhemaaGreatDoorPack14
import Derived.Lib.AtoiErrMem
import Derived.Test.YtbbmpfkijhhemaaGreatDoorPack8
import Derived.Test.YtbbmpfkijhhemaaGreatDoorPack5
import Derived.Test.YtbbmpfkijhhemaaGreatDoorPack13
import Derived.Laws.MakeOwn
import Derived.Laws.OwnMore
import Derived.Lib.Join
import Derived.Shelf.Strings.OnBuilder
import Derived.Test.YtbbmpfkijhhemaaGreatDoorProg
import Derived.Test.YtbbmpfkijhhemaaGreatDoorPack9
namespace Go.Proofs.YtbbmpfkijhhemaaGreatDoor
open Go.ChangeShapes Go.WideShapes Go.ChangeAt Go.RowKit Go.Joins
set_option maxRecDepth 100000

def RV (w : World) : Prop :=
  (5 < w.heap.size ∧ ∃ m : Int, w.cell? ⟨5, 0, none⟩ = some (.int .i64 m)) ∧
  (7 < w.heap.size ∧ ∃ te pe, w.cell? ⟨7, 0, none⟩ = some (.iface te pe)) ∧
  (8 < w.heap.size ∧ ∃ te pe, w.cell? ⟨8, 0, none⟩ = some (.iface te pe))

theorem RV.below {w w' : World} (h : RV w) (hb : Below w.heap.size w w') : RV w' := by
  obtain ⟨⟨l1, m, h1⟩, ⟨l2, t2, p2, h2⟩, l3, t3, p3, h3⟩ := h
  exact ⟨⟨Nat.lt_of_lt_of_le l1 hb.size, m, (hb.cell (p := ⟨_, 0, none⟩) l1).trans h1⟩, ⟨Nat.lt_of_lt_of_le l2 hb.size, t2, p2, (hb.cell (p := ⟨_, 0, none⟩) l2).trans h2⟩, Nat.lt_of_lt_of_le l3 hb.size, t3, p3, (hb.cell (p := ⟨_, 0, none⟩) l3).trans h3⟩

theorem atoi_any (y : ByteArray) (w : World) (hy : y.size ≤ 1048577) (hv : RV w) :
    Calls Tryz.prog 208 #[.string y] w fun e w' => Below w.heap.size w w' ∧ ((∃ v, Lib.atoiAll y.data.toList = .ok v ∧ e = .returned (.tuple #[.int .i64 v, .nilIface])) ∨ ((∀ v, Lib.atoiAll y.data.toList ≠ .ok v) ∧ ∃ n t p, e = .returned (.tuple #[.int .i64 n, .iface t p]))) := by
  obtain ⟨-, ⟨l2, t2, p2, h2⟩, l3, t3, p3, h3⟩ := hv
  cases hc : Lib.atoiAll y.data.toList with
  | ok v =>
    refine (Tryz.strconv_Atoi_ok y (by omega) v hc w).mono ?_
    rintro e w' ⟨rfl, hw⟩
    refine ⟨?_, .inl ⟨v, rfl, rfl⟩⟩
    rcases hw with rfl | ⟨t, rfl⟩
    · exact Below.refl _ _
    · exact Lib.bytesWorld_below _ _ _
  | «syntax» =>
    refine (Tryz.strconv_Atoi_syntax y (by omega) hc _ w h2 (.inr ⟨t2, p2, rfl⟩)).mono ?_
    rintro e w' ⟨N, rfl, -, -, hb⟩
    exact ⟨hb, .inr ⟨(fun v h => by cases h), _, _, _, rfl⟩⟩
  | range =>
    refine (Tryz.strconv_Atoi_range y (by omega) hc _ w h3 (.inr ⟨t3, p3, rfl⟩)).mono ?_
    rintro e w' ⟨N, rfl, -, -, hb⟩
    exact ⟨hb, .inr ⟨(fun v h => by cases h), _, _, _, rfl⟩⟩

theorem splitN_any (s : ByteArray) (n : Nat) (w : World) (hs : s.size ≤ 1048576) (hn : 1 ≤ n) (hn' : n ≤ 1000) (hv : RV w) :
    Calls Tryz.prog 207 #[.string s, .string ⟨#[32]⟩, .int .i64 n] w fun e w' => ∃ cp W, e = .returned (.slice (some ⟨w.heap.size, 0, none⟩) W.length cp) ∧ W.length ≤ n ∧ glue W = s.data.toList ++ [32] ∧ (W.length < n → NoBlank W) ∧ (w.heap.size < w'.heap.size ∧ ∀ i, i < W.length → w'.cell? ⟨w.heap.size, i, none⟩ = some (.string (W.getD i ⟨#[]⟩))) ∧ Below w.heap.size w w' := by
  obtain ⟨⟨l1, m, h1⟩, -⟩ := hv
  refine (Any.strings_SplitN { Tryz.laysM147 with } Tryz.laysM147.i9 s ⟨#[32]⟩ n m w (by omega) h1 (by decide) hn (by omega)).mono ?_
  rintro e w' ⟨rfl, rfl⟩
  obtain ⟨g1, g2⟩ := splitN_blank s (min n (s.size + 1) - 1)
  have hl := Lib.splitB_length_le ⟨#[32]⟩ 0 (min n (s.size + 1) - 1) s
  refine ⟨_, _, rfl, by omega, g1, fun h => g2 (by omega), ⟨by simp, fun i hi => ?_⟩, (Below.refl _ _).alloc (Nat.le_refl _) _⟩
  rw [cell_of_row _ _ i _ _ (0, 0) (heap_alloc_new w _)]
  simp [Lib.cellsOf, List.getD, hi, List.getElem?_append_left]

def NumsAns (w w' : World) (bs : List UInt8) (e : Ending) : Prop :=
  Below w.heap.size w w' ∧ ((∃ (g n D : Nat) (zs : List Int) (W : List ByteArray), e = .returned (.tuple #[.slice (some ⟨g, 0, none⟩) n n, .bool true]) ∧ n = 8 + 4 * D ∧ D ≤ 6 ∧ zs.length = n ∧ w.heap.size ≤ g ∧ NumRow w' g zs ∧ W.length = n ∧ NoBlank W ∧ glue W = bs ++ [32] ∧ ∀ j, j + 1 < n → Lib.atoiAll (W.getD (j + 1) ⟨#[]⟩).data.toList = .ok (zs.getD (j + 1) 0)) ∨
    ((∀ x, ¬ IsText bs x) ∧ e = .returned (.tuple #[.slice none 0 0, .bool false])))

set_option maxHeartbeats 8000000 in
theorem readNums_any (s : ByteArray) (w : World) (hs : s.size ≤ 1048576) (hv : RV w) :
    Calls Tryz.prog 198 #[.string s] w fun e w' => NumsAns w w' s.data.toList e := by
  have HV := Lib.hid hv
  clear hv
  go_enter Tryz.func198, Tryz.ntmps198
  go_wp2_with fail
  refine (splitN_any s 33 _ hs (by omega) (by omega) HV.out).mono ?_
  rintro e w1 ⟨cs, W, rfl, hWl, hgl, hnb, ⟨hg1, hce⟩, hb⟩
  have HGL := Lib.hid hgl
  have HNB := Lib.hid hnb
  have HCE := Lib.hid hce
  have HB1 := Lib.hid hb
  obtain ⟨n, hn⟩ : ∃ n, W.length = n := ⟨_, rfl⟩
  have HN := Lib.hid hn
  rw [hn] at hWl ⊢
  clear hgl hnb hce hb hn
  by_cases c1 : n < 8
  · have HNO : Hid (∀ x, ¬ IsText s.data.toList x) := fun x => wrong_words (HNB.out (by rw [HN.out]; omega)) HGL.out (.inl (by rw [HN.out]; exact c1)) x
    have d1 : (n : Int) < 8 := by omega
    go_wp2
    exact bodyPost_ret (v := .tuple #[.slice none 0 0, .bool false]) (by simp [results, Tryz.results198, go_sem]) rfl ⟨HB1.out, .inr ⟨HNO.out, rfl⟩⟩
  by_cases c2 : 32 < n
  · have HNO : Hid (∀ x, ¬ IsText s.data.toList x) := fun x => many_words HGL.out (by rw [HN.out]; exact c2) x
    have d1 : ¬ (n : Int) < 8 := by omega
    have d2 : (32 : Int) < (n : Int) := by omega
    go_wp2
    exact bodyPost_ret (v := .tuple #[.slice none 0 0, .bool false]) (by simp [results, Tryz.results198, go_sem]) rfl ⟨HB1.out, .inr ⟨HNO.out, rfl⟩⟩
  have HNW := Lib.hid (HNB.out (by rw [HN.out]; omega))
  have d1 : ¬ (n : Int) < 8 := by omega
  have d2 : ¬ (32 : Int) < (n : Int) := by omega
  obtain ⟨r, hr⟩ : ∃ r, (n - 8) % 4 = r := ⟨_, rfl⟩
  have HRR := Lib.hid hr
  have hm4 : Int.tmod ((n : Int) - 8) 4 = (r : Int) := by
    have e : ((n : Int) - 8) = ((n - 8 : Nat) : Int) := by omega
    rw [e, ← hr]
    rfl
  clear hr
  by_cases c3 : r = 0
  rotate_left
  · have HNO : Hid (∀ x, ¬ IsText s.data.toList x) := fun x => wrong_words HNW.out HGL.out (.inr (by rw [HN.out, HRR.out]; exact c3)) x
    obtain ⟨r', rfl⟩ : ∃ r', r = r' + 1 := ⟨r - 1, by omega⟩
    have d3 : ((((r' + 1 : Nat) : Int)) == 0) = false := by simp; omega
    have d4 : ((((r' : Nat) : Int) + 1) == 0) = false := by simp; omega
    have d5 : ((((r' : Nat) : Int) + 1) != 0) = true := by simp; omega
    go_wp2
    exact bodyPost_ret (v := .tuple #[.slice none 0 0, .bool false]) (by simp [results, Tryz.results198, go_sem]) rfl ⟨HB1.out, .inr ⟨HNO.out, rfl⟩⟩
  have hm0 : Int.tmod ((n : Int) - 8) 4 = 0 := by rw [hm4, c3]; rfl
  have HRZ : Hid ((n - 8) % 4 = 0) := by rw [HRR.out]; exact c3
  clear hm4 c3 HRR
  have hw0 := HCE.out 0 (by rw [HN.out]; omega)
  have d4 : (0 : Int) < (n : Int) := by omega
  have d5 : 0 < n := by omega
  by_cases c4 : W.getD 0 ⟨#[]⟩ = ⟨#[119]⟩
  rotate_left
  · have HNO : Hid (∀ x, ¬ IsText s.data.toList x) := fun x => wrong_mark HNW.out HGL.out c4 x
    generalize W.getD 0 ⟨#[]⟩ = y at *
    have c5 : (y.toList == (⟨#[119]⟩ : ByteArray).toList) = false := by
      rw [beq_eq_false_iff_ne, ByteArray.toList_eq, ByteArray.toList_eq]
      intro h1
      apply c4
      cases y
      simp at h1
      rw [← h1]
    have c6 : (y.toList == [119]) = false := by
      rw [beq_eq_false_iff_ne, ByteArray.toList_eq]
      intro h1
      apply c4
      cases y
      simp at h1
      rw [← h1]
    go_wp2
    exact bodyPost_ret (v := .tuple #[.slice none 0 0, .bool false]) (by simp [results, Tryz.results198, go_sem]) rfl ⟨HB1.out, .inr ⟨HNO.out, rfl⟩⟩
  rw [c4] at hw0
  clear c4
  have hmk := run_make_ints n (by omega)
  go_wp2
  clear hmk
  have HRS : Hid ((w1.alloc (.cells (madeCells #[.int .i64 0] n) 3)).rowIs w1.heap.size 3 n (fun o => .int .i64 ((fun _ => (0 : Int)) o))) := (rowInt_start w1 3 n []).congr fun o _ => by unfold intFill; rw [if_neg (by omega)]
  have HBS : Hid (Below w1.heap.size w1 (w1.alloc (.cells (madeCells #[.int .i64 0] n) 3))) := (Below.refl _ _).alloc (Nat.le_refl _) _
  generalize w1.alloc (.cells (madeCells #[.int .i64 0] n) 3) = W2 at *
  go_loopw [7] (fun i wr => ∃ (k : Nat) (f : Nat → Int), k + 1 ≤ n ∧ i = .int .i64 ((k + 1 : Nat) : Int) ∧ Hid (wr.rowIs w1.heap.size 3 n (fun o => .int .i64 (f o))) ∧ Hid (∀ j, j < k → Lib.atoiAll (W.getD (j + 1) ⟨#[]⟩).data.toList = .ok (f (j + 1))) ∧ Hid (Below w1.heap.size w1 wr)) (fun i _ => n - (intOf i).toNat)
  case atStart => exact ⟨0, fun _ => 0, by omega, rfl, HRS, fun j hj => absurd hj (Nat.not_lt_zero j), HBS⟩
  case round =>
    clear HRS HBS
    obtain ⟨k, f, hk, rfl, HR, HF, HB⟩ := hrel
    by_cases hk' : k + 1 < n
    · have hkW : k + 1 < W.length := by rw [HN.out]; exact hk'
      have hcell := (HB.out.cell (p := ⟨w.heap.size, k + 1, none⟩) hg1).trans (HCE.out (k + 1) hkW)
      have hgw : w.heap.size < wr.heap.size := by have := HB.out.size; omega
      obtain ⟨-, hw2⟩ := word_at hkW
      have hyl := mem_len hw2
      have hdl : s.data.toList.length = s.size := by simp
      rw [HGL.out, List.length_append, hdl, List.length_singleton] at hyl
      have HNOK : Hid ((∀ v, Lib.atoiAll (W.getD (k + 1) ⟨#[]⟩).data.toList ≠ .ok v) → ∀ x, ¬ IsText s.data.toList x) := fun h x => wrong_num HNW.out HGL.out hkW h x
      have HFN : Hid (∀ v, Lib.atoiAll (W.getD (k + 1) ⟨#[]⟩).data.toList = .ok v → ∀ j, j < k + 1 → Lib.atoiAll (W.getD (j + 1) ⟨#[]⟩).data.toList = .ok ((fun o => if o = k + 1 then v else f o) (j + 1))) := fun v hv j hj => by
        by_cases e : j = k
        · subst e
          simpa using hv
        · have h1 := HF.out j (by omega)
          rw [h1]
          simp [e]
      have HVW : Hid (RV wr) := (HV.out.below HB1.out).below HB.out
      have i1 : (0 : Int) ≤ ((k + 1 : Nat) : Int) := by omega
      have i2 : ((k + 1 : Nat) : Int) < (n : Int) := by omega
      have hy4 : (W.getD (k + 1) ⟨#[]⟩).size ≤ 1048577 := by omega
      clear hw2 hyl hdl
      generalize W.getD (k + 1) ⟨#[]⟩ = y at *
      go_wp2_with fail
      refine (atoi_any y _ hy4 HVW.out).mono ?_
      rintro e w3 ⟨hb, ⟨v, hv, rfl⟩ | ⟨hno, n3, t3, p3, rfl⟩⟩
      · have HB3 : Hid (Below w1.heap.size w1 w3) := below_step HB.out HB.out.size hb
        have HR3 : Hid (w3.rowIs w1.heap.size 3 n (fun o => .int .i64 (f o))) := HR.out.of_block (hb.block _ HR.out.lt)
        have HF3 := Lib.hid (HFN.out v hv)
        have HS3 : Hid ((w3.setCell ⟨w1.heap.size, k + 1, none⟩ (.int .i64 v)).rowIs w1.heap.size 3 n (fun o => .int .i64 ((fun o => if o = k + 1 then v else f o) o))) := (HR3.out.set (k + 1) (.int .i64 v)).congr fun o _ => by
          by_cases e : o = k + 1
          · simp [e]
          · simp [e]
        have HB4 : Hid (Below w1.heap.size w1 (w3.setCell ⟨w1.heap.size, k + 1, none⟩ (.int .i64 v))) := HB3.out.setCell (p := ⟨w1.heap.size, k + 1, none⟩) (Nat.le_refl _) _
        have c0 := HR3.out.cell (i := k + 1) hk'
        have fz := HR3.out.frozen
        clear hb hv HFN HNOK HR HF HB hcell
        go_wp2
        exact ⟨⟨k + 1, _, by omega, by go_num, HS3, HF3, HB4⟩, by simp [intOf]; omega⟩
      · have HNO := Lib.hid (HNOK.out hno)
        have HB3 : Hid (Below w.heap.size w w3) := below_step (below_step HB1.out HB1.out.size HB.out) (Nat.le_of_lt hgw) hb
        clear hb hno HFN HNOK HR HF HB hcell
        go_wp2
        exact bodyPost_ret (v := .tuple #[.slice none 0 0, .bool false]) (by simp [results, Tryz.results198, go_sem]) rfl ⟨HB3.out, .inr ⟨HNO.out, rfl⟩⟩
    · have hkn : k + 1 = n := by omega
      have HBW : Hid (Below w.heap.size w wr) := below_step HB1.out HB1.out.size HB.out
      have hrz := HRZ.out
      have HLE : Hid (NumRow wr w1.heap.size ((List.range n).map f)) := ⟨HR.out.lt, fun i hi => by
        have hi' : i < n := by simpa using hi
        rw [HR.out.cell hi']
        simp [List.getD, hi']⟩
      have HAT : Hid (∀ j, j + 1 < n → Lib.atoiAll (W.getD (j + 1) ⟨#[]⟩).data.toList = .ok (((List.range n).map f).getD (j + 1) 0)) := fun j hj => by
        rw [HF.out j (by omega)]
        simp [List.getD, hj]
      have j0 : ¬ ((k + 1 : Nat) : Int) < (n : Int) := by omega
      have HQD : Hid (n = 8 + 4 * ((n - 8) / 4) ∧ (n - 8) / 4 ≤ 6) := ⟨by omega, by omega⟩
      clear hrz HR HF HB
      go_wp2
      refine bodyPost_ret (v := .tuple #[.slice (some ⟨w1.heap.size, 0, none⟩) n n, .bool true]) (by simp [results, Tryz.results198, go_sem]) rfl ?_
      exact ⟨HBW.out, .inl ⟨w1.heap.size, n, (n - 8) / 4, (List.range n).map f, W, rfl, HQD.out.1, HQD.out.2, by simp, Nat.le_of_lt hg1, HLE.out, HN.out, HNW.out, HGL.out, HAT.out⟩⟩

end Go.Proofs.YtbbmpfkijhhemaaGreatDoor

namespace Go.Proofs.YtbbmpfkijhhemaaGreatDoor
open Go.ChangeShapes Go.WideShapes Go.ChangeAt Go.RowKit Go.Joins
set_option maxRecDepth 100000

structure OwnStrs (w : World) (base g cap : Nat) (ws : List ByteArray) : Prop where
  le : base ≤ g
  lt : g < w.heap.size
  own : w.ownsRow base 9 1 (.slice (some ⟨g, 0, none⟩) ws.length cap) ws.length (ws.map Value.string)

theorem OwnStrs.below {w w' : World} {base g cap : Nat} {ws : List ByteArray} (h : OwnStrs w base g cap ws) (hb : Below w.heap.size w w') : OwnStrs w' base g cap ws :=
  ⟨h.le, Nat.lt_of_lt_of_le h.lt hb.size, h.own.kept (row := none) ⟨hb.os, hb.tape, hb.output, hb.size, fun k hk _ => hb.block k hk⟩ (.inr (by simp [Value.ownBlock]))⟩

theorem OwnStrs.set {w : World} {base g cap : Nat} {ws : List ByteArray} (h : OwnStrs w base g cap ws) (j : Nat) (t : ByteArray) : OwnStrs (w.setCell ⟨g, j, none⟩ (.string t)) base g cap (ws.set j t) := by
  refine ⟨h.le, by simpa using h.lt, ?_⟩
  have := (h.own.stored j (.string t)).1
  rw [← List.map_set] at this
  simpa using this

theorem OwnStrs.cell {w : World} {base g cap : Nat} {ws : List ByteArray} (h : OwnStrs w base g cap ws) {j : Nat} {t : ByteArray} (ht : ws[j]? = some t) : w.cell? ⟨g, j, none⟩ = some (.string t) := by
  rw [h.own.cellAt j (by have := (List.getElem?_eq_some_iff.1 ht).1; omega)]
  simp [ht]

theorem OwnStrs.froz {w : World} {base g cap : Nat} {ws : List ByteArray} (h : OwnStrs w base g cap ws) (j : Nat) : w.frozen? ⟨g, j, none⟩ = false := h.own.frozenAt j

structure Words (w W : World) (k c s q v : Int) (de : Bool) (a : Option Addr) (len cap g wc : Nat) (ws : List ByteArray) : Prop where
  box : BoxIn w W k c s q v de a len cap
  row : OwnStrs W (w.heap.size + 1) g wc ws

theorem Words.step {w W W' : World} {k c s q v : Int} {de : Bool} {a : Option Addr} {len cap g wc : Nat} {ws : List ByteArray} (h : Words w W k c s q v de a len cap g wc ws) (hb : Below W.heap.size W W') : Words w W' k c s q v de a len cap g wc ws :=
  ⟨h.box.step hb, h.row.below hb⟩

theorem Words.set {w W : World} {k c s q v : Int} {de : Bool} {a : Option Addr} {len cap g wc : Nat} {ws : List ByteArray} (h : Words w W k c s q v de a len cap g wc ws) (j : Nat) (t : ByteArray) : Words w (W.setCell ⟨g, j, none⟩ (.string t)) k c s q v de a len cap g wc (ws.set j t) := by
  have hle := h.row.le
  refine ⟨h.box.other (by simp) (h.box.below.setCell (p := ⟨g, j, none⟩) (show w.heap.size ≤ g by omega) _) (Below.heap_setCell _ _ _ _ (show w.heap.size ≠ g by omega)), h.row.set j t⟩

theorem Words.grown {w W W' : World} {k c s q v : Int} {de : Bool} {a : Option Addr} {len cap g wc g' wc' : Nat} {ws ws' : List ByteArray} (h : Words w W k c s q v de a len cap g wc ws) (hg : W.grownBy W' (some g)) (ho : OwnStrs W' (w.heap.size + 1) g' wc' ws') : Words w W' k c s q v de a len cap g' wc' ws' := by
  have hle := h.row.le
  refine ⟨h.box.other hg.size (h.box.below.grown hg h.box.below.size fun j hj => by injection hj with hj; omega) (hg.block _ h.box.lt (by simp; omega)), ho⟩

theorem Words.ne {w W : World} {k c s q v : Int} {de : Bool} {a : Option Addr} {len cap g wc : Nat} {ws : List ByteArray} (h : Words w W k c s q v de a len cap g wc ws) : g ≠ w.heap.size := by
  have := h.row.le
  omega

theorem Words.tab {w W : World} {k c s q v : Int} {de : Bool} {a : Option Addr} {len cap g wc : Nat} {ws : List ByteArray} (h : Words w W k c s q v de a len cap g wc ws) (ht : Tab w) : Tab W := ht.below h.box.below ht.lt

theorem implNumT (n : Int) (t : ByteArray) (w : World) (ht : t = str (Lib.itoa n)) (h : -9223372036854775808 ≤ n ∧ n ≤ 9223372036854775807) (hT : Tab w) :
    Calls Tryz.prog 163 #[.int .i64 n] w fun e w' => e = .returned (.string t) ∧ Below w.heap.size w w' := by
  subst ht
  exact implNum n w h.1 h.2 hT

theorem flag_any (de : Bool) (w : World) : Calls Tryz.prog 143 #[.bool de] w fun e w' => e = .returned (.int .i64 (bitI de)) ∧ w' = w := by
  go_enter Tryz.func143, Tryz.ntmps143
  cases de
  · go_wp2
    go_ret
    exact ⟨rfl, rfl⟩
  · go_wp2
    go_ret
    exact ⟨rfl, rfl⟩

theorem infoStr : (Tryz.prog.info? 9).map (fun i => (i.zero, i.size, i.bytes)) = some (some (.string ⟨#[]⟩), 1, 16) := by kernel_rfl

theorem make_words {w w1 : World} {k c s q v : Int} {de : Bool} {a : Option Addr} {len cap : Nat} (h : BoxIn w w1 k c s q v de a len cap) (n : Nat) (hn : n ≤ 1048576) :
    ∃ W, (Instr.makeSlice 182 (.int .i64 8) (.int .i64 (8 + 4 * (n : Int)))).run Tryz.prog w1 = .ok (.slice (some ⟨w1.heap.size, 0, none⟩) 8 (8 + 4 * n)) W ∧ Words w W k c s q v de a len cap w1.heap.size (8 + 4 * n) (List.replicate 8 ⟨#[]⟩) := by
  obtain ⟨i, hi, hx⟩ := Option.map_eq_some_iff.1 infoStr
  simp only [Prod.mk.injEq] at hx
  have hr := run_make (P := Tryz.prog) w1 182 9 i (.string ⟨#[]⟩) Tryz.underlying182 hi hx.1 .i64 .i64 8 (8 + 4 * (n : Int)) (by omega) (by omega) (by rw [hx.2.2]; omega) (by omega)
  have e1 : (8 + 4 * (n : Int)).toNat = 8 + 4 * n := by omega
  rw [e1, hx.2.1, Nat.mul_one] at hr
  refine ⟨_, hr, ⟨h.step ((Below.refl _ _).alloc (Nat.le_refl _) _), ⟨h.lt, by simp, by simp, .inr ⟨w1.heap.size, 8 + 4 * n, _, rfl, h.lt, heap_alloc_new w1 _, by simp, by simp [maxLen]; omega, by rw [size_madeCells]; omega, ?_⟩⟩⟩⟩
  rw [show (Value.string ⟨#[]⟩).cells = #[Value.string ⟨#[]⟩] from rfl, toList_madeCells_one, List.take_replicate]
  simp only [List.length_replicate, List.map_replicate]
  congr 1
  omega

def StrsFact (ts : List ByteArray) : Fact := fun v w => ∃ g, v = .slice (some ⟨g, 0, none⟩) ts.length ts.length ∧ g < w.heap.size ∧ ∀ j u, (ts.map Value.string)[j]? = some u → w.cell? ⟨g, j, none⟩ = some u

theorem lasts_strs (ts : List ByteArray) : lasts (fun w w' => Below w.heap.size w w') (StrsFact ts) := by
  rintro v w w' ⟨g, hv, hg, hh⟩ hb
  exact ⟨g, hv, Nat.lt_of_lt_of_le hg hb.size, fun j u hu => (hb.cell (p := ⟨g, j, none⟩) hg).trans (hh j u hu)⟩

theorem strs_new {w : World} {t : Nat} (ts : List ByteArray) : StrsFact ts (.slice (some ⟨w.heap.size, 0, none⟩) ts.length ts.length) (w.alloc (.cells (ts.map Value.string).toArray t)) :=
  ⟨_, rfl, by simp, fun j u hu => by rw [cell_of_row _ _ j _ t (0, 0) (heap_alloc_new w _)]; simpa using hu⟩

end Go.Proofs.YtbbmpfkijhhemaaGreatDoor

namespace Go.Proofs
open Go.Shelf
def Tryz.lays156_ren : Go.Shelf.Ren := ⟨fun | 156 => 164 | 165 => 185 | 166 => 186 | 169 => 187 | 240 => 195 | 241 => 196 | 276 => 204 | 277 => 205 | n => n, fun | 31 => 182 | 9 => 9 | 3 => 3 | 4 => 4 | 0 => 0 | 20 => 20 | 72 => 221 | 76 => 187 | 70 => 219 | 37 => 22 | 75 => 125 | 127 => 232 | 164 => 159 | 5 => 5 | 80 => 223 | n => n, fun | n => n⟩
theorem Tryz.lays156 : Go.Proofs.Lays.n156 Tryz.prog Tryz.lays156_ren := {
  mixed := by kernel_rfl
  f156 := Tryz.func164.trans (congrArg some (by kernel_rfl))
  f165 := Tryz.func185.trans (congrArg some (by kernel_rfl))
  f166 := Tryz.func186.trans (congrArg some (by kernel_rfl))
  f169 := Tryz.func187.trans (congrArg some (by kernel_rfl))
  f240 := Tryz.func195.trans (congrArg some (by kernel_rfl))
  f241 := Tryz.func196.trans (congrArg some (by kernel_rfl))
  f276 := Tryz.func204.trans (congrArg some (by kernel_rfl))
  f277 := Tryz.func205.trans (congrArg some (by kernel_rfl))
  t0 := Tryz.underlying0
  a0 := Tryz.isAgg0
  z0 := Tryz.sizeOf0
  v0 := Tryz.zeroValue0
  t3 := Tryz.underlying3
  a3 := Tryz.isAgg3
  z3 := Tryz.sizeOf3
  v3 := Tryz.zeroValue3
  t4 := Tryz.underlying4
  a4 := Tryz.isAgg4
  z4 := Tryz.sizeOf4
  v4 := Tryz.zeroValue4
  t9 := Tryz.underlying9
  a9 := Tryz.isAgg9
  z9 := Tryz.sizeOf9
  v9 := Tryz.zeroValue9
  t20 := Tryz.underlying20
  a20 := Tryz.isAgg20
  z20 := Tryz.sizeOf20
  v20 := Tryz.zeroValue20
  t31 := Tryz.underlying182
  a31 := Tryz.isAgg182
  z31 := Tryz.sizeOf182
  v31 := Tryz.zeroValue182
  t37 := Tryz.underlying22
  a37 := Tryz.isAgg22
  z37 := Tryz.sizeOf22
  v37 := Tryz.zeroValue22
  t70 := Tryz.underlying219
  a70 := Tryz.isAgg219
  z70 := Tryz.sizeOf219
  v70 := Tryz.zeroValue219
  t72 := Tryz.underlying221
  a72 := Tryz.isAgg221
  z72 := Tryz.sizeOf221
  v72 := Tryz.zeroValue221
  t75 := Tryz.underlying125
  a75 := Tryz.isAgg125
  z75 := Tryz.sizeOf125
  v75 := Tryz.zeroValue125
  t76 := Tryz.underlying187
  a76 := Tryz.isAgg187
  z76 := Tryz.sizeOf187
  v76 := Tryz.zeroValue187
  t127 := Tryz.underlying232
  a127 := Tryz.isAgg232
  z127 := Tryz.sizeOf232
  v127 := Tryz.zeroValue232
  t164 := Tryz.underlying159
  a164 := Tryz.isAgg159
  z164 := Tryz.sizeOf159
  v164 := Tryz.zeroValue159 }
theorem Tryz.Builder_Extra_156 : Builder.Extra Tryz.prog Tryz.lays156_ren := {
  sizeBuilder := by kernel_rfl
  liesBuilder := by kernel_rfl
  t5 := Tryz.underlying5
  a5 := Tryz.isAgg5
  z5 := Tryz.sizeOf5
  v5 := Tryz.zeroValue5
  infoByte := by kernel_rfl
  cellsByte := by kernel_rfl
  sizeByte := by kernel_rfl
  neB5 := by decide }
open Go.RowKit in
theorem Tryz.strings_Join_none (a : Option Addr) (c : Nat) (sep : ByteArray) (w : World) :
    Calls Tryz.prog 164 #[.slice a 0 c, .string sep] w fun e w' => e = .returned (.string ⟨#[]⟩) ∧ w' = w := Any.strings_Join_none Tryz.lays156 Tryz.Builder_Extra_156 a c sep w
open Go.RowKit in
theorem Tryz.strings_Join (bk o c : Nat) (xs : List ByteArray) (sep : ByteArray) (w : World) (hcells : ∀ (j : Nat) x, xs[j]? = some x → w.cell? ⟨bk, o + j, none⟩ = some (.string x)) (hbk : bk < w.heap.size) (hN : xs.length ≤ 140737488355328) (hcap : xs.length ≤ c) (hlen : (Lib.join (xs.map (·.data.toList)) sep.data.toList).length ≤ 140737488355328) :
    Calls Tryz.prog 164 #[.slice (some ⟨bk, o, none⟩) xs.length c, .string sep] w fun e w' => e = .returned (.string ⟨(Lib.join (xs.map (·.data.toList)) sep.data.toList).toArray⟩) ∧ Below w.heap.size w w' := Any.strings_Join Tryz.lays156 Tryz.Builder_Extra_156 bk o c xs sep w hcells hbk hN hcap hlen
end Go.Proofs

namespace Go.Proofs.YtbbmpfkijhhemaaGreatDoor
open Go.ChangeShapes Go.WideShapes Go.ChangeAt Go.RowKit Go.Joins

theorem head_bounds {k c s q v : Int} {de : Bool} {n : Nat} (h1 : btw k 0 5 = true) (h2 : tagOkB c s q = true) (h3 : valOkB v de = true) (hn : n ≤ 1048576) : ∀ x ∈ headNs k c s q v de n, -9223372036854775808 ≤ x ∧ x ≤ 9223372036854775807 := by
  have a := btw_bounds h1
  have b := tagOk_bounds h2
  have d := btw_bounds (val_btw h3)
  have e : 0 ≤ bitI de ∧ bitI de ≤ 1 := by cases de <;> simp [bitI]
  intro x hx
  simp only [headNs, List.mem_cons, List.not_mem_nil, or_false] at hx
  rcases hx with rfl | rfl | rfl | rfl | rfl | rfl | rfl <;> omega

def B64 (x : Int) : Prop := -9223372036854775808 ≤ x ∧ x ≤ 9223372036854775807

theorem nums_most : ∀ (ns : List Int), (∀ x ∈ ns, B64 x) → (numsText ns).length ≤ 22 * ns.length
  | [], _ => by simp [numsText]
  | x :: r, h => by
    have h1 := nums_most r fun y hy => h y (List.mem_cons_of_mem _ hy)
    have h2 := h x List.mem_cons_self
    have h3 := Lib.itoa_length_le _ h2.1 h2.2
    simp only [numsText, List.flatMap_cons, List.length_append, List.length_cons] at h1 ⊢
    omega

theorem dep_b64 {x0 x1 x2 x3 : Int} (h0 : Ints64 [x0]) (h1 : Ints64 [x1, x2, x3]) : ∀ x ∈ [x0, x1, x2, x3], B64 x := by
  have a := h0 0 (by simp)
  have b := h1 0 (by simp)
  have c := h1 1 (by simp)
  have d := h1 2 (by simp)
  intro x hx
  simp only [List.mem_cons, List.not_mem_nil, or_false] at hx
  rcases hx with rfl | rfl | rfl | rfl
  · exact a
  · exact b
  · exact c
  · exact d

theorem words_more (ns ms : List Int) : wordsOf (ns ++ ms) = wordsOf ns ++ ms.map fun n => str (Lib.itoa n) := by simp [wordsOf]

theorem deps_more (xs : List Dp) (j : Nat) (h : j < xs.length) : (xs.take (j + 1)).flatMap depNs = (xs.take j).flatMap depNs ++ depNs (xs.getD j dz) := by
  rw [List.take_add_one, List.getElem?_eq_getElem h, List.flatMap_append]
  simp [List.getD, h]

theorem join_any (base g wc n : Nat) (ns : List Int) (w : World) (hl : (wordsOf ns).length = n) (hn : n ≤ 140737488355328) (ho : OwnStrs w base g wc (wordsOf ns)) (ht : (119 :: numsText ns).length ≤ 140737488355328) :
    Calls Tryz.prog 164 #[.slice (some ⟨g, 0, none⟩) n wc, .string ⟨#[32]⟩] w fun e w' => e = .returned (.string (str (119 :: numsText ns))) ∧ Below w.heap.size w w' := by
  subst hl
  have hcap : (wordsOf ns).length ≤ wc := by
    rcases ho.own.2 with ⟨h, _⟩ | ⟨g', cap, cur, h, _, _, hc, _⟩
    · simp at h
    · simp only [Value.slice.injEq, true_and] at h
      rw [h.2]
      exact hc
  have := Tryz.strings_Join g 0 wc (wordsOf ns) ⟨#[32]⟩ w (fun j x hx => by rw [Nat.zero_add]; exact ho.cell hx) ho.lt hn hcap (by rw [show (⟨#[32]⟩ : ByteArray).data.toList = [32] from rfl, join_words]; exact ht)
  rw [show (⟨#[32]⟩ : ByteArray).data.toList = [32] from rfl, join_words] at this
  exact this

def DepIn (b : Nat) (x0 x1 x2 x3 : Int) (w : World) : Prop := b < w.heap.size ∧ w.cell? ⟨b, 0, none⟩ = some (.int .i64 x0) ∧ w.cell? ⟨b, 1, none⟩ = some (.int .i64 x1) ∧ w.cell? ⟨b, 2, none⟩ = some (.int .i64 x2) ∧ w.cell? ⟨b, 3, none⟩ = some (.int .i64 x3)

theorem DepIn.step {b : Nat} {x0 x1 x2 x3 : Int} {w w' : World} (h : DepIn b x0 x1 x2 x3 w) (hb : Below w.heap.size w w') : DepIn b x0 x1 x2 x3 w' := by
  obtain ⟨hz, e0, e1, e2, e3⟩ := h
  exact ⟨Nat.lt_of_lt_of_le hz hb.size, held_cell hb e0 hz, held_cell hb e1 hz, held_cell hb e2 hz, held_cell hb e3 hz⟩

theorem DepIn.new (x0 x1 x2 x3 : Int) (w : World) (t : Nat) : DepIn w.heap.size x0 x1 x2 x3 (w.alloc (.cells #[.int .i64 x0, .int .i64 x1, .int .i64 x2, .int .i64 x3] t)) := by
  have h := heap_alloc_new w (.cells #[.int .i64 x0, .int .i64 x1, .int .i64 x2, .int .i64 x3] t)
  refine ⟨by simp, ?_, ?_, ?_, ?_⟩ <;> (rw [cell_of_row _ _ _ _ t (0, 0) h]; rfl)

end Go.Proofs.YtbbmpfkijhhemaaGreatDoor

namespace Go.Proofs.YtbbmpfkijhhemaaGreatDoor
open Go.ChangeShapes Go.WideShapes Go.ChangeAt Go.RowKit Go.Joins
set_option maxRecDepth 100000

set_option maxHeartbeats 1000000 in
theorem implText_gen (k c s q v : Int) (de : Bool) (ag : Option Addr) (xs : List Dp) (len cap : Nat) (w : World) (hl : xs.length = len) (hn : len ≤ 1048576) (hh : Deps0 w ag xs) (ht : Tab w) :
    Calls Tryz.prog 135 #[wrV k c s q v de ag len cap] w fun e w' => e = .returned (.string (str (writeText k c s q v de xs))) ∧ Below w.heap.size w w' := by
  subst hl
  have HH : Hid (Deps0 w ag xs) := hh
  have HT : Hid (Tab w) := ht
  clear hh ht
  go_enter Tryz.func135, Tryz.ntmps135
  go_wp2_with fail
  refine (implWriteOk_gen k c s q v de ag xs _ cap _ rfl hn (HH.out.isDeps.below ((Below.refl _ _).alloc (Nat.le_refl _) _))).mono ?_
  rintro e w1 ⟨rfl, hb⟩
  have HX : Hid (BoxIn w w1 k c s q v de ag xs.length cap) := BoxIn.start hb
  clear hb
  cases hok : writeOkB k c s q v de xs
  · have HW : Hid (writeText k c s q v de xs = []) := by simp [writeText, hok, Hid]
    go_wp2
    go_ret
    rw [HW.out]
    exact ⟨rfl, HX.out.below⟩
  · have HW : Hid (writeText k c s q v de xs = headText k c s q v de xs.length ++ xs.flatMap depText) := by simp [writeText, hok, Hid]
    obtain ⟨o1, o2, o3, o4, -⟩ := ok_parts hok
    have HB : Hid (∀ x ∈ headNs k c s q v de xs.length, -9223372036854775808 ≤ x ∧ x ≤ 9223372036854775807) := head_bounds o1 o2 o3 hn
    obtain ⟨t1, HT1⟩ : ∃ t, Hid (t = str (Lib.itoa k)) := ⟨_, Lib.hid rfl⟩
    obtain ⟨t2, HT2⟩ : ∃ t, Hid (t = str (Lib.itoa c)) := ⟨_, Lib.hid rfl⟩
    obtain ⟨t3, HT3⟩ : ∃ t, Hid (t = str (Lib.itoa s)) := ⟨_, Lib.hid rfl⟩
    obtain ⟨t4, HT4⟩ : ∃ t, Hid (t = str (Lib.itoa q)) := ⟨_, Lib.hid rfl⟩
    obtain ⟨t5, HT5⟩ : ∃ t, Hid (t = str (Lib.itoa v)) := ⟨_, Lib.hid rfl⟩
    obtain ⟨t6, HT6⟩ : ∃ t, Hid (t = str (Lib.itoa (bitI de))) := ⟨_, Lib.hid rfl⟩
    obtain ⟨t7, HT7⟩ : ∃ t, Hid (t = str (Lib.itoa (xs.length : Int))) := ⟨_, Lib.hid rfl⟩
    have c6 := HX.out.c6
    obtain ⟨w2, hmk, hw2⟩ := make_words HX.out xs.length hn
    have G : w1.heap.size ≠ w.heap.size := hw2.ne
    clear HX
    generalize w1.heap.size = b at hmk hw2 G
    clear G
    have HW0 : Hid (Words w w2 k c s q v de ag xs.length cap b (8 + 4 * xs.length) [⟨#[]⟩, ⟨#[]⟩, ⟨#[]⟩, ⟨#[]⟩, ⟨#[]⟩, ⟨#[]⟩, ⟨#[]⟩, ⟨#[]⟩]) := hw2
    clear hw2
    have d0 := HW0.out.row.cell (j := 0) (t := ⟨#[]⟩) rfl
    have f0 := HW0.out.row.froz 0
    have K0 : Hid (Words w (w2.setCell ⟨b, 0, none⟩ (.string ⟨#[119]⟩)) k c s q v de ag xs.length cap b (8 + 4 * xs.length) [⟨#[119]⟩, ⟨#[]⟩, ⟨#[]⟩, ⟨#[]⟩, ⟨#[]⟩, ⟨#[]⟩, ⟨#[]⟩, ⟨#[]⟩]) := HW0.out.set 0 _
    have e0 := K0.out.box.c0
    go_wp2_with fail
    refine (implNumT _ t1 _ HT1.out (HB.out _ (by simp [headNs])) (K0.out.tab HT.out)).mono ?_
    rintro e w3 ⟨rfl, hb⟩
    have HW1 : Hid (Words w w3 k c s q v de ag xs.length cap b (8 + 4 * xs.length) [⟨#[119]⟩, ⟨#[]⟩, ⟨#[]⟩, ⟨#[]⟩, ⟨#[]⟩, ⟨#[]⟩, ⟨#[]⟩, ⟨#[]⟩]) := K0.out.step hb
    clear hb K0 HW0 d0 f0 e0
    clear hmk c6
    have d1 := HW1.out.row.cell (j := 1) (t := ⟨#[]⟩) rfl
    have f1 := HW1.out.row.froz 1
    have K1 : Hid (Words w (w3.setCell ⟨b, 1, none⟩ (.string t1)) k c s q v de ag xs.length cap b (8 + 4 * xs.length) [⟨#[119]⟩, t1, ⟨#[]⟩, ⟨#[]⟩, ⟨#[]⟩, ⟨#[]⟩, ⟨#[]⟩, ⟨#[]⟩]) := HW1.out.set 1 _
    have e1 := K1.out.box.c1
    go_wp2_with fail
    refine (implNumT _ t2 _ HT2.out (HB.out _ (by simp [headNs])) (K1.out.tab HT.out)).mono ?_
    rintro e w4 ⟨rfl, hb⟩
    have HW2 : Hid (Words w w4 k c s q v de ag xs.length cap b (8 + 4 * xs.length) [⟨#[119]⟩, t1, ⟨#[]⟩, ⟨#[]⟩, ⟨#[]⟩, ⟨#[]⟩, ⟨#[]⟩, ⟨#[]⟩]) := K1.out.step hb
    clear hb K1 HW1 d1 f1 e1
    have d2 := HW2.out.row.cell (j := 2) (t := ⟨#[]⟩) rfl
    have f2 := HW2.out.row.froz 2
    have K2 : Hid (Words w (w4.setCell ⟨b, 2, none⟩ (.string t2)) k c s q v de ag xs.length cap b (8 + 4 * xs.length) [⟨#[119]⟩, t1, t2, ⟨#[]⟩, ⟨#[]⟩, ⟨#[]⟩, ⟨#[]⟩, ⟨#[]⟩]) := HW2.out.set 2 _
    have e2 := K2.out.box.c2
    go_wp2_with fail
    refine (implNumT _ t3 _ HT3.out (HB.out _ (by simp [headNs])) (K2.out.tab HT.out)).mono ?_
    rintro e w5 ⟨rfl, hb⟩
    have HW3 : Hid (Words w w5 k c s q v de ag xs.length cap b (8 + 4 * xs.length) [⟨#[119]⟩, t1, t2, ⟨#[]⟩, ⟨#[]⟩, ⟨#[]⟩, ⟨#[]⟩, ⟨#[]⟩]) := K2.out.step hb
    clear hb K2 HW2 d2 f2 e2
    have d3 := HW3.out.row.cell (j := 3) (t := ⟨#[]⟩) rfl
    have f3 := HW3.out.row.froz 3
    have K3 : Hid (Words w (w5.setCell ⟨b, 3, none⟩ (.string t3)) k c s q v de ag xs.length cap b (8 + 4 * xs.length) [⟨#[119]⟩, t1, t2, t3, ⟨#[]⟩, ⟨#[]⟩, ⟨#[]⟩, ⟨#[]⟩]) := HW3.out.set 3 _
    have e3 := K3.out.box.c3
    go_wp2_with fail
    refine (implNumT _ t4 _ HT4.out (HB.out _ (by simp [headNs])) (K3.out.tab HT.out)).mono ?_
    rintro e w6 ⟨rfl, hb⟩
    have HW4 : Hid (Words w w6 k c s q v de ag xs.length cap b (8 + 4 * xs.length) [⟨#[119]⟩, t1, t2, t3, ⟨#[]⟩, ⟨#[]⟩, ⟨#[]⟩, ⟨#[]⟩]) := K3.out.step hb
    clear hb K3 HW3 d3 f3 e3
    have d4 := HW4.out.row.cell (j := 4) (t := ⟨#[]⟩) rfl
    have f4 := HW4.out.row.froz 4
    have K4 : Hid (Words w (w6.setCell ⟨b, 4, none⟩ (.string t4)) k c s q v de ag xs.length cap b (8 + 4 * xs.length) [⟨#[119]⟩, t1, t2, t3, t4, ⟨#[]⟩, ⟨#[]⟩, ⟨#[]⟩]) := HW4.out.set 4 _
    have e4 := K4.out.box.c4
    go_wp2_with fail
    refine (implNumT _ t5 _ HT5.out (HB.out _ (by simp [headNs])) (K4.out.tab HT.out)).mono ?_
    rintro e w7 ⟨rfl, hb⟩
    have HW5 : Hid (Words w w7 k c s q v de ag xs.length cap b (8 + 4 * xs.length) [⟨#[119]⟩, t1, t2, t3, t4, ⟨#[]⟩, ⟨#[]⟩, ⟨#[]⟩]) := K4.out.step hb
    clear hb K4 HW4 d4 f4 e4
    have d5 := HW5.out.row.cell (j := 5) (t := ⟨#[]⟩) rfl
    have f5 := HW5.out.row.froz 5
    have K5 : Hid (Words w (w7.setCell ⟨b, 5, none⟩ (.string t5)) k c s q v de ag xs.length cap b (8 + 4 * xs.length) [⟨#[119]⟩, t1, t2, t3, t4, t5, ⟨#[]⟩, ⟨#[]⟩]) := HW5.out.set 5 _
    have e5 := K5.out.box.c5
    go_wp2_with fail
    refine (flag_any de _).mono ?_
    rintro e w' ⟨rfl, rfl⟩
    go_wp2_with fail
    refine (implNumT _ t6 _ HT6.out (HB.out _ (by simp [headNs])) (K5.out.tab HT.out)).mono ?_
    rintro e w8 ⟨rfl, hb⟩
    have HW6 : Hid (Words w w8 k c s q v de ag xs.length cap b (8 + 4 * xs.length) [⟨#[119]⟩, t1, t2, t3, t4, t5, ⟨#[]⟩, ⟨#[]⟩]) := K5.out.step hb
    clear hb K5 HW5 d5 f5 e5
    have d6 := HW6.out.row.cell (j := 6) (t := ⟨#[]⟩) rfl
    have f6 := HW6.out.row.froz 6
    have K6 : Hid (Words w (w8.setCell ⟨b, 6, none⟩ (.string t6)) k c s q v de ag xs.length cap b (8 + 4 * xs.length) [⟨#[119]⟩, t1, t2, t3, t4, t5, t6, ⟨#[]⟩]) := HW6.out.set 6 _
    have e6 := K6.out.box.c6
    go_wp2_with fail
    refine (implNumT _ t7 _ HT7.out (HB.out _ (by simp [headNs])) (K6.out.tab HT.out)).mono ?_
    rintro e w9 ⟨rfl, hb⟩
    have HW7 : Hid (Words w w9 k c s q v de ag xs.length cap b (8 + 4 * xs.length) [⟨#[119]⟩, t1, t2, t3, t4, t5, t6, ⟨#[]⟩]) := K6.out.step hb
    clear hb K6 HW6 d6 f6 e6
    have d7 := HW7.out.row.cell (j := 7) (t := ⟨#[]⟩) rfl
    have f7 := HW7.out.row.froz 7
    have K7 : Hid (Words w (w9.setCell ⟨b, 7, none⟩ (.string t7)) k c s q v de ag xs.length cap b (8 + 4 * xs.length) [⟨#[119]⟩, t1, t2, t3, t4, t5, t6, t7]) := HW7.out.set 7 _
    have e7 := K7.out.box.c6
    have HE : Hid ([⟨#[119]⟩, t1, t2, t3, t4, t5, t6, t7] = wordsOf (headNs k c s q v de xs.length)) := by
      rw [HT1.out, HT2.out, HT3.out, HT4.out, HT5.out, HT6.out, HT7.out]
      exact Lib.hid rfl
    clear HT1 HT2 HT3 HT4 HT5 HT6 HT7
    go_wp2
    go_loopw [3, 60] (fun t i wr => ∃ (j g' wc : Nat) (ns : List Int), j ≤ xs.length ∧ i = .int .i64 j ∧ t = .slice (some ⟨g', 0, none⟩) (8 + 4 * j) wc ∧ Hid (ns = headNs k c s q v de xs.length ++ (xs.take j).flatMap depNs) ∧ Hid ((wordsOf ns).length = 8 + 4 * j) ∧ Hid (∀ x ∈ ns, B64 x) ∧ Hid (Words w wr k c s q v de ag xs.length cap g' wc (wordsOf ns))) (fun _ i _ => xs.length - (intOf i).toNat)
    case atStart => exact ⟨0, b, 8 + 4 * xs.length, headNs k c s q v de xs.length, by omega, rfl, rfl, by simp [Hid], rfl, HB.out, by rw [HE.out] at K7; exact K7⟩
    case round =>
    clear K7 HE HW7 d7 f7 e7 HB
    obtain ⟨j, g', wc, ns, hj, rfl, rfl, HN, HL, HBN, HWD⟩ := hrel
    by_cases hj' : j < xs.length
    · have j1 : (0 : Int) ≤ (j : Int) := by omega
      have j2 : (j : Int) < (xs.length : Int) := by omega
      obtain ⟨g, rfl, hlt, hhd⟩ := HH.out.get hj'
      obtain ⟨e0, e1, e2, e3⟩ := dep_cells4 hhd HWD.out.box.below hlt hj'
      clear hhd
      have HBD : Hid (∀ x ∈ depNs (xs.getD j dz), B64 x) := dep_b64 (ints_key (dep_key o4 hj')) (ints_tag (depsOk_tag o4 hj'))
      have HM := Lib.hid (deps_more xs j hj')
      rw [show depNs (xs.getD j dz) = [(xs.getD j dz).k, (xs.getD j dz).c, (xs.getD j dz).s, (xs.getD j dz).q] from rfl] at HBD HM
      generalize (xs.getD j dz).k = x0 at e0 HBD HM
      generalize (xs.getD j dz).c = x1 at e1 HBD HM
      generalize (xs.getD j dz).s = x2 at e2 HBD HM
      generalize (xs.getD j dz).q = x3 at e3 HBD HM
      obtain ⟨y0, HY0⟩ : ∃ t, Hid (t = str (Lib.itoa x0)) := ⟨_, Lib.hid rfl⟩
      obtain ⟨y1, HY1⟩ : ∃ t, Hid (t = str (Lib.itoa x1)) := ⟨_, Lib.hid rfl⟩
      obtain ⟨y2, HY2⟩ : ∃ t, Hid (t = str (Lib.itoa x2)) := ⟨_, Lib.hid rfl⟩
      obtain ⟨y3, HY3⟩ : ∃ t, Hid (t = str (Lib.itoa x3)) := ⟨_, Lib.hid rfl⟩
      go_wp2_with fail
      clear e0 e1 e2 e3
      have HWD0 : Hid (Words w (wr.alloc (.cells #[.int .i64 x0, .int .i64 x1, .int .i64 x2, .int .i64 x3] 81)) k c s q v de (some ⟨g, 0, none⟩) xs.length cap g' wc (wordsOf ns)) := HWD.out.step ((Below.refl _ _).alloc (Nat.le_refl _) _)
      have HDP : Hid (DepIn wr.heap.size x0 x1 x2 x3 (wr.alloc (.cells #[.int .i64 x0, .int .i64 x1, .int .i64 x2, .int .i64 x3] 81))) := DepIn.new x0 x1 x2 x3 wr _
      generalize wr.alloc (.cells #[.int .i64 x0, .int .i64 x1, .int .i64 x2, .int .i64 x3] 81) = wd at HWD0 HDP ⊢
      generalize wr.heap.size = bd at HDP ⊢
      clear HWD
      refine wp_region_slots 17 [[(3, false)], [(5, false)], [(65, true)], [(66, true)], [(5, false)], [(68, true)], [(69, true)], [(70, true)], [(5, false)], [(72, true)], [(73, true)], [(74, true)], [(5, false)], [(76, true)], [(77, true)], [(78, true)], [(67, true), (71, true), (75, true), (79, true)]] (fun w' => Hid (Words w w' k c s q v de (some ⟨g, 0, none⟩) xs.length cap g' wc (wordsOf ns)) ∧ DepIn bd x0 x1 x2 x3 w') (fun w w' => Below w.heap.size w w') (by kernel_rfl) (by kernel_rfl) (by rfl) ⟨HWD0.out.step (Below.refl _ _).drew, HDP.out.step (Below.refl _ _).drew⟩ (fun _ _ h hb => ⟨h.1.out.step hb, h.2.step hb⟩) ?_
      iterate 3 (apply slot_eq; · (intro ρ w' ⟨p1, p2, p3⟩ ⟨HS, hz, e0, e1, e2, e3⟩ hn; simp at hn; go_simp; exact ⟨Below.refl _ _, rfl⟩))
      apply slot_eq
      · intro ρ w' ⟨p1, p2, p3⟩ ⟨HS, hz, e0, e1, e2, e3⟩ hn
        simp at hn
        go_simp
        exact got_call (implNumT x0 y0 _ HY0.out (HBD.out x0 (by simp)) (HS.out.tab HT.out)) fun e w'' ⟨he, hb⟩ => ⟨_, he, hb, rfl⟩
      iterate 3 (apply slot_eq; · (intro ρ w' ⟨p1, p2, p3⟩ ⟨HS, hz, e0, e1, e2, e3⟩ hn; simp at hn; go_simp; exact ⟨Below.refl _ _, rfl⟩))
      apply slot_eq
      · intro ρ w' ⟨p1, p2, p3⟩ ⟨HS, hz, e0, e1, e2, e3⟩ hn
        simp at hn
        go_simp
        exact got_call (implNumT x1 y1 _ HY1.out (HBD.out x1 (by simp)) (HS.out.tab HT.out)) fun e w'' ⟨he, hb⟩ => ⟨_, he, hb, rfl⟩
      iterate 3 (apply slot_eq; · (intro ρ w' ⟨p1, p2, p3⟩ ⟨HS, hz, e0, e1, e2, e3⟩ hn; simp at hn; go_simp; exact ⟨Below.refl _ _, rfl⟩))
      apply slot_eq
      · intro ρ w' ⟨p1, p2, p3⟩ ⟨HS, hz, e0, e1, e2, e3⟩ hn
        simp at hn
        go_simp
        exact got_call (implNumT x2 y2 _ HY2.out (HBD.out x2 (by simp)) (HS.out.tab HT.out)) fun e w'' ⟨he, hb⟩ => ⟨_, he, hb, rfl⟩
      iterate 3 (apply slot_eq; · (intro ρ w' ⟨p1, p2, p3⟩ ⟨HS, hz, e0, e1, e2, e3⟩ hn; simp at hn; go_simp; exact ⟨Below.refl _ _, rfl⟩))
      apply slot_eq
      · intro ρ w' ⟨p1, p2, p3⟩ ⟨HS, hz, e0, e1, e2, e3⟩ hn
        simp at hn
        go_simp
        exact got_call (implNumT x3 y3 _ HY3.out (HBD.out x3 (by simp)) (HS.out.tab HT.out)) fun e w'' ⟨he, hb⟩ => ⟨_, he, hb, rfl⟩
      refine slot_fact (StrsFact [y0, y1, y2, y3]) (lasts_strs _) ?_ ?_
      · intro ρ w' ⟨p1, p2, p3⟩ ⟨HS, hz, e0, e1, e2, e3⟩ hn
        simp at hn
        go_simp
        exact ⟨(Below.refl _ _).alloc (Nat.le_refl _) _, strs_new [y0, y1, y2, y3]⟩
      refine slot_end ?_
      rintro vs w3 ⟨HS, -⟩ hF
      clear HWD0 HDP
      simp at hF
      obtain ⟨⟨g2, v80, hg2, hc2⟩, v79, v78, v77, v76, v75, v74, v73, v72, v71, v70, v69, v68, v67, v66, v65, v64⟩ := hF
      simp only [List.take_succ_cons, List.take_zero, List.drop_succ_cons, List.drop_zero, putAll, v80, v79, v78, v77, v76, v75, v74, v73, v72, v71, v70, v69, v68, v67, v66, v65, v64]
      clear v80 v79 v78 v77 v76 v75 v74 v73 v72 v71 v70 v69 v68 v67 v66 v65 v64
      obtain ⟨i0, hi0, hx0⟩ := Option.map_eq_some_iff.1 infoStr
      simp only [Prod.mk.injEq] at hx0
      have HI0 := Lib.hid hi0
      have HX0 := Lib.hid hx0
      clear hi0 hx0
      have HOW : Hid (w3.ownsRow (w.heap.size + 1) 9 1 (.slice (some ⟨g', 0, none⟩) (8 + 4 * j) wc) (8 + 4 * j) ((wordsOf ns).map Value.string)) := by
        have h := HS.out.row.own
        rw [HL.out] at h
        exact h
      have HC2 : Hid (∀ (i : Nat) u, ([y0, y1, y2, y3].map Value.string)[i]? = some u → w3.cell? ((⟨g2, 0, none⟩ : Addr).add i) = some u) := fun i u hu => by
        have := hc2 i u (by simpa using hu)
        cases i with
        | zero => simpa [Addr.add] using this
        | succ i => simpa [Addr.add] using this
      have hb3 : w.heap.size + 1 ≤ w3.heap.size := HS.out.box.lt
      clear hc2
      simp only [Act.put, List.setIfInBounds_toArray, List.set_cons_succ, List.set_cons_zero]
      go_wp2_with (at_builtin; refine wpList_append_lies _ (by rfl) _ _ _ (by rfl) (w.heap.size + 1) 9 i0 (.string ⟨#[]⟩) 1 16 Tryz.underlying182 HI0.out HX0.out.1 HX0.out.2.1 HX0.out.2.2 (by rfl) (by omega) (.slice (some ⟨g', 0, none⟩) (8 + 4 * j) wc) (8 + 4 * j) ((wordsOf ns).map Value.string) (by rfl) HOW.out ⟨g2, 0, none⟩ 4 4 ([y0, y1, y2, y3].map Value.string) (by rfl) (by rfl) HC2.out (by simp [Value.oneCell']) (by omega) (by unfold maxLen; omega) (by omega) hb3 _ rfl ?_; intro g3 wc3 w5 hown hgrow _ _; refine Hid.out ?_)
      refine Lib.hid ?_
      have HN5 : Hid (ns ++ [x0, x1, x2, x3] = headNs k c s q v de xs.length ++ (xs.take (j + 1)).flatMap depNs) := by
        rw [HM.out, HN.out, List.append_assoc]
        exact Lib.hid rfl
      have HE5 : Hid (wordsOf (ns ++ [x0, x1, x2, x3]) = wordsOf ns ++ [y0, y1, y2, y3]) := by
        rw [words_more, HY0.out, HY1.out, HY2.out, HY3.out]
        exact Lib.hid rfl
      have HL5 : Hid ((wordsOf (ns ++ [x0, x1, x2, x3])).length = 8 + 4 * (j + 1)) := by
        rw [HE5.out, List.length_append, HL.out]
        exact Lib.hid rfl
      have HB5 : Hid (∀ x ∈ ns ++ [x0, x1, x2, x3], B64 x) := fun x hx => (List.mem_append.1 hx).elim (HBN.out x) (HBD.out x)
      obtain ⟨hlt3, hle3⟩ := (fun h => (hown.lt g3 h).symm : _ → _ ∧ _) rfl
      have HW5 : Hid (Words w w5 k c s q v de (some ⟨g, 0, none⟩) xs.length cap g3 wc3 (wordsOf (ns ++ [x0, x1, x2, x3]))) := by
        refine HS.out.grown hgrow ⟨hle3, hlt3, ?_⟩
        rw [HL5.out, HE5.out, List.map_append]
        exact hown
      clear hown hgrow HS HOW HC2 HN HL HBN HE5
      go_wp2
      exact ⟨⟨j + 1, g3, wc3, _, by omega, by go_num, rfl, HN5, HL5, HB5, HW5⟩, by simp [intOf]; omega⟩
    · have hjn : j = xs.length := by omega
      subst hjn
      have HNW : Hid (writeText k c s q v de xs = 119 :: numsText ns) := by
        rw [HW.out, ← text_nums, HN.out, List.take_length]
        exact Lib.hid rfl
      have hlen : (119 :: numsText ns).length ≤ 140737488355328 := by
        have h1 := nums_most ns HBN.out
        have h2 := HL.out
        simp only [wordsOf, List.length_cons, List.length_map] at h2
        simp only [List.length_cons]
        omega
      go_wp2_with fail
      refine (join_any _ g' wc _ ns _ HL.out (by omega) HWD.out.row hlen).mono ?_
      rintro e w3 ⟨rfl, hb⟩
      have HB3 : Hid (Below w.heap.size w w3) := below_step HWD.out.box.below HWD.out.box.below.size hb
      clear hb
      go_wp2
      go_ret
      rw [HNW.out]
      exact ⟨rfl, HB3.out⟩
end Go.Proofs.YtbbmpfkijhhemaaGreatDoor

namespace Go.Proofs.YtbbmpfkijhhemaaGreatDoor
open Go.ChangeShapes Go.WideShapes Go.ChangeAt Go.RowKit Go.Joins
set_option maxRecDepth 100000

theorem nums_are {bs : List UInt8} {W : List ByteArray} {zs : List Int} {n : Nat} (hW : NoBlank W) (hg : glue W = bs ++ [32]) (hn : W.length = n) (hz : zs.length = n) (ha : ∀ j, j + 1 < n → Lib.atoiAll (W.getD (j + 1) ⟨#[]⟩).data.toList = .ok (zs.getD (j + 1) 0)) {x : Wr} (hx : IsText bs x) : zs.drop 1 = nsR x := by
  have hr := rng_ns hx.1
  have e := words_are hx hr hW hg
  have hl : (nsR x).length + 1 = n := by rw [← hn, e]; simp [wordsOf]
  refine List.ext_getElem (by rw [List.length_drop, hz]; omega) fun j h1 h2 => ?_
  have h3 := ha j (by omega)
  have h4 : W.getD (j + 1) ⟨#[]⟩ = str (Lib.itoa ((nsR x)[j])) := by rw [e]; simp [wordsOf, List.getD, h2]
  rw [h4] at h3
  have h5 := atoi_itoa (hr _ (List.getElem_mem h2))
  have h6 : (str (Lib.itoa ((nsR x)[j]))).data.toList = Lib.itoa ((nsR x)[j]) := by simp [str]
  rw [h6, h5] at h3
  injection h3 with h3
  rw [h3]
  have h7 : j + 1 < zs.length := by omega
  simp [List.getD, h7]

theorem nums_parse (zs : List Int) : parseW (zs.drop 1) = ⟨zs.getD 1 0, zs.getD 2 0, zs.getD 3 0, zs.getD 4 0, zs.getD 5 0, zs.getD 6 0 == 1, parseD (zs.drop 8)⟩ := by
  unfold parseW
  rw [List.drop_drop]
  simp only [drop_getD]

theorem glue_big {bs : List UInt8} {W : List ByteArray} (hg : glue W = bs ++ [32]) (hl : 2 ≤ W.length) : bs ≠ [] := by
  rintro rfl
  have := (count_glue W).1
  rw [hg] at this
  simp at this
  omega

set_option maxHeartbeats 8000000 in
theorem implRead_any (s : ByteArray) (w : World) (hs : s.size ≤ 1048576) (hv : RV w) (ht : Tab w) :
    Calls Tryz.prog 190 #[.string s] w fun e w' => ReadAns w w' s.data.toList e := by
  have hlt : 6 < w.heap.size := ht.lt
  have HT := Lib.hid ht
  have HR0 : Hid (RBox (w.alloc (.cells #[.int .i64 0, .int .i64 0, .int .i64 0, .int .i64 0, .int .i64 0, .bool false, .slice none 0 0] 33)) w.heap.size 0 0 0 0 0 false none 0 0) := RBox.start w 0 0 0 0 0 false none 0 0 _
  have HB0 : Hid (Below w.heap.size w (w.alloc (.cells #[.int .i64 0, .int .i64 0, .int .i64 0, .int .i64 0, .int .i64 0, .bool false, .slice none 0 0] 33))) := (Below.refl _ _).alloc (Nat.le_refl _) _
  have hz0 : w.heap.size < (w.alloc (.cells #[.int .i64 0, .int .i64 0, .int .i64 0, .int .i64 0, .int .i64 0, .bool false, .slice none 0 0] 33)).heap.size := by simp
  have HV := Lib.hid (hv.below HB0.out)
  clear hv ht
  go_enter Tryz.func190, Tryz.ntmps190
  go_wp2_with fail
  generalize w.alloc (.cells #[.int .i64 0, .int .i64 0, .int .i64 0, .int .i64 0, .int .i64 0, .bool false, .slice none 0 0] 33) = W0 at *
  refine (readNums_any s _ hs HV.out).mono ?_
  rintro e w1 ⟨hb, ⟨g, n, D, zs, W, rfl, hn, hD, hzl, hg, hrow, hWl, hnb, hgl, hat⟩ | ⟨hno, rfl⟩⟩
  rotate_left
  · have HNO := Lib.hid hno
    have HBW : Hid (Below w.heap.size w w1) := below_step HB0.out HB0.out.size hb
    have HX3 := Lib.hid (HR0.out.below hb hz0)
    clear hno hb
    obtain ⟨yl, y0, y1, y2, y3, y4, y5, y6, yf⟩ := HX3.out
    go_wp2
    obtain ⟨X, hX⟩ : ∃ X, put7 w1 w.heap.size 0 0 0 0 0 false none 0 0 = X := ⟨_, rfl⟩
    have HZX : Hid (RBox X w.heap.size 0 0 0 0 0 false none 0 0) := by rw [← hX]; exact HX3.out.put7 0 0 0 0 0 false none 0 0
    have HBX : Hid (Below w.heap.size w X) := by rw [← hX]; exact Hole.below HBW.out ((Hole.refl _ _).put7 0 0 0 0 0 false none 0 0) (Nat.le_refl _) HBW.out.size
    unfold put7 at hX
    rw [hX]
    clear hX
    obtain ⟨zl, z0, z1, z2, z3, z4, z5, z6, zf⟩ := HZX.out
    refine bodyPost_ret (v := .tuple #[wrV 0 0 0 0 0 false none 0 0, .bool false]) (by simp [results, Tryz.results190, go_sem, z0, z1, z2, z3, z4, z5, z6]) rfl ?_
    exact ⟨HBX.out, .inr ⟨HNO.out, rfl⟩⟩
  · have HARE : Hid (∀ x, IsText s.data.toList x → zs.drop 1 = nsR x) := fun x hx => nums_are hnb hgl hWl hzl hat hx
    have HNE := Lib.hid (glue_big hgl (by omega))
    have HPZ := Lib.hid (nums_parse zs)
    have HNM := Lib.hid hrow
    have HDN : Hid ((parseD (zs.drop 8)).length = D) := (parseD_at D (l := zs.drop 8) (by rw [List.length_drop, hzl]; omega)).1
    have HON := Lib.hid (ofNums_any g n D zs w1 hn (by omega) hzl hrow)
    have HBW : Hid (Below w.heap.size w w1) := below_step HB0.out HB0.out.size hb
    have HX1 := Lib.hid (HR0.out.below hb hz0)
    have hs1 : W0.heap.size ≤ w1.heap.size := hb.size
    clear hn hzl hrow hWl hnb hgl hat hb hg
    go_wp2_with fail
    refine HON.out.mono ?_
    rintro e w2 ⟨a, cp, rfl, hrd, hb⟩
    have HRD := Lib.hid hrd
    have HX2 := Lib.hid (HX1.out.below hb HX1.out.lt)
    have HBW2 : Hid (Below w.heap.size w w2) := below_step HBW.out HBW.out.size hb
    have hs2 : w1.heap.size ≤ w2.heap.size := hb.size
    obtain ⟨ds, hds⟩ : ∃ ds, parseD (zs.drop 8) = ds := ⟨_, rfl⟩
    rw [hds] at HRD HPZ HDN
    generalize zs.getD 1 0 = n0 at *
    generalize zs.getD 2 0 = n1 at *
    generalize zs.getD 3 0 = n2 at *
    generalize zs.getD 4 0 = n3 at *
    generalize zs.getD 5 0 = n4 at *
    generalize zs.getD 6 0 = n5 at *
    clear hrd hb hds HON HX1 HBW HNM
    have HBA : Hid (Below w2.heap.size w2 (w2.alloc (.cells #[.int .i64 n0, .int .i64 n1, .int .i64 n2, .int .i64 n3, .int .i64 n4, .bool (n5 == 1), .slice a D cp] 33))) := (Below.refl _ _).alloc (Nat.le_refl _) _
    have HTX : Hid (RBox (w2.alloc (.cells #[.int .i64 n0, .int .i64 n1, .int .i64 n2, .int .i64 n3, .int .i64 n4, .bool (n5 == 1), .slice a D cp] 33)) w2.heap.size n0 n1 n2 n3 n4 (n5 == 1) a D cp) := RBox.start w2 n0 n1 n2 n3 n4 (n5 == 1) a D cp _
    have HX3 := Lib.hid (HX2.out.below HBA.out HX2.out.lt)
    have hR2 : w.heap.size < w2.heap.size := HX2.out.lt
    have HRD3 := Lib.hid (HRD.out.below HBA.out)
    have HBW3 : Hid (Below w.heap.size w (w2.alloc (.cells #[.int .i64 n0, .int .i64 n1, .int .i64 n2, .int .i64 n3, .int .i64 n4, .bool (n5 == 1), .slice a D cp] 33))) := below_step HBW2.out HBW2.out.size HBA.out
    have HT3 := Lib.hid (HT.out.below HBW3.out hlt)
    clear HX2 HRD HBW2 HBA
    go_wp2_with fail
    generalize w2.alloc (.cells #[.int .i64 n0, .int .i64 n1, .int .i64 n2, .int .i64 n3, .int .i64 n4, .bool (n5 == 1), .slice a D cp] 33) = W3 at *
    refine (implText_gen n0 n1 n2 n3 n4 (n5 == 1) a ds D cp _ HDN.out (by omega) (deps0_of HRD3.out).1 HT3.out).mono ?_
    rintro e w6 ⟨rfl, hb⟩
    have HRW6 := Lib.hid (HRD3.out.below hb)
    have HX6 := Lib.hid (HX3.out.below hb HX3.out.lt)
    have HT6 := Lib.hid (HTX.out.below hb HTX.out.lt)
    have HBW6 : Hid (Below w.heap.size w w6) := below_step HBW3.out HBW3.out.size hb
    have hl0 : w.heap.size < w1.heap.size := by omega
    obtain ⟨S, hS⟩ : ∃ S, str (writeText n0 n1 n2 n3 n4 (n5 == 1) ds) = S := ⟨_, rfl⟩
    have HSS := Lib.hid hS
    rw [hS]
    clear hb hS HRD3 HX3 HTX HBW3 HT3
    obtain ⟨yl, y0, y1, y2, y3, y4, y5, y6, yf⟩ := HX6.out
    by_cases hq : S = s
    · rw [hq] at HSS ⊢
      clear hq
      obtain ⟨tl, t0, t1, t2, t3, t4, t5, t6, tf⟩ := HT6.out
      have HTXT : Hid (IsText s.data.toList ⟨n0, n1, n2, n3, n4, n5 == 1, ds⟩) := by
        refine read_yes ?_ ?_
        · have h1 := HSS.out
          show writeText n0 n1 n2 n3 n4 (n5 == 1) ds = s.data.toList
          rw [← h1]
          simp [str]
        · exact HNE.out
      have HTQ := Lib.hid (HRW6.out.holeQ ((Hole.refl w.heap.size w6).put7 n0 n1 n2 n3 n4 (n5 == 1) a D cp) hl0)
      go_wp2
      obtain ⟨X, hX⟩ : ∃ X, put7 w6 w.heap.size n0 n1 n2 n3 n4 (n5 == 1) a D cp = X := ⟨_, rfl⟩
      have HZX : Hid (RBox X w.heap.size n0 n1 n2 n3 n4 (n5 == 1) a D cp) := by rw [← hX]; exact HX6.out.put7 n0 n1 n2 n3 n4 (n5 == 1) a D cp
      have HBX : Hid (Below w.heap.size w X) := by rw [← hX]; exact Hole.below HBW6.out ((Hole.refl _ _).put7 n0 n1 n2 n3 n4 (n5 == 1) a D cp) (Nat.le_refl _) HBW6.out.size
      have HQX : Hid (RowD X w.heap.size (.slice a ds.length cp) ds) := by
        rw [hX] at HTQ
        rw [HDN.out]
        exact HTQ.out.mono (Nat.le_of_lt hl0)
      unfold put7 at hX
      rw [hX]
      clear hX HTQ
      obtain ⟨zl, z0, z1, z2, z3, z4, z5, z6, zf⟩ := HZX.out
      refine bodyPost_ret (v := .tuple #[wrV n0 n1 n2 n3 n4 (n5 == 1) a D cp, .bool true]) (by simp [results, Tryz.results190, go_sem, z0, z1, z2, z3, z4, z5, z6]) rfl ?_
      exact ⟨HBX.out, .inl ⟨⟨n0, n1, n2, n3, n4, n5 == 1, ds⟩, a, cp, by rw [HDN.out], HTXT.out, HQX.out⟩⟩
    · have HNO : Hid (∀ x, ¬ IsText s.data.toList x) := fun x hx => by
        have h1 := HARE.out x hx
        have h2 := HPZ.out
        rw [h1, parse_back] at h2
        apply hq
        rw [← HSS.out]
        have h3 := hx.2
        rw [h2] at h3
        have h4 : writeText n0 n1 n2 n3 n4 (n5 == 1) ds = s.data.toList := h3
        rw [h4]
        simp [str]
      have hq' : (S.toList == s.toList) = false := by
        rw [beq_eq_false_iff_ne, ByteArray.toList_eq, ByteArray.toList_eq]
        intro h1
        apply hq
        cases S
        cases s
        simp at h1
        rw [h1]
      go_wp2
      obtain ⟨X, hX⟩ : ∃ X, put7 w6 w.heap.size 0 0 0 0 0 false none 0 0 = X := ⟨_, rfl⟩
      have HZX : Hid (RBox X w.heap.size 0 0 0 0 0 false none 0 0) := by rw [← hX]; exact HX6.out.put7 0 0 0 0 0 false none 0 0
      have HBX : Hid (Below w.heap.size w X) := by rw [← hX]; exact Hole.below HBW6.out ((Hole.refl _ _).put7 0 0 0 0 0 false none 0 0) (Nat.le_refl _) HBW6.out.size
      unfold put7 at hX
      rw [hX]
      clear hX
      obtain ⟨zl, z0, z1, z2, z3, z4, z5, z6, zf⟩ := HZX.out
      refine bodyPost_ret (v := .tuple #[wrV 0 0 0 0 0 false none 0 0, .bool false]) (by simp [results, Tryz.results190, go_sem, z0, z1, z2, z3, z4, z5, z6]) rfl ?_
      exact ⟨HBX.out, .inr ⟨HNO.out, rfl⟩⟩

end Go.Proofs.YtbbmpfkijhhemaaGreatDoor

namespace Go.Proofs.YtbbmpfkijhhemaaGreatDoor
open Go.ChangeShapes Go.WideShapes Go.ChangeAt Go.RowKit Go.Joins
set_option maxRecDepth 100000
attribute [local go_sem ↓] Go.wp_at_zero Go.wp_at_succ

theorem str_beq (a b : List UInt8) : ((str a).toList == (str b).toList) = decide (a = b) := by
  rw [ByteArray.toList_eq, ByteArray.toList_eq]
  by_cases h : a = b
  · subst h
    simp
  · have h2 : (str a).data.toList ≠ (str b).data.toList := fun e => h (by simpa [str] using e)
    rw [decide_eq_false h]
    exact beq_eq_false_iff_ne.2 h2

theorem valid_cut {t : List UInt8} (h : (10 : UInt8) ∉ t) : ∀ ws, ¬ ValidAt t ws := fun _ hv => h (valid_line hv)

def HeadAns (s : ByteArray) (p B : Nat) (w w' : World) (e : Ending) : Prop :=
  Hole B w w' ∧ ((∃ m r, 1 ≤ m ∧ m ≤ 6 ∧ s.data.toList.drop p = headB m ++ 10 :: r ∧ e = .returned (.tuple #[.int .i64 (m : Int), .nilIface]) ∧ Rdr w' B s (p + (headB m).length + 1)) ∨
    ((∀ ws, ¬ ValidAt (s.data.toList.drop p) ws) ∧ ∃ t v, e = .returned (.tuple #[.int .i64 0, .iface t v])))

set_option maxHeartbeats 4000000 in
theorem rdHead_any (w0 : World) (s : ByteArray) (p B : Nat) (w : World) (hs : s.size ≤ 1048576) (hp : p ≤ s.size) (hE : EV w0) (hT : Tab w0) (hb : Below w0.heap.size w0 w) (hB : w0.heap.size ≤ B) (hr : Rdr w B s p) :
    Calls Tryz.prog 168 #[.pointer (some ⟨B, 0, none⟩)] w fun e w' => HeadAns s p B w w' e := by
  have HE := Lib.hid hE
  have HT := Lib.hid hT
  have hlt : 6 < w0.heap.size := hT.lt
  have HB0 := Lib.hid hb
  have HR := Lib.hid hr
  clear hE hT hb hr
  go_enter Tryz.func168, Tryz.ntmps168
  go_wp2_with fail
  refine (rdLine_any w0 s p B _ hs hp HE.out HB0.out HR.out).mono ?_
  rintro e w1 ⟨hh, ⟨l, r, hlr, hl, rfl, hr1⟩ | ⟨hno, t, v, rfl⟩⟩
  rotate_left
  · have HH := Lib.hid hh
    have HN := Lib.hid (valid_cut hno)
    clear hh hno
    go_wp2
    refine bodyPost_ret (v := .tuple #[.int .i64 0, .iface t v]) (by simp [results, Tryz.results168, go_sem]) rfl ?_
    exact ⟨HH.out, .inr ⟨HN.out, _, _, rfl⟩⟩
  have HH1 := Lib.hid hh
  have HB1 : Hid (Below w0.heap.size w0 w1) := Hole.below HB0.out hh hB HB0.out.size
  have HR1 := Lib.hid hr1
  have HLR := Lib.hid hlr
  have HL := Lib.hid hl
  clear hh hr1 hlr hl HB0 HR
  go_wp2
  go_loopw [6] (fun i wr => ∃ k : Nat, 1 ≤ k ∧ k ≤ 7 ∧ i = .int .i64 k ∧ Hid (∀ j, 1 ≤ j → j < k → l ≠ headB j) ∧ Hid (Below w1.heap.size w1 wr)) (fun i _ => 7 - (intOf i).toNat)
  case atStart => exact ⟨1, by omega, by omega, rfl, fun j h1 h2 => by omega, Below.refl _ _⟩
  case round =>
    obtain ⟨k, h1, h7, rfl, HK, HB⟩ := hrel
    by_cases hk : k ≤ 6
    · have i1 : (k : Int) ≤ 6 := by omega
      have HBW := Lib.hid (below_step HB1.out HB1.out.size HB.out)
      have HTW := Lib.hid (HT.out.below HBW.out hlt)
      go_wp2_with fail
      refine (headLine_any k _ hk HTW.out).mono ?_
      rintro e w2 ⟨rfl, hb⟩
      have HB2 := Lib.hid (below_step HB.out HB.out.size hb)
      clear hb
      have hq := str_beq (l ++ [10]) (headB k ++ [10])
      by_cases he : l = headB k
      · have hq2 : ((str (l ++ [10])).toList == (str (headB k ++ [10])).toList) = true := by rw [hq, he]; simp
        clear hq
        have HE2 : Hid (s.data.toList.drop p = headB k ++ 10 :: r) := by rw [← he]; exact HLR
        have HR2 : Hid (Rdr w2 B s (p + (headB k).length + 1)) := by rw [← he]; exact Lib.hid (HR1.out.below HB2.out)
        have HH2 := Lib.hid (HH1.out.trans (Hole.of_below HB2.out))
        go_wp2
        refine bodyPost_ret (v := .tuple #[.int .i64 (k : Int), .nilIface]) (by simp [results, Tryz.results168, go_sem]) rfl ?_
        exact ⟨HH2.out, .inl ⟨k, r, h1, hk, HE2.out, rfl, HR2.out⟩⟩
      · have hq2 : ((str (l ++ [10])).toList == (str (headB k ++ [10])).toList) = false := by rw [hq]; simp [he]
        clear hq
        have HK2 : Hid (∀ j, 1 ≤ j → j < k + 1 → l ≠ headB j) := fun j j1 j2 => by
          by_cases hj : j < k
          · exact HK.out j j1 hj
          · obtain rfl : j = k := by omega
            exact he
        go_wp2
        exact ⟨⟨k + 1, by omega, by omega, by go_num, HK2, HB2⟩, by simp [intOf]; omega⟩
    · have hk7 : k = 7 := by omega
      subst hk7
      have HN : Hid (∀ ws, ¬ ValidAt (s.data.toList.drop p) ws) := fun ws hv => by
        have h := (valid_head hv HLR.out HL.out).1
        have h2 := okWs_len hv.1
        exact HK.out _ h2.1 (by omega) h
      have HBW := Lib.hid (below_step HB1.out HB1.out.size HB.out)
      obtain ⟨lt0, tE, vE, cE0⟩ := HE.out.2.1
      have cE := (HBW.out.cell (p := ⟨1, 0, none⟩) lt0).trans cE0
      have HH2 := Lib.hid (HH1.out.trans (Hole.of_below HB.out))
      clear HBW cE0
      go_wp2_with fail
      go_quiet (fail)
      go_wp2
      refine bodyPost_ret (v := .tuple #[.int .i64 0, .iface tE vE]) (by simp [results, Tryz.results168, go_sem]) rfl ?_
      exact ⟨HH2.out.drewN _, .inr ⟨HN.out, _, _, rfl⟩⟩

end Go.Proofs.YtbbmpfkijhhemaaGreatDoor
