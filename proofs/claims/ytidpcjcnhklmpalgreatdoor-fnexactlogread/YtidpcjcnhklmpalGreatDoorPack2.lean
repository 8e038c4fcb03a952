import Derived.Test.YtidpcjcnhklmpalGreatDoorPack1
import Derived.Deep.DrawnRows
import Derived.Deep.RegionHeld3
import Derived.WalkSmall
import Derived.Deep.OwnRows
import Derived.Laws.BitsAllLaws
/- Dependencies in memory; contracts of what is small: toDep, eqTag, eqDep, szDepS, l01Key, keyOk. -/
namespace Go.Proofs.YtidpcjcnhklmpalGreatDoor
open Go.ChangeShapes Go.WideShapes Go.ChangeAt Go.RowKit Go.Joins

structure Dp where
  k : Int
  c : Int
  s : Int
  q : Int

def dz : Dp := ⟨0, 0, 0, 0⟩

abbrev depV (k c s q : Int) : Value := .agg #[.int .i64 k, .int .i64 c, .int .i64 s, .int .i64 q]

theorem key_any (n : Int) (w : World) :
    Calls Tryz.prog 50 #[.int .i64 n] w fun e w' => e = .returned (.bool (btw n 0 5)) ∧ w' = w := by
  go_enter Tryz.func50, Tryz.ntmps50
  go_wp2_with (go_at_call 18; refine (between_any _ _ _ _).mono ?_; rintro e w' ⟨rfl, rfl⟩)
  go_ret
  exact ⟨rfl, rfl⟩

theorem keyOk_any (n : Int) (w : World) :
    Calls Tryz.prog 80 #[.int .i64 n] w fun e w' => e = .returned (.bool (btw n 0 5)) ∧ w' = w := by
  go_enter Tryz.func80, Tryz.ntmps80
  go_wp2_with (go_at_call 98; refine (inRange_any _ _ _ _).mono ?_; rintro e w' ⟨rfl, rfl⟩)
  go_ret
  exact ⟨rfl, rfl⟩

theorem key_is (n : Int) (v : Bool) (h : btw n 0 5 = v) (w : World) :
    Calls Tryz.prog 50 #[.int .i64 n] w fun e w' => e = .returned (.bool v) ∧ w' = w := by
  subst h
  exact key_any n w

theorem keyOk_is (n : Int) (v : Bool) (h : btw n 0 5 = v) (w : World) :
    Calls Tryz.prog 80 #[.int .i64 n] w fun e w' => e = .returned (.bool v) ∧ w' = w := by
  subst h
  exact keyOk_any n w

theorem specTagOk_is (c s q : Int) (v : Bool) (h : tagOkB c s q = v) (w : World) :
    Calls Tryz.prog 51 #[tagV c s q] w fun e w' => e = .returned (.bool v) ∧ Below w.heap.size w w' := by
  subst h
  exact specTagOk_any c s q w

theorem implTagOk_is (c s q : Int) (v : Bool) (h : tagOkB c s q = v) (w : World) :
    Calls Tryz.prog 81 #[tagV c s q] w fun e w' => e = .returned (.bool v) ∧ Below w.heap.size w w' := by
  subst h
  exact implTagOk_any c s q w

set_option maxHeartbeats 400000 in
theorem eqTag_same (c s q : Int) (w : World) :
    Calls Tryz.prog 48 #[tagV c s q, tagV c s q] w fun e w' => e = .returned (.bool true) ∧ Below w.heap.size w w' := by
  go_enter Tryz.func48, Tryz.ntmps48
  go_wp2
  go_ret
  exact ⟨rfl, ((Below.refl _ _).alloc (Nat.le_refl _) _).alloc (by simp) _⟩

set_option maxHeartbeats 400000 in
theorem eqDep_same (k c s q : Int) (w : World) :
    Calls Tryz.prog 61 #[depV k c s q, depV k c s q] w fun e w' => e = .returned (.bool true) ∧ Below w.heap.size w w' := by
  go_enter Tryz.func61, Tryz.ntmps61
  go_wp2_with fail
  refine (eqTag_same _ _ _ _).mono ?_
  rintro e w1 ⟨rfl, hb1⟩
  have HB : Hid (Below w.heap.size w w1) := below_step (((Below.refl _ _).alloc (Nat.le_refl _) _).alloc (by simp) _) (by simp; omega) hb1
  clear hb1
  go_wp2
  go_ret
  exact ⟨rfl, HB.out⟩

/-- The cells of block b from place o on hold the list xs. -/
def HoldsDeps (w : World) (b o : Nat) (xs : List Dp) : Prop :=
  ∀ i, i < xs.length → w.cell? ⟨b, o + i * 4, none⟩ = some (.int .i64 (xs.getD i dz).k) ∧ w.cell? ⟨b, o + i * 4 + 1, none⟩ = some (.int .i64 (xs.getD i dz).c) ∧
    w.cell? ⟨b, o + i * 4 + 2, none⟩ = some (.int .i64 (xs.getD i dz).s) ∧ w.cell? ⟨b, o + i * 4 + 3, none⟩ = some (.int .i64 (xs.getD i dz).q)

theorem HoldsDeps.below {w w' : World} {b o B : Nat} {xs : List Dp} (h : HoldsDeps w b o xs) (hb : Below B w w') (hB : b < B) : HoldsDeps w' b o xs := by
  intro i hi
  obtain ⟨h0, h1, h2, h3⟩ := h i hi
  exact ⟨(hb.cell (p := ⟨b, _, none⟩) hB).trans h0, (hb.cell (p := ⟨b, _, none⟩) hB).trans h1, (hb.cell (p := ⟨b, _, none⟩) hB).trans h2, (hb.cell (p := ⟨b, _, none⟩) hB).trans h3⟩

/-- What a slice of dependencies leads to: where it is not empty, to a row that holds xs. -/
def IsDeps (w : World) (a : Option Addr) (xs : List Dp) : Prop := xs = [] ∨ ∃ b o, a = some ⟨b, o, none⟩ ∧ b < w.heap.size ∧ HoldsDeps w b o xs

theorem IsDeps.below {w w' : World} {a : Option Addr} {xs : List Dp} (h : IsDeps w a xs) (hb : Below w.heap.size w w') : IsDeps w' a xs := by
  rcases h with h | ⟨b, o, ha, hlt, hh⟩
  · exact .inl h
  · exact .inr ⟨b, o, ha, Nat.lt_of_lt_of_le hlt hb.size, hh.below hb hlt⟩

/-- One dependency of a slice that is not empty, in this world and in each later one. -/
theorem IsDeps.at {w w' : World} {a : Option Addr} {xs : List Dp} (h : IsDeps w a xs) (hb : Below w.heap.size w w') {k : Nat} (hk : k < xs.length) :
    ∃ b o, a = some ⟨b, o, none⟩ ∧ b < w'.heap.size ∧ w'.cell? ⟨b, o + k * 4, none⟩ = some (.int .i64 (xs.getD k dz).k) ∧ w'.cell? ⟨b, o + k * 4 + 1, none⟩ = some (.int .i64 (xs.getD k dz).c) ∧
    w'.cell? ⟨b, o + k * 4 + 2, none⟩ = some (.int .i64 (xs.getD k dz).s) ∧ w'.cell? ⟨b, o + k * 4 + 3, none⟩ = some (.int .i64 (xs.getD k dz).q) := by
  rcases h with h | ⟨b, o, ha, hlt, hh⟩
  · subst h
    simp at hk
  · exact ⟨b, o, ha, Nat.lt_of_lt_of_le hlt hb.size, (hh.below hb hlt) k hk⟩

theorem IsDeps.cells {w w' : World} {b o : Nat} {xs : List Dp} (h : IsDeps w (some ⟨b, o, none⟩) xs) (hb : Below w.heap.size w w') {k : Nat} (hk : k < xs.length) :
    b < w'.heap.size ∧ w'.cell? ⟨b, o + k * 4, none⟩ = some (.int .i64 (xs.getD k dz).k) ∧ w'.cell? ⟨b, o + k * 4 + 1, none⟩ = some (.int .i64 (xs.getD k dz).c) ∧
    w'.cell? ⟨b, o + k * 4 + 2, none⟩ = some (.int .i64 (xs.getD k dz).s) ∧ w'.cell? ⟨b, o + k * 4 + 3, none⟩ = some (.int .i64 (xs.getD k dz).q) := by
  obtain ⟨b', o', he, h1⟩ := h.at hb hk
  injection he with he
  injection he with e1 e2
  subst e1 e2
  exact h1

def depGood (xs : List Dp) (i : Nat) : Bool :=
  btw (xs.getD i dz).k 0 5 && (tagOkB (xs.getD i dz).c (xs.getD i dz).s (xs.getD i dz).q && decide (i = 0 ∨ (xs.getD (i - 1) dz).k < (xs.getD i dz).k))

def depsOkB (xs : List Dp) : Bool := (List.range xs.length).all (depGood xs)

theorem depsOk_true {xs : List Dp} (h : ∀ i, i < xs.length → depGood xs i = true) : depsOkB xs = true := by
  unfold depsOkB
  rw [List.all_eq_true]
  intro i hi
  exact h i (List.mem_range.1 hi)

theorem depsOk_false {xs : List Dp} {i : Nat} (hi : i < xs.length) (h : depGood xs i = false) : depsOkB xs = false := by
  unfold depsOkB
  rw [List.all_eq_false]
  exact ⟨i, List.mem_range.2 hi, by simp [h]⟩

end Go.Proofs.YtidpcjcnhklmpalGreatDoor

/- The specification's texts of lists of numbers: l01Nums, l01TagNums, l01Bit. -/
namespace Go.Proofs.YtidpcjcnhklmpalGreatDoor
open Go.ChangeShapes Go.WideShapes Go.ChangeAt Go.RowKit Go.Joins

def numsText (ns : List Int) : List UInt8 := ns.flatMap fun n => 32 :: Lib.itoa n

def HoldsInts (w : World) (b o : Nat) (ns : List Int) : Prop := ∀ i, i < ns.length → w.cell? ⟨b, o + i, none⟩ = some (.int .i64 (ns.getD i 0))

theorem HoldsInts.below {w w' : World} {B b o : Nat} {ns : List Int} (h : HoldsInts w b o ns) (hb : Below B w w') (hB : b < B) : HoldsInts w' b o ns :=
  fun i hi => (hb.cell (p := ⟨b, o + i, none⟩) hB).trans (h i hi)

def Ints64 (ns : List Int) : Prop := ∀ i, i < ns.length → -9223372036854775808 ≤ ns.getD i 0 ∧ ns.getD i 0 ≤ 9223372036854775807

def bitI (de : Bool) : Int := if de then 1 else 0

theorem bitI_any (de : Bool) (w : World) : Calls Tryz.prog 42 #[.bool de] w fun e w' => e = .returned (.int .i64 (bitI de)) ∧ w' = w := by
  go_enter Tryz.func42, Tryz.ntmps42
  cases de
  · go_wp2
    go_ret
    exact ⟨rfl, rfl⟩
  · go_wp2
    go_ret
    exact ⟨rfl, rfl⟩

theorem nums_take (ns : List Int) (j : Nat) (h : j < ns.length) : numsText (ns.take (j + 1)) = numsText (ns.take j) ++ (32 :: Lib.itoa (ns.getD j 0)) := by
  unfold numsText
  rw [List.take_add_one, List.getElem?_eq_getElem h, List.flatMap_append]
  simp [List.getD, h]

theorem nums_len (ns : List Int) (h : Ints64 ns) : ∀ j, j ≤ ns.length → (numsText (ns.take j)).length ≤ 22 * j
  | 0, _ => by simp [numsText]
  | j + 1, hj => by
    rw [nums_take ns j (by omega), List.length_append, List.length_cons]
    have := nums_len ns h j (by omega)
    have hb := h j (by omega)
    have := Lib.itoa_length_le _ hb.1 hb.2
    omega

/-- A text as Go's string. -/
def str (l : List UInt8) : ByteArray := ⟨l.toArray⟩

theorem str_size (l : List UInt8) : (str l).size = l.length := by simp [str, ByteArray.size]

theorem str_add (a b : List UInt8) : str a ++ str b = str (a ++ b) := by
  apply ByteArray.ext
  simp [str]

theorem specNum' (n : Int) (w : World) (h : -9223372036854775808 ≤ n ∧ n ≤ 9223372036854775807) :
    Calls Tryz.prog 29 #[.int .i64 n] w fun e w' => e = .returned (.string (str (Lib.itoa n))) ∧ Below w.heap.size w w' := specNum n w h.1 h.2

set_option maxRecDepth 100000 in
set_option maxHeartbeats 4000000 in
theorem nums_any (b o cap : Nat) (ns : List Int) (w : World) (hn : ns.length ≤ 100) (h64 : Ints64 ns) (hlt : b < w.heap.size) (hh : HoldsInts w b o ns) :
    Calls Tryz.prog 40 #[.slice (some ⟨b, o, none⟩) ns.length cap] w fun e w' => e = .returned (.string (str (numsText ns))) ∧ Below w.heap.size w w' := by
  have HH : Hid (HoldsInts w b o ns) := hh
  have HI : Hid (Ints64 ns) := h64
  clear hh h64
  go_enter Tryz.func40, Tryz.ntmps40
  go_wp2
  go_loopw [3, 4] (fun t i wr => ∃ (j : Nat) (acc : ByteArray), j ≤ ns.length ∧ i = .int .i64 j ∧ t = .string acc ∧ acc.size ≤ 2200 ∧ Hid (acc = str (numsText (ns.take j))) ∧ Hid (Below w.heap.size w wr)) (fun _ i _ => ns.length - (intOf i).toNat)
  case atStart => exact ⟨0, str [], by omega, rfl, rfl, by simp [str_size], rfl, Below.refl _ _⟩
  case round =>
    obtain ⟨j, acc, hj, rfl, rfl, hsz, HA, HB⟩ := hrel
    by_cases hj' : j < ns.length
    · have i1 : (j : Int) < (ns.length : Int) := by omega
      have c1 := (HH.out.below HB.out hlt) j hj'
      have hb := HI.out j hj'
      have e1 : ns.getD j 0 = ns[j] := by simp [List.getD, hj']
      rw [e1] at c1 hb
      obtain ⟨x, HX⟩ : ∃ x, Hid (x = ns[j]) := ⟨ns[j], Lib.hid rfl⟩
      rw [← HX.out] at c1 hb
      go_wp2_with fail
      refine (specNum' x _ hb).mono ?_
      rintro e w1 ⟨rfl, hb1⟩
      have hsz1 : (str (Lib.itoa x)).size ≤ 21 := by rw [str_size]; exact Lib.itoa_length_le _ hb.1 hb.2
      obtain ⟨r, HR⟩ : ∃ r, Hid (r = str (Lib.itoa x)) := ⟨_, Lib.hid rfl⟩
      rw [← HR.out] at hsz1 ⊢
      have HB1 : Hid (Below w.heap.size w w1) := below_step HB.out HB.out.size hb1
      clear hb1
      go_wp2
      have hnew : acc ++ ⟨#[32]⟩ ++ r = str (numsText (ns.take (j + 1))) := by
        rw [HA.out, HR.out, nums_take ns j hj', e1, ← HX.out, show (⟨#[32]⟩ : ByteArray) = str [32] from rfl, str_add, str_add, List.append_assoc]
        rfl
      have hlen : (acc ++ ⟨#[32]⟩ ++ r).size ≤ 2200 := by
        rw [hnew, str_size]
        have := nums_len ns HI.out (j + 1) (by omega)
        omega
      exact ⟨⟨j + 1, _, by omega, by go_num, rfl, hlen, hnew, HB1⟩, by simp [intOf]; omega⟩
    · have hjn : j = ns.length := by omega
      subst hjn
      go_wp2
      go_ret
      rw [HA.out, List.take_length]
      exact ⟨rfl, HB.out⟩

theorem holds_ints_block {w : World} {g t : Nat} {cs : Array Value} {fr : Nat × Nat} {ns : List Int} (hb : w.heap[g]? = some (.cells cs t fr)) (hc : cs = (ns.map (Value.int .i64)).toArray) : HoldsInts w g 0 ns := by
  intro i hi
  subst hc
  rw [Nat.zero_add, cell_of_row w g i _ t fr hb]
  simp [List.getD, hi]

theorem tagNums_any (c s q : Int) (w : World) :
    Calls Tryz.prog 41 #[tagV c s q] w fun e w' => ∃ g, e = .returned (.slice (some ⟨g, 0, none⟩) 3 3) ∧ w.heap.size ≤ g ∧ g < w'.heap.size ∧ HoldsInts w' g 0 [c, s, q] ∧ Below w.heap.size w w' := by
  go_enter Tryz.func41, Tryz.ntmps41
  go_wp2
  go_ret
  refine ⟨w.heap.size + 1, rfl, by omega, by simp, holds_ints_block (cs := #[.int .i64 c, .int .i64 s, .int .i64 q]) (t := 3) (fr := (0, 0)) ?_ rfl, ((Below.refl _ _).alloc (Nat.le_refl _) _).alloc (by simp) _⟩
  have := heap_alloc_new (w.alloc (.cells #[.int .i64 c, .int .i64 s, .int .i64 q] 51)) (.cells #[.int .i64 c, .int .i64 s, .int .i64 q] 3)
  simpa using this
end Go.Proofs.YtidpcjcnhklmpalGreatDoor

/- Contracts of spec.DepsOk and impl.DepsOk. -/
namespace Go.Proofs.YtidpcjcnhklmpalGreatDoor
open Go.ChangeShapes Go.WideShapes Go.ChangeAt Go.RowKit Go.Joins
attribute [local go_sem ↓] Go.wp_at_zero Go.wp_at_succ

theorem ret_bool {a b : Bool} (h : a = b) : Ending.returned (.bool a) = .returned (.bool b) := by rw [h]

set_option maxHeartbeats 1000000 in
theorem specDepsOk_gen (a : Option Addr) (xs : List Dp) (cap : Nat) (w : World) (hn : xs.length ≤ 1048576) (hh : IsDeps w a xs) :
    Calls Tryz.prog 52 #[.slice a xs.length cap] w fun e w' => e = .returned (.bool (depsOkB xs)) ∧ Below w.heap.size w w' := by
  have HH : Hid (IsDeps w a xs) := hh
  clear hh
  go_enter Tryz.func52, Tryz.ntmps52
  go_wp2
  go_loopw [3] (fun i wr => ∃ k : Nat, k ≤ xs.length ∧ i = .int .i64 k ∧ Hid (∀ j, j < k → depGood xs j = true) ∧ Hid (Below w.heap.size w wr)) (fun i _ => xs.length - (intOf i).toNat)
  case atStart => exact ⟨0, Nat.zero_le _, rfl, fun j hj => by omega, Below.refl _ _⟩
  case round =>
    obtain ⟨k, hk, rfl, HG, HB⟩ := hrel
    by_cases hk' : k < xs.length
    · obtain ⟨b, o, rfl, hz, e0, e1, e2, e3⟩ := HH.out.at HB.out hk'
      have HD : Hid (depGood xs k = (btw (xs.getD k dz).k 0 5 && (tagOkB (xs.getD k dz).c (xs.getD k dz).s (xs.getD k dz).q && decide (k = 0 ∨ (xs.getD (k - 1) dz).k < (xs.getD k dz).k)))) := rfl
      have i1 : (0 : Int) ≤ (k : Int) := by omega
      have i2 : (k : Int) < (xs.length : Int) := by omega
      cases h1 : btw (xs.getD k dz).k 0 5
      · have HF : Hid (depsOkB xs = false) := depsOk_false hk' (by rw [HD.out, h1]; rfl)
        clear HD
        generalize (xs.getD k dz).k = x at *
        generalize (xs.getD k dz).c = c at *
        generalize (xs.getD k dz).s = s at *
        generalize (xs.getD k dz).q = q at *
        go_wp2_with fail
        have ge0 := aft_cell hz e0
        have ge1 := aft_cell hz e1
        have ge2 := aft_cell hz e2
        have ge3 := aft_cell hz e3
        have ne := aft_some wr
        refine wp_region_aft (by kernel_rfl) (by kernel_rfl) ?_
        repeat (first | go_big_quiet_step (first | (go_at_call 50; exact aft_same (key_is _ false h1 _))))
        refine wpQuiet_nil ?_
        intro wq hq
        go_wp2
        go_ret
        exact ⟨ret_bool HF.out.symm, below_step HB.out HB.out.size hq⟩
      · cases h2 : tagOkB (xs.getD k dz).c (xs.getD k dz).s (xs.getD k dz).q
        · have HF : Hid (depsOkB xs = false) := depsOk_false hk' (by rw [HD.out, h1, h2]; rfl)
          clear HD
          generalize (xs.getD k dz).k = x at *
          generalize (xs.getD k dz).c = c at *
          generalize (xs.getD k dz).s = s at *
          generalize (xs.getD k dz).q = q at *
          go_wp2_with fail
          have ge0 := aft_cell hz e0
          have ge1 := aft_cell hz e1
          have ge2 := aft_cell hz e2
          have ge3 := aft_cell hz e3
          have ne := aft_some wr
          refine wp_region_aft (by kernel_rfl) (by kernel_rfl) ?_
          repeat (first | go_big_quiet_step (first | (go_at_call 50; exact aft_same (key_is _ true h1 _)) | (go_at_call 51; exact aft_of (specTagOk_is _ _ _ false h2 _))))
          refine wpQuiet_nil ?_
          intro wq hq
          go_wp2
          go_ret
          exact ⟨ret_bool HF.out.symm, below_step HB.out HB.out.size hq⟩
        · by_cases h0 : k = 0
          · have HF : Hid (depGood xs k = true) := by rw [HD.out, h1, h2, Bool.true_and, Bool.true_and]; exact decide_eq_true (Or.inl h0)
            have HG' : Hid (∀ j, j < k + 1 → depGood xs j = true) := fun j hj => by
              by_cases h : j < k
              · exact HG.out j h
              · have : j = k := by omega
                rw [this]
                exact HF.out
            clear HD HF
            have hd : decide (0 < k) = false := by simp [h0]
            clear h0
            generalize (xs.getD k dz).k = x at *
            generalize (xs.getD k dz).c = c at *
            generalize (xs.getD k dz).s = s at *
            generalize (xs.getD k dz).q = q at *
            go_wp2_with fail
            have ge0 := aft_cell hz e0
            have ge1 := aft_cell hz e1
            have ge2 := aft_cell hz e2
            have ge3 := aft_cell hz e3
            have ne := aft_some wr
            refine wp_region_aft (by kernel_rfl) (by kernel_rfl) ?_
            repeat (first | go_big_quiet_step (first | (go_at_call 50; exact aft_same (key_is _ true h1 _)) | (go_at_call 51; exact aft_of (specTagOk_is _ _ _ true h2 _))))
            refine wpQuiet_nil ?_
            intro wq hq
            go_wp2
            exact ⟨⟨k + 1, by omega, by go_num, HG', below_step HB.out HB.out.size hq⟩, by simp [intOf]; omega⟩
          · obtain ⟨j, rfl⟩ : ∃ j, k = j + 1 := ⟨k - 1, by omega⟩
            obtain ⟨-, f0, -⟩ := HH.out.cells HB.out (show j < xs.length by omega)
            rw [show j + 1 - 1 = j from rfl] at HD
            have i3 : (j : Int) + 1 < (xs.length : Int) := by omega
            by_cases hy : (xs.getD j dz).k < (xs.getD (j + 1) dz).k
            · have HF : Hid (depGood xs (j + 1) = true) := by rw [HD.out, h1, h2, Bool.true_and, Bool.true_and]; exact decide_eq_true (Or.inr hy)
              have HG' : Hid (∀ i, i < j + 1 + 1 → depGood xs i = true) := fun i hi => by
                by_cases h : i < j + 1
                · exact HG.out i h
                · have : i = j + 1 := by omega
                  rw [this]
                  exact HF.out
              clear HD HF
              generalize (xs.getD j dz).k = y at *
              generalize (xs.getD (j + 1) dz).k = x at *
              generalize (xs.getD (j + 1) dz).c = c at *
              generalize (xs.getD (j + 1) dz).s = s at *
              generalize (xs.getD (j + 1) dz).q = q at *
              go_wp2_with fail
              have ge0 := aft_cell hz e0
              have ge1 := aft_cell hz e1
              have ge2 := aft_cell hz e2
              have ge3 := aft_cell hz e3
              have gf0 := aft_cell hz f0
              have ne := aft_some wr
              refine wp_region_aft (by kernel_rfl) (by kernel_rfl) ?_
              repeat (first | go_big_quiet_step (first | (go_at_call 50; exact aft_same (key_is _ true h1 _)) | (go_at_call 51; exact aft_of (specTagOk_is _ _ _ true h2 _))))
              refine wpQuiet_nil ?_
              intro wq hq
              go_wp2
              exact ⟨⟨j + 1 + 1, by omega, by go_num, HG', below_step HB.out HB.out.size hq⟩, by simp [intOf]; omega⟩
            · have HF : Hid (depsOkB xs = false) := depsOk_false hk' (by rw [HD.out, h1, h2, Bool.true_and, Bool.true_and]; exact decide_eq_false (by omega))
              clear HD
              generalize (xs.getD j dz).k = y at *
              generalize (xs.getD (j + 1) dz).k = x at *
              generalize (xs.getD (j + 1) dz).c = c at *
              generalize (xs.getD (j + 1) dz).s = s at *
              generalize (xs.getD (j + 1) dz).q = q at *
              go_wp2_with fail
              have ge0 := aft_cell hz e0
              have ge1 := aft_cell hz e1
              have ge2 := aft_cell hz e2
              have ge3 := aft_cell hz e3
              have gf0 := aft_cell hz f0
              have ne := aft_some wr
              refine wp_region_aft (by kernel_rfl) (by kernel_rfl) ?_
              repeat (first | go_big_quiet_step (first | (go_at_call 50; exact aft_same (key_is _ true h1 _)) | (go_at_call 51; exact aft_of (specTagOk_is _ _ _ true h2 _))))
              refine wpQuiet_nil ?_
              intro wq hq
              go_wp2
              go_ret
              exact ⟨ret_bool HF.out.symm, below_step HB.out HB.out.size hq⟩
    · go_wp2
      go_ret
      exact ⟨ret_bool (depsOk_true fun i hi => HG.out i (by omega)).symm, HB.out⟩

theorem specDepsOk_any (b o : Nat) (xs : List Dp) (cap : Nat) (w : World) (hn : xs.length ≤ 1048576) (hlt : b < w.heap.size) (hh : HoldsDeps w b o xs) :
    Calls Tryz.prog 52 #[.slice (some ⟨b, o, none⟩) xs.length cap] w fun e w' => e = .returned (.bool (depsOkB xs)) ∧ Below w.heap.size w w' :=
  specDepsOk_gen _ xs cap w hn (.inr ⟨b, o, rfl, hlt, hh⟩)

end Go.Proofs.YtidpcjcnhklmpalGreatDoor

/- The contracts of toDepS and eqDepS. -/
namespace Go.Proofs.YtidpcjcnhklmpalGreatDoor
open Go.ChangeShapes Go.WideShapes Go.ChangeAt Go.RowKit Go.Joins
attribute [local go_sem ↓] Go.wp_at_zero Go.wp_at_succ

def depCell (xs : List Dp) (j : Nat) : Int :=
  if j % 4 = 0 then (xs.getD (j / 4) dz).k else if j % 4 = 1 then (xs.getD (j / 4) dz).c else if j % 4 = 2 then (xs.getD (j / 4) dz).s else (xs.getD (j / 4) dz).q

def depFill (xs : List Dp) (k j : Nat) : Value := .int .i64 (if j < k * 4 then depCell xs j else 0)

theorem depCell0 (xs : List Dp) (k : Nat) : depCell xs (k * 4) = (xs.getD k dz).k := by
  unfold depCell
  rw [if_pos (by omega), show k * 4 / 4 = k by omega]

theorem depCell1 (xs : List Dp) (k : Nat) : depCell xs (k * 4 + 1) = (xs.getD k dz).c := by
  unfold depCell
  rw [if_neg (by omega), if_pos (by omega), show (k * 4 + 1) / 4 = k by omega]

theorem depCell2 (xs : List Dp) (k : Nat) : depCell xs (k * 4 + 2) = (xs.getD k dz).s := by
  unfold depCell
  rw [if_neg (by omega), if_neg (by omega), if_pos (by omega), show (k * 4 + 2) / 4 = k by omega]

theorem depCell3 (xs : List Dp) (k : Nat) : depCell xs (k * 4 + 3) = (xs.getD k dz).q := by
  unfold depCell
  rw [if_neg (by omega), if_neg (by omega), if_neg (by omega), show (k * 4 + 3) / 4 = k by omega]

theorem fill_step (xs : List Dp) (k j : Nat) :
    (if j = k * 4 + 3 then Value.int .i64 (xs.getD k dz).q else if j = k * 4 + 2 then Value.int .i64 (xs.getD k dz).s else if j = k * 4 + 1 then Value.int .i64 (xs.getD k dz).c else if j = k * 4 then Value.int .i64 (xs.getD k dz).k else depFill xs k j) = depFill xs (k + 1) j := by
  unfold depFill
  by_cases h3 : j = k * 4 + 3
  · rw [if_pos h3, if_pos (by omega), h3, depCell3]
  rw [if_neg h3]
  by_cases h2 : j = k * 4 + 2
  · rw [if_pos h2, if_pos (by omega), h2, depCell2]
  rw [if_neg h2]
  by_cases h1 : j = k * 4 + 1
  · rw [if_pos h1, if_pos (by omega), h1, depCell1]
  rw [if_neg h1]
  by_cases h0 : j = k * 4
  · rw [if_pos h0, if_pos (by omega), h0, depCell0]
  rw [if_neg h0]
  by_cases hl : j < k * 4
  · rw [if_pos hl, if_pos (by omega)]
  · rw [if_neg hl, if_neg (by omega)]

theorem holds_of_row {w : World} {g t : Nat} {xs : List Dp} (h : w.rowIs g t (xs.length * 4) (depFill xs xs.length)) : HoldsDeps w g 0 xs := by
  intro i hi
  rw [Nat.zero_add]
  refine ⟨?_, ?_, ?_, ?_⟩
  · rw [h.cell (by omega), depFill, if_pos (by omega), depCell0]
  · rw [h.cell (by omega), depFill, if_pos (by omega), depCell1]
  · rw [h.cell (by omega), depFill, if_pos (by omega), depCell2]
  · rw [h.cell (by omega), depFill, if_pos (by omega), depCell3]

theorem row_start (w : World) (t n : Nat) (xs : List Dp) : (w.alloc (.cells (madeCells #[.int .i64 0, .int .i64 0, .int .i64 0, .int .i64 0] (n * 4)) t)).rowIs w.heap.size t (n * 4) (depFill xs 0) := by
  refine ⟨_, Go.Deep.blk_alloc_new _ _, size_madeCells _ _, fun i hi => ?_⟩
  have e : depFill xs 0 i = .int .i64 0 := by unfold depFill; rw [if_neg (by omega)]
  rw [e]
  have h4 : i % 4 = 0 ∨ i % 4 = 1 ∨ i % 4 = 2 ∨ i % 4 = 3 := by omega
  rcases h4 with h | h | h | h <;> simp [madeCells, hi, h]

theorem row_step {w : World} {g t n : Nat} {xs : List Dp} {k : Nat} (h : w.rowIs g t n (depFill xs k)) :
    ((((w.setCell ⟨g, k * 4, none⟩ (.int .i64 (xs.getD k dz).k)).setCell ⟨g, k * 4 + 1, none⟩ (.int .i64 (xs.getD k dz).c)).setCell ⟨g, k * 4 + 2, none⟩ (.int .i64 (xs.getD k dz).s)).setCell ⟨g, k * 4 + 3, none⟩ (.int .i64 (xs.getD k dz).q)).rowIs g t n (depFill xs (k + 1)) :=
  ((((h.set _ _).set _ _).set _ _).set _ _).congr (fun j _ => fill_step xs k j)

theorem infoDep : (Tryz.prog.info? 80).map (fun i => (i.zero, i.size, i.bytes)) = some (some (depV 0 0 0 0), 4, 32) := by kernel_rfl

theorem run_make_deps (n : Nat) (hn : n ≤ 1048576) (w : World) :
    (Instr.makeSlice 52 (.int .i64 (n : Int)) (.int .i64 (n : Int))).run Tryz.prog w = .ok (.slice (some ⟨w.heap.size, 0, none⟩) n n) (w.alloc (.cells (madeCells #[.int .i64 0, .int .i64 0, .int .i64 0, .int .i64 0] (n * 4)) 80)) := by
  obtain ⟨i, hi, hzz⟩ := Option.map_eq_some_iff.1 infoDep
  simp only [Prod.mk.injEq] at hzz
  obtain ⟨hz, hs, hb⟩ := hzz
  have hr := run_make (P := Tryz.prog) w 52 80 i _ Tryz.underlying52 hi hz .i64 .i64 n n (by omega) (Int.le_refl _) (by rw [hb]; omega) (by omega)
  simp only [Int.toNat_natCast, hs] at hr
  exact hr

/-- Below a block that is being written. -/
theorem below_set4 {B : Nat} {a w : World} {g : Nat} (h : Below B a w) (hg : B ≤ g) (o0 o1 o2 o3 : Nat) (v0 v1 v2 v3 : Value) : Below B a ((((w.setCell ⟨g, o0, none⟩ v0).setCell ⟨g, o1, none⟩ v1).setCell ⟨g, o2, none⟩ v2).setCell ⟨g, o3, none⟩ v3) :=
  (((h.setCell (p := ⟨g, o0, none⟩) hg v0).setCell (p := ⟨g, o1, none⟩) hg v1).setCell (p := ⟨g, o2, none⟩) hg v2).setCell (p := ⟨g, o3, none⟩) hg v3

set_option maxHeartbeats 1000000 in
theorem eqDepS_gen (a a' : Option Addr) (xs : List Dp) (cap cap' : Nat) (w : World) (hn : xs.length ≤ 1048576) (hh : IsDeps w a xs) (hh' : IsDeps w a' xs) :
    Calls Tryz.prog 49 #[.slice a xs.length cap, .slice a' xs.length cap'] w fun e w' => e = .returned (.bool true) ∧ Below w.heap.size w w' := by
  have HH : Hid (IsDeps w a xs) := hh
  have HH' : Hid (IsDeps w a' xs) := hh'
  clear hh hh'
  go_enter Tryz.func49, Tryz.ntmps49
  go_wp2
  go_loopw [5] (fun i wr => ∃ k : Nat, k ≤ xs.length ∧ i = .int .i64 k ∧ Hid (Below w.heap.size w wr)) (fun i _ => xs.length - (intOf i).toNat)
  case atStart => exact ⟨0, Nat.zero_le _, rfl, Below.refl _ _⟩
  case round =>
    obtain ⟨k, hk, rfl, HB⟩ := hrel
    by_cases hk' : k < xs.length
    · obtain ⟨b, o, rfl, hz, e0, e1, e2, e3⟩ := HH.out.at HB.out hk'
      obtain ⟨b', o', rfl, hz', f0, f1, f2, f3⟩ := HH'.out.at HB.out hk'
      clear HH HH'
      have i1 : (0 : Int) ≤ (k : Int) := by omega
      have i2 : (k : Int) < (xs.length : Int) := by omega
      generalize (xs.getD k dz).k = x at *
      generalize (xs.getD k dz).c = c at *
      generalize (xs.getD k dz).s = s at *
      generalize (xs.getD k dz).q = q at *
      go_wp2_with fail
      have ge0 := aft_cell hz e0
      have ge1 := aft_cell hz e1
      have ge2 := aft_cell hz e2
      have ge3 := aft_cell hz e3
      have gf0 := aft_cell hz' f0
      have gf1 := aft_cell hz' f1
      have gf2 := aft_cell hz' f2
      have gf3 := aft_cell hz' f3
      have ne := aft_some wr
      refine wp_region_aft (by kernel_rfl) (by kernel_rfl) ?_
      repeat (first | go_big_quiet_step (first | (go_at_call 61; exact aft_of (eqDep_same _ _ _ _ _))))
      refine wpQuiet_nil ?_
      intro wq hq
      go_wp2
      exact ⟨⟨k + 1, by omega, by go_num, below_step HB.out HB.out.size hq⟩, by simp [intOf]; omega⟩
    · go_wp2
      go_ret
      exact ⟨rfl, HB.out⟩

theorem eqDepS_same (b o b' o' : Nat) (xs : List Dp) (cap cap' : Nat) (w : World) (hn : xs.length ≤ 1048576) (hlt : b < w.heap.size) (hlt' : b' < w.heap.size) (hh : HoldsDeps w b o xs) (hh' : HoldsDeps w b' o' xs) :
    Calls Tryz.prog 49 #[.slice (some ⟨b, o, none⟩) xs.length cap, .slice (some ⟨b', o', none⟩) xs.length cap'] w fun e w' => e = .returned (.bool true) ∧ Below w.heap.size w w' :=
  eqDepS_gen _ _ xs cap cap' w hn (.inr ⟨b, o, rfl, hlt, hh⟩) (.inr ⟨b', o', rfl, hlt', hh'⟩)

end Go.Proofs.YtidpcjcnhklmpalGreatDoor

/- The contract of impl.DepsOk. -/
namespace Go.Proofs.YtidpcjcnhklmpalGreatDoor
open Go.ChangeShapes Go.WideShapes Go.ChangeAt Go.RowKit Go.Joins

def lastOf (xs : List Dp) (k : Nat) : Int := if k = 0 then -1 else (xs.getD (k - 1) dz).k

theorem depGood_bad {xs : List Dp} {k : Nat} (h1 : btw (xs.getD k dz).k 0 5 = true) (h : (xs.getD k dz).k ≤ lastOf xs k) : depGood xs k = false := by
  have e : depGood xs k = (btw (xs.getD k dz).k 0 5 && (tagOkB (xs.getD k dz).c (xs.getD k dz).s (xs.getD k dz).q && decide (k = 0 ∨ (xs.getD (k - 1) dz).k < (xs.getD k dz).k))) := rfl
  have hd : decide (k = 0 ∨ (xs.getD (k - 1) dz).k < (xs.getD k dz).k) = false := by
    apply decide_eq_false
    unfold lastOf at h
    have h1' := h1
    unfold btw at h1'
    have h1'' := of_decide_eq_true h1'
    split at h
    · omega
    · omega
  rw [e, hd, h1, Bool.and_false, Bool.and_false]

theorem depGood_good {xs : List Dp} {k : Nat} (h1 : btw (xs.getD k dz).k 0 5 = true) (h2 : tagOkB (xs.getD k dz).c (xs.getD k dz).s (xs.getD k dz).q = true) (h : lastOf xs k < (xs.getD k dz).k) : depGood xs k = true := by
  have e : depGood xs k = (btw (xs.getD k dz).k 0 5 && (tagOkB (xs.getD k dz).c (xs.getD k dz).s (xs.getD k dz).q && decide (k = 0 ∨ (xs.getD (k - 1) dz).k < (xs.getD k dz).k))) := rfl
  have hd : decide (k = 0 ∨ (xs.getD (k - 1) dz).k < (xs.getD k dz).k) = true := by
    apply decide_eq_true
    unfold lastOf at h
    split at h
    · exact Or.inl ‹_›
    · exact Or.inr h
  rw [e, hd, h1, h2]
  rfl

theorem depGood_tag {xs : List Dp} {k : Nat} (h2 : tagOkB (xs.getD k dz).c (xs.getD k dz).s (xs.getD k dz).q = false) : depGood xs k = false := by
  have e : depGood xs k = (btw (xs.getD k dz).k 0 5 && (tagOkB (xs.getD k dz).c (xs.getD k dz).s (xs.getD k dz).q && decide (k = 0 ∨ (xs.getD (k - 1) dz).k < (xs.getD k dz).k))) := rfl
  rw [e, h2, Bool.false_and, Bool.and_false]

theorem depGood_key {xs : List Dp} {k : Nat} (h1 : btw (xs.getD k dz).k 0 5 = false) : depGood xs k = false := by
  have e : depGood xs k = (btw (xs.getD k dz).k 0 5 && (tagOkB (xs.getD k dz).c (xs.getD k dz).s (xs.getD k dz).q && decide (k = 0 ∨ (xs.getD (k - 1) dz).k < (xs.getD k dz).k))) := rfl
  rw [e, h1, Bool.false_and]

set_option maxHeartbeats 1000000 in
theorem implDepsOk_gen (a : Option Addr) (xs : List Dp) (cap : Nat) (w : World) (hn : xs.length ≤ 1048576) (hh : IsDeps w a xs) :
    Calls Tryz.prog 83 #[.slice a xs.length cap] w fun e w' => e = .returned (.bool (depsOkB xs)) ∧ Below w.heap.size w w' := by
  have HH : Hid (IsDeps w a xs) := hh
  clear hh
  go_enter Tryz.func83, Tryz.ntmps83
  go_wp2
  go_loopw [3, 8] (fun l i wr => ∃ k : Nat, ∃ la : Int, k ≤ xs.length ∧ i = .int .i64 k ∧ l = .int .i64 la ∧ Hid (lastOf xs k = la) ∧ Hid (∀ j, j < k → depGood xs j = true) ∧ Hid (Below w.heap.size w wr)) (fun _ i _ => xs.length - (intOf i).toNat)
  case atStart => exact ⟨0, -1, Nat.zero_le _, rfl, rfl, rfl, fun j hj => by omega, Below.refl _ _⟩
  case round =>
    obtain ⟨k, la, hk, rfl, rfl, HL, HG, HB⟩ := hrel
    by_cases hk' : k < xs.length
    · obtain ⟨b, o, rfl, hz, e0, e1, e2, e3⟩ := HH.out.at HB.out hk'
      have i1 : (0 : Int) ≤ (k : Int) := by omega
      have i2 : (k : Int) < (xs.length : Int) := by omega
      have HS : Hid (lastOf xs (k + 1) = (xs.getD k dz).k) := by unfold lastOf; simp [Hid]
      cases h1 : btw (xs.getD k dz).k 0 5
      · have HF : Hid (depsOkB xs = false) := depsOk_false hk' (depGood_key h1)
        clear HS
        generalize (xs.getD k dz).k = x at *
        generalize (xs.getD k dz).c = c at *
        generalize (xs.getD k dz).s = s at *
        generalize (xs.getD k dz).q = q at *
        go_wp2_with (go_at_call 80; refine (keyOk_is _ false h1 _).mono ?_; rintro e w' ⟨rfl, rfl⟩)
        go_ret
        exact ⟨ret_bool HF.out.symm, HB.out.alloc HB.out.size _⟩
      · by_cases h3 : (xs.getD k dz).k ≤ la
        · have HF : Hid (depsOkB xs = false) := depsOk_false hk' (depGood_bad h1 (by rw [HL.out]; exact h3))
          clear HS
          generalize (xs.getD k dz).k = x at *
          generalize (xs.getD k dz).c = c at *
          generalize (xs.getD k dz).s = s at *
          generalize (xs.getD k dz).q = q at *
          go_wp2_with (go_at_call 80; refine (keyOk_is _ true h1 _).mono ?_; rintro e w' ⟨rfl, rfl⟩)
          go_ret
          exact ⟨ret_bool HF.out.symm, HB.out.alloc HB.out.size _⟩
        · cases h2 : tagOkB (xs.getD k dz).c (xs.getD k dz).s (xs.getD k dz).q
          · have HF : Hid (depsOkB xs = false) := depsOk_false hk' (depGood_tag h2)
            clear HS
            generalize (xs.getD k dz).k = x at *
            generalize (xs.getD k dz).c = c at *
            generalize (xs.getD k dz).s = s at *
            generalize (xs.getD k dz).q = q at *
            go_wp2_with (first | (go_at_call 80; refine (keyOk_is _ true h1 _).mono ?_; rintro e w' ⟨rfl, rfl⟩) | (go_at_call 81; refine (implTagOk_is _ _ _ false h2 _).mono ?_; rintro e w' ⟨rfl, hb⟩))
            go_ret
            exact ⟨ret_bool HF.out.symm, below_step (HB.out.alloc HB.out.size _) (by have := HB.out.size; simp; omega) hb⟩
          · have HF : Hid (depGood xs k = true) := depGood_good h1 h2 (by rw [HL.out]; omega)
            have HG' : Hid (∀ j, j < k + 1 → depGood xs j = true) := fun j hj => by
              by_cases h : j < k
              · exact HG.out j h
              · have : j = k := by omega
                rw [this]
                exact HF.out
            clear HF
            generalize (xs.getD k dz).k = x at *
            generalize (xs.getD k dz).c = c at *
            generalize (xs.getD k dz).s = s at *
            generalize (xs.getD k dz).q = q at *
            go_wp2_with fail
            refine (keyOk_is _ true h1 _).mono ?_
            rintro e w' ⟨rfl, rfl⟩
            go_wp2_with fail
            refine (implTagOk_is _ _ _ true h2 _).mono ?_
            rintro e w' ⟨rfl, hb⟩
            have HB' : Hid (Below w.heap.size w w') := below_step (HB.out.alloc HB.out.size _) (by have := HB.out.size; simp; omega) hb
            obtain ⟨hc, _⟩ := bcell hb
            clear hb
            go_wp2
            exact ⟨⟨k + 1, x, by omega, by go_num, rfl, HS, HG', HB'⟩, by simp [intOf]; omega⟩
    · go_wp2
      go_ret
      exact ⟨ret_bool (depsOk_true fun i hi => HG.out i (by omega)).symm, HB.out⟩

theorem implDepsOk_any (b o : Nat) (xs : List Dp) (cap : Nat) (w : World) (hn : xs.length ≤ 1048576) (hlt : b < w.heap.size) (hh : HoldsDeps w b o xs) :
    Calls Tryz.prog 83 #[.slice (some ⟨b, o, none⟩) xs.length cap] w fun e w' => e = .returned (.bool (depsOkB xs)) ∧ Below w.heap.size w w' :=
  implDepsOk_gen _ xs cap w hn (.inr ⟨b, o, rfl, hlt, hh⟩)

end Go.Proofs.YtidpcjcnhklmpalGreatDoor

/- Contracts of TagCmp (spec and impl) and of what they call. -/
namespace Go.Proofs.YtidpcjcnhklmpalGreatDoor
open Go.ChangeShapes Go.WideShapes Go.ChangeAt Go.RowKit

theorem sign_any (a b : Int) (w : World) :
    Calls Tryz.prog 62 #[.int .i64 a, .int .i64 b] w fun e w' => e = .returned (.int .i64 (sgn a b)) ∧ w' = w := by
  rcases Int.lt_trichotomy a b with h | h | h
  · have e : sgn a b = -1 := by simp [sgn, h]
    rw [e]
    go_enter Tryz.func62, Tryz.ntmps62
    go_wp2
    go_ret
    exact ⟨rfl, rfl⟩
  · subst h
    rw [sgn_self]
    go_enter Tryz.func62, Tryz.ntmps62
    go_wp2
    go_ret
    exact ⟨rfl, rfl⟩
  · have h' : ¬ a < b := by omega
    have e : sgn a b = 1 := by simp [sgn, h, h']
    rw [e]
    go_enter Tryz.func62, Tryz.ntmps62
    go_wp2
    go_ret
    exact ⟨rfl, rfl⟩

set_option maxHeartbeats 400000 in
theorem specTagCmp_any (c s q c' s' q' : Int) (w : World) :
    Calls Tryz.prog 53 #[tagV c s q, tagV c' s' q'] w fun e w' => e = .returned (.int .i64 (tcmp c s q c' s' q')) ∧ Below w.heap.size w w' := by
  by_cases h1 : c = c'
  · by_cases h2 : s = s'
    · subst h1 h2
      have e : tcmp c s q c s q' = sgn q q' := by simp [tcmp]
      rw [e]
      go_enter Tryz.func53, Tryz.ntmps53
      go_wp2_with (go_at_call 62; refine (sign_any _ _ _).mono ?_; rintro e w' ⟨rfl, rfl⟩)
      go_ret
      exact ⟨rfl, ((Below.refl _ _).alloc (Nat.le_refl _) _).alloc (by simp) _⟩
    · subst h1
      have e : tcmp c s q c s' q' = sgn s s' := by simp [tcmp, h2]
      rw [e]
      have h2' : (s != s') = true := by rw [bne_iff_ne]; exact h2
      go_enter Tryz.func53, Tryz.ntmps53
      go_wp2_with (go_at_call 62; refine (sign_any _ _ _).mono ?_; rintro e w' ⟨rfl, rfl⟩)
      go_ret
      exact ⟨rfl, ((Below.refl _ _).alloc (Nat.le_refl _) _).alloc (by simp) _⟩
  · have e : tcmp c s q c' s' q' = sgn c c' := by simp [tcmp, h1]
    rw [e]
    have h1' : (c != c') = true := by rw [bne_iff_ne]; exact h1
    go_enter Tryz.func53, Tryz.ntmps53
    go_wp2_with (go_at_call 62; refine (sign_any _ _ _).mono ?_; rintro e w' ⟨rfl, rfl⟩)
    go_ret
    exact ⟨rfl, ((Below.refl _ _).alloc (Nat.le_refl _) _).alloc (by simp) _⟩

def orTo (zs : List Int) (k : Nat) : Prop := ∀ i, i < k → zs.getD i 0 = 0

theorem orI_of_first : ∀ (zs : List Int) (k : Nat), k < zs.length → (∀ i, i < k → zs.getD i 0 = 0) → zs.getD k 0 ≠ 0 → orI zs = zs.getD k 0
  | [], _, h, _, _ => by simp at h
  | x :: r, 0, _, _, hn => by
    have hn' : x ≠ 0 := hn
    simp [orI, hn']
  | x :: r, k + 1, h, hz, hn => by
    have hx : x = 0 := hz 0 (by omega)
    have := orI_of_first r k (by simpa using h) (fun i hi => by simpa using hz (i + 1) (by omega)) (by simpa using hn)
    simp [orI, hx]
    simpa using this

theorem orI_of_none : ∀ (zs : List Int), (∀ i, i < zs.length → zs.getD i 0 = 0) → orI zs = 0
  | [], _ => rfl
  | x :: r, h => by
    have hx : x = 0 := h 0 (by simp)
    have := orI_of_none r (fun i hi => by simpa using h (i + 1) (by simpa using hi))
    simp [orI, hx, this]

theorem ret_i64 {a b : Int} (h : a = b) : Ending.returned (.int .i64 a) = .returned (.int .i64 b) := by rw [h]

end Go.Proofs.YtidpcjcnhklmpalGreatDoor

/- Writes: contracts of szWrite, toWrite, eqWrite, valOk, tagWord. -/
namespace Go.Proofs.YtidpcjcnhklmpalGreatDoor
open Go.ChangeShapes Go.WideShapes Go.ChangeAt Go.RowKit Go.Joins
attribute [local go_sem ↓] Go.wp_at_zero Go.wp_at_succ

theorem HoldsDeps.set {w : World} {b o : Nat} {xs : List Dp} {a : Addr} (h : HoldsDeps w b o xs) (hne : a.block ≠ b) (v : Value) : HoldsDeps (w.setCell a v) b o xs := by
  intro i hi
  obtain ⟨h0, h1, h2, h3⟩ := h i hi
  have hn : ∀ o', a ≠ ⟨b, o', none⟩ := fun o' e => hne (by rw [e])
  exact ⟨(World.cell?_setCell_other _ _ _ _ (hn _)).trans h0, (World.cell?_setCell_other _ _ _ _ (hn _)).trans h1, (World.cell?_setCell_other _ _ _ _ (hn _)).trans h2, (World.cell?_setCell_other _ _ _ _ (hn _)).trans h3⟩

abbrev wrV (k c s q v : Int) (de : Bool) (a : Option Addr) (len cap : Nat) : Value := .agg #[.int .i64 k, .int .i64 c, .int .i64 s, .int .i64 q, .int .i64 v, .bool de, .slice a len cap]

set_option maxHeartbeats 1000000 in
theorem eqWrite_gen (k c s q v : Int) (de : Bool) (a a' : Option Addr) (len cap cap' : Nat) (xs : List Dp) (w : World) (hn : len ≤ 1048576) (hl : xs.length = len) (hh : IsDeps w a xs) (hh' : IsDeps w a' xs) :
    Calls Tryz.prog 38 #[wrV k c s q v de a len cap, wrV k c s q v de a' len cap'] w fun e w' => e = .returned (.bool true) ∧ Below w.heap.size w w' := by
  have HH : Hid (IsDeps w a xs) := hh
  have HH' : Hid (IsDeps w a' xs) := hh'
  clear hh hh'
  subst hl
  cases de
  all_goals
    go_enter Tryz.func38, Tryz.ntmps38
    go_wp2_with fail
    refine (eqTag_same _ _ _ _).mono ?_
    rintro e w1 ⟨rfl, hb1⟩
    obtain ⟨hc, _⟩ := bcell hb1
    have HB1 : Hid (Below w.heap.size w w1) := below_step (((Below.refl _ _).alloc (Nat.le_refl _) _).alloc (by simp) _) (by simp; omega) hb1
    clear hb1
    go_wp2_with fail
    refine (eqDepS_gen _ _ xs _ _ _ hn (HH.out.below HB1.out) (HH'.out.below HB1.out)).mono ?_
    rintro e w2 ⟨rfl, hb2⟩
    have HB2 : Hid (Below w.heap.size w w2) := below_step HB1.out HB1.out.size hb2
    clear hb2 HB1
    go_wp2
    go_ret
    exact ⟨rfl, HB2.out⟩

theorem eqWrite_same (k c s q v : Int) (de : Bool) (g g' len cap cap' : Nat) (xs : List Dp) (w : World) (hn : len ≤ 1048576) (hl : xs.length = len) (hlt : g < w.heap.size) (hlt' : g' < w.heap.size) (hh : HoldsDeps w g 0 xs) (hh' : HoldsDeps w g' 0 xs) :
    Calls Tryz.prog 38 #[wrV k c s q v de (some ⟨g, 0, none⟩) len cap, wrV k c s q v de (some ⟨g', 0, none⟩) len cap'] w fun e w' => e = .returned (.bool true) ∧ Below w.heap.size w w' :=
  eqWrite_gen k c s q v de _ _ len cap cap' xs w hn hl (.inr ⟨g, 0, rfl, hlt, hh⟩) (.inr ⟨g', 0, rfl, hlt', hh'⟩)

def valOkB (v : Int) (de : Bool) : Bool := if de then v == 0 else btw v (-1000000) 1000000

theorem valOk_any (v : Int) (de : Bool) (w : World) :
    Calls Tryz.prog 82 #[.int .i64 v, .bool de] w fun e w' => e = .returned (.bool (valOkB v de)) ∧ w' = w := by
  cases de
  · go_enter Tryz.func82, Tryz.ntmps82
    go_wp2_with (go_at_call 98; refine (inRange_any _ _ _ _).mono ?_; rintro e w' ⟨rfl, rfl⟩)
    go_ret
    exact ⟨rfl, rfl⟩
  · go_enter Tryz.func82, Tryz.ntmps82
    go_wp2_with (go_at_call 98; refine (inRange_any _ _ _ _).mono ?_; rintro e w' ⟨rfl, rfl⟩)
    go_ret
    exact ⟨rfl, rfl⟩

theorem word_or (c s q : Int) (h1 : 1 ≤ c) (h2 : c ≤ 100000) (h3 : 0 ≤ s) (h4 : s ≤ 3) (h5 : 1 ≤ q) (h6 : q ≤ 1000) :
    bits BinOp.or IntKind.u64 (bits BinOp.or IntKind.u64 (c * 4096) (s * 1024)) q = c * 4096 + s * 1024 + q := by
  obtain ⟨c, rfl⟩ := Int.eq_ofNat_of_zero_le (show 0 ≤ c by omega)
  obtain ⟨s, rfl⟩ := Int.eq_ofNat_of_zero_le h3
  obtain ⟨q, rfl⟩ := Int.eq_ofNat_of_zero_le (show 0 ≤ q by omega)
  have e1 : bits BinOp.or IntKind.u64 ((c : Int) * 4096) ((s : Int) * 1024) = ((4096 * c + s * 1024 : Nat) : Int) := by
    rw [u64_or _ _ (by omega) (by omega) (by omega) (by omega), show ((c : Int) * 4096).toNat = 2 ^ 12 * c by omega, show ((s : Int) * 1024).toNat = s * 1024 by omega,
      ← Nat.two_pow_add_eq_or_of_lt (show s * 1024 < 2 ^ 12 by omega) c]
  rw [e1, u64_or _ _ (by omega) (by omega) (by omega) (by omega), Int.toNat_natCast, Int.toNat_natCast, show 4096 * c + s * 1024 = 2 ^ 10 * (4 * c + s) by omega,
    ← Nat.two_pow_add_eq_or_of_lt (show q < 2 ^ 10 by omega) (4 * c + s)]
  omega

set_option maxHeartbeats 400000 in
theorem tagWord_raw (c s q : Int) (w : World) (h1 : 1 ≤ c) (h2 : c ≤ 100000) (h3 : 0 ≤ s) (h4 : s ≤ 3) (h5 : 1 ≤ q) (h6 : q ≤ 1000) :
    Calls Tryz.prog 84 #[tagV c s q] w fun e w' => e = .returned (.int .u64 (c * 4096 + s * 1024 + q)) ∧ Below w.heap.size w w' := by
  have HE : Hid (bits BinOp.or IntKind.u64 (bits BinOp.or IntKind.u64 (c * 4096) (s * 1024)) q = c * 4096 + s * 1024 + q) := word_or c s q h1 h2 h3 h4 h5 h6
  go_enter Tryz.func84, Tryz.ntmps84
  go_wp2
  go_ret
  exact ⟨by rw [HE.out]; rfl, (Below.refl _ _).alloc (Nat.le_refl _) _⟩

theorem tagOk_bounds {c s q : Int} (h : tagOkB c s q = true) : 1 ≤ c ∧ c ≤ 100000 ∧ 0 ≤ s ∧ s ≤ 3 ∧ 1 ≤ q ∧ q ≤ 1000 := by
  unfold tagOkB btw at h
  simp only [Bool.and_eq_true, decide_eq_true_eq] at h
  omega

theorem tagWord_any (c s q : Int) (w : World) (h : tagOkB c s q = true) :
    Calls Tryz.prog 84 #[tagV c s q] w fun e w' => e = .returned (.int .u64 (c * 4096 + s * 1024 + q)) ∧ Below w.heap.size w w' := by
  obtain ⟨h1, h2, h3, h4, h5, h6⟩ := tagOk_bounds h
  exact tagWord_raw c s q w h1 h2 h3 h4 h5 h6

/-- The packed words stand as the tags do. -/
theorem word_order {c s q c' s' q' : Int} (h : tagOkB c s q = true) (h' : tagOkB c' s' q' = true) : (c' * 4096 + s' * 1024 + q' ≤ c * 4096 + s * 1024 + q) ↔ 0 ≤ tcmp c s q c' s' q' := by
  obtain ⟨h1, h2, h3, h4, h5, h6⟩ := tagOk_bounds h
  obtain ⟨g1, g2, g3, g4, g5, g6⟩ := tagOk_bounds h'
  unfold tcmp sgn
  by_cases e1 : c = c'
  · rw [if_neg (by simpa using e1)]
    by_cases e2 : s = s'
    · rw [if_neg (by simpa using e2)]
      split
      · omega
      · split <;> omega
    · rw [if_pos e2]
      split
      · omega
      · split <;> omega
  · rw [if_pos e1]
    split
    · omega
    · split <;> omega

end Go.Proofs.YtidpcjcnhklmpalGreatDoor

/- Contracts of spec.WriteOk and impl.WriteOk. -/
namespace Go.Proofs.YtidpcjcnhklmpalGreatDoor
open Go.ChangeShapes Go.WideShapes Go.ChangeAt Go.RowKit Go.Joins

def ahead (xs : List Dp) (c s q : Int) (i : Nat) : Bool := decide (tcmp (xs.getD i dz).c (xs.getD i dz).s (xs.getD i dz).q c s q < 0)

def aheadAll (xs : List Dp) (c s q : Int) : Bool := (List.range xs.length).all (ahead xs c s q)

def writeOkB (k c s q v : Int) (de : Bool) (xs : List Dp) : Bool := btw k 0 5 && (tagOkB c s q && (valOkB v de && (depsOkB xs && aheadAll xs c s q)))

theorem ahead_true {xs : List Dp} {c s q : Int} (h : ∀ i, i < xs.length → ahead xs c s q i = true) : aheadAll xs c s q = true := by
  unfold aheadAll
  rw [List.all_eq_true]
  intro i hi
  exact h i (List.mem_range.1 hi)

theorem ahead_false {xs : List Dp} {c s q : Int} {i : Nat} (hi : i < xs.length) (h : ahead xs c s q i = false) : aheadAll xs c s q = false := by
  unfold aheadAll
  rw [List.all_eq_false]
  exact ⟨i, List.mem_range.2 hi, by simp [h]⟩

theorem depsOk_tag {xs : List Dp} (h : depsOkB xs = true) {i : Nat} (hi : i < xs.length) : tagOkB (xs.getD i dz).c (xs.getD i dz).s (xs.getD i dz).q = true := by
  unfold depsOkB at h
  rw [List.all_eq_true] at h
  have h1 := h i (List.mem_range.2 hi)
  unfold depGood at h1
  simp only [Bool.and_eq_true] at h1
  exact h1.2.1

theorem wok_key {k c s q v : Int} {de : Bool} {xs : List Dp} (h : btw k 0 5 = false) : writeOkB k c s q v de xs = false := by
  unfold writeOkB
  rw [h, Bool.false_and]

theorem wok_tag {k c s q v : Int} {de : Bool} {xs : List Dp} (h : tagOkB c s q = false) : writeOkB k c s q v de xs = false := by
  unfold writeOkB
  rw [h, Bool.false_and, Bool.and_false]

theorem wok_val {k c s q v : Int} {de : Bool} {xs : List Dp} (h : valOkB v de = false) : writeOkB k c s q v de xs = false := by
  unfold writeOkB
  rw [h, Bool.false_and, Bool.and_false, Bool.and_false]

theorem wok_deps {k c s q v : Int} {de : Bool} {xs : List Dp} (h : depsOkB xs = false) : writeOkB k c s q v de xs = false := by
  unfold writeOkB
  rw [h, Bool.false_and, Bool.and_false, Bool.and_false, Bool.and_false]

theorem wok_rest {k c s q v : Int} {de : Bool} {xs : List Dp} (h1 : btw k 0 5 = true) (h2 : tagOkB c s q = true) (h3 : valOkB v de = true) (h4 : depsOkB xs = true) : writeOkB k c s q v de xs = aheadAll xs c s q := by
  unfold writeOkB
  rw [h1, h2, h3, h4, Bool.true_and, Bool.true_and, Bool.true_and, Bool.true_and]

theorem val_dead {v : Int} (h : valOkB v true = true) : v = 0 := by
  unfold valOkB at h
  simpa using h

theorem val_btw {v : Int} {de : Bool} (h : valOkB v de = true) : btw v (-1000000) 1000000 = true := by
  cases de
  · exact h
  · rw [val_dead h]
    rfl

theorem valOk_is (v : Int) (de r : Bool) (h : valOkB v de = r) (w : World) :
    Calls Tryz.prog 82 #[.int .i64 v, .bool de] w fun e w' => e = .returned (.bool r) ∧ w' = w := by
  subst h
  exact valOk_any v de w

theorem between_is (v lo hi : Int) (r : Bool) (h : btw v lo hi = r) (w : World) :
    Calls Tryz.prog 18 #[.int .i64 v, .int .i64 lo, .int .i64 hi] w fun e w' => e = .returned (.bool r) ∧ w' = w := by
  subst h
  exact between_any v lo hi w

theorem specDepsOk_is (r : Bool) (a : Option Addr) (xs : List Dp) (h : depsOkB xs = r) (cap : Nat) (w : World) (hn : xs.length ≤ 1048576) (hh : IsDeps w a xs) :
    Calls Tryz.prog 52 #[.slice a xs.length cap] w fun e w' => e = .returned (.bool r) ∧ Below w.heap.size w w' := by
  subst h
  exact specDepsOk_gen a xs cap w hn hh

theorem implDepsOk_is (r : Bool) (a : Option Addr) (xs : List Dp) (h : depsOkB xs = r) (cap : Nat) (w : World) (hn : xs.length ≤ 1048576) (hh : IsDeps w a xs) :
    Calls Tryz.prog 83 #[.slice a xs.length cap] w fun e w' => e = .returned (.bool r) ∧ Below w.heap.size w w' := by
  subst h
  exact implDepsOk_gen a xs cap w hn hh

/-- What the box of a write holds, in every later world. -/
theorem box_cells {w w1 : World} {vs : Array Value} {t : Nat} (hb : Below (w.alloc (.cells vs t)).heap.size (w.alloc (.cells vs t)) w1) (i : Nat) (hi : i < vs.size) : w1.cell? ⟨w.heap.size, i, none⟩ = some vs[i] := by
  rw [hb.cell (p := ⟨w.heap.size, i, none⟩) (by simp)]
  simp [go_sem, hi]

/-- A world that holds what was there, and the box of a write behind it. -/
structure BoxIn (w0 w : World) (k c s q v : Int) (de : Bool) (a : Option Addr) (len cap : Nat) : Prop where
  lt : w0.heap.size < w.heap.size
  below : Below w0.heap.size w0 w
  c0 : w.cell? ⟨w0.heap.size, 0, none⟩ = some (.int .i64 k)
  c1 : w.cell? ⟨w0.heap.size, 1, none⟩ = some (.int .i64 c)
  c2 : w.cell? ⟨w0.heap.size, 2, none⟩ = some (.int .i64 s)
  c3 : w.cell? ⟨w0.heap.size, 3, none⟩ = some (.int .i64 q)
  c4 : w.cell? ⟨w0.heap.size, 4, none⟩ = some (.int .i64 v)
  c5 : w.cell? ⟨w0.heap.size, 5, none⟩ = some (.bool de)
  c6 : w.cell? ⟨w0.heap.size, 6, none⟩ = some (.slice a len cap)

theorem BoxIn.start {w w1 : World} {k c s q v : Int} {de : Bool} {a : Option Addr} {len cap t : Nat} (hb : Below (w.alloc (.cells #[.int .i64 k, .int .i64 c, .int .i64 s, .int .i64 q, .int .i64 v, .bool de, .slice a len cap] t)).heap.size (w.alloc (.cells #[.int .i64 k, .int .i64 c, .int .i64 s, .int .i64 q, .int .i64 v, .bool de, .slice a len cap] t)) w1) : BoxIn w w1 k c s q v de a len cap where
  lt := by have := hb.size; simp at this; omega
  below := below_step ((Below.refl _ _).alloc (Nat.le_refl _) _) (by simp) hb
  c0 := box_cells hb 0 (by simp)
  c1 := box_cells hb 1 (by simp)
  c2 := box_cells hb 2 (by simp)
  c3 := box_cells hb 3 (by simp)
  c4 := box_cells hb 4 (by simp)
  c5 := box_cells hb 5 (by simp)
  c6 := box_cells hb 6 (by simp)

theorem BoxIn.step {w0 w w1 : World} {k c s q v : Int} {de : Bool} {a : Option Addr} {len cap : Nat} (h : BoxIn w0 w k c s q v de a len cap) (hb : Below w.heap.size w w1) : BoxIn w0 w1 k c s q v de a len cap where
  lt := Nat.lt_of_lt_of_le h.lt hb.size
  below := below_step h.below h.below.size hb
  c0 := held_cell hb h.c0 h.lt
  c1 := held_cell hb h.c1 h.lt
  c2 := held_cell hb h.c2 h.lt
  c3 := held_cell hb h.c3 h.lt
  c4 := held_cell hb h.c4 h.lt
  c5 := held_cell hb h.c5 h.lt
  c6 := held_cell hb h.c6 h.lt

theorem BoxIn.other {w0 w w1 : World} {k c s q v : Int} {de : Bool} {a : Option Addr} {len cap : Nat} (h : BoxIn w0 w k c s q v de a len cap) (hs : w.heap.size ≤ w1.heap.size) (hB : Below w0.heap.size w0 w1) (hc : w1.heap[w0.heap.size]? = w.heap[w0.heap.size]?) : BoxIn w0 w1 k c s q v de a len cap where
  lt := Nat.lt_of_lt_of_le h.lt hs
  below := hB
  c0 := (World.cell?_of_block (w := w) (a := ⟨w0.heap.size, 0, none⟩) hc).trans h.c0
  c1 := (World.cell?_of_block (w := w) (a := ⟨w0.heap.size, 1, none⟩) hc).trans h.c1
  c2 := (World.cell?_of_block (w := w) (a := ⟨w0.heap.size, 2, none⟩) hc).trans h.c2
  c3 := (World.cell?_of_block (w := w) (a := ⟨w0.heap.size, 3, none⟩) hc).trans h.c3
  c4 := (World.cell?_of_block (w := w) (a := ⟨w0.heap.size, 4, none⟩) hc).trans h.c4
  c5 := (World.cell?_of_block (w := w) (a := ⟨w0.heap.size, 5, none⟩) hc).trans h.c5
  c6 := (World.cell?_of_block (w := w) (a := ⟨w0.heap.size, 6, none⟩) hc).trans h.c6

set_option maxHeartbeats 1000000 in
theorem specWriteOk_ends (k c s q v : Int) (de : Bool) (a : Option Addr) (xs : List Dp) (cap : Nat) (w : World)
    (hbad : btw k 0 5 = false ∨ tagOkB c s q = false ∨ valOkB v de = false) :
    Calls Tryz.prog 39 #[wrV k c s q v de a xs.length cap] w fun e w' => e = .returned (.bool (writeOkB k c s q v de xs)) ∧ Below w.heap.size w w' := by
  cases h1 : btw k 0 5
  · rw [wok_key h1]
    clear hbad
    go_enter Tryz.func39, Tryz.ntmps39
    go_wp2_with (go_at_call 50; refine (key_is _ false h1 _).mono ?_; rintro e w' ⟨rfl, rfl⟩)
    go_ret
    exact ⟨rfl, (Below.refl _ _).alloc (Nat.le_refl _) _⟩
  cases h2 : tagOkB c s q
  · rw [wok_tag h2]
    clear hbad
    go_enter Tryz.func39, Tryz.ntmps39
    go_wp2_with (first | (go_at_call 50; refine (key_is _ true h1 _).mono ?_; rintro e w' ⟨rfl, rfl⟩) | (go_at_call 51; refine (specTagOk_is _ _ _ false h2 _).mono ?_; rintro e w' ⟨rfl, hb⟩))
    go_ret
    exact ⟨rfl, below_step ((Below.refl _ _).alloc (Nat.le_refl _) _) (by simp) hb⟩
  have h3 : valOkB v de = false := by
    rcases hbad with h | h | h
    · rw [h1] at h; cases h
    · rw [h2] at h; cases h
    · exact h
  rw [wok_val h3]
  clear hbad
  cases h4 : btw v (-1000000) 1000000
  · go_enter Tryz.func39, Tryz.ntmps39
    go_wp2_with fail
    refine (key_is _ true h1 _).mono ?_
    rintro e w1 ⟨rfl, rfl⟩
    go_wp2_with fail
    refine (specTagOk_is _ _ _ true h2 _).mono ?_
    rintro e w2 ⟨rfl, hb⟩
    have HB : Hid (Below w.heap.size w w2) := below_step ((Below.refl _ _).alloc (Nat.le_refl _) _) (by simp) hb
    have b4 : w2.cell? ⟨w.heap.size, 4, none⟩ = some (.int .i64 v) := box_cells hb 4 (by simp)
    clear hb
    go_wp2_with (go_at_call 18; refine (between_is _ _ _ false h4 _).mono ?_; rintro e w' ⟨rfl, rfl⟩)
    go_ret
    exact ⟨rfl, HB.out⟩
  · have hde : de = true := by
      cases de
      · have e : valOkB v false = btw v (-1000000) 1000000 := rfl
        rw [e, h4] at h3
        cases h3
      · rfl
    subst hde
    have hv : (v != 0) = true := by
      rw [bne_iff_ne]
      intro e
      rw [e] at h3
      cases h3
    clear h3
    go_enter Tryz.func39, Tryz.ntmps39
    go_wp2_with fail
    refine (key_is _ true h1 _).mono ?_
    rintro e w1 ⟨rfl, rfl⟩
    go_wp2_with fail
    refine (specTagOk_is _ _ _ true h2 _).mono ?_
    rintro e w2 ⟨rfl, hb⟩
    have HB : Hid (Below w.heap.size w w2) := below_step ((Below.refl _ _).alloc (Nat.le_refl _) _) (by simp) hb
    have b4 : w2.cell? ⟨w.heap.size, 4, none⟩ = some (.int .i64 v) := box_cells hb 4 (by simp)
    have b5 : w2.cell? ⟨w.heap.size, 5, none⟩ = some (.bool true) := box_cells hb 5 (by simp)
    clear hb
    go_wp2_with (go_at_call 18; refine (between_is _ _ _ true h4 _).mono ?_; rintro e w' ⟨rfl, rfl⟩)
    go_ret
    exact ⟨rfl, HB.out⟩

set_option maxHeartbeats 1000000 in
theorem specWriteOk_deps_false (k c s q v : Int) (a : Option Addr) (xs : List Dp) (cap : Nat) (w : World) (hn : xs.length ≤ 1048576) (hh : IsDeps w a xs)
    (h1 : btw k 0 5 = true) (h2 : tagOkB c s q = true) (h3 : valOkB v false = true) (h4 : depsOkB xs = false) :
    Calls Tryz.prog 39 #[wrV k c s q v false a xs.length cap] w fun e w' => e = .returned (.bool (writeOkB k c s q v false xs)) ∧ Below w.heap.size w w' := by
  rw [wok_deps h4]
  have h5 := val_btw h3
  have HH : Hid (IsDeps w a xs) := hh
  clear hh h3
  go_enter Tryz.func39, Tryz.ntmps39
  go_wp2_with fail
  refine (key_is _ true h1 _).mono ?_
  rintro e w1 ⟨rfl, rfl⟩
  go_wp2_with fail
  refine (specTagOk_is _ _ _ true h2 _).mono ?_
  rintro e w2 ⟨rfl, hb⟩
  have HX := BoxIn.start hb
  have b4 := HX.c4
  have b5 := HX.c5
  have b6 := HX.c6
  clear hb
  go_wp2_with fail
  refine (between_is _ _ _ true h5 _).mono ?_
  rintro e w3 ⟨rfl, rfl⟩
  go_wp2_with fail
  refine (specDepsOk_is false _ xs h4 _ _ hn (HH.out.below HX.below)).mono ?_
  rintro e w4 ⟨rfl, hb4⟩
  have HB : Hid (Below w.heap.size w w4) := below_step HX.below HX.below.size hb4
  clear hb4
  go_wp2
  go_ret
  exact ⟨rfl, HB.out⟩

set_option maxHeartbeats 1000000 in
theorem specWriteOk_deps_true (k c s q v : Int) (a : Option Addr) (xs : List Dp) (cap : Nat) (w : World) (hn : xs.length ≤ 1048576) (hh : IsDeps w a xs)
    (h1 : btw k 0 5 = true) (h2 : tagOkB c s q = true) (h3 : valOkB v true = true) (h4 : depsOkB xs = false) :
    Calls Tryz.prog 39 #[wrV k c s q v true a xs.length cap] w fun e w' => e = .returned (.bool (writeOkB k c s q v true xs)) ∧ Below w.heap.size w w' := by
  rw [wok_deps h4]
  have h5 := val_btw h3
  have hv : (v != 0) = false := by
    rw [val_dead h3]
    rfl
  have HH : Hid (IsDeps w a xs) := hh
  clear hh h3
  go_enter Tryz.func39, Tryz.ntmps39
  go_wp2_with fail
  refine (key_is _ true h1 _).mono ?_
  rintro e w1 ⟨rfl, rfl⟩
  go_wp2_with fail
  refine (specTagOk_is _ _ _ true h2 _).mono ?_
  rintro e w2 ⟨rfl, hb⟩
  have HX := BoxIn.start hb
  have b4 := HX.c4
  have b5 := HX.c5
  have b6 := HX.c6
  clear hb
  go_wp2_with fail
  refine (between_is _ _ _ true h5 _).mono ?_
  rintro e w3 ⟨rfl, rfl⟩
  go_wp2_with fail
  refine (specDepsOk_is false _ xs h4 _ _ hn (HH.out.below HX.below)).mono ?_
  rintro e w4 ⟨rfl, hb4⟩
  have HB : Hid (Below w.heap.size w w4) := below_step HX.below HX.below.size hb4
  clear hb4
  go_wp2
  go_ret
  exact ⟨rfl, HB.out⟩

set_option maxHeartbeats 2000000 in
theorem specWriteOk_rest_false (k c s q v : Int) (a : Option Addr) (xs : List Dp) (cap : Nat) (w : World) (hn : xs.length ≤ 1048576) (hh : IsDeps w a xs)
    (h1 : btw k 0 5 = true) (h2 : tagOkB c s q = true) (h3 : valOkB v false = true) (h4 : depsOkB xs = true) :
    Calls Tryz.prog 39 #[wrV k c s q v false a xs.length cap] w fun e w' => e = .returned (.bool (writeOkB k c s q v false xs)) ∧ Below w.heap.size w w' := by
  rw [wok_rest h1 h2 h3 h4]
  have h5 := val_btw h3
  have HH : Hid (IsDeps w a xs) := hh
  clear hh h3
  go_enter Tryz.func39, Tryz.ntmps39
  go_wp2_with fail
  refine (key_is _ true h1 _).mono ?_
  rintro e w1 ⟨rfl, rfl⟩
  go_wp2_with fail
  refine (specTagOk_is _ _ _ true h2 _).mono ?_
  rintro e w2 ⟨rfl, hb⟩
  have HX := BoxIn.start hb
  have b4 := HX.c4
  have b5 := HX.c5
  have b6 := HX.c6
  clear hb
  go_wp2_with fail
  refine (between_is _ _ _ true h5 _).mono ?_
  rintro e w3 ⟨rfl, rfl⟩
  go_wp2_with fail
  refine (specDepsOk_is true _ xs h4 _ _ hn (HH.out.below HX.below)).mono ?_
  rintro e w4 ⟨rfl, hb4⟩
  have HX4 : Hid (BoxIn w w4 k c s q v false a xs.length cap) := HX.step hb4
  clear hb4 HX b4 b5 b6 h4
  go_wp2
  go_loopw [3] (fun i wr => ∃ j : Nat, j ≤ xs.length ∧ i = .int .i64 j ∧ Hid (∀ l, l < j → ahead xs c s q l = true) ∧ Hid (BoxIn w wr k c s q v false a xs.length cap)) (fun i _ => xs.length - (intOf i).toNat)
  case atStart => exact ⟨0, Nat.zero_le _, rfl, fun l hl => by omega, HX4⟩
  case round =>
    clear HX4
    obtain ⟨j, hj, rfl, HG, HX⟩ := hrel
    have b1 := HX.out.c1
    have b2 := HX.out.c2
    have b3 := HX.out.c3
    have b6 := HX.out.c6
    have hzb := HX.out.lt
    by_cases hj' : j < xs.length
    · obtain ⟨g, o, rfl, hz, e0, e1, e2, e3⟩ := HH.out.at HX.out.below hj'
      have HA : Hid (ahead xs c s q j = decide (tcmp (xs.getD j dz).c (xs.getD j dz).s (xs.getD j dz).q c s q < 0)) := rfl
      have i1 : (0 : Int) ≤ (j : Int) := by omega
      have i2 : (j : Int) < (xs.length : Int) := by omega
      generalize (xs.getD j dz).k = x0 at *
      generalize (xs.getD j dz).c = x1 at *
      generalize (xs.getD j dz).s = x2 at *
      generalize (xs.getD j dz).q = x3 at *
      by_cases hs : tcmp x1 x2 x3 c s q < 0
      · have HG' : Hid (∀ l, l < j + 1 → ahead xs c s q l = true) := fun l hl => by
          by_cases h : l < j
          · exact HG.out l h
          · have : l = j := by omega
            rw [this, HA.out]
            exact decide_eq_true hs
        clear HA
        go_wp2_with fail
        have ge1 := aft_cell hz e1
        have ge2 := aft_cell hz e2
        have ge3 := aft_cell hz e3
        have gb1 := aft_cell hzb b1
        have gb2 := aft_cell hzb b2
        have gb3 := aft_cell hzb b3
        have gb6 := aft_cell hzb b6
        have ne := aft_some wr
        refine wp_region_aft (by kernel_rfl) (by kernel_rfl) ?_
        repeat (first | go_big_quiet_step (first | (go_at_call 53; exact aft_of (specTagCmp_any _ _ _ _ _ _ _))))
        refine wpQuiet_nil ?_
        intro wq hq
        go_wp2
        exact ⟨⟨j + 1, by omega, by go_num, HG', HX.out.step hq⟩, by simp [intOf]; omega⟩
      · have HF : Hid (aheadAll xs c s q = false) := ahead_false hj' (by rw [HA.out]; exact decide_eq_false hs)
        clear HA
        go_wp2_with fail
        have ge1 := aft_cell hz e1
        have ge2 := aft_cell hz e2
        have ge3 := aft_cell hz e3
        have gb1 := aft_cell hzb b1
        have gb2 := aft_cell hzb b2
        have gb3 := aft_cell hzb b3
        have gb6 := aft_cell hzb b6
        have ne := aft_some wr
        refine wp_region_aft (by kernel_rfl) (by kernel_rfl) ?_
        repeat (first | go_big_quiet_step (first | (go_at_call 53; exact aft_of (specTagCmp_any _ _ _ _ _ _ _))))
        refine wpQuiet_nil ?_
        intro wq hq
        go_wp2
        go_ret
        exact ⟨ret_bool HF.out.symm, (HX.out.step hq).below⟩
    · go_wp2
      go_ret
      exact ⟨ret_bool (ahead_true fun i hi => HG.out i (by omega)).symm, HX.out.below⟩

set_option maxHeartbeats 2000000 in
theorem specWriteOk_rest_true (k c s q v : Int) (a : Option Addr) (xs : List Dp) (cap : Nat) (w : World) (hn : xs.length ≤ 1048576) (hh : IsDeps w a xs)
    (h1 : btw k 0 5 = true) (h2 : tagOkB c s q = true) (h3 : valOkB v true = true) (h4 : depsOkB xs = true) :
    Calls Tryz.prog 39 #[wrV k c s q v true a xs.length cap] w fun e w' => e = .returned (.bool (writeOkB k c s q v true xs)) ∧ Below w.heap.size w w' := by
  rw [wok_rest h1 h2 h3 h4]
  have h5 := val_btw h3
  have hv : (v != 0) = false := by
    rw [val_dead h3]
    rfl
  have HH : Hid (IsDeps w a xs) := hh
  clear hh h3
  go_enter Tryz.func39, Tryz.ntmps39
  go_wp2_with fail
  refine (key_is _ true h1 _).mono ?_
  rintro e w1 ⟨rfl, rfl⟩
  go_wp2_with fail
  refine (specTagOk_is _ _ _ true h2 _).mono ?_
  rintro e w2 ⟨rfl, hb⟩
  have HX := BoxIn.start hb
  have b4 := HX.c4
  have b5 := HX.c5
  have b6 := HX.c6
  clear hb
  go_wp2_with fail
  refine (between_is _ _ _ true h5 _).mono ?_
  rintro e w3 ⟨rfl, rfl⟩
  go_wp2_with fail
  refine (specDepsOk_is true _ xs h4 _ _ hn (HH.out.below HX.below)).mono ?_
  rintro e w4 ⟨rfl, hb4⟩
  have HX4 : Hid (BoxIn w w4 k c s q v true a xs.length cap) := HX.step hb4
  clear hb4 HX b4 b5 b6 h4
  go_wp2
  go_loopw [3] (fun i wr => ∃ j : Nat, j ≤ xs.length ∧ i = .int .i64 j ∧ Hid (∀ l, l < j → ahead xs c s q l = true) ∧ Hid (BoxIn w wr k c s q v true a xs.length cap)) (fun i _ => xs.length - (intOf i).toNat)
  case atStart => exact ⟨0, Nat.zero_le _, rfl, fun l hl => by omega, HX4⟩
  case round =>
    clear HX4
    obtain ⟨j, hj, rfl, HG, HX⟩ := hrel
    have b1 := HX.out.c1
    have b2 := HX.out.c2
    have b3 := HX.out.c3
    have b6 := HX.out.c6
    have hzb := HX.out.lt
    by_cases hj' : j < xs.length
    · obtain ⟨g, o, rfl, hz, e0, e1, e2, e3⟩ := HH.out.at HX.out.below hj'
      have HA : Hid (ahead xs c s q j = decide (tcmp (xs.getD j dz).c (xs.getD j dz).s (xs.getD j dz).q c s q < 0)) := rfl
      have i1 : (0 : Int) ≤ (j : Int) := by omega
      have i2 : (j : Int) < (xs.length : Int) := by omega
      generalize (xs.getD j dz).k = x0 at *
      generalize (xs.getD j dz).c = x1 at *
      generalize (xs.getD j dz).s = x2 at *
      generalize (xs.getD j dz).q = x3 at *
      by_cases hs : tcmp x1 x2 x3 c s q < 0
      · have HG' : Hid (∀ l, l < j + 1 → ahead xs c s q l = true) := fun l hl => by
          by_cases h : l < j
          · exact HG.out l h
          · have : l = j := by omega
            rw [this, HA.out]
            exact decide_eq_true hs
        clear HA
        go_wp2_with fail
        have ge1 := aft_cell hz e1
        have ge2 := aft_cell hz e2
        have ge3 := aft_cell hz e3
        have gb1 := aft_cell hzb b1
        have gb2 := aft_cell hzb b2
        have gb3 := aft_cell hzb b3
        have gb6 := aft_cell hzb b6
        have ne := aft_some wr
        refine wp_region_aft (by kernel_rfl) (by kernel_rfl) ?_
        repeat (first | go_big_quiet_step (first | (go_at_call 53; exact aft_of (specTagCmp_any _ _ _ _ _ _ _))))
        refine wpQuiet_nil ?_
        intro wq hq
        go_wp2
        exact ⟨⟨j + 1, by omega, by go_num, HG', HX.out.step hq⟩, by simp [intOf]; omega⟩
      · have HF : Hid (aheadAll xs c s q = false) := ahead_false hj' (by rw [HA.out]; exact decide_eq_false hs)
        clear HA
        go_wp2_with fail
        have ge1 := aft_cell hz e1
        have ge2 := aft_cell hz e2
        have ge3 := aft_cell hz e3
        have gb1 := aft_cell hzb b1
        have gb2 := aft_cell hzb b2
        have gb3 := aft_cell hzb b3
        have gb6 := aft_cell hzb b6
        have ne := aft_some wr
        refine wp_region_aft (by kernel_rfl) (by kernel_rfl) ?_
        repeat (first | go_big_quiet_step (first | (go_at_call 53; exact aft_of (specTagCmp_any _ _ _ _ _ _ _))))
        refine wpQuiet_nil ?_
        intro wq hq
        go_wp2
        go_ret
        exact ⟨ret_bool HF.out.symm, (HX.out.step hq).below⟩
    · go_wp2
      go_ret
      exact ⟨ret_bool (ahead_true fun i hi => HG.out i (by omega)).symm, HX.out.below⟩

theorem specWriteOk_gen (k c s q v : Int) (de : Bool) (a : Option Addr) (xs : List Dp) (len cap : Nat) (w : World) (hl : xs.length = len) (hn : len ≤ 1048576) (hh : IsDeps w a xs) :
    Calls Tryz.prog 39 #[wrV k c s q v de a len cap] w fun e w' => e = .returned (.bool (writeOkB k c s q v de xs)) ∧ Below w.heap.size w w' := by
  subst hl
  by_cases h : btw k 0 5 = false ∨ tagOkB c s q = false ∨ valOkB v de = false
  · exact specWriteOk_ends k c s q v de a xs cap w h
  · simp only [not_or, Bool.not_eq_false] at h
    obtain ⟨h1, h2, h3⟩ := h
    cases h4 : depsOkB xs
    · cases de
      · exact specWriteOk_deps_false k c s q v a xs cap w hn hh h1 h2 h3 h4
      · exact specWriteOk_deps_true k c s q v a xs cap w hn hh h1 h2 h3 h4
    · cases de
      · exact specWriteOk_rest_false k c s q v a xs cap w hn hh h1 h2 h3 h4
      · exact specWriteOk_rest_true k c s q v a xs cap w hn hh h1 h2 h3 h4

theorem specWriteOk_any (k c s q v : Int) (de : Bool) (g : Nat) (xs : List Dp) (len cap : Nat) (w : World) (hl : xs.length = len) (hn : len ≤ 1048576) (hlt : g < w.heap.size) (hh : HoldsDeps w g 0 xs) :
    Calls Tryz.prog 39 #[wrV k c s q v de (some ⟨g, 0, none⟩) len cap] w fun e w' => e = .returned (.bool (writeOkB k c s q v de xs)) ∧ Below w.heap.size w w' :=
  specWriteOk_gen k c s q v de _ xs len cap w hl hn (.inr ⟨g, 0, rfl, hlt, hh⟩)

end Go.Proofs.YtidpcjcnhklmpalGreatDoor
