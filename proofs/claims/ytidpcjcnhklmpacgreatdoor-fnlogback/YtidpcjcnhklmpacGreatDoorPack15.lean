import Derived.Test.YtidpcjcnhklmpacGreatDoorPack14
import Derived.Test.YtidpcjcnhklmpacGreatDoorPack11
import Derived.Maps.OwnSet
import Derived.DeepKeys4
import Derived.Test.YtidpcjcnhklmpacGreatDoorPack13
import Derived.Test.YtidpcjcnhklmpacGreatDoorPack6
import Derived.Test.YtidpcjcnhklmpacGreatDoorPack12
import Derived.Test.YtidpcjcnhklmpacGreatDoorPack1
import Derived.Lib.Hide
/- Maps as lists of writes whose keys rise: what is put, what is joined, what registers tell. No Go in sight. -/
namespace Go.Proofs.YtidpcjcnhklmpacGreatDoor

/-- The keys rise. -/
def Rise (ws : List Wr) : Prop := ws.Pairwise fun x y => x.k < y.k

theorem rise_of_next : ∀ {ws : List Wr}, (∀ i, i + 1 < ws.length → (ws.getD i wz).k < (ws.getD (i + 1) wz).k) → Rise ws
  | [], _ => List.Pairwise.nil
  | [x], _ => by simp [Rise]
  | x :: y :: r, h => by
    have ih : Rise (y :: r) := rise_of_next fun i hi => h (i + 1) (by simpa using hi)
    have h0 : x.k < y.k := h 0 (by simp)
    refine List.Pairwise.cons (fun z hz => ?_) ih
    rcases List.mem_cons.1 hz with e | hz
    · rw [e]; exact h0
    · have h1 : y.k < z.k := (List.pairwise_cons.1 ih).1 z hz
      omega

theorem rise_next : ∀ {ws : List Wr}, Rise ws → ∀ i, i + 1 < ws.length → (ws.getD i wz).k < (ws.getD (i + 1) wz).k
  | [], _, i, h => by simp at h
  | x :: r, hr, i, h => by
    have hp := List.pairwise_cons.1 hr
    cases i with
    | zero =>
      cases r with
      | nil => simp at h
      | cons y r => exact hp.1 y (by simp)
    | succ i => exact rise_next (ws := r) hp.2 i (by simpa using h)

theorem mapOk_iff (ws : List Wr) : mapOkB ws = true ↔ (∀ x ∈ ws, okW x = true) ∧ Rise ws := by
  unfold mapOkB
  rw [List.all_eq_true]
  constructor
  · intro h
    have h' : ∀ i, i < ws.length → okW (ws.getD i wz) = true ∧ (i = 0 ∨ (ws.getD (i - 1) wz).k < (ws.getD i wz).k) := fun i hi => by
      have := h i (List.mem_range.2 hi)
      unfold wrGood at this
      simpa only [Bool.and_eq_true, decide_eq_true_eq] using this
    refine ⟨fun x hx => ?_, rise_of_next fun i hi => ?_⟩
    · obtain ⟨i, hi, rfl⟩ := List.mem_iff_getElem.1 hx
      have := (h' i hi).1
      simpa [List.getD, hi] using this
    · rcases (h' (i + 1) hi).2 with h0 | h0
      · omega
      · simpa using h0
  · rintro ⟨h1, h2⟩ i hi
    have hi := List.mem_range.1 hi
    unfold wrGood
    simp only [Bool.and_eq_true, decide_eq_true_eq]
    refine ⟨h1 _ (by simp [List.getD, hi]), ?_⟩
    cases i with
    | zero => exact .inl rfl
    | succ i => exact .inr (by simpa using rise_next h2 i hi)

/-- A write put to a map, said by recursion. -/
def putR : List Wr → Wr → List Wr
  | [], x => [x]
  | y :: r, x => if y.k = x.k then (if cmpW y x < 0 then x else y) :: r else if x.k < y.k then x :: y :: r else y :: putR r x

theorem putStep_past (x : Wr) : ∀ (ws acc : List Wr), (∀ y ∈ ws, x.k < y.k) → ws.foldl (putStep x) (acc, true) = (acc ++ ws, true)
  | [], acc, _ => by simp
  | y :: r, acc, h => by
    have hy : x.k < y.k := h y (by simp)
    have e : putStep x (acc, true) y = (acc ++ [y], true) := by
      unfold putStep
      rw [if_neg (by omega), if_neg (by simp)]
    rw [List.foldl_cons, e, putStep_past x r _ fun z hz => h z (by simp [hz])]
    simp

theorem putStep_fold (x : Wr) : ∀ (ws acc : List Wr), Rise ws → (if (ws.foldl (putStep x) (acc, false)).2 then (ws.foldl (putStep x) (acc, false)).1 else (ws.foldl (putStep x) (acc, false)).1 ++ [x]) = acc ++ putR ws x
  | [], acc, _ => by simp [putR]
  | y :: r, acc, h => by
    have hp := List.pairwise_cons.1 h
    rw [List.foldl_cons]
    unfold putR
    by_cases h1 : y.k = x.k
    · have hr : ∀ z ∈ r, x.k < z.k := fun z hz => by have := hp.1 z hz; omega
      by_cases h2 : cmpW y x < 0
      · have e : putStep x (acc, false) y = (acc ++ [x], true) := by simp [putStep, h1, h2]
        rw [e, putStep_past x r _ hr]
        simp [h1, h2]
      · have e : putStep x (acc, false) y = (acc ++ [y], true) := by simp [putStep, h1, h2]
        rw [e, putStep_past x r _ hr]
        simp [h1, h2]
    · by_cases h2 : x.k < y.k
      · have hr : ∀ z ∈ r, x.k < z.k := fun z hz => by have := hp.1 z hz; omega
        have e : putStep x (acc, false) y = (acc ++ [x] ++ [y], true) := by simp [putStep, h1, h2]
        rw [e, putStep_past x r _ hr]
        simp [h1, h2]
      · have e : putStep x (acc, false) y = (acc ++ [y], false) := by simp [putStep, h1, h2]
        rw [e, putStep_fold x r _ hp.2]
        simp [h1, h2]

theorem putW_eq {ws : List Wr} (h : Rise ws) (x : Wr) : putW ws x = putR ws x := by
  have := putStep_fold x ws [] h
  rw [List.nil_append] at this
  exact this

/-- The later one of what is there and what comes. -/
def laterO (o : Option Wr) (x : Wr) : Wr := match o with | none => x | some y => if cmpW y x < 0 then x else y

theorem findW_cons (y : Wr) (r : List Wr) (key : Int) : findW (y :: r) key = if y.k = key then some y else findW r key := by
  unfold findW
  rw [List.find?_cons]
  by_cases h : y.k = key
  · simp [h]
  · rw [beq_eq_false_iff_ne.2 h, if_neg h]

theorem findW_past : ∀ {ws : List Wr} {key : Int}, (∀ y ∈ ws, key < y.k) → findW ws key = none
  | [], _, _ => rfl
  | y :: r, key, h => by
    rw [findW_cons, if_neg (by have := h y (by simp); omega), findW_past fun z hz => h z (by simp [hz])]

theorem later_key {o : Option Wr} {x : Wr} (h : ∀ y, o = some y → y.k = x.k) : (laterO o x).k = x.k := by
  unfold laterO
  split
  · rfl
  · split
    · rfl
    · exact h _ rfl

theorem findW_key {ws : List Wr} {key : Int} {x : Wr} (h : findW ws key = some x) : x.k = key := by
  have := List.find?_some h
  simpa using this

theorem findW_mem {ws : List Wr} {key : Int} {x : Wr} (h : findW ws key = some x) : x ∈ ws := List.mem_of_find?_eq_some h

theorem find_putR : ∀ (ws : List Wr) (x : Wr) (key : Int), Rise ws → findW (putR ws x) key = if key = x.k then some (laterO (findW ws x.k) x) else findW ws key
  | [], x, key, _ => by
    simp only [putR, findW_cons]
    by_cases h : x.k = key
    · rw [if_pos h, if_pos h.symm]
      rfl
    · rw [if_neg h, if_neg (fun e => h e.symm)]
  | y :: r, x, key, h => by
    have hp := List.pairwise_cons.1 h
    unfold putR
    by_cases h1 : y.k = x.k
    · rw [if_pos h1, findW_cons, findW_cons y r x.k, if_pos h1, findW_cons y r key]
      by_cases h2 : cmpW y x < 0
      · simp only [h2, if_true, laterO, h1, eq_comm]
        by_cases h3 : key = x.k <;> simp [h3]
      · simp only [h2, if_false, laterO, h1, eq_comm]
        by_cases h3 : key = x.k <;> simp [h3]
    · rw [if_neg h1]
      by_cases h2 : x.k < y.k
      · rw [if_pos h2, findW_cons]
        have hn : findW (y :: r) x.k = none := findW_past fun z hz => by
          rcases List.mem_cons.1 hz with e | hz
          · rw [e]; exact h2
          · have := hp.1 z hz; omega
        rw [hn]
        by_cases h3 : x.k = key
        · rw [if_pos h3, if_pos h3.symm]
          rfl
        · rw [if_neg h3, if_neg (fun e => h3 e.symm)]
      · rw [if_neg h2, findW_cons, find_putR r x key hp.2, findW_cons, if_neg h1, findW_cons]
        by_cases h3 : y.k = key
        · rw [if_pos h3, if_neg (by omega), if_pos h3]
        · rw [if_neg h3, if_neg h3]

theorem putR_mem : ∀ (ws : List Wr) (x z : Wr), z ∈ putR ws x → z = x ∨ z ∈ ws
  | [], x, z, h => by simpa [putR] using h
  | y :: r, x, z, h => by
    unfold putR at h
    by_cases h1 : y.k = x.k
    · rw [if_pos h1] at h
      by_cases h2 : cmpW y x < 0
      · rw [if_pos h2] at h
        rcases List.mem_cons.1 h with h | h
        · exact .inl h
        · exact .inr (by simp [h])
      · rw [if_neg h2] at h
        exact .inr h
    · rw [if_neg h1] at h
      by_cases h2 : x.k < y.k
      · rw [if_pos h2] at h
        rcases List.mem_cons.1 h with h | h
        · exact .inl h
        · exact .inr h
      · rw [if_neg h2] at h
        rcases List.mem_cons.1 h with h | h
        · exact .inr (by simp [h])
        · rcases putR_mem r x z h with h | h
          · exact .inl h
          · exact .inr (by simp [h])

theorem rise_putR : ∀ (ws : List Wr) (x : Wr), Rise ws → Rise (putR ws x)
  | [], x, _ => by simp [putR, Rise]
  | y :: r, x, h => by
    have hp := List.pairwise_cons.1 h
    unfold putR
    by_cases h1 : y.k = x.k
    · rw [if_pos h1]
      by_cases h2 : cmpW y x < 0
      · rw [if_pos h2]
        exact List.Pairwise.cons (fun z hz => by have := hp.1 z hz; omega) hp.2
      · rw [if_neg h2]
        exact h
    · rw [if_neg h1]
      by_cases h2 : x.k < y.k
      · rw [if_pos h2]
        refine List.Pairwise.cons (fun z hz => ?_) h
        rcases List.mem_cons.1 hz with e | hz
        · rw [e]; exact h2
        · have := hp.1 z hz; omega
      · rw [if_neg h2]
        refine List.Pairwise.cons (fun z hz => ?_) (rise_putR r x hp.2)
        rcases putR_mem r x z hz with e | hz
        · rw [e]; omega
        · exact hp.1 z hz

theorem rise_putW {ws : List Wr} (h : Rise ws) (x : Wr) : Rise (putW ws x) := by
  rw [putW_eq h]
  exact rise_putR ws x h

theorem putW_mem {ws : List Wr} (h : Rise ws) {x z : Wr} (hz : z ∈ putW ws x) : z = x ∨ z ∈ ws := by
  rw [putW_eq h] at hz
  exact putR_mem ws x z hz

theorem find_putW {ws : List Wr} (h : Rise ws) (x : Wr) (key : Int) : findW (putW ws x) key = if key = x.k then some (laterO (findW ws x.k) x) else findW ws key := by
  rw [putW_eq h]
  exact find_putR ws x key h

/-- What is told of six registers, in order. -/
def toldM (M : Int → Option Wr) : List Wr := [(0 : Int), 1, 2, 3, 4, 5].filterMap M

theorem filterMap_same {α β : Type} {f g : α → Option β} : ∀ {l : List α}, (∀ x ∈ l, f x = g x) → l.filterMap f = l.filterMap g
  | [], _ => rfl
  | x :: r, h => by rw [List.filterMap_cons, List.filterMap_cons, h x (by simp), filterMap_same fun y hy => h y (by simp [hy])]

theorem told_rise : ∀ (ks : List Int) (ws : List Wr), ks.Pairwise (· < ·) → Rise ws → (∀ x ∈ ws, x.k ∈ ks) → ks.filterMap (findW ws) = ws
  | [], [], _, _, _ => rfl
  | [], x :: r, _, _, h => by simpa using h x (by simp)
  | k :: ks, [], _, _, _ => by simp [findW, List.filterMap_eq_nil_iff]
  | k :: ks, x :: r, hk, hr, h => by
    have hpk := List.pairwise_cons.1 hk
    have hpr := List.pairwise_cons.1 hr
    by_cases e : x.k = k
    · rw [List.filterMap_cons, findW_cons, if_pos e]
      simp only
      have ih := told_rise ks r hpk.2 hpr.2 fun y hy => by
        have h1 := h y (by simp [hy])
        rcases List.mem_cons.1 h1 with h2 | h2
        · have := hpr.1 y hy; omega
        · exact h2
      congr 1
      refine (filterMap_same fun j hj => ?_).trans ih
      rw [findW_cons, if_neg (by have := hpk.1 j hj; omega)]
    · have hx : k < x.k := by
        have h1 := h x (by simp)
        rcases List.mem_cons.1 h1 with h2 | h2
        · exact absurd h2 e
        · exact hpk.1 _ h2
      have hn : findW (x :: r) k = none := findW_past fun z hz => by
        rcases List.mem_cons.1 hz with e | hz
        · rw [e]; exact hx
        · have := hpr.1 z hz; omega
      rw [List.filterMap_cons, hn]
      simp only
      refine told_rise ks (x :: r) hpk.2 hr fun y hy => ?_
      have h1 := h y hy
      rcases List.mem_cons.1 h1 with h2 | h2
      · rcases List.mem_cons.1 hy with e' | hy
        · rw [e'] at h2; exact absurd h2 e
        · have := hpr.1 y hy; omega
      · exact h2

theorem told_find {ws : List Wr} (hr : Rise ws) (hk : ∀ x ∈ ws, 0 ≤ x.k ∧ x.k ≤ 5) : toldM (findW ws) = ws := by
  refine told_rise _ ws (by decide) hr fun x hx => ?_
  have := hk x hx
  simp only [List.mem_cons, List.not_mem_nil, or_false]
  omega

/-- A write put to a register. -/
def regPut (M : Int → Option Wr) (x : Wr) : Int → Option Wr := fun key => if key = x.k then some (laterO (M x.k) x) else M key

def joinW (a b : List Wr) : List Wr := b.foldl putW a

theorem join_spec : ∀ (b a : List Wr), Rise a → Rise (joinW a b) ∧ (∀ z ∈ joinW a b, z ∈ a ∨ z ∈ b) ∧ ∀ key, findW (joinW a b) key = b.foldl regPut (findW a) key
  | [], a, h => ⟨h, fun _ hz => .inl hz, fun _ => rfl⟩
  | x :: b, a, h => by
    obtain ⟨h1, h2, h3⟩ := join_spec b (putW a x) (rise_putW h x)
    refine ⟨h1, fun z hz => ?_, fun key => ?_⟩
    · rcases h2 z hz with h4 | h4
      · rcases putW_mem h h4 with h5 | h5
        · exact .inr (by simp [h5])
        · exact .inl h5
      · exact .inr (by simp [h4])
    · have e : findW (putW a x) = regPut (findW a) x := funext fun key => find_putW h x key
      show findW (joinW (putW a x) b) key = _
      rw [h3 key, e]
      rfl

/-- A map's own writes, put one by one to empty registers, are the map. -/
theorem regs_self : ∀ (b a : List Wr), Rise (a ++ b) → b.foldl regPut (findW a) = findW (a ++ b)
  | [], a, _ => by simp
  | x :: b, a, h => by
    have h' : Rise (a ++ [x] ++ b) := by simpa using h
    have ha : ∀ y ∈ a, y.k < x.k := fun y hy => (List.pairwise_append.1 h).2.2 y hy x (by simp)
    have e : regPut (findW a) x = findW (a ++ [x]) := by
      funext key
      unfold regPut
      have hx : findW a x.k = none := by
        unfold findW
        rw [List.find?_eq_none]
        intro y hy
        have := ha y hy
        simp
        omega
      have hs : findW (a ++ [x]) key = (findW a key).or (findW [x] key) := by
        unfold findW
        rw [List.find?_append]
      rw [hs]
      by_cases hk : key = x.k
      · subst hk
        rw [if_pos rfl, hx, findW_cons, if_pos rfl]
        rfl
      · rw [if_neg hk, findW_cons, if_neg (fun e => hk e.symm)]
        cases findW a key <;> rfl
    show b.foldl regPut (regPut (findW a) x) = _
    rw [e, regs_self b (a ++ [x]) h']
    simp

theorem regs_map {a : List Wr} (h : Rise a) : a.foldl regPut (fun _ => none) = findW a := by
  have e : findW [] = fun _ => none := rfl
  have := regs_self a [] (by simpa using h)
  rw [e, List.nil_append] at this
  exact this

/-- What the registers tell at last is the join. -/
theorem told_join {a b : List Wr} (ha : Rise a) (ka : ∀ x ∈ a, 0 ≤ x.k ∧ x.k ≤ 5) (kb : ∀ x ∈ b, 0 ≤ x.k ∧ x.k ≤ 5) : toldM (b.foldl regPut (a.foldl regPut (fun _ => none))) = joinW a b := by
  obtain ⟨h1, h2, h3⟩ := join_spec b a ha
  have e : b.foldl regPut (a.foldl regPut (fun _ => none)) = findW (joinW a b) := by
    rw [regs_map ha]
    exact funext fun key => (h3 key).symm
  rw [e]
  exact told_find h1 fun x hx => by
    rcases h2 x hx with h | h
    · exact ka x h
    · exact kb x h

end Go.Proofs.YtidpcjcnhklmpacGreatDoor

/- Registers: a map whose keys are arrays of one number, told as a function from keys to writes. -/
namespace Go.Proofs.YtidpcjcnhklmpacGreatDoor
open Go.ChangeShapes Go.WideShapes Go.ChangeAt Go.RowKit Go.Joins Go.Maps

abbrev slotV (k : Int) : Value := .agg #[.int .i64 k]

def slotL (k : Int) : Lit := .string (keyBytes [.int .i64 k])

set_option maxRecDepth 100000 in
theorem slot_row : (112 : TypeId) < Tryz.prog.types.size := of_decide_eq_true (by kernel_rfl)

set_option maxRecDepth 100000 in
theorem slot_cells : Tryz.prog.cellsOf 112 = 1 := by kernel_rfl

set_option maxRecDepth 100000 in
theorem slot_int : Tryz.prog.cellsOf 3 = 1 := by kernel_rfl

set_option maxRecDepth 100000 in
theorem slot_wide : (match Tryz.prog.underlying 112 with | some (.array _ _) | some (.struct _) => true | _ => false) = true := by rw [Tryz.underlying112]

set_option maxRecDepth 100000 in
theorem slot_law : Keyed Tryz.prog 112 := Keyed.of_law (deep_law_laid laidOut (m := 2) (by omega) slot_row (by kernel_rfl) slot_wide)

set_option maxRecDepth 100000 in
theorem slot_type : Tryz.prog.keyType 112 = true := by kernel_rfl

set_option maxRecDepth 100000 in
theorem slot_key {k : Int} (h : -9223372036854775808 ≤ k ∧ k ≤ 9223372036854775807) : keyOf Tryz.prog 112 (slotV k) = some (slotL k) := by
  have hw : (Lit.int .i64 k).wf = true := by
    simp only [Lit.wf, Bool.and_eq_true, decide_eq_true_eq]
    exact h
  have hf : (slotV k).formed Tryz.prog 112 = true := by simp [Value.formed, Tryz.underlying112, slot_cells]
  obtain ⟨m, hm⟩ : ∃ m, Tryz.prog.types.size = m + 1 := ⟨Tryz.prog.types.size - 1, (Nat.sub_add_cancel (Nat.lt_of_le_of_lt (Nat.zero_le _) slot_row)).symm⟩
  unfold keyOf
  rw [Tryz.underlying112]
  simp only [slot_type, hf, Bool.and_self, if_true]
  rw [hm]
  simp [Program.keyLits, Tryz.underlying112, Tryz.underlying3, slot_cells, slot_int, Value.cells, hw, slotL, List.range, List.range.loop]

set_option maxRecDepth 100000 in
theorem slot_lit {k : Int} (h : -9223372036854775808 ≤ k ∧ k ≤ 9223372036854775807) : WideAt.IsKeyLit (slotL k) := slot_law.key (slot_key h)

set_option maxRecDepth 100000 in
theorem slot_inj {k k' : Int} (h : -9223372036854775808 ≤ k ∧ k ≤ 9223372036854775807) (h' : -9223372036854775808 ≤ k' ∧ k' ≤ 9223372036854775807) (e : slotL k = slotL k') : k = k' := by
  have h1 := slot_key h
  rw [e] at h1
  have := slot_law.inj h1 (slot_key h')
  simpa using this

set_option maxRecDepth 100000 in
theorem zeroW (w : World) : (zeroValue 56).run Tryz.prog w = .ok (wrV 0 0 0 0 0 false none 0 0) w := by kernel_rfl

/-- An element is told by itself. -/
def asIs (v : Value) : Option (DataW Value × List MemPlace) := some (.held v, [])

/-- Block b is registers that hold f. -/
def RegsAre (w : World) (b n : Nat) (f : Int → Option Value) : Prop :=
  ∃ D : DataW Value, w.ownsMap Tryz.prog 112 asIs b n D ∧ ∀ k : Int, -9223372036854775808 ≤ k ∧ k ≤ 9223372036854775807 →
    (f k = none → Maps.has D (slotL k) = false) ∧ ∀ v, f k = some v → Maps.has D (slotL k) = true ∧ ∀ z, D.atKey (slotL k) z = .held v

set_option maxRecDepth 100000 in
theorem regs_made (w : World) : RegsAre (w.alloc (.map #[] 0)) w.heap.size 0 (fun _ => none) :=
  ⟨.map [], World.ownsMap_made w _ _ _, fun _ _ => ⟨fun _ => rfl, fun v h => by cases h⟩⟩

set_option maxRecDepth 100000 in
theorem RegsAre.lt {w : World} {b n : Nat} {f : Int → Option Value} (h : RegsAre w b n f) : b < w.heap.size := by
  obtain ⟨D, h1, _⟩ := h
  exact h1.lt

set_option maxRecDepth 100000 in
theorem RegsAre.of_block {w w' : World} {b n : Nat} {f : Int → Option Value} (h : RegsAre w b n f) (hb : w'.heap[b]? = w.heap[b]?) : RegsAre w' b n f := by
  obtain ⟨D, ⟨es, clock, h1, h2⟩, h3⟩ := h
  exact ⟨D, ⟨es, clock, hb.trans h1, h2⟩, h3⟩

set_option maxRecDepth 100000 in
/-- A look-up. -/
theorem RegsAre.look {w : World} {b n : Nat} {f : Int → Option Value} (h : RegsAre w b n f) {k : Int} (hk : -9223372036854775808 ≤ k ∧ k ≤ 9223372036854775807) :
    (Instr.lookup 66 (.map (some b)) (slotV k) true).run Tryz.prog w = .ok (match f k with | none => .tuple #[wrV 0 0 0 0 0 false none 0 0, .bool false] | some v => .tuple #[v, .bool true]) w := by
  obtain ⟨D, h1, h2⟩ := h
  obtain ⟨v, ps, hrun, hv⟩ := h1.look_ok slot_law Tryz.underlying66 (zeroW w) (zd := .held (wrV 0 0 0 0 0 false none 0 0)) (zp := []) rfl (slot_key hk)
  rw [hrun]
  have e : (DataW.held v : DataW Value) = D.atKey (slotL k) (.held (wrV 0 0 0 0 0 false none 0 0)) := by
    simp only [asIs, Option.some.injEq, Prod.mk.injEq] at hv
    exact hv.1
  cases hf : f k with
  | none =>
    rw [(h2 k hk).1 hf]
    rw [atKey_of_not_has ((h2 k hk).1 hf)] at e
    injection e with e
    rw [e]
  | some u =>
    obtain ⟨h3, h4⟩ := (h2 k hk).2 u hf
    rw [h3]
    rw [h4] at e
    injection e with e
    rw [e]

set_option maxRecDepth 100000 in
theorem wpList_look {w : World} {ops : Array Oper} {rest : List Oper} {o : Oper} {a : Act} {Q : Exit → Act → World → Prop} (hg : o.guard = none) (m x : Operand) (hop : o.op = Op.lookup 66 m x true)
    {b n : Nat} {f : Int → Option Value} (h : RegsAre w b n f) (k : Int) (hk : -9223372036854775808 ≤ k ∧ k ≤ 9223372036854775807) (hm : a.eval m = .map (some b)) (hx : a.eval x = slotV k)
    (hK : wpList Tryz.prog ops Q rest (a.put o.dst (match f k with | none => .tuple #[wrV 0 0 0 0 0 false none 0 0, .bool false] | some v => .tuple #[v, .bool true])) w) : wpList Tryz.prog ops Q (o :: rest) a w := by
  refine wpList_plain hg fun K' hK' => ?_
  unfold Oper.wp
  simp [execOp, hop, hm, hx, h.look hk, Result.andThen]
  exact hK' _ _ hK

set_option maxRecDepth 100000 in
/-- A store. -/
theorem wpList_store {w : World} {ops : Array Oper} {rest : List Oper} {o : Oper} {a : Act} {Q : Exit → Act → World → Prop} (hg : o.guard = none) (m x u : Operand) (hop : o.op = Op.mapUpdate 66 m x u)
    {b n : Nat} {f : Int → Option Value} (h : RegsAre w b n f) (hn : n < maxLen) (k : Int) (hk : -9223372036854775808 ≤ k ∧ k ≤ 9223372036854775807) (v : Value) (hm : a.eval m = .map (some b)) (hx : a.eval x = slotV k) (hu : a.eval u = v)
    (hK : ∀ w', RegsAre w' b (n + 1) (fun j => if j = k then some v else f j) → w.mapTurned w' b → wpList Tryz.prog ops Q rest (a.put o.dst undef) w') : wpList Tryz.prog ops Q (o :: rest) a w := by
  obtain ⟨D, h1, h2⟩ := h
  refine wpList_mapUpdate_in w hg m x u _ hop _ _ slot_law Tryz.underlying66 asIs b n D hm h1 hn _ v (slotL k) hx hu (slot_key hk) (.held v) [] rfl fun w' h3 h4 => hK w' ⟨_, h3, fun j hj => ?_⟩ h4
  by_cases e : j = k
  · subst e
    exact ⟨fun h => by simp at h, fun v' h => by
      have : v = v' := by simpa using h
      subst this
      exact ⟨has_put_same h1.isMap (slot_lit hj) _, fun z => atKey_put_same h1.isMap (slot_lit hj) _ _⟩⟩
  · have hne : slotL j ≠ slotL k := fun e' => e (slot_inj hj hk e')
    simp only [if_neg e]
    exact ⟨fun h => by rw [has_put_other hne]; exact (h2 j hj).1 h, fun v' h => by
      rw [has_put_other hne]
      exact ⟨((h2 j hj).2 v' h).1, fun z => by rw [atKey_put_other hne]; exact ((h2 j hj).2 v' h).2 z⟩⟩

end Go.Proofs.YtidpcjcnhklmpacGreatDoor

/- Contracts of the registers' put and putAll. -/
namespace Go.Proofs.YtidpcjcnhklmpacGreatDoor
open Go.ChangeShapes Go.WideShapes Go.ChangeAt Go.RowKit Go.Joins
attribute [local go_sem ↓] Go.wp_at_zero Go.wp_at_succ

/-- Registers that hold the writes M, whose dependencies lie in the world w0. -/
def RegsW (w0 w : World) (b n : Nat) (M : Int → Option Wr) : Prop :=
  ∃ f, RegsAre w b n f ∧ ∀ k, (M k = none → f k = none) ∧ ∀ x, M k = some x → ∃ ad cp, f k = some (wrOf x ad cp) ∧ IsDeps w0 ad x.xs ∧ x.xs.length ≤ 1048576

set_option maxRecDepth 100000 in
theorem RegsW.of_block {w0 w w' : World} {b n : Nat} {M : Int → Option Wr} (h : RegsW w0 w b n M) (hb : w'.heap[b]? = w.heap[b]?) : RegsW w0 w' b n M := by
  obtain ⟨f, h1, h2⟩ := h
  exact ⟨f, h1.of_block hb, h2⟩

set_option maxRecDepth 100000 in
theorem RegsW.lt {w0 w : World} {b n : Nat} {M : Int → Option Wr} (h : RegsW w0 w b n M) : b < w.heap.size := by
  obtain ⟨f, h1, _⟩ := h
  exact h1.lt

set_option maxRecDepth 100000 in
theorem RegsW.below {w0 w w' : World} {b n : Nat} {M : Int → Option Wr} (h : RegsW w0 w b n M) (hb : Below w.heap.size w w') : RegsW w0 w' b n M := h.of_block (hb.block b h.lt)

set_option maxRecDepth 100000 in
theorem look_none {w0 w : World} {ops : Array Oper} {rest : List Oper} {o : Oper} {a : Act} {Q : Exit → Act → World → Prop} (hg : o.guard = none) (m x : Operand) (hop : o.op = Op.lookup 66 m x true)
    {b n : Nat} {M : Int → Option Wr} (h : RegsW w0 w b n M) (k : Int) (hk : 0 ≤ k ∧ k ≤ 5) (hM : M k = none) (hm : a.eval m = .map (some b)) (hx : a.eval x = slotV k)
    (hK : wpList Tryz.prog ops Q rest (a.put o.dst (.tuple #[wrV 0 0 0 0 0 false none 0 0, .bool false])) w) : wpList Tryz.prog ops Q (o :: rest) a w := by
  obtain ⟨f, h1, h2⟩ := h
  refine wpList_look hg m x hop h1 k (by omega) hm hx ?_
  rw [(h2 k).1 hM]
  exact hK

set_option maxRecDepth 100000 in
theorem look_some {w0 w : World} {ops : Array Oper} {rest : List Oper} {o : Oper} {a : Act} {Q : Exit → Act → World → Prop} (hg : o.guard = none) (m x : Operand) (hop : o.op = Op.lookup 66 m x true)
    {b n : Nat} {M : Int → Option Wr} (h : RegsW w0 w b n M) (k : Int) (hk : 0 ≤ k ∧ k ≤ 5) (y : Wr) (hM : M k = some y) (hm : a.eval m = .map (some b)) (hx : a.eval x = slotV k)
    (hK : ∀ ad cp, IsDeps w0 ad y.xs → y.xs.length ≤ 1048576 → wpList Tryz.prog ops Q rest (a.put o.dst (.tuple #[wrOf y ad cp, .bool true])) w) : wpList Tryz.prog ops Q (o :: rest) a w := by
  obtain ⟨f, h1, h2⟩ := h
  obtain ⟨ad, cp, h3, h4, h5⟩ := (h2 k).2 y hM
  refine wpList_look hg m x hop h1 k (by omega) hm hx ?_
  rw [h3]
  exact hK ad cp h4 h5

set_option maxRecDepth 100000 in
theorem store_regs {w0 w : World} {ops : Array Oper} {rest : List Oper} {o : Oper} {a : Act} {Q : Exit → Act → World → Prop} (hg : o.guard = none) (m x u : Operand) (hop : o.op = Op.mapUpdate 66 m x u)
    {b n : Nat} {M : Int → Option Wr} (h : RegsW w0 w b n M) (hn : n < maxLen) (k : Int) (hk : 0 ≤ k ∧ k ≤ 5) (y : Wr) (ad : Option Addr) (cp : Nat) (hd : IsDeps w0 ad y.xs) (hl : y.xs.length ≤ 1048576) (hm : a.eval m = .map (some b)) (hx : a.eval x = slotV k) (hu : a.eval u = wrOf y ad cp)
    (hK : ∀ w', RegsW w0 w' b (n + 1) (fun j => if j = k then some y else M j) → w.mapTurned w' b → wpList Tryz.prog ops Q rest (a.put o.dst undef) w') : wpList Tryz.prog ops Q (o :: rest) a w := by
  obtain ⟨f, h1, h2⟩ := h
  refine wpList_store hg m x u hop h1 hn k (by omega) _ hm hx hu fun w' h3 h4 => hK w' ⟨_, h3, fun j => ?_⟩ h4
  by_cases e : j = k
  · simp only [if_pos e]
    exact ⟨fun h => (by cases h), fun z hz => by
      injection hz with hz
      subst hz
      exact ⟨ad, cp, rfl, hd, hl⟩⟩
  · show ((if j = k then some y else M j) = none → (if j = k then some (wrOf y ad cp) else f j) = none) ∧ _
    simp only [if_neg e]
    exact h2 j

set_option maxRecDepth 100000 in
theorem regPut_none {M : Int → Option Wr} {x : Wr} (h : M x.k = none) : regPut M x = fun j => if j = x.k then some x else M j := by
  funext j
  unfold regPut
  rw [h]
  rfl

set_option maxRecDepth 100000 in
theorem regPut_later {M : Int → Option Wr} {x y : Wr} (h : M x.k = some y) (hc : 0 < cmpW x y) : regPut M x = fun j => if j = x.k then some x else M j := by
  funext j
  unfold regPut
  rw [h]
  have : cmpW y x < 0 := by
    have := wcmp_neg x.k x.c x.s x.q x.v x.de x.xs y.k y.c y.s y.q y.v y.de y.xs
    unfold cmpW at *
    omega
  simp [laterO, this]

set_option maxRecDepth 100000 in
theorem regPut_same {M : Int → Option Wr} {x y : Wr} (h : M x.k = some y) (hc : ¬ 0 < cmpW x y) : regPut M x = M := by
  funext j
  unfold regPut
  have : ¬ cmpW y x < 0 := by
    have := wcmp_neg x.k x.c x.s x.q x.v x.de x.xs y.k y.c y.s y.q y.v y.de y.xs
    unfold cmpW at *
    omega
  by_cases e : j = x.k
  · rw [if_pos e, h, e, h]
    simp [laterO, this]
  · rw [if_neg e]

set_option maxRecDepth 100000 in
theorem foldl_take {α : Type} (f : α → Wr → α) (ws : List Wr) (s : α) (k : Nat) (h : k < ws.length) : (ws.take (k + 1)).foldl f s = f ((ws.take k).foldl f s) (ws.getD k wz) := by
  have e : ws.take (k + 1) = ws.take k ++ [ws.getD k wz] := by
    rw [List.take_add_one, List.getElem?_eq_getElem h]
    simp [List.getD, h]
  rw [e, List.foldl_append]
  rfl

/-- Registers that hold the writes M, of whose dependencies D is known. -/
def RegsP (D : Option Addr → List Dp → Prop) (w : World) (b n : Nat) (M : Int → Option Wr) : Prop :=
  ∃ f, RegsAre w b n f ∧ ∀ k, (M k = none → f k = none) ∧ ∀ x, M k = some x → ∃ ad cp, f k = some (wrOf x ad cp) ∧ D ad x.xs ∧ x.xs.length ≤ 1048576

set_option maxRecDepth 100000 in
theorem RegsP.of_block {D : Option Addr → List Dp → Prop} {w w' : World} {b n : Nat} {M : Int → Option Wr} (h : RegsP D w b n M) (hb : w'.heap[b]? = w.heap[b]?) : RegsP D w' b n M := by
  obtain ⟨f, h1, h2⟩ := h
  exact ⟨f, h1.of_block hb, h2⟩

set_option maxRecDepth 100000 in
theorem RegsP.lt {D : Option Addr → List Dp → Prop} {w : World} {b n : Nat} {M : Int → Option Wr} (h : RegsP D w b n M) : b < w.heap.size := by
  obtain ⟨f, h1, _⟩ := h
  exact h1.lt

set_option maxRecDepth 100000 in
theorem RegsP.below {D : Option Addr → List Dp → Prop} {w w' : World} {b n : Nat} {M : Int → Option Wr} (h : RegsP D w b n M) (hb : Below w.heap.size w w') : RegsP D w' b n M := h.of_block (hb.block b h.lt)

set_option maxRecDepth 100000 in
theorem look_noneP {D : Option Addr → List Dp → Prop} {w : World} {ops : Array Oper} {rest : List Oper} {o : Oper} {a : Act} {Q : Exit → Act → World → Prop} (hg : o.guard = none) (m x : Operand) (hop : o.op = Op.lookup 66 m x true)
    {b n : Nat} {M : Int → Option Wr} (h : RegsP D w b n M) (k : Int) (hk : 0 ≤ k ∧ k ≤ 5) (hM : M k = none) (hm : a.eval m = .map (some b)) (hx : a.eval x = slotV k)
    (hK : wpList Tryz.prog ops Q rest (a.put o.dst (.tuple #[wrV 0 0 0 0 0 false none 0 0, .bool false])) w) : wpList Tryz.prog ops Q (o :: rest) a w := by
  obtain ⟨f, h1, h2⟩ := h
  refine wpList_look hg m x hop h1 k (by omega) hm hx ?_
  rw [(h2 k).1 hM]
  exact hK

set_option maxRecDepth 100000 in
theorem look_someP {D : Option Addr → List Dp → Prop} {w : World} {ops : Array Oper} {rest : List Oper} {o : Oper} {a : Act} {Q : Exit → Act → World → Prop} (hg : o.guard = none) (m x : Operand) (hop : o.op = Op.lookup 66 m x true)
    {b n : Nat} {M : Int → Option Wr} (h : RegsP D w b n M) (k : Int) (hk : 0 ≤ k ∧ k ≤ 5) (y : Wr) (hM : M k = some y) (hm : a.eval m = .map (some b)) (hx : a.eval x = slotV k)
    (hK : ∀ ad cp, D ad y.xs → y.xs.length ≤ 1048576 → wpList Tryz.prog ops Q rest (a.put o.dst (.tuple #[wrOf y ad cp, .bool true])) w) : wpList Tryz.prog ops Q (o :: rest) a w := by
  obtain ⟨f, h1, h2⟩ := h
  obtain ⟨ad, cp, h3, h4, h5⟩ := (h2 k).2 y hM
  refine wpList_look hg m x hop h1 k (by omega) hm hx ?_
  rw [h3]
  exact hK ad cp h4 h5

set_option maxRecDepth 100000 in
theorem store_regsP {D : Option Addr → List Dp → Prop} {w : World} {ops : Array Oper} {rest : List Oper} {o : Oper} {a : Act} {Q : Exit → Act → World → Prop} (hg : o.guard = none) (m x u : Operand) (hop : o.op = Op.mapUpdate 66 m x u)
    {b n : Nat} {M : Int → Option Wr} (h : RegsP D w b n M) (hn : n < maxLen) (k : Int) (hk : 0 ≤ k ∧ k ≤ 5) (y : Wr) (ad : Option Addr) (cp : Nat) (hd : D ad y.xs) (hl : y.xs.length ≤ 1048576) (hm : a.eval m = .map (some b)) (hx : a.eval x = slotV k) (hu : a.eval u = wrOf y ad cp)
    (hK : ∀ w', RegsP D w' b (n + 1) (fun j => if j = k then some y else M j) → w.mapTurned w' b → wpList Tryz.prog ops Q rest (a.put o.dst undef) w') : wpList Tryz.prog ops Q (o :: rest) a w := by
  obtain ⟨f, h1, h2⟩ := h
  refine wpList_store hg m x u hop h1 hn k (by omega) _ hm hx hu fun w' h3 h4 => hK w' ⟨_, h3, fun j => ?_⟩ h4
  by_cases e : j = k
  · simp only [if_pos e]
    exact ⟨fun h => (by cases h), fun z hz => by
      injection hz with hz
      subst hz
      exact ⟨ad, cp, rfl, hd, hl⟩⟩
  · show ((if j = k then some y else M j) = none → (if j = k then some (wrOf y ad cp) else f j) = none) ∧ _
    simp only [if_neg e]
    exact h2 j

set_option maxRecDepth 100000 in
set_option maxHeartbeats 8000000 in
/-- One write is put: of its key the later one stays. -/
theorem put_p (D : Option Addr → List Dp → Prop) (b m : Nat) (M : Int → Option Wr) (x : Wr) (ad : Option Addr) (cp : Nat) (w : World) (hmm : m ≤ 4611686018427387904) (hxl : x.xs.length ≤ 1048576) (hk : 0 ≤ x.k ∧ x.k ≤ 5) (hd : D ad x.xs)
    (hN : ∀ w', Below w.heap.size w w' → ∀ ad xs, D ad xs → IsDeps w' ad xs) (hr : RegsP D w b m M) :
    Calls Tryz.prog 31 #[.map (some b), wrOf x ad cp] w fun e w' => e = .returned (.tuple #[]) ∧ RegsP D w' b (m + 1) (regPut M x) ∧ w.grownBy w' (some b) := by
  obtain ⟨xk, xc, xs', xq, xv, xd, xx⟩ := x
  simp only at hxl hk hd
  obtain ⟨k0, k5⟩ := hk
  have HN := Lib.hid hN
  have HR := Lib.hid hr
  have HD := Lib.hid hd
  clear hN hr hd
  have HBA : Hid (Below w.heap.size w (w.alloc (.cells #[.int .i64 xk, .int .i64 xc, .int .i64 xs', .int .i64 xq, .int .i64 xv, .bool xd, .slice ad xx.length cp] 56))) := (Below.refl _ _).alloc (Nat.le_refl _) _
  have HRA := Lib.hid (HR.out.below HBA.out)
  cases hM : M xk with
  | none =>
    have HP : Hid (regPut M ⟨xk, xc, xs', xq, xv, xd, xx⟩ = fun j => if j = xk then some ⟨xk, xc, xs', xq, xv, xd, xx⟩ else M j) := regPut_none hM
    have HM := Lib.hid hM
    clear hM
    have HBB : Hid (Below w.heap.size w ((w.alloc (.cells #[.int .i64 xk, .int .i64 xc, .int .i64 xs', .int .i64 xq, .int .i64 xv, .bool xd, .slice ad xx.length cp] 56)).alloc (.cells #[.int .i64 0, .int .i64 0, .int .i64 0, .int .i64 0, .int .i64 0, .bool false, .slice none 0 0] 56))) := HBA.out.alloc (by simp) _
    have HRB := Lib.hid (HR.out.below HBB.out)
    go_enter Tryz.func31, Tryz.ntmps31
    go_wp2_with (first | (at_lookup; refine look_noneP (by rfl) _ _ (by rfl) HRA.out xk ⟨k0, k5⟩ HM.out (by rfl) (by rfl) ?_) | (at_mapUpdate; refine store_regsP (by rfl) _ _ _ (by rfl) HRB.out (by unfold maxLen; omega) xk ⟨k0, k5⟩ ⟨xk, xc, xs', xq, xv, xd, xx⟩ ad cp HD.out hxl (by rfl) (by rfl) (by rfl) ?_; intro w1 hr1 ht1; refine Hid.out ?_))
    refine Lib.hid ?_
    have HR1 : Hid (RegsP D w1 b (m + 1) (regPut M ⟨xk, xc, xs', xq, xv, xd, xx⟩)) := by
      rw [HP.out]
      exact hr1
    have HB1 : Hid (w.grownBy w1 (some b)) := grown_trans (grown_of_below HBB.out (some b)) ht1.grown
    clear hr1 ht1
    go_wp2
    exact bodyPost_end (v := .tuple #[]) (by simp [results, Tryz.results31]) rfl ⟨rfl, HR1.out, HB1.out⟩
  | some y =>
    have HPL : Hid (0 < cmpW ⟨xk, xc, xs', xq, xv, xd, xx⟩ y → regPut M ⟨xk, xc, xs', xq, xv, xd, xx⟩ = fun j => if j = xk then some ⟨xk, xc, xs', xq, xv, xd, xx⟩ else M j) := fun h => regPut_later hM h
    have HPS : Hid (cmpW ⟨xk, xc, xs', xq, xv, xd, xx⟩ y ≤ 0 → regPut M ⟨xk, xc, xs', xq, xv, xd, xx⟩ = M) := fun h => regPut_same hM (Int.not_lt.2 h)
    have HM := Lib.hid hM
    clear hM
    obtain ⟨yk, yc, ys, yq, yv, yd, yy⟩ := y
    go_enter Tryz.func31, Tryz.ntmps31
    go_wp2_with (at_lookup; refine look_someP (by rfl) _ _ (by rfl) HRA.out xk ⟨k0, k5⟩ _ HM.out (by rfl) (by rfl) ?_; intro ad2 cp2 hd2 hl2)
    have HD2 := Lib.hid hd2
    clear hd2
    have HBB : Hid (Below w.heap.size w ((w.alloc (.cells #[.int .i64 xk, .int .i64 xc, .int .i64 xs', .int .i64 xq, .int .i64 xv, .bool xd, .slice ad xx.length cp] 56)).alloc (.cells #[.int .i64 yk, .int .i64 yc, .int .i64 ys, .int .i64 yq, .int .i64 yv, .bool yd, .slice ad2 yy.length cp2] 56))) := HBA.out.alloc (by simp) _
    refine (implWriteCmp_gen xk xc xs' xq xv xd ad xx _ cp yk yc ys yq yv yd ad2 yy _ cp2 _ rfl rfl hxl hl2 (HN.out _ HBB.out _ _ HD.out) (HN.out _ HBB.out _ _ HD2.out)).mono ?_
    rintro e w2 ⟨rfl, hb⟩
    have HX2 : Hid (BoxIn w w2 xk xc xs' xq xv xd ad xx.length cp) := BoxIn.start (t := 56) (below_step ((Below.refl _ _).alloc (Nat.le_refl _) _) (by simp) hb)
    have HB2 := Lib.hid (grown_of_below HX2.out.below (some b))
    have HR2 := Lib.hid (HR.out.below HX2.out.below)
    clear hb HBB HBA HRA
    by_cases hc : 0 < wcmp xk xc xs' xq xv xd xx yk yc ys yq yv yd yy
    · have HP := Lib.hid (HPL.out hc)
      clear HPL HPS
      have b0 := HX2.out.c0
      have b1 := HX2.out.c1
      have b2 := HX2.out.c2
      have b3 := HX2.out.c3
      have b4 := HX2.out.c4
      have b5 := HX2.out.c5
      have b6 := HX2.out.c6
      generalize wcmp xk xc xs' xq xv xd xx yk yc ys yq yv yd yy = z at *
      go_wp2_with (at_mapUpdate; refine store_regsP (by rfl) _ _ _ (by rfl) HR2.out (by unfold maxLen; omega) xk ⟨k0, k5⟩ ⟨xk, xc, xs', xq, xv, xd, xx⟩ ad cp HD.out hxl (by rfl) (by rfl) (by rfl) ?_; intro w3 hr3 ht3; refine Hid.out ?_)
      refine Lib.hid ?_
      have HR3 : Hid (RegsP D w3 b (m + 1) (regPut M ⟨xk, xc, xs', xq, xv, xd, xx⟩)) := by
        rw [HP.out]
        exact hr3
      have HB3 : Hid (w.grownBy w3 (some b)) := grown_trans HB2.out ht3.grown
      clear hr3 ht3
      go_wp2
      exact bodyPost_end (v := .tuple #[]) (by simp [results, Tryz.results31]) rfl ⟨rfl, HR3.out, HB3.out⟩
    · have HP := Lib.hid (HPS.out (Int.not_lt.1 hc))
      clear HPL HPS
      have HR3 : Hid (RegsP D w2 b (m + 1) (regPut M ⟨xk, xc, xs', xq, xv, xd, xx⟩)) := by
        rw [HP.out]
        obtain ⟨f, h1, h2⟩ := HR2.out
        obtain ⟨E, h3, h4⟩ := h1
        exact ⟨f, ⟨E, h3.mono (by omega), h4⟩, h2⟩
      generalize wcmp xk xc xs' xq xv xd xx yk yc ys yq yv yd yy = z at *
      go_wp2
      exact bodyPost_end (v := .tuple #[]) (by simp [results, Tryz.results31]) rfl ⟨rfl, HR3.out, HB2.out⟩

set_option maxRecDepth 100000 in
theorem putOne_any (w0 : World) (b m : Nat) (M : Int → Option Wr) (x : Wr) (ad : Option Addr) (cp : Nat) (w : World) (hmm : m ≤ 4611686018427387904) (hxl : x.xs.length ≤ 1048576) (hk : 0 ≤ x.k ∧ x.k ≤ 5) (hd : IsDeps w0 ad x.xs) (hb : Below w0.heap.size w0 w) (hB : w0.heap.size ≤ b) (hr : RegsW w0 w b m M) :
    Calls Tryz.prog 31 #[.map (some b), wrOf x ad cp] w fun e w' => e = .returned (.tuple #[]) ∧ RegsW w0 w' b (m + 1) (regPut M x) ∧ Below w0.heap.size w0 w' := by
  refine (put_p (IsDeps w0) b m M x ad cp w hmm hxl hk hd (fun w' h ad xs hx => hx.below (below_step hb hb.size h)) hr).mono ?_
  rintro e w' ⟨he, h1, h2⟩
  exact ⟨he, h1, hb.grown h2 hb.size fun j hj => by injection hj with hj; omega⟩

set_option maxRecDepth 100000 in
set_option maxHeartbeats 8000000 in
theorem putAll_any (w0 : World) (b m : Nat) (M : Int → Option Wr) (a : Option Addr) (n cap : Nat) (ws : List Wr) (w : World) (hn : ws.length = n) (hm : n ≤ 1048576) (hmm : m ≤ 1048576) (hx : Few ws) (hk : ∀ i, i < ws.length → 0 ≤ (ws.getD i wz).k ∧ (ws.getD i wz).k ≤ 5)
    (hi : IsWs w0 a ws) (hb : Below w0.heap.size w0 w) (hB : w0.heap.size ≤ b) (hr : RegsW w0 w b m M) :
    Calls Tryz.prog 53 #[.map (some b), .slice a n cap] w fun e w' => e = .returned (.tuple #[]) ∧ RegsW w0 w' b (m + n) (ws.foldl regPut M) ∧ Below w0.heap.size w0 w' := by
  have HI : Hid (IsWs w0 a ws) := hi
  have HN : Hid (ws.length = n) := hn
  have HX : Hid (Few ws) := hx
  have HKY : Hid (∀ i, i < ws.length → 0 ≤ (ws.getD i wz).k ∧ (ws.getD i wz).k ≤ 5) := hk
  have HR0 : Hid (RegsW w0 w b m M) := hr
  have HB0 : Hid (Below w0.heap.size w0 w) := hb
  clear hi hn hx hk hr hb
  go_enter Tryz.func53, Tryz.ntmps53
  go_wp2
  go_loopw [8] (fun i wr => ∃ k : Nat, k ≤ n ∧ i = .int .i64 k ∧ Hid (RegsW w0 wr b (m + k) ((ws.take k).foldl regPut M)) ∧ Hid (Below w0.heap.size w0 wr)) (fun i _ => n - (intOf i).toNat)
  case atStart => exact ⟨0, Nat.zero_le _, rfl, HR0, HB0⟩
  case round =>
    clear HR0 HB0
    obtain ⟨k, hk, rfl, HR, HB⟩ := hrel
    by_cases hk' : k < n
    · obtain ⟨bl, o, ad, cp, rfl, hz, ⟨e0, e1, e2, e3, e4, e5, e6⟩, hd⟩ := HI.out.base HB.out HN.out hk'
      have HD := Lib.hid hd
      have i1 : (0 : Int) ≤ (k : Int) := by omega
      have i2 : (k : Int) < (n : Int) := by omega
      have hkw : k < ws.length := by rw [HN.out]; exact hk'
      have hxl := HX.out k hkw
      have hky := HKY.out k hkw
      have HT : Hid ((ws.take (k + 1)).foldl regPut M = regPut ((ws.take k).foldl regPut M) (ws.getD k wz)) := foldl_take regPut ws M k hkw
      clear hd HI
      generalize ws.getD k wz = x at *
      obtain ⟨xk, xc, xs', xq, xv, xd, xx⟩ := x
      simp only at e0 e1 e2 e3 e4 e5 e6 HD hxl hky
      generalize (ws.take k).foldl regPut M = M1 at *
      have HBA : Hid (Below wr.heap.size wr (wr.alloc (.cells #[.int .i64 xk, .int .i64 xc, .int .i64 xs', .int .i64 xq, .int .i64 xv, .bool xd, .slice ad xx.length cp] 56))) := (Below.refl _ _).alloc (Nat.le_refl _) _
      have HRA := Lib.hid (HR.out.below HBA.out)
      have HB1 := Lib.hid (below_step HB.out HB.out.size HBA.out)
      go_wp2_with fail
      refine (putOne_any w0 b (m + k) M1 ⟨xk, xc, xs', xq, xv, xd, xx⟩ ad cp _ (by omega) hxl hky HD.out HB1.out hB HRA.out).mono ?_
      rintro e w2 ⟨rfl, hr2, hb2⟩
      have HR2 : Hid (RegsW w0 w2 b (m + (k + 1)) ((ws.take (k + 1)).foldl regPut M)) := by
        rw [HT.out]
        exact hr2
      have HB2 := Lib.hid hb2
      clear hr2 hb2
      go_wp2
      exact ⟨⟨k + 1, by omega, by go_num, HR2, HB2⟩, by simp [intOf]; omega⟩
    · have hkk : k = n := by omega
      subst hkk
      have HE : Hid (ws.take k = ws) := List.take_of_length_le (by rw [HN.out]; exact Nat.le_refl _)
      rw [HE.out] at HR
      go_wp2
      exact bodyPost_end (v := .tuple #[]) (by simp [results, Tryz.results53]) rfl ⟨rfl, HR.out, HB.out⟩

end Go.Proofs.YtidpcjcnhklmpacGreatDoor

/- The contract of the registers' told. -/
namespace Go.Proofs.YtidpcjcnhklmpacGreatDoor
open Go.ChangeShapes Go.WideShapes Go.ChangeAt Go.RowKit Go.Joins
attribute [local go_sem ↓] Go.wp_at_zero Go.wp_at_succ

def toldTo (M : Int → Option Wr) (k : Nat) : List Wr := (List.range k).filterMap fun (j : Nat) => M (j : Int)

set_option maxRecDepth 100000 in
theorem toldTo_none {M : Int → Option Wr} {k : Nat} (h : M (k : Int) = none) : toldTo M (k + 1) = toldTo M k := by
  unfold toldTo
  rw [List.range_succ, List.filterMap_append]
  simp [h]

set_option maxRecDepth 100000 in
theorem toldTo_some {M : Int → Option Wr} {k : Nat} {x : Wr} (h : M (k : Int) = some x) : toldTo M (k + 1) = toldTo M k ++ [x] := by
  unfold toldTo
  rw [List.range_succ, List.filterMap_append]
  simp [h]

set_option maxRecDepth 100000 in
theorem toldTo_six (M : Int → Option Wr) : toldTo M 6 = toldM M := by
  rfl

set_option maxRecDepth 100000 in
theorem toldTo_len (M : Int → Option Wr) (k : Nat) : (toldTo M k).length ≤ k := by
  unfold toldTo
  have := List.length_filterMap_le (fun j : Nat => M (j : Int)) (List.range k)
  simpa using this

set_option maxRecDepth 100000 in
set_option maxHeartbeats 8000000 in
theorem told_any (w0 : World) (b m : Nat) (M : Int → Option Wr) (w : World) (hb : Below w0.heap.size w0 w) (hr : RegsW w0 w b m M) :
    Calls Tryz.prog 32 #[.map (some b)] w fun e w' => ∃ v es, e = .returned v ∧ es.map (·.x) = toldM M ∧ RowG w' w.heap.size v es ∧ Below w.heap.size w w' := by
  have HR0 : Hid (RegsW w0 w b m M) := hr
  have HB0 : Hid (Below w0.heap.size w0 w) := hb
  clear hr hb
  obtain ⟨i0, hi0, hx0⟩ := Option.map_eq_some_iff.1 infoWr
  simp only [Prod.mk.injEq] at hx0
  have HI0 := Lib.hid hi0
  have HX0 := Lib.hid hx0
  clear hi0 hx0
  go_enter Tryz.func32, Tryz.ntmps32
  go_wp2
  go_loopw [3, 7] (fun t i wr => ∃ (k : Nat) (v : Value) (es : List EnG), k ≤ 6 ∧ i = .int .i64 k ∧ v = t ∧ Hid (es.map (·.x) = toldTo M k) ∧ Hid (RowG wr w.heap.size v es) ∧ Hid (Below w.heap.size w wr)) (fun _ i _ => 6 - (intOf i).toNat)
  case atStart => exact ⟨0, _, [], Nat.zero_le _, rfl, rfl, rfl, rowG_nil _ _, Below.refl _ _⟩
  case round =>
    obtain ⟨k, v, es, hk, rfl, rfl, HE, HR, HB⟩ := hrel
    have hln : es.length ≤ 6 := by
      have h1 := toldTo_len M k
      rw [← HE.out, List.length_map] at h1
      omega
    by_cases hk' : k < 6
    · have i1 : (0 : Int) ≤ (k : Int) := by omega
      have i2 : (k : Int) < 6 := by omega
      have HRW := Lib.hid (HR0.out.below HB.out)
      cases hM : M (k : Int) with
      | none =>
        have HE' : Hid (es.map (·.x) = toldTo M (k + 1)) := by
          rw [toldTo_none hM]
          exact HE
        have HM := Lib.hid hM
        clear hM
        have HBA : Hid (Below w.heap.size w (wr.alloc (.cells #[.int .i64 0, .int .i64 0, .int .i64 0, .int .i64 0, .int .i64 0, .bool false, .slice none 0 0] 56))) := HB.out.alloc HB.out.size _
        have HRA := Lib.hid (HR.out.below ((Below.refl wr.heap.size wr).alloc (Nat.le_refl _) (.cells #[.int .i64 0, .int .i64 0, .int .i64 0, .int .i64 0, .int .i64 0, .bool false, .slice none 0 0] 56)))
        go_wp2_with (at_lookup; refine look_none (by rfl) _ _ (by rfl) HRW.out (k : Int) ⟨i1, by omega⟩ HM.out (by rfl) (by rfl) ?_)
        exact ⟨⟨k + 1, _, es, by omega, by go_num, rfl, HE', HRA, HBA⟩, by simp [intOf]; omega⟩
      | some y =>
        have HE' : Hid (toldTo M (k + 1) = toldTo M k ++ [y]) := toldTo_some hM
        have HM := Lib.hid hM
        clear hM
        obtain ⟨yk, yc, ys, yq, yv, yd, yy⟩ := y
        go_wp2_with (at_lookup; refine look_some (by rfl) _ _ (by rfl) HRW.out (k : Int) ⟨i1, by omega⟩ _ HM.out (by rfl) (by rfl) ?_; intro ad cp hd hl)
        have HBA : Hid (Below wr.heap.size wr (wr.alloc (.cells #[.int .i64 yk, .int .i64 yc, .int .i64 ys, .int .i64 yq, .int .i64 yv, .bool yd, .slice ad yy.length cp] 56))) := (Below.refl _ _).alloc (Nat.le_refl _) _
        have HB1 := Lib.hid (below_step HB.out HB.out.size HBA.out)
        have HD := Lib.hid (hd.below (HB0.out.trans (HB1.out.mono HB0.out.size)))
        clear hd
        refine (icopy_any ⟨yk, yc, ys, yq, yv, yd, yy⟩ ad cp _ hl HD.out).mono ?_
        rintro e w2 ⟨a2, g2, cp2, rfl, hg, hb⟩
        have HB2 : Hid (Below w.heap.size w w2) := below_step HB1.out HB1.out.size hb
        have HG : Hid (FreshDeps wr.heap.size w2 a2 g2 yy) := hg.mono HBA.out.size
        have HR2 : Hid (RowG w2 w.heap.size _ es) := HR.out.below (below_step HBA.out HBA.out.size hb)
        have hwr : w.heap.size ≤ wr.heap.size := HB.out.size
        have HAP : Hid (∀ d ∈ es, 0 < d.x.xs.length → 0 < yy.length → d.g ≠ g2) := fun d hd hp hq => by
          have h1 := ((HR.out.deps d hd).1 hp).2.2.1
          have h2 := (HG.out hq).2.1
          omega
        have HV : Hid (0 < yy.length → v.ownBlock ≠ some g2) := fun hq e => by
          have h1 := (HR.out.own.lt g2 e).2
          have h2 := (HG.out hq).2.1
          omega
        clear hb hg HB1 HBA HD HM HRW
        have HBC : Hid (Below w2.heap.size w2 (w2.alloc (.cells #[.int .i64 yk, .int .i64 yc, .int .i64 ys, .int .i64 yq, .int .i64 yv, .bool yd, .slice a2 yy.length cp2] 56))) := (Below.refl _ _).alloc (Nat.le_refl _) _
        have HRC := Lib.hid (HR2.out.below HBC.out)
        have hsz : w.heap.size ≤ w2.heap.size := HB2.out.size
        go_wp2_with (at_builtin; refine wpList_append_lies _ (by rfl) _ _ _ (by rfl) w.heap.size 56 i0 (wrV 0 0 0 0 0 false none 0 0) 7 72 Tryz.underlying29 HI0.out HX0.out.1 HX0.out.2.1 HX0.out.2.2 (by rfl) (by omega) v es.length (es.flatMap wrValsG) (by rfl) HRC.out.own ⟨w2.heap.size, 0, none⟩ 1 1 (wrValsG ⟨⟨yk, yc, ys, yq, yv, yd, yy⟩, a2, g2, cp2⟩) (by rfl) (by rfl) (oneG_cells w2 _ ⟨⟨yk, yc, ys, yq, yv, yd, yy⟩, a2, g2, cp2⟩) (by simpa using valsG_one [⟨⟨yk, yc, ys, yq, yv, yd, yy⟩, a2, g2, cp2⟩]) (by omega) (by unfold maxLen; omega) (by omega) (by simp; omega) _ rfl ?_; intro g3 cp3 w5 hown hgrow hg3 _; refine Hid.out ?_)
        refine Lib.hid ?_
        have HB5 : Hid (Below w.heap.size w w5) := (HB2.out.alloc hsz _).grown hgrow (by simp; omega) fun j hj => (HR2.out.own.lt j hj).1
        have HR5 : Hid (RowG w5 w.heap.size (.slice (some ⟨g3, 0, none⟩) (es.length + 1) cp3) (es ++ [⟨⟨yk, yc, ys, yq, yv, yd, yy⟩, a2, g2, cp2⟩])) :=
          HRC.out.more ((HG.out.below HBC.out).mono hwr) HV.out HAP.out hown hgrow hg3
        have HE5 : Hid ((es ++ [(⟨⟨yk, yc, ys, yq, yv, yd, yy⟩, a2, g2, cp2⟩ : EnG)]).map (·.x) = toldTo M (k + 1)) := by
          rw [HE'.out, List.map_append, HE.out]
          exact Lib.hid rfl
        clear hown hgrow HRC HBC
        go_wp2
        exact ⟨⟨k + 1, _, _, by omega, by go_num, rfl, HE5, HR5, HB5⟩, by simp [intOf]; omega⟩
    · have hkk : k = 6 := by omega
      subst hkk
      have HF : Hid (es.map (·.x) = toldM M) := by
        rw [← toldTo_six]
        exact HE
      go_wp2
      go_ret
      exact ⟨_, es, rfl, HF.out, HR.out, HB.out⟩

end Go.Proofs.YtidpcjcnhklmpacGreatDoor

/- Contracts of the specification's l02Join, MapJoin, MapPut. -/
namespace Go.Proofs.YtidpcjcnhklmpacGreatDoor
open Go.ChangeShapes Go.WideShapes Go.ChangeAt Go.RowKit Go.Joins
attribute [local go_sem ↓] Go.wp_at_zero Go.wp_at_succ

theorem join_few : ∀ (vs us : List Wr), Few us → Few vs → Few (joinW us vs)
  | [], us, h, _ => h
  | x :: r, us, h, h' => by
    rw [few_iff] at h'
    exact join_few r (putW us x) (put_few h (h' x (by simp))) (few_iff.2 fun z hz => h' z (by simp [hz]))

theorem few_take {ws : List Wr} (h : Few ws) (k : Nat) : Few (ws.take k) := by
  rw [few_iff] at *
  exact fun x hx => h x (List.mem_of_mem_take hx)

end Go.Proofs.YtidpcjcnhklmpacGreatDoor

/- Lists of batches: what a slice of batches leads to; the contracts of eqBatch, eqBatchS; spec.Replay. -/
namespace Go.Proofs.YtidpcjcnhklmpacGreatDoor
open Go.ChangeShapes Go.WideShapes Go.ChangeAt Go.RowKit Go.Joins
attribute [local go_sem ↓] Go.wp_at_zero Go.wp_at_succ

/-- What a slice of batches leads to. -/
def IsBs (w : World) (a : Option Addr) (bs : List (List Wr)) : Prop :=
  bs = [] ∨ ∃ b o, a = some ⟨b, o, none⟩ ∧ b < w.heap.size ∧ ∀ i, i < bs.length → ∃ a' cap, w.cell? ⟨b, o + i, none⟩ = some (.slice a' (bs.getD i []).length cap) ∧ IsWs w a' (bs.getD i [])

set_option maxRecDepth 100000 in
theorem IsBs.below {w w' : World} {a : Option Addr} {bs : List (List Wr)} (h : IsBs w a bs) (hb : Below w.heap.size w w') : IsBs w' a bs := by
  rcases h with h | ⟨b, o, ha, hlt, hh⟩
  · exact .inl h
  · refine .inr ⟨b, o, ha, Nat.lt_of_lt_of_le hlt hb.size, fun i hi => ?_⟩
    obtain ⟨a', cap, hc, hw⟩ := hh i hi
    exact ⟨a', cap, (hb.cell (p := ⟨b, o + i, none⟩) hlt).trans hc, hw.below hb⟩

set_option maxRecDepth 100000 in
theorem IsBs.at {w w' : World} {a : Option Addr} {bs : List (List Wr)} (h : IsBs w a bs) (hb : Below w.heap.size w w') {k : Nat} (hk : k < bs.length) : ∃ b o a' cap, a = some ⟨b, o, none⟩ ∧ b < w'.heap.size ∧ w'.cell? ⟨b, o + k, none⟩ = some (.slice a' (bs.getD k []).length cap) ∧ IsWs w' a' (bs.getD k []) := by
  rcases h.below hb with h | ⟨b, o, ha, hlt, hh⟩
  · subst h
    simp at hk
  · obtain ⟨a', cap, hc, hw⟩ := hh k hk
    exact ⟨b, o, a', cap, ha, hlt, hc, hw⟩

/-- All batches have few writes, each with few dependencies. -/
def FewB (bs : List (List Wr)) : Prop := ∀ i, i < bs.length → (bs.getD i []).length ≤ 1048576 ∧ Few (bs.getD i [])

end Go.Proofs.YtidpcjcnhklmpacGreatDoor

/- Lists of writes that a call answers, or that are handed to one: marks on them, and what marks leave alone. -/
namespace Go.Proofs.YtidpcjcnhklmpacGreatDoor
open Go.ChangeShapes Go.WideShapes Go.ChangeAt Go.RowKit Go.Joins
attribute [local go_sem ↓] Go.wp_at_zero Go.wp_at_succ

/-- What was written lies in these blocks. -/
abbrev Span (lo hi : Nat) (x : Nat) : Prop := lo ≤ x ∧ x < hi

/-- A list of writes of one's own, between two block numbers; it may be nil where it is empty. -/
def OwnA (w : World) (lo hi : Nat) (a : Option Addr) (ws : List Wr) (γ : Nat → Nat) : Prop :=
  ws = [] ∨ ∃ b, a = some ⟨b, 0, none⟩ ∧ OwnG w lo b ws γ ∧ b < hi ∧ ∀ i, i < ws.length → 0 < (ws.getD i wz).xs.length → γ i < hi

theorem OwnG.ownA {w : World} {lo b : Nat} {ws : List Wr} {γ : Nat → Nat} (h : OwnG w lo b ws γ) : OwnA w lo w.heap.size (some ⟨b, 0, none⟩) ws γ :=
  .inr ⟨b, rfl, h, h.lt, fun i hi hp => (h.deps i hi hp).2.1⟩

theorem RowG.ownA {w : World} {base : Nat} {v : Value} {es : List EnG} (h : RowG w base v es) {ws : List Wr} (hw : es.map (·.x) = ws) : ∃ a cap n, v = .slice a n cap ∧ ws.length = n ∧ OwnA w base w.heap.size a ws (gammaG es) := by
  obtain ⟨a, cap, h1, h2⟩ := h.form
  subst hw
  refine ⟨a, cap, es.length, h1, by simp, ?_⟩
  rcases h2 with h2 | ⟨b, rfl, h2⟩
  · exact .inl (by simp [h2])
  · exact h2.ownA

theorem OwnA.below {w w' : World} {lo hi : Nat} {a : Option Addr} {ws : List Wr} {γ : Nat → Nat} (h : OwnA w lo hi a ws γ) (hb : Below w.heap.size w w') : OwnA w' lo hi a ws γ := by
  rcases h with h | ⟨b, h1, h2, h3⟩
  · exact .inl h
  · exact .inr ⟨b, h1, h2.below hb, h3⟩

theorem OwnG.only {w w' : World} {S : Nat → Prop} {base b : Nat} {ws : List Wr} {γ : Nat → Nat} (h : OwnG w base b ws γ) (ho : Only S w w') (hS : ∀ x, S x → x < base) : OwnG w' base b ws γ where
  lt := by rw [ho.size]; exact h.lt
  le := h.le
  open_ := fun o => (ho.frozen _).trans (h.open_ o)
  at_ := fun i hi => by
    obtain ⟨a, cap, h1, h2⟩ := h.at_ i hi
    exact ⟨a, cap, h1.of_block (ho.block b fun e => by have := hS b e; have := h.le; omega), h2⟩
  deps := fun i hi hp => by
    obtain ⟨h1, h2, h3, h4, h5⟩ := h.deps i hi hp
    have hb : w'.heap[γ i]? = w.heap[γ i]? := ho.block _ fun e => by have := hS _ e; omega
    have e' : ∀ o, w'.cell? ⟨γ i, o, none⟩ = w.cell? ⟨γ i, o, none⟩ := fun o => World.cell?_of_block (a := ⟨γ i, o, none⟩) hb
    exact ⟨h1, by rw [ho.size]; exact h2, h3, fun j hj => ⟨(e' _).trans (h4 j hj).1, (e' _).trans (h4 j hj).2.1, (e' _).trans (h4 j hj).2.2.1, (e' _).trans (h4 j hj).2.2.2⟩, fun o => (ho.frozen _).trans (h5 o)⟩
  inj := h.inj

theorem OwnA.only {w w' : World} {S : Nat → Prop} {lo hi : Nat} {a : Option Addr} {ws : List Wr} {γ : Nat → Nat} (h : OwnA w lo hi a ws γ) (ho : Only S w w') (hS : ∀ x, S x → x < lo) : OwnA w' lo hi a ws γ := by
  rcases h with h | ⟨b, h1, h2, h3⟩
  · exact .inl h
  · exact .inr ⟨b, h1, h2.only ho hS, h3⟩

theorem OwnA.isWs {w : World} {lo hi : Nat} {a : Option Addr} {ws : List Wr} {γ : Nat → Nat} (h : OwnA w lo hi a ws γ) (hx : Few ws) : IsWs w a ws := by
  rcases h with h | ⟨b, h1, h2, _⟩
  · exact .inl h
  · rw [h1]
    exact h2.isWs hx

/-- A list that is marked. -/
def MarkedA (w : World) (a : Option Addr) (ws : List Wr) (γ : Nat → Nat) (k : Int) : Prop :=
  ws = [] ∨ ∃ b, a = some ⟨b, 0, none⟩ ∧ MarkedWs w b ws γ k ∧ b < w.heap.size ∧ ∀ i, i < ws.length → 0 < (ws.getD i wz).xs.length → γ i < w.heap.size

theorem MarkedA.below {w w' : World} {a : Option Addr} {ws : List Wr} {γ : Nat → Nat} {k : Int} (h : MarkedA w a ws γ k) (hb : Below w.heap.size w w') : MarkedA w' a ws γ k := by
  rcases h with h | ⟨b, h1, h2, h3, h4⟩
  · exact .inl h
  · exact .inr ⟨b, h1, h2.below hb h3 h4, Nat.lt_of_lt_of_le h3 hb.size, fun i hi hp => Nat.lt_of_lt_of_le (h4 i hi hp) hb.size⟩

/-- The keys of dependencies that are right rise from 0 on: there are at most six. -/
theorem depsOk_len {xs : List Dp} (h : depsOkB xs = true) : xs.length ≤ 6 := by
  unfold depsOkB at h
  rw [List.all_eq_true] at h
  have hg : ∀ i, i < xs.length → (i : Int) ≤ (xs.getD i dz).k ∧ (xs.getD i dz).k ≤ 5 := by
    intro i
    induction i with
    | zero =>
      intro hi
      have := h 0 (List.mem_range.2 hi)
      unfold depGood btw at this
      simp only [Bool.and_eq_true, decide_eq_true_eq] at this
      exact ⟨by have := this.1.1; omega, this.1.2⟩
    | succ i ih =>
      intro hi
      have h1 := ih (by omega)
      have := h (i + 1) (List.mem_range.2 hi)
      unfold depGood btw at this
      simp only [Bool.and_eq_true, decide_eq_true_eq] at this
      rcases this.2.2 with h2 | h2
      · omega
      · rw [show i + 1 - 1 = i from rfl] at h2
        exact ⟨by omega, this.1.2⟩
  by_cases h7 : xs.length ≤ 6
  · exact h7
  · have := hg 6 (by omega)
    omega

theorem okW_len {x : Wr} (h : okW x = true) : x.xs.length ≤ 6 := by
  unfold okW writeOkB at h
  simp only [Bool.and_eq_true] at h
  exact depsOk_len h.2.2.2.1

theorem bulk_le {ws : List Wr} {m : Nat} (h : ∀ x ∈ ws, x.xs.length ≤ m) : bulk ws ≤ ws.length * m := by
  induction ws with
  | nil => simp [bulk]
  | cons x r ih =>
    have h1 := h x (by simp)
    have h2 := ih fun y hy => h y (by simp [hy])
    simp only [bulk, List.length_cons]
    rw [Nat.add_mul]
    omega

end Go.Proofs.YtidpcjcnhklmpacGreatDoor

/- Contracts of impl.MapJoin and impl.MapPut. -/
namespace Go.Proofs.YtidpcjcnhklmpacGreatDoor
open Go.ChangeShapes Go.WideShapes Go.ChangeAt Go.RowKit Go.Joins
attribute [local go_sem ↓] Go.wp_at_zero Go.wp_at_succ

def joinB (us vs : List Wr) : List Wr := if mapOkB us = true ∧ mapOkB vs = true then joinW us vs else []

set_option maxRecDepth 100000 in
theorem joinB_not {us vs : List Wr} (h : mapOkB us = false ∨ mapOkB vs = false) : joinB us vs = [] := by
  unfold joinB
  refine if_neg fun h' => ?_
  rcases h with h | h
  · rw [h'.1] at h; cases h
  · rw [h'.2] at h; cases h

set_option maxRecDepth 100000 in
theorem mapOk_keys {ws : List Wr} (h : mapOkB ws = true) : ∀ x ∈ ws, 0 ≤ x.k ∧ x.k ≤ 5 := fun x hx => okW_key (((mapOk_iff ws).1 h).1 x hx)

set_option maxRecDepth 100000 in
theorem mapOk_keys' {ws : List Wr} (h : mapOkB ws = true) : ∀ i, i < ws.length → 0 ≤ (ws.getD i wz).k ∧ (ws.getD i wz).k ≤ 5 := fun i hi => mapOk_keys h _ (by simp [List.getD, hi])

set_option maxRecDepth 100000 in
theorem joinB_told {us vs : List Wr} (ha : mapOkB us = true) (hb : mapOkB vs = true) : toldM (vs.foldl regPut (us.foldl regPut (fun _ => none))) = joinB us vs := by
  unfold joinB
  rw [if_pos ⟨ha, hb⟩]
  exact told_join ((mapOk_iff us).1 ha).2 (mapOk_keys ha) (mapOk_keys hb)

set_option maxRecDepth 100000 in
theorem implMapOk_is (r : Bool) (a : Option Addr) (n cap : Nat) (ws : List Wr) (h : mapOkB ws = r) (w : World) (hn : ws.length = n) (hm : n ≤ 1048576) (hx : Few ws) (hh : IsWs w a ws) :
    Calls Tryz.prog 26 #[.slice a n cap] w fun e w' => e = .returned (.bool r) ∧ Below w.heap.size w w' := by
  subst h
  exact implMapOk_any a n cap ws w hn hm hx hh

set_option maxRecDepth 100000 in
set_option maxHeartbeats 4000000 in
theorem implMapJoin_any (a b : Option Addr) (n m cap cap' : Nat) (us vs : List Wr) (w : World) (hn : us.length = n) (hm : vs.length = m) (hn1 : n ≤ 1048576) (hm1 : m ≤ 1048576) (hx : Few us) (hy : Few vs) (hi : IsWs w a us) (hj : IsWs w b vs) :
    Calls Tryz.prog 28 #[.slice a n cap, .slice b m cap'] w fun e w' => ∃ v es, e = .returned v ∧ es.map (·.x) = joinB us vs ∧ RowG w' w.heap.size v es ∧ Below w.heap.size w w' := by
  have HI : Hid (IsWs w a us) := hi
  have HJ : Hid (IsWs w b vs) := hj
  have HN : Hid (us.length = n) := hn
  have HM : Hid (vs.length = m) := hm
  have HX : Hid (Few us) := hx
  have HY : Hid (Few vs) := hy
  clear hi hj hn hm hx hy
  cases ha : mapOkB us
  · have HE : Hid (joinB us vs = []) := joinB_not (.inl ha)
    go_enter Tryz.func28, Tryz.ntmps28
    go_wp2_with fail
    refine (implMapOk_is false a n cap us ha _ HN.out hn1 HX.out HI.out).mono ?_
    rintro e w1 ⟨rfl, hb⟩
    have HB1 := Lib.hid hb
    clear hb
    go_wp2
    go_ret
    exact ⟨_, [], rfl, HE.out.symm, rowG_nil _ _, HB1.out⟩
  cases hb : mapOkB vs
  · have HE : Hid (joinB us vs = []) := joinB_not (.inr hb)
    go_enter Tryz.func28, Tryz.ntmps28
    go_wp2_with fail
    refine (implMapOk_is true a n cap us ha _ HN.out hn1 HX.out HI.out).mono ?_
    rintro e w1 ⟨rfl, hb1⟩
    have HB1 := Lib.hid hb1
    clear hb1
    go_wp2_with fail
    refine (implMapOk_is false b m cap' vs hb _ HM.out hm1 HY.out (HJ.out.below HB1.out)).mono ?_
    rintro e w2 ⟨rfl, hb2⟩
    have HB2 : Hid (Below w.heap.size w w2) := below_step HB1.out HB1.out.size hb2
    clear hb2
    go_wp2
    go_ret
    exact ⟨_, [], rfl, HE.out.symm, rowG_nil _ _, HB2.out⟩
  have HE : Hid (toldM (vs.foldl regPut (us.foldl regPut (fun _ => none))) = joinB us vs) := joinB_told ha hb
  have HKA : Hid (∀ i, i < us.length → 0 ≤ (us.getD i wz).k ∧ (us.getD i wz).k ≤ 5) := mapOk_keys' ha
  have HKB : Hid (∀ i, i < vs.length → 0 ≤ (vs.getD i wz).k ∧ (vs.getD i wz).k ≤ 5) := mapOk_keys' hb
  have hmm := @run_makeMap Tryz.prog
  go_enter Tryz.func28, Tryz.ntmps28
  go_wp2_with fail
  refine (implMapOk_is true a n cap us ha _ HN.out hn1 HX.out HI.out).mono ?_
  rintro e w1 ⟨rfl, hb1⟩
  have HB1 := Lib.hid hb1
  clear hb1
  go_wp2_with fail
  refine (implMapOk_is true b m cap' vs hb _ HM.out hm1 HY.out (HJ.out.below HB1.out)).mono ?_
  rintro e w2 ⟨rfl, hb2⟩
  have HB2 : Hid (Below w.heap.size w w2) := below_step HB1.out HB1.out.size hb2
  clear hb2 HB1
  go_wp2_with fail
  clear hmm
  have HB3 : Hid (Below w.heap.size w (w2.alloc (.map #[] 0))) := HB2.out.alloc HB2.out.size _
  refine (putAll_any w w2.heap.size 0 (fun _ => none) a n cap us _ HN.out hn1 (by omega) HX.out HKA.out HI.out HB3.out HB2.out.size ⟨_, regs_made w2, fun k => ⟨fun _ => rfl, fun x h => by cases h⟩⟩).mono ?_
  rintro e w4 ⟨rfl, hr4, hb4⟩
  have HR4 := Lib.hid hr4
  have HB4 := Lib.hid hb4
  clear hr4 hb4
  go_wp2_with fail
  refine (putAll_any w w2.heap.size (0 + n) _ b m cap' vs _ HM.out hm1 (by omega) HY.out HKB.out HJ.out HB4.out HB2.out.size HR4.out).mono ?_
  rintro e w5 ⟨rfl, hr5, hb5⟩
  have HR5 := Lib.hid hr5
  have HB5 := Lib.hid hb5
  clear hr5 hb5
  go_wp2_with fail
  refine (told_any w w2.heap.size _ _ _ HB5.out HR5.out).mono ?_
  rintro e w6 ⟨v, es, rfl, hes, hrow, hb6⟩
  have HES : Hid (es.map (·.x) = joinB us vs) := hes.trans HE.out
  have HRW := Lib.hid (hrow.mono HB5.out.size)
  have HB6 : Hid (Below w.heap.size w w6) := below_step HB5.out HB5.out.size hb6
  clear hes hrow hb6
  go_wp2
  go_ret
  exact ⟨v, es, rfl, HES.out, HRW.out, HB6.out⟩

set_option maxRecDepth 100000 in
theorem mapOk_one (x : Wr) : mapOkB [x] = okW x := by
  simp [mapOkB, wrGood, List.range, List.range.loop]

set_option maxRecDepth 100000 in
theorem joinB_one (ws : List Wr) (x : Wr) : joinB ws [x] = if mapOkB ws = true ∧ okW x = true then putW ws x else [] := by
  unfold joinB
  rw [mapOk_one]
  rfl

end Go.Proofs.YtidpcjcnhklmpacGreatDoor

/- Contracts of the specification's MapJoin and MapPut. -/
namespace Go.Proofs.YtidpcjcnhklmpacGreatDoor
open Go.ChangeShapes Go.WideShapes Go.ChangeAt Go.RowKit Go.Joins
attribute [local go_sem ↓] Go.wp_at_zero Go.wp_at_succ

/-- What the specification answers: a list of writes of its own. -/
def AnsS (w w' : World) (e : Ending) (ws : List Wr) : Prop := ∃ g cp es L, e = .returned (.slice (some ⟨g, 0, none⟩) L cp) ∧ es.length = L ∧ es.map (·.x) = ws ∧ RowEs w' w.heap.size g cp es ∧ Below w.heap.size w w'

theorem specWriteOk_is (x : Wr) (r : Bool) (h : okW x = r) (a : Option Addr) (cap : Nat) (w : World) (hn : x.xs.length ≤ 1048576) (hh : IsDeps w a x.xs) :
    Calls Tryz.prog 84 #[wrOf x a cap] w fun e w' => e = .returned (.bool r) ∧ Below w.heap.size w w' := by
  subst h
  exact specWriteOk_gen _ _ _ _ _ _ a x.xs _ cap w rfl hn hh

end Go.Proofs.YtidpcjcnhklmpacGreatDoor

/- How much a join is. -/
namespace Go.Proofs.YtidpcjcnhklmpacGreatDoor
open Go.ChangeShapes Go.WideShapes Go.ChangeAt Go.RowKit Go.Joins

theorem joinB_ok (us vs : List Wr) : ∀ x ∈ joinB us vs, okW x = true := by
  intro x hx
  unfold joinB at hx
  split at hx
  · rename_i h
    obtain ⟨_, h2, _⟩ := join_spec vs us ((mapOk_iff us).1 h.1).2
    rcases h2 x hx with h3 | h3
    · exact ((mapOk_iff us).1 h.1).1 x h3
    · exact ((mapOk_iff vs).1 h.2).1 x h3
  · simp at hx

theorem joinB_rise (us vs : List Wr) : Rise (joinB us vs) := by
  unfold joinB
  split
  · rename_i h
    exact (join_spec vs us ((mapOk_iff us).1 h.1).2).1
  · exact List.Pairwise.nil

theorem joinB_mapOk (us vs : List Wr) : mapOkB (joinB us vs) = true := (mapOk_iff _).2 ⟨joinB_ok us vs, joinB_rise us vs⟩

theorem mapOk_len {ws : List Wr} (h : mapOkB ws = true) : ws.length ≤ 6 := by
  have e := told_find ((mapOk_iff ws).1 h).2 (mapOk_keys h)
  rw [← e, ← toldTo_six]
  exact toldTo_len _ 6

theorem mapOk_bulk {ws : List Wr} (h : mapOkB ws = true) : bulk ws ≤ 36 := by
  have h1 := bulk_le (m := 6) fun x hx => okW_len (((mapOk_iff ws).1 h).1 x hx)
  have h2 := mapOk_len h
  omega

theorem joinB_bulk (us vs : List Wr) : bulk (joinB us vs) ≤ 36 := mapOk_bulk (joinB_mapOk us vs)

theorem joinB_len (us vs : List Wr) : (joinB us vs).length ≤ 6 := mapOk_len (joinB_mapOk us vs)

theorem joinB_few (us vs : List Wr) : Few (joinB us vs) := few_of_bulk (by have := joinB_bulk us vs; omega)

/-- The specification's answer, as a list. -/
theorem RowEs.isWs {w : World} {base g cap : Nat} {es : List En} (h : RowEs w base g cap es) {ws : List Wr} (hw : es.map (·.x) = ws) (hx : Few ws) : IsWs w (some ⟨g, 0, none⟩) ws := (h.holds hw).isWs hx

end Go.Proofs.YtidpcjcnhklmpacGreatDoor
