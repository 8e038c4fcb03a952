import Derived.Test.YtidpcjcnhklmpalGreatDoorPack1
import Derived.Test.YtidpcjcnhklmpalGreatDoorPack4
import Derived.WalkKit
import Derived.LaidEql
import Derived.Stop.Asserts
import Derived.RowKitTokens
import Derived.Test.YtidpcjcnhklmpalGreatDoorPack11
import Derived.Test.YtidpcjcnhklmpalGreatDoorPack6
import Derived.Test.YtidpcjcnhklmpalGreatDoorPack2
/- errors.As at a concrete target, a batchFault: Go's own text walked: of nil false, nothing turns; of a batchFault true, and the target is it. -/
namespace Go.Proofs.YtidpcjcnhklmpalGreatDoor
open Go.ChangeShapes Go.WideShapes Go.ChangeAt Go.RowKit Go.Joins Go.Extern.Stop Go.Stop Go.Extern

set_option maxRecDepth 100000 in
theorem as_nil (t : Value) (w : World) :
    Calls Tryz.prog 11 #[.nilIface, t] w fun e w' => e = .returned (.bool false) ∧ w' = w := by
  go_enter Tryz.func11, Tryz.ntmps11
  go_wp2
  go_ret
  exact ⟨rfl, rfl⟩

namespace asf

set_option maxRecDepth 100000 in
theorem valueOfP (t : Addr) (w : World) : (ReflectliteValue.unpack (.iface 40 (.pointer (some t)))).run Tryz.prog w = .ok (.agg #[.pointer (some ⟨13, 40, none⟩), .pointer (some ⟨w.heap.size, 0, none⟩), .int .u64 150]) (w.alloc (.cells #[.pointer (some t)] 40)) := by kernel_rfl

set_option maxRecDepth 100000 in
theorem typeP (a : Addr) (w : World) : (ReflectliteValue.methodAny (ReflectliteValue.valueError "reflectlite.Value.Type" 0) (fun t _ _ _ => ReflectliteType.toType t) #[.agg #[.pointer (some ⟨13, 40, none⟩), .pointer (some a), .int .u64 150]]).run Tryz.prog w = .ok (.iface 90 (.agg #[.pointer (some ⟨13, 40, none⟩)])) w := by kernel_rfl

set_option maxRecDepth 100000 in
theorem methodKind (h : Value) (w : World) : (Go.method 309 90 (.agg #[h]) "Kind").run Tryz.prog w = .ok (137, h) w := by kernel_rfl

set_option maxRecDepth 100000 in
theorem kindP (w : World) : ((ReflectliteType.abiMethod fun t => (fun a : Nat => Value.int IntKind.u8 (a : Int)) <$> Rtype.kind t) #[.pointer (some ⟨13, 40, none⟩)]).run Tryz.prog w = .ok (.int .u8 22) w := by kernel_rfl

set_option maxRecDepth 100000 in
theorem kindT (w : World) : ((ReflectliteType.abiMethod fun t => (fun a : Nat => Value.int IntKind.u8 (a : Int)) <$> Rtype.kind t) #[.pointer (some ⟨13, 38, none⟩)]).run Tryz.prog w = .ok (.int .u8 25) w := by kernel_rfl

theorem rlm (z : Sem Value) (f : TypeId → Addr → Nat → Nat → Sem Value) (v : Value) :
    ReflectliteValue.method z f #[v] = (do match ← ReflectliteValue.parts v with | none => z | some (t, a, fl) => f t a fl (fl % 32)) := rfl

set_option maxRecDepth 100000 in
theorem partsP (a : Addr) (w : World) : (ReflectliteValue.parts (.agg #[.pointer (some ⟨13, 40, none⟩), .pointer (some a), .int .u64 150])).run Tryz.prog w = .ok (some (40, a, 150)) w := by kernel_rfl

set_option maxRecDepth 100000 in
theorem isNilP (a p : Addr) (W : World) (ha : W.cell? a = some (.pointer (some p))) :
    (ReflectliteValue.method (ReflectliteValue.valueError "reflectlite.Value.IsNil" 0) ReflectliteValue.isNil #[.agg #[.pointer (some ⟨13, 40, none⟩), .pointer (some a), .int .u64 150]]).run Tryz.prog W = .ok (.bool false) W := by
  rw [rlm]
  simp only [Sem.run_bind, partsP, Result.andThen]
  simp [ReflectliteValue.isNil, loadVar, isAgg, underlying, Tryz.underlying40, ha, Result.andThen]

set_option maxRecDepth 100000 in
theorem methodElem (h : Value) (w : World) : (Go.method 309 90 (.agg #[h]) "Elem").run Tryz.prog w = .ok (148, .agg #[h]) w := by kernel_rfl

set_option maxRecDepth 100000 in
theorem methodImplements (h : Value) (w : World) : (Go.method 309 90 (.agg #[h]) "Implements").run Tryz.prog w = .ok (149, .agg #[h]) w := by kernel_rfl

set_option maxRecDepth 100000 in
theorem methodAssignableTo (h : Value) (w : World) : (Go.method 309 90 (.agg #[h]) "AssignableTo").run Tryz.prog w = .ok (146, .agg #[h]) w := by kernel_rfl

set_option maxRecDepth 100000 in
theorem elemP (w : World) : (ReflectliteType.method ReflectliteType.elem #[.agg #[.pointer (some ⟨13, 40, none⟩)]]).run Tryz.prog w = .ok (.iface 90 (.agg #[.pointer (some ⟨13, 38, none⟩)])) w := by kernel_rfl

set_option maxRecDepth 100000 in
theorem implementsT (w : World) : (ReflectliteType.relation "Implements" ReflectliteType.implements_ #[.agg #[.pointer (some ⟨13, 38, none⟩)], .iface 90 (.agg #[.pointer (some ⟨13, 34, none⟩)])]).run Tryz.prog w = .ok (.bool true) w := by kernel_rfl

set_option maxRecDepth 100000 in
theorem typeOfT (v : Value) (w : World) : (ReflectliteType.typeOf #[.iface 38 v]).run Tryz.prog w = .ok (.iface 90 (.agg #[.pointer (some ⟨13, 38, none⟩)])) w := by kernel_rfl

set_option maxRecDepth 100000 in
theorem assignableT (w : World) : (ReflectliteType.relation "AssignableTo" ReflectliteType.assignableTo #[.agg #[.pointer (some ⟨13, 38, none⟩)], .iface 90 (.agg #[.pointer (some ⟨13, 38, none⟩)])]).run Tryz.prog w = .ok (.bool true) w := by kernel_rfl

set_option maxRecDepth 100000 in
theorem valueOfT (x y : Value) (w : World) : (ReflectliteValue.unpack (.iface 38 (.agg #[x, y]))).run Tryz.prog w = .ok (.agg #[.pointer (some ⟨13, 38, none⟩), .pointer (some ⟨w.heap.size, 0, none⟩), .int .u64 153]) (w.alloc (.cells #[x, y] 38)) := by kernel_rfl

set_option maxRecDepth 100000 in
theorem elemOfP (w : World) : (Rtype.elem? 40).run Tryz.prog w = .ok (some 38) w := by kernel_rfl

set_option maxRecDepth 100000 in
theorem mkT (p : Addr) (w : World) : (ReflectliteValue.mk 38 p ReflectliteValue.flagAddr).run Tryz.prog w = .ok (.agg #[.pointer (some ⟨13, 38, none⟩), .pointer (some p), .int .u64 409]) w := by kernel_rfl

set_option maxRecDepth 100000 in
theorem elemV (a p : Addr) (W : World) (ha : W.cell? a = some (.pointer (some p))) :
    (ReflectliteValue.method (ReflectliteValue.valueError "reflectlite.Value.Elem" 0) ReflectliteValue.elem #[.agg #[.pointer (some ⟨13, 40, none⟩), .pointer (some a), .int .u64 150]]).run Tryz.prog W = .ok (.agg #[.pointer (some ⟨13, 38, none⟩), .pointer (some p), .int .u64 409]) W := by
  rw [rlm]
  simp only [Sem.run_bind, partsP, Result.andThen]
  simp [ReflectliteValue.elem, loadVar, isAgg, underlying, Tryz.underlying40, ha, Result.andThen, elemOfP, mkT]

theorem rls (v x : Value) : ReflectliteValue.set #[v, x] = (do
    let (some (dst, a, fl), some (src, b, _)) := (← ReflectliteValue.parts v, ← ReflectliteValue.parts x)
      | unsupported (.noEntry "extern/(internal/reflectlite.Value).Set.zeroValue")
    if fl / ReflectliteValue.flagAddr % 2 == 0 then unsupported (.noEntry "extern/(internal/reflectlite.Value).Set.unaddressable")
    let val ← loadVar src b
    if ← Rtype.directlyAssignable dst src then storeVar dst a val
    else if ← Rtype.implements dst src then
      if (← Rtype.kind src) == 20 then
        match val with
        | .nilIface => unsupported (.noEntry "extern/reflectlite: a nil value of one interface type handed on as a value of another")
        | _ => storeVar dst a val
      else storeVar dst a (.iface src val)
    else panicString ("reflectlite.Set: value of type " ++ (← Rtype.spelt src) ++ " is not assignable to type " ++ (← Rtype.spelt dst))
    pure (.tuple #[])) := rfl

set_option maxRecDepth 100000 in
theorem partsTa (a : Addr) (w : World) : (ReflectliteValue.parts (.agg #[.pointer (some ⟨13, 38, none⟩), .pointer (some a), .int .u64 409])).run Tryz.prog w = .ok (some (38, a, 409)) w := by kernel_rfl

set_option maxRecDepth 100000 in
theorem partsT (a : Addr) (w : World) : (ReflectliteValue.parts (.agg #[.pointer (some ⟨13, 38, none⟩), .pointer (some a), .int .u64 153])).run Tryz.prog w = .ok (some (38, a, 153)) w := by kernel_rfl

set_option maxRecDepth 100000 in
theorem directT (w : World) : (Rtype.directlyAssignable 38 38).run Tryz.prog w = .ok true w := by kernel_rfl

set_option maxRecDepth 100000 in
theorem sizeT (w : World) : (sizeOf 38).run Tryz.prog w = .ok 2 w := by kernel_rfl

set_option maxRecDepth 100000 in
theorem isAggT (w : World) : (isAgg 38).run Tryz.prog w = .ok true w := by kernel_rfl

set_option maxRecDepth 100000 in
/-- The variable of a batchFault gets what the other one holds. -/
theorem setT (c b : Nat) (x y ox oy : Value) (W : World) (hx : W.cell? ⟨b, 0, none⟩ = some x) (hy : W.cell? ⟨b, 1, none⟩ = some y) (h0 : W.cell? ⟨c, 0, none⟩ = some ox) (h1 : W.cell? ⟨c, 1, none⟩ = some oy) (hf : ∀ o, W.frozen? ⟨c, o, none⟩ = false) (x1 : x.oneCell' = true) (y1 : y.oneCell' = true) :
    (ReflectliteValue.set #[.agg #[.pointer (some ⟨13, 38, none⟩), .pointer (some ⟨c, 0, none⟩), .int .u64 409], .agg #[.pointer (some ⟨13, 38, none⟩), .pointer (some ⟨b, 0, none⟩), .int .u64 153]]).run Tryz.prog W = .ok (.tuple #[]) ((W.setCell ⟨c, 0, none⟩ x).setCell ⟨c, 1, none⟩ y) := by
  have h3 : (W.setCell ⟨c, 0, none⟩ x).cell? ⟨c, 1, none⟩ = some oy := cell_set_off h1 (by omega)
  have h4 : (W.setCell ⟨c, 0, none⟩ x).frozen? ⟨c, 1, none⟩ = false := by rw [World.frozen?_setCell]; exact hf 1
  have h5 := hf 0
  rw [rls]
  simp only [Sem.run_bind, partsTa, partsT, Result.andThen]
  simp [ReflectliteValue.flagAddr, loadVar, loadCells, loadCellsFrom, hx, hy, Result.andThen, directT, storeVar, Value.cells, storeCells, Addr.add]
  rw [run_store Tryz.prog W ⟨c, 0, none⟩ _ _ x1]
  simp only [h0, h5]
  simp only [Bool.false_eq_true, if_false]
  rw [run_store Tryz.prog _ ⟨c, 1, none⟩ _ _ y1]
  simp only [h3, h4]
  simp

end asf

/-- What errors.errorType holds. -/
def ET (w : World) : Prop := w.cell? ⟨0, 0, none⟩ = some (.iface 90 (.agg #[.pointer (some ⟨13, 34, none⟩)]))

set_option maxRecDepth 100000 in
set_option maxHeartbeats 8000000 in
theorem as_hit (c : Nat) (x y ox oy : Value) (w : World) (hg : ET w) (h0 : w.cell? ⟨c, 0, none⟩ = some ox) (h1 : w.cell? ⟨c, 1, none⟩ = some oy) (hf : ∀ o, w.frozen? ⟨c, o, none⟩ = false) (x1 : x.oneCell' = true) (y1 : y.oneCell' = true) :
    Calls Tryz.prog 11 #[.iface 38 (.agg #[x, y]), .iface 40 (.pointer (some ⟨c, 0, none⟩))] w fun ev w' => ev = .returned (.bool true) ∧ w' = (((((w.alloc (.cells #[.pointer (some ⟨c, 0, none⟩)] 40)).alloc (.cells #[.pointer (some ⟨13, 40, none⟩), .pointer (some ⟨w.heap.size, 0, none⟩), .int .u64 150] 65)).alloc (.cells #[.pointer (some ⟨13, 40, none⟩), .pointer (some ⟨w.heap.size, 0, none⟩), .int .u64 150] 65)).alloc (.cells #[x, y] 38)).setCell ⟨c, 0, none⟩ x).setCell ⟨c, 1, none⟩ y := by
  have hV := @run_callFunc_extern Tryz.prog 22 _ (fun args => ReflectliteValue.unpack (args.getD 0 (.tuple #[]))) Tryz.func22 (by kernel_rfl) (by kernel_rfl) (by kernel_rfl) (by kernel_rfl)
  have hTy := @run_callFunc_extern Tryz.prog 23 _ (ReflectliteValue.methodAny (ReflectliteValue.valueError "reflectlite.Value.Type" 0) (fun t _ _ _ => ReflectliteType.toType t)) Tryz.func23 (by kernel_rfl) (by kernel_rfl) (by kernel_rfl) (by kernel_rfl)
  have hN := @run_callFunc_extern Tryz.prog 24 _ (ReflectliteValue.method (ReflectliteValue.valueError "reflectlite.Value.IsNil" 0) ReflectliteValue.isNil) Tryz.func24 (by kernel_rfl) (by kernel_rfl) (by kernel_rfl) (by kernel_rfl)
  have hK := @run_callFunc_extern Tryz.prog 137 _ (ReflectliteType.abiMethod fun t => do pure (.int .u8 (← Rtype.kind t))) Tryz.func137 (by kernel_rfl) (by kernel_rfl) (by kernel_rfl) (by kernel_rfl)
  have hRE := @run_callFunc_extern Tryz.prog 148 _ (ReflectliteType.method ReflectliteType.elem) Tryz.func148 (by kernel_rfl) (by kernel_rfl) (by kernel_rfl) (by kernel_rfl)
  have hRI := @run_callFunc_extern Tryz.prog 149 _ (ReflectliteType.relation "Implements" ReflectliteType.implements_) Tryz.func149 (by kernel_rfl) (by kernel_rfl) (by kernel_rfl) (by kernel_rfl)
  have hTO := @run_callFunc_extern Tryz.prog 35 _ (ReflectliteType.typeOf) Tryz.func35 (by kernel_rfl) (by kernel_rfl) (by kernel_rfl) (by kernel_rfl)
  have hRA := @run_callFunc_extern Tryz.prog 146 _ (ReflectliteType.relation "AssignableTo" ReflectliteType.assignableTo) Tryz.func146 (by kernel_rfl) (by kernel_rfl) (by kernel_rfl) (by kernel_rfl)
  have hEl := @run_callFunc_extern Tryz.prog 36 _ (ReflectliteValue.method (ReflectliteValue.valueError "reflectlite.Value.Elem" 0) ReflectliteValue.elem) Tryz.func36 (by kernel_rfl) (by kernel_rfl) (by kernel_rfl) (by kernel_rfl)
  have hSe := @run_callFunc_extern Tryz.prog 37 _ (ReflectliteValue.set) Tryz.func37 (by kernel_rfl) (by kernel_rfl) (by kernel_rfl) (by kernel_rfl)
  have tO := asf.typeOfT
  have mA := asf.methodAssignableTo
  have aT := asf.assignableT
  have vT := asf.valueOfT
  have vP := asf.valueOfP
  have tP := asf.typeP
  have mK := asf.methodKind
  have mE := asf.methodElem
  have mI := asf.methodImplements
  have kP := asf.kindP
  have kT := asf.kindT
  have eP := asf.elemP
  have iT := asf.implementsT
  have n8 := asf.isNilP ⟨w.heap.size, 0, none⟩ ⟨c, 0, none⟩ ((w.alloc (.cells #[.pointer (some ⟨c, 0, none⟩)] 40)).alloc (.cells #[.pointer (some ⟨13, 40, none⟩), .pointer (some ⟨w.heap.size, 0, none⟩), .int .u64 150] 65)) (by simp)
  have hlt : 0 < w.heap.size := World.block_lt_of_cell? w _ hg
  have hcl : c < w.heap.size := World.block_lt_of_cell? w _ h0
  have hg2 : ((w.alloc (.cells #[.pointer (some ⟨c, 0, none⟩)] 40)).alloc (.cells #[.pointer (some ⟨13, 40, none⟩), .pointer (some ⟨w.heap.size, 0, none⟩), .int .u64 150] 65)).cell? ⟨0, 0, none⟩ = some (.iface 90 (.agg #[.pointer (some ⟨13, 34, none⟩)])) := by
    rw [World.cell?_alloc_lt _ _ ⟨0, 0, none⟩ (by simp <;> omega), World.cell?_alloc_lt _ _ ⟨0, 0, none⟩ hlt]; exact hg
  have el := asf.elemV ⟨w.heap.size, 0, none⟩ ⟨c, 0, none⟩ (((w.alloc (.cells #[.pointer (some ⟨c, 0, none⟩)] 40)).alloc (.cells #[.pointer (some ⟨13, 40, none⟩), .pointer (some ⟨w.heap.size, 0, none⟩), .int .u64 150] 65)).alloc (.cells #[.pointer (some ⟨13, 40, none⟩), .pointer (some ⟨w.heap.size, 0, none⟩), .int .u64 150] 65)) (by rw [World.cell?_alloc_lt _ _ ⟨w.heap.size, 0, none⟩ (by simp <;> omega)]; simp)
  have hold : Below w.heap.size w ((((w.alloc (.cells #[.pointer (some ⟨c, 0, none⟩)] 40)).alloc (.cells #[.pointer (some ⟨13, 40, none⟩), .pointer (some ⟨w.heap.size, 0, none⟩), .int .u64 150] 65)).alloc (.cells #[.pointer (some ⟨13, 40, none⟩), .pointer (some ⟨w.heap.size, 0, none⟩), .int .u64 150] 65)).alloc (.cells #[x, y] 38)) := ((((Below.refl _ _).alloc (Nat.le_refl _) _).alloc (by simp) _).alloc (by simp <;> omega) _).alloc (by simp <;> omega) _
  have st := asf.setT c (w.heap.size + 1 + 1 + 1) x y ox oy ((((w.alloc (.cells #[.pointer (some ⟨c, 0, none⟩)] 40)).alloc (.cells #[.pointer (some ⟨13, 40, none⟩), .pointer (some ⟨w.heap.size, 0, none⟩), .int .u64 150] 65)).alloc (.cells #[.pointer (some ⟨13, 40, none⟩), .pointer (some ⟨w.heap.size, 0, none⟩), .int .u64 150] 65)).alloc (.cells #[x, y] 38)) (by rw [World.cell?_alloc_at _ _ _ _ (by simp)]; rfl) (by rw [World.cell?_alloc_at _ _ _ _ (by simp)]; rfl) ((hold.cell (p := ⟨c, 0, none⟩) hcl).trans h0) ((hold.cell (p := ⟨c, 1, none⟩) hcl).trans h1) (fun o => (hold.frozen (p := ⟨c, o, none⟩) hcl).trans (hf o)) x1 y1
  clear hold
  go_enter Tryz.func11, Tryz.ntmps11
  go_wp2
  refine wp_loop_rounds 1 ?_
  rw [rounds_succ]
  go_wp2
  go_ret
  exact ⟨rfl, rfl⟩

end Go.Proofs.YtidpcjcnhklmpalGreatDoor

/- The contract of spec.l06Batch: the batch that begins at a place. -/
namespace Go.Proofs.YtidpcjcnhklmpalGreatDoor
open Go.ChangeShapes Go.WideShapes Go.ChangeAt Go.RowKit Go.Joins
attribute [local go_sem ↓] Go.wp_at_zero Go.wp_at_succ

/-- What reading a batch answers. -/
def BatchAns (t : List UInt8) (i : Nat) (w w' : World) (e : Ending) : Prop :=
  Below w.heap.size w w' ∧ ((∃ a cap es, e = .returned (.tuple #[.agg #[.slice a (List.length es) cap], .int .i64 ((i + (batchT (es.map (·.x))).length : Nat) : Int), .bool true]) ∧ ValidAt t (es.map (·.x)) ∧ RowG w' w.heap.size (.slice a es.length cap) es) ∨
    ((∀ ws, ¬ ValidAt t ws) ∧ e = .returned (.tuple #[.agg #[.slice none 0 0], .int .i64 0, .bool false])))

set_option maxRecDepth 100000 in
set_option maxHeartbeats 8000000 in
theorem batch_any (s : ByteArray) (i : Nat) (w : World) (hs : s.size ≤ 1048576) (hi : i ≤ s.size) :
    Calls Tryz.prog 9 #[.string s, .int .i64 (i : Int)] w fun e w' => BatchAns (s.data.toList.drop i) i w w' e := by
  obtain ⟨i0, hi0, hx0⟩ := Option.map_eq_some_iff.1 infoWr
  simp only [Prod.mk.injEq] at hx0
  have HI0 := Lib.hid hi0
  have HX0 := Lib.hid hx0
  clear hi0 hx0
  have HR0 : Hid (BBox ((w.alloc (.cells #[.slice none 0 0] 30)).alloc (.cells #[.slice none 0 0] 30)) w.heap.size (.slice none 0 0)) := ⟨by simp; omega, by simp [go_sem], fun o => by simp [go_sem]⟩
  have HQ0 : Hid (BBox ((w.alloc (.cells #[.slice none 0 0] 30)).alloc (.cells #[.slice none 0 0] 30)) (w.heap.size + 1) (.slice none 0 0)) := ⟨by simp, by simp [go_sem], fun o => by simp [go_sem]⟩
  have HB0 : Hid (Below w.heap.size w ((w.alloc (.cells #[.slice none 0 0] 30)).alloc (.cells #[.slice none 0 0] 30))) := ((Below.refl _ _).alloc (Nat.le_refl _) _).alloc (by simp) _
  have hz0 : ((w.alloc (.cells #[.slice none 0 0] 30)).alloc (.cells #[.slice none 0 0] 30)).heap.size = w.heap.size + 2 := by simp
  go_enter Tryz.func9, Tryz.ntmps9
  go_wp2_with fail
  generalize (w.alloc (.cells #[.slice none 0 0] 30)).alloc (.cells #[.slice none 0 0] 30) = W0 at *
  refine (line_any s i _ hs hi).mono ?_
  rintro e w1 ⟨hl, hw⟩
  subst w1
  rcases hl with ⟨l, r, hd, hnl, rfl⟩ | ⟨hno, rfl⟩
  rotate_left
  · have HNO : Hid (∀ ws, ¬ ValidAt (s.data.toList.drop i) ws) := fun ws hv => hno (valid_line hv)
    clear hno
    go_wp2_with fail
    refine (words_any _ _ (Nat.zero_le _)).mono ?_
    rintro e w2 ⟨g, cp, W, rfl, -, -, -, -, hb⟩
    have HB2 := Lib.hid (below_step HB0.out HB0.out.size hb)
    have HR2 := Lib.hid (HR0.out.below hb)
    have HQ2 := Lib.hid (HQ0.out.below hb)
    clear hb
    have HRX := Lib.hid (HR2.out.set (.slice none 0 0))
    have HBX : Hid (Below w.heap.size w (w2.setCell ⟨w.heap.size, 0, none⟩ (.slice none 0 0))) := HB2.out.setCell (p := ⟨w.heap.size, 0, none⟩) (Nat.le_refl _) _
    have z0 := HQ2.out.c0
    have z1 := HR2.out.c0
    have z2 := HR2.out.fz
    go_wp2
    have z3 := HRX.out.c0
    refine bodyPost_ret (v := .tuple #[.agg #[.slice none 0 0], .int .i64 0, .bool false]) (by simp [results, Tryz.results9, go_sem, z3]) rfl ?_
    exact ⟨HBX.out, .inr ⟨HNO.out, rfl⟩⟩
  have hll : i + l.length + 1 ≤ s.size := by
    have h := congrArg List.length hd
    simp at h
    omega
  have hls : (str l).size ≤ 1048576 := by rw [str_size]; omega
  go_wp2_with fail
  refine (words_any (str l) _ hls).mono ?_
  rintro e w2 ⟨g, cp, W, rfl, hWl, hnb, hgl, hrow, hb⟩
  have HB2 := Lib.hid (below_step HB0.out HB0.out.size hb)
  have HR2 := Lib.hid (HR0.out.below hb)
  have HQ2 := Lib.hid (HQ0.out.below hb)
  have HRW := Lib.hid hrow
  have hs2 : W0.heap.size ≤ w2.heap.size := hb.size
  have HD := Lib.hid hd
  have HNL := Lib.hid hnl
  have HNB := Lib.hid hnb
  have HGL : Hid (glue W = l ++ [32]) := hgl
  rw [str_size] at hWl
  clear hb hrow hd hnl hnb hgl HB0 HR0 HQ0
  obtain ⟨M, hM⟩ : ∃ M, W.length = M := ⟨_, rfl⟩
  rw [hM] at hWl ⊢
  have HBX : Hid (Below w.heap.size w (w2.setCell ⟨w.heap.size, 0, none⟩ (.slice none 0 0))) := HB2.out.setCell (p := ⟨w.heap.size, 0, none⟩) (Nat.le_refl _) _
  have HRX := Lib.hid (HR2.out.set (.slice none 0 0))
  have z0 := HQ2.out.c0
  have z1 := HR2.out.c0
  have z2 := HR2.out.fz
  by_cases hM2 : M = 2
  rotate_left
  · have HNO : Hid (∀ ws, ¬ ValidAt (s.data.toList.drop i) ws) := head_not HD.out HNL.out HNB.out HGL.out fun h => hM2 (hM ▸ h.1)
    have hne : ¬ (M : Int) = 2 := by omega
    clear hM
    go_wp2
    have z3 := HRX.out.c0
    refine bodyPost_ret (v := .tuple #[.agg #[.slice none 0 0], .int .i64 0, .bool false]) (by simp [results, Tryz.results9, go_sem, z3]) rfl ?_
    exact ⟨HBX.out, .inr ⟨HNO.out, rfl⟩⟩
  subst hM2
  obtain ⟨hg2, c0⟩ := HRW.out.at (Below.refl _ _) (k := 0) (by omega)
  obtain ⟨-, c1⟩ := HRW.out.at (Below.refl _ _) (k := 1) (by omega)
  have HM := Lib.hid hM
  clear hM
  obtain ⟨x0, hx0⟩ : ∃ x0, W.getD 0 ⟨#[]⟩ = x0 := ⟨_, rfl⟩
  obtain ⟨x1, hx1⟩ : ∃ x1, W.getD 1 ⟨#[]⟩ = x1 := ⟨_, rfl⟩
  rw [hx0] at c0
  rw [hx1] at c1
  have HX0' := Lib.hid hx0
  have HX1' := Lib.hid hx1
  clear hx0 hx1
  by_cases hbt : x0 = ⟨#[98, 97, 116, 99, 104]⟩
  rotate_left
  · have HNO : Hid (∀ ws, ¬ ValidAt (s.data.toList.drop i) ws) := head_not HD.out HNL.out HNB.out HGL.out fun h => hbt (HX0'.out ▸ h.2.1)
    have hq : (x0.toList == [98, 97, 116, 99, 104]) = false := by
      rw [beq_eq_false_iff_ne, ByteArray.toList_eq]
      intro h
      refine hbt (ByteArray.ext ?_)
      exact Array.ext' h
    go_wp2
    have z3 := HRX.out.c0
    refine bodyPost_ret (v := .tuple #[.agg #[.slice none 0 0], .int .i64 0, .bool false]) (by simp [results, Tryz.results9, go_sem, z3]) rfl ?_
    exact ⟨HBX.out, .inr ⟨HNO.out, rfl⟩⟩
  subst hbt
  have hxs : x1.size ≤ 1048576 := by
    have h1 := mem_len (word_at (W := W) (k := 1) (by rw [HM.out]; omega)).2
    rw [HX1'.out, HGL.out] at h1
    simp at h1
    omega
  go_wp2_with fail
  refine (num_any x1 _ hxs).mono ?_
  rintro e w3 ⟨z, b, rfl, hsay, hb⟩
  have HB3 := Lib.hid (below_step HB2.out HB2.out.size hb)
  have HR3 := Lib.hid (HR2.out.below hb)
  have HQ3 := Lib.hid (HQ2.out.below hb)
  have hs3 : w2.heap.size ≤ w3.heap.size := hb.size
  have HSAY := Lib.hid hsay
  clear hb hsay HB2 HR2 HQ2 HRX HBX z0 z1 z2 c0 c1 HRW
  have HBX : Hid (Below w.heap.size w (w3.setCell ⟨w.heap.size, 0, none⟩ (.slice none 0 0))) := HB3.out.setCell (p := ⟨w.heap.size, 0, none⟩) (Nat.le_refl _) _
  have HRX := Lib.hid (HR3.out.set (.slice none 0 0))
  have z0 := HQ3.out.c0
  have z1 := HR3.out.c0
  have z2 := HR3.out.fz
  cases b
  · have HNO : Hid (∀ ws, ¬ ValidAt (s.data.toList.drop i) ws) := head_not HD.out HNL.out HNB.out HGL.out fun h => by
      obtain ⟨m, m1, m2, h3⟩ := h.2.2
      rw [HX1'.out] at h3
      have := (HSAY.out.2.2.2 m (by omega) (by omega) h3).1
      cases this
    go_wp2
    have z3 := HRX.out.c0
    refine bodyPost_ret (v := .tuple #[.agg #[.slice none 0 0], .int .i64 0, .bool false]) (by simp [results, Tryz.results9, go_sem, z3]) rfl ?_
    exact ⟨HBX.out, .inr ⟨HNO.out, rfl⟩⟩
  have hz1 := HSAY.out.1
  have hz2 := HSAY.out.2.1
  by_cases hbw : btw z 1 6 = true
  rotate_left
  · have HNO : Hid (∀ ws, ¬ ValidAt (s.data.toList.drop i) ws) := head_not HD.out HNL.out HNB.out HGL.out fun h => by
      obtain ⟨m, m1, m2, h3⟩ := h.2.2
      rw [HX1'.out] at h3
      have := (HSAY.out.2.2.2 m (by omega) (by omega) h3).2
      refine hbw ?_
      rw [this]
      unfold btw
      simp
      omega
    have hbf : btw z 1 6 = false := by simpa using hbw
    go_wp2_with fail
    refine (between_any _ _ _ _).mono ?_
    rintro e w4 ⟨rfl, hw⟩
    subst w4
    rw [hbf]
    go_wp2
    have z3 := HRX.out.c0
    refine bodyPost_ret (v := .tuple #[.agg #[.slice none 0 0], .int .i64 0, .bool false]) (by simp [results, Tryz.results9, go_sem, z3]) rfl ?_
    exact ⟨HBX.out, .inr ⟨HNO.out, rfl⟩⟩
  obtain ⟨m, rfl, m1, m2⟩ : ∃ m : Nat, z = (m : Int) ∧ 1 ≤ m ∧ m ≤ 6 := by
    have := btw_bounds hbw
    exact ⟨z.toNat, by omega, by omega, by omega⟩
  go_wp2_with fail
  refine (between_any _ _ _ _).mono ?_
  rintro e w4 ⟨rfl, hw⟩
  subst w4
  rw [hbw]
  have hdr : s.data.toList.drop (i + (l.length + 1)) = r := drop_line HD.out
  have HSF : Hid (Sofar (s.data.toList.drop i) m 0 (l.length + 1) [] (s.data.toList.drop (i + (l.length + 1)))) := by
    rw [hdr]
    exact Lib.hid (sofar_start HD.out HNL.out HNB.out HGL.out HX1'.out HSAY.out rfl)
  have hw2 : w.heap.size + 2 ≤ w3.heap.size := by omega
  clear hbw hz1 hz2 HSAY HX1' HX0' HM HGL HNB HNL HD hdr HBX HRX z0 z1 z2 hxs hWl hls
  go_wp2
  go_loopw [9, 14] (fun at' kk wr => ∃ (k q : Nat) (a : Option Addr) (cap : Nat) (es : List EnG), k ≤ m ∧ kk = .int .i64 k ∧ at' = .int .i64 ((i + q : Nat) : Int) ∧ i + q ≤ s.size ∧ 1 ≤ q ∧ es.length = k ∧ w.heap.size + 2 ≤ wr.heap.size ∧ Hid (∀ d ∈ es, okR d.x = true) ∧ Hid (Sofar (s.data.toList.drop i) m k q (es.map (·.x)) (s.data.toList.drop (i + q))) ∧ Hid (RowG wr (w.heap.size + 2) (.slice a k cap) es) ∧ Hid (BBox wr w.heap.size (.slice none 0 0)) ∧ Hid (BBox wr (w.heap.size + 1) (.slice a k cap)) ∧ Hid (Below w.heap.size w wr)) (fun _ kk _ => m - (intOf kk).toNat)
  case atStart => exact ⟨0, l.length + 1, none, 0, [], Nat.zero_le _, rfl, by go_num, by omega, by omega, rfl, hw2, fun d hd => by simp at hd, HSF, rowG_nil _ _, HR3, HQ3, HB3⟩
  case round =>
    clear HSF HR3 HQ3 HB3
    obtain ⟨k, q, a, cap, es, hk, rfl, rfl, hq, hq1, hel, hwr, HOK, HS, HR, HRB, HQB, HB⟩ := hrel
    have HN1 := Lib.hid hel
    by_cases hk' : k < m
    · have i1 : (0 : Int) ≤ (k : Int) := by omega
      have i2 : (k : Int) < (m : Int) := by omega
      go_wp2_with fail
      refine (line_any s (i + q) _ hs hq).mono ?_
      rintro e w1 ⟨hl, hw⟩
      subst w1
      rcases hl with ⟨l', r', hd, hnl, rfl⟩ | ⟨hno, rfl⟩
      rotate_left
      · have HNO : Hid (∀ ws, ¬ ValidAt (s.data.toList.drop i) ws) := sofar_none HS.out hk hno
        clear hno HS
        go_wp2_with fail
        refine (specRead_any _ _ (Nat.zero_le _)).mono ?_
        rintro e w2 ⟨hb, hans⟩
        have HB2 := Lib.hid (below_step HB.out HB.out.size hb)
        have HRB2 := Lib.hid (HRB.out.below hb)
        clear hb HR HQB HB HRB
        rcases hans with ⟨x, ya, ycp, rfl, -, -⟩ | ⟨-, rfl⟩
        · obtain ⟨yk, yc, ys, yq, yv, yd, yx⟩ := x
          have HBA : Hid (Below w2.heap.size w2 (w2.alloc (.cells #[.int .i64 yk, .int .i64 yc, .int .i64 ys, .int .i64 yq, .int .i64 yv, .bool yd, .slice ya yx.length ycp] 54))) := (Below.refl _ _).alloc (Nat.le_refl _) _
          have HR3 := Lib.hid (HRB2.out.below HBA.out)
          have HB3 := Lib.hid (below_step HB2.out HB2.out.size HBA.out)
          have HBX : Hid (Below w.heap.size w ((w2.alloc (.cells #[.int .i64 yk, .int .i64 yc, .int .i64 ys, .int .i64 yq, .int .i64 yv, .bool yd, .slice ya yx.length ycp] 54)).setCell ⟨w.heap.size, 0, none⟩ (.slice none 0 0))) := HB3.out.setCell (p := ⟨w.heap.size, 0, none⟩) (Nat.le_refl _) _
          have HRX := Lib.hid (HR3.out.set (.slice none 0 0))
          have z1 := HR3.out.c0
          have z2 := HR3.out.fz
          go_wp2
          have z3 := HRX.out.c0
          refine bodyPost_ret (v := .tuple #[.agg #[.slice none 0 0], .int .i64 0, .bool false]) (by simp [results, Tryz.results9, go_sem, z3]) rfl ?_
          exact ⟨HBX.out, .inr ⟨HNO.out, rfl⟩⟩
        · have HBA : Hid (Below w2.heap.size w2 (w2.alloc (.cells #[.int .i64 0, .int .i64 0, .int .i64 0, .int .i64 0, .int .i64 0, .bool false, .slice none 0 0] 54))) := (Below.refl _ _).alloc (Nat.le_refl _) _
          have HR3 := Lib.hid (HRB2.out.below HBA.out)
          have HB3 := Lib.hid (below_step HB2.out HB2.out.size HBA.out)
          have HBX : Hid (Below w.heap.size w ((w2.alloc (.cells #[.int .i64 0, .int .i64 0, .int .i64 0, .int .i64 0, .int .i64 0, .bool false, .slice none 0 0] 54)).setCell ⟨w.heap.size, 0, none⟩ (.slice none 0 0))) := HB3.out.setCell (p := ⟨w.heap.size, 0, none⟩) (Nat.le_refl _) _
          have HRX := Lib.hid (HR3.out.set (.slice none 0 0))
          have z1 := HR3.out.c0
          have z2 := HR3.out.fz
          go_wp2
          have z3 := HRX.out.c0
          refine bodyPost_ret (v := .tuple #[.agg #[.slice none 0 0], .int .i64 0, .bool false]) (by simp [results, Tryz.results9, go_sem, z3]) rfl ?_
          exact ⟨HBX.out, .inr ⟨HNO.out, rfl⟩⟩
      have hll' : i + q + l'.length + 1 ≤ s.size := by
        have h := congrArg List.length hd
        simp at h
        omega
      have hls : (str l').size ≤ 1048576 := by rw [str_size]; omega
      have HD := Lib.hid hd
      have HNL := Lib.hid hnl
      clear hd hnl
      go_wp2_with fail
      refine (specRead_any (str l') _ hls).mono ?_
      rintro e w2 ⟨hb, hans⟩
      have HB2 := Lib.hid (below_step HB.out HB.out.size hb)
      have HRB2 := Lib.hid (HRB.out.below hb)
      have HQ2 := Lib.hid (HQB.out.below hb)
      have HR2 := Lib.hid (HR.out.below hb)
      have hs2 : wr.heap.size ≤ w2.heap.size := hb.size
      clear hb HQB HB HRB
      rcases hans with ⟨x, ya, ycp, rfl, htx, hrd⟩ | ⟨hnt, rfl⟩
      rotate_left
      · have HNO : Hid (∀ ws, ¬ ValidAt (s.data.toList.drop i) ws) := sofar_bad HS.out hk' HD.out HNL.out hnt
        clear hnt HS HD HNL
        have HBA : Hid (Below w2.heap.size w2 (w2.alloc (.cells #[.int .i64 0, .int .i64 0, .int .i64 0, .int .i64 0, .int .i64 0, .bool false, .slice none 0 0] 54))) := (Below.refl _ _).alloc (Nat.le_refl _) _
        have HR3 := Lib.hid (HRB2.out.below HBA.out)
        have HB3 := Lib.hid (below_step HB2.out HB2.out.size HBA.out)
        have HBX : Hid (Below w.heap.size w ((w2.alloc (.cells #[.int .i64 0, .int .i64 0, .int .i64 0, .int .i64 0, .int .i64 0, .bool false, .slice none 0 0] 54)).setCell ⟨w.heap.size, 0, none⟩ (.slice none 0 0))) := HB3.out.setCell (p := ⟨w.heap.size, 0, none⟩) (Nat.le_refl _) _
        have HRX := Lib.hid (HR3.out.set (.slice none 0 0))
        have z1 := HR3.out.c0
        have z2 := HR3.out.fz
        go_wp2
        have z3 := HRX.out.c0
        refine bodyPost_ret (v := .tuple #[.agg #[.slice none 0 0], .int .i64 0, .bool false]) (by simp [results, Tryz.results9, go_sem, z3]) rfl ?_
        exact ⟨HBX.out, .inr ⟨HNO.out, rfl⟩⟩
      have HS2 : Hid (Sofar (s.data.toList.drop i) m (k + 1) (q + l'.length + 1) (es.map (·.x) ++ [x]) (s.data.toList.drop (i + (q + l'.length + 1)))) := by
        have h := sofar_next HS.out hk' HD.out HNL.out htx
        have e2 := drop_line HD.out
        rw [show i + q + (l'.length + 1) = i + (q + l'.length + 1) by omega] at e2
        rw [e2]
        exact Lib.hid h
      obtain ⟨g2, hg⟩ := fresh_row hrd
      have HOX := Lib.hid htx.1
      have HG : Hid (FreshDeps wr.heap.size w2 ya g2 x.xs) := hg
      clear hrd hg htx HS HD HNL
      obtain ⟨yk, yc, ys, yq, yv, yd, yx⟩ := x
      simp only at HG
      have HAP : Hid (∀ d ∈ es, 0 < d.x.xs.length → 0 < yx.length → d.g ≠ g2) := fun d hd hp hq => by
        have h1 := ((HR.out.deps d hd).1 hp).2.2.1
        have h2 := (HG.out hq).2.1
        omega
      have HV : Hid (0 < yx.length → (Value.slice a k cap).ownBlock ≠ some g2) := fun hq e => by
        have h1 := (HR.out.own.lt g2 e).2
        have h2 := (HG.out hq).2.1
        omega
      clear HR
      have HBA : Hid (Below w2.heap.size w2 (w2.alloc (.cells #[.int .i64 yk, .int .i64 yc, .int .i64 ys, .int .i64 yq, .int .i64 yv, .bool yd, .slice ya yx.length ycp] 54))) := (Below.refl _ _).alloc (Nat.le_refl _) _
      have HB3 := Lib.hid (below_step HB2.out HB2.out.size HBA.out)
      have HR3 := Lib.hid (HR2.out.below HBA.out)
      have HG3 := Lib.hid (HG.out.below HBA.out)
      have HQ3 := Lib.hid (HQ2.out.below HBA.out)
      have HRB3 := Lib.hid (HRB2.out.below HBA.out)
      have hs3 : w2.heap.size + 1 = (w2.alloc (.cells #[.int .i64 yk, .int .i64 yc, .int .i64 ys, .int .i64 yq, .int .i64 yv, .bool yd, .slice ya yx.length ycp] 54)).heap.size := by simp
      have HOC := Lib.hid (oneG_cells (w2.alloc (.cells #[.int .i64 yk, .int .i64 yc, .int .i64 ys, .int .i64 yq, .int .i64 yv, .bool yd, .slice ya yx.length ycp] 54)) 54 ⟨⟨yk, yc, ys, yq, yv, yd, yx⟩, ya, g2, ycp⟩)
      have HBC : Hid (Below (w2.heap.size + 1) (w2.alloc (.cells #[.int .i64 yk, .int .i64 yc, .int .i64 ys, .int .i64 yq, .int .i64 yv, .bool yd, .slice ya yx.length ycp] 54)) ((w2.alloc (.cells #[.int .i64 yk, .int .i64 yc, .int .i64 ys, .int .i64 yq, .int .i64 yv, .bool yd, .slice ya yx.length ycp] 54)).alloc (.cells #[.int .i64 yk, .int .i64 yc, .int .i64 ys, .int .i64 yq, .int .i64 yv, .bool yd, .slice ya yx.length ycp] 54))) := (Below.refl _ _).alloc (by simp) _
      have HRC := Lib.hid (HR3.out.below (hs3 ▸ HBC.out))
      have HGC := Lib.hid (HG3.out.below (hs3 ▸ HBC.out))
      have HQC := Lib.hid (HQ3.out.below (hs3 ▸ HBC.out))
      have HRBC := Lib.hid (HRB3.out.below (hs3 ▸ HBC.out))
      have HBD := Lib.hid (below_step HB3.out HB3.out.size (hs3 ▸ HBC.out))
      have hsz : w.heap.size + 2 ≤ w2.heap.size := by omega
      have zq := HQ3.out.c0
      have HOW : Hid (((w2.alloc (.cells #[.int .i64 yk, .int .i64 yc, .int .i64 ys, .int .i64 yq, .int .i64 yv, .bool yd, .slice ya yx.length ycp] 54)).alloc (.cells #[.int .i64 yk, .int .i64 yc, .int .i64 ys, .int .i64 yq, .int .i64 yv, .bool yd, .slice ya yx.length ycp] 54)).ownsRow (w.heap.size + 2) 54 7 (.slice a k cap) k (es.flatMap wrValsG)) := by
        have h := HRC.out.own
        rw [hel] at h
        exact Lib.hid h
      clear hs3 HBC HR3 HG3 HB3 HBA
      go_wp2_with (at_builtin; refine wpList_append_lies _ (by rfl) _ _ _ (by rfl) (w.heap.size + 2) 54 i0 (wrV 0 0 0 0 0 false none 0 0) 7 72 Tryz.underlying28 HI0.out HX0.out.1 HX0.out.2.1 HX0.out.2.2 (by rfl) (by omega) (.slice a k cap) k (es.flatMap wrValsG) (by rfl) HOW.out ⟨w2.heap.size + 1, 0, none⟩ 1 1 (wrValsG ⟨⟨yk, yc, ys, yq, yv, yd, yx⟩, ya, g2, ycp⟩) (by rfl) (by rfl) (by simpa using HOC.out) (by simpa using valsG_one [⟨⟨yk, yc, ys, yq, yv, yd, yx⟩, ya, g2, ycp⟩]) (by omega) (by unfold maxLen; omega) (by omega) (by simp; omega) _ rfl ?_; intro g3 cp3 w5 hown hgrow hg3 _; refine Hid.out ?_)
      refine Lib.hid ?_
      have hobR : (Value.slice a k cap).ownBlock ≠ some w.heap.size := fun e => by have := (HRC.out.own.lt _ e).1; omega
      have hobQ : (Value.slice a k cap).ownBlock ≠ some (w.heap.size + 1) := fun e => by have := (HRC.out.own.lt _ e).1; omega
      have HB5 : Hid (Below w.heap.size w w5) := HBD.out.grown hgrow HBD.out.size fun j hj => by have := (HR2.out.own.lt j hj).1; omega
      have hown2 : w5.ownsRow (w.heap.size + 2) 54 7 (.slice (some ⟨g3, 0, none⟩) (es.length + 1) cp3) (es.length + 1) (es.flatMap wrValsG ++ wrValsG ⟨⟨yk, yc, ys, yq, yv, yd, yx⟩, ya, g2, ycp⟩) := by rw [hel]; exact hown
      have HR5 : Hid (RowG w5 (w.heap.size + 2) (.slice (some ⟨g3, 0, none⟩) (k + 1) cp3) (es ++ [⟨⟨yk, yc, ys, yq, yv, yd, yx⟩, ya, g2, ycp⟩])) := by
        have h := HRC.out.more (HGC.out.mono hwr) HV.out HAP.out hown2 hgrow hg3
        rw [hel] at h
        exact Lib.hid h
      have HQ5 : Hid (BBox w5 (w.heap.size + 1) (.slice a k cap)) := HQC.out.of_block hgrow.size (hgrow.block _ HQC.out.lt (fun e => hobQ e.symm))
      have HRB5 : Hid (BBox w5 w.heap.size (.slice none 0 0)) := HRBC.out.of_block hgrow.size (hgrow.block _ HRBC.out.lt (fun e => hobR e.symm))
      have hs5 : w.heap.size + 2 ≤ w5.heap.size := by
        have := hgrow.size
        simp at this
        omega
      have HQ6 := Lib.hid (HQ5.out.set (.slice (some ⟨g3, 0, none⟩) (k + 1) cp3))
      have HRB6 := Lib.hid (HRB5.out.setOther (c := w.heap.size + 1) (by omega) (.slice (some ⟨g3, 0, none⟩) (k + 1) cp3))
      have HR6 := Lib.hid (HR5.out.holeQ ((Hole.refl (w.heap.size + 1) w5).set 0 (.slice (some ⟨g3, 0, none⟩) (k + 1) cp3)) (by omega))
      have HB6 : Hid (Below w.heap.size w (w5.setCell ⟨w.heap.size + 1, 0, none⟩ (.slice (some ⟨g3, 0, none⟩) (k + 1) cp3))) := HB5.out.setCell (p := ⟨w.heap.size + 1, 0, none⟩) (Nat.le_succ _) _
      have HS6 : Hid (Sofar (s.data.toList.drop i) m (k + 1) (q + l'.length + 1) ((es ++ [(⟨⟨yk, yc, ys, yq, yv, yd, yx⟩, ya, g2, ycp⟩ : EnG)]).map (·.x)) (s.data.toList.drop (i + (q + l'.length + 1)))) := by
        rw [List.map_append]
        exact HS2
      have HOK6 : Hid (∀ d ∈ es ++ [(⟨⟨yk, yc, ys, yq, yv, yd, yx⟩, ya, g2, ycp⟩ : EnG)], okR d.x = true) := fun d hd => by
        rcases List.mem_append.1 hd with hd | hd
        · exact HOK.out d hd
        · obtain rfl : d = _ := by simpa using hd
          exact HOX.out
      have zf := HQ5.out.fz
      have zc := HQ5.out.c0
      clear hown hown2 hgrow HRC HS2 HOW HOC
      go_wp2
      exact ⟨⟨k + 1, q + l'.length + 1, _, _, _, by omega, by go_num, by go_num, by omega, by omega, by simp [hel], by simpa [World.setCell] using hs5, HOK6, HS6, HR6, HRB6, HQ6, HB6⟩, by simp [intOf]; omega⟩
    · have hkk : k = m := by omega
      subst hkk
      have ge0 := aft_cell HQB.out.lt HQB.out.c0
      have ne := aft_some wr
      go_wp2_with fail
      refine (line_any s (i + q) _ hs hq).mono ?_
      rintro e w1 ⟨hl, hw⟩
      subst w1
      rcases hl with ⟨l', r', hd, hnl, rfl⟩ | ⟨hno, rfl⟩
      rotate_left
      · have HNO : Hid (∀ ws, ¬ ValidAt (s.data.toList.drop i) ws) := sofar_none HS.out hk hno
        clear hno HS
        go_wp2_with fail
        refine wp_region_aft (by kernel_rfl) (by kernel_rfl) ?_
        repeat (first | go_big_quiet_step (fail))
        refine wpQuiet_nil ?_
        intro wq hwq
        have HBQ : Hid (Below w.heap.size w wq) := below_step HB.out HB.out.size hwq
        have HRBQ := Lib.hid (HRB.out.below hwq)
        have HQBQ := Lib.hid (HQB.out.below hwq)
        have HRQ := Lib.hid (HR.out.below hwq)
        clear hwq ge0 ne HB HRB HQB HR
        have z0 := HQBQ.out.c0
        have z1 := HRBQ.out.c0
        have z2 := HRBQ.out.fz
        have HBX : Hid (Below w.heap.size w (wq.setCell ⟨w.heap.size, 0, none⟩ (.slice none 0 0))) := HBQ.out.setCell (p := ⟨w.heap.size, 0, none⟩) (Nat.le_refl _) _
        have HRX := Lib.hid (HRBQ.out.set (.slice none 0 0))
        go_wp2
        have z3 := HRX.out.c0
        refine bodyPost_ret (v := .tuple #[.agg #[.slice none 0 0], .int .i64 0, .bool false]) (by simp [results, Tryz.results9, go_sem, z3]) rfl ?_
        exact ⟨HBX.out, .inr ⟨HNO.out, rfl⟩⟩
      have hll' : i + q + l'.length + 1 ≤ s.size := by
        have h := congrArg List.length hd
        simp at h
        omega
      have HC : Hid (∀ p : Aft wr.heap.size wr, Calls Tryz.prog 20 #[.slice a k cap] p.now fun e w' => e = .returned (.string (str (batchT (es.map (·.x))))) ∧ Below p.now.heap.size p.now w') := fun p =>
        specBatch_any a k cap _ _ (by simp [hel]) (by omega) (rowG_few HOK.out) (HR.out.ws0.below p.below)
      have HEX : Hid ((s.extract i (i + q + l'.length + 1)).data.toList = (s.data.toList.drop i).take (q + l'.length + 1)) := by
        rw [show i + q + l'.length + 1 = i + (q + l'.length + 1) by omega]
        exact Lib.hid (extract_take s i _)
      have HNE : Hid ((s.data.toList.drop i).take (q + l'.length + 1) ≠ batchT (es.map (·.x)) → ∀ ws, ¬ ValidAt (s.data.toList.drop i) ws) := fun h => sofar_end HS.out hd hnl h
      have hdne : s.data.toList.drop i ≠ [] := fun h => by
        have := congrArg List.length h
        simp at this
        omega
      have HYES : Hid ((s.data.toList.drop i).take (q + l'.length + 1) = batchT (es.map (·.x)) → ValidAt (s.data.toList.drop i) (es.map (·.x)) ∧ i + (batchT (es.map (·.x))).length = i + q + l'.length + 1) := fun h => by
        refine ⟨valid_of_eq h hdne, ?_⟩
        rw [← h, List.length_take, List.length_drop]
        have : s.data.toList.length = s.size := by simp
        omega
      have x1 : (i : Int) ≤ ((i + q + l'.length + 1 : Nat) : Int) := by omega
      have x2 : ((i + q + l'.length + 1 : Nat) : Int) ≤ (s.size : Int) := by omega
      clear hd hnl HS hdne
      generalize (s.data.toList.drop i).take (q + l'.length + 1) = tk at *
      generalize i + q + l'.length + 1 = X at *
      by_cases heq : tk = batchT (es.map (·.x))
      rotate_left
      · have HNO := Lib.hid (HNE.out heq)
        have hc : ((s.extract i X).toList == (str (batchT (es.map (·.x)))).toList) = false := by
          rw [beq_eq_false_iff_ne, ByteArray.toList_eq, ByteArray.toList_eq, HEX.out]
          exact heq
        go_wp2_with fail
        refine wp_region_aft (by kernel_rfl) (by kernel_rfl) ?_
        repeat (first | go_big_quiet_step (first | (go_at_call 20; exact aft_of (HC.out _))))
        refine wpQuiet_nil ?_
        intro wq hwq
        clear HC
        have HBQ : Hid (Below w.heap.size w wq) := below_step HB.out HB.out.size hwq
        have HRBQ := Lib.hid (HRB.out.below hwq)
        have HQBQ := Lib.hid (HQB.out.below hwq)
        have HRQ := Lib.hid (HR.out.below hwq)
        clear hwq ge0 ne HB HRB HQB HR
        have z0 := HQBQ.out.c0
        have z1 := HRBQ.out.c0
        have z2 := HRBQ.out.fz
        have HBX : Hid (Below w.heap.size w (wq.setCell ⟨w.heap.size, 0, none⟩ (.slice none 0 0))) := HBQ.out.setCell (p := ⟨w.heap.size, 0, none⟩) (Nat.le_refl _) _
        have HRX := Lib.hid (HRBQ.out.set (.slice none 0 0))
        go_wp2
        have z3 := HRX.out.c0
        refine bodyPost_ret (v := .tuple #[.agg #[.slice none 0 0], .int .i64 0, .bool false]) (by simp [results, Tryz.results9, go_sem, z3]) rfl ?_
        exact ⟨HBX.out, .inr ⟨HNO.out, rfl⟩⟩
      have HV := Lib.hid (HYES.out heq)
      have hc : ((s.extract i X).toList == (str (batchT (es.map (·.x)))).toList) = true := by
        rw [beq_iff_eq, ByteArray.toList_eq, ByteArray.toList_eq, HEX.out]
        exact heq
      go_wp2_with fail
      refine wp_region_aft (by kernel_rfl) (by kernel_rfl) ?_
      repeat (first | go_big_quiet_step (first | (go_at_call 20; exact aft_of (HC.out _))))
      refine wpQuiet_nil ?_
      intro wq hwq
      clear HC
      have HBQ : Hid (Below w.heap.size w wq) := below_step HB.out HB.out.size hwq
      have HRBQ := Lib.hid (HRB.out.below hwq)
      have HQBQ := Lib.hid (HQB.out.below hwq)
      have HRQ := Lib.hid (HR.out.below hwq)
      clear hwq ge0 ne HB HRB HQB HR
      have z0 := HQBQ.out.c0
      have z1 := HRBQ.out.c0
      have z2 := HRBQ.out.fz
      have HBX : Hid (Below w.heap.size w (wq.setCell ⟨w.heap.size, 0, none⟩ (.slice a k cap))) := HBQ.out.setCell (p := ⟨w.heap.size, 0, none⟩) (Nat.le_refl _) _
      have HRX := Lib.hid (HRBQ.out.set (.slice a k cap))
      have HRW := Lib.hid ((HRQ.out.holeQ ((Hole.refl w.heap.size wq).set 0 (.slice a k cap)) (by omega)).mono (base' := w.heap.size) (by omega))
      go_wp2
      have z3 := HRX.out.c0
      refine bodyPost_ret (v := .tuple #[.agg #[.slice a k cap], .int .i64 (X : Int), .bool true]) (by simp [results, Tryz.results9, go_sem, z3]) rfl ?_
      subst hel
      exact ⟨HBX.out, .inl ⟨a, cap, es, by rw [HV.out.2], HV.out.1, HRW.out⟩⟩

end Go.Proofs.YtidpcjcnhklmpalGreatDoor

/- A row of writes that grows; the contract of the specification's l02Copies. -/
namespace Go.Proofs.YtidpcjcnhklmpalGreatDoor
open Go.ChangeShapes Go.WideShapes Go.ChangeAt Go.RowKit Go.Joins
attribute [local go_sem ↓] Go.wp_at_zero Go.wp_at_succ

/-- A write, the block of its dependencies, and their room. -/
structure En where
  x : Wr
  g : Nat
  cp : Nat

def ez : En := ⟨wz, 0, 0⟩

def wrVals (e : En) : List Value := [.int .i64 e.x.k, .int .i64 e.x.c, .int .i64 e.x.s, .int .i64 e.x.q, .int .i64 e.x.v, .bool e.x.de, .slice (some ⟨e.g, 0, none⟩) e.x.xs.length e.cp]

theorem vals_len : ∀ es : List En, (es.flatMap wrVals).length = es.length * 7
  | [] => rfl
  | e :: r => by
    rw [List.flatMap_cons, List.length_append, vals_len r]
    simp [wrVals]
    omega

theorem vals_at : ∀ (es : List En) (i c : Nat), i < es.length → c < 7 → (es.flatMap wrVals)[i * 7 + c]? = (wrVals (es.getD i ez))[c]?
  | [], i, c, hi, _ => by simp at hi
  | e :: r, 0, c, _, hc => by
    rw [List.flatMap_cons, List.getElem?_append_left (by simp [wrVals]; omega)]
    simp
  | e :: r, i + 1, c, hi, hc => by
    rw [List.flatMap_cons, List.getElem?_append_right (by simp [wrVals]; omega)]
    have := vals_at r i c (by simpa using hi) hc
    rw [show (i + 1) * 7 + c - (wrVals e).length = i * 7 + c by simp [wrVals]; omega, this]
    simp

theorem vals_one (es : List En) : ∀ u ∈ es.flatMap wrVals, u.oneCell' = true := by
  intro u hu
  obtain ⟨e, _, h⟩ := List.mem_flatMap.1 hu
  simp only [wrVals, List.mem_cons, List.not_mem_nil, or_false] at h
  rcases h with rfl | rfl | rfl | rfl | rfl | rfl | rfl <;> rfl

/-- A row of writes of one's own, from block number base on. -/
structure RowEs (w : World) (base g cap : Nat) (es : List En) : Prop where
  le : base ≤ g
  lt : g < w.heap.size
  own : w.ownsRow base 54 7 (.slice (some ⟨g, 0, none⟩) es.length cap) es.length (es.flatMap wrVals)
  deps : ∀ e ∈ es, base ≤ e.g ∧ e.g < w.heap.size ∧ e.g ≠ g ∧ HoldsDeps w e.g 0 e.x.xs

theorem RowEs.below {w w' : World} {base g cap : Nat} {es : List En} (h : RowEs w base g cap es) (hb : Below w.heap.size w w') : RowEs w' base g cap es where
  le := h.le
  lt := Nat.lt_of_lt_of_le h.lt hb.size
  own := h.own.kept (row := none) ⟨hb.os, hb.tape, hb.output, hb.size, fun k hk _ => hb.block k hk⟩ (.inr (by simp [Value.ownBlock]))
  deps := fun e he => ⟨(h.deps e he).1, Nat.lt_of_lt_of_le (h.deps e he).2.1 hb.size, (h.deps e he).2.2.1, (h.deps e he).2.2.2.below hb (h.deps e he).2.1⟩

theorem rowEs_start (w : World) (base : Nat) (hb : base ≤ w.heap.size) : RowEs (w.alloc (.cells #[] 54)) base w.heap.size 0 [] where
  le := hb
  lt := by simp
  own := World.ownsRow_made w #[] 0 hb (by simp [maxLen]) (by simp)
  deps := fun e he => by simp at he

def gamma (es : List En) (i : Nat) : Nat := (es.getD i ez).g

theorem RowEs.holds {w : World} {base g cap : Nat} {es : List En} (h : RowEs w base g cap es) {ws : List Wr} (hw : es.map (·.x) = ws) : HoldsWs w g ws (gamma es) := by
  subst hw
  refine ⟨h.lt, fun i hi => ?_⟩
  have hi' : i < es.length := by simpa using hi
  have hx : (es.map (·.x)).getD i wz = (es.getD i ez).x := by simp [List.getD, hi']
  have hm : es.getD i ez ∈ es := by simp [List.getD, hi']
  rw [hx]
  have c : ∀ c, c < 7 → w.cell? ⟨g, i * 7 + c, none⟩ = (wrVals (es.getD i ez))[c]? := fun c hc => by rw [h.own.cellAt _ (by omega), vals_at es i c hi' hc]
  exact ⟨⟨(es.getD i ez).cp, c 0 (by omega), c 1 (by omega), c 2 (by omega), c 3 (by omega), c 4 (by omega), c 5 (by omega), c 6 (by omega)⟩, (h.deps _ hm).2.1, (h.deps _ hm).2.2.2⟩

/-- One write more. -/
theorem RowEs.more {w w5 : World} {base g cap g5 cap5 : Nat} {es : List En} {e : En} (h : RowEs w base g cap es) (he : base ≤ e.g ∧ e.g < w.heap.size ∧ e.g ≠ g ∧ HoldsDeps w e.g 0 e.x.xs)
    (hown : w5.ownsRow base 54 7 (.slice (some ⟨g5, 0, none⟩) (es.length + 1) cap5) (es.length + 1) (es.flatMap wrVals ++ wrVals e)) (hgrow : w.grownBy w5 (some g)) (hg : some g = some g5 ∨ g5 = w.heap.size) : RowEs w5 base g5 cap5 (es ++ [e]) where
  le := (hown.lt g5 rfl).1
  lt := (hown.lt g5 rfl).2
  own := by
    rw [List.length_append, List.flatMap_append]
    simpa using hown
  deps := by
    have : ∀ d : En, (base ≤ d.g ∧ d.g < w.heap.size ∧ d.g ≠ g ∧ HoldsDeps w d.g 0 d.x.xs) → base ≤ d.g ∧ d.g < w5.heap.size ∧ d.g ≠ g5 ∧ HoldsDeps w5 d.g 0 d.x.xs := fun d ⟨h1, h2, h3, h4⟩ =>
      ⟨h1, Nat.lt_of_lt_of_le h2 hgrow.size, by
        rcases hg with hg | hg
        · injection hg with hg
          rw [← hg]
          exact h3
        · omega, fun i hi => by
        have e' : ∀ o, w5.cell? ⟨d.g, o, none⟩ = w.cell? ⟨d.g, o, none⟩ := fun o => World.cell?_of_block (a := ⟨d.g, o, none⟩) (hgrow.block d.g h2 (by simpa using h3))
        obtain ⟨a0, a1, a2, a3⟩ := h4 i hi
        exact ⟨(e' _).trans a0, (e' _).trans a1, (e' _).trans a2, (e' _).trans a3⟩⟩
    intro d hd
    rcases List.mem_append.1 hd with hd | hd
    · exact this d (h.deps d hd)
    · have hd : d = e := by simpa using hd
      subst hd
      exact this d he

theorem one_cells (w : World) (t : Nat) (e : En) : ∀ j u, (wrVals e)[j]? = some u → (w.alloc (.cells #[.int .i64 e.x.k, .int .i64 e.x.c, .int .i64 e.x.s, .int .i64 e.x.q, .int .i64 e.x.v, .bool e.x.de, .slice (some ⟨e.g, 0, none⟩) e.x.xs.length e.cp] t)).cell? ((⟨w.heap.size, 0, none⟩ : Addr).add j) = some u := by
  intro j u hu
  have e1 : (⟨w.heap.size, 0, none⟩ : Addr).add j = ⟨w.heap.size, j, none⟩ := by
    unfold Addr.add
    split
    · rename_i h
      rw [h]
    · simp
  rw [e1, cell_of_row _ _ j _ t (0, 0) (heap_alloc_new w _), ← hu]
  simp [wrVals]

end Go.Proofs.YtidpcjcnhklmpalGreatDoor

/- Plain facts on the order of writes: no Go in sight. -/
namespace Go.Proofs.YtidpcjcnhklmpalGreatDoor

def dcmp (d e : Dp) : Int := if d.k ≠ e.k then sgn d.k e.k else tcmp d.c d.s d.q e.c e.s e.q

def depsCmp : List Dp → List Dp → Int
  | [], [] => 0
  | [], _ :: _ => -1
  | _ :: _, [] => 1
  | d :: r, e :: t => if dcmp d e ≠ 0 then dcmp d e else depsCmp r t

def bit (b : Bool) : Int := if b then 1 else 0

def wcmp (k c s q v : Int) (de : Bool) (xs : List Dp) (k' c' s' q' v' : Int) (de' : Bool) (ys : List Dp) : Int :=
  if tcmp c s q c' s' q' ≠ 0 then tcmp c s q c' s' q' else if k ≠ k' then sgn k k' else if v ≠ v' then sgn v v' else if de ≠ de' then sgn (bit de) (bit de') else depsCmp xs ys

theorem dcmp_or (d e : Dp) : orI [sgn d.k e.k, tcmp d.c d.s d.q e.c e.s e.q] = dcmp d e := by
  unfold dcmp
  by_cases h : d.k = e.k
  · have hs : sgn e.k e.k = 0 := sgn_self _
    simp only [orI, h]
    by_cases ht : tcmp d.c d.s d.q e.c e.s e.q = 0
    · simp [ht, hs]
    · simp [ht, hs]
  · have hs : sgn d.k e.k ≠ 0 := fun e0 => h (sgn_zero.1 e0)
    simp [orI, hs, h]

theorem depsCmp_first : ∀ (xs ys : List Dp) (j : Nat), j < xs.length → j < ys.length → (∀ i, i < j → dcmp (xs.getD i dz) (ys.getD i dz) = 0) → dcmp (xs.getD j dz) (ys.getD j dz) ≠ 0 → depsCmp xs ys = dcmp (xs.getD j dz) (ys.getD j dz)
  | [], _, _, h, _, _, _ => by simp at h
  | _ :: _, [], _, _, h, _, _ => by simp at h
  | d :: r, e :: t, 0, _, _, _, hn => by
    have hn' : dcmp d e ≠ 0 := hn
    simp [depsCmp, hn']
  | d :: r, e :: t, j + 1, h1, h2, hz, hn => by
    have h0 : dcmp d e = 0 := hz 0 (by omega)
    have ih := depsCmp_first r t j (by simpa using h1) (by simpa using h2) (fun i hi => by simpa using hz (i + 1) (by omega)) (by simpa using hn)
    simp only [depsCmp, h0, ne_eq, not_true_eq_false, if_false]
    simpa using ih

theorem depsCmp_none : ∀ (xs ys : List Dp), (∀ i, i < xs.length → i < ys.length → dcmp (xs.getD i dz) (ys.getD i dz) = 0) → depsCmp xs ys = sgn xs.length ys.length
  | [], [], _ => by simp [depsCmp, sgn]
  | [], e :: t, _ => by
    simp only [depsCmp, sgn, List.length_nil, List.length_cons]
    rw [if_pos (by omega)]
  | d :: r, [], _ => by
    simp only [depsCmp, sgn, List.length_nil, List.length_cons]
    rw [if_neg (by omega), if_pos (by omega)]
  | d :: r, e :: t, h => by
    have h0 : dcmp d e = 0 := h 0 (by simp) (by simp)
    have ih := depsCmp_none r t (fun i h1 h2 => by simpa using h (i + 1) (by simpa using h1) (by simpa using h2))
    simp only [depsCmp, h0, ne_eq, not_true_eq_false, if_false, ih, List.length_cons]
    unfold sgn
    by_cases h1 : (r.length : Int) < t.length
    · rw [if_pos h1, if_pos (by omega)]
    · rw [if_neg h1]
      by_cases h2 : (t.length : Int) < r.length
      · rw [if_pos h2, if_neg (by omega), if_pos (by omega)]
      · rw [if_neg h2, if_neg (by omega), if_neg (by omega)]

theorem bit_sgn {a b : Bool} : sgn (bit a) (bit b) = 0 ↔ a = b := by
  rw [sgn_zero]
  cases a <;> cases b <;> simp [bit]

theorem wcmp_or (k c s q v : Int) (de : Bool) (xs : List Dp) (k' c' s' q' v' : Int) (de' : Bool) (ys : List Dp) :
    orI [tcmp c s q c' s' q', sgn k k', sgn v v', sgn (bit de) (bit de'), depsCmp xs ys] = wcmp k c s q v de xs k' c' s' q' v' de' ys := by
  simp only [orI, wcmp, ne_eq, sgn_zero (a := k), sgn_zero (a := v), bit_sgn]
  by_cases h : depsCmp xs ys = 0
  · simp [h]
  · simp [h]

theorem wcmp_tag {k c s q v : Int} {de : Bool} {xs : List Dp} {k' c' s' q' v' : Int} {de' : Bool} {ys : List Dp} (h : ¬ (c = c' ∧ s = s' ∧ q = q')) : wcmp k c s q v de xs k' c' s' q' v' de' ys = tcmp c s q c' s' q' := by
  unfold wcmp
  rw [if_pos]
  intro e
  exact h (tcmp_zero.1 e)

theorem wcmp_key {k c s q v : Int} {de : Bool} {xs : List Dp} {k' v' : Int} {de' : Bool} {ys : List Dp} (h : k ≠ k') : wcmp k c s q v de xs k' c s q v' de' ys = sgn k k' := by
  unfold wcmp
  rw [tcmp_self, if_neg (by simp), if_pos h]

theorem wcmp_val {k c s q v : Int} {de : Bool} {xs : List Dp} {v' : Int} {de' : Bool} {ys : List Dp} (h : v ≠ v') : wcmp k c s q v de xs k c s q v' de' ys = sgn v v' := by
  unfold wcmp
  rw [tcmp_self, if_neg (by simp), if_neg (by simp), if_pos h]

theorem wcmp_dead {k c s q v : Int} {de : Bool} {xs : List Dp} {de' : Bool} {ys : List Dp} (h : de ≠ de') : wcmp k c s q v de xs k c s q v de' ys = sgn (bit de) (bit de') := by
  unfold wcmp
  rw [tcmp_self, if_neg (by simp), if_neg (by simp), if_neg (by simp), if_pos h]

theorem wcmp_deps {k c s q v : Int} {de : Bool} {xs ys : List Dp} : wcmp k c s q v de xs k c s q v de ys = depsCmp xs ys := by
  unfold wcmp
  rw [tcmp_self, if_neg (by simp), if_neg (by simp), if_neg (by simp), if_neg (by simp)]

end Go.Proofs.YtidpcjcnhklmpalGreatDoor

/- Contracts of impl.flagNum, spec.l01Bit, impl.depCmp, slices.CompareFunc over dependencies. -/
namespace Go.Proofs.YtidpcjcnhklmpalGreatDoor
open Go.ChangeShapes Go.WideShapes Go.ChangeAt Go.RowKit Go.Joins
attribute [local go_sem ↓] Go.wp_at_zero Go.wp_at_succ

theorem flagNum_any (b : Bool) (w : World) :
    Calls Tryz.prog 68 #[.bool b] w fun e w' => e = .returned (.int .i64 (bit b)) ∧ w' = w := by
  cases b
  · go_enter Tryz.func68, Tryz.ntmps68
    go_wp2
    go_ret
    exact ⟨rfl, rfl⟩
  · go_enter Tryz.func68, Tryz.ntmps68
    go_wp2
    go_ret
    exact ⟨rfl, rfl⟩

theorem bit_any (b : Bool) (w : World) :
    Calls Tryz.prog 42 #[.bool b] w fun e w' => e = .returned (.int .i64 (bit b)) ∧ w' = w := by
  cases b
  · go_enter Tryz.func42, Tryz.ntmps42
    go_wp2
    go_ret
    exact ⟨rfl, rfl⟩
  · go_enter Tryz.func42, Tryz.ntmps42
    go_wp2
    go_ret
    exact ⟨rfl, rfl⟩

theorem two_cells (W : World) (x y : Int) (t b : Nat) (hb : W.heap.size = b) : ∀ i, i < [x, y].length → (W.alloc (Obj.cells #[.int .i64 x, .int .i64 y] t)).cell? ⟨b, i, none⟩ = some (.int .i64 ([x, y].getD i 0)) := by
  subst hb
  intro i hi
  match i, hi with
  | 0, _ => simp [go_sem]
  | 1, _ => simp [go_sem]

theorem alloc_held {W : World} {b o : Nat} {v : Value} (X : Obj) (h : W.cell? ⟨b, o, none⟩ = some v) (hz : b < W.heap.size) : (W.alloc X).cell? ⟨b, o, none⟩ = some v :=
  held_cell ((Below.refl _ _).alloc (Nat.le_refl _) X) h hz

theorem alloc_lt {W : World} {b : Nat} (X : Obj) (h : b < W.heap.size) : b < (W.alloc X).heap.size := by simp; omega

theorem alloc_below {w W : World} (X : Obj) (h : Below w.heap.size w W) : Below w.heap.size w (W.alloc X) := h.alloc h.size X

end Go.Proofs.YtidpcjcnhklmpalGreatDoor

/- The contract of impl.WriteCmp. -/
namespace Go.Proofs.YtidpcjcnhklmpalGreatDoor
open Go.ChangeShapes Go.WideShapes Go.ChangeAt Go.RowKit Go.Joins
attribute [local go_sem ↓] Go.wp_at_zero Go.wp_at_succ

theorem five_cells (W : World) (x y z u v : Int) (t b : Nat) (hb : W.heap.size = b) : ∀ i, i < [x, y, z, u, v].length → (W.alloc (Obj.cells #[.int .i64 x, .int .i64 y, .int .i64 z, .int .i64 u, .int .i64 v] t)).cell? ⟨b, i, none⟩ = some (.int .i64 ([x, y, z, u, v].getD i 0)) := by
  subst hb
  intro i hi
  match i, hi with
  | 0, _ => simp [go_sem]
  | 1, _ => simp [go_sem]
  | 2, _ => simp [go_sem]
  | 3, _ => simp [go_sem]
  | 4, _ => simp [go_sem]

/-- Two boxes of writes behind what was there. -/
abbrev TwoIn (w : World) (k c s q v : Int) (de : Bool) (a : Option Addr) (len cap : Nat) (k' c' s' q' v' : Int) (de' : Bool) (a' : Option Addr) (len' cap' : Nat) (W : World) : Prop :=
  W.cell? ⟨w.heap.size, 0, none⟩ = some (.int .i64 k) ∧ W.cell? ⟨w.heap.size, 1, none⟩ = some (.int .i64 c) ∧ W.cell? ⟨w.heap.size, 2, none⟩ = some (.int .i64 s) ∧ W.cell? ⟨w.heap.size, 3, none⟩ = some (.int .i64 q) ∧ W.cell? ⟨w.heap.size, 4, none⟩ = some (.int .i64 v) ∧ W.cell? ⟨w.heap.size, 5, none⟩ = some (.bool de) ∧ W.cell? ⟨w.heap.size, 6, none⟩ = some (.slice a len cap) ∧ W.cell? ⟨w.heap.size + 1, 0, none⟩ = some (.int .i64 k') ∧ W.cell? ⟨w.heap.size + 1, 1, none⟩ = some (.int .i64 c') ∧ W.cell? ⟨w.heap.size + 1, 2, none⟩ = some (.int .i64 s') ∧ W.cell? ⟨w.heap.size + 1, 3, none⟩ = some (.int .i64 q') ∧ W.cell? ⟨w.heap.size + 1, 4, none⟩ = some (.int .i64 v') ∧ W.cell? ⟨w.heap.size + 1, 5, none⟩ = some (.bool de') ∧ W.cell? ⟨w.heap.size + 1, 6, none⟩ = some (.slice a' len' cap') ∧ w.heap.size + 1 < W.heap.size ∧ Below w.heap.size w W

theorem two_step {w W w1 : World} {k c s q v : Int} {de : Bool} {a : Option Addr} {len cap : Nat} {k' c' s' q' v' : Int} {de' : Bool} {a' : Option Addr} {len' cap' : Nat} (h : TwoIn w k c s q v de a len cap k' c' s' q' v' de' a' len' cap' W) (hb : Below W.heap.size W w1) : TwoIn w k c s q v de a len cap k' c' s' q' v' de' a' len' cap' w1 := by
  obtain ⟨e0, e1, e2, e3, e4, e5, e6, f0, f1, f2, f3, f4, f5, f6, hz, hB⟩ := h
  have hz' : w.heap.size < W.heap.size := by omega
  exact ⟨held_cell hb e0 hz', held_cell hb e1 hz', held_cell hb e2 hz', held_cell hb e3 hz', held_cell hb e4 hz', held_cell hb e5 hz', held_cell hb e6 hz', held_cell hb f0 hz, held_cell hb f1 hz, held_cell hb f2 hz, held_cell hb f3 hz, held_cell hb f4 hz, held_cell hb f5 hz, held_cell hb f6 hz, Nat.lt_of_lt_of_le hz hb.size, below_step hB hB.size hb⟩

theorem two_alloc {w W : World} {k c s q v : Int} {de : Bool} {a : Option Addr} {len cap : Nat} {k' c' s' q' v' : Int} {de' : Bool} {a' : Option Addr} {len' cap' : Nat} (X : Obj) (h : TwoIn w k c s q v de a len cap k' c' s' q' v' de' a' len' cap' W) : TwoIn w k c s q v de a len cap k' c' s' q' v' de' a' len' cap' (W.alloc X) :=
  two_step h ((Below.refl _ _).alloc (Nat.le_refl _) X)

theorem two_start (w : World) (k c s q v : Int) (de : Bool) (a : Option Addr) (len cap : Nat) (k' c' s' q' v' : Int) (de' : Bool) (a' : Option Addr) (len' cap' : Nat) (t t' : Nat) : TwoIn w k c s q v de a len cap k' c' s' q' v' de' a' len' cap' ((w.alloc (.cells #[.int .i64 k, .int .i64 c, .int .i64 s, .int .i64 q, .int .i64 v, .bool de, .slice a len cap] t)).alloc (.cells #[.int .i64 k', .int .i64 c', .int .i64 s', .int .i64 q', .int .i64 v', .bool de', .slice a' len' cap'] t')) := by
  refine ⟨?_, ?_, ?_, ?_, ?_, ?_, ?_, ?_, ?_, ?_, ?_, ?_, ?_, ?_, ?_, ?_⟩ <;> first | (simp [go_sem]; done) | (simp; omega) | exact ((Below.refl _ _).alloc (Nat.le_refl _) _).alloc (by simp) _

theorem two_drew {w W : World} {k c s q v : Int} {de : Bool} {a : Option Addr} {len cap : Nat} {k' c' s' q' v' : Int} {de' : Bool} {a' : Option Addr} {len' cap' : Nat} (h : TwoIn w k c s q v de a len cap k' c' s' q' v' de' a' len' cap' W) : TwoIn w k c s q v de a len cap k' c' s' q' v' de' a' len' cap' W.drew :=
  two_step h (Below.refl _ _).drew

end Go.Proofs.YtidpcjcnhklmpalGreatDoor

/- The contract of spec.WriteCmp. -/
namespace Go.Proofs.YtidpcjcnhklmpalGreatDoor
open Go.ChangeShapes Go.WideShapes Go.ChangeAt Go.RowKit Go.Joins

end Go.Proofs.YtidpcjcnhklmpalGreatDoor

/- The contract of the specification's l02Put. -/
namespace Go.Proofs.YtidpcjcnhklmpalGreatDoor
open Go.ChangeShapes Go.WideShapes Go.ChangeAt Go.RowKit Go.Joins
attribute [local go_sem ↓] Go.wp_at_zero Go.wp_at_succ

abbrev cmpW (x y : Wr) : Int := wcmp x.k x.c x.s x.q x.v x.de x.xs y.k y.c y.s y.q y.v y.de y.xs

def putStep (x : Wr) (st : List Wr × Bool) (y : Wr) : List Wr × Bool :=
  if y.k = x.k then (if cmpW y x < 0 then (st.1 ++ [x], true) else (st.1 ++ [y], true))
  else if x.k < y.k ∧ st.2 = false then (st.1 ++ [x] ++ [y], true) else (st.1 ++ [y], st.2)

def putTo (ws : List Wr) (x : Wr) : List Wr × Bool := ws.foldl (putStep x) ([], false)

def putW (ws : List Wr) (x : Wr) : List Wr := if (putTo ws x).2 then (putTo ws x).1 else (putTo ws x).1 ++ [x]

theorem putTo_next (ws : List Wr) (x : Wr) (k : Nat) (h : k < ws.length) : putTo (ws.take (k + 1)) x = putStep x (putTo (ws.take k) x) (ws.getD k wz) := by
  have e : ws.take (k + 1) = ws.take k ++ [ws.getD k wz] := by
    rw [List.take_add_one, List.getElem?_eq_getElem h]
    simp [List.getD, h]
  unfold putTo
  rw [e, List.foldl_append]
  rfl

theorem putTo_len (ws : List Wr) (x : Wr) : (putTo ws x).1.length ≤ 2 * ws.length := by
  have : ∀ (l : List Wr) (st : List Wr × Bool), (l.foldl (putStep x) st).1.length ≤ st.1.length + 2 * l.length := by
    intro l
    induction l with
    | nil => intro st; simp
    | cons y r ih =>
      intro st
      have h := ih (putStep x st y)
      have h1 : (putStep x st y).1.length ≤ st.1.length + 2 := by
        unfold putStep
        split
        · split <;> simp
        · split <;> simp
      simp only [List.foldl_cons, List.length_cons]
      omega
  have := this ws ([], false)
  simpa [putTo] using this

abbrev cells7 (x : Wr) (g cp : Nat) : Array Value := #[.int .i64 x.k, .int .i64 x.c, .int .i64 x.s, .int .i64 x.q, .int .i64 x.v, .bool x.de, .slice (some ⟨g, 0, none⟩) x.xs.length cp]

theorem grow_own {w2 : World} {base g cp L : Nat} {es : List En} (h : RowEs w2 base g cp es) (hL : es.length = L) (o : Obj) : (w2.alloc o).ownsRow base 54 7 (.slice (some ⟨g, 0, none⟩) L cp) L (es.flatMap wrVals) := by
  have := (h.below ((Below.refl w2.heap.size w2).alloc (Nat.le_refl _) o)).own
  rw [hL] at this
  exact this

/-- One write more, in a row behind a box. -/
theorem grow_one {w w2 w5 : World} {k c s q v : Int} {de : Bool} {a : Option Addr} {len cap : Nat} {g cp g3 cp3 L : Nat} {es : List En} {x : Wr} {g2 cp2 : Nat} (hL : es.length = L) (hX : BoxIn w w2 k c s q v de a len cap) (hR : RowEs w2 (w.heap.size + 1) g cp es)
    (hG : HoldsDeps w2 g2 0 x.xs) (hg2 : g2 < w2.heap.size) (hg5 : g2 ≠ g) (hg6 : w.heap.size + 1 ≤ g2)
    (hown : w5.ownsRow (w.heap.size + 1) 54 7 (.slice (some ⟨g3, 0, none⟩) (L + 1) cp3) (L + 1) (es.flatMap wrVals ++ wrVals ⟨x, g2, cp2⟩)) (hgrow : (w2.alloc (.cells (cells7 x g2 cp2) 54)).grownBy w5 (some g)) (hg3 : some g = some g3 ∨ g3 = (w2.alloc (.cells (cells7 x g2 cp2) 54)).heap.size) :
    BoxIn w w5 k c s q v de a len cap ∧ RowEs w5 (w.heap.size + 1) g3 cp3 (es ++ [⟨x, g2, cp2⟩]) := by
  have hA : Below w2.heap.size w2 (w2.alloc (.cells (cells7 x g2 cp2) 54)) := (Below.refl _ _).alloc (Nat.le_refl _) _
  have hXA := hX.step hA
  have hle := hR.le
  refine ⟨hXA.other hgrow.size (hXA.below.grown hgrow hXA.below.size fun j hj => by injection hj with hj; omega) (hgrow.block _ hXA.lt (by simp; omega)), ?_⟩
  refine (hR.below hA).more ⟨hg6, by simp; omega, hg5, hG.below hA hg2⟩ (by rw [hL]; exact hown) hgrow hg3

theorem step_same_lt {x y : Wr} {es : List En} {st : List Wr × Bool} {put : Bool} {g cp : Nat} (hs : (es.map (·.x), put) = st) (h1 : y.k = x.k) (h2 : cmpW y x < 0) : ((es ++ [(⟨x, g, cp⟩ : En)]).map (·.x), true) = putStep x st y := by
  subst hs
  simp [putStep, h1, h2]

theorem step_same_ge {x y : Wr} {es : List En} {st : List Wr × Bool} {put : Bool} {g cp : Nat} (hs : (es.map (·.x), put) = st) (h1 : y.k = x.k) (h2 : ¬ cmpW y x < 0) : ((es ++ [(⟨y, g, cp⟩ : En)]).map (·.x), true) = putStep x st y := by
  subst hs
  simp [putStep, h1, h2]

theorem step_ahead {x y : Wr} {es : List En} {st : List Wr × Bool} {g cp g' cp' : Nat} (hs : (es.map (·.x), false) = st) (h1 : ¬ y.k = x.k) (h2 : x.k < y.k) : ((es ++ [(⟨x, g, cp⟩ : En)] ++ [(⟨y, g', cp'⟩ : En)]).map (·.x), true) = putStep x st y := by
  subst hs
  simp [putStep, h1, h2]

theorem step_else {x y : Wr} {es : List En} {st : List Wr × Bool} {put : Bool} {g cp : Nat} (hs : (es.map (·.x), put) = st) (h1 : ¬ y.k = x.k) (h2 : ¬ (x.k < y.k ∧ put = false)) : ((es ++ [(⟨y, g, cp⟩ : En)]).map (·.x), put) = putStep x st y := by
  subst hs
  simp only [putStep, h1, if_false]
  rw [if_neg h2]
  simp

end Go.Proofs.YtidpcjcnhklmpalGreatDoor

/- What a put keeps: lengths, members. -/
namespace Go.Proofs.YtidpcjcnhklmpalGreatDoor
open Go.ChangeShapes Go.WideShapes Go.ChangeAt Go.RowKit Go.Joins

theorem few_iff {ws : List Wr} : Few ws ↔ ∀ x ∈ ws, x.xs.length ≤ 1048576 := by
  constructor
  · intro h x hx
    obtain ⟨i, hi, rfl⟩ := List.mem_iff_getElem.1 hx
    have := h i hi
    simpa [List.getD, hi] using this
  · intro h i hi
    exact h _ (by simp [List.getD, hi])

theorem fold_mem (x : Wr) : ∀ (ws : List Wr) (st : List Wr × Bool), ∀ z ∈ (ws.foldl (putStep x) st).1, z ∈ st.1 ∨ z = x ∨ z ∈ ws
  | [], st, z, h => .inl h
  | y :: r, st, z, h => by
    rcases fold_mem x r (putStep x st y) z h with h1 | h1 | h1
    · unfold putStep at h1
      split at h1
      · split at h1
        · rcases List.mem_append.1 h1 with h2 | h2
          · exact .inl h2
          · exact .inr (.inl (by simpa using h2))
        · rcases List.mem_append.1 h1 with h2 | h2
          · exact .inl h2
          · exact .inr (.inr (by simp at h2; simp [h2]))
      · split at h1
        · rcases List.mem_append.1 h1 with h2 | h2
          · rcases List.mem_append.1 h2 with h3 | h3
            · exact .inl h3
            · exact .inr (.inl (by simpa using h3))
          · exact .inr (.inr (by simp at h2; simp [h2]))
        · rcases List.mem_append.1 h1 with h2 | h2
          · exact .inl h2
          · exact .inr (.inr (by simp at h2; simp [h2]))
    · exact .inr (.inl h1)
    · exact .inr (.inr (by simp [h1]))

theorem put_mem (ws : List Wr) (x : Wr) : ∀ z ∈ putW ws x, z = x ∨ z ∈ ws := by
  intro z hz
  have h := fold_mem x ws ([], false) z
  unfold putW at hz
  split at hz
  · rcases h hz with h1 | h1
    · simp at h1
    · exact h1
  · rcases List.mem_append.1 hz with h1 | h1
    · rcases h h1 with h2 | h2
      · simp at h2
      · exact h2
    · exact .inl (by simpa using h1)

def pend (b : Bool) : Nat := match b with | true => 0 | false => 1

theorem fold_len (x : Wr) : ∀ (ws : List Wr) (st : List Wr × Bool), (ws.foldl (putStep x) st).1.length + pend (ws.foldl (putStep x) st).2 ≤ st.1.length + pend st.2 + ws.length
  | [], st => Nat.le_refl _
  | y :: r, st => by
    have h := fold_len x r (putStep x st y)
    have h1 : (putStep x st y).1.length + pend (putStep x st y).2 ≤ st.1.length + pend st.2 + 1 := by
      unfold putStep
      split
      · split
        · simp [pend]
        · simp [pend]
      · split
        · rename_i h2
          simp [h2.2, pend]
        · simp
          omega
    simp only [List.foldl_cons, List.length_cons]
    omega

theorem put_len (ws : List Wr) (x : Wr) : (putW ws x).length ≤ ws.length + 1 := by
  have h := fold_len x ws ([], false)
  have e : putTo ws x = ws.foldl (putStep x) ([], false) := rfl
  rw [← e] at h
  unfold putW
  cases h1 : (putTo ws x).2
  · rw [h1] at h
    simp [pend] at h ⊢
    omega
  · rw [h1] at h
    simp [pend] at h ⊢
    omega

theorem put_few {ws : List Wr} {x : Wr} (h : Few ws) (hx : x.xs.length ≤ 1048576) : Few (putW ws x) := by
  rw [few_iff] at *
  intro z hz
  rcases put_mem ws x z hz with h1 | h1
  · rw [h1]; exact hx
  · exact h z h1

theorem RowEs.mono {w : World} {base base' g cap : Nat} {es : List En} (h : RowEs w base g cap es) (hb : base' ≤ base) : RowEs w base' g cap es where
  le := Nat.le_trans hb h.le
  lt := h.lt
  own := by
    refine ⟨h.own.1, ?_⟩
    rcases h.own.2 with h1 | ⟨g, cap, cur, h1, h2, h3⟩
    · exact .inl h1
    · exact .inr ⟨g, cap, cur, h1, Nat.le_trans hb h2, h3⟩
  deps := fun e he => ⟨Nat.le_trans hb (h.deps e he).1, (h.deps e he).2⟩

theorem RowEs.setBelow {w : World} {base g cap : Nat} {es : List En} (h : RowEs w base g cap es) {X : Nat} (hX : X < base) (o : Nat) (u : Value) : RowEs (w.setCell ⟨X, o, none⟩ u) base g cap es where
  le := h.le
  lt := by simpa [World.setCell] using h.lt
  own := ownsRow_setCell_below (a := ⟨X, o, none⟩) h.own hX u
  deps := fun e he => by
    obtain ⟨h1, h2, h3, h4⟩ := h.deps e he
    have hne : ∀ o', (⟨X, o, none⟩ : Addr) ≠ ⟨e.g, o', none⟩ := fun o' hh => by
      injection hh with hb
      omega
    refine ⟨h1, by simpa [World.setCell] using h2, h3, fun i hi => ?_⟩
    obtain ⟨a0, a1, a2, a3⟩ := h4 i hi
    exact ⟨(World.cell?_setCell_other _ _ _ _ (hne _)).trans a0, (World.cell?_setCell_other _ _ _ _ (hne _)).trans a1, (World.cell?_setCell_other _ _ _ _ (hne _)).trans a2, (World.cell?_setCell_other _ _ _ _ (hne _)).trans a3⟩

end Go.Proofs.YtidpcjcnhklmpalGreatDoor
