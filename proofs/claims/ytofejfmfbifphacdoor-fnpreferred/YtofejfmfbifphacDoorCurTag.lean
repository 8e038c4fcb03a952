/- The contracts of l01Open and of the cursor's tag. -/
import Derived.Test.YtofejfmfbifphacDoorCur
namespace Go.Proofs.YtofejfmfbifphacDoor
open Go.ChangeShapes Go.WideShapes Go.ChangeAt Go.RowKit Go.Joins

/-- What a code that came in is: bytes in a block that was there. -/
def Bytes (w : World) (a : Option Addr) (len : Nat) : Prop :=
  len = 0 ∨ ∃ b o, a = some ⟨b, o, none⟩ ∧ b < w.heap.size ∧ ∀ i, i < len → ∃ z : Int, 0 ≤ z ∧ z ≤ 255 ∧ w.cell? ⟨b, o + i, none⟩ = some (.int .u8 z)

theorem Bytes.below {w w' : World} {a : Option Addr} {len : Nat} (h : Bytes w a len) (hb : Below w.heap.size w w') : Bytes w' a len := by
  rcases h with h | ⟨b, o, ha, hlt, hz⟩
  · exact .inl h
  · refine .inr ⟨b, o, ha, Nat.lt_of_lt_of_le hlt hb.size, fun i hi => ?_⟩
    obtain ⟨z, z0, z1, hc⟩ := hz i hi
    exact ⟨z, z0, z1, held_cell hb hc hlt⟩

theorem cur_start {w : World} {a : Option Addr} {len cap : Nat} (sd : Int) (t : Nat) (h : Bytes w a len) (hl : len ≤ 1048576) (s0 : 0 ≤ sd) (s1 : sd ≤ 65520) :
    Cur (w.alloc (.cells #[.slice a len cap, .int .i64 0, .int .i64 sd] t)) w.heap.size a len cap 0 := by
  refine ⟨0, sd, ⟨by simp, by simp [go_sem], by simp [go_sem], by simp [go_sem], fun o => by simp [go_sem], by omega, s0, s1⟩, by omega, ?_, hl⟩
  rcases h with h | ⟨b, o, ha, hlt, hz⟩
  · exact .inl h
  · refine .inr ⟨b, o, ha, hlt, fun i hi => ?_⟩
    obtain ⟨z, z0, z1, hc⟩ := hz i hi
    exact ⟨z, z0, z1, held_cell ((Below.refl _ _).alloc (Nat.le_refl _) _) hc hlt⟩

set_option maxHeartbeats 400000 in
theorem open_any (a : Option Addr) (len cap : Nat) (w : World) (h : Bytes w a len) (hl : len ≤ 1048576) :
    Calls Tryd.prog 13 #[.slice a len cap] w fun e w' => e = .returned (.pointer (some ⟨w.heap.size, 0, none⟩)) ∧ Cur w' w.heap.size a len cap 0 ∧ Below w.heap.size w w' := by
  have HB : Hid (Bytes w a len) := h
  clear h
  go_enter Tryd.func13, Tryd.ntmps13
  go_wp2
  go_ret
  exact ⟨rfl, cur_start _ _ HB.out hl (by omega) (by omega), (Below.refl _ _).alloc (Nat.le_refl _) _⟩

theorem TagBox.set0 {w : World} {b : Nat} {c s q : Int} (h : TagBox w b c s q) (x : Int) : TagBox (w.setCell ⟨b, 0, none⟩ (.int .i64 x)) b x s q :=
  ⟨by simpa [World.setCell] using h.lt, cell_set_same h.c0, cell_set_off h.c1 (by omega), cell_set_off h.c2 (by omega), fun o => by rw [World.frozen?_setCell]; exact h.fz o⟩

theorem TagBox.set1 {w : World} {b : Nat} {c s q : Int} (h : TagBox w b c s q) (x : Int) : TagBox (w.setCell ⟨b, 1, none⟩ (.int .i64 x)) b c x q :=
  ⟨by simpa [World.setCell] using h.lt, cell_set_off h.c0 (by omega), cell_set_same h.c1, cell_set_off h.c2 (by omega), fun o => by rw [World.frozen?_setCell]; exact h.fz o⟩

theorem TagBox.set2 {w : World} {b : Nat} {c s q : Int} (h : TagBox w b c s q) (x : Int) : TagBox (w.setCell ⟨b, 2, none⟩ (.int .i64 x)) b c s x :=
  ⟨by simpa [World.setCell] using h.lt, cell_set_off h.c0 (by omega), cell_set_off h.c1 (by omega), cell_set_same h.c2, fun o => by rw [World.frozen?_setCell]; exact h.fz o⟩

/-- How a tag's drawing ends, out of any world in which both boxes stand. -/
theorem tag_end {B R : Nat} {a : Option Addr} {len cap : Nat} {N : Int} {w w' : World} {c s q : Int} (hR : w.heap.size ≤ R) (hB : B < w.heap.size) (hc : Cur w' B a len cap N) (hh : Hole B w w') :
    Cur (((w'.setCell ⟨R, 0, none⟩ (.int .i64 c)).setCell ⟨R, 1, none⟩ (.int .i64 s)).setCell ⟨R, 2, none⟩ (.int .i64 q)) B a len cap N ∧ Hole B w (((w'.setCell ⟨R, 0, none⟩ (.int .i64 c)).setCell ⟨R, 1, none⟩ (.int .i64 s)).setCell ⟨R, 2, none⟩ (.int .i64 q)) :=
  ⟨((hc.setOther (by omega) 0 _).setOther (by omega) 1 _).setOther (by omega) 2 _, ((hh.setNew hR 0 _).setNew hR 1 _).setNew hR 2 _⟩

end Go.Proofs.YtofejfmfbifphacDoor
