/- Contracts of LeafSum of both sides. -/
import Derived.Test.YtlbcpppmpbbkdalDoorIMap2
import Derived.Test.YtlbcpppmpbbkdalDoorMapAt
import Derived.Test.YtlbcpppmpbbkdalDoorITextN
import Derived.Test.YtlbcpppmpbbkdalDoorHash
import Derived.Test.YtlbcpppmpbbkdalDoorRParse2
namespace Go.Proofs.YtlbcpppmpbbkdalDoor
open Go.ChangeShapes Go.WideShapes Go.ChangeAt Go.RowKit Go.Joins
attribute [local go_sem ↓] Go.wp_at_zero Go.wp_at_succ

def wrText (x : Wr) : List UInt8 := writeText x.k x.c x.s x.q x.v x.de x.xs

/-- The sum of what a map has of a key. -/
def leafB (ws : List Wr) (key : Int) : Int := match findW ws key with | some x => hashL (wrText x) | none => 0

set_option maxRecDepth 100000 in
theorem leafB_bd (ws : List Wr) (key : Int) : 0 ≤ leafB ws key ∧ leafB ws key < 65521 := by
  unfold leafB
  split
  · exact hashL_bd _
  · omega

set_option maxRecDepth 100000 in
theorem flat_len (f : Dp → List UInt8) (m : Nat) : ∀ (ds : List Dp), (∀ d ∈ ds, (f d).length ≤ m) → (ds.flatMap f).length ≤ m * ds.length
  | [], _ => by simp
  | d :: r, h => by
    have h1 := h d (by simp)
    have h2 := flat_len f m r fun x hx => h x (List.mem_cons_of_mem _ hx)
    rw [List.flatMap_cons, List.length_append, List.length_cons, Nat.mul_add, Nat.mul_one]
    omega

set_option maxRecDepth 100000 in
theorem numsText_le (ns : List Int) (h : Ints64 ns) : (numsText ns).length ≤ 22 * ns.length := by
  have := nums_len ns h ns.length (Nat.le_refl _)
  rwa [List.take_length] at this

set_option maxRecDepth 100000 in
theorem writeText_le (k c s q v : Int) (de : Bool) (xs : List Dp) : (writeText k c s q v de xs).length ≤ 700 := by
  unfold writeText
  split
  · rename_i h
    obtain ⟨o1, o2, o3, o4, -⟩ := ok_parts h
    have h6 := depR_len o4
    have n1 := numsText_le _ (ints_key o1)
    have n2 := numsText_le _ (ints_tag o2)
    have n3 := numsText_le _ (ints_rest (n := xs.length) o3 (by omega))
    have n4 : (xs.flatMap depText).length ≤ 88 * xs.length := flat_len depText 88 xs fun d hd => by
      obtain ⟨i, hi, rfl⟩ := List.getElem_of_mem hd
      have e : xs.getD i dz = xs[i] := by simp [List.getD, hi]
      have m1 := numsText_le _ (ints_key (dep_key o4 hi))
      have m2 := numsText_le _ (ints_tag (depsOk_tag o4 hi))
      rw [e] at m1 m2
      unfold depText
      rw [List.length_append]
      simp only [List.length_cons, List.length_nil] at m1 m2
      omega
    unfold headText
    simp only [List.length_append, List.length_cons, List.length_nil] at n1 n2 n3 ⊢
    omega
  · simp

set_option maxRecDepth 100000 in
theorem deps0_below {w w' : World} {a : Option Addr} {xs : List Dp} (h : Deps0 w a xs) (hb : Below w.heap.size w w') : Deps0 w' a xs := by
  rcases h with h | ⟨g, h1, h2, h3⟩
  · exact .inl h
  · exact .inr ⟨g, h1, Nat.lt_of_lt_of_le h2 hb.size, h3.below hb h2⟩

set_option maxRecDepth 100000 in
theorem str_bytes (bs : List UInt8) : (str bs).data.toList = bs := rfl

set_option maxRecDepth 100000 in
set_option maxHeartbeats 1000000 in
theorem specLeaf_any (a : Option Addr) (n cap : Nat) (key : Int) (ws : List Wr) (w : World) (hn : ws.length = n) (hm : n ≤ 1048576) (hx : Few ws) (hh : IsWs w a ws) :
    Calls Tryd.prog 19 #[.slice a n cap, .int .i64 key] w fun e w' => e = .returned (.int .i64 (leafB ws key)) ∧ Below w.heap.size w w' := by
  have HH : Hid (IsWs w a ws) := hh
  have HX : Hid (Few ws) := hx
  have HN : Hid (ws.length = n) := hn
  clear hh hx hn
  go_enter Tryd.func19, Tryd.ntmps19
  go_wp2_with fail
  refine (specMapAt_gen a n cap key ws _ HN.out hm HX.out HH.out).mono ?_
  rintro e w1 ⟨v, rfl, hv, hb⟩
  have HB : Hid (Below w.heap.size w w1) := hb
  clear hb
  rcases hv with ⟨i, g, cp, h1, rfl, hg1, hg2, hg3⟩ | ⟨h1, rfl⟩
  · have HF := Lib.hid (find_first h1)
    have hxl := HX.out i h1.1
    have HD : Hid (Deps0 w1 (some ⟨g, 0, none⟩) (ws.getD i wz).xs) := .inr ⟨g, rfl, hg2, hg3⟩
    have HE : Hid (leafB ws key = hashL (wrText (ws.getD i wz))) := by simp [leafB, HF.out, Hid]
    clear h1 hg3 HF
    generalize ws.getD i wz = x at *
    obtain ⟨xk, xc, xs', xq, xv, xd, xx⟩ := x
    have HBA : Hid (Below w1.heap.size w1 (w1.alloc (.cells #[.int .i64 xk, .int .i64 xc, .int .i64 xs', .int .i64 xq, .int .i64 xv, .bool xd, .slice (some ⟨g, 0, none⟩) xx.length cp] 48))) := (Below.refl _ _).alloc (Nat.le_refl _) _
    go_wp2_with fail
    refine (specText_gen xk xc xs' xq xv xd _ xx _ cp _ rfl hxl (deps0_below HD.out HBA.out)).mono ?_
    rintro e w2 ⟨rfl, hb2⟩
    have HB2 : Hid (Below w.heap.size w w2) := below_step (below_step HB.out HB.out.size HBA.out) (Nat.le_trans HB.out.size HBA.out.size) hb2
    clear hb2
    go_wp2_with fail
    refine (specHash_any _ _ (by rw [str_size]; have := writeText_le xk xc xs' xq xv xd xx; omega)).mono ?_
    rintro e w3 ⟨rfl, rfl⟩
    rw [str_bytes]
    have HE2 : Hid (leafB ws key = hashL (writeText xk xc xs' xq xv xd xx)) := HE
    generalize hashL (writeText xk xc xs' xq xv xd xx) = z at *
    go_wp2
    go_ret
    exact ⟨by rw [HE2.out]; rfl, HB2.out⟩
  · have HE : Hid (leafB ws key = 0) := by simp [leafB, find_none h1, Hid]
    clear h1
    go_wp2
    go_ret
    exact ⟨by rw [HE.out]; rfl, HB.out.alloc HB.out.size _⟩

set_option maxRecDepth 100000 in
set_option maxHeartbeats 1000000 in
theorem implLeaf_any (a : Option Addr) (n cap : Nat) (key : Int) (ws : List Wr) (w : World) (hn : ws.length = n) (hm : n ≤ 1048576) (hx : Few ws) (hh : IsWs w a ws) (ht : Tab w) :
    Calls Tryd.prog 41 #[.slice a n cap, .int .i64 key] w fun e w' => e = .returned (.int .i64 (leafB ws key)) ∧ Below w.heap.size w w' := by
  have hlt : 0 < w.heap.size := ht.lt
  have HT : Hid (Tab w) := ht
  have HH : Hid (IsWs w a ws) := hh
  have HX : Hid (Few ws) := hx
  have HN : Hid (ws.length = n) := hn
  clear hh hx hn ht
  go_enter Tryd.func41, Tryd.ntmps41
  go_wp2_with fail
  refine (implMapAt_any a n cap key ws _ HN.out hm HX.out HH.out).mono ?_
  rintro e w1 ⟨v, rfl, hv, hb⟩
  have HB : Hid (Below w.heap.size w w1) := hb
  clear hb
  rcases hv with ⟨i, ad, g, cp, h1, rfl, hg⟩ | ⟨h1, rfl⟩
  · have HF := Lib.hid (find_first h1)
    have hxl := HX.out i h1.1
    have HD : Hid (Deps0 w1 ad (ws.getD i wz).xs) := by
      by_cases hp : 0 < (ws.getD i wz).xs.length
      · obtain ⟨q1, q2, q3, q4, -⟩ := hg hp
        exact .inr ⟨g, q1, q3, q4⟩
      · exact .inl (List.length_eq_zero_iff.1 (by omega))
    have HE : Hid (leafB ws key = hashL (wrText (ws.getD i wz))) := by simp [leafB, HF.out, Hid]
    clear h1 hg HF
    generalize ws.getD i wz = x at *
    obtain ⟨xk, xc, xs', xq, xv, xd, xx⟩ := x
    have HBA : Hid (Below w1.heap.size w1 (w1.alloc (.cells #[.int .i64 xk, .int .i64 xc, .int .i64 xs', .int .i64 xq, .int .i64 xv, .bool xd, .slice ad xx.length cp] 48))) := (Below.refl _ _).alloc (Nat.le_refl _) _
    have HBW := Lib.hid (below_step HB.out HB.out.size HBA.out)
    go_wp2_with fail
    refine (implText_gen xk xc xs' xq xv xd _ xx _ cp _ rfl hxl (deps0_below HD.out HBA.out) (HT.out.below HBW.out hlt)).mono ?_
    rintro e w2 ⟨rfl, hb2⟩
    have HB2 : Hid (Below w.heap.size w w2) := below_step HBW.out HBW.out.size hb2
    clear hb2
    go_wp2_with fail
    refine (implHash_any _ _ (by rw [str_size]; have := writeText_le xk xc xs' xq xv xd xx; omega)).mono ?_
    rintro e w3 ⟨rfl, rfl⟩
    rw [str_bytes]
    have HE2 : Hid (leafB ws key = hashL (writeText xk xc xs' xq xv xd xx)) := HE
    generalize hashL (writeText xk xc xs' xq xv xd xx) = z at *
    go_wp2
    go_ret
    exact ⟨by rw [HE2.out]; rfl, HB2.out⟩
  · have HE : Hid (leafB ws key = 0) := by simp [leafB, find_none h1, Hid]
    clear h1
    go_wp2
    go_ret
    exact ⟨by rw [HE.out]; rfl, HB.out.alloc HB.out.size _⟩

end Go.Proofs.YtlbcpppmpbbkdalDoor
