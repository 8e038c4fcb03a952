/- The contract of the cursor's size. -/
import Derived.Test.YtfapebnilbdheabCurWrite
import Derived.Lib.Hide
namespace Go.Proofs.Ytfapebnilbdheab
open Go.ChangeShapes Go.WideShapes Go.ChangeAt Go.RowKit Go.Joins

set_option maxHeartbeats 1000000 in
theorem size_any (B : Nat) (a : Option Addr) (len cap : Nat) (N n : Int) (w : World) (hN : N ≤ 1000000) (hn : 1 ≤ n) (hn' : n ≤ 1000) (h : Cur w B a len cap N) :
    Calls Try.prog 60 #[.pointer (some ⟨B, 0, none⟩), .int .i64 n] w fun e w' => ∃ r : Int, e = .returned (.int .i64 r) ∧ 0 ≤ r ∧ r ≤ n ∧ Cur w' B a len cap (N + 1) ∧ Hole B w w' := by
  have HC : Hid (Cur w B a len cap N) := h
  obtain ⟨at_, seed, hc, _, _, hl⟩ := h
  have c0 := hc.c0
  clear hc
  go_enter Try.func60, Try.ntmps60
  by_cases hb : n < 1 + ((len / 8 : Nat) : Int)
  · go_wp2_with fail
    refine (pick_any B a len cap N (n + 1) _ hN (by omega) (by omega) HC.out).mono ?_
    rintro e w1 ⟨r, rfl, r0, r1, hc1, hh1⟩
    have HC1 := Lib.hid hc1
    have HH1 := Lib.hid hh1
    clear hc1 hh1
    go_wp2
    go_ret
    exact ⟨r, rfl, r0, by omega, HC1.out, HH1.out⟩
  · go_wp2_with fail
    refine (pick_any B a len cap N _ _ hN (by omega) (by omega) HC.out).mono ?_
    rintro e w1 ⟨r, rfl, r0, r1, hc1, hh1⟩
    have HC1 := Lib.hid hc1
    have HH1 := Lib.hid hh1
    clear hc1 hh1
    go_wp2
    go_ret
    exact ⟨r, rfl, r0, by omega, HC1.out, HH1.out⟩

end Go.Proofs.Ytfapebnilbdheab
