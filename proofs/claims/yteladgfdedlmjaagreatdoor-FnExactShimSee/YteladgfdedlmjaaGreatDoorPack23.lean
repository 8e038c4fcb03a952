import Derived.Test.YteladgfdedlmjaaGreatDoorPack20
import Derived.Test.YteladgfdedlmjaaGreatDoorPack19
import Derived.Test.YteladgfdedlmjaaGreatDoorPack22
import Derived.Test.YteladgfdedlmjaaGreatDoorPack4
import Derived.Test.YteladgfdedlmjaaGreatDoorPack2
namespace Go.Proofs.YteladgfdedlmjaaGreatDoor
open Go.ChangeShapes Go.WideShapes Go.ChangeAt Go.RowKit Go.Joins
set_option maxRecDepth 100000
attribute [local go_sem ↓] Go.wp_at_zero Go.wp_at_succ
def RK (bK : Nat) (u : Tmp) : ReachU := fun d w w' => (d = some u ∧ (∃ es c, w.heap[bK]? = some (.map es c)) ∧ Hole bK w w') ∨ (d ≠ some u ∧ Below w.heap.size w w')
theorem rk_below {bK : Nat} {u : Tmp} {d : Option Tmp} {w w' : World} (hd : d ≠ some u) (h : Below w.heap.size w w') : RK bK u d w w' := .inr ⟨hd, h⟩
theorem rk_step {bK : Nat} {u : Tmp} {d : Option Tmp} {w0 w w' : World} (h : Hole bK w0 w) (hr : RK bK u d w w') : Hole bK w0 w' := by
 rcases hr with ⟨-, -, hh⟩ | ⟨-, hb⟩
 ·exact h.trans hh
 ·exact h.trans ⟨hb.os, hb.tape, hb.output, hb.size, fun k hk _ => hb.block k hk⟩
theorem lastsK {bK : Nat} {u : Tmp} {d : Option Tmp} {U : Tmp → Option Tmp} {T : Fact} (h : lasts (fun w w' => Below w.heap.size w w') T) (ht : lasts (Turn 0) T) : lastsU U (RK bK u) d T := by
 intro d' _ _ v w w' hv hr
 rcases hr with ⟨-, hm, hh⟩ | ⟨-, hb⟩
 ·exact ht v w w' hv ⟨bK, Nat.zero_le _, hm, hh⟩
 ·exact h v w w' hv hb
theorem regs_keep {bK n : Nat} {M : Int → Option Wr} {u v : Tmp} : ∀ d d' : Option Tmp, d ≠ d' → ¬ (d = some (u, v).1 ∧ d' = some (u, v).2) → ∀ w w' : World, ((d' = some v ∨ d' = some u) → RegsX w w bK n M) → RK bK u d w w' → ((d' = some v ∨ d' = some u) → RegsX w' w' bK n M) := by
 intro d d' h1 h2 w w' h3 hr h4
 rcases hr with ⟨h5, -⟩ | ⟨-, hb⟩
 ·exfalso
  rcases h4 with h4 | h4
  ·exact h2 ⟨h5, h4⟩
  ·exact h1 (h5.trans h4.symm)
 ·exact (h3 h4).later hb (hb.block bK (h3 h4).lt)
def RowF (base : Nat) (m : List Wr) : Fact := fun v w => ∃ a cp L es, v = .slice a L cp ∧ es.length = L ∧ es.map (·.x) = m ∧ RowG w base v es
theorem lasts_row (base : Nat) (m : List Wr) : lasts (fun w w' => Below w.heap.size w w') (RowF base m) := by
 rintro v w w' ⟨a, cp, L, es, h1, h2, h3, h4⟩ hr
 exact ⟨a, cp, L, es, h1, h2, h3, h4.below hr⟩
theorem turn_row (B base : Nat) (m : List Wr) : lasts (Turn B) (RowF base m) := by
 rintro v w w' ⟨a, cp, L, es, h1, h2, h3, h4⟩ hr
 exact ⟨a, cp, L, es, h1, h2, h3, h4.turn hr⟩
theorem rowG_ws0 {w : World} {base : Nat} {a : Option Addr} {L cp : Nat} {es : List EnG} (h : RowG w base (.slice a L cp) es) {ws : List Wr} (hw : es.map (·.x) = ws) : IsWs0 w a ws := by
 subst hw
 rcases h.own.2 with ⟨h1, h2⟩ | ⟨g, cap, cur, h1, h2, h3, _⟩
 ·exact .inl (by rw [List.length_eq_zero_iff.1 h2]; rfl)
 ·injection h1 with h1 h1b h1c
  subst h1
  subst h1b
  subst h1c
  refine .inr ⟨g, 0, rfl, (Array.getElem?_eq_some_iff.1 h3).1, fun i hi => ?_⟩
  have hi' : i < es.length := by simpa using hi
  have hm : es.getD i ezG ∈ es := by simp [List.getD, hi']
  have hx : (es.map (·.x)).getD i wz = (es.getD i ezG).x := by simp [List.getD, hi']
  rw [hx, Nat.zero_add]
  have c : ∀ c, c < 7 → w.cell? ⟨g, i * 7 + c, none⟩ = (wrValsG (es.getD i ezG))[c]? := fun c hc => by rw [h.own.cellAt _ (by omega), valsG_at es i c hi' hc]
  refine ⟨(es.getD i ezG).a, (es.getD i ezG).cp, ⟨c 0 (by omega), c 1 (by omega), c 2 (by omega), c 3 (by omega), c 4 (by omega), c 5 (by omega), c 6 (by omega)⟩, ?_⟩
  by_cases hp : 0 < (es.getD i ezG).x.xs.length
  ·obtain ⟨h4, h5, h6, h7, _⟩ := (h.deps _ hm).1 hp
   exact .inr ⟨_, h4, h6, h7⟩
  ·exact .inl (List.length_eq_zero_iff.1 (by omega))
def SeeAnsI (w : World) (A : Sm × Int) (e : Ending) (w' : World) : Prop := ∃ a' cp' γ, e = .returned (.tuple #[smV A.1 a' cp', .int .i64 A.2]) ∧ OwnA w' w.heap.size w'.heap.size a' A.1.ws γ ∧ Below w.heap.size w w'
theorem nothing_seeI {w w' : World} {A : Sm × Int} {c : Int} (h : A = (smz, c)) (hb : Below w.heap.size w w') : SeeAnsI w A (.returned (.tuple #[smV smz none 0, .int .i64 c])) w' := by
 subst h
 exact ⟨none, 0, fun _ => 0, rfl, .inl rfl, hb⟩
def SeenBox (W : World) (bK base : Nat) (si cl sq la : Int) (t : ByteArray) (m : List Wr) (v : Value) (w : World) : Prop := ∃ b a' n' cp' es, v = .pointer (some ⟨b, 0, none⟩) ∧ base ≤ b ∧ SBox w b si cl sq la a' n' cp' t ∧ es.length = n' ∧ es.map (·.x) = m ∧ RowG w base (.slice a' n' cp') es ∧ ((Value.slice a' n' cp').ownBlock ≠ some b ∧ ∀ e ∈ es, 0 < e.x.xs.length → e.g ≠ b) ∧ Hole bK W w
set_option maxHeartbeats 32000000 in
theorem implSee_x (x : Sm) (a : Option Addr) (cap : Nat) (b : Option Addr) (m capm : Nat) (vs : List Wr) (w : World) (hs : x.ws.length + m ≤ 1048576) (hx : Few x.ws) (ht : x.t.size ≤ 1048576) (h : IsWs w a x.ws) (hm : vs.length = m) (hy : Few vs) (hj : IsWs w b vs) (hL : LV w) :
  Calls Tryz.prog 22 #[smV x a cap, .slice b m capm] w fun e w' => SeeAnsI w (seeAns x vs) e w' := by
 obtain ⟨A, hA⟩ : ∃ A, A = seeAns x vs := ⟨_, rfl⟩
 rw [← hA]
 obtain ⟨ok, hok⟩ : ∃ ok, ok = smOkB x := ⟨_, rfl⟩
 obtain ⟨al, hal⟩ : ∃ al, al = vs.all okW := ⟨_, rfl⟩
 have HRI : Hid (ok = true → RightS x) := fun h1 => right_of (by rw [← hok]; exact h1)
 have HRB : Hid (ok = true → al = true → rightB x.ws vs = true) := fun h1 h2 => by
  unfold rightB
  rw [(HRI.out h1).1, ← hal, h2]
  rfl
 have HA : Hid (A = if (al && ok) = true then seeGo x vs else (smz, 1)) := by
  rw [hA]
  unfold seeAns
  rw [← hok]
  cases ok with
  | false => simp [Hid]
  | true =>
   have h1 := (HRI.out rfl).1
   cases al with
   | true => rw [HRB.out rfl rfl]; exact Lib.hid rfl
   | false =>
    have : rightB x.ws vs = false := by unfold rightB; rw [← hal, Bool.and_false]
    rw [this]
    exact Lib.hid rfl
 have HAL : Hid (∀ W b capm, IsWs W b vs → Calls Tryz.prog 76 #[.slice b m capm] W fun e w' => e = .returned (.bool al) ∧ Below W.heap.size W w') := fun W b capm h1 => by rw [hal]; exact allOk_any b m capm vs W hm (by omega) hy h1
 have HSP : Hid (∀ W a cap, LV W → IsWs W a x.ws → Calls Tryz.prog 15 #[smV x a cap] W fun e w' => e = .returned (.bool ok) ∧ Below W.heap.size W w') := fun W a cap hl hw => by rw [hok]; exact implOk_x x a cap W (by omega) hx ht hw hl
 have HKO : Hid (mapOkB x.ws = true → ∀ W a cap, IsWs W a x.ws → Calls Tryz.prog 51 #[smV x a cap] W fun e w' => ∃ b, e = .returned (kpV x.si x.cl x.sq x.la a x.ws.length cap x.t b) ∧ W.heap.size ≤ b ∧ RegsW W w' b x.ws.length (findW x.ws) ∧ Below W.heap.size W w') := fun hm W a cap hw => keeperOf_any x a cap W hm hw
 obtain ⟨ms, hms⟩ : ∃ ms, ms = widL x.ws vs := ⟨_, rfl⟩
 obtain ⟨fr, hfr⟩ : ∃ fr, fr = ms.filter (lackB (findW x.ws)) := ⟨_, rfl⟩
 have HGO : Hid (seeGo x vs = if (x.t ++ str (batchT fr)).size ≤ 60000 then (⟨x.si, max x.cl (clockL ms), x.sq, x.la, ms, x.t ++ str (batchT fr)⟩, 0) else (smz, 2)) := by rw [hfr, hms]; exact Lib.hid rfl
 have HTO : Hid (ok = true → al = true → toldM (fr.foldl regPut (findW x.ws)) = ms) := fun h1 h2 => by rw [hfr, hms]; exact see_told (HRB.out h1 h2)
 have HWI : Hid (∀ W a cap b capm, IsWs W a x.ws → IsWs W b vs → Calls Tryz.prog 78 #[.slice a x.ws.length cap, .slice b m capm] W fun e w' => ∃ v es, e = .returned v ∧ es.map (·.x) = ms ∧ RowG w' W.heap.size v es ∧ Below W.heap.size W w') := fun W a cap b capm h1 h2 => by
  rw [hms]
  exact implWidest_any a b _ m cap capm x.ws vs W rfl hm hs hx hy h1 h2
 have hmok : mapOkB ms = true := by rw [hms]; exact wid_ok _ _
 have HMOK := Lib.hid hmok
 have HMF := Lib.hid (ok_few hmok)
 have hm6 := mapOk_len hmok
 have HFR := Lib.hid hfr
 have hfl : fr.length ≤ 6 := by rw [hfr]; exact Nat.le_trans (List.length_filter_le _ _) hm6
 have HFO : Hid (∀ z ∈ fr, okW z = true) := fun z hz => by
  rw [HFR.out] at hz
  exact ((mapOk_iff _).1 hmok).1 z (List.mem_filter.1 hz).1
 have HFG : Hid (∀ i, i < fr.length → okW (fr.getD i wz) = true) := fun i hi => HFO.out _ (by simp [List.getD, hi])
 have HW := Lib.hid h
 have HJ := Lib.hid hj
 have HL := Lib.hid hL
 clear hA hok hal hms hfr hmok h hj hL hx ht hy
 rw [HGO.out] at HA
 clear HGO
 obtain ⟨si, cl, sq, la, ws, t⟩ := x
 unfold smV at HSP HKO ⊢
 simp only at hs HW HSP HKO HRI HRB HA HTO HWI HFR ⊢
 obtain ⟨n, hnn⟩ : ∃ n, ws.length = n := ⟨_, rfl⟩
 rw [hnn] at hs HSP HKO HWI ⊢
 have HN := Lib.hid hnn
 clear hnn
 unfold shV at HSP HKO ⊢
 have HB1 : Below w.heap.size w (w.alloc (.cells #[.int .i64 si, .int .i64 cl, .int .i64 sq, .int .i64 la, .slice a n cap, .string t] 26)) := (Below.refl _ _).alloc (Nat.le_refl _) _
 have hz1 : (w.alloc (.cells #[.int .i64 si, .int .i64 cl, .int .i64 sq, .int .i64 la, .slice a n cap, .string t] 26)).heap.size = w.heap.size + 1 := by simp
 have hS1 := SBox.start w si cl sq la a n cap t 26
 obtain ⟨W1, hW1⟩ : ∃ W1, w.alloc (.cells #[.int .i64 si, .int .i64 cl, .int .i64 sq, .int .i64 la, .slice a n cap, .string t] 26) = W1 := ⟨_, rfl⟩
 rw [hW1] at HB1 hz1 hS1
 have hA1 : Below W1.heap.size W1 (W1.alloc (.cells #[.int .i64 0, .int .i64 0, .int .i64 0, .int .i64 0, .slice none 0 0, .string ⟨#[]⟩] 26)) := (Below.refl _ _).alloc (Nat.le_refl _) _
 have HB2 : Below w.heap.size w (W1.alloc (.cells #[.int .i64 0, .int .i64 0, .int .i64 0, .int .i64 0, .slice none 0 0, .string ⟨#[]⟩] 26)) := HB1.alloc (by omega) _
 have hz2 : (W1.alloc (.cells #[.int .i64 0, .int .i64 0, .int .i64 0, .int .i64 0, .slice none 0 0, .string ⟨#[]⟩] 26)).heap.size = w.heap.size + 1 + 1 := by simp [hz1]
 have hR2 : SBox (W1.alloc (.cells #[.int .i64 0, .int .i64 0, .int .i64 0, .int .i64 0, .slice none 0 0, .string ⟨#[]⟩] 26)) (w.heap.size + 1) 0 0 0 0 none 0 0 ⟨#[]⟩ := by have := SBox.start W1 0 0 0 0 none 0 0 ⟨#[]⟩ 26; rw [hz1] at this; exact this
 have hS2 := hS1.below hA1
 obtain ⟨W2, hW2⟩ : ∃ W2, W1.alloc (.cells #[.int .i64 0, .int .i64 0, .int .i64 0, .int .i64 0, .slice none 0 0, .string ⟨#[]⟩] 26) = W2 := ⟨_, rfl⟩
 rw [hW2] at HB2 hz2 hR2 hS2
 have HB := Lib.hid HB2
 have HS := Lib.hid hS2
 have HRS := Lib.hid hR2
 have hzl : w.heap.size + 1 < W2.heap.size := by omega
 obtain ⟨-, x0, x1, x2, x3, x4, x5, -⟩ := hS2
 clear hA1 HB1 HB2 hS1 hR2
 go_enter Tryz.func22, Tryz.ntmps22
 go_wp2_with fail
 clear hW1 hW2 hz1 hz2
 refine (HAL.out _ b capm (HJ.out.below HB.out)).mono ?_
 rintro e w3 ⟨rfl, hb⟩
 have HB3 := Lib.hid hb
 clear hb x0 x1 x2 x3 x4 x5
 cases al
 ·have HE : Hid (A = (smz, 1)) := by rw [HA.out]; exact Lib.hid (by simp)
  have hRS := HRS.out.below HB3.out
  have h8s := HB3.out.size
  have hP1 := sbox_putS hRS 0 0 0 0 none 0 0 ⟨#[]⟩
  have hH1 := hole_putS (Hole.refl (w.heap.size + 1) w3) 0 0 0 0 none 0 0 ⟨#[]⟩
  obtain ⟨-, z0, z1, z2, z3, z4, z5, zf⟩ := hRS
  obtain ⟨V1, hV1⟩ : ∃ V1, putS w3 (w.heap.size + 1) 0 0 0 0 none 0 0 ⟨#[]⟩ = V1 := ⟨_, rfl⟩
  rw [hV1] at hP1 hH1
  have HBE : Hid (Below w.heap.size w V1) := Hole.below (HB.out.trans (HB3.out.mono (by omega))) hH1 (by omega) (by omega)
  unfold putS at hV1
  obtain ⟨-, o0, o1, o2, o3, o4, o5, -⟩ := hP1
  clear hH1
  go_wp2_with fail
  exact bodyPost_ret (v := .tuple #[smV smz none 0, .int .i64 1]) (by simp [results, Tryz.results22, smV, smz, shV, go_sem, o0, o1, o2, o3, o4, o5]) rfl (nothing_seeI HE.out HBE.out)
 obtain ⟨-, x0, x1, x2, x3, x4, x5, -⟩ := HS.out.below HB3.out
 go_wp2_with fail
 clear x0 x1 x2 x3 x4 x5
 have hB3 := HB.out.trans (HB3.out.mono (by omega))
 refine (HSP.out _ a cap (HL.out.below hB3) (HW.out.below hB3)).mono ?_
 rintro e w4 ⟨rfl, hb⟩
 have HB4 := Lib.hid (below_step HB3.out HB3.out.size hb)
 clear hb hB3
 cases ok
 ·have HE : Hid (A = (smz, 1)) := by rw [HA.out]; exact Lib.hid (by simp)
  have hRS := HRS.out.below HB4.out
  have h8s := HB4.out.size
  have hP1 := sbox_putS hRS 0 0 0 0 none 0 0 ⟨#[]⟩
  have hH1 := hole_putS (Hole.refl (w.heap.size + 1) w4) 0 0 0 0 none 0 0 ⟨#[]⟩
  obtain ⟨-, z0, z1, z2, z3, z4, z5, zf⟩ := hRS
  obtain ⟨V1, hV1⟩ : ∃ V1, putS w4 (w.heap.size + 1) 0 0 0 0 none 0 0 ⟨#[]⟩ = V1 := ⟨_, rfl⟩
  rw [hV1] at hP1 hH1
  have HBE : Hid (Below w.heap.size w V1) := Hole.below (HB.out.trans (HB4.out.mono (by omega))) hH1 (by omega) (by omega)
  unfold putS at hV1
  obtain ⟨-, o0, o1, o2, o3, o4, o5, -⟩ := hP1
  clear hH1
  go_wp2_with fail
  exact bodyPost_ret (v := .tuple #[smV smz none 0, .int .i64 1]) (by simp [results, Tryz.results22, smV, smz, shV, go_sem, o0, o1, o2, o3, o4, o5]) rfl (nothing_seeI HE.out HBE.out)
 obtain ⟨hmap, hsi, hcl, hsq, hla, hts⟩ := HRI.out (by trivial)
 simp only at hmap hsi hcl hsq hla hts
 have hto := HTO.out (by trivial) (by trivial)
 have HTD := Lib.hid hto
 have HFW := Lib.hid (ok_few hmap)
 have hn6 := mapOk_len hmap
 rw [HN.out] at hn6
 have HAA : Hid (A = if (t ++ str (batchT fr)).size ≤ 60000 then (⟨si, max cl (clockL ms), sq, la, ms, t ++ str (batchT fr)⟩, 0) else (smz, 2)) := by rw [HA.out]; exact Lib.hid (by simp)
 clear HA HTO HRB HRI hto HAL HSP
 obtain ⟨-, x0, x1, x2, x3, x4, x5, -⟩ := HS.out.below HB4.out
 go_wp2_with fail
 clear x0 x1 x2 x3 x4 x5
 have hB4 := HB.out.trans (HB4.out.mono (by omega))
 refine (HKO.out hmap _ a cap (HW.out.below hB4)).mono ?_
 rintro e w5 ⟨bK, rfl, hbK, hreg, hb⟩
 have HB5 := Lib.hid (below_step HB4.out HB4.out.size hb)
 have h4s := HB4.out.size
 have h5s := hb.size
 have hRG5 := hreg.away hb hbK
 have hbK5 := hRG5.lt
 unfold kpV
 have hA6 : Below w5.heap.size w5 (w5.alloc (.cells #[.int .i64 si, .int .i64 cl, .int .i64 sq, .int .i64 la, .slice a n cap, .string t, .map (some bK)] 80)) := (Below.refl _ _).alloc (Nat.le_refl _) _
 have hK6 := KBox.start w5 si cl sq la a n cap t (some bK) 80
 have hz6 : (w5.alloc (.cells #[.int .i64 si, .int .i64 cl, .int .i64 sq, .int .i64 la, .slice a n cap, .string t, .map (some bK)] 80)).heap.size = w5.heap.size + 1 := by simp
 obtain ⟨W6, hW6⟩ : ∃ W6, w5.alloc (.cells #[.int .i64 si, .int .i64 cl, .int .i64 sq, .int .i64 la, .slice a n cap, .string t, .map (some bK)] 80) = W6 := ⟨_, rfl⟩
 rw [hW6] at hA6 hK6 hz6
 have HB6 := Lib.hid (below_step HB5.out HB5.out.size hA6)
 have HK6 := Lib.hid hK6
 have HRG := Lib.hid (hRG5.later hA6 (hA6.block bK hbK5))
 have hB6 := HB.out.trans (HB6.out.mono (by omega))
 have HBW := Lib.hid hB6
 have HW6 := Lib.hid (HW.out.below hB6)
 have HJ6 := Lib.hid (HJ.out.below hB6)
 have HL6 := Lib.hid (HL.out.below hB6)
 have hz5 : w5.heap.size < W6.heap.size := by omega
 clear hB4 hb hreg hRG5 hA6 hK6 hB6 hmap HKO HB5 hz6
 obtain ⟨T, hT⟩ : ∃ T, T = str (batchT fr) := ⟨_, rfl⟩
 rw [← hT] at HAA
 have hTs : T.size ≤ 2500 := by
  rw [hT]
  have := batchT_sz fr
  simpa [str, ByteArray.size] using this
 have HKE : Hid (∀ W al L cpl, IsWs0 W al fr → fr.length = L → RegsX W W bK n (findW ws) → LV W → Calls Tryz.prog 52 #[kpV si cl sq la a n cap t bK, .slice al L cpl] W fun e w' => ((60000 < (t ++ T).size ∧ e = .returned (.tuple #[shV 0 0 0 0 none 0 0 ⟨#[]⟩, .bool false])) ∨ ((t ++ T).size ≤ 60000 ∧ ∃ a' n' cp' es, e = .returned (.tuple #[shV si cl sq la a' n' cp' (t ++ T), .bool true]) ∧ es.length = n' ∧ es.map (·.x) = ms ∧ RowG w' W.heap.size (.slice a' n' cp') es)) ∧ Hole bK W w') := fun W al L cpl hw hl hr hv => by
  rw [hT, ← HTD.out]
  exact kept_any si cl sq la a n cap t bK n (findW ws) al L cpl fr W hl (by omega) (by omega) hts (fun i hi => by have := okW_len (HFG.out i hi); omega) (fun i hi => okW_key (HFG.out i hi)) (ws0_away hw hr.isMap) hw hr hv
 clear hT
 have HLK : Hid (∀ W, RegsX W W bK n (findW ws) → ∀ x ∈ ms, ∀ ad cp, IsDeps W ad x.xs → Calls Tryz.prog 79 #[kpV si cl sq la a n cap t bK, wrOf x ad cp] W fun e w' => e = .returned (.bool (lackB (findW ws) x)) ∧ Below W.heap.size W w') := fun W hr x hx ad cp hd => by
  have hox := ((mapOk_iff _).1 HMOK.out).1 x hx
  exact lacks_any si cl sq la a n cap t bK n (findW ws) x ad cp W (by have := okW_len hox; omega) (okW_key hox) hd hr
 have HCH : Hid (∀ W a1 L cp1, IsWs W a1 ms → ms.length = L → RegsX W W bK n (findW ws) → Calls Tryz.prog 77 #[.slice a1 L cp1, .func (.func 79) #[kpV si cl sq la a n cap t bK] #[]] W fun e w' => ∃ v es, e = .returned v ∧ es.map (·.x) = fr ∧ RowG w' W.heap.size v es ∧ Below W.heap.size W w') := fun W a1 L cp1 hw hl hr => by
  rw [HFR.out]
  exact chosen_any 79 (kpV si cl sq la a n cap t bK) (lackB (findW ws)) a1 L cp1 ms W hl (by omega) HMF.out hw (call_enter Tryz.func79 (by kernel_rfl) (by kernel_rfl)) (fun W' hb x hx ad cp hd => HLK.out W' (hr.later hb (hb.block bK hr.lt)) x hx ad cp hd)
 have HSX : Hid (∀ w', Hole bK W6 w' → KBox w' w5.heap.size si cl sq la a n cap t (some bK) ∧ IsWs w' a ws ∧ IsWs w' b vs ∧ LV w') := fun w' hh => by
  have hb : Below w.heap.size w w' := Hole.below HBW.out hh (by omega) HBW.out.size
  exact ⟨HK6.out.of_block hh.size (hh.block _ HK6.out.sh.lt (by omega)), HW.out.below hb, HJ.out.below hb, HL.out.below hb⟩
 have HE0 : Hid (∀ d : Option Tmp, (d = some 29 ∨ d = some 30) → RegsX W6.drew W6.drew bK n (findW ws)) := fun _ _ => HRG.out.later (Below.refl _ _).drew rfl
 clear HLK
 unfold kpV at HKE HCH
 go_upto_region 4 with fail
 try rw [hW6]
 clear hW6
 by_cases hbig : (t ++ T).size ≤ 60000
 rotate_left
 ·have HE : Hid (A = (smz, 2)) := by rw [HAA.out, if_neg hbig]; exact Lib.hid rfl
  go_cut [7, 8] (fun s7 s8 wx => s8 = .bool false ∧ ∃ b7, s7 = .pointer (some ⟨b7, 0, none⟩) ∧ Below W2.heap.size W2 wx)
  case first =>
   refine wp_region_slots_v 14 12 (30, 29) [[(6, false)], [(6, false)], [(22, true)], [(23, true)], [(1, false)], [(24, true), (25, true)], [(6, false)], [(27, true)], [(26, true), (28, true)], [(21, true), (29, true)], [(30, true)], [(20, true)], [(20, true)], []] (fun w' => Hole bK W6 w') (fun w' => Hole bK W6 w') (fun _ w' => Hole bK W6 w') (fun d w' => (d = some 29 ∨ d = some 30) → RegsX w' w' bK n (findW ws)) (fun _ => none) (RK bK 30) (by kernel_rfl) (by kernel_rfl) (by rfl) ⟨rfl, rfl, rfl, Nat.le_refl _, fun _ _ _ => rfl⟩ (by kernel_rfl) HE0.out (fun _ h => by simp at h) (by kernel_rfl) regs_keep (fun _ _ _ _ _ _ h => by cases h) (fun _ _ _ _ h1 h2 => rk_step h1 h2) (fun _ _ _ h => h) (fun _ _ _ h => h) ?_
   iterate 5 (apply slotU_eq; · (intro ρ w' ⟨p1, p2, p3⟩ hS _ hn; obtain ⟨⟨⟨-, k0, k1, k2, k3, k4, k5, -⟩, k6⟩, -⟩ := HSX.out w' hS; simp at hn; go_simp; exact ⟨rk_below (by simp) (Below.refl _ _), rfl⟩))
   refine slotU_fact (RowF W6.heap.size ms) (lastsK (lasts_row _ _) (turn_row _ _ _)) ?_ ?_
   ·intro ρ w' ⟨p1, p2, p3⟩ hS _ hn
    obtain ⟨-, hw1, hw2, -⟩ := HSX.out w' hS
    have hsz := hS.size
    simp at hn
    go_simp
    exact got_call (HWI.out w' a cap b capm hw1 hw2) fun e w'' ⟨v, es, he, hm, hr, hb⟩ => by
     obtain ⟨a1, c1, rfl⟩ := hr.formK
     exact ⟨_, he, rk_below (by simp) hb, a1, c1, _, es, rfl, rfl, hm, hr.mono hsz⟩
   iterate 2 (apply slotU_eq; · (intro ρ w' ⟨p1, p2, p3⟩ hS _ hn; obtain ⟨⟨⟨-, k0, k1, k2, k3, k4, k5, -⟩, k6⟩, -⟩ := HSX.out w' hS; simp at hn; go_simp; exact ⟨rk_below (by simp) (Below.refl _ _), rfl⟩))
   refine slotU_fact (RowF W6.heap.size fr) (lastsK (lasts_row _ _) (turn_row _ _ _)) ?_ ?_
   ·intro ρ w' ⟨p1, p2, p3⟩ hS hEE hn
    have hsz := hS.size
    simp at hn
    obtain ⟨⟨a1, c1, L1, es1, f26, hl1, hm1, hr1⟩, f28⟩ := hn
    rw [f26] at hr1
    have hw1 : IsWs w' a1 ms := by
     obtain ⟨a2, c2, n2, e2, hn2, ho2⟩ := hr1.ownA hm1
     injection e2 with e2 e3 e4
     rw [e2]
     exact ho2.isWs HMF.out
    have HLL := Lib.hid (show ms.length = L1 by rw [← hm1, List.length_map]; exact hl1)
    clear hr1 hm1 hl1
    go_simp
    exact got_call (HCH.out w' a1 L1 c1 hw1 HLL.out (hEE (.inl rfl))) fun e w'' ⟨v, es, he, hm, hr, hb⟩ => by
     obtain ⟨a3, c3, rfl⟩ := hr.formK
     exact ⟨_, he, rk_below (by simp) hb, a3, c3, _, es, rfl, rfl, hm, hr.mono hsz⟩
   apply slotU_eq
   ·intro ρ w' ⟨p1, p2, p3⟩ hS hEE hn
    obtain ⟨-, -, -, hv⟩ := HSX.out w' hS
    simp at hn
    obtain ⟨f21, a1, c1, L1, es1, f29, hl1, hm1, hr1⟩ := hn
    rw [f29] at hr1
    have hw1 := rowG_ws0 hr1 hm1
    have HLL := Lib.hid (show fr.length = L1 by rw [← hm1, List.length_map]; exact hl1)
    clear hr1 hm1 hl1
    go_simp
    exact got_call (HKE.out w' a1 L1 c1 hw1 HLL.out (hEE (.inr rfl)) hv) fun e w'' ⟨hh, hH⟩ => by
     rcases hh with ⟨-, he⟩ | ⟨h2, -⟩
     ·exact ⟨_, he, .inl ⟨rfl, (hEE (.inr rfl)).isMap, hH⟩, rfl⟩
     ·exact absurd h2 hbig
   iterate 3 (apply slotU_eq; · (intro ρ w' ⟨p1, p2, p3⟩ hS _ hn; simp at hn; go_simp; exact ⟨rk_below (by simp) (Below.refl _ _), rfl⟩))
   refine slotU_fact (ShimF W6.heap.size) (lastsK (lasts_shim _) (shim_turn _ _)) ?_ ?_
   ·intro ρ w' ⟨p1, p2, p3⟩ hS _ hn
    have hsz := hS.size
    go_simp
    exact ⟨rk_below (by simp) ((Below.refl _ _).alloc (Nat.le_refl _) _), shim_mk w' _ hsz⟩
   refine slotU_end ?_
   intro tv w9 hS
   constructor
   ·intro hF
    simp at hF
    obtain ⟨⟨b7, f7, hb7, hbox⟩, f32, f31, f20, f30, ⟨a29, c29, l29, e29, f29, -⟩, f28, f27, ⟨a26, c26, l26, e26, f26, -⟩, f25, f24, f23, f22, f21⟩ := hF
    simp only [List.take_succ_cons, List.take_zero, List.drop_succ_cons, List.drop_zero, putAll, f7, f32, f31, f20, f30, f29, f28, f27, f26, f25, f24, f23, f22, f21]
    clear f7 f32 f31 f20 f30 f29 f28 f27 f26 f25 f24 f23 f22 f21
    simp only [Act.put, List.setIfInBounds_toArray, List.set_cons_succ, List.set_cons_zero]
    have hX9 := sbox_zero hbox
    have hh10 : Hole b7 w9 (putS w9 b7 0 0 0 0 none 0 0 ⟨#[]⟩) := hole_putS (Hole.refl _ _) _ _ _ _ _ _ _ _
    have hsz := hS.size
    have h6b := HB6.out.size
    have hB10 : Below W2.heap.size W2 (putS w9 b7 0 0 0 0 none 0 0 ⟨#[]⟩) := Hole.below (Hole.below HB6.out hS (by omega) HB6.out.size) hh10 (by omega) (by omega)
    unfold putS at hB10
    have HB10 := Lib.hid hB10
    clear hB10 hh10
    obtain ⟨-, v0, v1, v2, v3, v4, v5, vf⟩ := hX9
    unfold shV
    go_wp2_with fail
    go_meet
    exact ⟨rfl, b7, rfl, HB10.out⟩
   ·intro hF
    simp at hF
    obtain ⟨⟨b7, f7, hb7, hbox⟩, f31, f20, f30, ⟨a29, c29, l29, e29, f29, -⟩, f28, f27, ⟨a26, c26, l26, e26, f26, -⟩, f25, f24, f23, f22, f21⟩ := hF
    simp only [List.take_succ_cons, List.take_zero, List.drop_succ_cons, List.drop_zero, putAll, List.eraseIdx_cons_succ, List.eraseIdx_cons_zero, List.getElem?_cons_succ, List.getElem?_cons_zero, Option.toList_some, List.cons_append, List.nil_append, f7, f31, f20, f30, f29, f28, f27, f26, f25, f24, f23, f22, f21]
    clear f7 f31 f20 f30 f29 f28 f27 f26 f25 f24 f23 f22 f21
    simp only [Act.put, List.setIfInBounds_toArray, List.set_cons_succ, List.set_cons_zero]
    have hX9 := sbox_zero hbox
    have hh10 : Hole b7 w9 (putS w9 b7 0 0 0 0 none 0 0 ⟨#[]⟩) := hole_putS (Hole.refl _ _) _ _ _ _ _ _ _ _
    have hsz := hS.size
    have h6b := HB6.out.size
    have hB10 : Below W2.heap.size W2 (putS w9 b7 0 0 0 0 none 0 0 ⟨#[]⟩) := Hole.below (Hole.below HB6.out hS (by omega) HB6.out.size) hh10 (by omega) (by omega)
    unfold putS at hB10
    have HB10 := Lib.hid hB10
    clear hB10 hh10
    obtain ⟨-, v0, v1, v2, v3, v4, v5, vf⟩ := hX9
    unfold shV
    go_wp2_with fail
    go_meet
    exact ⟨rfl, b7, rfl, HB10.out⟩
  case rest =>
   obtain ⟨rfl, b7, rfl, hb10⟩ := hcut
   have HC10 := Lib.hid hb10
   clear hb10
   have hRS := HRS.out.below HC10.out
   have h8s := HC10.out.size
   have hP1 := sbox_putS hRS 0 0 0 0 none 0 0 ⟨#[]⟩
   have hH1 := hole_putS (Hole.refl (w.heap.size + 1) wc) 0 0 0 0 none 0 0 ⟨#[]⟩
   obtain ⟨-, z0, z1, z2, z3, z4, z5, zf⟩ := hRS
   obtain ⟨V1, hV1⟩ : ∃ V1, putS wc (w.heap.size + 1) 0 0 0 0 none 0 0 ⟨#[]⟩ = V1 := ⟨_, rfl⟩
   rw [hV1] at hP1 hH1
   have HBE : Hid (Below w.heap.size w V1) := Hole.below (HB.out.trans (HC10.out.mono (by omega))) hH1 (by omega) (by omega)
   unfold putS at hV1
   obtain ⟨-, o0, o1, o2, o3, o4, o5, -⟩ := hP1
   clear hH1
   go_wp2_with fail
   exact bodyPost_ret (v := .tuple #[smV smz none 0, .int .i64 2]) (by simp [results, Tryz.results22, smV, smz, shV, go_sem, o0, o1, o2, o3, o4, o5]) rfl (nothing_seeI HE.out HBE.out)
 have HE : Hid (A = (⟨si, max cl (clockL ms), sq, la, ms, t ++ T⟩, 0)) := by rw [HAA.out, if_pos hbig]; exact Lib.hid rfl
 have HOA : Hid (∀ z ∈ ms, okW z = true) := ((mapOk_iff _).1 HMOK.out).1
 go_cut [7, 8] (fun s7 s8 wx => s8 = .bool true ∧ SeenBox W6 bK W6.heap.size si cl sq la (t ++ T) ms s7 wx)
 case first =>
  refine wp_region_slots_v 14 12 (30, 29) [[(6, false)], [(6, false)], [(22, true)], [(23, true)], [(1, false)], [(24, true), (25, true)], [(6, false)], [(27, true)], [(26, true), (28, true)], [(21, true), (29, true)], [(30, true)], [(20, true)], [(20, true)], []] (fun w' => Hole bK W6 w') (fun w' => Hole bK W6 w') (fun _ w' => Hole bK W6 w') (fun d w' => (d = some 29 ∨ d = some 30) → RegsX w' w' bK n (findW ws)) (fun _ => none) (RK bK 30) (by kernel_rfl) (by kernel_rfl) (by rfl) ⟨rfl, rfl, rfl, Nat.le_refl _, fun _ _ _ => rfl⟩ (by kernel_rfl) HE0.out (fun _ h => by simp at h) (by kernel_rfl) regs_keep (fun _ _ _ _ _ _ h => by cases h) (fun _ _ _ _ h1 h2 => rk_step h1 h2) (fun _ _ _ h => h) (fun _ _ _ h => h) ?_
  iterate 5 (apply slotU_eq; · (intro ρ w' ⟨p1, p2, p3⟩ hS _ hn; obtain ⟨⟨⟨-, k0, k1, k2, k3, k4, k5, -⟩, k6⟩, -⟩ := HSX.out w' hS; simp at hn; go_simp; exact ⟨rk_below (by simp) (Below.refl _ _), rfl⟩))
  refine slotU_fact (RowF W6.heap.size ms) (lastsK (lasts_row _ _) (turn_row _ _ _)) ?_ ?_
  ·intro ρ w' ⟨p1, p2, p3⟩ hS _ hn
   obtain ⟨-, hw1, hw2, -⟩ := HSX.out w' hS
   have hsz := hS.size
   simp at hn
   go_simp
   exact got_call (HWI.out w' a cap b capm hw1 hw2) fun e w'' ⟨v, es, he, hm, hr, hb⟩ => by
    obtain ⟨a1, c1, rfl⟩ := hr.formK
    exact ⟨_, he, rk_below (by simp) hb, a1, c1, _, es, rfl, rfl, hm, hr.mono hsz⟩
  iterate 2 (apply slotU_eq; · (intro ρ w' ⟨p1, p2, p3⟩ hS _ hn; obtain ⟨⟨⟨-, k0, k1, k2, k3, k4, k5, -⟩, k6⟩, -⟩ := HSX.out w' hS; simp at hn; go_simp; exact ⟨rk_below (by simp) (Below.refl _ _), rfl⟩))
  refine slotU_fact (RowF W6.heap.size fr) (lastsK (lasts_row _ _) (turn_row _ _ _)) ?_ ?_
  ·intro ρ w' ⟨p1, p2, p3⟩ hS hEE hn
   have hsz := hS.size
   simp at hn
   obtain ⟨⟨a1, c1, L1, es1, f26, hl1, hm1, hr1⟩, f28⟩ := hn
   rw [f26] at hr1
   have hw1 : IsWs w' a1 ms := by
    obtain ⟨a2, c2, n2, e2, hn2, ho2⟩ := hr1.ownA hm1
    injection e2 with e2 e3 e4
    rw [e2]
    exact ho2.isWs HMF.out
   have HLL := Lib.hid (show ms.length = L1 by rw [← hm1, List.length_map]; exact hl1)
   clear hr1 hm1 hl1
   go_simp
   exact got_call (HCH.out w' a1 L1 c1 hw1 HLL.out (hEE (.inl rfl))) fun e w'' ⟨v, es, he, hm, hr, hb⟩ => by
    obtain ⟨a3, c3, rfl⟩ := hr.formK
    exact ⟨_, he, rk_below (by simp) hb, a3, c3, _, es, rfl, rfl, hm, hr.mono hsz⟩
  refine slotU_fact (KeF W6.heap.size si cl sq la (t ++ T) ms) (lastsK (lasts_ke _ _ _ _ _ _ _) (turn_ke _ _ _ _ _ _ _ _)) ?_ ?_
  ·intro ρ w' ⟨p1, p2, p3⟩ hS hEE hn
   obtain ⟨-, -, -, hv⟩ := HSX.out w' hS
   have hsz := hS.size
   simp at hn
   obtain ⟨f21, a1, c1, L1, es1, f29, hl1, hm1, hr1⟩ := hn
   rw [f29] at hr1
   have hw1 := rowG_ws0 hr1 hm1
   have HLL := Lib.hid (show fr.length = L1 by rw [← hm1, List.length_map]; exact hl1)
   clear hr1 hm1 hl1
   go_simp
   exact got_call (HKE.out w' a1 L1 c1 hw1 HLL.out (hEE (.inr rfl)) hv) fun e w'' ⟨hh, hH⟩ => by
    rcases hh with ⟨h2, -⟩ | ⟨-, a', n', cp', es, he, hl, hm, hr⟩
    ·omega
    ·exact ⟨_, he, .inl ⟨rfl, (hEE (.inr rfl)).isMap, hH⟩, a', n', cp', es, rfl, hl, hm, hr.mono hsz⟩
  refine slotU_fact (KeF W6.heap.size si cl sq la (t ++ T) ms) (lastsK (lasts_ke _ _ _ _ _ _ _) (turn_ke _ _ _ _ _ _ _ _)) ?_ ?_
  ·intro ρ w' ⟨p1, p2, p3⟩ hS _ hn
   simp at hn
   obtain ⟨a', n', cp', es, f30, hl, hm, hr⟩ := hn
   go_simp
   exact ⟨rk_below (by simp) (Below.refl _ _), a', n', cp', es, rfl, hl, hm, hr⟩
  refine slotU_fact (KsF W6.heap.size si cl sq la (t ++ T) ms) (lastsK (lasts_ks _ _ _ _ _ _ _) (turn_ks _ _ _ _ _ _ _ _)) ?_ ?_
  ·intro ρ w' ⟨p1, p2, p3⟩ hS _ hn
   simp at hn
   obtain ⟨a', n', cp', es, f20, hl, hm, hr⟩ := hn
   go_simp
   exact ⟨rk_below (by simp) (Below.refl _ _), a', n', cp', es, rfl, hl, hm, hr⟩
  apply slotU_eq
  ·intro ρ w' ⟨p1, p2, p3⟩ hS _ hn
   simp at hn
   obtain ⟨a', n', cp', es, f20, hl, hm, hr⟩ := hn
   go_simp
   exact ⟨rk_below (by simp) (Below.refl _ _), rfl⟩
  refine slotU_fact (ShimF W6.heap.size) (lastsK (lasts_shim _) (shim_turn _ _)) ?_ ?_
  ·intro ρ w' ⟨p1, p2, p3⟩ hS _ hn
   have hsz := hS.size
   go_simp
   exact ⟨rk_below (by simp) ((Below.refl _ _).alloc (Nat.le_refl _) _), shim_mk w' _ hsz⟩
  refine slotU_end ?_
  intro tv w9 hS
  constructor
  ·intro hF
   simp at hF
   obtain ⟨⟨b7, f7, hb7, hbox⟩, f32, ⟨a', n', cp', es, f31, hl, hm, hr⟩, ⟨a20, n20, c20, e20, f20, -⟩, ⟨a30, n30, c30, e30, f30, -⟩, ⟨a29, c29, l29, e29, f29, -⟩, f28, f27, ⟨a26, c26, l26, e26, f26, -⟩, f25, f24, f23, f22, f21⟩ := hF
   simp only [List.take_succ_cons, List.take_zero, List.drop_succ_cons, List.drop_zero, putAll, f7, f32, f31, f20, f30, f29, f28, f27, f26, f25, f24, f23, f22, f21]
   clear f7 f32 f31 f20 f30 f29 f28 f27 f26 f25 f24 f23 f22 f21
   simp only [Act.put, List.setIfInBounds_toArray, List.set_cons_succ, List.set_cons_zero]
   have HOE : Hid (∀ e ∈ es, okW e.x = true) := fun e he => HOA.out _ (by rw [← hm]; exact List.mem_map_of_mem he)
   have hAP := hr.apartS hbox HOE.out
   have hX9 := sbox_zero hbox
   have hH10 : Hole b7 w9 (putS w9 b7 si cl sq la a' n' cp' (t ++ T)) := hole_putS (Hole.refl _ _) _ _ _ _ _ _ _ _
   have hK : SeenBox W6 bK W6.heap.size si cl sq la (t ++ T) ms (.pointer (some ⟨b7, 0, none⟩)) (putS w9 b7 si cl sq la a' n' cp' (t ++ T)) := ⟨b7, a', n', cp', es, rfl, hb7, sbox_putS hX9 si cl sq la a' n' cp' (t ++ T), hl, hm, hr.aside hH10 hAP, hAP, ⟨hH10.os.trans hS.os, hH10.tape.trans hS.tape, hH10.output.trans hS.output, Nat.le_trans hS.size hH10.size, fun k hk hne => (hH10.block k (Nat.lt_of_lt_of_le hk hS.size) (by omega)).trans (hS.block k hk hne)⟩⟩
   unfold putS at hK
   have HK := Lib.hid hK
   clear hK hH10 hr hm hl hAP
   obtain ⟨-, v0, v1, v2, v3, v4, v5, vf⟩ := hX9
   unfold shV
   go_wp2_with fail
   go_meet
   exact ⟨rfl, HK.out⟩
  ·intro hF
   simp at hF
   obtain ⟨⟨b7, f7, hb7, hbox⟩, ⟨a', n', cp', es, f31, hl, hm, hr⟩, ⟨a20, n20, c20, e20, f20, -⟩, ⟨a30, n30, c30, e30, f30, -⟩, ⟨a29, c29, l29, e29, f29, -⟩, f28, f27, ⟨a26, c26, l26, e26, f26, -⟩, f25, f24, f23, f22, f21⟩ := hF
   simp only [List.take_succ_cons, List.take_zero, List.drop_succ_cons, List.drop_zero, putAll, List.eraseIdx_cons_succ, List.eraseIdx_cons_zero, List.getElem?_cons_succ, List.getElem?_cons_zero, Option.toList_some, List.cons_append, List.nil_append, f7, f31, f20, f30, f29, f28, f27, f26, f25, f24, f23, f22, f21]
   clear f7 f31 f20 f30 f29 f28 f27 f26 f25 f24 f23 f22 f21
   simp only [Act.put, List.setIfInBounds_toArray, List.set_cons_succ, List.set_cons_zero]
   have HOE : Hid (∀ e ∈ es, okW e.x = true) := fun e he => HOA.out _ (by rw [← hm]; exact List.mem_map_of_mem he)
   have hAP := hr.apartS hbox HOE.out
   have hX9 := sbox_zero hbox
   have hH10 : Hole b7 w9 (putS w9 b7 si cl sq la a' n' cp' (t ++ T)) := hole_putS (Hole.refl _ _) _ _ _ _ _ _ _ _
   have hK : SeenBox W6 bK W6.heap.size si cl sq la (t ++ T) ms (.pointer (some ⟨b7, 0, none⟩)) (putS w9 b7 si cl sq la a' n' cp' (t ++ T)) := ⟨b7, a', n', cp', es, rfl, hb7, sbox_putS hX9 si cl sq la a' n' cp' (t ++ T), hl, hm, hr.aside hH10 hAP, hAP, ⟨hH10.os.trans hS.os, hH10.tape.trans hS.tape, hH10.output.trans hS.output, Nat.le_trans hS.size hH10.size, fun k hk hne => (hH10.block k (Nat.lt_of_lt_of_le hk hS.size) (by omega)).trans (hS.block k hk hne)⟩⟩
   unfold putS at hK
   have HK := Lib.hid hK
   clear hK hH10 hr hm hl hAP
   obtain ⟨-, v0, v1, v2, v3, v4, v5, vf⟩ := hX9
   unfold shV
   go_wp2_with fail
   go_meet
   exact ⟨rfl, HK.out⟩
 case rest =>
  obtain ⟨rfl, b7, a', n', cp', es, rfl, hb7, hX7, hl, hm, hr, hAP, hH7⟩ := hcut
  have HC7 := Lib.hid (Hole.below HB6.out hH7 (by omega) HB6.out.size)
  have h7s := hH7.size
  have h6b := HB6.out.size
  have hlm : ms.length = n' := by rw [← hm, List.length_map]; exact hl
  have HLM := Lib.hid hlm
  have hn7 : n' ≤ 6 := by omega
  have HX7 := Lib.hid hX7
  have HI7 : Hid (IsWs wc a' ms) := by
   obtain ⟨a2, c2, n2, e2, -, ho2⟩ := hr.ownA hm
   injection e2 with e2 e3 e4
   rw [e2]
   exact ho2.isWs HMF.out
  have HCL : Hid (∀ w', Below wc.heap.size wc w' → Calls Tryz.prog 72 #[.slice a' n' cp'] w' fun e w'' => e = .returned (.int .i64 (clockL ms)) ∧ Below w'.heap.size w' w'') := fun w' hb => lastClock_any a' n' cp' ms w' HLM.out (by omega) (HI7.out.below hb)
  have HRW := Lib.hid hr
  have HM7 := Lib.hid hm
  have HAP := Lib.hid hAP
  clear hlm hl hm hr hAP hX7 hH7 HKE HCH HWI HSX HE0 HTD HAA
  generalize clockL ms = cm at *
  go_upto_region 7 with fail
  refine wp_region_slots 7 [[(7, false)], [(36, true)], [(7, false)], [(38, true)], [(39, true)], [(37, true), (40, true)], [(7, false)]] (fun w' => Below wc.heap.size wc w') (fun w w' => Below w.heap.size w w') (by kernel_rfl) (by kernel_rfl) (by rfl) (Below.refl _ _).drew (fun _ _ h hr => below_step h h.size hr) ?_
  iterate 4 (apply slot_eq; · (intro ρ w' ⟨p1, p2, p3⟩ hS hn; obtain ⟨-, x0, x1, x2, x3, x4, x5, -⟩ := HX7.out.below hS; simp at hn; go_simp; exact ⟨Below.refl _ _, rfl⟩))
  apply slot_eq
  ·intro ρ w' ⟨p1, p2, p3⟩ hS hn
   simp at hn
   go_simp
   exact got_call (HCL.out w' hS) fun e w'' ⟨he, hb⟩ => ⟨_, he, hb, rfl⟩
  iterate 2 (apply slot_eq; · (intro ρ w' ⟨p1, p2, p3⟩ hS hn; simp at hn; go_simp; exact ⟨Below.refl _ _, rfl⟩))
  refine slot_end ?_
  intro tv w10 hS hF
  simp at hF
  obtain ⟨f42, f41, f40, f39, f38, f37, f36⟩ := hF
  simp only [List.take_succ_cons, List.take_zero, List.drop_succ_cons, List.drop_zero, putAll, f42, f41, f40, f39, f38, f37, f36]
  clear f42 f41 f40 f39 f38 f37 f36
  simp only [Act.put, List.setIfInBounds_toArray, List.set_cons_succ, List.set_cons_zero]
  generalize max cl cm = M at *
  have h10s := hS.size
  have hX10 := HX7.out.below hS
  have hX11 := hX10.set1 M
  have hH11 : Hole b7 w10 (w10.setCell ⟨b7, 1, none⟩ (.int .i64 M)) := (Hole.refl _ _).set 1 _
  obtain ⟨-, v0, v1, v2, v3, v4, v5, vf⟩ := hX10
  obtain ⟨W11, hW11⟩ : ∃ W11, w10.setCell ⟨b7, 1, none⟩ (.int .i64 M) = W11 := ⟨_, rfl⟩
  rw [hW11] at hX11 hH11
  have h11s := hH11.size
  have hC10 := below_step HC7.out HC7.out.size hS
  have HC11 := Lib.hid (Hole.below hC10 hH11 (by omega) hC10.size)
  have hE11 := (HRW.out.below hS).aside hH11 HAP.out
  have hRS := HRS.out.below HC11.out
  have h8s := HC11.out.size
  have hP1 := sbox_putS hRS si M sq la a' n' cp' (t ++ T)
  have hH1 := hole_putS (Hole.refl (w.heap.size + 1) W11) si M sq la a' n' cp' (t ++ T)
  obtain ⟨-, z0, z1, z2, z3, z4, z5, zf⟩ := hRS
  obtain ⟨V1, hV1⟩ : ∃ V1, putS W11 (w.heap.size + 1) si M sq la a' n' cp' (t ++ T) = V1 := ⟨_, rfl⟩
  rw [hV1] at hP1 hH1
  have HBE : Hid (Below w.heap.size w V1) := Hole.below (HB.out.trans (HC11.out.mono (by omega))) hH1 (by omega) (by omega)
  have HEE := Lib.hid ((hE11.holeQ hH1 (by omega)).mono (base' := w.heap.size) (by omega))
  unfold putS at hV1
  obtain ⟨-, y0, y1, y2, y3, y4, y5, yf⟩ := hX11
  obtain ⟨-, o0, o1, o2, o3, o4, o5, -⟩ := hP1
  clear hH1 hE11 hH11 hC10 hS
  go_wp2_with fail
  refine bodyPost_ret (v := .tuple #[shV si M sq la a' n' cp' (t ++ T), .int .i64 0]) (by simp [results, Tryz.results22, shV, go_sem, o0, o1, o2, o3, o4, o5]) rfl ?_
  obtain ⟨a9, c9, n9, e9, -, hO9⟩ := HEE.out.ownA HM7.out
  injection e9 with e1 e2 e3
  rw [← e1] at hO9
  refine ⟨a', cp', gammaG es, ?_, ?_, HBE.out⟩
  ·rw [HE.out]
   unfold smV
   simp only
   rw [HLM.out]
  ·rw [HE.out]
   exact hO9
end Go.Proofs.YteladgfdedlmjaaGreatDoor
namespace Go.Proofs.YteladgfdedlmjaaGreatDoor
open Go.ChangeShapes Go.WideShapes Go.ChangeAt Go.RowKit Go.Joins
set_option maxRecDepth 100000
theorem RowEs.moreL {w w5 : World} {g cap g5 cap5 : Nat} {es es2 : List En} (h : RowEs w 0 g cap es) (he : ∀ e ∈ es2, e.g < w.heap.size ∧ e.g ≠ g ∧ HoldsDeps w e.g 0 e.x.xs)
  (hown : w5.ownsRow 0 33 7 (.slice (some ⟨g5, 0, none⟩) (es.length + es2.length) cap5) (es.length + es2.length) (es.flatMap wrVals ++ es2.flatMap wrVals)) (hgrow : w.grownBy w5 (some g)) (hg : some g = some g5 ∨ g5 = w.heap.size) : RowEs w5 0 g5 cap5 (es ++ es2) where
 le := Nat.zero_le _
 lt := (hown.lt g5 rfl).2
 own := by
  rw [List.length_append, List.flatMap_append]
  exact hown
 deps := by
  have : ∀ d : En, (d.g < w.heap.size ∧ d.g ≠ g ∧ HoldsDeps w d.g 0 d.x.xs) → 0 ≤ d.g ∧ d.g < w5.heap.size ∧ d.g ≠ g5 ∧ HoldsDeps w5 d.g 0 d.x.xs := fun d ⟨h2, h3, h4⟩ =>
   ⟨Nat.zero_le _, Nat.lt_of_lt_of_le h2 hgrow.size, by
    rcases hg with hg | hg
    ·injection hg with hg
     rw [← hg]
     exact h3
    ·omega, fun i hi => by
    have e' : ∀ o, w5.cell? ⟨d.g, o, none⟩ = w.cell? ⟨d.g, o, none⟩ := fun o => World.cell?_of_block (a := ⟨d.g, o, none⟩) (hgrow.block d.g h2 (by simpa using h3))
    obtain ⟨a0, a1, a2, a3⟩ := h4 i hi
    exact ⟨(e' _).trans a0, (e' _).trans a1, (e' _).trans a2, (e' _).trans a3⟩⟩
  intro d hd
  rcases List.mem_append.1 hd with hd | hd
  ·exact this d (h.deps d hd).2
  ·exact this d (he d hd)
theorem row_room {w : World} {base e size g n cap : Nat} {xs : List Value} (h : w.ownsRow base e size (.slice (some ⟨g, 0, none⟩) n cap) n xs) : n ≤ cap := by
 rcases h.2 with ⟨h', _⟩ | ⟨g', cap', cur, h', _, _, hle, _⟩
 ·simp at h'
 ·simp only [Value.slice.injEq, Option.some.injEq, Addr.mk.injEq, and_true, true_and] at h'
  omega
theorem add_plainA (g j : Nat) : (⟨g, 0, none⟩ : Addr).add j = ⟨g, j, none⟩ := by
 unfold Addr.add
 split
 ·rename_i h
  rw [h]
 ·simp
theorem append_es {w : World} {ops : Array Oper} {rest : List Oper} {o : Oper} {a : Act} {Q : Exit → Act → World → Prop} (hgd : o.guard = none) (s x : Operand)
  (ho : o.op = .call { callee := .builtin .append, args := #[s, x], argTypes := #[24, 24] }) (S g cap n : Nat) (es : List En) (hn : es.length = n) (hs : a.eval s = .slice (some ⟨g, 0, none⟩) n cap) (row : RowEs w 0 g cap es) (hS : S ≤ g)
  (g2 cap2 m : Nat) (es2 : List En) (hm : es2.length = m) (hx : a.eval x = .slice (some ⟨g2, 0, none⟩) m cap2) (src : RowEs w 0 g2 cap2 es2) (hap : ∀ e ∈ es2, e.g < S) (k : Nat) (hk : n + m = k) (hb : k ≤ 1048576)
  (h : ∀ g' cap' w', RowEs w' 0 g' cap' (es ++ es2) → S ≤ g' → Below S w w' → wpList Tryz.prog ops Q rest (a.put o.dst (.slice (some ⟨g', 0, none⟩) k cap')) w') : wpList Tryz.prog ops Q (o :: rest) a w := by
 obtain ⟨i0, hi0, hx0⟩ := Option.map_eq_some_iff.1 infoWr
 simp only [Prod.mk.injEq] at hx0
 have hSw : S ≤ w.heap.size := by have := row.lt; omega
 subst hn
 subst hm
 subst hk
 by_cases h0 : es2.length = 0
 ·have e2 : es2 = [] := List.length_eq_zero_iff.1 h0
  subst e2
  refine wpList_append_zero hgd s x _ ho 33 i0 Tryz.underlying24 hi0 (some ⟨g, 0, none⟩) es.length cap (row_room row.own) hs _ cap2 hx ?_
  exact h g cap w (by simpa using row) hS (Below.refl _ _)
 ·refine wpList_append_lies w hgd s x _ ho 0 33 i0 (wrV 0 0 0 0 0 false none 0 0) 7 72 Tryz.underlying24 hi0 hx0.1 hx0.2.1 hx0.2.2 (by rfl) (by omega) _ es.length (es.flatMap wrVals) hs row.own ⟨g2, 0, none⟩ es2.length cap2 (es2.flatMap wrVals) hx (vals_len es2) (fun j u hu => ?_) (vals_one es2) (by omega) (by unfold maxLen; omega) (by omega) (Nat.zero_le _) _ rfl fun g5 cap5 w5 hown hgrow hg _ => ?_
  ·rw [add_plainA, src.own.cellAt j (by rw [← vals_len]; exact (List.getElem?_eq_some_iff.1 hu).1)]
   exact hu
  ·have hgrow' : w.grownBy w5 (some g) := hgrow
   have hg' : some g = some g5 ∨ g5 = w.heap.size := hg
   refine h g5 cap5 w5 (row.moreL (fun e he => ⟨(src.deps e he).2.1, by have := hap e he; omega, (src.deps e he).2.2.2⟩) hown hgrow' hg') ?_ ?_
   ·rcases hg' with hg' | hg'
    ·injection hg' with hg'
     omega
    ·omega
   ·exact ⟨hgrow.os, hgrow.tape, hgrow.output, hgrow.size, fun b hb => hgrow.block b (by omega) (by simp [Value.ownBlock]; omega)⟩
end Go.Proofs.YteladgfdedlmjaaGreatDoor
