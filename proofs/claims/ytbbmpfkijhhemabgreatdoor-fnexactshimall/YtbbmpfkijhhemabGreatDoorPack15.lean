import Derived.Shelf.LaysM
import Derived.Shelf.Strconv.Itoa3
import Derived.Test.YtbbmpfkijhhemabGreatDoorProg
import Derived.Test.YtbbmpfkijhhemabGreatDoorPack9
import Derived.Test.YtbbmpfkijhhemabGreatDoorPack10
import Derived.Test.YtbbmpfkijhhemabGreatDoorPack14
import Derived.Test.YtbbmpfkijhhemabGreatDoorPack11
import Derived.Lib.Split
import Derived.Lib.IndexBytes
/-
  DERIVED: THE SHELF's CONTRACTS AT THIS DUMP, IN PLAIN WORDS (tools/lay-plain.mjs out of 'TryzShelf.lean', which tools/lay-shelf.mjs wrote): THE SAME DECLARATIONS UNDER THE SAME NAMES: 'import', 'namespace', 'open', 'def', 'theorem' AND NOTHING ELSE: no command of the shelf's: FOR A HAND-IN. Each laying: the table of numbers ('.._ren') and one theorem, a field a fact of the dump's own or the kernel's comparison; each contract: ONE APPLICATION.
-/
namespace Go.Proofs
open Go.Shelf
def Tryz.laysM246_ren : Go.Shelf.Ren := ⟨fun | 246 => 145 | 283 => 155 | 284 => 156 | 285 => 157 | 286 => 158 | 129 => 168 | 317 => 167 | 318 => 169 | 319 => 170 | 320 => 171 | 337 => 175 | 338 => 176 | n => n, fun | 2 => 2 | 3 => 3 | 9 => 9 | 4 => 4 | 171 => 202 | 0 => 0 | 53 => 117 | 37 => 164 | 5 => 5 | 173 => 205 | 212 => 215 | 51 => 180 | 20 => 20 | 213 => 216 | 46 => 143 | 232 => 228 | 233 => 229 | n => n, fun | 17 => 8 | 18 => 11 | 19 => 12 | n => n⟩
theorem Tryz.laysM246 : Go.Proofs.LaysM.n246 Tryz.prog Tryz.laysM246_ren := {
  mixed := by kernel_rfl
  f129 := Tryz.func168.trans (congrArg some (by kernel_rfl))
  f246 := Tryz.func145.trans (congrArg some (by kernel_rfl))
  f283 := Tryz.func155.trans (congrArg some (by kernel_rfl))
  f284 := Tryz.func156.trans (congrArg some (by kernel_rfl))
  f285 := Tryz.func157.trans (congrArg some (by kernel_rfl))
  f286 := Tryz.func158.trans (congrArg some (by kernel_rfl))
  f317 := Tryz.func167.trans (congrArg some (by kernel_rfl))
  f318 := Tryz.func169.trans (congrArg some (by kernel_rfl))
  f319 := Tryz.func170.trans (congrArg some (by kernel_rfl))
  f320 := Tryz.func171.trans (congrArg some (by kernel_rfl))
  f337 := Tryz.func175.trans (congrArg some (by kernel_rfl))
  f338 := Tryz.func176.trans (congrArg some (by kernel_rfl))
  t0 := Tryz.underlying0
  a0 := Tryz.isAgg0
  z0 := Tryz.sizeOf0
  v0 := Tryz.zeroValue0
  t2 := Tryz.underlying2
  a2 := Tryz.isAgg2
  z2 := Tryz.sizeOf2
  v2 := Tryz.zeroValue2
  t3 := Tryz.underlying3
  a3 := Tryz.isAgg3
  z3 := Tryz.sizeOf3
  v3 := Tryz.zeroValue3
  t4 := Tryz.underlying4
  a4 := Tryz.isAgg4
  z4 := Tryz.sizeOf4
  v4 := Tryz.zeroValue4
  t5 := Tryz.underlying5
  a5 := Tryz.isAgg5
  z5 := Tryz.sizeOf5
  v5 := Tryz.zeroValue5
  t9 := Tryz.underlying9
  a9 := Tryz.isAgg9
  z9 := Tryz.sizeOf9
  v9 := Tryz.zeroValue9
  t20 := Tryz.underlying20
  a20 := Tryz.isAgg20
  z20 := Tryz.sizeOf20
  v20 := Tryz.zeroValue20
  t37 := Tryz.underlying164
  a37 := Tryz.isAgg164
  z37 := Tryz.sizeOf164
  v37 := Tryz.zeroValue164
  t46 := Tryz.underlying143
  a46 := Tryz.isAgg143
  z46 := Tryz.sizeOf143
  v46 := Tryz.zeroValue143
  t51 := Tryz.underlying180
  a51 := Tryz.isAgg180
  z51 := Tryz.sizeOf180
  v51 := Tryz.zeroValue180
  t53 := Tryz.underlying117
  a53 := Tryz.isAgg117
  z53 := Tryz.sizeOf117
  v53 := Tryz.zeroValue117
  t171 := Tryz.underlying202
  a171 := Tryz.isAgg202
  z171 := Tryz.sizeOf202
  v171 := Tryz.zeroValue202
  t173 := Tryz.underlying205
  a173 := Tryz.isAgg205
  z173 := Tryz.sizeOf205
  v173 := Tryz.zeroValue205
  t212 := Tryz.underlying215
  a212 := Tryz.isAgg215
  z212 := Tryz.sizeOf215
  v212 := Tryz.zeroValue215
  t213 := Tryz.underlying216
  a213 := Tryz.isAgg216
  z213 := Tryz.sizeOf216
  t232 := Tryz.underlying228
  a232 := Tryz.isAgg228
  z232 := Tryz.sizeOf228
  v232 := Tryz.zeroValue228
  t233 := Tryz.underlying229
  a233 := Tryz.isAgg229
  z233 := Tryz.sizeOf229
  v233 := Tryz.zeroValue229
  g17 := by kernel_rfl
  g18 := by kernel_rfl
  g19 := by kernel_rfl
  i0 := by kernel_rfl
  i2 := by kernel_rfl
  i3 := by kernel_rfl
  i4 := by kernel_rfl
  i5 := by kernel_rfl
  i9 := by kernel_rfl
  i20 := by kernel_rfl
  i37 := by kernel_rfl
  i46 := by kernel_rfl
  i51 := by kernel_rfl
  i53 := by kernel_rfl
  i171 := by kernel_rfl
  i173 := by kernel_rfl
  i212 := by kernel_rfl
  i232 := by kernel_rfl
  i233 := by kernel_rfl
  m17 := by kernel_rfl
  m18 := by kernel_rfl
  m19 := by kernel_rfl }
open Go.RowKit Go.Sort Go.Lib in
/-- internal/strconv.FormatInt: "FormatInt returns the string representation of i in the given base": AT BASE 10: i's decimal numeral, for every int64. The world behind the call: the world before it, new blocks behind the heap, draws. (LAID: no walk: one application.) -/
theorem Tryz.internal_strconv_FormatInt_10 (n : Int) (h0 : -9223372036854775808 ≤ n) (h1 : n ≤ 9223372036854775807) (w : World) (htab : Lib.TabIs Tryz.prog w "internal/strconv.uint64pow10" .u64 Lib.pow10Tab) :
    Calls Tryz.prog 145 #[.int .i64 n, .int .i64 10] w fun e w' => e = .returned (.string ⟨(Lib.itoa n).toArray⟩) ∧ ∃ k os, w' = grow (w.drewN k) os := Any.internal_strconv_FormatInt_10 Tryz.laysM246 n h0 h1 w htab
def Tryz.lays246_ren : Go.Shelf.Ren := ⟨fun | 246 => 145 | 283 => 155 | 284 => 156 | 285 => 157 | 286 => 158 | 129 => 168 | 317 => 167 | 318 => 169 | 319 => 170 | 320 => 171 | 337 => 175 | 338 => 176 | n => n, fun | 2 => 2 | 3 => 3 | 9 => 9 | 4 => 4 | 171 => 202 | 0 => 0 | 53 => 117 | 37 => 164 | 5 => 5 | 173 => 205 | 212 => 215 | 51 => 180 | 20 => 20 | 213 => 216 | 46 => 143 | 232 => 228 | 233 => 229 | n => n, fun | 17 => 8 | 18 => 11 | 19 => 12 | n => n⟩
theorem Tryz.lays246 : Go.Proofs.Lays.n246 Tryz.prog Tryz.lays246_ren := {
  mixed := by kernel_rfl
  f129 := Tryz.func168.trans (congrArg some (by kernel_rfl))
  f246 := Tryz.func145.trans (congrArg some (by kernel_rfl))
  f283 := Tryz.func155.trans (congrArg some (by kernel_rfl))
  f284 := Tryz.func156.trans (congrArg some (by kernel_rfl))
  f285 := Tryz.func157.trans (congrArg some (by kernel_rfl))
  f286 := Tryz.func158.trans (congrArg some (by kernel_rfl))
  f317 := Tryz.func167.trans (congrArg some (by kernel_rfl))
  f318 := Tryz.func169.trans (congrArg some (by kernel_rfl))
  f319 := Tryz.func170.trans (congrArg some (by kernel_rfl))
  f320 := Tryz.func171.trans (congrArg some (by kernel_rfl))
  f337 := Tryz.func175.trans (congrArg some (by kernel_rfl))
  f338 := Tryz.func176.trans (congrArg some (by kernel_rfl))
  t0 := Tryz.underlying0
  a0 := Tryz.isAgg0
  z0 := Tryz.sizeOf0
  v0 := Tryz.zeroValue0
  t2 := Tryz.underlying2
  a2 := Tryz.isAgg2
  z2 := Tryz.sizeOf2
  v2 := Tryz.zeroValue2
  t3 := Tryz.underlying3
  a3 := Tryz.isAgg3
  z3 := Tryz.sizeOf3
  v3 := Tryz.zeroValue3
  t4 := Tryz.underlying4
  a4 := Tryz.isAgg4
  z4 := Tryz.sizeOf4
  v4 := Tryz.zeroValue4
  t5 := Tryz.underlying5
  a5 := Tryz.isAgg5
  z5 := Tryz.sizeOf5
  v5 := Tryz.zeroValue5
  t9 := Tryz.underlying9
  a9 := Tryz.isAgg9
  z9 := Tryz.sizeOf9
  v9 := Tryz.zeroValue9
  t20 := Tryz.underlying20
  a20 := Tryz.isAgg20
  z20 := Tryz.sizeOf20
  v20 := Tryz.zeroValue20
  t37 := Tryz.underlying164
  a37 := Tryz.isAgg164
  z37 := Tryz.sizeOf164
  v37 := Tryz.zeroValue164
  t46 := Tryz.underlying143
  a46 := Tryz.isAgg143
  z46 := Tryz.sizeOf143
  v46 := Tryz.zeroValue143
  t51 := Tryz.underlying180
  a51 := Tryz.isAgg180
  z51 := Tryz.sizeOf180
  v51 := Tryz.zeroValue180
  t53 := Tryz.underlying117
  a53 := Tryz.isAgg117
  z53 := Tryz.sizeOf117
  v53 := Tryz.zeroValue117
  t171 := Tryz.underlying202
  a171 := Tryz.isAgg202
  z171 := Tryz.sizeOf202
  v171 := Tryz.zeroValue202
  t173 := Tryz.underlying205
  a173 := Tryz.isAgg205
  z173 := Tryz.sizeOf205
  v173 := Tryz.zeroValue205
  t212 := Tryz.underlying215
  a212 := Tryz.isAgg215
  z212 := Tryz.sizeOf215
  v212 := Tryz.zeroValue215
  t213 := Tryz.underlying216
  a213 := Tryz.isAgg216
  z213 := Tryz.sizeOf216
  t232 := Tryz.underlying228
  a232 := Tryz.isAgg228
  z232 := Tryz.sizeOf228
  v232 := Tryz.zeroValue228
  t233 := Tryz.underlying229
  a233 := Tryz.isAgg229
  z233 := Tryz.sizeOf229
  v233 := Tryz.zeroValue229
  g17 := by kernel_rfl
  g18 := by kernel_rfl
  g19 := by kernel_rfl }
open Go.RowKit Go.Sort Go.Lib in
/-- THE ROAD WITHOUT THE TABLE: 0 <= i < 100: two constants are read, nothing is laid: no premise on the world, and the world is as it was. (LAID: no walk: one application.) -/
theorem Tryz.internal_strconv_FormatInt_10_small (i : Nat) (hi : i < 100) (w : World) :
    Calls Tryz.prog 145 #[.int .i64 i, .int .i64 10] w fun e w' => e = .returned (.string ⟨(Lib.decDigits i).toArray⟩) ∧ w' = w := Any.internal_strconv_FormatInt_10_small Tryz.lays246 i hi w
def Tryz.laysM243_ren : Go.Shelf.Ren := ⟨fun | 243 => 136 | 246 => 145 | 283 => 155 | 284 => 156 | 285 => 157 | 286 => 158 | 129 => 168 | 317 => 167 | 318 => 169 | 319 => 170 | 320 => 171 | 337 => 175 | 338 => 176 | n => n, fun | 3 => 3 | 9 => 9 | 2 => 2 | 4 => 4 | 171 => 202 | 0 => 0 | 53 => 117 | 37 => 164 | 5 => 5 | 173 => 205 | 212 => 215 | 51 => 180 | 20 => 20 | 213 => 216 | 46 => 143 | 232 => 228 | 233 => 229 | n => n, fun | 17 => 8 | 18 => 11 | 19 => 12 | n => n⟩
theorem Tryz.laysM243 : Go.Proofs.LaysM.n243 Tryz.prog Tryz.laysM243_ren := {
  mixed := by kernel_rfl
  f129 := Tryz.func168.trans (congrArg some (by kernel_rfl))
  f243 := Tryz.func136.trans (congrArg some (by kernel_rfl))
  f246 := Tryz.func145.trans (congrArg some (by kernel_rfl))
  f283 := Tryz.func155.trans (congrArg some (by kernel_rfl))
  f284 := Tryz.func156.trans (congrArg some (by kernel_rfl))
  f285 := Tryz.func157.trans (congrArg some (by kernel_rfl))
  f286 := Tryz.func158.trans (congrArg some (by kernel_rfl))
  f317 := Tryz.func167.trans (congrArg some (by kernel_rfl))
  f318 := Tryz.func169.trans (congrArg some (by kernel_rfl))
  f319 := Tryz.func170.trans (congrArg some (by kernel_rfl))
  f320 := Tryz.func171.trans (congrArg some (by kernel_rfl))
  f337 := Tryz.func175.trans (congrArg some (by kernel_rfl))
  f338 := Tryz.func176.trans (congrArg some (by kernel_rfl))
  t0 := Tryz.underlying0
  a0 := Tryz.isAgg0
  z0 := Tryz.sizeOf0
  v0 := Tryz.zeroValue0
  t2 := Tryz.underlying2
  a2 := Tryz.isAgg2
  z2 := Tryz.sizeOf2
  v2 := Tryz.zeroValue2
  t3 := Tryz.underlying3
  a3 := Tryz.isAgg3
  z3 := Tryz.sizeOf3
  v3 := Tryz.zeroValue3
  t4 := Tryz.underlying4
  a4 := Tryz.isAgg4
  z4 := Tryz.sizeOf4
  v4 := Tryz.zeroValue4
  t5 := Tryz.underlying5
  a5 := Tryz.isAgg5
  z5 := Tryz.sizeOf5
  v5 := Tryz.zeroValue5
  t9 := Tryz.underlying9
  a9 := Tryz.isAgg9
  z9 := Tryz.sizeOf9
  v9 := Tryz.zeroValue9
  t20 := Tryz.underlying20
  a20 := Tryz.isAgg20
  z20 := Tryz.sizeOf20
  v20 := Tryz.zeroValue20
  t37 := Tryz.underlying164
  a37 := Tryz.isAgg164
  z37 := Tryz.sizeOf164
  v37 := Tryz.zeroValue164
  t46 := Tryz.underlying143
  a46 := Tryz.isAgg143
  z46 := Tryz.sizeOf143
  v46 := Tryz.zeroValue143
  t51 := Tryz.underlying180
  a51 := Tryz.isAgg180
  z51 := Tryz.sizeOf180
  v51 := Tryz.zeroValue180
  t53 := Tryz.underlying117
  a53 := Tryz.isAgg117
  z53 := Tryz.sizeOf117
  v53 := Tryz.zeroValue117
  t171 := Tryz.underlying202
  a171 := Tryz.isAgg202
  z171 := Tryz.sizeOf202
  v171 := Tryz.zeroValue202
  t173 := Tryz.underlying205
  a173 := Tryz.isAgg205
  z173 := Tryz.sizeOf205
  v173 := Tryz.zeroValue205
  t212 := Tryz.underlying215
  a212 := Tryz.isAgg215
  z212 := Tryz.sizeOf215
  v212 := Tryz.zeroValue215
  t213 := Tryz.underlying216
  a213 := Tryz.isAgg216
  z213 := Tryz.sizeOf216
  t232 := Tryz.underlying228
  a232 := Tryz.isAgg228
  z232 := Tryz.sizeOf228
  v232 := Tryz.zeroValue228
  t233 := Tryz.underlying229
  a233 := Tryz.isAgg229
  z233 := Tryz.sizeOf229
  v233 := Tryz.zeroValue229
  g17 := by kernel_rfl
  g18 := by kernel_rfl
  g19 := by kernel_rfl
  i0 := by kernel_rfl
  i2 := by kernel_rfl
  i3 := by kernel_rfl
  i4 := by kernel_rfl
  i5 := by kernel_rfl
  i9 := by kernel_rfl
  i20 := by kernel_rfl
  i37 := by kernel_rfl
  i46 := by kernel_rfl
  i51 := by kernel_rfl
  i53 := by kernel_rfl
  i171 := by kernel_rfl
  i173 := by kernel_rfl
  i212 := by kernel_rfl
  i232 := by kernel_rfl
  i233 := by kernel_rfl
  m17 := by kernel_rfl
  m18 := by kernel_rfl
  m19 := by kernel_rfl }
open Go.RowKit Go.Sort Go.Lib in
/-- internal/strconv.Itoa: "Itoa is equivalent to FormatInt(int64(i), 10).": i's decimal numeral, for every int. (LAID: no walk: one application.) -/
theorem Tryz.internal_strconv_Itoa (n : Int) (h0 : -9223372036854775808 ≤ n) (h1 : n ≤ 9223372036854775807) (w : World) (htab : Lib.TabIs Tryz.prog w "internal/strconv.uint64pow10" .u64 Lib.pow10Tab) :
    Calls Tryz.prog 136 #[.int .i64 n] w fun e w' => e = .returned (.string ⟨(Lib.itoa n).toArray⟩) ∧ ∃ k os, w' = grow (w.drewN k) os := Any.internal_strconv_Itoa Tryz.laysM243 n h0 h1 w htab
def Tryz.lays243_ren : Go.Shelf.Ren := ⟨fun | 243 => 136 | 246 => 145 | 283 => 155 | 284 => 156 | 285 => 157 | 286 => 158 | 129 => 168 | 317 => 167 | 318 => 169 | 319 => 170 | 320 => 171 | 337 => 175 | 338 => 176 | n => n, fun | 3 => 3 | 9 => 9 | 2 => 2 | 4 => 4 | 171 => 202 | 0 => 0 | 53 => 117 | 37 => 164 | 5 => 5 | 173 => 205 | 212 => 215 | 51 => 180 | 20 => 20 | 213 => 216 | 46 => 143 | 232 => 228 | 233 => 229 | n => n, fun | 17 => 8 | 18 => 11 | 19 => 12 | n => n⟩
theorem Tryz.lays243 : Go.Proofs.Lays.n243 Tryz.prog Tryz.lays243_ren := {
  mixed := by kernel_rfl
  f129 := Tryz.func168.trans (congrArg some (by kernel_rfl))
  f243 := Tryz.func136.trans (congrArg some (by kernel_rfl))
  f246 := Tryz.func145.trans (congrArg some (by kernel_rfl))
  f283 := Tryz.func155.trans (congrArg some (by kernel_rfl))
  f284 := Tryz.func156.trans (congrArg some (by kernel_rfl))
  f285 := Tryz.func157.trans (congrArg some (by kernel_rfl))
  f286 := Tryz.func158.trans (congrArg some (by kernel_rfl))
  f317 := Tryz.func167.trans (congrArg some (by kernel_rfl))
  f318 := Tryz.func169.trans (congrArg some (by kernel_rfl))
  f319 := Tryz.func170.trans (congrArg some (by kernel_rfl))
  f320 := Tryz.func171.trans (congrArg some (by kernel_rfl))
  f337 := Tryz.func175.trans (congrArg some (by kernel_rfl))
  f338 := Tryz.func176.trans (congrArg some (by kernel_rfl))
  t0 := Tryz.underlying0
  a0 := Tryz.isAgg0
  z0 := Tryz.sizeOf0
  v0 := Tryz.zeroValue0
  t2 := Tryz.underlying2
  a2 := Tryz.isAgg2
  z2 := Tryz.sizeOf2
  v2 := Tryz.zeroValue2
  t3 := Tryz.underlying3
  a3 := Tryz.isAgg3
  z3 := Tryz.sizeOf3
  v3 := Tryz.zeroValue3
  t4 := Tryz.underlying4
  a4 := Tryz.isAgg4
  z4 := Tryz.sizeOf4
  v4 := Tryz.zeroValue4
  t5 := Tryz.underlying5
  a5 := Tryz.isAgg5
  z5 := Tryz.sizeOf5
  v5 := Tryz.zeroValue5
  t9 := Tryz.underlying9
  a9 := Tryz.isAgg9
  z9 := Tryz.sizeOf9
  v9 := Tryz.zeroValue9
  t20 := Tryz.underlying20
  a20 := Tryz.isAgg20
  z20 := Tryz.sizeOf20
  v20 := Tryz.zeroValue20
  t37 := Tryz.underlying164
  a37 := Tryz.isAgg164
  z37 := Tryz.sizeOf164
  v37 := Tryz.zeroValue164
  t46 := Tryz.underlying143
  a46 := Tryz.isAgg143
  z46 := Tryz.sizeOf143
  v46 := Tryz.zeroValue143
  t51 := Tryz.underlying180
  a51 := Tryz.isAgg180
  z51 := Tryz.sizeOf180
  v51 := Tryz.zeroValue180
  t53 := Tryz.underlying117
  a53 := Tryz.isAgg117
  z53 := Tryz.sizeOf117
  v53 := Tryz.zeroValue117
  t171 := Tryz.underlying202
  a171 := Tryz.isAgg202
  z171 := Tryz.sizeOf202
  v171 := Tryz.zeroValue202
  t173 := Tryz.underlying205
  a173 := Tryz.isAgg205
  z173 := Tryz.sizeOf205
  v173 := Tryz.zeroValue205
  t212 := Tryz.underlying215
  a212 := Tryz.isAgg215
  z212 := Tryz.sizeOf215
  v212 := Tryz.zeroValue215
  t213 := Tryz.underlying216
  a213 := Tryz.isAgg216
  z213 := Tryz.sizeOf216
  t232 := Tryz.underlying228
  a232 := Tryz.isAgg228
  z232 := Tryz.sizeOf228
  v232 := Tryz.zeroValue228
  t233 := Tryz.underlying229
  a233 := Tryz.isAgg229
  z233 := Tryz.sizeOf229
  v233 := Tryz.zeroValue229
  g17 := by kernel_rfl
  g18 := by kernel_rfl
  g19 := by kernel_rfl }
open Go.RowKit Go.Sort Go.Lib in
/-- THE ROAD WITHOUT THE TABLE: 0 <= i < 100. (LAID: no walk: one application.) -/
theorem Tryz.internal_strconv_Itoa_small (i : Nat) (hi : i < 100) (w : World) :
    Calls Tryz.prog 136 #[.int .i64 i] w fun e w' => e = .returned (.string ⟨(Lib.decDigits i).toArray⟩) ∧ w' = w := Any.internal_strconv_Itoa_small Tryz.lays243 i hi w
def Tryz.laysM171_ren : Go.Shelf.Ren := ⟨fun | 171 => 126 | 243 => 136 | 246 => 145 | 283 => 155 | 284 => 156 | 285 => 157 | 286 => 158 | 129 => 168 | 317 => 167 | 318 => 169 | 319 => 170 | 320 => 171 | 337 => 175 | 338 => 176 | n => n, fun | 3 => 3 | 9 => 9 | 2 => 2 | 4 => 4 | 171 => 202 | 0 => 0 | 53 => 117 | 37 => 164 | 5 => 5 | 173 => 205 | 212 => 215 | 51 => 180 | 20 => 20 | 213 => 216 | 46 => 143 | 232 => 228 | 233 => 229 | n => n, fun | 17 => 8 | 18 => 11 | 19 => 12 | n => n⟩
theorem Tryz.laysM171 : Go.Proofs.LaysM.n171 Tryz.prog Tryz.laysM171_ren := {
  mixed := by kernel_rfl
  f129 := Tryz.func168.trans (congrArg some (by kernel_rfl))
  f171 := Tryz.func126.trans (congrArg some (by kernel_rfl))
  f243 := Tryz.func136.trans (congrArg some (by kernel_rfl))
  f246 := Tryz.func145.trans (congrArg some (by kernel_rfl))
  f283 := Tryz.func155.trans (congrArg some (by kernel_rfl))
  f284 := Tryz.func156.trans (congrArg some (by kernel_rfl))
  f285 := Tryz.func157.trans (congrArg some (by kernel_rfl))
  f286 := Tryz.func158.trans (congrArg some (by kernel_rfl))
  f317 := Tryz.func167.trans (congrArg some (by kernel_rfl))
  f318 := Tryz.func169.trans (congrArg some (by kernel_rfl))
  f319 := Tryz.func170.trans (congrArg some (by kernel_rfl))
  f320 := Tryz.func171.trans (congrArg some (by kernel_rfl))
  f337 := Tryz.func175.trans (congrArg some (by kernel_rfl))
  f338 := Tryz.func176.trans (congrArg some (by kernel_rfl))
  t0 := Tryz.underlying0
  a0 := Tryz.isAgg0
  z0 := Tryz.sizeOf0
  v0 := Tryz.zeroValue0
  t2 := Tryz.underlying2
  a2 := Tryz.isAgg2
  z2 := Tryz.sizeOf2
  v2 := Tryz.zeroValue2
  t3 := Tryz.underlying3
  a3 := Tryz.isAgg3
  z3 := Tryz.sizeOf3
  v3 := Tryz.zeroValue3
  t4 := Tryz.underlying4
  a4 := Tryz.isAgg4
  z4 := Tryz.sizeOf4
  v4 := Tryz.zeroValue4
  t5 := Tryz.underlying5
  a5 := Tryz.isAgg5
  z5 := Tryz.sizeOf5
  v5 := Tryz.zeroValue5
  t9 := Tryz.underlying9
  a9 := Tryz.isAgg9
  z9 := Tryz.sizeOf9
  v9 := Tryz.zeroValue9
  t20 := Tryz.underlying20
  a20 := Tryz.isAgg20
  z20 := Tryz.sizeOf20
  v20 := Tryz.zeroValue20
  t37 := Tryz.underlying164
  a37 := Tryz.isAgg164
  z37 := Tryz.sizeOf164
  v37 := Tryz.zeroValue164
  t46 := Tryz.underlying143
  a46 := Tryz.isAgg143
  z46 := Tryz.sizeOf143
  v46 := Tryz.zeroValue143
  t51 := Tryz.underlying180
  a51 := Tryz.isAgg180
  z51 := Tryz.sizeOf180
  v51 := Tryz.zeroValue180
  t53 := Tryz.underlying117
  a53 := Tryz.isAgg117
  z53 := Tryz.sizeOf117
  v53 := Tryz.zeroValue117
  t171 := Tryz.underlying202
  a171 := Tryz.isAgg202
  z171 := Tryz.sizeOf202
  v171 := Tryz.zeroValue202
  t173 := Tryz.underlying205
  a173 := Tryz.isAgg205
  z173 := Tryz.sizeOf205
  v173 := Tryz.zeroValue205
  t212 := Tryz.underlying215
  a212 := Tryz.isAgg215
  z212 := Tryz.sizeOf215
  v212 := Tryz.zeroValue215
  t213 := Tryz.underlying216
  a213 := Tryz.isAgg216
  z213 := Tryz.sizeOf216
  t232 := Tryz.underlying228
  a232 := Tryz.isAgg228
  z232 := Tryz.sizeOf228
  v232 := Tryz.zeroValue228
  t233 := Tryz.underlying229
  a233 := Tryz.isAgg229
  z233 := Tryz.sizeOf229
  v233 := Tryz.zeroValue229
  g17 := by kernel_rfl
  g18 := by kernel_rfl
  g19 := by kernel_rfl
  i0 := by kernel_rfl
  i2 := by kernel_rfl
  i3 := by kernel_rfl
  i4 := by kernel_rfl
  i5 := by kernel_rfl
  i9 := by kernel_rfl
  i20 := by kernel_rfl
  i37 := by kernel_rfl
  i46 := by kernel_rfl
  i51 := by kernel_rfl
  i53 := by kernel_rfl
  i171 := by kernel_rfl
  i173 := by kernel_rfl
  i212 := by kernel_rfl
  i232 := by kernel_rfl
  i233 := by kernel_rfl
  m17 := by kernel_rfl
  m18 := by kernel_rfl
  m19 := by kernel_rfl }
open Go.RowKit Go.Sort Go.Lib in
/-- strconv.Itoa: "Itoa is equivalent to FormatInt(int64(i), 10).": i's DECIMAL NUMERAL ('Lib.itoa': a '-' where i is negative, then the digits), FOR EVERY int. The world behind the call: the world before it, new blocks behind the heap (the library's 'var a [24]byte'), draws. (LAID: no walk: one application.) -/
theorem Tryz.strconv_Itoa (n : Int) (h0 : -9223372036854775808 ≤ n) (h1 : n ≤ 9223372036854775807) (w : World) (htab : Lib.TabIs Tryz.prog w "internal/strconv.uint64pow10" .u64 Lib.pow10Tab) :
    Calls Tryz.prog 126 #[.int .i64 n] w fun e w' => e = .returned (.string ⟨(Lib.itoa n).toArray⟩) ∧ ∃ k os, w' = grow (w.drewN k) os := Any.strconv_Itoa Tryz.laysM171 n h0 h1 w htab
def Tryz.lays171_ren : Go.Shelf.Ren := ⟨fun | 171 => 126 | 243 => 136 | 246 => 145 | 283 => 155 | 284 => 156 | 285 => 157 | 286 => 158 | 129 => 168 | 317 => 167 | 318 => 169 | 319 => 170 | 320 => 171 | 337 => 175 | 338 => 176 | n => n, fun | 3 => 3 | 9 => 9 | 2 => 2 | 4 => 4 | 171 => 202 | 0 => 0 | 53 => 117 | 37 => 164 | 5 => 5 | 173 => 205 | 212 => 215 | 51 => 180 | 20 => 20 | 213 => 216 | 46 => 143 | 232 => 228 | 233 => 229 | n => n, fun | 17 => 8 | 18 => 11 | 19 => 12 | n => n⟩
theorem Tryz.lays171 : Go.Proofs.Lays.n171 Tryz.prog Tryz.lays171_ren := {
  mixed := by kernel_rfl
  f129 := Tryz.func168.trans (congrArg some (by kernel_rfl))
  f171 := Tryz.func126.trans (congrArg some (by kernel_rfl))
  f243 := Tryz.func136.trans (congrArg some (by kernel_rfl))
  f246 := Tryz.func145.trans (congrArg some (by kernel_rfl))
  f283 := Tryz.func155.trans (congrArg some (by kernel_rfl))
  f284 := Tryz.func156.trans (congrArg some (by kernel_rfl))
  f285 := Tryz.func157.trans (congrArg some (by kernel_rfl))
  f286 := Tryz.func158.trans (congrArg some (by kernel_rfl))
  f317 := Tryz.func167.trans (congrArg some (by kernel_rfl))
  f318 := Tryz.func169.trans (congrArg some (by kernel_rfl))
  f319 := Tryz.func170.trans (congrArg some (by kernel_rfl))
  f320 := Tryz.func171.trans (congrArg some (by kernel_rfl))
  f337 := Tryz.func175.trans (congrArg some (by kernel_rfl))
  f338 := Tryz.func176.trans (congrArg some (by kernel_rfl))
  t0 := Tryz.underlying0
  a0 := Tryz.isAgg0
  z0 := Tryz.sizeOf0
  v0 := Tryz.zeroValue0
  t2 := Tryz.underlying2
  a2 := Tryz.isAgg2
  z2 := Tryz.sizeOf2
  v2 := Tryz.zeroValue2
  t3 := Tryz.underlying3
  a3 := Tryz.isAgg3
  z3 := Tryz.sizeOf3
  v3 := Tryz.zeroValue3
  t4 := Tryz.underlying4
  a4 := Tryz.isAgg4
  z4 := Tryz.sizeOf4
  v4 := Tryz.zeroValue4
  t5 := Tryz.underlying5
  a5 := Tryz.isAgg5
  z5 := Tryz.sizeOf5
  v5 := Tryz.zeroValue5
  t9 := Tryz.underlying9
  a9 := Tryz.isAgg9
  z9 := Tryz.sizeOf9
  v9 := Tryz.zeroValue9
  t20 := Tryz.underlying20
  a20 := Tryz.isAgg20
  z20 := Tryz.sizeOf20
  v20 := Tryz.zeroValue20
  t37 := Tryz.underlying164
  a37 := Tryz.isAgg164
  z37 := Tryz.sizeOf164
  v37 := Tryz.zeroValue164
  t46 := Tryz.underlying143
  a46 := Tryz.isAgg143
  z46 := Tryz.sizeOf143
  v46 := Tryz.zeroValue143
  t51 := Tryz.underlying180
  a51 := Tryz.isAgg180
  z51 := Tryz.sizeOf180
  v51 := Tryz.zeroValue180
  t53 := Tryz.underlying117
  a53 := Tryz.isAgg117
  z53 := Tryz.sizeOf117
  v53 := Tryz.zeroValue117
  t171 := Tryz.underlying202
  a171 := Tryz.isAgg202
  z171 := Tryz.sizeOf202
  v171 := Tryz.zeroValue202
  t173 := Tryz.underlying205
  a173 := Tryz.isAgg205
  z173 := Tryz.sizeOf205
  v173 := Tryz.zeroValue205
  t212 := Tryz.underlying215
  a212 := Tryz.isAgg215
  z212 := Tryz.sizeOf215
  v212 := Tryz.zeroValue215
  t213 := Tryz.underlying216
  a213 := Tryz.isAgg216
  z213 := Tryz.sizeOf216
  t232 := Tryz.underlying228
  a232 := Tryz.isAgg228
  z232 := Tryz.sizeOf228
  v232 := Tryz.zeroValue228
  t233 := Tryz.underlying229
  a233 := Tryz.isAgg229
  z233 := Tryz.sizeOf229
  v233 := Tryz.zeroValue229
  g17 := by kernel_rfl
  g18 := by kernel_rfl
  g19 := by kernel_rfl }
open Go.RowKit Go.Sort Go.Lib in
/-- THE ROAD WITHOUT THE TABLE: 0 <= i < 100: NO PREMISE ON THE WORLD, AND THE WORLD IS AS IT WAS: a row that keeps its argument in that range need list no table ('laid = []'). (LAID: no walk: one application.) -/
theorem Tryz.strconv_Itoa_small (i : Nat) (hi : i < 100) (w : World) :
    Calls Tryz.prog 126 #[.int .i64 i] w fun e w' => e = .returned (.string ⟨(Lib.decDigits i).toArray⟩) ∧ w' = w := Any.strconv_Itoa_small Tryz.lays171 i hi w
end Go.Proofs

/- The program's number's text: impl.NumText gives the decimal numeral, where the library's table of powers of ten lies as its initialiser lays it. -/
namespace Go.Proofs.YtbbmpfkijhhemabGreatDoor
open Go.ChangeShapes Go.WideShapes Go.ChangeAt Go.RowKit Go.Joins

def Tab (w : World) : Prop := Lib.TabIs Tryz.prog w "internal/strconv.uint64pow10" .u64 Lib.pow10Tab

theorem gPow : Tryz.prog.globalNamed "internal/strconv.uint64pow10" = some 8 := by kernel_rfl

theorem grown_below (w : World) (k : Nat) (os : Array Obj) : Below w.heap.size w (Sort.grow (w.drewN k) os) :=
  ⟨rfl, rfl, rfl, by simp [Sort.grow], fun j hj => by
    have hj' : j < (w.drewN k).heap.size := hj
    show ((w.drewN k).heap ++ os)[j]? = w.heap[j]?
    rw [Array.getElem?_append_left hj']
    rfl⟩

theorem Tab.below {w w' : World} {B : Nat} (h : Tab w) (hb : Below B w w') (hB : 8 < B) : Tab w' := by
  unfold Tab Lib.TabIs at h ⊢
  rw [← h]
  unfold World.var?
  simp only [gPow, Option.bind_some]
  rw [hb.block _ hB]

theorem Tab.lt {w : World} (h : Tab w) : 8 < w.heap.size := by
  have := h.cell gPow 0 (by simp [Lib.pow10Tab])
  exact block_lt_of_cell this

set_option maxRecDepth 100000 in
theorem implNum (n : Int) (w : World) (h0 : -9223372036854775808 ≤ n) (h1 : n ≤ 9223372036854775807) (ht : Tab w) :
    Calls Tryz.prog 119 #[.int .i64 n] w fun e w' => e = .returned (.string ⟨(Lib.itoa n).toArray⟩) ∧ Below w.heap.size w w' := by
  have HT : Hid (Tab w) := ht
  clear ht
  go_enter Tryz.func119, Tryz.ntmps119
  go_wp2_with fail
  refine (Tryz.strconv_Itoa n h0 h1 _ HT.out).mono ?_
  rintro e w1 ⟨rfl, k, os, rfl⟩
  have HB := Lib.hid (grown_below w k os)
  generalize Sort.grow (w.drewN k) os = w2 at HB ⊢
  go_wp2
  go_ret
  exact ⟨rfl, HB.out⟩
end Go.Proofs.YtbbmpfkijhhemabGreatDoor

/- The lines of a batch's head and of its sum: the contracts of impl.headLine and impl.sumLine. -/
namespace Go.Proofs.YtbbmpfkijhhemabGreatDoor
open Go.ChangeShapes Go.WideShapes Go.ChangeAt Go.RowKit Go.Joins
attribute [local go_sem ↓] Go.wp_at_zero Go.wp_at_succ

set_option maxRecDepth 100000 in
set_option maxHeartbeats 2000000 in
theorem headLine_any (n : Nat) (w : World) (hn : n ≤ 6) (ht : Tab w) :
    Calls Tryz.prog 114 #[.int .i64 (n : Int)] w fun e w' => e = .returned (.string (str (headB n ++ [10]))) ∧ Below w.heap.size w w' := by
  have HE : Hid ((⟨#[98, 97, 116, 99, 104, 32]⟩ : ByteArray) ++ ⟨(Lib.itoa (n : Int)).toArray⟩ ++ ⟨#[10]⟩ = str (headB n ++ [10])) := by
    have e1 : (⟨#[98, 97, 116, 99, 104, 32]⟩ : ByteArray) = str [98, 97, 116, 99, 104, 32] := rfl
    have e2 : (⟨(Lib.itoa (n : Int)).toArray⟩ : ByteArray) = str (Lib.itoa (n : Int)) := rfl
    have e3 : (⟨#[10]⟩ : ByteArray) = str [10] := rfl
    show _ = _
    rw [e1, e2, e3, str_add, str_add]
    rfl
  have z0 : (⟨(Lib.itoa (n : Int)).toArray⟩ : ByteArray).size ≤ 21 := by
    have := Lib.itoa_length_le (n : Int) (by omega) (by omega)
    simpa [ByteArray.size] using this
  have HT := Lib.hid ht
  clear ht
  go_enter Tryz.func114, Tryz.ntmps114
  go_wp2_with fail
  refine (implNum (n : Int) _ (by omega) (by omega) HT.out).mono ?_
  rintro e w1 ⟨rfl, hb⟩
  have HB := Lib.hid hb
  clear hb
  generalize (⟨(Lib.itoa (n : Int)).toArray⟩ : ByteArray) = t0 at *
  have z1 : ((⟨#[98, 97, 116, 99, 104, 32]⟩ : ByteArray) ++ t0).size ≤ 27 := by
    rw [ByteArray.size_append]
    have : (⟨#[98, 97, 116, 99, 104, 32]⟩ : ByteArray).size = 6 := rfl
    omega
  have z2 : ((⟨#[98, 97, 116, 99, 104, 32]⟩ : ByteArray) ++ t0 ++ ⟨#[10]⟩).size ≤ 28 := by
    rw [ByteArray.size_append]
    have : (⟨#[10]⟩ : ByteArray).size = 1 := rfl
    omega
  go_wp2
  go_ret
  exact ⟨by rw [← HE.out]; rfl, HB.out⟩

/-- The line of the sum of this text. -/
def sumL (bs : List UInt8) : List UInt8 := [115, 117, 109, 32] ++ Lib.itoa (crcL bs : Int)

set_option maxRecDepth 100000 in
theorem sumL_size (bs : List UInt8) : (sumL bs).length ≤ 25 := by
  have h := crcL_bd bs
  have := Lib.itoa_length_le ((crcL bs : Nat) : Int) (by omega) (by omega)
  unfold sumL
  simp
  omega

set_option maxRecDepth 100000 in
set_option maxHeartbeats 2000000 in
theorem sumLine_any (s : ByteArray) (w : World) (hs : s.size ≤ 1048576) (ht : Tab w) :
    Calls Tryz.prog 117 #[.string s] w fun e w' => e = .returned (.string (str (sumL s.data.toList ++ [10]))) ∧ Below w.heap.size w w' := by
  have hcb := crcL_bd s.data.toList
  have HE : Hid ((⟨#[115, 117, 109, 32]⟩ : ByteArray) ++ ⟨(Lib.itoa ((crcL s.data.toList : Nat) : Int)).toArray⟩ ++ ⟨#[10]⟩ = str (sumL s.data.toList ++ [10])) := by
    have e1 : (⟨#[115, 117, 109, 32]⟩ : ByteArray) = str [115, 117, 109, 32] := rfl
    have e2 : (⟨(Lib.itoa ((crcL s.data.toList : Nat) : Int)).toArray⟩ : ByteArray) = str (Lib.itoa ((crcL s.data.toList : Nat) : Int)) := rfl
    have e3 : (⟨#[10]⟩ : ByteArray) = str [10] := rfl
    show _ = _
    rw [e1, e2, e3, str_add, str_add]
    rfl
  have z0 : (⟨(Lib.itoa ((crcL s.data.toList : Nat) : Int)).toArray⟩ : ByteArray).size ≤ 21 := by
    have := Lib.itoa_length_le ((crcL s.data.toList : Nat) : Int) (by omega) (by omega)
    simpa [ByteArray.size] using this
  have HT := Lib.hid ht
  clear ht
  go_enter Tryz.func117, Tryz.ntmps117
  go_wp2_with fail
  refine (implCrc_any s _ (by omega)).mono ?_
  rintro e w1 ⟨rfl, hw⟩
  subst w1
  go_wp2_with fail
  refine (implNum ((crcL s.data.toList : Nat) : Int) _ (by omega) (by omega) HT.out).mono ?_
  rintro e w1 ⟨rfl, hb⟩
  have HB := Lib.hid hb
  clear hb
  generalize (⟨(Lib.itoa ((crcL s.data.toList : Nat) : Int)).toArray⟩ : ByteArray) = t0 at *
  have z1 : ((⟨#[115, 117, 109, 32]⟩ : ByteArray) ++ t0).size ≤ 25 := by
    rw [ByteArray.size_append]
    have : (⟨#[115, 117, 109, 32]⟩ : ByteArray).size = 4 := rfl
    omega
  have z2 : ((⟨#[115, 117, 109, 32]⟩ : ByteArray) ++ t0 ++ ⟨#[10]⟩).size ≤ 26 := by
    rw [ByteArray.size_append]
    have : (⟨#[10]⟩ : ByteArray).size = 1 := rfl
    omega
  go_wp2
  go_ret
  exact ⟨by rw [← HE.out]; rfl, HB.out⟩

end Go.Proofs.YtbbmpfkijhhemabGreatDoor

/- The contract of impl.writeOfNums. -/
namespace Go.Proofs.YtbbmpfkijhhemabGreatDoor
open Go.ChangeShapes Go.WideShapes Go.ChangeAt Go.RowKit Go.Joins

/-- A row of numbers, read only. -/
def NumRow (w : World) (g : Nat) (zs : List Int) : Prop := g < w.heap.size ∧ ∀ i, i < zs.length → w.cell? ⟨g, i, none⟩ = some (.int .i64 (zs.getD i 0))

set_option maxRecDepth 100000 in
theorem NumRow.hole {w w' : World} {g B : Nat} {zs : List Int} (h : NumRow w g zs) (hh : Hole B w w') (hn : g ≠ B) : NumRow w' g zs := ⟨Nat.lt_of_lt_of_le h.1 hh.size, fun i hi => (hh.cell h.1 hn).trans (h.2 i hi)⟩

set_option maxRecDepth 100000 in
theorem NumRow.below {w w' : World} {g : Nat} {zs : List Int} (h : NumRow w g zs) (hb : Below w.heap.size w w') : NumRow w' g zs := ⟨Nat.lt_of_lt_of_le h.1 hb.size, fun i hi => (hb.cell (p := ⟨g, i, none⟩) h.1).trans (h.2 i hi)⟩

/-- A tag in a block of its own. -/
structure TBox (w : World) (b : Nat) (c s q : Int) : Prop where
  lt : b < w.heap.size
  c0 : w.cell? ⟨b, 0, none⟩ = some (.int .i64 c)
  c1 : w.cell? ⟨b, 1, none⟩ = some (.int .i64 s)
  c2 : w.cell? ⟨b, 2, none⟩ = some (.int .i64 q)
  fz : ∀ o, w.frozen? ⟨b, o, none⟩ = false

set_option maxRecDepth 100000 in
theorem TBox.start (w : World) (c s q : Int) (t : Nat) : TBox (w.alloc (.cells #[.int .i64 c, .int .i64 s, .int .i64 q] t)) w.heap.size c s q := ⟨by simp, by simp [go_sem], by simp [go_sem], by simp [go_sem], fun o => by simp [go_sem]⟩

set_option maxRecDepth 100000 in
theorem TBox.of_block {w w' : World} {b : Nat} {c s q : Int} (h : TBox w b c s q) (hs : w.heap.size ≤ w'.heap.size) (hb : w'.heap[b]? = w.heap[b]?) : TBox w' b c s q := by
  have e : ∀ o, w'.cell? ⟨b, o, none⟩ = w.cell? ⟨b, o, none⟩ := fun o => World.cell?_of_block (a := ⟨b, o, none⟩) hb
  exact ⟨Nat.lt_of_lt_of_le h.lt hs, (e 0).trans h.c0, (e 1).trans h.c1, (e 2).trans h.c2, fun o => (frozen_ofb hb).trans (h.fz o)⟩

def put3 (w : World) (R : Nat) (c s q : Int) : World := ((w.setCell ⟨R, 0, none⟩ (.int .i64 c)).setCell ⟨R, 1, none⟩ (.int .i64 s)).setCell ⟨R, 2, none⟩ (.int .i64 q)

set_option maxRecDepth 100000 in
theorem TBox.put3 {w : World} {b : Nat} {c s q : Int} (h : TBox w b c s q) (c' s' q' : Int) : TBox (put3 w b c' s' q') b c' s' q' :=
  have h0 : TBox (w.setCell ⟨b, 0, none⟩ (.int .i64 c')) b c' s q := ⟨by simpa [World.setCell] using h.lt, cell_set_same h.c0, cell_set_off h.c1 (by omega), cell_set_off h.c2 (by omega), fun o => by rw [World.frozen?_setCell]; exact h.fz o⟩
  have h1 : TBox ((w.setCell ⟨b, 0, none⟩ (.int .i64 c')).setCell ⟨b, 1, none⟩ (.int .i64 s')) b c' s' q := ⟨by simpa [World.setCell] using h0.lt, cell_set_off h0.c0 (by omega), cell_set_same h0.c1, cell_set_off h0.c2 (by omega), fun o => by rw [World.frozen?_setCell]; exact h0.fz o⟩
  ⟨by simpa [Go.Proofs.YtbbmpfkijhhemabGreatDoor.put3, World.setCell] using h1.lt, cell_set_off h1.c0 (by omega), cell_set_off h1.c1 (by omega), cell_set_same h1.c2, fun o => by unfold Go.Proofs.YtbbmpfkijhhemabGreatDoor.put3; rw [World.frozen?_setCell]; exact h1.fz o⟩

set_option maxRecDepth 100000 in
theorem Hole.put3 {B : Nat} {w w' : World} (h : Hole B w w') (c s q : Int) : Hole B w (put3 w' B c s q) := ((h.set 0 _).set 1 _).set 2 _

/-- A new tag's block. -/
def TagF (lo : Nat) : Fact := fun v w => ∃ b, v = .pointer (some ⟨b, 0, none⟩) ∧ lo ≤ b ∧ TBox w b 0 0 0

set_option maxRecDepth 100000 in
theorem lasts_tag (lo : Nat) : lasts (fun w w' => Below w.heap.size w w') (TagF lo) := by
  rintro v w w' ⟨b, h1, h2, h3⟩ hr
  exact ⟨b, h1, h2, h3.of_block hr.size (hr.block b h3.lt)⟩

set_option maxRecDepth 100000 in
theorem tag_mk (w : World) (lo : Nat) (h : lo ≤ w.heap.size) : TagF lo (.pointer (some ⟨w.heap.size, 0, none⟩)) (w.alloc (.cells #[.int .i64 0, .int .i64 0, .int .i64 0] 40)) := ⟨_, rfl, h, TBox.start w 0 0 0 _⟩

set_option maxRecDepth 100000 in
theorem appQ_tag {z : Tmp} {ob : Option Nat} {d : Option Tmp} {w w' : World} {b : Nat} {c s q : Int} (h : TBox w b c s q) (hr : AppQ z ob d w w') (hne : ¬ ob = some b) : TBox w' b c s q := by
  unfold AppQ at hr
  split at hr
  · exact h.of_block hr.size (hr.block b h.lt fun e => hne e.symm)
  · exact h.of_block hr.size (hr.block b h.lt)

set_option maxRecDepth 100000 in
set_option maxHeartbeats 8000000 in
theorem ofNums_some (g n D : Nat) (zs : List Int) (w : World) (hn : n = 8 + 4 * D) (hD : D ≤ 100) (h8 : ¬ n = 8) (hl : zs.length = n) (hr : NumRow w g zs) :
    Calls Tryz.prog 121 #[.slice (some ⟨g, 0, none⟩) n n] w fun e w' => ∃ a cp, e = .returned (wrV (zs.getD 1 0) (zs.getD 2 0) (zs.getD 3 0) (zs.getD 4 0) (zs.getD 5 0) (zs.getD 6 0 == 1) a D cp) ∧ RowD w' w.heap.size (.slice a D cp) (parseD (zs.drop 8)) ∧ Below w.heap.size w w' := by
  have HR := Lib.hid hr
  have HL := Lib.hid hl
  have HN := Lib.hid hn
  have hgl : g < w.heap.size := hr.1
  have j1 : (1 : Int) < (n : Int) := by omega
  have j2 : (2 : Int) < (n : Int) := by omega
  have j3 : (3 : Int) < (n : Int) := by omega
  have j4 : (4 : Int) < (n : Int) := by omega
  have j5 : (5 : Int) < (n : Int) := by omega
  have j6 : (6 : Int) < (n : Int) := by omega
  have j8 : (8 : Int) ≤ (n : Int) := by omega
  obtain ⟨hd1, hd2⟩ := parseD_at D (l := zs.drop 8) (by rw [List.length_drop, hl]; omega)
  obtain ⟨ds, hds⟩ : ∃ ds, parseD (zs.drop 8) = ds := ⟨_, rfl⟩
  rw [hds] at hd1 hd2 ⊢
  have HDN := Lib.hid hd1
  have HDA : Hid (∀ o, o < D → ds.getD o dz = ⟨zs.getD (8 + 4 * o) 0, zs.getD (8 + 4 * o + 1) 0, zs.getD (8 + 4 * o + 2) 0, zs.getD (8 + 4 * o + 3) 0⟩) := fun o ho => by
    rw [hd2 o ho]
    simp only [drop_getD, Nat.add_assoc]
  have HR0 : Hid (RBox (w.alloc (.cells #[.int .i64 0, .int .i64 0, .int .i64 0, .int .i64 0, .int .i64 0, .bool false, .slice none 0 0] 43)) w.heap.size 0 0 0 0 0 false none 0 0) := RBox.start w 0 0 0 0 0 false none 0 0 _
  have HB0 : Hid (Below w.heap.size w (w.alloc (.cells #[.int .i64 0, .int .i64 0, .int .i64 0, .int .i64 0, .int .i64 0, .bool false, .slice none 0 0] 43))) := (Below.refl _ _).alloc (Nat.le_refl _) _
  have hz0 : w.heap.size < (w.alloc (.cells #[.int .i64 0, .int .i64 0, .int .i64 0, .int .i64 0, .int .i64 0, .bool false, .slice none 0 0] 43)).heap.size := by simp
  have HR1 := Lib.hid (HR.out.below HB0.out)
  have HCE : Hid (∀ w', Below (w.alloc (.cells #[.int .i64 0, .int .i64 0, .int .i64 0, .int .i64 0, .int .i64 0, .bool false, .slice none 0 0] 43)).heap.size (w.alloc (.cells #[.int .i64 0, .int .i64 0, .int .i64 0, .int .i64 0, .int .i64 0, .bool false, .slice none 0 0] 43)) w' → w'.cell? ⟨g, 1, none⟩ = some (.int .i64 (zs.getD 1 0)) ∧ w'.cell? ⟨g, 2, none⟩ = some (.int .i64 (zs.getD 2 0)) ∧ w'.cell? ⟨g, 3, none⟩ = some (.int .i64 (zs.getD 3 0)) ∧ w'.cell? ⟨g, 4, none⟩ = some (.int .i64 (zs.getD 4 0)) ∧ w'.cell? ⟨g, 5, none⟩ = some (.int .i64 (zs.getD 5 0)) ∧ w'.cell? ⟨g, 6, none⟩ = some (.int .i64 (zs.getD 6 0))) := fun w' hb => by
    have h1 := HR1.out.below hb
    exact ⟨h1.2 1 (by omega), h1.2 2 (by omega), h1.2 3 (by omega), h1.2 4 (by omega), h1.2 5 (by omega), h1.2 6 (by omega)⟩
  clear hr hl hd1 hd2 hds HR hn
  generalize zs.getD 1 0 = n0 at *
  generalize zs.getD 2 0 = n1 at *
  generalize zs.getD 3 0 = n2 at *
  generalize zs.getD 4 0 = n3 at *
  generalize zs.getD 5 0 = n4 at *
  generalize zs.getD 6 0 = n5 at *
  go_enter Tryz.func121, Tryz.ntmps121
  go_wp2_with fail
  generalize w.alloc (.cells #[.int .i64 0, .int .i64 0, .int .i64 0, .int .i64 0, .int .i64 0, .bool false, .slice none 0 0] 43) = W0 at *
  refine wp_region_slots 22 [[(0, false)], [(6, true)], [(7, true)], [(0, false)], [(9, true)], [(10, true)], [(0, false)], [(12, true)], [(13, true)], [(0, false)], [(15, true)], [(16, true)], [(11, true), (14, true), (17, true)], [(0, false)], [(19, true)], [(20, true)], [(0, false)], [(22, true)], [(23, true)], [(24, true)], [(8, true), (18, true), (21, true), (25, true)], []] (fun w' => Below W0.heap.size W0 w') (fun w w' => Below w.heap.size w w') (by kernel_rfl) (by kernel_rfl) (by rfl) (Below.refl _ _).drew (fun _ _ h hr => below_step h h.size hr) ?_
  iterate 21 (apply slot_eq; · (intro ρ w' ⟨p1, p2, p3⟩ hS hn; obtain ⟨e0, e1, e2, e3, e4, e5⟩ := HCE.out w' hS; simp at hn; go_simp; exact ⟨Below.refl _ _, rfl⟩))
  refine slot_fact (BoxF W0.heap.size) (lasts_boxR _) ?_ ?_
  · intro ρ w' ⟨p1, p2, p3⟩ hS hn
    have hsz := hS.size
    go_simp
    exact ⟨(Below.refl _ _).alloc (Nat.le_refl _) _, box_mk w' _ hsz⟩
  refine slot_end ?_
  intro tv w4 hS hF
  simp at hF
  obtain ⟨⟨T, f3, hTl, hbox⟩, f26, f25, f24, f23, f22, f21, f20, f19, f18, f17, f16, f15, f14, f13, f12, f11, f10, f9, f8, f7, f6⟩ := hF
  have hs4 : W0.heap.size ≤ w4.heap.size := hS.size
  have HBX := Lib.hid hbox
  have HR4 := Lib.hid (HR1.out.below hS)
  have HX4 := Lib.hid (HR0.out.below hS hz0)
  have HBW4 : Hid (Below w.heap.size w w4) := below_step HB0.out HB0.out.size hS
  simp only [List.take_succ_cons, List.take_zero, List.drop_succ_cons, List.drop_zero, putAll, f3, f26, f25, f24, f23, f22, f21, f20, f19, f18, f17, f16, f15, f14, f13, f12, f11, f10, f9, f8, f7, f6]
  clear f3 f26 f25 f24 f23 f22 f21 f20 f19 f18 f17 f16 f15 f14 f13 f12 f11 f10 f9 f8 f7 f6 hS hbox HCE HR1 HR0 HB0
  simp only [Act.put, List.setIfInBounds_toArray, List.set_cons_succ, List.set_cons_zero]
  obtain ⟨yl, y0, y1, y2, y3, y4, y5, y6, yf⟩ := HBX.out
  go_wp2
  obtain ⟨q, hq⟩ : ∃ q, n - 8 = q := ⟨_, rfl⟩
  rw [hq]
  obtain ⟨Wl, hWl⟩ : ∃ Wl, put7 w4 T n0 n1 n2 n3 n4 (n5 == 1) none 0 0 = Wl := ⟨_, rfl⟩
  have HHL : Hid (Hole T w4 Wl) := by rw [← hWl]; exact (Hole.refl _ _).put7 _ _ _ _ _ _ _ _ _
  have HBL : Hid (RBox Wl T n0 n1 n2 n3 n4 (n5 == 1) none 0 0) := by rw [← hWl]; exact HBX.out.put7 _ _ _ _ _ _ _ _ _
  unfold put7 at hWl
  rw [hWl]
  clear hWl y0 y1 y2 y3 y4 y5 y6 yf
  have hgT : g ≠ T := by omega
  have hTl4 : T < w4.heap.size := HBX.out.lt
  have HRL := Lib.hid (HR4.out.hole HHL.out hgT)
  have HXL := Lib.hid (HX4.out.hole HHL.out (by omega))
  have HBWL : Hid (Below w.heap.size w Wl) := Hole.below HBW4.out HHL.out (by omega) HBW4.out.size
  have hsl : w4.heap.size ≤ Wl.heap.size := HHL.out.size
  obtain ⟨i1, hi1, hx1⟩ := Option.map_eq_some_iff.1 infoDep
  simp only [Prod.mk.injEq] at hx1
  have HI1 := Lib.hid hi1
  have HX1 := Lib.hid hx1
  have HQ : Hid (q = 4 * (D - 0)) := by
    have := HN.out
    show q = _
    omega
  clear hi1 hx1 HBX HR4 HX4 HBW4 HHL yl hq
  go_loopw [4] (fun r wr => ∃ (o q : Nat) (ad x : Option Addr) (cpd : Nat), o ≤ D ∧ Hid (q = 4 * (D - o)) ∧ r = .slice ad q q ∧ Hid (o < D → ad = some ⟨g, 8 + 4 * o, none⟩) ∧ Hid (Hole T Wl wr) ∧ Hid (RBox wr T n0 n1 n2 n3 n4 (n5 == 1) x o cpd) ∧ Hid (RowD wr Wl.heap.size (.slice x o cpd) (ds.take o))) (fun r _ => (match r with | .slice _ k _ => k | _ => 0))
  case atStart => exact ⟨0, q, _, none, 0, Nat.zero_le _, HQ, rfl, fun _ => rfl, Hole.refl _ _, HBL, World.ownsRow_nil _ _ _ _⟩
  case round =>
    clear HQ
    obtain ⟨o, q, ad, x, cpd, ho, HQ, rfl, HAD, HH, HX, HRD⟩ := hrel
    by_cases ho' : o < D
    · obtain rfl := HAD.out ho'
      have hq4 : 4 ≤ q := by have := HQ.out; omega
      have q1 : (1 : Int) < (q : Int) := by omega
      have q2 : (2 : Int) < (q : Int) := by omega
      have q3 : (3 : Int) < (q : Int) := by omega
      have q5 : 0 < q := by omega
      have q4 : (4 : Int) ≤ (q : Int) := by omega
      have hTl2 : T < Wl.heap.size := by omega
      have HDE := Lib.hid (HDA.out o ho')
      have HCE : Hid (∀ w', Hole T Wl w' → w'.cell? ⟨g, 8 + 4 * o, none⟩ = some (.int .i64 (zs.getD (8 + 4 * o) 0)) ∧ w'.cell? ⟨g, 8 + 4 * o + 1, none⟩ = some (.int .i64 (zs.getD (8 + 4 * o + 1) 0)) ∧ w'.cell? ⟨g, 8 + 4 * o + 2, none⟩ = some (.int .i64 (zs.getD (8 + 4 * o + 2) 0)) ∧ w'.cell? ⟨g, 8 + 4 * o + 3, none⟩ = some (.int .i64 (zs.getD (8 + 4 * o + 3) 0))) := fun w' hh => by
        have h1 := HRL.out.hole hh hgT
        have h2 : zs.length = n := HL.out
        have h3 := HN.out
        exact ⟨h1.2 _ (by omega), h1.2 _ (by omega), h1.2 _ (by omega), h1.2 _ (by omega)⟩
      have HAD2 : Hid (∀ p, p = 8 + 4 * o → o + 1 < D → (some ⟨g, p + 4, none⟩ : Option Addr) = some ⟨g, 8 + 4 * (o + 1), none⟩) := fun p hp _ => by rw [hp]; congr 2
      have HQ2 : Hid (q - 4 = 4 * (D - (o + 1))) := by have := HQ.out; show _ = _; omega
      generalize zs.getD (8 + 4 * o) 0 = yk at *
      generalize zs.getD (8 + 4 * o + 1) 0 = yc at *
      generalize zs.getD (8 + 4 * o + 2) 0 = ys at *
      generalize zs.getD (8 + 4 * o + 3) 0 = yq at *
      have HTK : Hid (ds.take (o + 1) = ds.take o ++ [⟨yk, yc, ys, yq⟩]) := by
        have hol : o < ds.length := by rw [HDN.out]; exact ho'
        rw [← HDE.out]
        show _ = _
        rw [List.take_succ_eq_append_getElem hol]
        simp [List.getD, hol]
      have HTL : Hid ((ds.take o).length = o) := by
        show _ = _
        rw [List.length_take, HDN.out]
        omega
      have HQF := Lib.hid HQ.out
      obtain ⟨p, hp⟩ : ∃ p, 8 + 4 * o = p := ⟨_, rfl⟩
      rw [hp] at HCE ⊢
      have HPP := Lib.hid hp
      clear HDE hp HAD HQ
      go_wp2_with fail
      refine wp_region_slots 11 [[(4, false)], [(34, true)], [(35, true)], [(4, false)], [(37, true)], [(38, true)], [(4, false)], [(40, true)], [(41, true)], [(36, true), (39, true), (42, true)], []] (fun w' => Below wr.heap.size wr w') (fun w w' => Below w.heap.size w w') (by kernel_rfl) (by kernel_rfl) (by rfl) (Below.refl _ _).drew (fun _ _ h hr => below_step h h.size hr) ?_
      iterate 10 (apply slot_eq; · (intro ρ w' ⟨p1, p2, p3⟩ hS hn; obtain ⟨s0, s1, s2, s3⟩ := HCE.out w' (HH.out.trans (Hole.of_below hS)); simp at hn; go_simp; exact ⟨Below.refl _ _, rfl⟩))
      refine slot_fact (TagF wr.heap.size) (lasts_tag _) ?_ ?_
      · intro ρ w' ⟨p1, p2, p3⟩ hS hn
        have hsz := hS.size
        go_simp
        exact ⟨(Below.refl _ _).alloc (Nat.le_refl _) _, tag_mk w' _ hsz⟩
      refine slot_end ?_
      intro tv w5 hS hF
      simp at hF
      obtain ⟨⟨b, f5, hbl, hbox⟩, f43, f42, f41, f40, f39, f38, f37, f36, f35, f34⟩ := hF
      have HBB := Lib.hid hbox
      have hwl : Wl.heap.size ≤ wr.heap.size := HH.out.size
      have hOB : ∀ k, (Value.slice x o cpd).ownBlock = some k → Wl.heap.size ≤ k ∧ k < wr.heap.size := fun k hk => World.ownsRow.lt HRD.out k hk
      have HH5 := Lib.hid (HH.out.trans (Hole.of_below hS))
      have HX5 := Lib.hid (HX.out.below hS HX.out.lt)
      have HRD5 := Lib.hid (HRD.out.below hS)
      simp only [List.take_succ_cons, List.take_zero, List.drop_succ_cons, List.drop_zero, putAll, f5, f43, f42, f41, f40, f39, f38, f37, f36, f35, f34]
      clear f5 f43 f42 f41 f40 f39 f38 f37 f36 f35 f34 hS hbox HH HX HRD
      simp only [Act.put, List.setIfInBounds_toArray, List.set_cons_succ, List.set_cons_zero]
      obtain ⟨yl, y0, y1, y2, yf⟩ := HBB.out
      go_wp2_with fail
      obtain ⟨Wt, hWt⟩ : ∃ Wt, put3 w5 b yc ys yq = Wt := ⟨_, rfl⟩
      have HTB : Hid (TBox Wt b yc ys yq) := by rw [← hWt]; exact HBB.out.put3 _ _ _
      have hHb : Hole b w5 Wt := by rw [← hWt]; exact (Hole.refl _ _).put3 _ _ _
      unfold put3 at hWt
      rw [hWt]
      have HHt : Hid (Hole T Wl Wt) := ⟨hHb.os.trans HH5.out.os, hHb.tape.trans HH5.out.tape, hHb.output.trans HH5.out.output, Nat.le_trans HH5.out.size hHb.size, fun k hk hn => (hHb.block k (Nat.lt_of_lt_of_le hk HH5.out.size) (by omega)).trans (HH5.out.block k hk hn)⟩
      have HXt := Lib.hid (HX5.out.hole hHb (by omega))
      have HRt : Hid (RowD Wt Wl.heap.size (.slice x o cpd) (ds.take o)) := World.ownsRow.kept (row := some b) HRD5.out ⟨hHb.os, hHb.tape, hHb.output, hHb.size, fun k hk hn => hHb.block k hk (fun e => hn (by rw [e]))⟩ (.inr fun e => by have := (hOB b e).2; omega)
      have HOB := Lib.hid hOB
      have hwt : wr.heap.size ≤ Wt.heap.size := by have := HBB.out.lt; have := hHb.size; omega
      clear hWt hHb HBB HH5 HX5 HRD5 hOB y0 y1 y2 yf yl
      refine wp_region_slots_u 10 [[(3, false)], [(44, true)], [(4, false)], [(46, true)], [(47, true)], [(5, false)], [(48, true), (49, true)], [(50, true)], [(45, true), (51, true)], [(3, false)]] (fun w' => StQ (n5 == 1) Wl T n0 n1 n2 n3 n4 x o cpd wr.heap.size w' ∧ TBox w' b yc ys yq) (fun w' => StQ (n5 == 1) Wl T n0 n1 n2 n3 n4 x o cpd wr.heap.size w' ∧ TBox w' b yc ys yq) (fun _ w' => StQ (n5 == 1) Wl T n0 n1 n2 n3 n4 x o cpd wr.heap.size w' ∧ TBox w' b yc ys yq) (fun d w' => d = some 52 → RowD w' Wl.heap.size (.slice x o cpd) (ds.take o)) (fun _ => none) (AppQ 52 (Value.slice x o cpd).ownBlock) (by kernel_rfl) (by kernel_rfl) (by rfl) ⟨⟨HHt.out.drew, HXt.out.drew, hwt⟩, HTB.out.of_block (Nat.le_refl _) rfl⟩ (by kernel_rfl) (fun _ _ => HRt.out.below (Below.refl _ _).drew) (fun _ h => by cases h) (fun d d' hd w w' h1 h2 h3 => (h1 h3).below (appQ_below (h3 ▸ hd) h2)) (fun _ _ _ _ _ _ h => by cases h) (fun d _ w w' h1 h2 => ⟨stQ_step HOB.out hTl2 h1.1 h2, appQ_tag h1.2 h2 (fun e => by have := (HOB.out b e).2; omega)⟩) (fun _ _ _ h => h) (fun _ _ _ h => h) ?_
      have HRF : Hid (∀ (d : Option Tmp) (w : World), d ≠ some 52 → AppQ 52 (Value.slice x o cpd).ownBlock d w w) := fun d w hd => appQ_refl hd w
      iterate 7 (apply slotU_eq; · (intro ρ w' ⟨p1, p2, p3⟩ ⟨⟨hH, hX, hlo'⟩, hB⟩ hEE hn; obtain ⟨s0, s1, s2, s3⟩ := HCE.out w' hH; have y6 := hX.c6; have b0 := hB.c0; have b1 := hB.c1; have b2 := hB.c2; simp at hn; go_simp; exact ⟨HRF.out _ _ (by simp), rfl⟩))
      refine slotU_fact (DepNewQ (Value.slice x o cpd).ownBlock ⟨yk, yc, ys, yq⟩) (lasts_depNewQ _ _ _ _ _) ?_ ?_
      · intro ρ w' ⟨p1, p2, p3⟩ ⟨⟨hH, hX, hlo'⟩, hB⟩ hEE hn
        simp at hn
        go_simp
        exact ⟨appQ_alloc (by simp) _ _, _, rfl, by simp, fun e => by have := (HOB.out _ e).2; omega, oneD_cells _ _ ⟨yk, yc, ys, yq⟩⟩
      refine slotU_fact (DepRowQ Wl.heap.size o (ds.take o ++ [⟨yk, yc, ys, yq⟩])) (lasts_depRowQ _ _ _ _ _ _) ?_ ?_
      · intro ρ w' ⟨p1, p2, p3⟩ ⟨⟨hH, hX, hlo'⟩, hB⟩ hEE hn
        simp at hn
        obtain ⟨f45, g', f51, hg3, hg4, hg5⟩ := hn
        have hown := hEE rfl
        unfold RowD at hown
        rw [HTL.out] at hown
        refine got_append (.tmp 45) (.tmp 51) _ rfl Wl.heap.size 65 i1 (depV 0 0 0 0) 4 32 Tryz.underlying41 HI1.out HX1.out.1 HX1.out.2.1 HX1.out.2.2 (by rfl) (by omega) (.slice x o cpd) o ((ds.take o).flatMap dpVals) f45 hown ⟨g', 0, none⟩ 1 1 (dpVals ⟨yk, yc, ys, yq⟩) f51 (by rfl) hg5 (dp_one _) (by omega) (by unfold maxLen; omega) (by omega) (by omega) _ rfl ?_
        intro g3 cp3 w5 h1 h2 h3 h4
        refine ⟨appQ_grown h2, g3, cp3, rfl, ?_⟩
        unfold RowD
        rw [List.length_append, List.flatMap_append, HTL.out]
        simpa using h1
      iterate 1 (apply slotU_eq; · (intro ρ w' ⟨p1, p2, p3⟩ ⟨⟨hH, hX, hlo'⟩, hB⟩ hEE hn; simp at hn; go_simp; exact ⟨HRF.out _ _ (by simp), rfl⟩))
      refine slotU_end ?_
      rintro vs w6 ⟨⟨hH, hX, hlo'⟩, hB⟩ hF
      simp at hF
      obtain ⟨f53, ⟨g3, cp3, f52, hrow⟩, ⟨g', f51, -, -, -⟩, f50, f49, f48, f47, f46, f45, f44⟩ := hF
      have HRW := Lib.hid hrow
      have HHH := Lib.hid hH
      have HXX := Lib.hid hX
      clear hH hX hlo' hB hrow HRF HOB HHt HXt HRt HCE HTB
      simp only [List.take_succ_cons, List.take_zero, List.drop_succ_cons, List.drop_zero, putAll, f53, f52, f51, f50, f49, f48, f47, f46, f45, f44]
      clear f53 f52 f51 f50 f49 f48 f47 f46 f45 f44
      simp only [Act.put, List.setIfInBounds_toArray, List.set_cons_succ, List.set_cons_zero]
      have y6 := HXX.out.c6
      have yf := HXX.out.fz
      have HH7 : Hid (Hole T Wl (w6.setCell ⟨T, 6, none⟩ (.slice (some ⟨g3, 0, none⟩) (o + 1) cp3))) := HHH.out.set 6 _
      have HX7 : Hid (RBox (w6.setCell ⟨T, 6, none⟩ (.slice (some ⟨g3, 0, none⟩) (o + 1) cp3)) T n0 n1 n2 n3 n4 (n5 == 1) (some ⟨g3, 0, none⟩) (o + 1) cp3) := HXX.out.set6 _ _ _
      have HR7 : Hid (RowD (w6.setCell ⟨T, 6, none⟩ (.slice (some ⟨g3, 0, none⟩) (o + 1) cp3)) Wl.heap.size (.slice (some ⟨g3, 0, none⟩) (o + 1) cp3) (ds.take (o + 1))) := by
        rw [HTK.out]
        exact ownsRow_setCell_below (a := ⟨T, 6, none⟩) HRW.out hTl2 _
      clear HHH HXX HRW
      by_cases hq : q = 4
      · have HLT : Hid (¬ o + 1 < D) := by have := HQF.out; show ¬ _; omega
        have HQ0 : Hid (0 = 4 * (D - (o + 1))) := by have := HQ2.out; show _ = _; omega
        go_wp2
        exact ⟨⟨o + 1, 0, _, some ⟨g3, 0, none⟩, cp3, by omega, HQ0, rfl, fun h => absurd h HLT.out, HH7, HX7, HR7⟩, by simp; omega⟩
      · go_wp2
        exact ⟨⟨o + 1, _, _, some ⟨g3, 0, none⟩, cp3, by omega, HQ2, rfl, HAD2.out p HPP.out.symm, HH7, HX7, HR7⟩, by simp; omega⟩
    · have hoD : o = D := by omega
      subst o
      have hq0 : q = 0 := by have := HQ.out; omega
      subst hq0
      have HRW : Hid (RowD wr Wl.heap.size (.slice x D cpd) ds) := by
        have h1 := HRD.out
        rw [List.take_of_length_le (by rw [HDN.out]; exact Nat.le_refl _)] at h1
        exact h1
      have HXW := Lib.hid (HXL.out.hole HH.out (by omega))
      have HBWW : Hid (Below w.heap.size w wr) := Hole.below HBWL.out HH.out (by omega) HBWL.out.size
      have hl0 : w.heap.size < Wl.heap.size := by omega
      obtain ⟨tl, t0, t1, t2, t3, t4, t5, t6, tf⟩ := HX.out
      obtain ⟨yl, y0, y1, y2, y3, y4, y5, y6, yf⟩ := HXW.out
      have HTQ := Lib.hid (HRW.out.holeQ ((Hole.refl w.heap.size wr).put7 n0 n1 n2 n3 n4 (n5 == 1) x D cpd) hl0)
      clear HQ HAD HRD
      go_wp2
      obtain ⟨X, hX⟩ : ∃ X, put7 wr w.heap.size n0 n1 n2 n3 n4 (n5 == 1) x D cpd = X := ⟨_, rfl⟩
      have HZX : Hid (RBox X w.heap.size n0 n1 n2 n3 n4 (n5 == 1) x D cpd) := by rw [← hX]; exact HXW.out.put7 n0 n1 n2 n3 n4 (n5 == 1) x D cpd
      have HBX : Hid (Below w.heap.size w X) := by rw [← hX]; exact Hole.below HBWW.out ((Hole.refl _ _).put7 n0 n1 n2 n3 n4 (n5 == 1) x D cpd) (Nat.le_refl _) HBWW.out.size
      have HQX : Hid (RowD X w.heap.size (.slice x D cpd) ds) := by
        rw [hX] at HTQ
        exact HTQ.out.mono (Nat.le_of_lt hl0)
      unfold put7 at hX
      rw [hX]
      clear hX HTQ
      obtain ⟨zl, z0, z1, z2, z3, z4, z5, z6, zf⟩ := HZX.out
      refine bodyPost_ret (v := wrV n0 n1 n2 n3 n4 (n5 == 1) x D cpd) (by simp [results, Tryz.results121, go_sem, z0, z1, z2, z3, z4, z5, z6]) rfl ?_
      exact ⟨x, cpd, rfl, HQX.out, HBX.out⟩

set_option maxRecDepth 100000 in
set_option maxHeartbeats 8000000 in
theorem ofNums_none (g n D : Nat) (zs : List Int) (w : World) (hn : n = 8 + 4 * D) (hD : D ≤ 100) (h8 : n = 8) (hl : zs.length = n) (hr : NumRow w g zs) :
    Calls Tryz.prog 121 #[.slice (some ⟨g, 0, none⟩) n n] w fun e w' => ∃ a cp, e = .returned (wrV (zs.getD 1 0) (zs.getD 2 0) (zs.getD 3 0) (zs.getD 4 0) (zs.getD 5 0) (zs.getD 6 0 == 1) a D cp) ∧ RowD w' w.heap.size (.slice a D cp) (parseD (zs.drop 8)) ∧ Below w.heap.size w w' := by
  have HR := Lib.hid hr
  have HL := Lib.hid hl
  have HN := Lib.hid hn
  have HD0 : Hid (D = 0) := by show D = 0; omega
  subst h8
  have hgl : g < w.heap.size := hr.1
  obtain ⟨hd1, hd2⟩ := parseD_at D (l := zs.drop 8) (by rw [List.length_drop, hl]; omega)
  obtain ⟨ds, hds⟩ : ∃ ds, parseD (zs.drop 8) = ds := ⟨_, rfl⟩
  rw [hds] at hd1 hd2 ⊢
  have HDN := Lib.hid hd1
  have HDA : Hid (∀ o, o < D → ds.getD o dz = ⟨zs.getD (8 + 4 * o) 0, zs.getD (8 + 4 * o + 1) 0, zs.getD (8 + 4 * o + 2) 0, zs.getD (8 + 4 * o + 3) 0⟩) := fun o ho => by
    rw [hd2 o ho]
    simp only [drop_getD, Nat.add_assoc]
  have HR0 : Hid (RBox (w.alloc (.cells #[.int .i64 0, .int .i64 0, .int .i64 0, .int .i64 0, .int .i64 0, .bool false, .slice none 0 0] 43)) w.heap.size 0 0 0 0 0 false none 0 0) := RBox.start w 0 0 0 0 0 false none 0 0 _
  have HB0 : Hid (Below w.heap.size w (w.alloc (.cells #[.int .i64 0, .int .i64 0, .int .i64 0, .int .i64 0, .int .i64 0, .bool false, .slice none 0 0] 43))) := (Below.refl _ _).alloc (Nat.le_refl _) _
  have hz0 : w.heap.size < (w.alloc (.cells #[.int .i64 0, .int .i64 0, .int .i64 0, .int .i64 0, .int .i64 0, .bool false, .slice none 0 0] 43)).heap.size := by simp
  have HR1 := Lib.hid (HR.out.below HB0.out)
  have HCE : Hid (∀ w', Below (w.alloc (.cells #[.int .i64 0, .int .i64 0, .int .i64 0, .int .i64 0, .int .i64 0, .bool false, .slice none 0 0] 43)).heap.size (w.alloc (.cells #[.int .i64 0, .int .i64 0, .int .i64 0, .int .i64 0, .int .i64 0, .bool false, .slice none 0 0] 43)) w' → w'.cell? ⟨g, 1, none⟩ = some (.int .i64 (zs.getD 1 0)) ∧ w'.cell? ⟨g, 2, none⟩ = some (.int .i64 (zs.getD 2 0)) ∧ w'.cell? ⟨g, 3, none⟩ = some (.int .i64 (zs.getD 3 0)) ∧ w'.cell? ⟨g, 4, none⟩ = some (.int .i64 (zs.getD 4 0)) ∧ w'.cell? ⟨g, 5, none⟩ = some (.int .i64 (zs.getD 5 0)) ∧ w'.cell? ⟨g, 6, none⟩ = some (.int .i64 (zs.getD 6 0))) := fun w' hb => by
    have h1 := HR1.out.below hb
    exact ⟨h1.2 1 (by omega), h1.2 2 (by omega), h1.2 3 (by omega), h1.2 4 (by omega), h1.2 5 (by omega), h1.2 6 (by omega)⟩
  clear hr hl hd1 hd2 hds HR hn
  generalize zs.getD 1 0 = n0 at *
  generalize zs.getD 2 0 = n1 at *
  generalize zs.getD 3 0 = n2 at *
  generalize zs.getD 4 0 = n3 at *
  generalize zs.getD 5 0 = n4 at *
  generalize zs.getD 6 0 = n5 at *
  go_enter Tryz.func121, Tryz.ntmps121
  go_wp2_with fail
  generalize w.alloc (.cells #[.int .i64 0, .int .i64 0, .int .i64 0, .int .i64 0, .int .i64 0, .bool false, .slice none 0 0] 43) = W0 at *
  refine wp_region_slots 22 [[(0, false)], [(6, true)], [(7, true)], [(0, false)], [(9, true)], [(10, true)], [(0, false)], [(12, true)], [(13, true)], [(0, false)], [(15, true)], [(16, true)], [(11, true), (14, true), (17, true)], [(0, false)], [(19, true)], [(20, true)], [(0, false)], [(22, true)], [(23, true)], [(24, true)], [(8, true), (18, true), (21, true), (25, true)], []] (fun w' => Below W0.heap.size W0 w') (fun w w' => Below w.heap.size w w') (by kernel_rfl) (by kernel_rfl) (by rfl) (Below.refl _ _).drew (fun _ _ h hr => below_step h h.size hr) ?_
  iterate 21 (apply slot_eq; · (intro ρ w' ⟨p1, p2, p3⟩ hS hn; obtain ⟨e0, e1, e2, e3, e4, e5⟩ := HCE.out w' hS; simp at hn; go_simp; exact ⟨Below.refl _ _, rfl⟩))
  refine slot_fact (BoxF W0.heap.size) (lasts_boxR _) ?_ ?_
  · intro ρ w' ⟨p1, p2, p3⟩ hS hn
    have hsz := hS.size
    go_simp
    exact ⟨(Below.refl _ _).alloc (Nat.le_refl _) _, box_mk w' _ hsz⟩
  refine slot_end ?_
  intro tv w4 hS hF
  simp at hF
  obtain ⟨⟨T, f3, hTl, hbox⟩, f26, f25, f24, f23, f22, f21, f20, f19, f18, f17, f16, f15, f14, f13, f12, f11, f10, f9, f8, f7, f6⟩ := hF
  have hs4 : W0.heap.size ≤ w4.heap.size := hS.size
  have HBX := Lib.hid hbox
  have HR4 := Lib.hid (HR1.out.below hS)
  have HX4 := Lib.hid (HR0.out.below hS hz0)
  have HBW4 : Hid (Below w.heap.size w w4) := below_step HB0.out HB0.out.size hS
  simp only [List.take_succ_cons, List.take_zero, List.drop_succ_cons, List.drop_zero, putAll, f3, f26, f25, f24, f23, f22, f21, f20, f19, f18, f17, f16, f15, f14, f13, f12, f11, f10, f9, f8, f7, f6]
  clear f3 f26 f25 f24 f23 f22 f21 f20 f19 f18 f17 f16 f15 f14 f13 f12 f11 f10 f9 f8 f7 f6 hS hbox HCE HR1 HR0 HB0
  simp only [Act.put, List.setIfInBounds_toArray, List.set_cons_succ, List.set_cons_zero]
  obtain ⟨yl, y0, y1, y2, y3, y4, y5, y6, yf⟩ := HBX.out
  go_wp2
  obtain ⟨Wl, hWl⟩ : ∃ Wl, put7 w4 T n0 n1 n2 n3 n4 (n5 == 1) none 0 0 = Wl := ⟨_, rfl⟩
  have HHL : Hid (Hole T w4 Wl) := by rw [← hWl]; exact (Hole.refl _ _).put7 _ _ _ _ _ _ _ _ _
  have HBL : Hid (RBox Wl T n0 n1 n2 n3 n4 (n5 == 1) none 0 0) := by rw [← hWl]; exact HBX.out.put7 _ _ _ _ _ _ _ _ _
  unfold put7 at hWl
  rw [hWl]
  clear hWl y0 y1 y2 y3 y4 y5 y6 yf
  have hgT : g ≠ T := by omega
  have hTl4 : T < w4.heap.size := HBX.out.lt
  have HRL := Lib.hid (HR4.out.hole HHL.out hgT)
  have HXL := Lib.hid (HX4.out.hole HHL.out (by omega))
  have HBWL : Hid (Below w.heap.size w Wl) := Hole.below HBW4.out HHL.out (by omega) HBW4.out.size
  have hsl : w4.heap.size ≤ Wl.heap.size := HHL.out.size
  obtain ⟨i1, hi1, hx1⟩ := Option.map_eq_some_iff.1 infoDep
  simp only [Prod.mk.injEq] at hx1
  have HI1 := Lib.hid hi1
  have HX1 := Lib.hid hx1
  have HQ : Hid (0 = 4 * (D - 0)) := by
    have := HD0.out
    show 0 = _
    omega
  clear hi1 hx1 HBX HR4 HX4 HBW4 HHL yl
  go_loopw [4] (fun r wr => ∃ (o q : Nat) (ad x : Option Addr) (cpd : Nat), o ≤ D ∧ Hid (q = 4 * (D - o)) ∧ r = .slice ad q q ∧ Hid (o < D → ad = some ⟨g, 8 + 4 * o, none⟩) ∧ Hid (Hole T Wl wr) ∧ Hid (RBox wr T n0 n1 n2 n3 n4 (n5 == 1) x o cpd) ∧ Hid (RowD wr Wl.heap.size (.slice x o cpd) (ds.take o))) (fun r _ => (match r with | .slice _ k _ => k | _ => 0))
  case atStart => exact ⟨0, 0, _, none, 0, Nat.zero_le _, HQ, rfl, fun h => absurd h (by have := HD0.out; omega), Hole.refl _ _, HBL, World.ownsRow_nil _ _ _ _⟩
  case round =>
    clear HQ
    obtain ⟨o, q, ad, x, cpd, ho, HQ, rfl, HAD, HH, HX, HRD⟩ := hrel
    by_cases ho' : o < D
    · have := HD0.out
      omega
    · have hoD : o = D := by omega
      subst o
      have hq0 : q = 0 := by have := HQ.out; omega
      subst hq0
      have HRW : Hid (RowD wr Wl.heap.size (.slice x D cpd) ds) := by
        have h1 := HRD.out
        rw [List.take_of_length_le (by rw [HDN.out]; exact Nat.le_refl _)] at h1
        exact h1
      have HXW := Lib.hid (HXL.out.hole HH.out (by omega))
      have HBWW : Hid (Below w.heap.size w wr) := Hole.below HBWL.out HH.out (by omega) HBWL.out.size
      have hl0 : w.heap.size < Wl.heap.size := by omega
      obtain ⟨tl, t0, t1, t2, t3, t4, t5, t6, tf⟩ := HX.out
      obtain ⟨yl, y0, y1, y2, y3, y4, y5, y6, yf⟩ := HXW.out
      have HTQ := Lib.hid (HRW.out.holeQ ((Hole.refl w.heap.size wr).put7 n0 n1 n2 n3 n4 (n5 == 1) x D cpd) hl0)
      clear HQ HAD HRD
      go_wp2
      obtain ⟨X, hX⟩ : ∃ X, put7 wr w.heap.size n0 n1 n2 n3 n4 (n5 == 1) x D cpd = X := ⟨_, rfl⟩
      have HZX : Hid (RBox X w.heap.size n0 n1 n2 n3 n4 (n5 == 1) x D cpd) := by rw [← hX]; exact HXW.out.put7 n0 n1 n2 n3 n4 (n5 == 1) x D cpd
      have HBX : Hid (Below w.heap.size w X) := by rw [← hX]; exact Hole.below HBWW.out ((Hole.refl _ _).put7 n0 n1 n2 n3 n4 (n5 == 1) x D cpd) (Nat.le_refl _) HBWW.out.size
      have HQX : Hid (RowD X w.heap.size (.slice x D cpd) ds) := by
        rw [hX] at HTQ
        exact HTQ.out.mono (Nat.le_of_lt hl0)
      unfold put7 at hX
      rw [hX]
      clear hX HTQ
      obtain ⟨zl, z0, z1, z2, z3, z4, z5, z6, zf⟩ := HZX.out
      refine bodyPost_ret (v := wrV n0 n1 n2 n3 n4 (n5 == 1) x D cpd) (by simp [results, Tryz.results121, go_sem, z0, z1, z2, z3, z4, z5, z6]) rfl ?_
      exact ⟨x, cpd, rfl, HQX.out, HBX.out⟩

set_option maxRecDepth 100000 in
theorem ofNums_any (g n D : Nat) (zs : List Int) (w : World) (hn : n = 8 + 4 * D) (hD : D ≤ 100) (hl : zs.length = n) (hr : NumRow w g zs) :
    Calls Tryz.prog 121 #[.slice (some ⟨g, 0, none⟩) n n] w fun e w' => ∃ a cp, e = .returned (wrV (zs.getD 1 0) (zs.getD 2 0) (zs.getD 3 0) (zs.getD 4 0) (zs.getD 5 0) (zs.getD 6 0 == 1) a D cp) ∧ RowD w' w.heap.size (.slice a D cp) (parseD (zs.drop 8)) ∧ Below w.heap.size w w' := by
  by_cases h8 : n = 8
  · exact ofNums_none g n D zs w hn hD h8 hl hr
  · exact ofNums_some g n D zs w hn hD h8 hl hr

end Go.Proofs.YtbbmpfkijhhemabGreatDoor

/- Plain facts on strings.SplitN at the blank: its pieces glued are the text; where it came to its end none holds a blank. -/
namespace Go.Proofs.YtbbmpfkijhhemabGreatDoor

set_option maxRecDepth 100000 in
theorem blank_index : ∀ l : List UInt8, (Lib.indexByte l 32 = -1 ∧ (32 : UInt8) ∉ l) ∨ ∃ a b : List UInt8, Lib.indexByte l 32 = (a.length : Int) ∧ l = a ++ 32 :: b ∧ (32 : UInt8) ∉ a
  | [] => .inl ⟨rfl, by simp⟩
  | x :: l => by
    by_cases hx : x = 32
    · subst hx
      exact .inr ⟨[], l, by simp [Lib.indexByte], rfl, by simp⟩
    · have hb : (x == 32) = false := by simpa using hx
      rcases blank_index l with ⟨h1, h2⟩ | ⟨a, b, h1, h2, h3⟩
      · exact .inl ⟨by simp [Lib.indexByte, hb, h1], by simp [h2]; exact fun e => hx e.symm⟩
      · refine .inr ⟨x :: a, b, ?_, by rw [h2]; rfl, by simp [h3]; exact fun e => hx e.symm⟩
        have hne : ((a.length : Int) == -1) = false := by simp
        simp only [Lib.indexByte, hb, h1, hne, List.length_cons]
        simp

def glueL (ps : List (List UInt8)) : List UInt8 := ps.flatMap fun x => x ++ [32]

set_option maxRecDepth 100000 in
theorem split_parts : ∀ (k : Nat) (l : List UInt8), glueL (Lib.splitK [32] 0 k l) = l ++ [32] ∧ ((Lib.splitK [32] 0 k l).length ≤ k ∨ l.length ≤ k → ∀ p ∈ Lib.splitK [32] 0 k l, (32 : UInt8) ∉ p)
  | 0, l => by
    refine ⟨by simp [Lib.splitK, glueL], fun h p hp => ?_⟩
    simp only [Lib.splitK, List.mem_singleton, List.length_singleton] at hp h
    subst hp
    rcases h with h | h
    · omega
    · obtain rfl := List.length_eq_zero_iff.1 (Nat.le_zero.1 h)
      simp
  | k + 1, l => by
    rcases blank_index l with ⟨h1, h2⟩ | ⟨a, b, h1, h2, h3⟩
    · have e : Lib.splitK [32] 0 (k + 1) l = [l] := by simp [Lib.splitK, Lib.index_one, h1]
      rw [e]
      refine ⟨by simp [glueL], fun _ p hp => ?_⟩
      obtain rfl := List.mem_singleton.1 hp
      exact h2
    · have hne : ((a.length : Int) == -1) = false := by simp
      have e : Lib.splitK [32] 0 (k + 1) l = a :: Lib.splitK [32] 0 k b := by
        simp only [Lib.splitK, Lib.index_one, h1, hne]
        rw [h2]
        simp
      obtain ⟨i1, i2⟩ := split_parts k b
      rw [e]
      refine ⟨?_, fun h p hp => ?_⟩
      · have : glueL (a :: Lib.splitK [32] 0 k b) = (a ++ [32]) ++ glueL (Lib.splitK [32] 0 k b) := by simp [glueL]
        rw [this, i1, h2]
        simp
      · rcases List.mem_cons.1 hp with rfl | hp
        · exact h3
        · refine i2 ?_ p hp
          rcases h with h | h
          · left
            simp at h
            omega
          · right
            rw [h2] at h
            simp at h
            omega

set_option maxRecDepth 100000 in
/-- What strings.SplitN at the blank hands back. -/
theorem splitN_blank (s : ByteArray) (k : Nat) : glue (Lib.splitB ⟨#[32]⟩ 0 k s) = s.data.toList ++ [32] ∧ ((Lib.splitB ⟨#[32]⟩ 0 k s).length ≤ k ∨ s.size ≤ k → NoBlank (Lib.splitB ⟨#[32]⟩ 0 k s)) := by
  have hd := Lib.splitB_data ⟨#[32]⟩ 0 k s
  obtain ⟨h1, h2⟩ := split_parts k s.data.toList
  have hd' : (Lib.splitB ⟨#[32]⟩ 0 k s).map (·.data.toList) = Lib.splitK [32] 0 k s.data.toList := hd
  rw [← hd'] at h1 h2
  refine ⟨?_, fun h x hx => ?_⟩
  · rw [← h1]
    simp [glue, glueL, List.flatMap_map]
  · exact h2 (by simpa using h) _ (List.mem_map.2 ⟨x, hx, rfl⟩)

end Go.Proofs.YtbbmpfkijhhemabGreatDoor
