import Derived.Shelf.Strconv.Atoi
import Derived.Shelf.LaysC
import Derived.Shelf.Strconv.AtoiAll
import Derived.Shelf.Strconv.ErrVarAll
import Derived.Shelf.LaysM
import Derived.Shelf.Strings.SplitShaped
import Derived.Test.YteladgfdedlmjaaGreatDoorProg
import Derived.Test.YteladgfdedlmjaaGreatDoorPack14
import Derived.Lib.AtoiErrMem
import Derived.Test.YteladgfdedlmjaaGreatDoorPack8
import Derived.Test.YteladgfdedlmjaaGreatDoorPack5
import Derived.Laws.MakeOwn
import Derived.Laws.OwnMore
import Derived.Lib.Join
import Derived.Shelf.Strings.OnBuilder
namespace Go.Proofs
open Go.Shelf
def Tryz.lays244_ren : Go.Shelf.Ren := ⟨fun | 244 => 221 | 247 => 241 | 287 => 256 | 321 => 261 | 322 => 262 | n => n, fun | 9 => 9 | 3 => 3 | 75 => 132 | 4 => 4 | 5 => 5 | 167 => 267 | 37 => 22 | 0 => 0 | 85 => 268 | 2 => 2 | 53 => 124 | 175 => 281 | 46 => 151 | 21 => 21 | 80 => 224 | n => n, fun | n => n⟩
theorem Tryz.lays244 : Go.Proofs.Lays.n244 Tryz.prog Tryz.lays244_ren := {
 mixed := by kernel_rfl
 f244 := Tryz.func221.trans (congrArg some (by kernel_rfl))
 f247 := Tryz.func241.trans (congrArg some (by kernel_rfl))
 f287 := Tryz.func256.trans (congrArg some (by kernel_rfl))
 f321 := Tryz.func261.trans (congrArg some (by kernel_rfl))
 f322 := Tryz.func262.trans (congrArg some (by kernel_rfl))
 t0 := Tryz.underlying0
 a0 := Tryz.isAgg0
 z0 := Tryz.sizeOf0
 v0 := Tryz.zeroValue0
 t2 := Tryz.underlying2
 a2 := Tryz.isAgg2
 z2 := Tryz.sizeOf2
 v2 := Tryz.zeroValue2
 t3 := Tryz.underlying3
 a3 := Tryz.isAgg3
 z3 := Tryz.sizeOf3
 v3 := Tryz.zeroValue3
 t4 := Tryz.underlying4
 a4 := Tryz.isAgg4
 z4 := Tryz.sizeOf4
 v4 := Tryz.zeroValue4
 t5 := Tryz.underlying5
 a5 := Tryz.isAgg5
 z5 := Tryz.sizeOf5
 v5 := Tryz.zeroValue5
 t9 := Tryz.underlying9
 a9 := Tryz.isAgg9
 z9 := Tryz.sizeOf9
 v9 := Tryz.zeroValue9
 t21 := Tryz.underlying21
 a21 := Tryz.isAgg21
 z21 := Tryz.sizeOf21
 v21 := Tryz.zeroValue21
 t37 := Tryz.underlying22
 a37 := Tryz.isAgg22
 z37 := Tryz.sizeOf22
 v37 := Tryz.zeroValue22
 t46 := Tryz.underlying151
 a46 := Tryz.isAgg151
 z46 := Tryz.sizeOf151
 v46 := Tryz.zeroValue151
 t53 := Tryz.underlying124
 a53 := Tryz.isAgg124
 z53 := Tryz.sizeOf124
 v53 := Tryz.zeroValue124
 t75 := Tryz.underlying132
 a75 := Tryz.isAgg132
 z75 := Tryz.sizeOf132
 v75 := Tryz.zeroValue132
 t85 := Tryz.underlying268
 a85 := Tryz.isAgg268
 z85 := Tryz.sizeOf268
 v85 := Tryz.zeroValue268
 t167 := Tryz.underlying267
 a167 := Tryz.isAgg267
 z167 := Tryz.sizeOf267
 v167 := Tryz.zeroValue267
 t175 := Tryz.underlying281
 a175 := Tryz.isAgg281
 z175 := Tryz.sizeOf281
 v175 := Tryz.zeroValue281 }
open Go.RowKit in
theorem Tryz.internal_strconv_Atoi (s : ByteArray) (n : Int) (hl : s.size ≤ 18) (h : Lib.atoi s.data.toList = some n) (w : World) :
  Calls Tryz.prog 221 #[.string s] w fun e w' => e = .returned (.tuple #[.int .i64 n, .nilIface]) ∧ ∃ t, w' = Lib.bytesWorld w 5 t := Any.internal_strconv_Atoi Tryz.lays244 s n hl h w
def Tryz.lays172_ren : Go.Shelf.Ren := ⟨fun | 172 => 208 | 244 => 221 | 245 => 222 | 247 => 241 | 279 => 242 | 280 => 243 | 281 => 244 | 282 => 245 | 287 => 256 | 316 => 257 | 171 => 184 | 205 => 258 | 321 => 261 | 322 => 262 | 243 => 194 | 246 => 203 | 283 => 212 | 284 => 213 | 285 => 214 | 286 => 215 | 129 => 232 | 317 => 233 | 318 => 234 | 319 => 235 | 320 => 236 | 337 => 251 | 338 => 252 | n => n, fun | 9 => 9 | 3 => 3 | 75 => 132 | 76 => 191 | 4 => 4 | 5 => 5 | 167 => 267 | 37 => 22 | 0 => 0 | 85 => 268 | 2 => 2 | 168 => 270 | 53 => 124 | 175 => 281 | 46 => 151 | 210 => 284 | 127 => 233 | 145 => 294 | 143 => 292 | 21 => 21 | 171 => 246 | 173 => 249 | 212 => 262 | 51 => 225 | 20 => 20 | 213 => 263 | 232 => 288 | 233 => 289 | 80 => 224 | n => n, fun | 15 => 7 | 16 => 8 | 17 => 6 | 18 => 9 | 19 => 10 | n => n⟩
theorem Tryz.lays172 : Go.Proofs.Lays.n172 Tryz.prog Tryz.lays172_ren := {
 mixed := by kernel_rfl
 f129 := Tryz.func232.trans (congrArg some (by kernel_rfl))
 f171 := Tryz.func184.trans (congrArg some (by kernel_rfl))
 f172 := Tryz.func208.trans (congrArg some (by kernel_rfl))
 f205 := Tryz.func258.trans (congrArg some (by kernel_rfl))
 f243 := Tryz.func194.trans (congrArg some (by kernel_rfl))
 f244 := Tryz.func221.trans (congrArg some (by kernel_rfl))
 f245 := Tryz.func222.trans (congrArg some (by kernel_rfl))
 f246 := Tryz.func203.trans (congrArg some (by kernel_rfl))
 f247 := Tryz.func241.trans (congrArg some (by kernel_rfl))
 f279 := Tryz.func242.trans (congrArg some (by kernel_rfl))
 f280 := Tryz.func243.trans (congrArg some (by kernel_rfl))
 f281 := Tryz.func244.trans (congrArg some (by kernel_rfl))
 f282 := Tryz.func245.trans (congrArg some (by kernel_rfl))
 f283 := Tryz.func212.trans (congrArg some (by kernel_rfl))
 f284 := Tryz.func213.trans (congrArg some (by kernel_rfl))
 f285 := Tryz.func214.trans (congrArg some (by kernel_rfl))
 f286 := Tryz.func215.trans (congrArg some (by kernel_rfl))
 f287 := Tryz.func256.trans (congrArg some (by kernel_rfl))
 f316 := Tryz.func257.trans (congrArg some (by kernel_rfl))
 f317 := Tryz.func233.trans (congrArg some (by kernel_rfl))
 f318 := Tryz.func234.trans (congrArg some (by kernel_rfl))
 f319 := Tryz.func235.trans (congrArg some (by kernel_rfl))
 f320 := Tryz.func236.trans (congrArg some (by kernel_rfl))
 f321 := Tryz.func261.trans (congrArg some (by kernel_rfl))
 f322 := Tryz.func262.trans (congrArg some (by kernel_rfl))
 f337 := Tryz.func251.trans (congrArg some (by kernel_rfl))
 f338 := Tryz.func252.trans (congrArg some (by kernel_rfl))
 t0 := Tryz.underlying0
 a0 := Tryz.isAgg0
 z0 := Tryz.sizeOf0
 v0 := Tryz.zeroValue0
 t2 := Tryz.underlying2
 a2 := Tryz.isAgg2
 z2 := Tryz.sizeOf2
 v2 := Tryz.zeroValue2
 t3 := Tryz.underlying3
 a3 := Tryz.isAgg3
 z3 := Tryz.sizeOf3
 v3 := Tryz.zeroValue3
 t4 := Tryz.underlying4
 a4 := Tryz.isAgg4
 z4 := Tryz.sizeOf4
 v4 := Tryz.zeroValue4
 t5 := Tryz.underlying5
 a5 := Tryz.isAgg5
 z5 := Tryz.sizeOf5
 v5 := Tryz.zeroValue5
 t9 := Tryz.underlying9
 a9 := Tryz.isAgg9
 z9 := Tryz.sizeOf9
 v9 := Tryz.zeroValue9
 t20 := Tryz.underlying20
 a20 := Tryz.isAgg20
 z20 := Tryz.sizeOf20
 v20 := Tryz.zeroValue20
 t21 := Tryz.underlying21
 a21 := Tryz.isAgg21
 z21 := Tryz.sizeOf21
 v21 := Tryz.zeroValue21
 t37 := Tryz.underlying22
 a37 := Tryz.isAgg22
 z37 := Tryz.sizeOf22
 v37 := Tryz.zeroValue22
 t46 := Tryz.underlying151
 a46 := Tryz.isAgg151
 z46 := Tryz.sizeOf151
 v46 := Tryz.zeroValue151
 t51 := Tryz.underlying225
 a51 := Tryz.isAgg225
 z51 := Tryz.sizeOf225
 v51 := Tryz.zeroValue225
 t53 := Tryz.underlying124
 a53 := Tryz.isAgg124
 z53 := Tryz.sizeOf124
 v53 := Tryz.zeroValue124
 t75 := Tryz.underlying132
 a75 := Tryz.isAgg132
 z75 := Tryz.sizeOf132
 v75 := Tryz.zeroValue132
 t76 := Tryz.underlying191
 a76 := Tryz.isAgg191
 z76 := Tryz.sizeOf191
 v76 := Tryz.zeroValue191
 t85 := Tryz.underlying268
 a85 := Tryz.isAgg268
 z85 := Tryz.sizeOf268
 v85 := Tryz.zeroValue268
 t127 := Tryz.underlying233
 a127 := Tryz.isAgg233
 z127 := Tryz.sizeOf233
 v127 := Tryz.zeroValue233
 t143 := Tryz.underlying292
 a143 := Tryz.isAgg292
 z143 := Tryz.sizeOf292
 v143 := Tryz.zeroValue292
 t145 := Tryz.underlying294
 a145 := Tryz.isAgg294
 z145 := Tryz.sizeOf294
 v145 := Tryz.zeroValue294
 t167 := Tryz.underlying267
 a167 := Tryz.isAgg267
 z167 := Tryz.sizeOf267
 v167 := Tryz.zeroValue267
 t168 := Tryz.underlying270
 a168 := Tryz.isAgg270
 z168 := Tryz.sizeOf270
 v168 := Tryz.zeroValue270
 t171 := Tryz.underlying246
 a171 := Tryz.isAgg246
 z171 := Tryz.sizeOf246
 v171 := Tryz.zeroValue246
 t173 := Tryz.underlying249
 a173 := Tryz.isAgg249
 z173 := Tryz.sizeOf249
 v173 := Tryz.zeroValue249
 t175 := Tryz.underlying281
 a175 := Tryz.isAgg281
 z175 := Tryz.sizeOf281
 v175 := Tryz.zeroValue281
 t210 := Tryz.underlying284
 a210 := Tryz.isAgg284
 z210 := Tryz.sizeOf284
 v210 := Tryz.zeroValue284
 t212 := Tryz.underlying262
 a212 := Tryz.isAgg262
 z212 := Tryz.sizeOf262
 v212 := Tryz.zeroValue262
 t213 := Tryz.underlying263
 a213 := Tryz.isAgg263
 z213 := Tryz.sizeOf263
 t232 := Tryz.underlying288
 a232 := Tryz.isAgg288
 z232 := Tryz.sizeOf288
 v232 := Tryz.zeroValue288
 t233 := Tryz.underlying289
 a233 := Tryz.isAgg289
 z233 := Tryz.sizeOf289
 v233 := Tryz.zeroValue289
 g15 := by kernel_rfl
 g16 := by kernel_rfl
 g17 := by kernel_rfl
 g18 := by kernel_rfl
 g19 := by kernel_rfl }
open Go.RowKit in
theorem Tryz.strconv_Atoi (s : ByteArray) (n : Int) (hl : s.size ≤ 18) (h : Lib.atoi s.data.toList = some n) (w : World) :
  Calls Tryz.prog 208 #[.string s] w fun e w' => e = .returned (.tuple #[.int .i64 n, .nilIface]) ∧ ∃ t, w' = Lib.bytesWorld w 5 t := Any.strconv_Atoi Tryz.lays172 s n hl h w
def Tryz.laysC172_ren : Go.Shelf.Ren := ⟨fun | 172 => 208 | 244 => 221 | 245 => 222 | 247 => 241 | 279 => 242 | 280 => 243 | 281 => 244 | 282 => 245 | 287 => 256 | 316 => 257 | 171 => 184 | 205 => 258 | 321 => 261 | 322 => 262 | 243 => 194 | 246 => 203 | 283 => 212 | 284 => 213 | 285 => 214 | 286 => 215 | 129 => 232 | 317 => 233 | 318 => 234 | 319 => 235 | 320 => 236 | 337 => 251 | 338 => 252 | n => n, fun | 9 => 9 | 3 => 3 | 75 => 132 | 76 => 191 | 4 => 4 | 5 => 5 | 167 => 267 | 37 => 22 | 0 => 0 | 85 => 268 | 2 => 2 | 168 => 270 | 53 => 124 | 175 => 281 | 46 => 151 | 210 => 284 | 127 => 233 | 145 => 294 | 143 => 292 | 21 => 21 | 171 => 246 | 173 => 249 | 212 => 262 | 51 => 225 | 20 => 20 | 213 => 263 | 232 => 288 | 233 => 289 | 80 => 224 | n => n, fun | 15 => 7 | 16 => 8 | 17 => 6 | 18 => 9 | 19 => 10 | n => n⟩
theorem Tryz.laysC172 : Go.Proofs.LaysC.n172 Tryz.prog Tryz.laysC172_ren := {
 mixed := by kernel_rfl
 f129 := Tryz.func232.trans (congrArg some (by kernel_rfl))
 f171 := Tryz.func184.trans (congrArg some (by kernel_rfl))
 f172 := Tryz.func208.trans (congrArg some (by kernel_rfl))
 f205 := Tryz.func258.trans (congrArg some (by kernel_rfl))
 f243 := Tryz.func194.trans (congrArg some (by kernel_rfl))
 f244 := Tryz.func221.trans (congrArg some (by kernel_rfl))
 f245 := Tryz.func222.trans (congrArg some (by kernel_rfl))
 f246 := Tryz.func203.trans (congrArg some (by kernel_rfl))
 f247 := Tryz.func241.trans (congrArg some (by kernel_rfl))
 f279 := Tryz.func242.trans (congrArg some (by kernel_rfl))
 f280 := Tryz.func243.trans (congrArg some (by kernel_rfl))
 f281 := Tryz.func244.trans (congrArg some (by kernel_rfl))
 f282 := Tryz.func245.trans (congrArg some (by kernel_rfl))
 f283 := Tryz.func212.trans (congrArg some (by kernel_rfl))
 f284 := Tryz.func213.trans (congrArg some (by kernel_rfl))
 f285 := Tryz.func214.trans (congrArg some (by kernel_rfl))
 f286 := Tryz.func215.trans (congrArg some (by kernel_rfl))
 f287 := Tryz.func256.trans (congrArg some (by kernel_rfl))
 f316 := Tryz.func257.trans (congrArg some (by kernel_rfl))
 f317 := Tryz.func233.trans (congrArg some (by kernel_rfl))
 f318 := Tryz.func234.trans (congrArg some (by kernel_rfl))
 f319 := Tryz.func235.trans (congrArg some (by kernel_rfl))
 f320 := Tryz.func236.trans (congrArg some (by kernel_rfl))
 f321 := Tryz.func261.trans (congrArg some (by kernel_rfl))
 f322 := Tryz.func262.trans (congrArg some (by kernel_rfl))
 f337 := Tryz.func251.trans (congrArg some (by kernel_rfl))
 f338 := Tryz.func252.trans (congrArg some (by kernel_rfl))
 t0 := Tryz.underlying0
 a0 := Tryz.isAgg0
 z0 := Tryz.sizeOf0
 v0 := Tryz.zeroValue0
 t2 := Tryz.underlying2
 a2 := Tryz.isAgg2
 z2 := Tryz.sizeOf2
 v2 := Tryz.zeroValue2
 t3 := Tryz.underlying3
 a3 := Tryz.isAgg3
 z3 := Tryz.sizeOf3
 v3 := Tryz.zeroValue3
 t4 := Tryz.underlying4
 a4 := Tryz.isAgg4
 z4 := Tryz.sizeOf4
 v4 := Tryz.zeroValue4
 t5 := Tryz.underlying5
 a5 := Tryz.isAgg5
 z5 := Tryz.sizeOf5
 v5 := Tryz.zeroValue5
 t9 := Tryz.underlying9
 a9 := Tryz.isAgg9
 z9 := Tryz.sizeOf9
 v9 := Tryz.zeroValue9
 t20 := Tryz.underlying20
 a20 := Tryz.isAgg20
 z20 := Tryz.sizeOf20
 v20 := Tryz.zeroValue20
 t21 := Tryz.underlying21
 a21 := Tryz.isAgg21
 z21 := Tryz.sizeOf21
 v21 := Tryz.zeroValue21
 t37 := Tryz.underlying22
 a37 := Tryz.isAgg22
 z37 := Tryz.sizeOf22
 v37 := Tryz.zeroValue22
 t46 := Tryz.underlying151
 a46 := Tryz.isAgg151
 z46 := Tryz.sizeOf151
 v46 := Tryz.zeroValue151
 t51 := Tryz.underlying225
 a51 := Tryz.isAgg225
 z51 := Tryz.sizeOf225
 v51 := Tryz.zeroValue225
 t53 := Tryz.underlying124
 a53 := Tryz.isAgg124
 z53 := Tryz.sizeOf124
 v53 := Tryz.zeroValue124
 t75 := Tryz.underlying132
 a75 := Tryz.isAgg132
 z75 := Tryz.sizeOf132
 v75 := Tryz.zeroValue132
 t76 := Tryz.underlying191
 a76 := Tryz.isAgg191
 z76 := Tryz.sizeOf191
 v76 := Tryz.zeroValue191
 t85 := Tryz.underlying268
 a85 := Tryz.isAgg268
 z85 := Tryz.sizeOf268
 v85 := Tryz.zeroValue268
 t127 := Tryz.underlying233
 a127 := Tryz.isAgg233
 z127 := Tryz.sizeOf233
 v127 := Tryz.zeroValue233
 t143 := Tryz.underlying292
 a143 := Tryz.isAgg292
 z143 := Tryz.sizeOf292
 v143 := Tryz.zeroValue292
 t145 := Tryz.underlying294
 a145 := Tryz.isAgg294
 z145 := Tryz.sizeOf294
 v145 := Tryz.zeroValue294
 t167 := Tryz.underlying267
 a167 := Tryz.isAgg267
 z167 := Tryz.sizeOf267
 v167 := Tryz.zeroValue267
 t168 := Tryz.underlying270
 a168 := Tryz.isAgg270
 z168 := Tryz.sizeOf270
 v168 := Tryz.zeroValue270
 t171 := Tryz.underlying246
 a171 := Tryz.isAgg246
 z171 := Tryz.sizeOf246
 v171 := Tryz.zeroValue246
 t173 := Tryz.underlying249
 a173 := Tryz.isAgg249
 z173 := Tryz.sizeOf249
 v173 := Tryz.zeroValue249
 t175 := Tryz.underlying281
 a175 := Tryz.isAgg281
 z175 := Tryz.sizeOf281
 v175 := Tryz.zeroValue281
 t210 := Tryz.underlying284
 a210 := Tryz.isAgg284
 z210 := Tryz.sizeOf284
 v210 := Tryz.zeroValue284
 t212 := Tryz.underlying262
 a212 := Tryz.isAgg262
 z212 := Tryz.sizeOf262
 v212 := Tryz.zeroValue262
 t213 := Tryz.underlying263
 a213 := Tryz.isAgg263
 z213 := Tryz.sizeOf263
 t232 := Tryz.underlying288
 a232 := Tryz.isAgg288
 z232 := Tryz.sizeOf288
 v232 := Tryz.zeroValue288
 t233 := Tryz.underlying289
 a233 := Tryz.isAgg289
 z233 := Tryz.sizeOf289
 v233 := Tryz.zeroValue289
 g15 := by kernel_rfl
 g16 := by kernel_rfl
 g17 := by kernel_rfl
 g18 := by kernel_rfl
 g19 := by kernel_rfl
 t80 := Tryz.underlying224
 a80 := Tryz.isAgg224
 z80 := Tryz.sizeOf224
 v80 := Tryz.zeroValue224
 i0 := by kernel_rfl
 i2 := by kernel_rfl
 i3 := by kernel_rfl
 i4 := by kernel_rfl
 i5 := by kernel_rfl
 i9 := by kernel_rfl
 i20 := by kernel_rfl
 i21 := by kernel_rfl
 i37 := by kernel_rfl
 i46 := by kernel_rfl
 i51 := by kernel_rfl
 i53 := by kernel_rfl
 i75 := by kernel_rfl
 i76 := by kernel_rfl
 i80 := by kernel_rfl
 i85 := by kernel_rfl
 i127 := by kernel_rfl
 i143 := by kernel_rfl
 i145 := by kernel_rfl
 i167 := by kernel_rfl
 i168 := by kernel_rfl
 i171 := by kernel_rfl
 i173 := by kernel_rfl
 i175 := by kernel_rfl
 i210 := by kernel_rfl
 i212 := by kernel_rfl
 i232 := by kernel_rfl
 i233 := by kernel_rfl
 m15 := by kernel_rfl
 m16 := by kernel_rfl
 m17 := by kernel_rfl
 m18 := by kernel_rfl
 m19 := by kernel_rfl
 c0 := by kernel_rfl
 c2 := by kernel_rfl
 c3 := by kernel_rfl
 c4 := by kernel_rfl
 c5 := by kernel_rfl
 c9 := by kernel_rfl
 c20 := by kernel_rfl
 c21 := by kernel_rfl
 c37 := by kernel_rfl
 c46 := by kernel_rfl
 c51 := by kernel_rfl
 c53 := by kernel_rfl
 c75 := by kernel_rfl
 c76 := by kernel_rfl
 c80 := by kernel_rfl
 c85 := by kernel_rfl
 c127 := by kernel_rfl
 c143 := by kernel_rfl
 c145 := by kernel_rfl
 c167 := by kernel_rfl
 c168 := by kernel_rfl
 c171 := by kernel_rfl
 c173 := by kernel_rfl
 c175 := by kernel_rfl
 c210 := by kernel_rfl
 c212 := by kernel_rfl
 c213 := by kernel_rfl
 c232 := by kernel_rfl
 c233 := by kernel_rfl }
open Go.RowKit in
theorem Tryz.strconv_Atoi_ok (s : ByteArray) (hmax : s.size ≤ 9223372036854775806) (v : Int) (h : Lib.atoiAll s.data.toList = .ok v) (w : World) :
  Calls Tryz.prog 208 #[.string s] w fun e w' => e = .returned (.tuple #[.int .i64 v, .nilIface]) ∧ (w' = w ∨ ∃ t, w' = Lib.bytesWorld w 5 t) := Any.strconv_Atoi_ok Tryz.laysC172 s hmax v h w
open Go.RowKit in
theorem Tryz.strconv_Atoi_syntax (s : ByteArray) (hlim : s.size ≤ 281474976710656) (h : Lib.atoiAll s.data.toList = .«syntax») (ev : Value) (w : World) (hv : w.cell? ⟨7, 0, none⟩ = some ev) (hev : ev = .nilIface ∨ ∃ te pe, ev = .iface te pe) :
  Calls Tryz.prog 208 #[.string s] w fun e w' => ∃ N, e = .returned (.tuple #[.int .i64 (0), .iface 270 (.pointer (some ⟨N, 0, none⟩))]) ∧ w.heap.size ≤ N ∧ w'.heap[N]? = some (.cells #[.string ⟨#[65, 116, 111, 105]⟩, .string s, ev] 284 (0, 0)) ∧ Below w.heap.size w w' := Any.strconv_Atoi_syntax Tryz.laysC172 s hlim h ev w hv hev
open Go.RowKit in
theorem Tryz.strconv_Atoi_range (s : ByteArray) (hlim : s.size ≤ 281474976710656) (h : Lib.atoiAll s.data.toList = .range) (ev : Value) (w : World) (hv : w.cell? ⟨8, 0, none⟩ = some ev) (hev : ev = .nilIface ∨ ∃ te pe, ev = .iface te pe) :
  Calls Tryz.prog 208 #[.string s] w fun e w' => ∃ N, e = .returned (.tuple #[.int .i64 (Lib.atoiSat s.data.toList), .iface 270 (.pointer (some ⟨N, 0, none⟩))]) ∧ w.heap.size ≤ N ∧ w'.heap[N]? = some (.cells #[.string ⟨#[65, 116, 111, 105]⟩, .string s, ev] 284 (0, 0)) ∧ Below w.heap.size w w' := Any.strconv_Atoi_range Tryz.laysC172 s hlim h ev w hv hev
open Go.RowKit in
theorem Tryz.strconv_Atoi_syntax_var (s : ByteArray) (hlim : s.size ≤ 281474976710656) (h : Lib.atoiAll s.data.toList = .«syntax») (tp : TypeId) (p : Value) (w : World) (hvar : w.var? Tryz.prog "strconv.ErrSyntax" = some #[.iface tp p]) :
  Calls Tryz.prog 208 #[.string s] w fun e w' => ∃ N, e = .returned (.tuple #[.int .i64 0, .iface 270 (.pointer (some ⟨N, 0, none⟩))]) ∧ w.heap.size ≤ N ∧ w'.heap[N]? = some (.cells #[.string ⟨#[65, 116, 111, 105]⟩, .string s, .iface tp p] 284 (0, 0)) ∧ Below w.heap.size w w' := Any.strconv_Atoi_syntax_var Tryz.laysC172 s hlim h tp p w hvar
open Go.RowKit in
theorem Tryz.strconv_Atoi_range_var (s : ByteArray) (hlim : s.size ≤ 281474976710656) (h : Lib.atoiAll s.data.toList = .range) (tp : TypeId) (p : Value) (w : World) (hvar : w.var? Tryz.prog "strconv.ErrRange" = some #[.iface tp p]) :
  Calls Tryz.prog 208 #[.string s] w fun e w' => ∃ N, e = .returned (.tuple #[.int .i64 (Lib.atoiSat s.data.toList), .iface 270 (.pointer (some ⟨N, 0, none⟩))]) ∧ w.heap.size ≤ N ∧ w'.heap[N]? = some (.cells #[.string ⟨#[65, 116, 111, 105]⟩, .string s, .iface tp p] 284 (0, 0)) ∧ Below w.heap.size w w' := Any.strconv_Atoi_range_var Tryz.laysC172 s hlim h tp p w hvar
def Tryz.laysM147_ren : Go.Shelf.Ren := ⟨fun | 147 => 207 | 221 => 220 | 268 => 239 | 138 => 240 | 143 => 197 | 195 => 253 | 197 => 254 | 218 => 255 | 219 => 206 | 260 => 260 | 217 => 216 | 225 => 217 | 224 => 218 | 267 => 219 | 266 => 237 | 314 => 238 | n => n, fun | 9 => 9 | 3 => 3 | 31 => 186 | 4 => 4 | 0 => 0 | 105 => 279 | 21 => 21 | 5 => 5 | 46 => 151 | 119 => 295 | 139 => 298 | 138 => 297 | 146 => 264 | 51 => 225 | n => n, fun | 1 => 5 | 3 => 11 | 4 => 12 | n => n⟩
theorem Tryz.laysM147 : Go.Proofs.LaysM.n147 Tryz.prog Tryz.laysM147_ren := {
 mixed := by kernel_rfl
 f138 := Tryz.func240.trans (congrArg some (by kernel_rfl))
 f143 := Tryz.func197.trans (congrArg some (by kernel_rfl))
 f147 := Tryz.func207.trans (congrArg some (by kernel_rfl))
 f195 := Tryz.func253.trans (congrArg some (by kernel_rfl))
 f197 := Tryz.func254.trans (congrArg some (by kernel_rfl))
 f217 := Tryz.func216.trans (congrArg some (by kernel_rfl))
 f218 := Tryz.func255.trans (congrArg some (by kernel_rfl))
 f219 := Tryz.func206.trans (congrArg some (by kernel_rfl))
 f221 := Tryz.func220.trans (congrArg some (by kernel_rfl))
 f224 := Tryz.func218.trans (congrArg some (by kernel_rfl))
 f225 := Tryz.func217.trans (congrArg some (by kernel_rfl))
 f260 := Tryz.func260.trans (congrArg some (by kernel_rfl))
 f266 := Tryz.func237.trans (congrArg some (by kernel_rfl))
 f267 := Tryz.func219.trans (congrArg some (by kernel_rfl))
 f268 := Tryz.func239.trans (congrArg some (by kernel_rfl))
 f314 := Tryz.func238.trans (congrArg some (by kernel_rfl))
 t0 := Tryz.underlying0
 a0 := Tryz.isAgg0
 z0 := Tryz.sizeOf0
 v0 := Tryz.zeroValue0
 t3 := Tryz.underlying3
 a3 := Tryz.isAgg3
 z3 := Tryz.sizeOf3
 v3 := Tryz.zeroValue3
 t4 := Tryz.underlying4
 a4 := Tryz.isAgg4
 z4 := Tryz.sizeOf4
 v4 := Tryz.zeroValue4
 t5 := Tryz.underlying5
 a5 := Tryz.isAgg5
 z5 := Tryz.sizeOf5
 v5 := Tryz.zeroValue5
 t9 := Tryz.underlying9
 a9 := Tryz.isAgg9
 z9 := Tryz.sizeOf9
 v9 := Tryz.zeroValue9
 t21 := Tryz.underlying21
 a21 := Tryz.isAgg21
 z21 := Tryz.sizeOf21
 v21 := Tryz.zeroValue21
 t31 := Tryz.underlying186
 a31 := Tryz.isAgg186
 z31 := Tryz.sizeOf186
 v31 := Tryz.zeroValue186
 t46 := Tryz.underlying151
 a46 := Tryz.isAgg151
 z46 := Tryz.sizeOf151
 v46 := Tryz.zeroValue151
 t51 := Tryz.underlying225
 a51 := Tryz.isAgg225
 z51 := Tryz.sizeOf225
 v51 := Tryz.zeroValue225
 t105 := Tryz.underlying279
 a105 := Tryz.isAgg279
 z105 := Tryz.sizeOf279
 v105 := Tryz.zeroValue279
 t119 := Tryz.underlying295
 a119 := Tryz.isAgg295
 z119 := Tryz.sizeOf295
 t138 := Tryz.underlying297
 a138 := Tryz.isAgg297
 z138 := Tryz.sizeOf297
 v138 := Tryz.zeroValue297
 t139 := Tryz.underlying298
 a139 := Tryz.isAgg298
 z139 := Tryz.sizeOf298
 v139 := Tryz.zeroValue298
 t146 := Tryz.underlying264
 a146 := Tryz.isAgg264
 z146 := Tryz.sizeOf264
 v146 := Tryz.zeroValue264
 g1 := by kernel_rfl
 g3 := by kernel_rfl
 g4 := by kernel_rfl
 i0 := by kernel_rfl
 i3 := by kernel_rfl
 i4 := by kernel_rfl
 i5 := by kernel_rfl
 i9 := by kernel_rfl
 i21 := by kernel_rfl
 i31 := by kernel_rfl
 i46 := by kernel_rfl
 i51 := by kernel_rfl
 i105 := by kernel_rfl
 i138 := by kernel_rfl
 i139 := by kernel_rfl
 i146 := by kernel_rfl
 m1 := by kernel_rfl
 s1_3 := fun w h => Go.Proofs.cell_of_shapedOpen_int (zero := #[.int .i64 0]) (t := 3) h (of_decide_eq_true (by kernel_rfl)) (by kernel_rfl) rfl (by kernel_rfl) (by kernel_rfl) Tryz.underlying3
 m3 := by kernel_rfl
 m4 := by kernel_rfl }
open Go.RowKit Go.Lib in
theorem Tryz.strings_SplitN_shaped (s sep : ByteArray) (n : Nat) (w : World) (h : w.ShapedOpen Tryz.prog) (hs : s.size < 4294967281) (h1 : 1 ≤ sep.size) (hn : 1 ≤ n) (hn63 : n ≤ 9223372036854775807) :
  Calls Tryz.prog 207 #[.string s, .string sep, .int .i64 n] w fun e w' =>
   e = .returned (.slice (some ⟨w.heap.size, 0, none⟩) (Lib.splitB sep 0 (min n (s.size + 1) - 1) s).length (min n (s.size + 1))) ∧ w' = w.alloc (.cells (Lib.cellsOf (Lib.splitB sep 0 (min n (s.size + 1) - 1) s) (min n (s.size + 1))) 9) := Any.strings_SplitN_shaped Tryz.laysM147 s sep n w h hs h1 hn hn63
end Go.Proofs
namespace Go.Proofs.YteladgfdedlmjaaGreatDoor
open Go.ChangeShapes Go.WideShapes Go.ChangeAt Go.RowKit Go.Joins
set_option maxRecDepth 100000
def RV (w : World) : Prop :=
 (5 < w.heap.size ∧ ∃ m : Int, w.cell? ⟨5, 0, none⟩ = some (.int .i64 m)) ∧
 (7 < w.heap.size ∧ ∃ te pe, w.cell? ⟨7, 0, none⟩ = some (.iface te pe)) ∧
 (8 < w.heap.size ∧ ∃ te pe, w.cell? ⟨8, 0, none⟩ = some (.iface te pe))
theorem RV.below {w w' : World} (h : RV w) (hb : Below w.heap.size w w') : RV w' := by
 obtain ⟨⟨l1, m, h1⟩, ⟨l2, t2, p2, h2⟩, l3, t3, p3, h3⟩ := h
 exact ⟨⟨Nat.lt_of_lt_of_le l1 hb.size, m, (hb.cell (p := ⟨_, 0, none⟩) l1).trans h1⟩, ⟨Nat.lt_of_lt_of_le l2 hb.size, t2, p2, (hb.cell (p := ⟨_, 0, none⟩) l2).trans h2⟩, Nat.lt_of_lt_of_le l3 hb.size, t3, p3, (hb.cell (p := ⟨_, 0, none⟩) l3).trans h3⟩
theorem atoi_any (y : ByteArray) (w : World) (hy : y.size ≤ 1048577) (hv : RV w) :
  Calls Tryz.prog 208 #[.string y] w fun e w' => Below w.heap.size w w' ∧ ((∃ v, Lib.atoiAll y.data.toList = .ok v ∧ e = .returned (.tuple #[.int .i64 v, .nilIface])) ∨ ((∀ v, Lib.atoiAll y.data.toList ≠ .ok v) ∧ ∃ n t p, e = .returned (.tuple #[.int .i64 n, .iface t p]))) := by
 obtain ⟨-, ⟨l2, t2, p2, h2⟩, l3, t3, p3, h3⟩ := hv
 cases hc : Lib.atoiAll y.data.toList with
 | ok v =>
  refine (Tryz.strconv_Atoi_ok y (by omega) v hc w).mono ?_
  rintro e w' ⟨rfl, hw⟩
  refine ⟨?_, .inl ⟨v, rfl, rfl⟩⟩
  rcases hw with rfl | ⟨t, rfl⟩
  ·exact Below.refl _ _
  ·exact Lib.bytesWorld_below _ _ _
 | «syntax» =>
  refine (Tryz.strconv_Atoi_syntax y (by omega) hc _ w h2 (.inr ⟨t2, p2, rfl⟩)).mono ?_
  rintro e w' ⟨N, rfl, -, -, hb⟩
  exact ⟨hb, .inr ⟨(fun v h => by cases h), _, _, _, rfl⟩⟩
 | range =>
  refine (Tryz.strconv_Atoi_range y (by omega) hc _ w h3 (.inr ⟨t3, p3, rfl⟩)).mono ?_
  rintro e w' ⟨N, rfl, -, -, hb⟩
  exact ⟨hb, .inr ⟨(fun v h => by cases h), _, _, _, rfl⟩⟩
theorem splitN_any (s : ByteArray) (n : Nat) (w : World) (hs : s.size ≤ 1048576) (hn : 1 ≤ n) (hn' : n ≤ 1000) (hv : RV w) :
  Calls Tryz.prog 207 #[.string s, .string ⟨#[32]⟩, .int .i64 n] w fun e w' => ∃ cp W, e = .returned (.slice (some ⟨w.heap.size, 0, none⟩) W.length cp) ∧ W.length ≤ n ∧ glue W = s.data.toList ++ [32] ∧ (W.length < n → NoBlank W) ∧ (w.heap.size < w'.heap.size ∧ ∀ i, i < W.length → w'.cell? ⟨w.heap.size, i, none⟩ = some (.string (W.getD i ⟨#[]⟩))) ∧ Below w.heap.size w w' := by
 obtain ⟨⟨l1, m, h1⟩, -⟩ := hv
 refine (Any.strings_SplitN { Tryz.laysM147 with } Tryz.laysM147.i9 s ⟨#[32]⟩ n m w (by omega) h1 (by decide) hn (by omega)).mono ?_
 rintro e w' ⟨rfl, rfl⟩
 obtain ⟨g1, g2⟩ := splitN_blank s (min n (s.size + 1) - 1)
 have hl := Lib.splitB_length_le ⟨#[32]⟩ 0 (min n (s.size + 1) - 1) s
 refine ⟨_, _, rfl, by omega, g1, fun h => g2 (by omega), ⟨by simp, fun i hi => ?_⟩, (Below.refl _ _).alloc (Nat.le_refl _) _⟩
 rw [cell_of_row _ _ i _ _ (0, 0) (heap_alloc_new w _)]
 simp [Lib.cellsOf, List.getD, hi, List.getElem?_append_left]
def NumsAns (w w' : World) (bs : List UInt8) (e : Ending) : Prop :=
 Below w.heap.size w w' ∧ ((∃ (g n D : Nat) (zs : List Int) (W : List ByteArray), e = .returned (.tuple #[.slice (some ⟨g, 0, none⟩) n n, .bool true]) ∧ n = 8 + 4 * D ∧ D ≤ 6 ∧ zs.length = n ∧ w.heap.size ≤ g ∧ NumRow w' g zs ∧ W.length = n ∧ NoBlank W ∧ glue W = bs ++ [32] ∧ ∀ j, j + 1 < n → Lib.atoiAll (W.getD (j + 1) ⟨#[]⟩).data.toList = .ok (zs.getD (j + 1) 0)) ∨
  ((∀ x, ¬ IsText bs x) ∧ e = .returned (.tuple #[.slice none 0 0, .bool false])))
set_option maxHeartbeats 8000000 in
theorem readNums_any (s : ByteArray) (w : World) (hs : s.size ≤ 1048576) (hv : RV w) :
  Calls Tryz.prog 198 #[.string s] w fun e w' => NumsAns w w' s.data.toList e := by
 have HV := Lib.hid hv
 clear hv
 go_enter Tryz.func198, Tryz.ntmps198
 go_wp2_with fail
 refine (splitN_any s 33 _ hs (by omega) (by omega) HV.out).mono ?_
 rintro e w1 ⟨cs, W, rfl, hWl, hgl, hnb, ⟨hg1, hce⟩, hb⟩
 have HGL := Lib.hid hgl
 have HNB := Lib.hid hnb
 have HCE := Lib.hid hce
 have HB1 := Lib.hid hb
 obtain ⟨n, hn⟩ : ∃ n, W.length = n := ⟨_, rfl⟩
 have HN := Lib.hid hn
 rw [hn] at hWl ⊢
 clear hgl hnb hce hb hn
 by_cases c1 : n < 8
 ·have HNO : Hid (∀ x, ¬ IsText s.data.toList x) := fun x => wrong_words (HNB.out (by rw [HN.out]; omega)) HGL.out (.inl (by rw [HN.out]; exact c1)) x
  have d1 : (n : Int) < 8 := by omega
  go_wp2
  exact bodyPost_ret (v := .tuple #[.slice none 0 0, .bool false]) (by simp [results, Tryz.results198, go_sem]) rfl ⟨HB1.out, .inr ⟨HNO.out, rfl⟩⟩
 by_cases c2 : 32 < n
 ·have HNO : Hid (∀ x, ¬ IsText s.data.toList x) := fun x => many_words HGL.out (by rw [HN.out]; exact c2) x
  have d1 : ¬ (n : Int) < 8 := by omega
  have d2 : (32 : Int) < (n : Int) := by omega
  go_wp2
  exact bodyPost_ret (v := .tuple #[.slice none 0 0, .bool false]) (by simp [results, Tryz.results198, go_sem]) rfl ⟨HB1.out, .inr ⟨HNO.out, rfl⟩⟩
 have HNW := Lib.hid (HNB.out (by rw [HN.out]; omega))
 have d1 : ¬ (n : Int) < 8 := by omega
 have d2 : ¬ (32 : Int) < (n : Int) := by omega
 obtain ⟨r, hr⟩ : ∃ r, (n - 8) % 4 = r := ⟨_, rfl⟩
 have HRR := Lib.hid hr
 have hm4 : Int.tmod ((n : Int) - 8) 4 = (r : Int) := by
  have e : ((n : Int) - 8) = ((n - 8 : Nat) : Int) := by omega
  rw [e, ← hr]
  rfl
 clear hr
 by_cases c3 : r = 0
 rotate_left
 ·have HNO : Hid (∀ x, ¬ IsText s.data.toList x) := fun x => wrong_words HNW.out HGL.out (.inr (by rw [HN.out, HRR.out]; exact c3)) x
  obtain ⟨r', rfl⟩ : ∃ r', r = r' + 1 := ⟨r - 1, by omega⟩
  have d3 : ((((r' + 1 : Nat) : Int)) == 0) = false := by simp; omega
  have d4 : ((((r' : Nat) : Int) + 1) == 0) = false := by simp; omega
  have d5 : ((((r' : Nat) : Int) + 1) != 0) = true := by simp; omega
  go_wp2
  exact bodyPost_ret (v := .tuple #[.slice none 0 0, .bool false]) (by simp [results, Tryz.results198, go_sem]) rfl ⟨HB1.out, .inr ⟨HNO.out, rfl⟩⟩
 have hm0 : Int.tmod ((n : Int) - 8) 4 = 0 := by rw [hm4, c3]; rfl
 have HRZ : Hid ((n - 8) % 4 = 0) := by rw [HRR.out]; exact c3
 clear hm4 c3 HRR
 have hw0 := HCE.out 0 (by rw [HN.out]; omega)
 have d4 : (0 : Int) < (n : Int) := by omega
 have d5 : 0 < n := by omega
 by_cases c4 : W.getD 0 ⟨#[]⟩ = ⟨#[119]⟩
 rotate_left
 ·have HNO : Hid (∀ x, ¬ IsText s.data.toList x) := fun x => wrong_mark HNW.out HGL.out c4 x
  generalize W.getD 0 ⟨#[]⟩ = y at *
  have c5 : (y.toList == (⟨#[119]⟩ : ByteArray).toList) = false := by
   rw [beq_eq_false_iff_ne, ByteArray.toList_eq, ByteArray.toList_eq]
   intro h1
   apply c4
   cases y
   simp at h1
   rw [← h1]
  have c6 : (y.toList == [119]) = false := by
   rw [beq_eq_false_iff_ne, ByteArray.toList_eq]
   intro h1
   apply c4
   cases y
   simp at h1
   rw [← h1]
  go_wp2
  exact bodyPost_ret (v := .tuple #[.slice none 0 0, .bool false]) (by simp [results, Tryz.results198, go_sem]) rfl ⟨HB1.out, .inr ⟨HNO.out, rfl⟩⟩
 rw [c4] at hw0
 clear c4
 have hmk := run_make_ints n (by omega)
 go_wp2
 clear hmk
 have HRS : Hid ((w1.alloc (.cells (madeCells #[.int .i64 0] n) 3)).rowIs w1.heap.size 3 n (fun o => .int .i64 ((fun _ => (0 : Int)) o))) := (rowInt_start w1 3 n []).congr fun o _ => by unfold intFill; rw [if_neg (by omega)]
 have HBS : Hid (Below w1.heap.size w1 (w1.alloc (.cells (madeCells #[.int .i64 0] n) 3))) := (Below.refl _ _).alloc (Nat.le_refl _) _
 generalize w1.alloc (.cells (madeCells #[.int .i64 0] n) 3) = W2 at *
 go_loopw [7] (fun i wr => ∃ (k : Nat) (f : Nat → Int), k + 1 ≤ n ∧ i = .int .i64 ((k + 1 : Nat) : Int) ∧ Hid (wr.rowIs w1.heap.size 3 n (fun o => .int .i64 (f o))) ∧ Hid (∀ j, j < k → Lib.atoiAll (W.getD (j + 1) ⟨#[]⟩).data.toList = .ok (f (j + 1))) ∧ Hid (Below w1.heap.size w1 wr)) (fun i _ => n - (intOf i).toNat)
 case atStart => exact ⟨0, fun _ => 0, by omega, rfl, HRS, fun j hj => absurd hj (Nat.not_lt_zero j), HBS⟩
 case round =>
  clear HRS HBS
  obtain ⟨k, f, hk, rfl, HR, HF, HB⟩ := hrel
  by_cases hk' : k + 1 < n
  ·have hkW : k + 1 < W.length := by rw [HN.out]; exact hk'
   have hcell := (HB.out.cell (p := ⟨w.heap.size, k + 1, none⟩) hg1).trans (HCE.out (k + 1) hkW)
   have hgw : w.heap.size < wr.heap.size := by have := HB.out.size; omega
   obtain ⟨-, hw2⟩ := word_at hkW
   have hyl := mem_len hw2
   have hdl : s.data.toList.length = s.size := by simp
   rw [HGL.out, List.length_append, hdl, List.length_singleton] at hyl
   have HNOK : Hid ((∀ v, Lib.atoiAll (W.getD (k + 1) ⟨#[]⟩).data.toList ≠ .ok v) → ∀ x, ¬ IsText s.data.toList x) := fun h x => wrong_num HNW.out HGL.out hkW h x
   have HFN : Hid (∀ v, Lib.atoiAll (W.getD (k + 1) ⟨#[]⟩).data.toList = .ok v → ∀ j, j < k + 1 → Lib.atoiAll (W.getD (j + 1) ⟨#[]⟩).data.toList = .ok ((fun o => if o = k + 1 then v else f o) (j + 1))) := fun v hv j hj => by
    by_cases e : j = k
    ·subst e
     simpa using hv
    ·have h1 := HF.out j (by omega)
     rw [h1]
     simp [e]
   have HVW : Hid (RV wr) := (HV.out.below HB1.out).below HB.out
   have i1 : (0 : Int) ≤ ((k + 1 : Nat) : Int) := by omega
   have i2 : ((k + 1 : Nat) : Int) < (n : Int) := by omega
   have hy4 : (W.getD (k + 1) ⟨#[]⟩).size ≤ 1048577 := by omega
   clear hw2 hyl hdl
   generalize W.getD (k + 1) ⟨#[]⟩ = y at *
   go_wp2_with fail
   refine (atoi_any y _ hy4 HVW.out).mono ?_
   rintro e w3 ⟨hb, ⟨v, hv, rfl⟩ | ⟨hno, n3, t3, p3, rfl⟩⟩
   ·have HB3 : Hid (Below w1.heap.size w1 w3) := below_step HB.out HB.out.size hb
    have HR3 : Hid (w3.rowIs w1.heap.size 3 n (fun o => .int .i64 (f o))) := HR.out.of_block (hb.block _ HR.out.lt)
    have HF3 := Lib.hid (HFN.out v hv)
    have HS3 : Hid ((w3.setCell ⟨w1.heap.size, k + 1, none⟩ (.int .i64 v)).rowIs w1.heap.size 3 n (fun o => .int .i64 ((fun o => if o = k + 1 then v else f o) o))) := (HR3.out.set (k + 1) (.int .i64 v)).congr fun o _ => by
     by_cases e : o = k + 1
     ·simp [e]
     ·simp [e]
    have HB4 : Hid (Below w1.heap.size w1 (w3.setCell ⟨w1.heap.size, k + 1, none⟩ (.int .i64 v))) := HB3.out.setCell (p := ⟨w1.heap.size, k + 1, none⟩) (Nat.le_refl _) _
    have c0 := HR3.out.cell (i := k + 1) hk'
    have fz := HR3.out.frozen
    clear hb hv HFN HNOK HR HF HB hcell
    go_wp2
    exact ⟨⟨k + 1, _, by omega, by go_num, HS3, HF3, HB4⟩, by simp [intOf]; omega⟩
   ·have HNO := Lib.hid (HNOK.out hno)
    have HB3 : Hid (Below w.heap.size w w3) := below_step (below_step HB1.out HB1.out.size HB.out) (Nat.le_of_lt hgw) hb
    clear hb hno HFN HNOK HR HF HB hcell
    go_wp2
    exact bodyPost_ret (v := .tuple #[.slice none 0 0, .bool false]) (by simp [results, Tryz.results198, go_sem]) rfl ⟨HB3.out, .inr ⟨HNO.out, rfl⟩⟩
  ·have hkn : k + 1 = n := by omega
   have HBW : Hid (Below w.heap.size w wr) := below_step HB1.out HB1.out.size HB.out
   have hrz := HRZ.out
   have HLE : Hid (NumRow wr w1.heap.size ((List.range n).map f)) := ⟨HR.out.lt, fun i hi => by
    have hi' : i < n := by simpa using hi
    rw [HR.out.cell hi']
    simp [List.getD, hi']⟩
   have HAT : Hid (∀ j, j + 1 < n → Lib.atoiAll (W.getD (j + 1) ⟨#[]⟩).data.toList = .ok (((List.range n).map f).getD (j + 1) 0)) := fun j hj => by
    rw [HF.out j (by omega)]
    simp [List.getD, hj]
   have j0 : ¬ ((k + 1 : Nat) : Int) < (n : Int) := by omega
   have HQD : Hid (n = 8 + 4 * ((n - 8) / 4) ∧ (n - 8) / 4 ≤ 6) := ⟨by omega, by omega⟩
   clear hrz HR HF HB
   go_wp2
   refine bodyPost_ret (v := .tuple #[.slice (some ⟨w1.heap.size, 0, none⟩) n n, .bool true]) (by simp [results, Tryz.results198, go_sem]) rfl ?_
   exact ⟨HBW.out, .inl ⟨w1.heap.size, n, (n - 8) / 4, (List.range n).map f, W, rfl, HQD.out.1, HQD.out.2, by simp, Nat.le_of_lt hg1, HLE.out, HN.out, HNW.out, HGL.out, HAT.out⟩⟩
end Go.Proofs.YteladgfdedlmjaaGreatDoor
namespace Go.Proofs.YteladgfdedlmjaaGreatDoor
open Go.ChangeShapes Go.WideShapes Go.ChangeAt Go.RowKit Go.Joins
set_option maxRecDepth 100000
structure OwnStrs (w : World) (base g cap : Nat) (ws : List ByteArray) : Prop where
 le : base ≤ g
 lt : g < w.heap.size
 own : w.ownsRow base 9 1 (.slice (some ⟨g, 0, none⟩) ws.length cap) ws.length (ws.map Value.string)
theorem OwnStrs.below {w w' : World} {base g cap : Nat} {ws : List ByteArray} (h : OwnStrs w base g cap ws) (hb : Below w.heap.size w w') : OwnStrs w' base g cap ws :=
 ⟨h.le, Nat.lt_of_lt_of_le h.lt hb.size, h.own.kept (row := none) ⟨hb.os, hb.tape, hb.output, hb.size, fun k hk _ => hb.block k hk⟩ (.inr (by simp [Value.ownBlock]))⟩
theorem OwnStrs.set {w : World} {base g cap : Nat} {ws : List ByteArray} (h : OwnStrs w base g cap ws) (j : Nat) (t : ByteArray) : OwnStrs (w.setCell ⟨g, j, none⟩ (.string t)) base g cap (ws.set j t) := by
 refine ⟨h.le, by simpa using h.lt, ?_⟩
 have := (h.own.stored j (.string t)).1
 rw [← List.map_set] at this
 simpa using this
theorem OwnStrs.cell {w : World} {base g cap : Nat} {ws : List ByteArray} (h : OwnStrs w base g cap ws) {j : Nat} {t : ByteArray} (ht : ws[j]? = some t) : w.cell? ⟨g, j, none⟩ = some (.string t) := by
 rw [h.own.cellAt j (by have := (List.getElem?_eq_some_iff.1 ht).1; omega)]
 simp [ht]
theorem OwnStrs.froz {w : World} {base g cap : Nat} {ws : List ByteArray} (h : OwnStrs w base g cap ws) (j : Nat) : w.frozen? ⟨g, j, none⟩ = false := h.own.frozenAt j
structure Words (w W : World) (k c s q v : Int) (de : Bool) (a : Option Addr) (len cap g wc : Nat) (ws : List ByteArray) : Prop where
 box : BoxIn w W k c s q v de a len cap
 row : OwnStrs W (w.heap.size + 1) g wc ws
theorem Words.step {w W W' : World} {k c s q v : Int} {de : Bool} {a : Option Addr} {len cap g wc : Nat} {ws : List ByteArray} (h : Words w W k c s q v de a len cap g wc ws) (hb : Below W.heap.size W W') : Words w W' k c s q v de a len cap g wc ws :=
 ⟨h.box.step hb, h.row.below hb⟩
theorem Words.set {w W : World} {k c s q v : Int} {de : Bool} {a : Option Addr} {len cap g wc : Nat} {ws : List ByteArray} (h : Words w W k c s q v de a len cap g wc ws) (j : Nat) (t : ByteArray) : Words w (W.setCell ⟨g, j, none⟩ (.string t)) k c s q v de a len cap g wc (ws.set j t) := by
 have hle := h.row.le
 refine ⟨h.box.other (by simp) (h.box.below.setCell (p := ⟨g, j, none⟩) (show w.heap.size ≤ g by omega) _) (Below.heap_setCell _ _ _ _ (show w.heap.size ≠ g by omega)), h.row.set j t⟩
theorem Words.grown {w W W' : World} {k c s q v : Int} {de : Bool} {a : Option Addr} {len cap g wc g' wc' : Nat} {ws ws' : List ByteArray} (h : Words w W k c s q v de a len cap g wc ws) (hg : W.grownBy W' (some g)) (ho : OwnStrs W' (w.heap.size + 1) g' wc' ws') : Words w W' k c s q v de a len cap g' wc' ws' := by
 have hle := h.row.le
 refine ⟨h.box.other hg.size (h.box.below.grown hg h.box.below.size fun j hj => by injection hj with hj; omega) (hg.block _ h.box.lt (by simp; omega)), ho⟩
theorem Words.ne {w W : World} {k c s q v : Int} {de : Bool} {a : Option Addr} {len cap g wc : Nat} {ws : List ByteArray} (h : Words w W k c s q v de a len cap g wc ws) : g ≠ w.heap.size := by
 have := h.row.le
 omega
theorem Words.tab {w W : World} {k c s q v : Int} {de : Bool} {a : Option Addr} {len cap g wc : Nat} {ws : List ByteArray} (h : Words w W k c s q v de a len cap g wc ws) (ht : Tab w) : Tab W := ht.below h.box.below ht.lt
theorem implNumT (n : Int) (t : ByteArray) (w : World) (ht : t = str (Lib.itoa n)) (h : -9223372036854775808 ≤ n ∧ n ≤ 9223372036854775807) (hT : Tab w) :
  Calls Tryz.prog 164 #[.int .i64 n] w fun e w' => e = .returned (.string t) ∧ Below w.heap.size w w' := by
 subst ht
 exact implNum n w h.1 h.2 hT
theorem flag_any (de : Bool) (w : World) : Calls Tryz.prog 146 #[.bool de] w fun e w' => e = .returned (.int .i64 (bitI de)) ∧ w' = w := by
 go_enter Tryz.func146, Tryz.ntmps146
 cases de
 ·go_wp2
  go_ret
  exact ⟨rfl, rfl⟩
 ·go_wp2
  go_ret
  exact ⟨rfl, rfl⟩
theorem infoStr : (Tryz.prog.info? 9).map (fun i => (i.zero, i.size, i.bytes)) = some (some (.string ⟨#[]⟩), 1, 16) := by kernel_rfl
theorem make_words {w w1 : World} {k c s q v : Int} {de : Bool} {a : Option Addr} {len cap : Nat} (h : BoxIn w w1 k c s q v de a len cap) (n : Nat) (hn : n ≤ 1048576) :
  ∃ W, (Instr.makeSlice 186 (.int .i64 8) (.int .i64 (8 + 4 * (n : Int)))).run Tryz.prog w1 = .ok (.slice (some ⟨w1.heap.size, 0, none⟩) 8 (8 + 4 * n)) W ∧ Words w W k c s q v de a len cap w1.heap.size (8 + 4 * n) (List.replicate 8 ⟨#[]⟩) := by
 obtain ⟨i, hi, hx⟩ := Option.map_eq_some_iff.1 infoStr
 simp only [Prod.mk.injEq] at hx
 have hr := run_make (P := Tryz.prog) w1 186 9 i (.string ⟨#[]⟩) Tryz.underlying186 hi hx.1 .i64 .i64 8 (8 + 4 * (n : Int)) (by omega) (by omega) (by rw [hx.2.2]; omega) (by omega)
 have e1 : (8 + 4 * (n : Int)).toNat = 8 + 4 * n := by omega
 rw [e1, hx.2.1, Nat.mul_one] at hr
 refine ⟨_, hr, ⟨h.step ((Below.refl _ _).alloc (Nat.le_refl _) _), ⟨h.lt, by simp, by simp, .inr ⟨w1.heap.size, 8 + 4 * n, _, rfl, h.lt, heap_alloc_new w1 _, by simp, by simp [maxLen]; omega, by rw [size_madeCells]; omega, ?_⟩⟩⟩⟩
 rw [show (Value.string ⟨#[]⟩).cells = #[Value.string ⟨#[]⟩] from rfl, toList_madeCells_one, List.take_replicate]
 simp only [List.length_replicate, List.map_replicate]
 congr 1
 omega
def StrsFact (ts : List ByteArray) : Fact := fun v w => ∃ g, v = .slice (some ⟨g, 0, none⟩) ts.length ts.length ∧ g < w.heap.size ∧ ∀ j u, (ts.map Value.string)[j]? = some u → w.cell? ⟨g, j, none⟩ = some u
theorem lasts_strs (ts : List ByteArray) : lasts (fun w w' => Below w.heap.size w w') (StrsFact ts) := by
 rintro v w w' ⟨g, hv, hg, hh⟩ hb
 exact ⟨g, hv, Nat.lt_of_lt_of_le hg hb.size, fun j u hu => (hb.cell (p := ⟨g, j, none⟩) hg).trans (hh j u hu)⟩
theorem strs_new {w : World} {t : Nat} (ts : List ByteArray) : StrsFact ts (.slice (some ⟨w.heap.size, 0, none⟩) ts.length ts.length) (w.alloc (.cells (ts.map Value.string).toArray t)) :=
 ⟨_, rfl, by simp, fun j u hu => by rw [cell_of_row _ _ j _ t (0, 0) (heap_alloc_new w _)]; simpa using hu⟩
end Go.Proofs.YteladgfdedlmjaaGreatDoor
namespace Go.Proofs
open Go.Shelf
def Tryz.lays156_ren : Go.Shelf.Ren := ⟨fun | 156 => 165 | 165 => 185 | 166 => 186 | 169 => 187 | 240 => 195 | 241 => 196 | 276 => 204 | 277 => 205 | n => n, fun | 31 => 186 | 9 => 9 | 3 => 3 | 4 => 4 | 0 => 0 | 20 => 20 | 72 => 222 | 76 => 191 | 70 => 220 | 37 => 22 | 75 => 132 | 127 => 233 | 164 => 163 | 5 => 5 | 80 => 224 | n => n, fun | n => n⟩
theorem Tryz.lays156 : Go.Proofs.Lays.n156 Tryz.prog Tryz.lays156_ren := {
 mixed := by kernel_rfl
 f156 := Tryz.func165.trans (congrArg some (by kernel_rfl))
 f165 := Tryz.func185.trans (congrArg some (by kernel_rfl))
 f166 := Tryz.func186.trans (congrArg some (by kernel_rfl))
 f169 := Tryz.func187.trans (congrArg some (by kernel_rfl))
 f240 := Tryz.func195.trans (congrArg some (by kernel_rfl))
 f241 := Tryz.func196.trans (congrArg some (by kernel_rfl))
 f276 := Tryz.func204.trans (congrArg some (by kernel_rfl))
 f277 := Tryz.func205.trans (congrArg some (by kernel_rfl))
 t0 := Tryz.underlying0
 a0 := Tryz.isAgg0
 z0 := Tryz.sizeOf0
 v0 := Tryz.zeroValue0
 t3 := Tryz.underlying3
 a3 := Tryz.isAgg3
 z3 := Tryz.sizeOf3
 v3 := Tryz.zeroValue3
 t4 := Tryz.underlying4
 a4 := Tryz.isAgg4
 z4 := Tryz.sizeOf4
 v4 := Tryz.zeroValue4
 t9 := Tryz.underlying9
 a9 := Tryz.isAgg9
 z9 := Tryz.sizeOf9
 v9 := Tryz.zeroValue9
 t20 := Tryz.underlying20
 a20 := Tryz.isAgg20
 z20 := Tryz.sizeOf20
 v20 := Tryz.zeroValue20
 t31 := Tryz.underlying186
 a31 := Tryz.isAgg186
 z31 := Tryz.sizeOf186
 v31 := Tryz.zeroValue186
 t37 := Tryz.underlying22
 a37 := Tryz.isAgg22
 z37 := Tryz.sizeOf22
 v37 := Tryz.zeroValue22
 t70 := Tryz.underlying220
 a70 := Tryz.isAgg220
 z70 := Tryz.sizeOf220
 v70 := Tryz.zeroValue220
 t72 := Tryz.underlying222
 a72 := Tryz.isAgg222
 z72 := Tryz.sizeOf222
 v72 := Tryz.zeroValue222
 t75 := Tryz.underlying132
 a75 := Tryz.isAgg132
 z75 := Tryz.sizeOf132
 v75 := Tryz.zeroValue132
 t76 := Tryz.underlying191
 a76 := Tryz.isAgg191
 z76 := Tryz.sizeOf191
 v76 := Tryz.zeroValue191
 t127 := Tryz.underlying233
 a127 := Tryz.isAgg233
 z127 := Tryz.sizeOf233
 v127 := Tryz.zeroValue233
 t164 := Tryz.underlying163
 a164 := Tryz.isAgg163
 z164 := Tryz.sizeOf163
 v164 := Tryz.zeroValue163 }
theorem Tryz.Builder_Extra_156 : Builder.Extra Tryz.prog Tryz.lays156_ren := {
 sizeBuilder := by kernel_rfl
 liesBuilder := by kernel_rfl
 t5 := Tryz.underlying5
 a5 := Tryz.isAgg5
 z5 := Tryz.sizeOf5
 v5 := Tryz.zeroValue5
 infoByte := by kernel_rfl
 cellsByte := by kernel_rfl
 sizeByte := by kernel_rfl
 neB5 := by decide }
open Go.RowKit in
theorem Tryz.strings_Join_none (a : Option Addr) (c : Nat) (sep : ByteArray) (w : World) :
  Calls Tryz.prog 165 #[.slice a 0 c, .string sep] w fun e w' => e = .returned (.string ⟨#[]⟩) ∧ w' = w := Any.strings_Join_none Tryz.lays156 Tryz.Builder_Extra_156 a c sep w
open Go.RowKit in
theorem Tryz.strings_Join (bk o c : Nat) (xs : List ByteArray) (sep : ByteArray) (w : World) (hcells : ∀ (j : Nat) x, xs[j]? = some x → w.cell? ⟨bk, o + j, none⟩ = some (.string x)) (hbk : bk < w.heap.size) (hN : xs.length ≤ 140737488355328) (hcap : xs.length ≤ c) (hlen : (Lib.join (xs.map (·.data.toList)) sep.data.toList).length ≤ 140737488355328) :
  Calls Tryz.prog 165 #[.slice (some ⟨bk, o, none⟩) xs.length c, .string sep] w fun e w' => e = .returned (.string ⟨(Lib.join (xs.map (·.data.toList)) sep.data.toList).toArray⟩) ∧ Below w.heap.size w w' := Any.strings_Join Tryz.lays156 Tryz.Builder_Extra_156 bk o c xs sep w hcells hbk hN hcap hlen
end Go.Proofs
namespace Go.Proofs.YteladgfdedlmjaaGreatDoor
open Go.ChangeShapes Go.WideShapes Go.ChangeAt Go.RowKit Go.Joins
theorem head_bounds {k c s q v : Int} {de : Bool} {n : Nat} (h1 : btw k 0 5 = true) (h2 : tagOkB c s q = true) (h3 : valOkB v de = true) (hn : n ≤ 1048576) : ∀ x ∈ headNs k c s q v de n, -9223372036854775808 ≤ x ∧ x ≤ 9223372036854775807 := by
 have a := btw_bounds h1
 have b := tagOk_bounds h2
 have d := btw_bounds (val_btw h3)
 have e : 0 ≤ bitI de ∧ bitI de ≤ 1 := by cases de <;> simp [bitI]
 intro x hx
 simp only [headNs, List.mem_cons, List.not_mem_nil, or_false] at hx
 rcases hx with rfl | rfl | rfl | rfl | rfl | rfl | rfl <;> omega
def B64 (x : Int) : Prop := -9223372036854775808 ≤ x ∧ x ≤ 9223372036854775807
theorem nums_most : ∀ (ns : List Int), (∀ x ∈ ns, B64 x) → (numsText ns).length ≤ 22 * ns.length
 | [], _ => by simp [numsText]
 | x :: r, h => by
  have h1 := nums_most r fun y hy => h y (List.mem_cons_of_mem _ hy)
  have h2 := h x List.mem_cons_self
  have h3 := Lib.itoa_length_le _ h2.1 h2.2
  simp only [numsText, List.flatMap_cons, List.length_append, List.length_cons] at h1 ⊢
  omega
theorem dep_b64 {x0 x1 x2 x3 : Int} (h0 : Ints64 [x0]) (h1 : Ints64 [x1, x2, x3]) : ∀ x ∈ [x0, x1, x2, x3], B64 x := by
 have a := h0 0 (by simp)
 have b := h1 0 (by simp)
 have c := h1 1 (by simp)
 have d := h1 2 (by simp)
 intro x hx
 simp only [List.mem_cons, List.not_mem_nil, or_false] at hx
 rcases hx with rfl | rfl | rfl | rfl
 ·exact a
 ·exact b
 ·exact c
 ·exact d
theorem words_more (ns ms : List Int) : wordsOf (ns ++ ms) = wordsOf ns ++ ms.map fun n => str (Lib.itoa n) := by simp [wordsOf]
theorem deps_more (xs : List Dp) (j : Nat) (h : j < xs.length) : (xs.take (j + 1)).flatMap depNs = (xs.take j).flatMap depNs ++ depNs (xs.getD j dz) := by
 rw [List.take_add_one, List.getElem?_eq_getElem h, List.flatMap_append]
 simp [List.getD, h]
theorem join_any (base g wc n : Nat) (ns : List Int) (w : World) (hl : (wordsOf ns).length = n) (hn : n ≤ 140737488355328) (ho : OwnStrs w base g wc (wordsOf ns)) (ht : (119 :: numsText ns).length ≤ 140737488355328) :
  Calls Tryz.prog 165 #[.slice (some ⟨g, 0, none⟩) n wc, .string ⟨#[32]⟩] w fun e w' => e = .returned (.string (str (119 :: numsText ns))) ∧ Below w.heap.size w w' := by
 subst hl
 have hcap : (wordsOf ns).length ≤ wc := by
  rcases ho.own.2 with ⟨h, _⟩ | ⟨g', cap, cur, h, _, _, hc, _⟩
  ·simp at h
  ·simp only [Value.slice.injEq, true_and] at h
   rw [h.2]
   exact hc
 have := Tryz.strings_Join g 0 wc (wordsOf ns) ⟨#[32]⟩ w (fun j x hx => by rw [Nat.zero_add]; exact ho.cell hx) ho.lt hn hcap (by rw [show (⟨#[32]⟩ : ByteArray).data.toList = [32] from rfl, join_words]; exact ht)
 rw [show (⟨#[32]⟩ : ByteArray).data.toList = [32] from rfl, join_words] at this
 exact this
def DepIn (b : Nat) (x0 x1 x2 x3 : Int) (w : World) : Prop := b < w.heap.size ∧ w.cell? ⟨b, 0, none⟩ = some (.int .i64 x0) ∧ w.cell? ⟨b, 1, none⟩ = some (.int .i64 x1) ∧ w.cell? ⟨b, 2, none⟩ = some (.int .i64 x2) ∧ w.cell? ⟨b, 3, none⟩ = some (.int .i64 x3)
theorem DepIn.step {b : Nat} {x0 x1 x2 x3 : Int} {w w' : World} (h : DepIn b x0 x1 x2 x3 w) (hb : Below w.heap.size w w') : DepIn b x0 x1 x2 x3 w' := by
 obtain ⟨hz, e0, e1, e2, e3⟩ := h
 exact ⟨Nat.lt_of_lt_of_le hz hb.size, held_cell hb e0 hz, held_cell hb e1 hz, held_cell hb e2 hz, held_cell hb e3 hz⟩
theorem DepIn.new (x0 x1 x2 x3 : Int) (w : World) (t : Nat) : DepIn w.heap.size x0 x1 x2 x3 (w.alloc (.cells #[.int .i64 x0, .int .i64 x1, .int .i64 x2, .int .i64 x3] t)) := by
 have h := heap_alloc_new w (.cells #[.int .i64 x0, .int .i64 x1, .int .i64 x2, .int .i64 x3] t)
 refine ⟨by simp, ?_, ?_, ?_, ?_⟩ <;> (rw [cell_of_row _ _ _ _ t (0, 0) h]; rfl)
end Go.Proofs.YteladgfdedlmjaaGreatDoor
namespace Go.Proofs.YteladgfdedlmjaaGreatDoor
open Go.ChangeShapes Go.WideShapes Go.ChangeAt Go.RowKit Go.Joins
set_option maxRecDepth 100000
set_option maxHeartbeats 1000000 in
theorem implText_gen (k c s q v : Int) (de : Bool) (ag : Option Addr) (xs : List Dp) (len cap : Nat) (w : World) (hl : xs.length = len) (hn : len ≤ 1048576) (hh : Deps0 w ag xs) (ht : Tab w) :
  Calls Tryz.prog 138 #[wrV k c s q v de ag len cap] w fun e w' => e = .returned (.string (str (writeText k c s q v de xs))) ∧ Below w.heap.size w w' := by
 subst hl
 have HH : Hid (Deps0 w ag xs) := hh
 have HT : Hid (Tab w) := ht
 clear hh ht
 go_enter Tryz.func138, Tryz.ntmps138
 go_wp2_with fail
 refine (implWriteOk_gen k c s q v de ag xs _ cap _ rfl hn (HH.out.isDeps.below ((Below.refl _ _).alloc (Nat.le_refl _) _))).mono ?_
 rintro e w1 ⟨rfl, hb⟩
 have HX : Hid (BoxIn w w1 k c s q v de ag xs.length cap) := BoxIn.start hb
 clear hb
 cases hok : writeOkB k c s q v de xs
 ·have HW : Hid (writeText k c s q v de xs = []) := by simp [writeText, hok, Hid]
  go_wp2
  go_ret
  rw [HW.out]
  exact ⟨rfl, HX.out.below⟩
 ·have HW : Hid (writeText k c s q v de xs = headText k c s q v de xs.length ++ xs.flatMap depText) := by simp [writeText, hok, Hid]
  obtain ⟨o1, o2, o3, o4, -⟩ := ok_parts hok
  have HB : Hid (∀ x ∈ headNs k c s q v de xs.length, -9223372036854775808 ≤ x ∧ x ≤ 9223372036854775807) := head_bounds o1 o2 o3 hn
  obtain ⟨t1, HT1⟩ : ∃ t, Hid (t = str (Lib.itoa k)) := ⟨_, Lib.hid rfl⟩
  obtain ⟨t2, HT2⟩ : ∃ t, Hid (t = str (Lib.itoa c)) := ⟨_, Lib.hid rfl⟩
  obtain ⟨t3, HT3⟩ : ∃ t, Hid (t = str (Lib.itoa s)) := ⟨_, Lib.hid rfl⟩
  obtain ⟨t4, HT4⟩ : ∃ t, Hid (t = str (Lib.itoa q)) := ⟨_, Lib.hid rfl⟩
  obtain ⟨t5, HT5⟩ : ∃ t, Hid (t = str (Lib.itoa v)) := ⟨_, Lib.hid rfl⟩
  obtain ⟨t6, HT6⟩ : ∃ t, Hid (t = str (Lib.itoa (bitI de))) := ⟨_, Lib.hid rfl⟩
  obtain ⟨t7, HT7⟩ : ∃ t, Hid (t = str (Lib.itoa (xs.length : Int))) := ⟨_, Lib.hid rfl⟩
  have c6 := HX.out.c6
  obtain ⟨w2, hmk, hw2⟩ := make_words HX.out xs.length hn
  have G : w1.heap.size ≠ w.heap.size := hw2.ne
  clear HX
  generalize w1.heap.size = b at hmk hw2 G
  clear G
  have HW0 : Hid (Words w w2 k c s q v de ag xs.length cap b (8 + 4 * xs.length) [⟨#[]⟩, ⟨#[]⟩, ⟨#[]⟩, ⟨#[]⟩, ⟨#[]⟩, ⟨#[]⟩, ⟨#[]⟩, ⟨#[]⟩]) := hw2
  clear hw2
  have d0 := HW0.out.row.cell (j := 0) (t := ⟨#[]⟩) rfl
  have f0 := HW0.out.row.froz 0
  have K0 : Hid (Words w (w2.setCell ⟨b, 0, none⟩ (.string ⟨#[119]⟩)) k c s q v de ag xs.length cap b (8 + 4 * xs.length) [⟨#[119]⟩, ⟨#[]⟩, ⟨#[]⟩, ⟨#[]⟩, ⟨#[]⟩, ⟨#[]⟩, ⟨#[]⟩, ⟨#[]⟩]) := HW0.out.set 0 _
  have e0 := K0.out.box.c0
  go_wp2_with fail
  refine (implNumT _ t1 _ HT1.out (HB.out _ (by simp [headNs])) (K0.out.tab HT.out)).mono ?_
  rintro e w3 ⟨rfl, hb⟩
  have HW1 : Hid (Words w w3 k c s q v de ag xs.length cap b (8 + 4 * xs.length) [⟨#[119]⟩, ⟨#[]⟩, ⟨#[]⟩, ⟨#[]⟩, ⟨#[]⟩, ⟨#[]⟩, ⟨#[]⟩, ⟨#[]⟩]) := K0.out.step hb
  clear hb K0 HW0 d0 f0 e0
  clear hmk c6
  have d1 := HW1.out.row.cell (j := 1) (t := ⟨#[]⟩) rfl
  have f1 := HW1.out.row.froz 1
  have K1 : Hid (Words w (w3.setCell ⟨b, 1, none⟩ (.string t1)) k c s q v de ag xs.length cap b (8 + 4 * xs.length) [⟨#[119]⟩, t1, ⟨#[]⟩, ⟨#[]⟩, ⟨#[]⟩, ⟨#[]⟩, ⟨#[]⟩, ⟨#[]⟩]) := HW1.out.set 1 _
  have e1 := K1.out.box.c1
  go_wp2_with fail
  refine (implNumT _ t2 _ HT2.out (HB.out _ (by simp [headNs])) (K1.out.tab HT.out)).mono ?_
  rintro e w4 ⟨rfl, hb⟩
  have HW2 : Hid (Words w w4 k c s q v de ag xs.length cap b (8 + 4 * xs.length) [⟨#[119]⟩, t1, ⟨#[]⟩, ⟨#[]⟩, ⟨#[]⟩, ⟨#[]⟩, ⟨#[]⟩, ⟨#[]⟩]) := K1.out.step hb
  clear hb K1 HW1 d1 f1 e1
  have d2 := HW2.out.row.cell (j := 2) (t := ⟨#[]⟩) rfl
  have f2 := HW2.out.row.froz 2
  have K2 : Hid (Words w (w4.setCell ⟨b, 2, none⟩ (.string t2)) k c s q v de ag xs.length cap b (8 + 4 * xs.length) [⟨#[119]⟩, t1, t2, ⟨#[]⟩, ⟨#[]⟩, ⟨#[]⟩, ⟨#[]⟩, ⟨#[]⟩]) := HW2.out.set 2 _
  have e2 := K2.out.box.c2
  go_wp2_with fail
  refine (implNumT _ t3 _ HT3.out (HB.out _ (by simp [headNs])) (K2.out.tab HT.out)).mono ?_
  rintro e w5 ⟨rfl, hb⟩
  have HW3 : Hid (Words w w5 k c s q v de ag xs.length cap b (8 + 4 * xs.length) [⟨#[119]⟩, t1, t2, ⟨#[]⟩, ⟨#[]⟩, ⟨#[]⟩, ⟨#[]⟩, ⟨#[]⟩]) := K2.out.step hb
  clear hb K2 HW2 d2 f2 e2
  have d3 := HW3.out.row.cell (j := 3) (t := ⟨#[]⟩) rfl
  have f3 := HW3.out.row.froz 3
  have K3 : Hid (Words w (w5.setCell ⟨b, 3, none⟩ (.string t3)) k c s q v de ag xs.length cap b (8 + 4 * xs.length) [⟨#[119]⟩, t1, t2, t3, ⟨#[]⟩, ⟨#[]⟩, ⟨#[]⟩, ⟨#[]⟩]) := HW3.out.set 3 _
  have e3 := K3.out.box.c3
  go_wp2_with fail
  refine (implNumT _ t4 _ HT4.out (HB.out _ (by simp [headNs])) (K3.out.tab HT.out)).mono ?_
  rintro e w6 ⟨rfl, hb⟩
  have HW4 : Hid (Words w w6 k c s q v de ag xs.length cap b (8 + 4 * xs.length) [⟨#[119]⟩, t1, t2, t3, ⟨#[]⟩, ⟨#[]⟩, ⟨#[]⟩, ⟨#[]⟩]) := K3.out.step hb
  clear hb K3 HW3 d3 f3 e3
  have d4 := HW4.out.row.cell (j := 4) (t := ⟨#[]⟩) rfl
  have f4 := HW4.out.row.froz 4
  have K4 : Hid (Words w (w6.setCell ⟨b, 4, none⟩ (.string t4)) k c s q v de ag xs.length cap b (8 + 4 * xs.length) [⟨#[119]⟩, t1, t2, t3, t4, ⟨#[]⟩, ⟨#[]⟩, ⟨#[]⟩]) := HW4.out.set 4 _
  have e4 := K4.out.box.c4
  go_wp2_with fail
  refine (implNumT _ t5 _ HT5.out (HB.out _ (by simp [headNs])) (K4.out.tab HT.out)).mono ?_
  rintro e w7 ⟨rfl, hb⟩
  have HW5 : Hid (Words w w7 k c s q v de ag xs.length cap b (8 + 4 * xs.length) [⟨#[119]⟩, t1, t2, t3, t4, ⟨#[]⟩, ⟨#[]⟩, ⟨#[]⟩]) := K4.out.step hb
  clear hb K4 HW4 d4 f4 e4
  have d5 := HW5.out.row.cell (j := 5) (t := ⟨#[]⟩) rfl
  have f5 := HW5.out.row.froz 5
  have K5 : Hid (Words w (w7.setCell ⟨b, 5, none⟩ (.string t5)) k c s q v de ag xs.length cap b (8 + 4 * xs.length) [⟨#[119]⟩, t1, t2, t3, t4, t5, ⟨#[]⟩, ⟨#[]⟩]) := HW5.out.set 5 _
  have e5 := K5.out.box.c5
  go_wp2_with fail
  refine (flag_any de _).mono ?_
  rintro e w' ⟨rfl, rfl⟩
  go_wp2_with fail
  refine (implNumT _ t6 _ HT6.out (HB.out _ (by simp [headNs])) (K5.out.tab HT.out)).mono ?_
  rintro e w8 ⟨rfl, hb⟩
  have HW6 : Hid (Words w w8 k c s q v de ag xs.length cap b (8 + 4 * xs.length) [⟨#[119]⟩, t1, t2, t3, t4, t5, ⟨#[]⟩, ⟨#[]⟩]) := K5.out.step hb
  clear hb K5 HW5 d5 f5 e5
  have d6 := HW6.out.row.cell (j := 6) (t := ⟨#[]⟩) rfl
  have f6 := HW6.out.row.froz 6
  have K6 : Hid (Words w (w8.setCell ⟨b, 6, none⟩ (.string t6)) k c s q v de ag xs.length cap b (8 + 4 * xs.length) [⟨#[119]⟩, t1, t2, t3, t4, t5, t6, ⟨#[]⟩]) := HW6.out.set 6 _
  have e6 := K6.out.box.c6
  go_wp2_with fail
  refine (implNumT _ t7 _ HT7.out (HB.out _ (by simp [headNs])) (K6.out.tab HT.out)).mono ?_
  rintro e w9 ⟨rfl, hb⟩
  have HW7 : Hid (Words w w9 k c s q v de ag xs.length cap b (8 + 4 * xs.length) [⟨#[119]⟩, t1, t2, t3, t4, t5, t6, ⟨#[]⟩]) := K6.out.step hb
  clear hb K6 HW6 d6 f6 e6
  have d7 := HW7.out.row.cell (j := 7) (t := ⟨#[]⟩) rfl
  have f7 := HW7.out.row.froz 7
  have K7 : Hid (Words w (w9.setCell ⟨b, 7, none⟩ (.string t7)) k c s q v de ag xs.length cap b (8 + 4 * xs.length) [⟨#[119]⟩, t1, t2, t3, t4, t5, t6, t7]) := HW7.out.set 7 _
  have e7 := K7.out.box.c6
  have HE : Hid ([⟨#[119]⟩, t1, t2, t3, t4, t5, t6, t7] = wordsOf (headNs k c s q v de xs.length)) := by
   rw [HT1.out, HT2.out, HT3.out, HT4.out, HT5.out, HT6.out, HT7.out]
   exact Lib.hid rfl
  clear HT1 HT2 HT3 HT4 HT5 HT6 HT7
  go_wp2
  go_loopw [3, 60] (fun t i wr => ∃ (j g' wc : Nat) (ns : List Int), j ≤ xs.length ∧ i = .int .i64 j ∧ t = .slice (some ⟨g', 0, none⟩) (8 + 4 * j) wc ∧ Hid (ns = headNs k c s q v de xs.length ++ (xs.take j).flatMap depNs) ∧ Hid ((wordsOf ns).length = 8 + 4 * j) ∧ Hid (∀ x ∈ ns, B64 x) ∧ Hid (Words w wr k c s q v de ag xs.length cap g' wc (wordsOf ns))) (fun _ i _ => xs.length - (intOf i).toNat)
  case atStart => exact ⟨0, b, 8 + 4 * xs.length, headNs k c s q v de xs.length, by omega, rfl, rfl, by simp [Hid], rfl, HB.out, by rw [HE.out] at K7; exact K7⟩
  case round =>
  clear K7 HE HW7 d7 f7 e7 HB
  obtain ⟨j, g', wc, ns, hj, rfl, rfl, HN, HL, HBN, HWD⟩ := hrel
  by_cases hj' : j < xs.length
  ·have j1 : (0 : Int) ≤ (j : Int) := by omega
   have j2 : (j : Int) < (xs.length : Int) := by omega
   obtain ⟨g, rfl, hlt, hhd⟩ := HH.out.get hj'
   obtain ⟨e0, e1, e2, e3⟩ := dep_cells4 hhd HWD.out.box.below hlt hj'
   clear hhd
   have HBD : Hid (∀ x ∈ depNs (xs.getD j dz), B64 x) := dep_b64 (ints_key (dep_key o4 hj')) (ints_tag (depsOk_tag o4 hj'))
   have HM := Lib.hid (deps_more xs j hj')
   rw [show depNs (xs.getD j dz) = [(xs.getD j dz).k, (xs.getD j dz).c, (xs.getD j dz).s, (xs.getD j dz).q] from rfl] at HBD HM
   generalize (xs.getD j dz).k = x0 at e0 HBD HM
   generalize (xs.getD j dz).c = x1 at e1 HBD HM
   generalize (xs.getD j dz).s = x2 at e2 HBD HM
   generalize (xs.getD j dz).q = x3 at e3 HBD HM
   obtain ⟨y0, HY0⟩ : ∃ t, Hid (t = str (Lib.itoa x0)) := ⟨_, Lib.hid rfl⟩
   obtain ⟨y1, HY1⟩ : ∃ t, Hid (t = str (Lib.itoa x1)) := ⟨_, Lib.hid rfl⟩
   obtain ⟨y2, HY2⟩ : ∃ t, Hid (t = str (Lib.itoa x2)) := ⟨_, Lib.hid rfl⟩
   obtain ⟨y3, HY3⟩ : ∃ t, Hid (t = str (Lib.itoa x3)) := ⟨_, Lib.hid rfl⟩
   go_wp2_with fail
   clear e0 e1 e2 e3
   have HWD0 : Hid (Words w (wr.alloc (.cells #[.int .i64 x0, .int .i64 x1, .int .i64 x2, .int .i64 x3] 85)) k c s q v de (some ⟨g, 0, none⟩) xs.length cap g' wc (wordsOf ns)) := HWD.out.step ((Below.refl _ _).alloc (Nat.le_refl _) _)
   have HDP : Hid (DepIn wr.heap.size x0 x1 x2 x3 (wr.alloc (.cells #[.int .i64 x0, .int .i64 x1, .int .i64 x2, .int .i64 x3] 85))) := DepIn.new x0 x1 x2 x3 wr _
   generalize wr.alloc (.cells #[.int .i64 x0, .int .i64 x1, .int .i64 x2, .int .i64 x3] 85) = wd at HWD0 HDP ⊢
   generalize wr.heap.size = bd at HDP ⊢
   clear HWD
   refine wp_region_slots 17 [[(3, false)], [(5, false)], [(65, true)], [(66, true)], [(5, false)], [(68, true)], [(69, true)], [(70, true)], [(5, false)], [(72, true)], [(73, true)], [(74, true)], [(5, false)], [(76, true)], [(77, true)], [(78, true)], [(67, true), (71, true), (75, true), (79, true)]] (fun w' => Hid (Words w w' k c s q v de (some ⟨g, 0, none⟩) xs.length cap g' wc (wordsOf ns)) ∧ DepIn bd x0 x1 x2 x3 w') (fun w w' => Below w.heap.size w w') (by kernel_rfl) (by kernel_rfl) (by rfl) ⟨HWD0.out.step (Below.refl _ _).drew, HDP.out.step (Below.refl _ _).drew⟩ (fun _ _ h hb => ⟨h.1.out.step hb, h.2.step hb⟩) ?_
   iterate 3 (apply slot_eq; · (intro ρ w' ⟨p1, p2, p3⟩ ⟨HS, hz, e0, e1, e2, e3⟩ hn; simp at hn; go_simp; exact ⟨Below.refl _ _, rfl⟩))
   apply slot_eq
   ·intro ρ w' ⟨p1, p2, p3⟩ ⟨HS, hz, e0, e1, e2, e3⟩ hn
    simp at hn
    go_simp
    exact got_call (implNumT x0 y0 _ HY0.out (HBD.out x0 (by simp)) (HS.out.tab HT.out)) fun e w'' ⟨he, hb⟩ => ⟨_, he, hb, rfl⟩
   iterate 3 (apply slot_eq; · (intro ρ w' ⟨p1, p2, p3⟩ ⟨HS, hz, e0, e1, e2, e3⟩ hn; simp at hn; go_simp; exact ⟨Below.refl _ _, rfl⟩))
   apply slot_eq
   ·intro ρ w' ⟨p1, p2, p3⟩ ⟨HS, hz, e0, e1, e2, e3⟩ hn
    simp at hn
    go_simp
    exact got_call (implNumT x1 y1 _ HY1.out (HBD.out x1 (by simp)) (HS.out.tab HT.out)) fun e w'' ⟨he, hb⟩ => ⟨_, he, hb, rfl⟩
   iterate 3 (apply slot_eq; · (intro ρ w' ⟨p1, p2, p3⟩ ⟨HS, hz, e0, e1, e2, e3⟩ hn; simp at hn; go_simp; exact ⟨Below.refl _ _, rfl⟩))
   apply slot_eq
   ·intro ρ w' ⟨p1, p2, p3⟩ ⟨HS, hz, e0, e1, e2, e3⟩ hn
    simp at hn
    go_simp
    exact got_call (implNumT x2 y2 _ HY2.out (HBD.out x2 (by simp)) (HS.out.tab HT.out)) fun e w'' ⟨he, hb⟩ => ⟨_, he, hb, rfl⟩
   iterate 3 (apply slot_eq; · (intro ρ w' ⟨p1, p2, p3⟩ ⟨HS, hz, e0, e1, e2, e3⟩ hn; simp at hn; go_simp; exact ⟨Below.refl _ _, rfl⟩))
   apply slot_eq
   ·intro ρ w' ⟨p1, p2, p3⟩ ⟨HS, hz, e0, e1, e2, e3⟩ hn
    simp at hn
    go_simp
    exact got_call (implNumT x3 y3 _ HY3.out (HBD.out x3 (by simp)) (HS.out.tab HT.out)) fun e w'' ⟨he, hb⟩ => ⟨_, he, hb, rfl⟩
   refine slot_fact (StrsFact [y0, y1, y2, y3]) (lasts_strs _) ?_ ?_
   ·intro ρ w' ⟨p1, p2, p3⟩ ⟨HS, hz, e0, e1, e2, e3⟩ hn
    simp at hn
    go_simp
    exact ⟨(Below.refl _ _).alloc (Nat.le_refl _) _, strs_new [y0, y1, y2, y3]⟩
   refine slot_end ?_
   rintro vs w3 ⟨HS, -⟩ hF
   clear HWD0 HDP
   simp at hF
   obtain ⟨⟨g2, v80, hg2, hc2⟩, v79, v78, v77, v76, v75, v74, v73, v72, v71, v70, v69, v68, v67, v66, v65, v64⟩ := hF
   simp only [List.take_succ_cons, List.take_zero, List.drop_succ_cons, List.drop_zero, putAll, v80, v79, v78, v77, v76, v75, v74, v73, v72, v71, v70, v69, v68, v67, v66, v65, v64]
   clear v80 v79 v78 v77 v76 v75 v74 v73 v72 v71 v70 v69 v68 v67 v66 v65 v64
   obtain ⟨i0, hi0, hx0⟩ := Option.map_eq_some_iff.1 infoStr
   simp only [Prod.mk.injEq] at hx0
   have HI0 := Lib.hid hi0
   have HX0 := Lib.hid hx0
   clear hi0 hx0
   have HOW : Hid (w3.ownsRow (w.heap.size + 1) 9 1 (.slice (some ⟨g', 0, none⟩) (8 + 4 * j) wc) (8 + 4 * j) ((wordsOf ns).map Value.string)) := by
    have h := HS.out.row.own
    rw [HL.out] at h
    exact h
   have HC2 : Hid (∀ (i : Nat) u, ([y0, y1, y2, y3].map Value.string)[i]? = some u → w3.cell? ((⟨g2, 0, none⟩ : Addr).add i) = some u) := fun i u hu => by
    have := hc2 i u (by simpa using hu)
    cases i with
    | zero => simpa [Addr.add] using this
    | succ i => simpa [Addr.add] using this
   have hb3 : w.heap.size + 1 ≤ w3.heap.size := HS.out.box.lt
   clear hc2
   simp only [Act.put, List.setIfInBounds_toArray, List.set_cons_succ, List.set_cons_zero]
   go_wp2_with (at_builtin; refine wpList_append_lies _ (by rfl) _ _ _ (by rfl) (w.heap.size + 1) 9 i0 (.string ⟨#[]⟩) 1 16 Tryz.underlying186 HI0.out HX0.out.1 HX0.out.2.1 HX0.out.2.2 (by rfl) (by omega) (.slice (some ⟨g', 0, none⟩) (8 + 4 * j) wc) (8 + 4 * j) ((wordsOf ns).map Value.string) (by rfl) HOW.out ⟨g2, 0, none⟩ 4 4 ([y0, y1, y2, y3].map Value.string) (by rfl) (by rfl) HC2.out (by simp [Value.oneCell']) (by omega) (by unfold maxLen; omega) (by omega) hb3 _ rfl ?_; intro g3 wc3 w5 hown hgrow _ _; refine Hid.out ?_)
   refine Lib.hid ?_
   have HN5 : Hid (ns ++ [x0, x1, x2, x3] = headNs k c s q v de xs.length ++ (xs.take (j + 1)).flatMap depNs) := by
    rw [HM.out, HN.out, List.append_assoc]
    exact Lib.hid rfl
   have HE5 : Hid (wordsOf (ns ++ [x0, x1, x2, x3]) = wordsOf ns ++ [y0, y1, y2, y3]) := by
    rw [words_more, HY0.out, HY1.out, HY2.out, HY3.out]
    exact Lib.hid rfl
   have HL5 : Hid ((wordsOf (ns ++ [x0, x1, x2, x3])).length = 8 + 4 * (j + 1)) := by
    rw [HE5.out, List.length_append, HL.out]
    exact Lib.hid rfl
   have HB5 : Hid (∀ x ∈ ns ++ [x0, x1, x2, x3], B64 x) := fun x hx => (List.mem_append.1 hx).elim (HBN.out x) (HBD.out x)
   obtain ⟨hlt3, hle3⟩ := (fun h => (hown.lt g3 h).symm : _ → _ ∧ _) rfl
   have HW5 : Hid (Words w w5 k c s q v de (some ⟨g, 0, none⟩) xs.length cap g3 wc3 (wordsOf (ns ++ [x0, x1, x2, x3]))) := by
    refine HS.out.grown hgrow ⟨hle3, hlt3, ?_⟩
    rw [HL5.out, HE5.out, List.map_append]
    exact hown
   clear hown hgrow HS HOW HC2 HN HL HBN HE5
   go_wp2
   exact ⟨⟨j + 1, g3, wc3, _, by omega, by go_num, rfl, HN5, HL5, HB5, HW5⟩, by simp [intOf]; omega⟩
  ·have hjn : j = xs.length := by omega
   subst hjn
   have HNW : Hid (writeText k c s q v de xs = 119 :: numsText ns) := by
    rw [HW.out, ← text_nums, HN.out, List.take_length]
    exact Lib.hid rfl
   have hlen : (119 :: numsText ns).length ≤ 140737488355328 := by
    have h1 := nums_most ns HBN.out
    have h2 := HL.out
    simp only [wordsOf, List.length_cons, List.length_map] at h2
    simp only [List.length_cons]
    omega
   go_wp2_with fail
   refine (join_any _ g' wc _ ns _ HL.out (by omega) HWD.out.row hlen).mono ?_
   rintro e w3 ⟨rfl, hb⟩
   have HB3 : Hid (Below w.heap.size w w3) := below_step HWD.out.box.below HWD.out.box.below.size hb
   clear hb
   go_wp2
   go_ret
   rw [HNW.out]
   exact ⟨rfl, HB3.out⟩
end Go.Proofs.YteladgfdedlmjaaGreatDoor
