import Derived.Shelf.Small.Wraps
import Derived.Shelf.Strconv.Atoi
import Derived.Shelf.Strconv.Itoa0
import Derived.Shelf.Strconv.Itoa1
import Derived.Shelf.LaysM
import Derived.Shelf.Strconv.Itoa2
import Derived.Shelf.Strconv.Itoa3
import Derived.Shelf.Strconv.Itoa4
import Derived.Shelf.Strconv.AtoiErrFast
import Derived.Shelf.Strconv.ParseIntEmpty
import Derived.Shelf.Strconv.AtoiFail
import Derived.Shelf.Strconv.Clone
import Derived.Shelf.Strconv.SyntaxError
import Derived.Shelf.LaysC
import Derived.Shelf.Strconv.ToError
import Derived.Shelf.Strconv.Lower
import Derived.Shelf.Strconv.ParseUint10
import Derived.Shelf.Strconv.ParseUint10Empty
import Derived.Shelf.Strconv.ParseUint10Any
import Derived.Shelf.Strconv.ParseInt10
import Derived.Shelf.Strconv.AtoiLong
import Derived.Shelf.Strconv.AtoiInnerAll
import Derived.Shelf.Strconv.RangeError
import Derived.Shelf.Strconv.ToErrorRange
import Derived.Shelf.Strconv.AtoiAll
import Derived.Shelf.Strings.Search1
import Derived.Shelf.Strings.Search2
import Derived.Shelf.Strings.Search3
import Derived.Shelf.Strings.Cut
import Derived.Shelf.Strings.Shaped
import Derived.Shelf.Strings.Prefix
import Derived.Test.YtbpphlmakmeoaaaGreatDoorProg
namespace Go.Proofs
open Go.Shelf
def Tryz.lays210_ren : Go.Shelf.Ren := ⟨fun | 210 => 335 | 206 => 352 | n => n, fun | 9 => 9 | 4 => 4 | 3 => 3 | n => n, fun | n => n⟩
def Tryz.lays103_ren : Go.Shelf.Ren := ⟨fun | 103 => 315 | 210 => 335 | 206 => 352 | n => n, fun | 9 => 9 | 4 => 4 | 24 => 322 | 3 => 3 | n => n, fun | n => n⟩
theorem Tryz.lays103 : Go.Proofs.Lays.n103 Tryz.prog Tryz.lays103_ren := {
 mixed := by kernel_rfl
 f103 := Tryz.func315.trans (congrArg some (by kernel_rfl))
 f206 := Tryz.func352.trans (congrArg some (by kernel_rfl))
 f210 := Tryz.func335.trans (congrArg some (by kernel_rfl))
 t3 := Tryz.underlying3
 a3 := Tryz.isAgg3
 z3 := Tryz.sizeOf3
 v3 := Tryz.zeroValue3
 t4 := Tryz.underlying4
 a4 := Tryz.isAgg4
 z4 := Tryz.sizeOf4
 v4 := Tryz.zeroValue4
 t9 := Tryz.underlying9
 a9 := Tryz.isAgg9
 z9 := Tryz.sizeOf9
 v9 := Tryz.zeroValue9
 t24 := Tryz.underlying322
 a24 := Tryz.isAgg322
 z24 := Tryz.sizeOf322
 v24 := Tryz.zeroValue322 }
open Go.RowKit in
theorem Tryz.strings_CutPrefix (s p : ByteArray) (w : World) :
    Calls Tryz.prog 315 #[.string s, .string p] w fun e w' => e = .returned (.tuple #[.string ⟨(Lib.trimPrefix s.data.toList p.data.toList).toArray⟩, .bool (Lib.hasPrefix s.data.toList p.data.toList)]) ∧ w' = w := Any.strings_CutPrefix Tryz.lays103 s p w
def Tryz.laysM173_ren : Go.Shelf.Ren := ⟨fun | 173 => 207 | 246 => 258 | 283 => 302 | 284 => 303 | 285 => 304 | 286 => 305 | 129 => 328 | 317 => 327 | 318 => 329 | 319 => 330 | 320 => 331 | 337 => 350 | 338 => 351 | n => n, fun | 2 => 2 | 3 => 3 | 9 => 9 | 4 => 4 | 171 => 311 | 0 => 0 | 53 => 312 | 37 => 140 | 5 => 5 | 173 => 315 | 212 => 333 | 51 => 334 | 20 => 20 | 213 => 335 | 46 => 337 | 232 => 363 | 233 => 364 | n => n, fun | 17 => 0 | 18 => 4 | 19 => 5 | n => n⟩
theorem Tryz.laysM173 : Go.Proofs.LaysM.n173 Tryz.prog Tryz.laysM173_ren := {
 mixed := by kernel_rfl
 f129 := Tryz.func328.trans (congrArg some (by kernel_rfl))
 f173 := Tryz.func207.trans (congrArg some (by kernel_rfl))
 f246 := Tryz.func258.trans (congrArg some (by kernel_rfl))
 f283 := Tryz.func302.trans (congrArg some (by kernel_rfl))
 f284 := Tryz.func303.trans (congrArg some (by kernel_rfl))
 f285 := Tryz.func304.trans (congrArg some (by kernel_rfl))
 f286 := Tryz.func305.trans (congrArg some (by kernel_rfl))
 f317 := Tryz.func327.trans (congrArg some (by kernel_rfl))
 f318 := Tryz.func329.trans (congrArg some (by kernel_rfl))
 f319 := Tryz.func330.trans (congrArg some (by kernel_rfl))
 f320 := Tryz.func331.trans (congrArg some (by kernel_rfl))
 f337 := Tryz.func350.trans (congrArg some (by kernel_rfl))
 f338 := Tryz.func351.trans (congrArg some (by kernel_rfl))
 t0 := Tryz.underlying0
 a0 := Tryz.isAgg0
 z0 := Tryz.sizeOf0
 v0 := Tryz.zeroValue0
 t2 := Tryz.underlying2
 a2 := Tryz.isAgg2
 z2 := Tryz.sizeOf2
 v2 := Tryz.zeroValue2
 t3 := Tryz.underlying3
 a3 := Tryz.isAgg3
 z3 := Tryz.sizeOf3
 v3 := Tryz.zeroValue3
 t4 := Tryz.underlying4
 a4 := Tryz.isAgg4
 z4 := Tryz.sizeOf4
 v4 := Tryz.zeroValue4
 t5 := Tryz.underlying5
 a5 := Tryz.isAgg5
 z5 := Tryz.sizeOf5
 v5 := Tryz.zeroValue5
 t9 := Tryz.underlying9
 a9 := Tryz.isAgg9
 z9 := Tryz.sizeOf9
 v9 := Tryz.zeroValue9
 t20 := Tryz.underlying20
 a20 := Tryz.isAgg20
 z20 := Tryz.sizeOf20
 v20 := Tryz.zeroValue20
 t37 := Tryz.underlying140
 a37 := Tryz.isAgg140
 z37 := Tryz.sizeOf140
 v37 := Tryz.zeroValue140
 t46 := Tryz.underlying337
 a46 := Tryz.isAgg337
 z46 := Tryz.sizeOf337
 v46 := Tryz.zeroValue337
 t51 := Tryz.underlying334
 a51 := Tryz.isAgg334
 z51 := Tryz.sizeOf334
 v51 := Tryz.zeroValue334
 t53 := Tryz.underlying312
 a53 := Tryz.isAgg312
 z53 := Tryz.sizeOf312
 v53 := Tryz.zeroValue312
 t171 := Tryz.underlying311
 a171 := Tryz.isAgg311
 z171 := Tryz.sizeOf311
 v171 := Tryz.zeroValue311
 t173 := Tryz.underlying315
 a173 := Tryz.isAgg315
 z173 := Tryz.sizeOf315
 v173 := Tryz.zeroValue315
 t212 := Tryz.underlying333
 a212 := Tryz.isAgg333
 z212 := Tryz.sizeOf333
 v212 := Tryz.zeroValue333
 t213 := Tryz.underlying335
 a213 := Tryz.isAgg335
 z213 := Tryz.sizeOf335
 t232 := Tryz.underlying363
 a232 := Tryz.isAgg363
 z232 := Tryz.sizeOf363
 v232 := Tryz.zeroValue363
 t233 := Tryz.underlying364
 a233 := Tryz.isAgg364
 z233 := Tryz.sizeOf364
 v233 := Tryz.zeroValue364
 g17 := by kernel_rfl
 g18 := by kernel_rfl
 g19 := by kernel_rfl
 i0 := by kernel_rfl
 i2 := by kernel_rfl
 i3 := by kernel_rfl
 i4 := by kernel_rfl
 i5 := by kernel_rfl
 i9 := by kernel_rfl
 i20 := by kernel_rfl
 i37 := by kernel_rfl
 i46 := by kernel_rfl
 i51 := by kernel_rfl
 i53 := by kernel_rfl
 i171 := by kernel_rfl
 i173 := by kernel_rfl
 i212 := by kernel_rfl
 i232 := by kernel_rfl
 i233 := by kernel_rfl
 m17 := by kernel_rfl
 m18 := by kernel_rfl
 m19 := by kernel_rfl }
open Go.RowKit Go.Sort Go.Lib in
theorem Tryz.strconv_FormatInt_10 (n : Int) (h0 : -9223372036854775808 ≤ n) (h1 : n ≤ 9223372036854775807) (w : World) (htab : Lib.TabIs Tryz.prog w "internal/strconv.uint64pow10" .u64 Lib.pow10Tab) :
    Calls Tryz.prog 207 #[.int .i64 n, .int .i64 10] w fun e w' => e = .returned (.string ⟨(Lib.itoa n).toArray⟩) ∧ ∃ k os, w' = grow (w.drewN k) os := Any.strconv_FormatInt_10 Tryz.laysM173 n h0 h1 w htab
def Tryz.laysC172_ren : Go.Shelf.Ren := ⟨fun | 172 => 295 | 244 => 321 | 245 => 322 | 247 => 339 | 279 => 340 | 280 => 341 | 281 => 342 | 282 => 343 | 287 => 357 | 316 => 358 | 171 => 360 | 205 => 359 | 321 => 366 | 322 => 367 | 243 => 368 | 246 => 258 | 283 => 302 | 284 => 303 | 285 => 304 | 286 => 305 | 129 => 328 | 317 => 327 | 318 => 329 | 319 => 330 | 320 => 331 | 337 => 350 | 338 => 351 | n => n, fun | 9 => 9 | 3 => 3 | 75 => 250 | 76 => 251 | 4 => 4 | 5 => 5 | 167 => 344 | 37 => 140 | 0 => 0 | 85 => 345 | 2 => 2 | 168 => 347 | 53 => 312 | 175 => 355 | 46 => 337 | 210 => 359 | 127 => 209 | 145 => 370 | 143 => 368 | 21 => 21 | 171 => 311 | 173 => 315 | 212 => 333 | 51 => 334 | 20 => 20 | 213 => 335 | 232 => 363 | 233 => 364 | 80 => 146 | n => n, fun | 15 => 2 | 16 => 3 | 17 => 0 | 18 => 4 | 19 => 5 | n => n⟩
theorem Tryz.laysC172 : Go.Proofs.LaysC.n172 Tryz.prog Tryz.laysC172_ren := {
 mixed := by kernel_rfl
 f129 := Tryz.func328.trans (congrArg some (by kernel_rfl))
 f171 := Tryz.func360.trans (congrArg some (by kernel_rfl))
 f172 := Tryz.func295.trans (congrArg some (by kernel_rfl))
 f205 := Tryz.func359.trans (congrArg some (by kernel_rfl))
 f243 := Tryz.func368.trans (congrArg some (by kernel_rfl))
 f244 := Tryz.func321.trans (congrArg some (by kernel_rfl))
 f245 := Tryz.func322.trans (congrArg some (by kernel_rfl))
 f246 := Tryz.func258.trans (congrArg some (by kernel_rfl))
 f247 := Tryz.func339.trans (congrArg some (by kernel_rfl))
 f279 := Tryz.func340.trans (congrArg some (by kernel_rfl))
 f280 := Tryz.func341.trans (congrArg some (by kernel_rfl))
 f281 := Tryz.func342.trans (congrArg some (by kernel_rfl))
 f282 := Tryz.func343.trans (congrArg some (by kernel_rfl))
 f283 := Tryz.func302.trans (congrArg some (by kernel_rfl))
 f284 := Tryz.func303.trans (congrArg some (by kernel_rfl))
 f285 := Tryz.func304.trans (congrArg some (by kernel_rfl))
 f286 := Tryz.func305.trans (congrArg some (by kernel_rfl))
 f287 := Tryz.func357.trans (congrArg some (by kernel_rfl))
 f316 := Tryz.func358.trans (congrArg some (by kernel_rfl))
 f317 := Tryz.func327.trans (congrArg some (by kernel_rfl))
 f318 := Tryz.func329.trans (congrArg some (by kernel_rfl))
 f319 := Tryz.func330.trans (congrArg some (by kernel_rfl))
 f320 := Tryz.func331.trans (congrArg some (by kernel_rfl))
 f321 := Tryz.func366.trans (congrArg some (by kernel_rfl))
 f322 := Tryz.func367.trans (congrArg some (by kernel_rfl))
 f337 := Tryz.func350.trans (congrArg some (by kernel_rfl))
 f338 := Tryz.func351.trans (congrArg some (by kernel_rfl))
 t0 := Tryz.underlying0
 a0 := Tryz.isAgg0
 z0 := Tryz.sizeOf0
 v0 := Tryz.zeroValue0
 t2 := Tryz.underlying2
 a2 := Tryz.isAgg2
 z2 := Tryz.sizeOf2
 v2 := Tryz.zeroValue2
 t3 := Tryz.underlying3
 a3 := Tryz.isAgg3
 z3 := Tryz.sizeOf3
 v3 := Tryz.zeroValue3
 t4 := Tryz.underlying4
 a4 := Tryz.isAgg4
 z4 := Tryz.sizeOf4
 v4 := Tryz.zeroValue4
 t5 := Tryz.underlying5
 a5 := Tryz.isAgg5
 z5 := Tryz.sizeOf5
 v5 := Tryz.zeroValue5
 t9 := Tryz.underlying9
 a9 := Tryz.isAgg9
 z9 := Tryz.sizeOf9
 v9 := Tryz.zeroValue9
 t20 := Tryz.underlying20
 a20 := Tryz.isAgg20
 z20 := Tryz.sizeOf20
 v20 := Tryz.zeroValue20
 t21 := Tryz.underlying21
 a21 := Tryz.isAgg21
 z21 := Tryz.sizeOf21
 v21 := Tryz.zeroValue21
 t37 := Tryz.underlying140
 a37 := Tryz.isAgg140
 z37 := Tryz.sizeOf140
 v37 := Tryz.zeroValue140
 t46 := Tryz.underlying337
 a46 := Tryz.isAgg337
 z46 := Tryz.sizeOf337
 v46 := Tryz.zeroValue337
 t51 := Tryz.underlying334
 a51 := Tryz.isAgg334
 z51 := Tryz.sizeOf334
 v51 := Tryz.zeroValue334
 t53 := Tryz.underlying312
 a53 := Tryz.isAgg312
 z53 := Tryz.sizeOf312
 v53 := Tryz.zeroValue312
 t75 := Tryz.underlying250
 a75 := Tryz.isAgg250
 z75 := Tryz.sizeOf250
 v75 := Tryz.zeroValue250
 t76 := Tryz.underlying251
 a76 := Tryz.isAgg251
 z76 := Tryz.sizeOf251
 v76 := Tryz.zeroValue251
 t85 := Tryz.underlying345
 a85 := Tryz.isAgg345
 z85 := Tryz.sizeOf345
 v85 := Tryz.zeroValue345
 t127 := Tryz.underlying209
 a127 := Tryz.isAgg209
 z127 := Tryz.sizeOf209
 v127 := Tryz.zeroValue209
 t143 := Tryz.underlying368
 a143 := Tryz.isAgg368
 z143 := Tryz.sizeOf368
 v143 := Tryz.zeroValue368
 t145 := Tryz.underlying370
 a145 := Tryz.isAgg370
 z145 := Tryz.sizeOf370
 v145 := Tryz.zeroValue370
 t167 := Tryz.underlying344
 a167 := Tryz.isAgg344
 z167 := Tryz.sizeOf344
 v167 := Tryz.zeroValue344
 t168 := Tryz.underlying347
 a168 := Tryz.isAgg347
 z168 := Tryz.sizeOf347
 v168 := Tryz.zeroValue347
 t171 := Tryz.underlying311
 a171 := Tryz.isAgg311
 z171 := Tryz.sizeOf311
 v171 := Tryz.zeroValue311
 t173 := Tryz.underlying315
 a173 := Tryz.isAgg315
 z173 := Tryz.sizeOf315
 v173 := Tryz.zeroValue315
 t175 := Tryz.underlying355
 a175 := Tryz.isAgg355
 z175 := Tryz.sizeOf355
 v175 := Tryz.zeroValue355
 t210 := Tryz.underlying359
 a210 := Tryz.isAgg359
 z210 := Tryz.sizeOf359
 v210 := Tryz.zeroValue359
 t212 := Tryz.underlying333
 a212 := Tryz.isAgg333
 z212 := Tryz.sizeOf333
 v212 := Tryz.zeroValue333
 t213 := Tryz.underlying335
 a213 := Tryz.isAgg335
 z213 := Tryz.sizeOf335
 t232 := Tryz.underlying363
 a232 := Tryz.isAgg363
 z232 := Tryz.sizeOf363
 v232 := Tryz.zeroValue363
 t233 := Tryz.underlying364
 a233 := Tryz.isAgg364
 z233 := Tryz.sizeOf364
 v233 := Tryz.zeroValue364
 g15 := by kernel_rfl
 g16 := by kernel_rfl
 g17 := by kernel_rfl
 g18 := by kernel_rfl
 g19 := by kernel_rfl
 t80 := Tryz.underlying146
 a80 := Tryz.isAgg146
 z80 := Tryz.sizeOf146
 v80 := Tryz.zeroValue146
 i0 := by kernel_rfl
 i2 := by kernel_rfl
 i3 := by kernel_rfl
 i4 := by kernel_rfl
 i5 := by kernel_rfl
 i9 := by kernel_rfl
 i20 := by kernel_rfl
 i21 := by kernel_rfl
 i37 := by kernel_rfl
 i46 := by kernel_rfl
 i51 := by kernel_rfl
 i53 := by kernel_rfl
 i75 := by kernel_rfl
 i76 := by kernel_rfl
 i80 := by kernel_rfl
 i85 := by kernel_rfl
 i127 := by kernel_rfl
 i143 := by kernel_rfl
 i145 := by kernel_rfl
 i167 := by kernel_rfl
 i168 := by kernel_rfl
 i171 := by kernel_rfl
 i173 := by kernel_rfl
 i175 := by kernel_rfl
 i210 := by kernel_rfl
 i212 := by kernel_rfl
 i232 := by kernel_rfl
 i233 := by kernel_rfl
 m15 := by kernel_rfl
 m16 := by kernel_rfl
 m17 := by kernel_rfl
 m18 := by kernel_rfl
 m19 := by kernel_rfl
 c0 := by kernel_rfl
 c2 := by kernel_rfl
 c3 := by kernel_rfl
 c4 := by kernel_rfl
 c5 := by kernel_rfl
 c9 := by kernel_rfl
 c20 := by kernel_rfl
 c21 := by kernel_rfl
 c37 := by kernel_rfl
 c46 := by kernel_rfl
 c51 := by kernel_rfl
 c53 := by kernel_rfl
 c75 := by kernel_rfl
 c76 := by kernel_rfl
 c80 := by kernel_rfl
 c85 := by kernel_rfl
 c127 := by kernel_rfl
 c143 := by kernel_rfl
 c145 := by kernel_rfl
 c167 := by kernel_rfl
 c168 := by kernel_rfl
 c171 := by kernel_rfl
 c173 := by kernel_rfl
 c175 := by kernel_rfl
 c210 := by kernel_rfl
 c212 := by kernel_rfl
 c213 := by kernel_rfl
 c232 := by kernel_rfl
 c233 := by kernel_rfl }
open Go.RowKit in
theorem Tryz.strconv_Atoi_ok (s : ByteArray) (hmax : s.size ≤ 9223372036854775806) (v : Int) (h : Lib.atoiAll s.data.toList = .ok v) (w : World) :
    Calls Tryz.prog 295 #[.string s] w fun e w' => e = .returned (.tuple #[.int .i64 v, .nilIface]) ∧ (w' = w ∨ ∃ t, w' = Lib.bytesWorld w 5 t) := Any.strconv_Atoi_ok Tryz.laysC172 s hmax v h w
open Go.RowKit in
theorem Tryz.strconv_Atoi_syntax (s : ByteArray) (hlim : s.size ≤ 281474976710656) (h : Lib.atoiAll s.data.toList = .«syntax») (ev : Value) (w : World) (hv : w.cell? ⟨2, 0, none⟩ = some ev) (hev : ev = .nilIface ∨ ∃ te pe, ev = .iface te pe) :
    Calls Tryz.prog 295 #[.string s] w fun e w' => ∃ N, e = .returned (.tuple #[.int .i64 (0), .iface 347 (.pointer (some ⟨N, 0, none⟩))]) ∧ w.heap.size ≤ N ∧ w'.heap[N]? = some (.cells #[.string ⟨#[65, 116, 111, 105]⟩, .string s, ev] 359 (0, 0)) ∧ Below w.heap.size w w' := Any.strconv_Atoi_syntax Tryz.laysC172 s hlim h ev w hv hev
open Go.RowKit in
theorem Tryz.strconv_Atoi_range (s : ByteArray) (hlim : s.size ≤ 281474976710656) (h : Lib.atoiAll s.data.toList = .range) (ev : Value) (w : World) (hv : w.cell? ⟨3, 0, none⟩ = some ev) (hev : ev = .nilIface ∨ ∃ te pe, ev = .iface te pe) :
    Calls Tryz.prog 295 #[.string s] w fun e w' => ∃ N, e = .returned (.tuple #[.int .i64 (Lib.atoiSat s.data.toList), .iface 347 (.pointer (some ⟨N, 0, none⟩))]) ∧ w.heap.size ≤ N ∧ w'.heap[N]? = some (.cells #[.string ⟨#[65, 116, 111, 105]⟩, .string s, ev] 359 (0, 0)) ∧ Below w.heap.size w w' := Any.strconv_Atoi_range Tryz.laysC172 s hlim h ev w hv hev
def Tryz.lays217_ren : Go.Shelf.Ren := ⟨fun | 217 => 353 | 266 => 364 | n => n, fun | 9 => 9 | 5 => 5 | 3 => 3 | n => n, fun | n => n⟩
theorem Tryz.lays217 : Go.Proofs.Lays.n217 Tryz.prog Tryz.lays217_ren := {
 mixed := by kernel_rfl
 f217 := Tryz.func353.trans (congrArg some (by kernel_rfl))
 f266 := Tryz.func364.trans (congrArg some (by kernel_rfl))
 t3 := Tryz.underlying3
 a3 := Tryz.isAgg3
 z3 := Tryz.sizeOf3
 v3 := Tryz.zeroValue3
 t5 := Tryz.underlying5
 a5 := Tryz.isAgg5
 z5 := Tryz.sizeOf5
 v5 := Tryz.zeroValue5
 t9 := Tryz.underlying9
 a9 := Tryz.isAgg9
 z9 := Tryz.sizeOf9
 v9 := Tryz.zeroValue9 }
open Go.RowKit Go.Lib in
theorem Tryz.stringslite_IndexByte (s : ByteArray) (c : Int) (w : World) :
    Calls Tryz.prog 353 #[.string s, .int .u8 c] w fun e w' => e = .returned (.int .i64 (Lib.indexByte s.data.toList c.toNat.toUInt8)) ∧ w' = w := Any.stringslite_IndexByte Tryz.lays217 s c w
def Tryz.lays144_ren : Go.Shelf.Ren := ⟨fun | 144 => 294 | 143 => 320 | 219 => 338 | 217 => 353 | 225 => 354 | 224 => 355 | 267 => 356 | 266 => 364 | 314 => 365 | n => n, fun | 9 => 9 | 4 => 4 | 3 => 3 | 5 => 5 | 46 => 337 | 146 => 365 | 51 => 334 | n => n, fun | 1 => 1 | n => n⟩
theorem Tryz.lays144 : Go.Proofs.Lays.n144 Tryz.prog Tryz.lays144_ren := {
 mixed := by kernel_rfl
 f143 := Tryz.func320.trans (congrArg some (by kernel_rfl))
 f144 := Tryz.func294.trans (congrArg some (by kernel_rfl))
 f217 := Tryz.func353.trans (congrArg some (by kernel_rfl))
 f219 := Tryz.func338.trans (congrArg some (by kernel_rfl))
 f224 := Tryz.func355.trans (congrArg some (by kernel_rfl))
 f225 := Tryz.func354.trans (congrArg some (by kernel_rfl))
 f266 := Tryz.func364.trans (congrArg some (by kernel_rfl))
 f267 := Tryz.func356.trans (congrArg some (by kernel_rfl))
 f314 := Tryz.func365.trans (congrArg some (by kernel_rfl))
 t3 := Tryz.underlying3
 a3 := Tryz.isAgg3
 z3 := Tryz.sizeOf3
 v3 := Tryz.zeroValue3
 t4 := Tryz.underlying4
 a4 := Tryz.isAgg4
 z4 := Tryz.sizeOf4
 v4 := Tryz.zeroValue4
 t5 := Tryz.underlying5
 a5 := Tryz.isAgg5
 z5 := Tryz.sizeOf5
 v5 := Tryz.zeroValue5
 t9 := Tryz.underlying9
 a9 := Tryz.isAgg9
 z9 := Tryz.sizeOf9
 v9 := Tryz.zeroValue9
 t46 := Tryz.underlying337
 a46 := Tryz.isAgg337
 z46 := Tryz.sizeOf337
 v46 := Tryz.zeroValue337
 t51 := Tryz.underlying334
 a51 := Tryz.isAgg334
 z51 := Tryz.sizeOf334
 v51 := Tryz.zeroValue334
 t146 := Tryz.underlying365
 a146 := Tryz.isAgg365
 z146 := Tryz.sizeOf365
 v146 := Tryz.zeroValue365
 g1 := by kernel_rfl }
open Go.RowKit Go.Lib in
theorem Tryz.strings_Contains_one (s : ByteArray) (c : UInt8) (w : World) :
    Calls Tryz.prog 294 #[.string s, .string ⟨#[c]⟩] w fun e w' => e = .returned (.bool (decide (0 ≤ Lib.indexByte s.data.toList c))) ∧ w' = w := Any.strings_Contains_one Tryz.lays144 s c w
def Tryz.lays102_ren : Go.Shelf.Ren := ⟨fun | 102 => 53 | 209 => 117 | 207 => 171 | n => n, fun | 9 => 9 | 4 => 4 | 3 => 3 | n => n, fun | n => n⟩
end Go.Proofs
