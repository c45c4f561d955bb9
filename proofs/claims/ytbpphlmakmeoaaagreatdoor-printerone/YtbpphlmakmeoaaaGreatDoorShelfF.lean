import Derived.Shelf.Small.Wraps
import Derived.Shelf.Strconv.Atoi
import Derived.Shelf.Strconv.Itoa0
import Derived.Shelf.Strconv.Itoa1
import Derived.Shelf.LaysM
import Derived.Shelf.Strconv.Itoa2
import Derived.Shelf.Strconv.Itoa3
import Derived.Shelf.Strconv.Itoa4
import Derived.Shelf.Strconv.AtoiErrFast
import Derived.Shelf.Strconv.ParseIntEmpty
import Derived.Shelf.Strconv.AtoiFail
import Derived.Shelf.Strconv.Clone
import Derived.Shelf.Strconv.SyntaxError
import Derived.Shelf.LaysC
import Derived.Shelf.Strconv.ToError
import Derived.Shelf.Strconv.Lower
import Derived.Shelf.Strconv.ParseUint10
import Derived.Shelf.Strconv.ParseUint10Empty
import Derived.Shelf.Strconv.ParseUint10Any
import Derived.Shelf.Strconv.ParseInt10
import Derived.Shelf.Strconv.AtoiLong
import Derived.Shelf.Strconv.AtoiInnerAll
import Derived.Shelf.Strconv.RangeError
import Derived.Shelf.Strconv.ToErrorRange
import Derived.Shelf.Strconv.AtoiAll
import Derived.Shelf.Strings.Search1
import Derived.Shelf.Strings.Search2
import Derived.Shelf.Strings.Search3
import Derived.Shelf.Strings.Cut
import Derived.Shelf.Strings.Shaped
import Derived.Shelf.Strings.Prefix
import Derived.Test.YtbpphlmakmeoaaaGreatDoorProg
namespace Go.Proofs
open Go.Shelf
def Tryz.lays173_ren : Go.Shelf.Ren := ⟨fun | 173 => 207 | 246 => 258 | 283 => 302 | 284 => 303 | 285 => 304 | 286 => 305 | 129 => 328 | 317 => 327 | 318 => 329 | 319 => 330 | 320 => 331 | 337 => 350 | 338 => 351 | n => n, fun | 2 => 2 | 3 => 3 | 9 => 9 | 4 => 4 | 171 => 311 | 0 => 0 | 53 => 312 | 37 => 140 | 5 => 5 | 173 => 315 | 212 => 333 | 51 => 334 | 20 => 20 | 213 => 335 | 46 => 337 | 232 => 363 | 233 => 364 | n => n, fun | 17 => 0 | 18 => 4 | 19 => 5 | n => n⟩
theorem Tryz.lays173 : Go.Proofs.Lays.n173 Tryz.prog Tryz.lays173_ren := {
 mixed := by kernel_rfl
 f129 := Tryz.func328.trans (congrArg some (by kernel_rfl))
 f173 := Tryz.func207.trans (congrArg some (by kernel_rfl))
 f246 := Tryz.func258.trans (congrArg some (by kernel_rfl))
 f283 := Tryz.func302.trans (congrArg some (by kernel_rfl))
 f284 := Tryz.func303.trans (congrArg some (by kernel_rfl))
 f285 := Tryz.func304.trans (congrArg some (by kernel_rfl))
 f286 := Tryz.func305.trans (congrArg some (by kernel_rfl))
 f317 := Tryz.func327.trans (congrArg some (by kernel_rfl))
 f318 := Tryz.func329.trans (congrArg some (by kernel_rfl))
 f319 := Tryz.func330.trans (congrArg some (by kernel_rfl))
 f320 := Tryz.func331.trans (congrArg some (by kernel_rfl))
 f337 := Tryz.func350.trans (congrArg some (by kernel_rfl))
 f338 := Tryz.func351.trans (congrArg some (by kernel_rfl))
 t0 := Tryz.underlying0
 a0 := Tryz.isAgg0
 z0 := Tryz.sizeOf0
 v0 := Tryz.zeroValue0
 t2 := Tryz.underlying2
 a2 := Tryz.isAgg2
 z2 := Tryz.sizeOf2
 v2 := Tryz.zeroValue2
 t3 := Tryz.underlying3
 a3 := Tryz.isAgg3
 z3 := Tryz.sizeOf3
 v3 := Tryz.zeroValue3
 t4 := Tryz.underlying4
 a4 := Tryz.isAgg4
 z4 := Tryz.sizeOf4
 v4 := Tryz.zeroValue4
 t5 := Tryz.underlying5
 a5 := Tryz.isAgg5
 z5 := Tryz.sizeOf5
 v5 := Tryz.zeroValue5
 t9 := Tryz.underlying9
 a9 := Tryz.isAgg9
 z9 := Tryz.sizeOf9
 v9 := Tryz.zeroValue9
 t20 := Tryz.underlying20
 a20 := Tryz.isAgg20
 z20 := Tryz.sizeOf20
 v20 := Tryz.zeroValue20
 t37 := Tryz.underlying140
 a37 := Tryz.isAgg140
 z37 := Tryz.sizeOf140
 v37 := Tryz.zeroValue140
 t46 := Tryz.underlying337
 a46 := Tryz.isAgg337
 z46 := Tryz.sizeOf337
 v46 := Tryz.zeroValue337
 t51 := Tryz.underlying334
 a51 := Tryz.isAgg334
 z51 := Tryz.sizeOf334
 v51 := Tryz.zeroValue334
 t53 := Tryz.underlying312
 a53 := Tryz.isAgg312
 z53 := Tryz.sizeOf312
 v53 := Tryz.zeroValue312
 t171 := Tryz.underlying311
 a171 := Tryz.isAgg311
 z171 := Tryz.sizeOf311
 v171 := Tryz.zeroValue311
 t173 := Tryz.underlying315
 a173 := Tryz.isAgg315
 z173 := Tryz.sizeOf315
 v173 := Tryz.zeroValue315
 t212 := Tryz.underlying333
 a212 := Tryz.isAgg333
 z212 := Tryz.sizeOf333
 v212 := Tryz.zeroValue333
 t213 := Tryz.underlying335
 a213 := Tryz.isAgg335
 z213 := Tryz.sizeOf335
 t232 := Tryz.underlying363
 a232 := Tryz.isAgg363
 z232 := Tryz.sizeOf363
 v232 := Tryz.zeroValue363
 t233 := Tryz.underlying364
 a233 := Tryz.isAgg364
 z233 := Tryz.sizeOf364
 v233 := Tryz.zeroValue364
 g17 := by kernel_rfl
 g18 := by kernel_rfl
 g19 := by kernel_rfl }
open Go.RowKit Go.Sort Go.Lib in
theorem Tryz.strconv_FormatInt_10_small (i : Nat) (hi : i < 100) (w : World) :
    Calls Tryz.prog 207 #[.int .i64 i, .int .i64 10] w fun e w' => e = .returned (.string ⟨(Lib.decDigits i).toArray⟩) ∧ w' = w := Any.strconv_FormatInt_10_small Tryz.lays173 i hi w
end Go.Proofs
