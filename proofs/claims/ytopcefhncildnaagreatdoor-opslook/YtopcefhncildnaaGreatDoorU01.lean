/-
  The library's slices.SortFunc and what it calls, as they stand in this program: the table of numbers, and that each body is the one that the contracts speak of.
-/
import Derived.Shelf.SlSortCmp.WholeK
import Derived.Shelf.SlSortCmp.NoneTotal
import Derived.Test.YtopcefhncildnaaGreatDoorProg
namespace Go.Proofs.YtopcefhncildnaaGreatDoor.F
open Go.Shelf
def sortBk_ren : Go.Shelf.Ren := ⟨fun | 6 => 169 | 15 => 238 | 14 => 237 | 28 => 291 | 29 => 292 | 20 => 283 | 21 => 284 | 22 => 285 | 23 => 286 | 24 => 287 | 25 => 288 | 26 => 289 | 27 => 290 | 46 => 308 | 47 => 309 | 48 => 310 | 49 => 311 | 50 => 312 | 57 => 323 | n => n, fun | 22 => 43 | 24 => 51 | 25 => 248 | 3 => 3 | 39 => 214 | 0 => 0 | 53 => 270 | 55 => 198 | 4 => 4 | 46 => 379 | 45 => 378 | 50 => 219 | 5 => 5 | 9 => 9 | 66 => 397 | 70 => 400 | 76 => 409 | 77 => 114 | n => n, fun | n => n⟩
theorem sortBk : Go.Proofs.SlLaysF0.n6 Tryz.prog sortBk_ren := {
 mixed := by kernel_rfl
 f6 := ⟨Tryz.f169.name, by decide, Tryz.func169.trans (congrArg some (by kernel_rfl))⟩
 f14 := ⟨Tryz.f237.name, by decide, Tryz.func237.trans (congrArg some (by kernel_rfl))⟩
 f15 := Tryz.func238.trans (congrArg some (by kernel_rfl))
 f20 := ⟨Tryz.f283.name, by decide, Tryz.func283.trans (congrArg some (by kernel_rfl))⟩
 f21 := ⟨Tryz.f284.name, by decide, Tryz.func284.trans (congrArg some (by kernel_rfl))⟩
 f22 := ⟨Tryz.f285.name, by decide, Tryz.func285.trans (congrArg some (by kernel_rfl))⟩
 f23 := ⟨Tryz.f286.name, by decide, Tryz.func286.trans (congrArg some (by kernel_rfl))⟩
 f24 := ⟨Tryz.f287.name, by decide, Tryz.func287.trans (congrArg some (by kernel_rfl))⟩
 f25 := ⟨Tryz.f288.name, by decide, Tryz.func288.trans (congrArg some (by kernel_rfl))⟩
 f26 := ⟨Tryz.f289.name, by decide, Tryz.func289.trans (congrArg some (by kernel_rfl))⟩
 f27 := ⟨Tryz.f290.name, by decide, Tryz.func290.trans (congrArg some (by kernel_rfl))⟩
 f28 := Tryz.func291.trans (congrArg some (by kernel_rfl))
 f29 := Tryz.func292.trans (congrArg some (by kernel_rfl))
 f46 := ⟨Tryz.f308.name, by decide, Tryz.func308.trans (congrArg some (by kernel_rfl))⟩
 f47 := Tryz.func309.trans (congrArg some (by kernel_rfl))
 f48 := Tryz.func310.trans (congrArg some (by kernel_rfl))
 f49 := ⟨Tryz.f311.name, by decide, Tryz.func311.trans (congrArg some (by kernel_rfl))⟩
 f50 := ⟨Tryz.f312.name, by decide, Tryz.func312.trans (congrArg some (by kernel_rfl))⟩
 f57 := ⟨Tryz.f323.name, by decide, Tryz.func323.trans (congrArg some (by kernel_rfl))⟩
 t0 := Tryz.underlying0
 a0 := Tryz.isAgg0
 z0 := Tryz.sizeOf0
 v0 := Tryz.zeroValue0
 t3 := Tryz.underlying3
 a3 := Tryz.isAgg3
 z3 := Tryz.sizeOf3
 v3 := Tryz.zeroValue3
 t4 := Tryz.underlying4
 a4 := Tryz.isAgg4
 z4 := Tryz.sizeOf4
 v4 := Tryz.zeroValue4
 t5 := Tryz.underlying5
 a5 := Tryz.isAgg5
 z5 := Tryz.sizeOf5
 v5 := Tryz.zeroValue5
 t9 := Tryz.underlying9
 a9 := Tryz.isAgg9
 z9 := Tryz.sizeOf9
 v9 := Tryz.zeroValue9
 t22 := Tryz.underlying43
 a22 := Tryz.isAgg43
 z22 := Tryz.sizeOf43
 v22 := Tryz.zeroValue43
 t25 := Tryz.underlying248
 a25 := Tryz.isAgg248
 z25 := Tryz.sizeOf248
 v25 := Tryz.zeroValue248
 t39 := Tryz.underlying214
 a39 := Tryz.isAgg214
 z39 := Tryz.sizeOf214
 v39 := Tryz.zeroValue214
 t45 := Tryz.underlying378
 a45 := Tryz.isAgg378
 z45 := Tryz.sizeOf378
 v45 := Tryz.zeroValue378
 t46 := Tryz.underlying379
 a46 := Tryz.isAgg379
 z46 := Tryz.sizeOf379
 v46 := Tryz.zeroValue379
 t50 := Tryz.underlying219
 a50 := Tryz.isAgg219
 z50 := Tryz.sizeOf219
 v50 := Tryz.zeroValue219
 t53 := Tryz.underlying270
 a53 := Tryz.isAgg270
 z53 := Tryz.sizeOf270
 v53 := Tryz.zeroValue270
 t55 := Tryz.underlying198
 a55 := Tryz.isAgg198
 z55 := Tryz.sizeOf198
 v55 := Tryz.zeroValue198
 t66 := Tryz.underlying397
 a66 := Tryz.isAgg397
 z66 := Tryz.sizeOf397
 v66 := Tryz.zeroValue397
 t70 := Tryz.underlying400
 a70 := Tryz.isAgg400
 z70 := Tryz.sizeOf400
 v70 := Tryz.zeroValue400
 t76 := Tryz.underlying409
 a76 := Tryz.isAgg409
 z76 := Tryz.sizeOf409
 v76 := Tryz.zeroValue409
 t77 := Tryz.underlying114
 a77 := Tryz.isAgg114
 z77 := Tryz.sizeOf114
 v77 := Tryz.zeroValue114 }
end Go.Proofs.YtopcefhncildnaaGreatDoor.F
