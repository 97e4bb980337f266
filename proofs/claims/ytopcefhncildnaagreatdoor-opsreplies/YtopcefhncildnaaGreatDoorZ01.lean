/-
  The library's strings.IndexAny and what it calls, as they stand in this program: the table of numbers, and that each body is the one that the contracts speak of.
-/
import Derived.Shelf.Strings.IndexAnyAll
import Derived.Laws.RangeAny
import Derived.Laws.Runes
import Derived.Test.YtopcefhncildnaaGreatDoorProg
namespace Go.Proofs.YtopcefhncildnaaGreatDoor.D
open Go.Shelf
def anyL_ren : Go.Shelf.Ren := ⟨fun | 153 => 307 | 152 => 319 | 226 => 320 | 227 => 321 | 228 => 322 | 137 => 328 | 119 => 329 | 224 => 326 | 225 => 325 | 217 => 324 | 266 => 330 | n => n, fun | 9 => 9 | 3 => 3 | 4 => 4 | 5 => 5 | 21 => 21 | 117 => 407 | 116 => 406 | 0 => 0 | 46 => 214 | 124 => 415 | n => n, fun | n => n⟩
theorem anyL : Go.Proofs.Lays.n153 Tryz.prog anyL_ren := {
 mixed := by kernel_rfl
 f119 := Tryz.func329.trans (congrArg some (by kernel_rfl))
 f137 := Tryz.func328.trans (congrArg some (by kernel_rfl))
 f152 := Tryz.func319.trans (congrArg some (by kernel_rfl))
 f153 := Tryz.func307.trans (congrArg some (by kernel_rfl))
 f217 := Tryz.func324.trans (congrArg some (by kernel_rfl))
 f224 := Tryz.func326.trans (congrArg some (by kernel_rfl))
 f225 := Tryz.func325.trans (congrArg some (by kernel_rfl))
 f226 := Tryz.func320.trans (congrArg some (by kernel_rfl))
 f227 := Tryz.func321.trans (congrArg some (by kernel_rfl))
 f228 := Tryz.func322.trans (congrArg some (by kernel_rfl))
 f266 := Tryz.func330.trans (congrArg some (by kernel_rfl))
 t0 := Tryz.underlying0
 a0 := Tryz.isAgg0
 z0 := Tryz.sizeOf0
 v0 := Tryz.zeroValue0
 t3 := Tryz.underlying3
 a3 := Tryz.isAgg3
 z3 := Tryz.sizeOf3
 v3 := Tryz.zeroValue3
 t4 := Tryz.underlying4
 a4 := Tryz.isAgg4
 z4 := Tryz.sizeOf4
 v4 := Tryz.zeroValue4
 t5 := Tryz.underlying5
 a5 := Tryz.isAgg5
 z5 := Tryz.sizeOf5
 v5 := Tryz.zeroValue5
 t9 := Tryz.underlying9
 a9 := Tryz.isAgg9
 z9 := Tryz.sizeOf9
 v9 := Tryz.zeroValue9
 t21 := Tryz.underlying21
 a21 := Tryz.isAgg21
 z21 := Tryz.sizeOf21
 v21 := Tryz.zeroValue21
 t46 := Tryz.underlying214
 a46 := Tryz.isAgg214
 z46 := Tryz.sizeOf214
 v46 := Tryz.zeroValue214
 t116 := Tryz.underlying406
 a116 := Tryz.isAgg406
 z116 := Tryz.sizeOf406
 t117 := Tryz.underlying407
 a117 := Tryz.isAgg407
 z117 := Tryz.sizeOf407
 v117 := Tryz.zeroValue407
 t124 := Tryz.underlying415
 a124 := Tryz.isAgg415
 z124 := Tryz.sizeOf415
 v124 := Tryz.zeroValue415 }
end Go.Proofs.YtopcefhncildnaaGreatDoor.D
