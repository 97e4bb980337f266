/-
  The library's strings.IndexAny and what it calls, as they stand in this program: the table of numbers, and that each body is the one that the contracts speak of.
-/
import Derived.Shelf.Strings.IndexAnyAll
import Derived.Laws.RangeAny
import Derived.Laws.Runes
import Derived.Test.YtkcnephbaffmbaaGreatDoorProg
namespace Go.Proofs.YtkcnephbaffmbaaGreatDoor.D
open Go.Shelf
def anyL_ren : Go.Shelf.Ren := ⟨fun | 153 => 199 | 152 => 206 | 226 => 207 | 227 => 208 | 228 => 209 | 137 => 215 | 119 => 216 | 224 => 213 | 225 => 212 | 217 => 211 | 266 => 217 | n => n, fun | 9 => 9 | 3 => 3 | 4 => 4 | 5 => 5 | 21 => 21 | 117 => 279 | 116 => 278 | 0 => 0 | 46 => 228 | 124 => 285 | n => n, fun | n => n⟩
theorem anyL : Go.Proofs.Lays.n153 Tryz.prog anyL_ren := {
 mixed := by kernel_rfl
 f119 := Tryz.func216.trans (congrArg some (by kernel_rfl))
 f137 := Tryz.func215.trans (congrArg some (by kernel_rfl))
 f152 := Tryz.func206.trans (congrArg some (by kernel_rfl))
 f153 := Tryz.func199.trans (congrArg some (by kernel_rfl))
 f217 := Tryz.func211.trans (congrArg some (by kernel_rfl))
 f224 := Tryz.func213.trans (congrArg some (by kernel_rfl))
 f225 := Tryz.func212.trans (congrArg some (by kernel_rfl))
 f226 := Tryz.func207.trans (congrArg some (by kernel_rfl))
 f227 := Tryz.func208.trans (congrArg some (by kernel_rfl))
 f228 := Tryz.func209.trans (congrArg some (by kernel_rfl))
 f266 := Tryz.func217.trans (congrArg some (by kernel_rfl))
 t0 := Tryz.underlying0
 a0 := Tryz.isAgg0
 z0 := Tryz.sizeOf0
 v0 := Tryz.zeroValue0
 t3 := Tryz.underlying3
 a3 := Tryz.isAgg3
 z3 := Tryz.sizeOf3
 v3 := Tryz.zeroValue3
 t4 := Tryz.underlying4
 a4 := Tryz.isAgg4
 z4 := Tryz.sizeOf4
 v4 := Tryz.zeroValue4
 t5 := Tryz.underlying5
 a5 := Tryz.isAgg5
 z5 := Tryz.sizeOf5
 v5 := Tryz.zeroValue5
 t9 := Tryz.underlying9
 a9 := Tryz.isAgg9
 z9 := Tryz.sizeOf9
 v9 := Tryz.zeroValue9
 t21 := Tryz.underlying21
 a21 := Tryz.isAgg21
 z21 := Tryz.sizeOf21
 v21 := Tryz.zeroValue21
 t46 := Tryz.underlying228
 a46 := Tryz.isAgg228
 z46 := Tryz.sizeOf228
 v46 := Tryz.zeroValue228
 t116 := Tryz.underlying278
 a116 := Tryz.isAgg278
 z116 := Tryz.sizeOf278
 t117 := Tryz.underlying279
 a117 := Tryz.isAgg279
 z117 := Tryz.sizeOf279
 v117 := Tryz.zeroValue279
 t124 := Tryz.underlying285
 a124 := Tryz.isAgg285
 z124 := Tryz.sizeOf285
 v124 := Tryz.zeroValue285 }
end Go.Proofs.YtkcnephbaffmbaaGreatDoor.D
