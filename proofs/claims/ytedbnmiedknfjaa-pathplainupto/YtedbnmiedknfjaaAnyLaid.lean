/-
  The library's strings.IndexAny and what it calls, as they stand in this program: the table of numbers, and that each body is the one that the contracts speak of.
-/
import Derived.Shelf.Strings.IndexAnyAll
import Derived.Laws.RangeAny
import Derived.Laws.Runes
import Derived.Test.YtedbnmiedknfjaaProg
namespace Go.Proofs.Ytedbnmiedknfjaa
open Go.Shelf

def anyL_ren : Go.Shelf.Ren := ⟨fun | 153 => 36 | 152 => 40 | 226 => 41 | 227 => 42 | 228 => 43 | 137 => 50 | 119 => 51 | 224 => 48 | 225 => 47 | 217 => 46 | 266 => 52 | n => n, fun | 9 => 9 | 3 => 3 | 4 => 4 | 5 => 5 | 21 => 21 | 117 => 76 | 116 => 75 | 0 => 0 | 46 => 84 | 124 => 86 | n => n, fun | n => n⟩
theorem anyL : Go.Proofs.Lays.n153 Try.prog anyL_ren := {
  mixed := by kernel_rfl
  f119 := Try.func51.trans (congrArg some (by kernel_rfl))
  f137 := Try.func50.trans (congrArg some (by kernel_rfl))
  f152 := Try.func40.trans (congrArg some (by kernel_rfl))
  f153 := Try.func36.trans (congrArg some (by kernel_rfl))
  f217 := Try.func46.trans (congrArg some (by kernel_rfl))
  f224 := Try.func48.trans (congrArg some (by kernel_rfl))
  f225 := Try.func47.trans (congrArg some (by kernel_rfl))
  f226 := Try.func41.trans (congrArg some (by kernel_rfl))
  f227 := Try.func42.trans (congrArg some (by kernel_rfl))
  f228 := Try.func43.trans (congrArg some (by kernel_rfl))
  f266 := Try.func52.trans (congrArg some (by kernel_rfl))
  t0 := Try.underlying0
  a0 := Try.isAgg0
  z0 := Try.sizeOf0
  v0 := Try.zeroValue0
  t3 := Try.underlying3
  a3 := Try.isAgg3
  z3 := Try.sizeOf3
  v3 := Try.zeroValue3
  t4 := Try.underlying4
  a4 := Try.isAgg4
  z4 := Try.sizeOf4
  v4 := Try.zeroValue4
  t5 := Try.underlying5
  a5 := Try.isAgg5
  z5 := Try.sizeOf5
  v5 := Try.zeroValue5
  t9 := Try.underlying9
  a9 := Try.isAgg9
  z9 := Try.sizeOf9
  v9 := Try.zeroValue9
  t21 := Try.underlying21
  a21 := Try.isAgg21
  z21 := Try.sizeOf21
  v21 := Try.zeroValue21
  t46 := Try.underlying84
  a46 := Try.isAgg84
  z46 := Try.sizeOf84
  v46 := Try.zeroValue84
  t116 := Try.underlying75
  a116 := Try.isAgg75
  z116 := Try.sizeOf75
  t117 := Try.underlying76
  a117 := Try.isAgg76
  z117 := Try.sizeOf76
  v117 := Try.zeroValue76
  t124 := Try.underlying86
  a124 := Try.isAgg86
  z124 := Try.sizeOf86
  v124 := Try.zeroValue86 }

end Go.Proofs.Ytedbnmiedknfjaa
