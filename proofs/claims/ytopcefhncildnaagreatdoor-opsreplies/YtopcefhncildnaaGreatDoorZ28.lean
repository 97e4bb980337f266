/-
  What the document's Same answers; octets as a text.
-/
import Derived.Test.YtopcefhncildnaaGreatDoorZ27
import Derived.Laws.BytesArg
import Derived.Laws.IdiomCopy
namespace Go.Proofs.YtopcefhncildnaaGreatDoor.F
open Go.RowKit
theorem conv_any {n0 : Nat} {w : World} {v : Value} {l : List Int} (h : Arg n0 w v l) : (convert 25 9 v).run Tryz.prog w = .ok (.string (strOfNums l)) w := by
 rcases h.split with ⟨rfl, a, cap, rfl⟩ | ⟨b, off, cap, rfl, _, _, _, hcell⟩
 · cases a with
   | none => exact run_convert_bytes_nil w 25 5 Tryz.underlying25 Tryz.underlying5 _ _ 9 Tryz.underlying9
   | some x => (
 rw [run_convert_bytes_string w 25 9 5 _ _ cap Tryz.underlying25 Tryz.underlying5 Tryz.underlying9]
 have := run_bytesToString (P := Tryz.prog) w x 0 cap [] (by simpa using run_loadCells_list (P := Tryz.prog) w x [] (fun j v hj => by simp at hj))
 exact this)
 · exact run_convert_bytes_arg w 25 5 Tryz.underlying25 Tryz.underlying5 b off l.length cap l rfl (fun i hi => by
     rw [hcell i hi]) 9 Tryz.underlying9
end Go.Proofs.YtopcefhncildnaaGreatDoor.F
