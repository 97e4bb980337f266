/-
  Two facts of the program on which every frame of a law leans.
-/
import Derived.Test.YtkpckadicjdieabShape
namespace Go.Proofs.Ytkpckadicjdieab
open Go.ChangeShapes Go.WideShapes Go.ChangeAt Go.RowKit

theorem own : ownKnob Try.prog.godebug = none := by kernel_rfl
theorem laidOut : laidOutB Try.prog = true := by kernel_rfl

/-- A struct's cells as a list. -/
theorem as_list (cs : Array Value) : ∃ us : List Value, cs = us.toArray := ⟨cs.toList, by simp⟩

end Go.Proofs.Ytkpckadicjdieab
