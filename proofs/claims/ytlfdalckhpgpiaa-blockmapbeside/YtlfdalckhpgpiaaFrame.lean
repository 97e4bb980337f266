/-
  Two facts of the program on which every frame of a law leans.
-/
import Derived.Test.YtlfdalckhpgpiaaShape
namespace Go.Proofs.Ytlfdalckhpgpiaa
open Go.ChangeShapes Go.WideShapes Go.ChangeAt Go.RowKit

theorem own : ownKnob Try.prog.godebug = none := by kernel_rfl
theorem laidOut : laidOutB Try.prog = true := by kernel_rfl

end Go.Proofs.Ytlfdalckhpgpiaa
