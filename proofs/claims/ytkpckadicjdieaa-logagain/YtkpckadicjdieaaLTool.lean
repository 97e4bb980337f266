/-
  Small words for the laws: a cell stays; a slice's length is an int.
-/
import Derived.Test.YtkpckadicjdieaaFlat
import Derived.Test.YtkpckadicjdieaaRTake
namespace Go.Proofs.Ytkpckadicjdieaa
open Go.RowKit

theorem cell_below {w w' : World} {p : Addr} {v : Value} (h : Below w.heap.size w w') (hc : w.cell? p = some v) : w'.cell? p = some v := by
  rw [h.cell (cell_lt hc)]
  exact hc
theorem Arg.small {n0 : Nat} {w : World} {v : Value} {l : List Int} (h : Arg n0 w v l) : l.length ≤ 9223372036854775807 := by
  obtain ⟨_, _, _, _, h1, _⟩ := h.shape
  unfold maxLen at h1
  omega

end Go.Proofs.Ytkpckadicjdieaa
