/-
  What octets.Get and the document's answer for it are: the number that octets say, or ErrBig; for every octets, in every memory, which stays. And what CopyBytes makes.
-/
import Derived.Test.YtkpckadicjdieabGOPut
import Derived.Test.YtkpckadicjdieabGOGetMath
import Derived.Laws.AppendOwnNone
import Derived.WalkSmall
namespace Go.Proofs.Ytkpckadicjdieab.O
open Go.RowKit

/-- Octets at an address: what the walks read. -/
def At (w : World) (b off : Nat) (l : List Int) : Prop := ∀ i, i < l.length → w.cell? ⟨b, off + i, none⟩ = some (.int .u8 (l.getD i 0))






end Go.Proofs.Ytkpckadicjdieab.O
