/-
  What the document's Same answers; octets as a text.
-/
import Derived.Test.YtopcefhncildnaaGreatDoorU27
import Derived.Laws.BytesArg
namespace Go.Proofs.YtopcefhncildnaaGreatDoor.F
open Go.RowKit
theorem alike_b {a b : List Bk} (hl : a.length = b.length) (h : ∀ i : Nat, i < a.length → a[i]? = b[i]?) : a = b := by
 apply List.ext_getElem?
 intro i
 by_cases hi : i < a.length
 · exact h i hi
 · rw [List.getElem?_eq_none (by omega), List.getElem?_eq_none (by omega)]
end Go.Proofs.YtopcefhncildnaaGreatDoor.F
