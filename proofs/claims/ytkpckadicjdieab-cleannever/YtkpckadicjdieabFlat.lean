/-
  The document's stores as four values.
-/
import Derived.Test.YtkpckadicjdieabLog
namespace Go.Proofs.Ytkpckadicjdieab
open Go.RowKit

theorem st_flatL {n : Nat} {w : World} {us : List Value} {s : St} (h : stR.lies n w us s) : ∃ a n1 c b n2 d e n3 f q, us = [.slice a n1 c, .slice b n2 d, .slice e n3 f, .int .i64 q] := by
  obtain ⟨a, c, b, d, e, f, h, _⟩ := st_viewR h
  exact ⟨a, _, c, b, _, d, e, _, f, _, h⟩
theorem st_flatR {n : Nat} {w : World} {us : List Value} {s : St} (h : stR.owns n w us s) : ∃ a n1 c b n2 d e n3 f q, us = [.slice a n1 c, .slice b n2 d, .slice e n3 f, .int .i64 q] := st_flatL (stR.olies h)

end Go.Proofs.Ytkpckadicjdieab
