/-
  The example of the page.
-/
import Derived.Test.YtkpckadicjdieabZ27
import Derived.Lib.SlBytesConst
import Derived.Laws.BytesArg
namespace Go.Proofs.Ytkpckadicjdieab
open Go.RowKit

theorem st_flat {n : Nat} {w : World} {us : List Value} {s : St} (h : stN.owns n w us s) : ∃ a n1 c b n2 d e n3 f q, us = [.slice a n1 c, .slice b n2 d, .slice e n3 f, .int .i64 q] := by
  obtain ⟨a, c, b, d, e, f, h, _⟩ := st_ownN h
  exact ⟨a, _, c, b, _, d, e, _, f, _, h⟩
theorem conv_str {n0 : Nat} {w : World} {v : Value} {l : List Int} (h : Arg n0 w v l) (h0 : l ≠ []) : (convert 46 9 v).run Try.prog w = .ok (.string (strOfNums l)) w := by
  rcases h.split with ⟨rfl, _⟩ | ⟨b, off, cap, rfl, _, _, _, hc⟩
  · exact absurd rfl h0
  · exact run_convert_bytes_arg w 46 5 Try.underlying46 Try.underlying5 b off l.length cap l rfl hc 9 Try.underlying9


end Go.Proofs.Ytkpckadicjdieab
