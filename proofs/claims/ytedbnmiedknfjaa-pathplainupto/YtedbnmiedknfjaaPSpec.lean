/-
  What the functions of paths answer, as plain functions of texts.
-/
import Derived.Test.YtedbnmiedknfjaaIter
namespace Go.Proofs.Ytedbnmiedknfjaa
open Go.RowKit Go.Shelf Go.Lib

/-- Split's error, and the names. -/
def serr (s : ByteArray) : Int := if 128 < s.size then 5 else if rooted s = false then 106 else if (pts s).all nameOk = false then 106 else if 8 < (pts s).length then 5 else 0
def sval (s : ByteArray) : List ByteArray := if serr s = 0 then pts s else []

theorem nerr_zero {s : ByteArray} : nerr s = 0 ↔ nameOk s = true := by
  unfold nerr
  split
  · rename_i h; simp [h]
  · rename_i h; simp [h]
theorem nerr_bad {s : ByteArray} (h : nameOk s = false) : nerr s = 106 := by simp [nerr, h]
theorem name_size {s : ByteArray} (h : nameOk s = true) : s.size ≤ 16 ∧ 1 ≤ s.size := by
  simp [nameOk] at h
  omega
theorem any_mem {l : List UInt8} (h : (47 : UInt8) ∈ l) : 0 ≤ Lib.indexAny l two := by
  induction l with
  | nil => cases h
  | cons b r ih =>
    rw [Lib.indexAny]
    split
    · omega
    · rename_i hb
      have hm : (47 : UInt8) ∈ r := by
        rcases List.mem_cons.1 h with e | h'
        · exact (hb (by rw [← e]; decide)).elim
        · exact h'
      have := ih hm
      rw [if_neg (by simp; omega)]
      omega
theorem name_slash {s : ByteArray} (h : nameOk s = true) : (47 : UInt8) ∉ s.data.toList ∧ s.data.toList ≠ [] := by
  refine ⟨fun hm => ?_, fun e => ?_⟩
  · have hc : Lib.containsAny s.data.toList two = false := by
      cases hx : Lib.containsAny s.data.toList two
      · rfl
      · simp [nameOk, hx] at h
    have h0 := any_mem hm
    unfold Lib.containsAny at hc
    simp at hc
    omega
  · have := (name_size h).2
    rw [Lib.size_eq, e] at this
    simp at this

end Go.Proofs.Ytedbnmiedknfjaa
