/-
  What follows of the answers: names go through a path; a path's names, or some of the first of them, make a path that is no longer.
  What the document's Split answers; for every text.
-/
import Derived.Test.YtkcnephbaffmbabGreatDoorQ35
import Derived.Deep.OwnRows
import Derived.Deep.AppendLies
namespace Go.Proofs.YtkcnephbaffmbabGreatDoor.P
open Go.Proofs.YtkcnephbaffmbabGreatDoor.D (nameOk nerr two name_any anyL anyL_ren empty_iff)
open Go.RowKit
theorem serr_zero {s : ByteArray} : serr s = 0 ↔ s.size ≤ 128 ∧ rooted s = true ∧ (pts s).all nameOk = true ∧ (pts s).length ≤ 8 := by
  unfold serr
  constructor
  · intro h
    split at h
    · simp at h
    · split at h
      · simp at h
      · split at h
        · simp at h
        · split at h
          · simp at h
          · rename_i h1 h2 h3 h4
            exact ⟨by omega, by simpa using h2, by simpa using h3, by omega⟩
  · rintro ⟨h1, h2, h3, h4⟩
    simp [h2, h3, show ¬ 128 < s.size by omega, show ¬ 8 < (pts s).length by omega]
theorem sval_zero {s : ByteArray} (h : serr s = 0) : sval s = pts s := by rw [sval, if_pos h]
theorem rooted_cons {r : List UInt8} : rooted (bk (47 :: r)) = true := by
  rw [rooted, bk_data]; simp [Lib.hasPrefix]
theorem rooted_of {s : ByteArray} (h : rooted s = true) : ∃ r, s.data.toList = 47 :: r := by
  rw [rooted, Lib.hasPrefix] at h
  cases hl : s.data.toList with
  | nil => rw [hl] at h; simp at h
  | cons c r =>
    rw [hl] at h
    simp at h
    exact ⟨r, by rw [← h]⟩
end Go.Proofs.YtkcnephbaffmbabGreatDoor.P

namespace Go.Proofs.YtkcnephbaffmbabGreatDoor.P
open Go.Proofs.YtkcnephbaffmbabGreatDoor.D (nameOk nerr two name_any anyL anyL_ren empty_iff)
open Go.RowKit Go.Shelf
theorem data_append (a b : ByteArray) : (a ++ b).data.toList = a.data.toList ++ b.data.toList := by
  rw [ByteArray.data_append, Array.toList_append]
theorem below_push {n : Nat} {w wr w' : World} {o : Obj} {base : Nat} {v : Value} {l : List ByteArray} (hb : Below n w wr) (hO : OwnT base wr v l) (hg : (wr.alloc o).grownBy w' v.ownBlock) (hn : n ≤ base) (hs : n ≤ wr.heap.size) : Below n w w' :=
  (hb.alloc hs o).grown hg (by simp; omega) (fun j hj => by have := (hO.1.lt j hj).1; omega)
end Go.Proofs.YtkcnephbaffmbabGreatDoor.P
