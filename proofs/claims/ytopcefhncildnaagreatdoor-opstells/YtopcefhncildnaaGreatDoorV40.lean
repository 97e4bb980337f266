/-
  What follows of the answers: names go through a path; a path's names, or some of the first of them, make a path that is no longer.
-/
import Derived.Test.YtopcefhncildnaaGreatDoorV39
import Derived.Deep.OwnRows
namespace Go.Proofs.YtopcefhncildnaaGreatDoor.P
open Go.Proofs.YtopcefhncildnaaGreatDoor.D (nameOk nerr two name_any num_any anyL anyL_ren empty_iff)
open Go.RowKit
theorem serr_zero {s : ByteArray} : serr s = 0 ↔ s.size ≤ 128 ∧ rooted s = true ∧ (pts s).all nameOk = true ∧ (pts s).length ≤ 8 := by
 unfold serr
 constructor
 · intro h
   split at h
   · simp at h
   · split at h
     · simp at h
     · split at h
       · simp at h
       · split at h
         · simp at h
         · rename_i h1 h2 h3 h4
           exact ⟨by omega, by simpa using h2, by simpa using h3, by omega⟩
 · rintro ⟨h1, h2, h3, h4⟩
   simp [h2, h3, show ¬ 128 < s.size by omega, show ¬ 8 < (pts s).length by omega]
theorem sval_zero {s : ByteArray} (h : serr s = 0) : sval s = pts s := by rw [sval, if_pos h]
end Go.Proofs.YtopcefhncildnaaGreatDoor.P
