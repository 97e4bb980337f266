/-
  How great octets and texts are that the form reads.
-/
import Derived.Test.YtfpllfjdgpcmdaaDoorCopy
namespace Go.Proofs.YtfpllfjdgpcmdaaDoor
open Go.RowKit

theorem fits_b {l : List Int} (h : bytesS.fits l) : l.length ≤ 140737488351232 := by
  have b5 : Tryd.prog.bytesOf 5 = 1 := by kernel_rfl
  have h5 : l.length * Tryd.prog.bytesOf 5 ≤ 140737488351232 := h
  rwa [b5, Nat.mul_one] at h5
theorem fits_t {l : List (List Int)} (h : textsS.fits l) : FitsT l := by
  obtain ⟨h2, h3⟩ := h
  have b26 : Tryd.prog.bytesOf 26 = 24 := by kernel_rfl
  refine ⟨?_, fun t ht => fits_b (h3 t ht)⟩
  have h4 : l.length * Tryd.prog.bytesOf 26 ≤ 140737488351232 := h2
  rwa [b26] at h4

end Go.Proofs.YtfpllfjdgpcmdaaDoor
