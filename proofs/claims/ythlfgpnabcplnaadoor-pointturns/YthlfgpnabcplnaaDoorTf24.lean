import Derived.Test.YthlfgpnabcplnaaDoorTf22
import Derived.Deep.RegionHeld3
import Derived.Deep.DrawnRows
/-
  What CopyInts, CopyLists and of make: the same numbers, texts and record in memory of their own.
-/
namespace Go.Proofs.YthlfgpnabcplnaaDoor.W
open Go.RowKit

theorem one_ints (l : List Int) : ∀ u ∈ l.map (Value.int .i64), u.oneCell' = true := fun u hu => by
  obtain ⟨y, _, rfl⟩ := List.mem_map.1 hu
  rfl
theorem ints_cells {n : Nat} {w : World} {v : Value} {l : List Int} (h : intsS.lies n w [v] l) : Cells n w 1 v l.length (l.map (Value.int .i64)) := by
  obtain ⟨v', hv, hC, _⟩ := h
  obtain rfl : v = v' := by simpa using hv
  exact hC


/-- As great as the form reads texts. -/
def FitsT (l : List (List Int)) : Prop := l.length * 24 ≤ 140737488351232 ∧ ∀ t ∈ l, t.length ≤ 140737488351232


end Go.Proofs.YthlfgpnabcplnaaDoor.W

/-
  How great octets and texts are that the form reads.
-/
namespace Go.Proofs.YthlfgpnabcplnaaDoor.W
open Go.RowKit

theorem fits_b {l : List Int} (h : bytesS.fits l) : l.length ≤ 140737488351232 := by
  have b5 : Tryd.prog.bytesOf 5 = 1 := by kernel_rfl
  have h5 : l.length * Tryd.prog.bytesOf 5 ≤ 140737488351232 := h
  rwa [b5, Nat.mul_one] at h5
theorem fits_t {l : List (List Int)} (h : textsS.fits l) : FitsT l := by
  obtain ⟨h2, h3⟩ := h
  have b26 : Tryd.prog.bytesOf 22 = 24 := by kernel_rfl
  refine ⟨?_, fun t ht => fits_b (h3 t ht)⟩
  have h4 : l.length * Tryd.prog.bytesOf 22 ≤ 140737488351232 := h2
  rwa [b26] at h4

end Go.Proofs.YthlfgpnabcplnaaDoor.W
