/-
  What follows of the answers: names go through a path; a path's names, or some of the first of them, make a path that is no longer.
-/
import Derived.Test.YtedbnmiedknfjaaAlive
namespace Go.Proofs.Ytedbnmiedknfjaa
open Go.RowKit

theorem serr_zero {s : ByteArray} : serr s = 0 ↔ s.size ≤ 128 ∧ rooted s = true ∧ (pts s).all nameOk = true ∧ (pts s).length ≤ 8 := by
  unfold serr
  constructor
  · intro h
    split at h
    · simp at h
    · split at h
      · simp at h
      · split at h
        · simp at h
        · split at h
          · simp at h
          · rename_i h1 h2 h3 h4
            exact ⟨by omega, by simpa using h2, by simpa using h3, by omega⟩
  · rintro ⟨h1, h2, h3, h4⟩
    simp [h2, h3, show ¬ 128 < s.size by omega, show ¬ 8 < (pts s).length by omega]
theorem sval_zero {s : ByteArray} (h : serr s = 0) : sval s = pts s := by rw [sval, if_pos h]
theorem sval_bad {s : ByteArray} (h : serr s ≠ 0) : sval s = [] := by rw [sval, if_neg h]
theorem jerr_zero {l : List ByteArray} : jerr l = 0 ↔ l.all nameOk = true ∧ l.length ≤ 8 ∧ (jt l).size ≤ 128 := by
  unfold jerr
  constructor
  · intro h
    split at h
    · simp at h
    · split at h
      · simp at h
      · split at h
        · simp at h
        · rename_i h1 h2 h3
          exact ⟨by simpa using h1, by omega, by omega⟩
  · rintro ⟨h1, h2, h3⟩
    simp [h1, show ¬ 8 < l.length by omega, show ¬ 128 < (jt l).size by omega]
theorem jval_zero {l : List ByteArray} (h : jerr l = 0) : jval l = jt l := by rw [jval, if_pos h]
theorem jval_bad {l : List ByteArray} (h : jerr l ≠ 0) : jval l = ⟨#[]⟩ := by rw [jval, if_neg h]

theorem dl_bk (l : List ByteArray) : (dl l).map bk = l := by
  rw [dl, List.map_map]
  conv => rhs; rw [← List.map_id l]
  exact List.map_congr_left fun x _ => bk_of x
theorem dl_pts (s : ByteArray) : dl (pts s) = prts s.data.toList := by
  rw [dl, pts, List.map_map]
  conv => rhs; rw [← List.map_id (prts s.data.toList)]
  exact List.map_congr_left fun x _ => bk_data x
theorem ok_mem {l : List ByteArray} (h : l.all nameOk = true) : ∀ x ∈ dl l, (47 : UInt8) ∉ x ∧ x ≠ [] := fun x hx => by
  obtain ⟨y, hy, rfl⟩ := List.mem_map.1 hx
  exact name_slash (List.all_eq_true.1 h y hy)
theorem rooted_cons {r : List UInt8} : rooted (bk (47 :: r)) = true := by
  rw [rooted, bk_data]; simp [Lib.hasPrefix]
theorem rooted_of {s : ByteArray} (h : rooted s = true) : ∃ r, s.data.toList = 47 :: r := by
  rw [rooted, Lib.hasPrefix] at h
  cases hl : s.data.toList with
  | nil => rw [hl] at h; simp at h
  | cons c r =>
    rw [hl] at h
    simp at h
    exact ⟨r, by rw [← h]⟩

/-- Names go through their path. -/
theorem split_jt {l : List ByteArray} (h : jerr l = 0) : serr (jt l) = 0 ∧ sval (jt l) = l := by
  obtain ⟨h1, h2, h3⟩ := jerr_zero.1 h
  have hp : pts (jt l) = l := by rw [pts, jt, bk_data, prts_jp _ (ok_mem h1), dl_bk]
  have hr : rooted (jt l) = true := by
    obtain ⟨r, e⟩ := jp_head (dl l)
    rw [jt, e]; exact rooted_cons
  have hs : serr (jt l) = 0 := serr_zero.2 ⟨h3, hr, by rw [hp]; exact h1, by rw [hp]; exact h2⟩
  exact ⟨hs, by rw [sval_zero hs, hp]⟩

/-- Some of the first names of a path. -/
theorem join_part {s : ByteArray} (h : serr s = 0) (k : Nat) : jerr ((sval s).take k) = 0 ∧ (jt ((sval s).take k)).size ≤ s.size ∧ 1 ≤ s.size := by
  obtain ⟨h1, h2, h3, h4⟩ := serr_zero.1 h
  obtain ⟨r, hr⟩ := rooted_of h2
  have hz : 1 ≤ s.size := by rw [Lib.size_eq, hr]; simp
  have hsz : (jt ((sval s).take k)).size ≤ s.size := by
    rw [jt, bk_size, jp_length, sval_zero h, show dl ((pts s).take k) = (dl (pts s)).take k by simp [dl], dl_pts]
    have e1 := jl_length_take (prts s.data.toList) k
    have e2 := jl_prts_slash r
    rw [← hr, ← Lib.size_eq] at e2
    omega
  refine ⟨jerr_zero.2 ⟨?_, ?_, by omega⟩, hsz, hz⟩
  · rw [sval_zero h, List.all_eq_true]
    intro x hx
    exact List.all_eq_true.1 h3 x (List.mem_of_mem_take hx)
  · rw [sval_zero h, List.length_take]; omega
theorem join_all {s : ByteArray} (h : serr s = 0) : jerr (sval s) = 0 ∧ (jt (sval s)).size ≤ s.size ∧ 1 ≤ s.size := by
  have := join_part h (sval s).length
  rwa [List.take_length] at this

/-! To lie within. -/

theorem werr_zero {a b : ByteArray} : werr a b = 0 ↔ serr a = 0 ∧ serr b = 0 := by
  unfold werr
  split
  · rename_i h; simp [h]
  · rename_i h; simp [h]
theorem wval_bad {a b : ByteArray} (h : werr a b ≠ 0) : wval a b = false := by simp [wval, h]
theorem wval_iff {a b : ByteArray} (h : werr a b = 0) : wval a b = true ↔ sval a <+: sval b := by
  simp only [wval, h, decide_true, Bool.true_and, Bool.and_eq_true, decide_eq_true_eq]
  constructor
  · rintro ⟨_, h2⟩
    rw [h2]; exact List.take_prefix _ _
  · intro hp
    exact ⟨hp.length_le, List.prefix_iff_eq_take.1 hp⟩

end Go.Proofs.Ytedbnmiedknfjaa
