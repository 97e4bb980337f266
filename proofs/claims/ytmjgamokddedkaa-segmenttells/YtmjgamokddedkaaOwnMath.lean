/-
  Plain mathematics: owners, rising and each once.
-/
import Derived.Test.YtmjgamokddedkaaCheck
import Derived.Lib.SlicesCompact
import Derived.Lib.RowBridge
namespace Go.Proofs.Ytmjgamokddedkaa
open Go.Lib

/-- What is left of sorted numbers, each once. -/
theorem comp_inv (d : Array Int) (hs : ∀ i j, i < j → j < d.size → d[i]! ≤ d[j]!) : ∀ m, m ≤ d.size → (compactUpTo d m).Pairwise (· < ·) ∧ (∀ x, x ∈ compactUpTo d m ↔ ∃ j, j < m ∧ d[j]! = x)
  | 0, _ => by simp [compactUpTo]
  | m + 1, hm => by
    obtain ⟨h1, h2⟩ := comp_inv d hs m (by omega)
    rw [compactUpTo_succ]
    cases hk : keeps d m
    · have hm0 : 0 < m := by
        rcases Nat.eq_zero_or_pos m with h | h
        · rw [h, keeps_lt_one d 0 (by omega)] at hk; cases hk
        · exact h
      have he : d[m]! = d[m - 1]! := by
        by_cases e : d[m]! = d[m - 1]!
        · exact e
        · rw [keeps_pos e] at hk; cases hk
      simp only [Bool.false_eq_true, if_false, List.append_nil]
      refine ⟨h1, fun x => ?_⟩
      rw [h2]
      constructor
      · rintro ⟨j, hj, rfl⟩; exact ⟨j, by omega, rfl⟩
      · rintro ⟨j, hj, rfl⟩
        by_cases e : j = m
        · subst e; exact ⟨j - 1, by omega, he.symm⟩
        · exact ⟨j, by omega, rfl⟩
    · simp only [if_true]
      refine ⟨?_, fun x => ?_⟩
      · rw [List.pairwise_append]
        refine ⟨h1, List.pairwise_singleton _ _, fun a ha b hb => ?_⟩
        obtain ⟨j, hj, rfl⟩ := (h2 a).1 ha
        obtain rfl := List.mem_singleton.1 hb
        have hle := hs j m hj (by omega)
        have hne : d[m]! ≠ d[m - 1]! := fun e => by
          rw [keeps_neg (by omega) e] at hk
          cases hk
        have hle2 : d[m - 1]! ≤ d[m]! := hs (m - 1) m (by omega) (by omega)
        have hle3 : d[j]! ≤ d[m - 1]! := by
          by_cases e : j = m - 1
          · rw [e]; exact Int.le_refl _
          · exact hs j (m - 1) (by omega) (by omega)
        omega
      · rw [List.mem_append, h2, List.mem_singleton]
        constructor
        · rintro (⟨j, hj, rfl⟩ | rfl)
          · exact ⟨j, by omega, rfl⟩
          · exact ⟨m, by omega, rfl⟩
        · rintro ⟨j, hj, rfl⟩
          by_cases e : j = m
          · subst e; exact .inr rfl
          · exact .inl ⟨j, by omega, rfl⟩
def srt (zs : List Int) : List Int := zs.mergeSort fun x y => decide (x ≤ y)
def onc (zs : List Int) : List Int := compact (srt zs)
theorem srt_length (zs : List Int) : (srt zs).length = zs.length := List.length_mergeSort zs
theorem onc_length (zs : List Int) : (onc zs).length ≤ zs.length := by
  have := compact_length_le (srt zs)
  rw [srt_length] at this
  exact this
theorem onc_told (zs : List Int) : (onc zs).Pairwise (· < ·) ∧ ∀ x, x ∈ onc zs ↔ x ∈ zs := by
  have hp : (srt zs).Pairwise fun a b => decide (a ≤ b) = true := List.pairwise_mergeSort (fun a b c h1 h2 => by simp at h1 h2 ⊢; omega) (fun a b => by simp; omega) zs
  have hs : ∀ i j, i < j → j < (srt zs).toArray.size → (srt zs).toArray[i]! ≤ (srt zs).toArray[j]! := fun i j hij hj => by
    have hj' : j < (srt zs).length := by simpa using hj
    have := List.pairwise_iff_getElem.1 hp i j (by omega) hj' hij
    simpa [getElem!_pos, show i < (srt zs).length by omega, hj'] using this
  obtain ⟨h1, h2⟩ := comp_inv (srt zs).toArray hs (srt zs).toArray.size (Nat.le_refl _)
  refine ⟨h1, fun x => (h2 x).trans ?_⟩
  rw [← List.mem_mergeSort (le := fun x y => decide (x ≤ y)) (l := zs)]
  show _ ↔ x ∈ srt zs
  constructor
  · rintro ⟨j, hj, rfl⟩
    have hj' : j < (srt zs).length := by simpa using hj
    simp [getElem!_pos, hj']
  · intro hx
    obtain ⟨j, hj, rfl⟩ := List.mem_iff_getElem.1 hx
    exact ⟨j, by simpa using hj, by simp [getElem!_pos, hj]⟩

end Go.Proofs.Ytmjgamokddedkaa
