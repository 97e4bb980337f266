/-
  Plain mathematics, of no program: what a hexadecimal digit is worth, the octets that a text of such digits says, and the two digits of an octet.
-/
namespace Go.Proofs.Ytiinboedojjbkaa

/-- A digit's worth; -1: it is none. -/
def worth (c : Int) : Int := if 48 ≤ c ∧ c ≤ 57 then c - 48 else if 97 ≤ c ∧ c ≤ 102 then c - 87 else if 65 ≤ c ∧ c ≤ 70 then c - 55 else -1

theorem worth_le (c : Int) : worth c ≤ 15 := by unfold worth; split <;> (try split) <;> (try split) <;> omega
theorem worth_ge (c : Int) : -1 ≤ worth c := by unfold worth; split <;> (try split) <;> (try split) <;> omega
theorem worth_high (c : Int) (h : 128 ≤ c) : worth c = -1 := by unfold worth; rw [if_neg (by omega), if_neg (by omega), if_neg (by omega)]
theorem worth_pos_lt (c : Int) (h : 0 ≤ worth c) : 48 ≤ c ∧ c ≤ 102 := by unfold worth at h; split at h <;> (try split at h) <;> (try split at h) <;> omega

/-- The octets that the first 2k letters say. -/
def pairs (L : List Int) (k : Nat) : List Int := (List.range k).map fun i => 16 * worth (L.getD (2 * i) 0) + worth (L.getD (2 * i + 1) 0)

@[simp] theorem pairs_length (L : List Int) (k : Nat) : (pairs L k).length = k := by simp [pairs]
theorem pairs_succ (L : List Int) (k : Nat) : pairs L (k + 1) = pairs L k ++ [16 * worth (L.getD (2 * k) 0) + worth (L.getD (2 * k + 1) 0)] := by
  simp [pairs, List.range_succ]

def bad (L : List Int) : Bool := L.any fun c => decide (worth c < 0)
theorem bad_iff (L : List Int) : bad L = true ↔ ∃ c ∈ L, worth c < 0 := by simp [bad]
def uerr (L : List Int) : Int := if bad L = true then 11 else if L.length % 2 = 1 then 8 else 0
def uout (L : List Int) : List Int := if bad L = true then [] else if L.length % 2 = 1 then [] else pairs L (L.length / 2)

theorem uerr_bad {L : List Int} {i : Nat} (hi : i < L.length) (h : worth (L.getD i 0) < 0) : uerr L = 11 ∧ uout L = [] := by
  have hx : bad L = true := (bad_iff L).2 ⟨L[i], List.getElem_mem hi, by simpa [List.getD, List.getElem?_eq_getElem hi] using h⟩
  simp [uerr, uout, hx]

theorem not_bad {L : List Int} (h : ∀ i, i < L.length → 0 ≤ worth (L.getD i 0)) : ¬ bad L = true := by
  intro hb
  obtain ⟨c, hc, hw⟩ := (bad_iff L).1 hb
  obtain ⟨i, hi, rfl⟩ := List.getElem_of_mem hc
  have := h i hi
  simp [List.getD, List.getElem?_eq_getElem hi] at this
  omega

theorem uerr_odd {L : List Int} (h : ∀ i, i < L.length → 0 ≤ worth (L.getD i 0)) (ho : L.length % 2 = 1) : uerr L = 8 ∧ uout L = [] := by
  have := not_bad h
  simp [uerr, uout, this, ho]

theorem uerr_ok {L : List Int} (h : ∀ i, i < L.length → 0 ≤ worth (L.getD i 0)) (ho : L.length % 2 = 0) : uerr L = 0 ∧ uout L = pairs L (L.length / 2) := by
  have := not_bad h
  have h1 : ¬ L.length % 2 = 1 := by omega
  simp [uerr, uout, this, h1]

theorem uout_range (L : List Int) : ∀ x ∈ uout L, 0 ≤ x ∧ x ≤ 255 := by
  by_cases h : bad L = true
  · simp [uout, h]
  · by_cases ho : L.length % 2 = 1
    · simp [uout, h, ho]
    · intro x hx
      rw [uout, if_neg h, if_neg ho, pairs, List.mem_map] at hx
      simp only [List.mem_range] at hx
      obtain ⟨i, hi, rfl⟩ := hx
      have g : ∀ j, j < L.length → 0 ≤ worth (L.getD j 0) := fun j hj => by
        rcases Int.lt_or_le (worth (L.getD j 0)) 0 with c | c
        · exact absurd ((bad_iff L).2 ⟨L[j], List.getElem_mem hj, by simpa [List.getD, List.getElem?_eq_getElem hj] using c⟩) h
        · exact c
      have a := g (2 * i) (by omega)
      have b := g (2 * i + 1) (by omega)
      have := worth_le (L.getD (2 * i) 0)
      have := worth_le (L.getD (2 * i + 1) 0)
      omega

theorem uout_length (L : List Int) : (uout L).length ≤ L.length / 2 := by
  unfold uout
  split
  · simp
  · split <;> simp

end Go.Proofs.Ytiinboedojjbkaa
