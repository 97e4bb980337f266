/-
  Plain mathematics, of no program: the decimal digits of a number, as a list of letters, and what a loop over an array of 20 places has laid of them behind so many rounds.
-/
namespace Go.Proofs.Ytiinboedojjbkaa

/-- The decimal digits of m, as letters. -/
def dec (m : Nat) : List Int := if m < 10 then [48 + (m : Int)] else dec (m / 10) ++ [48 + ((m % 10 : Nat) : Int)]

theorem dec_small (m : Nat) (h : m < 10) : dec m = [48 + (m : Int)] := by rw [dec, if_pos h]
theorem dec_large (m : Nat) (h : 10 ≤ m) : dec m = dec (m / 10) ++ [48 + ((m % 10 : Nat) : Int)] := by rw [dec, if_neg (by omega)]

/-- A whole number, - ahead below 0. -/
def decimal (n : Int) : List Int := if n < 0 then 45 :: dec n.natAbs else dec n.natAbs

def decN (m j : Nat) : List Int := (List.range j).map fun i => 48 + ((m / 10 ^ (j - 1 - i) % 10 : Nat) : Int)
def digs (m j : Nat) : List Int := (List.range 20).map fun t => if 19 - t < j then 48 + ((m / 10 ^ (19 - t) % 10 : Nat) : Int) else 0

@[simp] theorem digs_length (m j : Nat) : (digs m j).length = 20 := by simp [digs]
@[simp] theorem decN_length (m j : Nat) : (decN m j).length = j := by simp [decN]

theorem digs_zero (m : Nat) : digs m 0 = [0, 0, 0, 0, 0, 0, 0, 0, 0, 0, 0, 0, 0, 0, 0, 0, 0, 0, 0, 0] := by
  simp [digs, List.range_succ]

theorem digs_set (m j : Nat) (h : j < 20) : (digs m j).set (19 - j) (48 + ((m / 10 ^ j % 10 : Nat) : Int)) = digs m (j + 1) := by
  unfold digs
  apply List.ext_getElem
  · simp
  · intro t h1 h2
    simp only [List.length_set, List.length_map, List.length_range] at h1 h2
    simp only [List.getElem_set, List.getElem_map, List.getElem_range]
    by_cases c : 19 - j = t
    · rw [if_pos c, if_pos (by omega), show 19 - t = j by omega]
    · rw [if_neg c]
      by_cases d : 19 - t < j
      · rw [if_pos d, if_pos (by omega)]
      · rw [if_neg d, if_neg (by omega)]

theorem digs_drop (m j : Nat) (h : j ≤ 20) : (digs m j).drop (20 - j) = decN m j := by
  unfold digs decN
  apply List.ext_getElem
  · simp; omega
  · intro t h1 h2
    simp only [List.length_map, List.length_range] at h2
    simp only [List.getElem_drop, List.getElem_map, List.getElem_range]
    rw [if_pos (by omega), show 19 - (20 - j + t) = j - 1 - t by omega]

theorem digs_drop_neg (m j : Nat) (h : j ≤ 19) : ((digs m j).set (19 - j) 45).drop (19 - j) = 45 :: decN m j := by
  rw [← digs_drop m j (by omega), List.drop_eq_getElem_cons (by simp; omega), show 19 - j + 1 = 20 - j by omega, List.drop_set_of_lt (by omega)]
  simp

theorem decN_succ (m j : Nat) : decN m (j + 1) = decN (m / 10) j ++ [48 + ((m % 10 : Nat) : Int)] := by
  unfold decN
  rw [List.range_succ, List.map_append, List.map_singleton]
  congr 1
  · apply List.map_congr_left
    intro i hi
    have hi : i < j := List.mem_range.1 hi
    rw [show j + 1 - 1 - i = j - 1 - i + 1 by omega, Nat.pow_succ, Nat.mul_comm, ← Nat.div_div_eq_div_mul]
  · simp

theorem decN_dec : ∀ (j m : Nat), m / 10 ^ (j + 1) = 0 → (j = 0 ∨ m / 10 ^ j ≠ 0) → decN m (j + 1) = dec m
  | 0, m, h, _ => by
    have hm : m < 10 := by omega
    rw [dec_small m hm, decN_succ]
    simp [decN, Nat.mod_eq_of_lt hm]
  | j + 1, m, h, h' => by
    have h2 : m / 10 ^ (j + 1) ≠ 0 := by rcases h' with h' | h' <;> omega
    have h10 : 10 ≤ m := by
      rcases Nat.lt_or_ge m 10 with c | c
      · exfalso
        apply h2
        exact Nat.div_eq_of_lt (Nat.lt_of_lt_of_le c (by rw [Nat.pow_succ]; have := Nat.pow_pos (n := j) (show 0 < 10 by decide); omega))
      · exact c
    rw [decN_succ, dec_large m h10, decN_dec j (m / 10)]
    · rw [Nat.div_div_eq_div_mul, Nat.mul_comm, ← Nat.pow_succ]; exact h
    · right
      rw [Nat.div_div_eq_div_mul, Nat.mul_comm, ← Nat.pow_succ]; exact h2

theorem dstep (m j : Nat) : m / 10 ^ (j + 1) = m / 10 ^ j / 10 := by rw [Nat.pow_succ, Nat.div_div_eq_div_mul]

theorem dec_range (m : Nat) : ∀ x ∈ dec m, 48 ≤ x ∧ x ≤ 57 := by
  induction m using Nat.strongRecOn with
  | _ m ih =>
    intro x hx
    by_cases h : m < 10
    · rw [dec_small m h] at hx; simp at hx; omega
    · rw [dec_large m (by omega), List.mem_append] at hx
      rcases hx with hx | hx
      · exact ih _ (by omega) x hx
      · simp at hx; omega

theorem dec_pos_length (m : Nat) : 1 ≤ (dec m).length := by
  by_cases h : m < 10
  · rw [dec_small m h]; simp
  · rw [dec_large m (by omega)]; simp

theorem dec_le_length : ∀ (k m : Nat), m < 10 ^ (k + 1) → (dec m).length ≤ k + 1
  | 0, m, h => by rw [dec_small m (by simpa using h)]; simp
  | k + 1, m, h => by
    by_cases c : m < 10
    · rw [dec_small m c]; simp
    · rw [dec_large m (by omega)]
      have := dec_le_length k (m / 10) (by rw [Nat.pow_succ] at h; omega)
      simp; omega

end Go.Proofs.Ytiinboedojjbkaa
