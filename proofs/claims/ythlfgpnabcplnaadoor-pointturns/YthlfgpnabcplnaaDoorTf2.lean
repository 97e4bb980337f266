/-
  Plain mathematics, of no program: how many octets a number needs, a number as octets (the highest first), and what a loop has laid of them behind so many rounds.
-/
import Derived.Lib.BitFns
namespace Go.Proofs.YthlfgpnabcplnaaDoor.W.O

/-- The least number of octets that hold n. -/
def need (n : Nat) : Nat := if h : n = 0 then 0 else need (n / 256) + 1

theorem need_zero : need 0 = 0 := by rw [need]; simp
theorem need_pos (n : Nat) (h : n ≠ 0) : need n = need (n / 256) + 1 := by rw [need]; simp [h]

theorem need_le_iff (k : Nat) : ∀ n, need n ≤ k ↔ n < 256 ^ k := by
  induction k with
  | zero => intro n; by_cases h : n = 0
            · subst h; simp [need_zero]
            · rw [need_pos n h]; simp; omega
  | succ k ih =>
    intro n
    by_cases h : n = 0
    · subst h; simp [need_zero]; exact Nat.pow_pos (by decide)
    · rw [need_pos n h, Nat.add_le_add_iff_right, ih, Nat.pow_succ]
      exact Nat.div_lt_iff_lt_mul (by decide)

theorem need_le8 (n : Nat) (h : n < 18446744073709551616) : need n ≤ 8 := (need_le_iff 8 n).2 (by simpa using h)

theorem need_bits : ∀ n, n < 18446744073709551616 → (Lib.bitLen n + 7) / 8 = need n := by
  intro n
  induction n using Nat.strongRecOn with
  | _ n ih =>
    intro h
    by_cases h0 : n = 0
    · subst h0; rw [need_zero]; decide
    · rw [need_pos n h0]
      by_cases h1 : 256 ≤ n
      · rw [Lib.bitLen_shift8 n h1 h, ← ih (n / 256) (by omega) (by omega)]; omega
      · have e : n / 256 = 0 := by omega
        rw [e, need_zero]
        have := Lib.bitLen_half n h0 (by omega)
        have := Lib.bitLen_le n 8 (by omega) (by omega)
        omega

/-- n in k octets, the highest first. -/
def oct (n k : Nat) : List Int := (List.range k).map fun t => ((n / 256 ^ (k - 1 - t) % 256 : Nat) : Int)
/-- Of these the lowest j; zeros ahead. -/
def part (n k j : Nat) : List Int := (List.range k).map fun t => if k - 1 - t < j then ((n / 256 ^ (k - 1 - t) % 256 : Nat) : Int) else 0

@[simp] theorem oct_length (n k : Nat) : (oct n k).length = k := by simp [oct]
@[simp] theorem part_length (n k j : Nat) : (part n k j).length = k := by simp [part]

theorem part_zero (n k : Nat) : part n k 0 = List.replicate k 0 := by
  unfold part
  apply List.ext_getElem <;> simp

theorem part_done (n k j : Nat) (h : n / 256 ^ j = 0) : part n k j = oct n k := by
  unfold part oct
  apply List.map_congr_left
  intro t _
  by_cases c : k - 1 - t < j
  · rw [if_pos c]
  · rw [if_neg c]
    have : n / 256 ^ (k - 1 - t) = 0 := by
      have hp : 0 < 256 ^ j := Nat.pow_pos (by decide)
      have h1 : n < 256 ^ j := by
        rcases Nat.div_eq_zero_iff.1 h with h | h
        · omega
        · exact h
      exact Nat.div_eq_of_lt (Nat.lt_of_lt_of_le h1 (Nat.pow_le_pow_right (by decide) (by omega)))
    rw [this]; rfl

theorem part_set (n k j : Nat) (h : j < k) : (part n k j).set (k - 1 - j) ((n / 256 ^ j % 256 : Nat) : Int) = part n k (j + 1) := by
  unfold part
  apply List.ext_getElem
  · simp
  · intro t h1 h2
    simp only [List.length_set, List.length_map, List.length_range] at h1 h2
    simp only [List.getElem_set, List.getElem_map, List.getElem_range]
    by_cases c : k - 1 - j = t
    · rw [if_pos c, if_pos (by omega), show k - 1 - t = j by omega]
    · rw [if_neg c]
      by_cases d : k - 1 - t < j
      · rw [if_pos d, if_pos (by omega)]
      · rw [if_neg d, if_neg (by omega)]

theorem div_step (n j : Nat) : n / 256 ^ (j + 1) = n / 256 ^ j / 256 := by rw [Nat.pow_succ, Nat.div_div_eq_div_mul]

theorem need_of_pos (n j : Nat) (h : n / 256 ^ j ≠ 0) : j < need n := by
  rcases Nat.lt_or_ge j (need n) with c | c
  · exact c
  · exact absurd (Nat.div_eq_of_lt ((need_le_iff j n).1 c)) h

end Go.Proofs.YthlfgpnabcplnaaDoor.W.O
