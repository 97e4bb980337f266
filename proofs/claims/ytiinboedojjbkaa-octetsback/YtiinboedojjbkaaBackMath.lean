/-
  Plain mathematics: a number comes back from its octets, octets from their digits.
-/
import Derived.Test.YtiinboedojjbkaaOrderMath
import Derived.Test.YtiinboedojjbkaaGetMath
import Derived.Test.YtiinboedojjbkaaHexRun
import Derived.Test.YtiinboedojjbkaaUnhex
namespace Go.Proofs.Ytiinboedojjbkaa
open Go.RowKit

theorem nv_oct (n : Nat) : ∀ k, nv (oct n k) = n % 256 ^ k := by
  intro k
  induction k with
  | zero => simp [oct, nv, Nat.mod_one]
  | succ k ih =>
    rw [oct_succ, nv_cons, oct_length, ih, Nat.mod_pow_succ, Int.toNat_natCast, Nat.mul_comm]
    omega

theorem dz_head (l : List Int) : dz l = [] ∨ ∃ x t, dz l = x :: t ∧ x ≠ 0 := by
  induction l with
  | nil => exact .inl rfl
  | cons x l ih =>
    by_cases h : x = 0
    · subst h; rw [dz_cons_zero]; exact ih
    · exact .inr ⟨x, l, dz_cons_pos x l h, h⟩

theorem dz_short (l : List Int) (hr : ∀ x ∈ l, 0 ≤ x ∧ x ≤ 255) (h : nv l < 18446744073709551616) : (dz l).length ≤ 8 := by
  rw [← nv_dz] at h
  rcases dz_head l with e | ⟨x, t, e, hx⟩
  · rw [e]; simp
  · have := hr x (dz_sub l x (by rw [e]; exact List.mem_cons_self ..))
    rw [e, nv_cons] at h
    rw [e, List.length_cons]
    rcases Nat.lt_or_ge t.length 8 with c | c
    · omega
    · exfalso
      have h1 : 256 ^ 8 ≤ 256 ^ t.length := Nat.pow_le_pow_right (by decide) c
      have h2 : 1 * 256 ^ t.length ≤ x.toNat * 256 ^ t.length := Nat.mul_le_mul_right _ (by omega)
      simp only [Nat.reducePow] at h1
      omega

theorem get_oct (n k : Nat) (h1 : n < 18446744073709551616) (hk : need n ≤ k) (hr : ∀ x ∈ oct n k, 0 ≤ x ∧ x ≤ 255) : gval (oct n k) = n ∧ gerr (oct n k) = 0 := by
  have e : nv (oct n k) = n := by rw [nv_oct, Nat.mod_eq_of_lt ((need_le_iff k n).1 hk)]
  have h8 := dz_short (oct n k) hr (by rw [e]; exact h1)
  unfold gval gerr
  rw [if_neg (by omega), if_neg (by omega), e]
  exact ⟨rfl, rfl⟩

theorem worth_hexc (d : Int) (h0 : 0 ≤ d) (h1 : d ≤ 15) : worth (hexc d) = d := by
  unfold hexc worth
  by_cases h : d < 10
  · rw [if_pos h, if_pos (by omega)]; omega
  · rw [if_neg h, if_neg (by omega), if_pos (by omega)]; omega

theorem hexs_cons (x : Int) (l : List Int) : hexs (x :: l) = hexc (x / 16) :: hexc (x % 16) :: hexs l := by simp [hexs]

theorem hexs_get : ∀ (l : List Int) (i : Nat), i < l.length → (hexs l).getD (2 * i) 0 = hexc (l.getD i 0 / 16) ∧ (hexs l).getD (2 * i + 1) 0 = hexc (l.getD i 0 % 16)
  | [], i, h => by simp at h
  | x :: l, 0, _ => by rw [hexs_cons]; exact ⟨rfl, rfl⟩
  | x :: l, i + 1, h => by
    have := hexs_get l i (by simpa using h)
    rw [hexs_cons, show 2 * (i + 1) = 2 * i + 1 + 1 by omega]
    simpa using this

theorem unhex_hexs (l : List Int) (hr : ∀ x ∈ l, 0 ≤ x ∧ x ≤ 255) : uerr (hexs l) = 0 ∧ uout (hexs l) = l := by
  have hb : ∀ i, i < l.length → 0 ≤ l.getD i 0 ∧ l.getD i 0 ≤ 255 := fun i hi => hr _ (by simp [List.getD, List.getElem?_eq_getElem hi])
  have h1 : ∀ i, i < (hexs l).length → 0 ≤ worth ((hexs l).getD i 0) := fun i hi => by
    rw [hexs_length] at hi
    have := hb (i / 2) (by omega)
    have hg := hexs_get l (i / 2) (by omega)
    rcases Nat.mod_two_eq_zero_or_one i with c | c
    · rw [show 2 * (i / 2) = i by omega] at hg
      rw [hg.1, worth_hexc _ (by omega) (by omega)]; omega
    · rw [show 2 * (i / 2) + 1 = i by omega] at hg
      rw [hg.2, worth_hexc _ (by omega) (by omega)]; omega
  obtain ⟨e1, e2⟩ := uerr_ok h1 (by rw [hexs_length]; omega)
  refine ⟨e1, e2.trans ?_⟩
  rw [hexs_length, show 2 * l.length / 2 = l.length by omega]
  unfold pairs
  apply List.ext_getElem
  · simp
  · intro i h2 h3
    have hg := hexs_get l i h3
    have := hb i h3
    simp only [List.getElem_map, List.getElem_range]
    rw [hg.1, hg.2, worth_hexc _ (by omega) (by omega), worth_hexc _ (by omega) (by omega)]
    have e : l.getD i 0 = l[i] := by simp [List.getD, List.getElem?_eq_getElem h3]
    rw [e]; omega

theorem lets_str (L : List Int) (hr : ∀ x ∈ L, 0 ≤ x ∧ x ≤ 255) : lets (strOfNums L) = L := by
  unfold lets
  rw [strOfNums_data, List.map_map]
  conv => rhs; rw [← List.map_id L]
  apply List.map_congr_left
  intro x hx
  have := hr x hx
  simp only [Function.comp, UInt8.toNat_ofNat', id]
  omega

end Go.Proofs.Ytiinboedojjbkaa
