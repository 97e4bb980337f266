/-
  The statements' helpers of layer 16: num, alive; scores as mathematics.
-/
import Derived.Test.YtkpckadicjdieabXScore
namespace Go.Proofs.Ytkpckadicjdieab
open Go.RowKit

theorem num16_any (k : Int) (w : World) : Calls Try.prog 11 #[.int .i64 k] w fun e w' => e = .returned (.int .i64 k) ∧ w = w' := by
  go_enter Try.func11, Try.ntmps11
  go_wp2
  go_ret
  exact ⟨rfl, rfl⟩
theorem sc_example : scV 1 2 9 = 307 ∧ scE 1 2 9 = 0 := ⟨by kernel_rfl, by kernel_rfl⟩
set_option maxRecDepth 100000 in
theorem alive16_any (w : World) : Calls Try.prog 8 #[] w fun e w' => e = .returned (.bool true) ∧ w = w' := by
  have HC := score_any 1 2 9 w ⟨by decide, by decide⟩ ⟨by decide, by decide⟩ ⟨by decide, by decide⟩
  rw [sc_example.1, sc_example.2] at HC
  go_enter Try.func8, Try.ntmps8
  go_wp2_with fail
  refine HC.mono ?_
  rintro e9 w9 ⟨rfl, rfl⟩
  clear HC
  go_wp2_with (go_at_call 11; refine (num16_any _ _).mono ?_; rintro e9 wn ⟨rfl, rfl⟩)
  go_ret
  exact ⟨rfl, rfl⟩
theorem sc_less {q l n : Int} (h : scOk q l n) : scE q (max (l - 1) 0) n = 0 ∧ scV q l n ≤ scV q (max (l - 1) 0) n := by
  obtain ⟨h1, h2, h3, h4, h5, h6⟩ := h
  have k : scOk q (max (l - 1) 0) n := ⟨h1, h2, by omega, by omega, h5, h6⟩
  refine ⟨sc_yes2 k, ?_⟩
  rw [sc_yes k, sc_yes ⟨h1, h2, h3, h4, h5, h6⟩]
  have hl : l = 0 ∨ l = 1 ∨ l = 2 ∨ l = 3 ∨ l = 4 ∨ l = 5 ∨ l = 6 ∨ l = 7 ∨ l = 8 := by omega
  rcases hl with rfl | rfl | rfl | rfl | rfl | rfl | rfl | rfl | rfl
  · show 64 * (8 - 0) * (n - q) / (8 + 0) ≤ 64 * (8 - 0) * (n - q) / (8 + 0); omega
  · show 64 * (8 - 1) * (n - q) / (8 + 1) ≤ 64 * (8 - 0) * (n - q) / (8 + 0); omega
  · show 64 * (8 - 2) * (n - q) / (8 + 2) ≤ 64 * (8 - 1) * (n - q) / (8 + 1); omega
  · show 64 * (8 - 3) * (n - q) / (8 + 3) ≤ 64 * (8 - 2) * (n - q) / (8 + 2); omega
  · show 64 * (8 - 4) * (n - q) / (8 + 4) ≤ 64 * (8 - 3) * (n - q) / (8 + 3); omega
  · show 64 * (8 - 5) * (n - q) / (8 + 5) ≤ 64 * (8 - 4) * (n - q) / (8 + 4); omega
  · show 64 * (8 - 6) * (n - q) / (8 + 6) ≤ 64 * (8 - 5) * (n - q) / (8 + 5); omega
  · show 64 * (8 - 7) * (n - q) / (8 + 7) ≤ 64 * (8 - 6) * (n - q) / (8 + 6); omega
  · show 64 * (8 - 8) * (n - q) / (8 + 8) ≤ 64 * (8 - 7) * (n - q) / (8 + 7); omega
theorem sc_young {q l n : Int} (h : scOk q l n) : scE (min (q + 1) n) l n = 0 ∧ scV (min (q + 1) n) l n ≤ scV q l n := by
  obtain ⟨h1, h2, h3, h4, h5, h6⟩ := h
  have k : scOk (min (q + 1) n) l n := ⟨by omega, by omega, h3, h4, by omega, h6⟩
  refine ⟨sc_yes2 k, ?_⟩
  rw [sc_yes k, sc_yes ⟨h1, h2, h3, h4, h5, h6⟩]
  have hm : n - min (q + 1) n ≤ n - q := by omega
  generalize n - min (q + 1) n = d1 at hm ⊢
  generalize n - q = d2 at hm ⊢
  have hl : l = 0 ∨ l = 1 ∨ l = 2 ∨ l = 3 ∨ l = 4 ∨ l = 5 ∨ l = 6 ∨ l = 7 ∨ l = 8 := by omega
  rcases hl with rfl | rfl | rfl | rfl | rfl | rfl | rfl | rfl | rfl <;> omega
theorem sc_eight {q n : Int} : scV q 8 n = 0 := by
  unfold scV
  split
  · omega
  · rfl
theorem sc_bound {q l n : Int} : 0 ≤ scV q l n ∧ scV q l n ≤ 9223372036854775807 := by
  unfold scV
  split
  · rename_i h
    obtain ⟨h1, h2, h3, h4, h5, h6⟩ := scB_iff.1 h
    have hl : l = 0 ∨ l = 1 ∨ l = 2 ∨ l = 3 ∨ l = 4 ∨ l = 5 ∨ l = 6 ∨ l = 7 ∨ l = 8 := by omega
    rcases hl with rfl | rfl | rfl | rfl | rfl | rfl | rfl | rfl | rfl <;> omega
  · omega

end Go.Proofs.Ytkpckadicjdieab
