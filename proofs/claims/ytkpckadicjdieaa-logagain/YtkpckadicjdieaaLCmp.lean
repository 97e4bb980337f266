/-
  What the comparison of two kinds answers.
-/
import Derived.Test.YtkpckadicjdieaaAMath
import Derived.Test.YtkpckadicjdieaaRTake
namespace Go.Proofs.Ytkpckadicjdieaa
open Go.RowKit

set_option maxHeartbeats 400000 in
theorem nan_any (x : Int) (w : World) : Calls Try.prog 78 #[.int .i64 x] w fun e w' => e = .returned (.bool false) ∧ w = w' := by
  go_enter Try.func78, Try.ntmps78
  go_wp2
  go_ret
  exact ⟨by simp, rfl⟩

set_option maxHeartbeats 1000000 in
theorem compare_any (x y : Int) (w : World) : Calls Try.prog 54 #[.int .i64 x, .int .i64 y] w fun e w' => e = .returned (.int .i64 (cmpI x y)) ∧ w = w' := by
  have HN := nan_any
  by_cases h1 : x < y
  · rw [show cmpI x y = -1 from if_pos h1]
    go_enter Try.func54, Try.ntmps54
    go_wp2_with (go_at_call 78; refine (HN _ _).mono ?_; rintro e w1 ⟨rfl, rfl⟩)
    go_ret
    exact ⟨rfl, rfl⟩
  · by_cases h2 : y < x
    · rw [show cmpI x y = 1 by unfold cmpI; rw [if_neg h1, if_pos h2]]
      go_enter Try.func54, Try.ntmps54
      go_wp2_with (go_at_call 78; refine (HN _ _).mono ?_; rintro e w1 ⟨rfl, rfl⟩)
      go_ret
      exact ⟨rfl, rfl⟩
    · rw [show cmpI x y = 0 by unfold cmpI; rw [if_neg h1, if_neg h2]]
      go_enter Try.func54, Try.ntmps54
      go_wp2_with (go_at_call 78; refine (HN _ _).mono ?_; rintro e w1 ⟨rfl, rfl⟩)
      go_ret
      exact ⟨rfl, rfl⟩


set_option maxRecDepth 100000 in
set_option maxHeartbeats 1000000 in
theorem or_any (g : Nat) (x y : Int) (w : World) (hB : Box w g 3 #[.int .i64 x, .int .i64 y]) :
    Calls Try.prog 53 #[.slice (some ⟨g, 0, none⟩) 2 2] w fun e w' => e = .returned (.int .i64 (if x ≠ 0 then x else y)) ∧ w = w' := by
  obtain ⟨i0, hi0, _, hz, _⟩ := info_parts Try.info3
  obtain ⟨c0, c1, -⟩ := hB.two
  have hl := run_len Try.underlying138 (some ⟨g, 0, none⟩) 2 2
  have h0 : ∀ W, (Instr.indexAt 138 (.slice (some ⟨g, 0, none⟩) 2 2) (.int .i64 (0 : Nat))).run Try.prog W = .ok (.pointer (some ⟨g, 0, none⟩)) W := fun W => by simpa using run_index (size := 1) Try.underlying138 hi0 hz g 0 2 2 0 (by omega) W
  have h1 : ∀ W, (Instr.indexAt 138 (.slice (some ⟨g, 0, none⟩) 2 2) (.int .i64 (1 : Nat))).run Try.prog W = .ok (.pointer (some ⟨g, 1, none⟩)) W := fun W => by simpa using run_index (size := 1) Try.underlying138 hi0 hz g 0 2 2 1 (by omega) W
  have h0 : ∀ W, (Instr.indexAt 138 (.slice (some ⟨g, 0, none⟩) 2 2) (.int .i64 0)).run Try.prog W = .ok (.pointer (some ⟨g, 0, none⟩)) W := h0
  have h1 : ∀ W, (Instr.indexAt 138 (.slice (some ⟨g, 0, none⟩) 2 2) (.int .i64 1)).run Try.prog W = .ok (.pointer (some ⟨g, 1, none⟩)) W := h1
  clear hi0 hz hB
  by_cases hx : x = 0
  · subst hx
    by_cases hy : y = 0
    · subst hy
      go_enter Try.func53, Try.ntmps53
      go_wp2
      refine wp_loop_rounds 3 ?_
      rw [rounds_succ]
      go_wp2
      rw [rounds_succ]
      go_wp2
      rw [rounds_succ]
      go_wp2
      go_ret
      exact ⟨by simp, rfl⟩
    · have hyi : (y == 0) = false := by simp [hy]
      have e : (if (0 : Int) ≠ 0 then (0 : Int) else y) = y := by simp
      rw [e]
      clear e
      go_enter Try.func53, Try.ntmps53
      go_wp2
      refine wp_loop_rounds 2 ?_
      rw [rounds_succ]
      go_wp2
      rw [rounds_succ]
      go_wp2
      go_ret
      exact ⟨rfl, rfl⟩
  · have hxi : (x == 0) = false := by simp [hx]
    rw [if_pos hx]
    go_enter Try.func53, Try.ntmps53
    go_wp2
    refine wp_loop_rounds 1 ?_
    rw [rounds_succ]
    go_wp2
    go_ret
    exact ⟨rfl, rfl⟩

end Go.Proofs.Ytkpckadicjdieaa
