/-
  What Span tells, the program's and the document's.
-/
import Derived.Test.YtlfdalckhpgpiaaBlocks
namespace Go.Proofs.Ytlfdalckhpgpiaa
open Go.RowKit

theorem spn_low {o n : Int} (h : o < 0 ∨ n < 0) : spnF o n = 0 ∧ spnK o n = 0 ∧ spnE o n = 4 := by
  have e : spnE o n = 4 := if_pos h
  refine ⟨?_, ?_, e⟩
  · unfold spnF; rw [e]; rfl
  · unfold spnK; rw [e]; rfl
theorem spn_high {o n : Int} (h : 0 ≤ o ∧ 0 ≤ n) (h2 : 2432 < o + n) : spnF o n = 0 ∧ spnK o n = 0 ∧ spnE o n = 107 := by
  have e : spnE o n = 107 := by unfold spnE; rw [if_neg (by omega), if_pos h2]
  refine ⟨?_, ?_, e⟩
  · unfold spnF; rw [e]; rfl
  · unfold spnK; rw [e]; rfl
theorem spn_in {o n : Int} (h : 0 ≤ o ∧ 0 ≤ n) (h2 : o + n ≤ 2432) : spnF o n = o / 32 ∧ (n = 0 → spnK o n = 0) ∧ (n ≠ 0 → spnK o n = (o + n + 31) / 32 - o / 32) ∧ spnE o n = 0 := by
  have e : spnE o n = 0 := by unfold spnE; rw [if_neg (by omega), if_neg (by omega)]
  refine ⟨?_, fun hn => ?_, fun hn => ?_, e⟩
  · unfold spnF; rw [if_pos e]
  · unfold spnK; rw [if_pos e, if_pos hn]
  · unfold spnK; rw [if_pos e, if_neg hn]

set_option maxRecDepth 100000 in
set_option maxHeartbeats 1000000 in
theorem span_any : Spans 15 := by
  intro o n w ho hn
  unfold I64 at ho hn
  by_cases h0 : o < 0
  · obtain ⟨e1, e2, e3⟩ := spn_low (n := n) (.inl h0)
    rw [e1, e2, e3]
    go_enter Try.func15, Try.ntmps15
    go_wp2
    go_ret3
    exact ⟨rfl, rfl⟩
  by_cases h0' : n < 0
  · obtain ⟨e1, e2, e3⟩ := spn_low (o := o) (.inr h0')
    rw [e1, e2, e3]
    go_enter Try.func15, Try.ntmps15
    go_wp2
    go_ret3
    exact ⟨rfl, rfl⟩
  by_cases h1 : 2432 < o
  · obtain ⟨e1, e2, e3⟩ := spn_high (o := o) (n := n) (by omega) (by omega)
    rw [e1, e2, e3]
    go_enter Try.func15, Try.ntmps15
    go_wp2
    go_ret3
    exact ⟨rfl, rfl⟩
  by_cases h2 : 2432 - o < n
  · obtain ⟨e1, e2, e3⟩ := spn_high (o := o) (n := n) (by omega) (by omega)
    rw [e1, e2, e3]
    go_enter Try.func15, Try.ntmps15
    go_wp2
    go_ret3
    exact ⟨rfl, rfl⟩
  obtain ⟨e1, e2, e3, e4⟩ := spn_in (o := o) (n := n) (by omega) (by omega)
  rw [e1, e4]
  by_cases hn0 : n = 0
  · rw [e2 hn0]
    subst hn0
    clear e1 e2 e3 e4
    go_enter Try.func15, Try.ntmps15
    go_wp2
    go_ret3
    exact ⟨rfl, rfl⟩
  · rw [e3 hn0]
    have HP := parts_any (o + n) 32 w (by omega) (by omega)
    rw [show (o + n + 32 - 1) / 32 = (o + n + 31) / 32 by omega] at HP
    have hb : o / 32 ≤ (o + n + 31) / 32 ∧ 0 ≤ o / 32 ∧ (o + n + 31) / 32 ≤ 1000 := by omega
    obtain ⟨d, hd⟩ : ∃ d, d = (o + n + 31) / 32 := ⟨_, rfl⟩
    rw [← hd] at HP hb ⊢
    clear e1 e2 e3 e4 hd
    go_enter Try.func15, Try.ntmps15
    go_wp2_with fail
    refine HP.mono ?_
    rintro e w1 ⟨rfl, rfl⟩
    go_wp2
    go_ret3
    exact ⟨rfl, rfl⟩

set_option maxRecDepth 100000 in
set_option maxHeartbeats 1000000 in
theorem rspan_any : Spans 16 := by
  intro o n w ho hn
  unfold I64 at ho hn
  by_cases h0 : o < 0
  · obtain ⟨e1, e2, e3⟩ := spn_low (n := n) (.inl h0)
    rw [e1, e2, e3]
    go_enter Try.func16, Try.ntmps16
    go_wp2
    go_ret3
    exact ⟨rfl, rfl⟩
  by_cases h0' : n < 0
  · obtain ⟨e1, e2, e3⟩ := spn_low (o := o) (.inr h0')
    rw [e1, e2, e3]
    go_enter Try.func16, Try.ntmps16
    go_wp2
    go_ret3
    exact ⟨rfl, rfl⟩
  by_cases h1 : 2432 < o
  · obtain ⟨e1, e2, e3⟩ := spn_high (o := o) (n := n) (by omega) (by omega)
    rw [e1, e2, e3]
    go_enter Try.func16, Try.ntmps16
    go_wp2
    go_ret3
    exact ⟨rfl, rfl⟩
  by_cases h2 : 2432 - o < n
  · obtain ⟨e1, e2, e3⟩ := spn_high (o := o) (n := n) (by omega) (by omega)
    rw [e1, e2, e3]
    go_enter Try.func16, Try.ntmps16
    go_wp2
    go_ret3
    exact ⟨rfl, rfl⟩
  obtain ⟨e1, e2, e3, e4⟩ := spn_in (o := o) (n := n) (by omega) (by omega)
  rw [e1, e4]
  by_cases hn0 : n = 0
  · rw [e2 hn0]
    subst hn0
    clear e1 e2 e3 e4
    go_enter Try.func16, Try.ntmps16
    go_wp2
    go_ret3
    exact ⟨rfl, rfl⟩
  · rw [e3 hn0, show (o + n + 31) / 32 - o / 32 = (o + n - 1) / 32 - o / 32 + 1 by omega]
    have hb : o / 32 ≤ (o + n - 1) / 32 ∧ 0 ≤ o / 32 ∧ (o + n - 1) / 32 ≤ 1000 := by omega
    clear e1 e2 e3 e4
    go_enter Try.func16, Try.ntmps16
    go_wp2
    go_ret3
    exact ⟨rfl, rfl⟩

end Go.Proofs.Ytlfdalckhpgpiaa
