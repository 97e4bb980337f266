/-
  What Path tells, the program's and the document's: the places of the way to a block, in memory of their own.
-/
import Derived.Test.YtlfdalckhpgpiaaSmall
namespace Go.Proofs.Ytlfdalckhpgpiaa
open Go.RowKit

/-- What a call that tells a path answers. -/
def Paths (f : FuncId) : Prop := ∀ (x : Int) (w : World), I64 x → Calls Try.prog f #[.int .i64 x] w fun e w' => (∃ a c, e = .returned (.tuple #[.slice a (pathL x).length c, .int .i64 (pathE x)]) ∧ intsS.owns w.heap.size w' [.slice a (pathL x).length c] (pathL x)) ∧ Below w.heap.size w w'

theorem lit1 (w : World) (x : Int) (hx : I64 x) : intsS.owns w.heap.size (w.alloc (.cells #[.int .i64 x] 3)) [.slice (some ⟨w.heap.size, 0, none⟩) 1 1] [x] := ints_lit w [x] _ (Nat.le_refl _) (by unfold maxLen; simp) (by simpa using hx)
theorem lit2 (w : World) (x y : Int) (hx : I64 x) (hy : I64 y) : intsS.owns w.heap.size (w.alloc (.cells #[.int .i64 x, .int .i64 y] 3)) [.slice (some ⟨w.heap.size, 0, none⟩) 2 2] [x, y] := ints_lit w [x, y] _ (Nat.le_refl _) (by unfold maxLen; simp) (by simp [hx, hy])
theorem lit3 (w : World) (x y z : Int) (hx : I64 x) (hy : I64 y) (hz : I64 z) : intsS.owns w.heap.size (w.alloc (.cells #[.int .i64 x, .int .i64 y, .int .i64 z] 3)) [.slice (some ⟨w.heap.size, 0, none⟩) 3 3] [x, y, z] := ints_lit w [x, y, z] _ (Nat.le_refl _) (by unfold maxLen; simp) (by simp [hx, hy, hz])

set_option maxRecDepth 100000 in
set_option maxHeartbeats 1000000 in
theorem path_any : Paths 9 := by
  intro x w hx
  unfold I64 at hx
  have HW := within_any x 76 w
  by_cases h0 : 0 ≤ x ∧ x < 76
  · rw [decide_eq_true h0] at HW
    have e0 : pathE x = 0 := if_pos h0
    obtain ⟨h1, h2⟩ := h0
    by_cases h4 : x < 4
    · have e1 : pathL x = [x] := by unfold pathL; rw [if_pos ⟨h1, h2⟩, if_pos h4]
      rw [e0, e1]
      go_enter Try.func9, Try.ntmps9
      go_wp2_with fail
      refine HW.mono ?_
      rintro e w1 ⟨rfl, rfl⟩
      go_wp2
      go_ret2
      exact ⟨⟨_, _, rfl, lit1 w x hx⟩, (Below.refl _ w).alloc (Nat.le_refl _) _⟩
    · by_cases h12 : x < 12
      · have e1 : pathL x = [4, x - 4] := by unfold pathL; rw [if_pos ⟨h1, h2⟩, if_neg h4, if_pos h12]
        rw [e0, e1]
        go_enter Try.func9, Try.ntmps9
        go_wp2_with fail
        refine HW.mono ?_
        rintro e w1 ⟨rfl, rfl⟩
        go_wp2
        go_ret2
        exact ⟨⟨_, _, rfl, lit2 w 4 (x - 4) (by unfold I64; omega) (by unfold I64; omega)⟩, (Below.refl _ w).alloc (Nat.le_refl _) _⟩
      · have e1 : pathL x = [5, (x - 12) / 8, (x - 12) % 8] := by unfold pathL; rw [if_pos ⟨h1, h2⟩, if_neg h4, if_neg h12]
        rw [e0, e1]
        go_enter Try.func9, Try.ntmps9
        go_wp2_with fail
        refine HW.mono ?_
        rintro e w1 ⟨rfl, rfl⟩
        go_wp2
        go_ret2
        exact ⟨⟨_, _, rfl, lit3 w 5 ((x - 12) / 8) ((x - 12) % 8) (by unfold I64; omega) (by unfold I64; omega) (by unfold I64; omega)⟩, (Below.refl _ w).alloc (Nat.le_refl _) _⟩
  · rw [decide_eq_false h0] at HW
    have e0 : pathE x = 4 := if_neg h0
    have e1 : pathL x = [] := if_neg h0
    rw [e0, e1]
    go_enter Try.func9, Try.ntmps9
    go_wp2_with fail
    refine HW.mono ?_
    rintro e w1 ⟨rfl, rfl⟩
    go_wp2
    go_ret2
    exact ⟨⟨_, _, rfl, ints_nil _ _⟩, Below.refl _ _⟩

set_option maxRecDepth 100000 in
set_option maxHeartbeats 1000000 in
theorem rpath_any : Paths 10 := by
  intro x w hx
  unfold I64 at hx
  by_cases h0 : 0 ≤ x ∧ x < 76
  · have e0 : pathE x = 0 := if_pos h0
    obtain ⟨h1, h2⟩ := h0
    have hn1 : ¬ x < 0 := by omega
    have hn2 : ¬ 76 ≤ x := by omega
    by_cases h4 : x < 4
    · have e1 : pathL x = [x] := by unfold pathL; rw [if_pos ⟨h1, h2⟩, if_pos h4]
      rw [e0, e1]
      go_enter Try.func10, Try.ntmps10
      go_wp2
      go_ret2
      exact ⟨⟨_, _, rfl, lit1 w x hx⟩, (Below.refl _ w).alloc (Nat.le_refl _) _⟩
    · by_cases h12 : x < 12
      · have e1 : pathL x = [4, x - 4] := by unfold pathL; rw [if_pos ⟨h1, h2⟩, if_neg h4, if_pos h12]
        rw [e0, e1]
        go_enter Try.func10, Try.ntmps10
        go_wp2
        go_ret2
        exact ⟨⟨_, _, rfl, lit2 w 4 (x - 4) (by unfold I64; omega) (by unfold I64; omega)⟩, (Below.refl _ w).alloc (Nat.le_refl _) _⟩
      · have e1 : pathL x = [5, (x - 12) / 8, (x - 12) % 8] := by unfold pathL; rw [if_pos ⟨h1, h2⟩, if_neg h4, if_neg h12]
        have e2 : x - 12 = x - 4 - 8 := by omega
        rw [e0, e1, e2]
        go_enter Try.func10, Try.ntmps10
        go_wp2
        go_ret2
        exact ⟨⟨_, _, rfl, lit3 w 5 ((x - 4 - 8) / 8) ((x - 4) % 8) (by unfold I64; omega) (by unfold I64; omega) (by unfold I64; omega)⟩, (Below.refl _ w).alloc (Nat.le_refl _) _⟩
  · have e0 : pathE x = 4 := if_neg h0
    have e1 : pathL x = [] := if_neg h0
    rw [e0, e1]
    by_cases hn : x < 0
    · go_enter Try.func10, Try.ntmps10
      go_wp2
      go_ret2
      exact ⟨⟨_, _, rfl, ints_nil _ _⟩, Below.refl _ _⟩
    · have hn2 : 76 ≤ x := by omega
      go_enter Try.func10, Try.ntmps10
      go_wp2
      go_ret2
      exact ⟨⟨_, _, rfl, ints_nil _ _⟩, Below.refl _ _⟩

end Go.Proofs.Ytlfdalckhpgpiaa
