/-
  What Index tells: the block that a path leads to, or ErrRange.
-/
import Derived.Test.YtlfdalckhpgpiaaSmall
namespace Go.Proofs.Ytlfdalckhpgpiaa
open Go.RowKit

/-- What a call that tells a path's index answers. -/
def Indexes (f : FuncId) : Prop := ∀ (n0 : Nat) (v : Value) (l : List Int) (w : World), intsS.lies n0 w [v] l → Calls Try.prog f #[v] w fun e w' => e = .returned (.tuple #[.int .i64 (idxV l), .int .i64 (idxE l)]) ∧ Below w.heap.size w w'

theorem idx_some {l : List Int} {x : Int} (h : idx l = some x) : idxV l = x ∧ idxE l = 0 := ⟨by simp [idxV, h], by simp [idxE, h]⟩
theorem idx_none {l : List Int} (h : idx l = none) : idxV l = 0 ∧ idxE l = 4 := ⟨by simp [idxV, h], by simp [idxE, h]⟩

set_option maxRecDepth 100000 in
set_option maxHeartbeats 1000000 in
theorem index_long (n0 : Nat) (v : Value) (l : List Int) (w : World) (h : intsS.lies n0 w [v] l) (h1 : l.length ≠ 1) (h2 : l.length ≠ 2) (h3 : l.length ≠ 3) : Calls Try.prog 11 #[v] w fun e w' => e = .returned (.tuple #[.int .i64 0, .int .i64 4]) ∧ Below w.heap.size w w' := by
  obtain ⟨a, c, rfl, hm⟩ := ints_shape h
  unfold maxLen at hm
  have hl := run_len Try.underlying22 a l.length c
  obtain ⟨n, hn⟩ : ∃ n, n = l.length := ⟨_, rfl⟩
  rw [← hn] at hl h1 h2 h3 ⊢
  have g1 : ¬ (n : Int) = 1 := by omega
  have g2 : ¬ (n : Int) = 2 := by omega
  have g3 : ¬ (n : Int) = 3 := by omega
  clear h hn h1 h2 h3
  go_enter Try.func11, Try.ntmps11
  go_wp2
  go_ret2
  exact ⟨rfl, Below.refl _ _⟩

set_option maxRecDepth 100000 in
set_option maxHeartbeats 1000000 in
theorem index_one (n0 : Nat) (v : Value) (a : Int) (w : World) (h : intsS.lies n0 w [v] [a]) : Calls Try.prog 11 #[v] w fun e w' => e = .returned (.tuple #[.int .i64 (idxV [a]), .int .i64 (idxE [a])]) ∧ Below w.heap.size w w' := by
  obtain ⟨b, o, hix, g0, _⟩ := ints_at h 0 a rfl
  have hix : ∀ W, (Instr.indexAt 22 v (.int .i64 0)).run Try.prog W = .ok (.pointer (some ⟨b, o, none⟩)) W := hix
  obtain ⟨ad, c, rfl, _⟩ := ints_shape h
  have hl := run_len Try.underlying22 ad 1 c
  have HW := within_any a 4 w
  clear h
  simp only [List.length_cons, List.length_nil, Nat.zero_add] at hix ⊢
  by_cases ha : 0 ≤ a ∧ a < 4
  · have hi : idx [a] = some a := by simp [idx, ha]
    rw [(idx_some hi).1, (idx_some hi).2]
    rw [decide_eq_true ha] at HW
    go_enter Try.func11, Try.ntmps11
    go_wp2_with fail
    refine HW.mono ?_
    rintro e w1 ⟨rfl, rfl⟩
    go_wp2
    go_ret2
    exact ⟨rfl, Below.refl _ _⟩
  · have hi : idx [a] = none := by simp [idx]; omega
    rw [(idx_none hi).1, (idx_none hi).2]
    rw [decide_eq_false ha] at HW
    go_enter Try.func11, Try.ntmps11
    go_wp2_with fail
    refine HW.mono ?_
    rintro e w1 ⟨rfl, rfl⟩
    go_wp2
    go_ret2
    exact ⟨rfl, Below.refl _ _⟩

set_option maxRecDepth 100000 in
set_option maxHeartbeats 1000000 in
theorem index_two (n0 : Nat) (v : Value) (a b : Int) (w : World) (h : intsS.lies n0 w [v] [a, b]) : Calls Try.prog 11 #[v] w fun e w' => e = .returned (.tuple #[.int .i64 (idxV [a, b]), .int .i64 (idxE [a, b])]) ∧ Below w.heap.size w w' := by
  obtain ⟨b0, o0, hix0, g0, _⟩ := ints_at h 0 a rfl
  obtain ⟨b1, o1, hix1, g1, hb⟩ := ints_at h 1 b rfl
  have hix0 : ∀ W, (Instr.indexAt 22 v (.int .i64 0)).run Try.prog W = .ok (.pointer (some ⟨b0, o0, none⟩)) W := hix0
  have hix1 : ∀ W, (Instr.indexAt 22 v (.int .i64 1)).run Try.prog W = .ok (.pointer (some ⟨b1, o1, none⟩)) W := hix1
  obtain ⟨ad, c, rfl, _⟩ := ints_shape h
  have hl := run_len Try.underlying22 ad 2 c
  have HW := within_any b 8 w
  unfold I64 at hb
  clear h
  simp only [List.length_cons, List.length_nil, Nat.zero_add, Nat.reduceAdd] at hix0 hix1 ⊢
  by_cases ha : a = 4
  · by_cases hb8 : 0 ≤ b ∧ b < 8
    · have hi : idx [a, b] = some (4 + b) := by simp [idx, ha, hb8]
      rw [(idx_some hi).1, (idx_some hi).2]
      rw [decide_eq_true hb8] at HW
      go_enter Try.func11, Try.ntmps11
      go_wp2_with fail
      refine HW.mono ?_
      rintro e w1 ⟨rfl, rfl⟩
      go_wp2
      go_ret2
      exact ⟨rfl, Below.refl _ _⟩
    · have hi : idx [a, b] = none := by simp [idx]; omega
      rw [(idx_none hi).1, (idx_none hi).2]
      rw [decide_eq_false hb8] at HW
      go_enter Try.func11, Try.ntmps11
      go_wp2_with fail
      refine HW.mono ?_
      rintro e w1 ⟨rfl, rfl⟩
      go_wp2
      go_ret2
      exact ⟨rfl, Below.refl _ _⟩
  · have hi : idx [a, b] = none := by simp [idx]; omega
    rw [(idx_none hi).1, (idx_none hi).2]
    clear HW
    go_enter Try.func11, Try.ntmps11
    go_wp2
    go_ret2
    exact ⟨rfl, Below.refl _ _⟩

set_option maxRecDepth 100000 in
set_option maxHeartbeats 1000000 in
theorem index_three (n0 : Nat) (v : Value) (a b d : Int) (w : World) (h : intsS.lies n0 w [v] [a, b, d]) : Calls Try.prog 11 #[v] w fun e w' => e = .returned (.tuple #[.int .i64 (idxV [a, b, d]), .int .i64 (idxE [a, b, d])]) ∧ Below w.heap.size w w' := by
  obtain ⟨b0, o0, hix0, g0, _⟩ := ints_at h 0 a rfl
  obtain ⟨b1, o1, hix1, g1, hb⟩ := ints_at h 1 b rfl
  obtain ⟨b2, o2, hix2, g2, hd⟩ := ints_at h 2 d rfl
  have hix0 : ∀ W, (Instr.indexAt 22 v (.int .i64 0)).run Try.prog W = .ok (.pointer (some ⟨b0, o0, none⟩)) W := hix0
  have hix1 : ∀ W, (Instr.indexAt 22 v (.int .i64 1)).run Try.prog W = .ok (.pointer (some ⟨b1, o1, none⟩)) W := hix1
  have hix2 : ∀ W, (Instr.indexAt 22 v (.int .i64 2)).run Try.prog W = .ok (.pointer (some ⟨b2, o2, none⟩)) W := hix2
  obtain ⟨ad, c, rfl, _⟩ := ints_shape h
  have hl := run_len Try.underlying22 ad 3 c
  have HW1 := within_any b 8 w
  have HW2 := within_any d 8 w
  unfold I64 at hb hd
  clear h
  simp only [List.length_cons, List.length_nil, Nat.zero_add, Nat.reduceAdd] at hix0 hix1 hix2 ⊢
  by_cases ha : a = 5
  · by_cases hb8 : 0 ≤ b ∧ b < 8
    · rw [decide_eq_true hb8] at HW1
      by_cases hd8 : 0 ≤ d ∧ d < 8
      · have hi : idx [a, b, d] = some (12 + b * 8 + d) := by simp [idx, ha, hb8, hd8]
        rw [(idx_some hi).1, (idx_some hi).2]
        rw [decide_eq_true hd8] at HW2
        obtain ⟨hb0, hb7⟩ := hb8
        obtain ⟨hd0, hd7⟩ := hd8
        clear hi
        go_enter Try.func11, Try.ntmps11
        go_wp2_with fail
        refine HW1.mono ?_
        rintro e w1 ⟨rfl, rfl⟩
        go_wp2_with fail
        refine HW2.mono ?_
        rintro e w1 ⟨rfl, rfl⟩
        go_wp2
        go_quiet (fail)
        go_wp2
        go_ret2
        exact ⟨rfl, below_drewN (Below.refl _ _) _⟩
      · have hi : idx [a, b, d] = none := by simp [idx]; omega
        rw [(idx_none hi).1, (idx_none hi).2]
        rw [decide_eq_false hd8] at HW2
        go_enter Try.func11, Try.ntmps11
        go_wp2_with fail
        refine HW1.mono ?_
        rintro e w1 ⟨rfl, rfl⟩
        go_wp2_with fail
        refine HW2.mono ?_
        rintro e w1 ⟨rfl, rfl⟩
        go_wp2
        go_ret2
        exact ⟨rfl, Below.refl _ _⟩
    · have hi : idx [a, b, d] = none := by simp [idx]; omega
      rw [(idx_none hi).1, (idx_none hi).2]
      rw [decide_eq_false hb8] at HW1
      clear HW2
      go_enter Try.func11, Try.ntmps11
      go_wp2_with fail
      refine HW1.mono ?_
      rintro e w1 ⟨rfl, rfl⟩
      go_wp2
      go_ret2
      exact ⟨rfl, Below.refl _ _⟩
  · have hi : idx [a, b, d] = none := by simp [idx]; omega
    rw [(idx_none hi).1, (idx_none hi).2]
    clear HW1 HW2
    go_enter Try.func11, Try.ntmps11
    go_wp2
    go_ret2
    exact ⟨rfl, Below.refl _ _⟩

theorem index_any : Indexes 11 := by
  intro n0 v l w h
  match l, h with
  | [], h => exact index_long n0 v [] w h (by simp) (by simp) (by simp)
  | [a], h => exact index_one n0 v a w h
  | [a, b], h => exact index_two n0 v a b w h
  | [a, b, d], h => exact index_three n0 v a b d w h
  | a :: b :: c :: d :: r, h => exact index_long n0 v _ w h (by simp) (by simp) (by simp)

end Go.Proofs.Ytlfdalckhpgpiaa
