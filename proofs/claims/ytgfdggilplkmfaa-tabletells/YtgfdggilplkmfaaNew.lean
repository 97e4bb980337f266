/-
  What New answers, the program's and the document's.
-/
import Derived.Test.YtgfdggilplkmfaaOps
namespace Go.Proofs.Ytgfdggilplkmfaa
open Go.RowKit

theorem made_slots (k : Nat) : (madeCells (Value.agg #[.int .i64 0, .int .i64 0]).cells (k * 2)).toList = evs (List.replicate k (0, 0)) := by
  induction k with
  | zero => simp [madeCells, evs]
  | succ k ih =>
    rw [List.replicate_succ', evs_append, ← ih]
    apply List.ext_getElem?
    intro j
    rw [Nat.succ_mul]
    by_cases h : j < k * 2
    · rw [List.getElem?_append_left (by simp [madeCells]; omega)]
      simp [madeCells, h, show j < k * 2 + 2 by omega]
    · rw [List.getElem?_append_right (by simp [madeCells]; omega)]
      by_cases e0 : j = k * 2
      · subst e0
        simp [madeCells, evs, ev, Value.cells]
      · by_cases e1 : j = k * 2 + 1
        · subst e1
          simp [madeCells, evs, ev, Value.cells]
        · rw [List.getElem?_eq_none (by simp [madeCells]; omega), List.getElem?_eq_none (by simp [madeCells, evs, ev]; omega)]

set_option maxRecDepth 100000 in
set_option maxHeartbeats 2000000 in
theorem new_any (n : Int) (w : World) :
    Calls Try.prog 16 #[.int .i64 n] w (Gives 57 w (nV n) fun v => .tuple #[v, .int .i64 (nE n)]) := by
  obtain ⟨i0, hi, hz0, hz1, hz2⟩ := info_parts Try.info57
  obtain ⟨post, hpost⟩ : ∃ post : Ending → World → Prop, post = Gives 57 w (nV n) fun v => .tuple #[v, .int .i64 (nE n)] := ⟨_, rfl⟩
  have HNO : Hid (n < 1 ∨ 64 < n → post (.returned (.tuple #[.slice none 0 0, .int .i64 4])) w) := fun h => by
    rw [hpost]
    refine ⟨⟨.slice none 0 0, by rw [nE, if_pos h], ?_⟩, Below.refl _ _⟩
    rw [nV, if_pos h]
    exact OwnE.nil _ _ _
  have HOK : Hid (∀ v' w', ¬ (n < 1 ∨ 64 < n) → OwnE 57 w.heap.size w' v' (List.replicate n.toNat (0, 0)) → Below w.heap.size w w' → post (.returned (.tuple #[v', .int .i64 0])) w') := fun v' w' h h2 h3 => by
    rw [hpost]
    refine ⟨⟨v', by rw [nE, if_neg h], ?_⟩, h3⟩
    rw [nV, if_neg h]
    exact h2
  rw [← hpost]
  clear hpost
  by_cases h1 : n < 1
  · go_enter Try.func16, Try.ntmps16
    go_wp2
    exact HNO.out (.inl h1)
  by_cases h2 : 64 < n
  · go_enter Try.func16, Try.ntmps16
    go_wp2
    exact HNO.out (.inr h2)
  obtain ⟨k, rfl⟩ : ∃ k : Nat, n = k := ⟨n.toNat, by omega⟩
  obtain ⟨W, hmk, hown, hgr⟩ := run_make_full w w.heap.size 23 57 i0 _ 2 Try.underlying23 hi hz0 hz1 .i64 .i64 k (by rw [hz2]; omega) (by unfold maxLen; omega) (Nat.le_refl _)
  have HE : Hid (OwnE 57 w.heap.size W (.slice (some ⟨w.heap.size, 0, none⟩) k k) (List.replicate (k : Int).toNat (0, 0)) ∧ Below w.heap.size w W) := by
    refine ⟨⟨?_, ?_⟩, (Below.refl _ w).grown hgr (Nat.le_refl _) (fun _ h => by cases h)⟩
    · rw [made_slots] at hown
      simpa using hown
    · intro p hp
      rw [(List.mem_replicate.1 hp).2]
      exact ⟨⟨by simp, by simp⟩, ⟨by simp, by simp⟩⟩
  clear hown hgr
  go_enter Try.func16, Try.ntmps16
  go_wp2
  exact HOK.out _ _ (by omega) HE.out.1 HE.out.2

set_option maxRecDepth 100000 in
set_option maxHeartbeats 2000000 in
theorem rnew_any (n : Int) (w : World) :
    Calls Try.prog 17 #[.int .i64 n] w (Gives 55 w (nV n) fun v => .tuple #[v, .int .i64 (nE n)]) := by
  obtain ⟨i0, hi, hz0, hz1, hz2⟩ := info_parts Try.info55
  obtain ⟨post, hpost⟩ : ∃ post : Ending → World → Prop, post = Gives 55 w (nV n) fun v => .tuple #[v, .int .i64 (nE n)] := ⟨_, rfl⟩
  have HNO : Hid (n < 1 ∨ 64 < n → post (.returned (.tuple #[.slice none 0 0, .int .i64 4])) w) := fun h => by
    rw [hpost]
    refine ⟨⟨.slice none 0 0, by rw [nE, if_pos h], ?_⟩, Below.refl _ _⟩
    rw [nV, if_pos h]
    exact OwnE.nil _ _ _
  have HOK : Hid (∀ v' w', ¬ (n < 1 ∨ 64 < n) → OwnE 55 w.heap.size w' v' (List.replicate n.toNat (0, 0)) → Below w.heap.size w w' → post (.returned (.tuple #[v', .int .i64 0])) w') := fun v' w' h h2 h3 => by
    rw [hpost]
    refine ⟨⟨v', by rw [nE, if_neg h], ?_⟩, h3⟩
    rw [nV, if_neg h]
    exact h2
  rw [← hpost]
  clear hpost
  by_cases h1 : n < 1
  · go_enter Try.func17, Try.ntmps17
    go_wp2
    exact HNO.out (.inl h1)
  by_cases h2 : 64 < n
  · go_enter Try.func17, Try.ntmps17
    go_wp2
    exact HNO.out (.inr h2)
  obtain ⟨k, rfl⟩ : ∃ k : Nat, n = k := ⟨n.toNat, by omega⟩
  obtain ⟨W, hmk, hown, hgr⟩ := run_make_full w w.heap.size 22 55 i0 _ 2 Try.underlying22 hi hz0 hz1 .i64 .i64 k (by rw [hz2]; omega) (by unfold maxLen; omega) (Nat.le_refl _)
  have HE : Hid (OwnE 55 w.heap.size W (.slice (some ⟨w.heap.size, 0, none⟩) k k) (List.replicate (k : Int).toNat (0, 0)) ∧ Below w.heap.size w W) := by
    refine ⟨⟨?_, ?_⟩, (Below.refl _ w).grown hgr (Nat.le_refl _) (fun _ h => by cases h)⟩
    · rw [made_slots] at hown
      simpa using hown
    · intro p hp
      rw [(List.mem_replicate.1 hp).2]
      exact ⟨⟨by simp, by simp⟩, ⟨by simp, by simp⟩⟩
  clear hown hgr
  go_enter Try.func17, Try.ntmps17
  go_wp2
  exact HOK.out _ _ (by omega) HE.out.1 HE.out.2

end Go.Proofs.Ytgfdggilplkmfaa
