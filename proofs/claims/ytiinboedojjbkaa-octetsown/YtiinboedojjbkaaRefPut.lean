/-
  What the document's answer for Need and Put is, as contracts: the same numbers and octets as the program's, for every number and size; what was in memory stays.
-/
import Derived.Test.YtiinboedojjbkaaPutAll
namespace Go.Proofs.Ytiinboedojjbkaa
open Go.RowKit

set_option maxHeartbeats 400000 in
theorem rneed_any (x : Int) (w : World) (h0 : 0 ≤ x) (h1 : x ≤ 18446744073709551615) :
    Calls Try.prog 15 #[.int .u64 x] w fun e w' => e = .returned (.int .i64 (need x.toNat)) ∧ w = w' := by
  obtain ⟨n, rfl⟩ := Int.eq_ofNat_of_zero_le h0
  simp only [Int.toNat_natCast]
  have hn8 := need_le8 n (by omega)
  go_enter Try.func15, Try.ntmps15
  go_wp2
  go_loop [0, 3] (fun x k => ∃ j : Nat, j ≤ need n ∧ x = .int .u64 ((n / 256 ^ j : Nat) : Int) ∧ k = .int .i64 j) (fun x _ => (intOf x).toNat)
  case atStart => exact ⟨0, Nat.zero_le _, by simp, rfl⟩
  case round =>
    obtain ⟨j, hj, rfl, rfl⟩ := hrel
    have hst := div_step n j
    have hpos := need_of_pos n j
    have hdle : n / 256 ^ j ≤ n := Nat.div_le_self _ _
    have hend : n / 256 ^ j = 0 → need n ≤ j := fun h => (need_le_iff j n).2 (by
      rcases Nat.div_eq_zero_iff.1 h with h | h
      · have : 0 < 256 ^ j := Nat.pow_pos (by decide)
        omega
      · exact h)
    obtain ⟨m, hm⟩ : ∃ m, m = n / 256 ^ j := ⟨_, rfl⟩
    rw [← hm] at hst hpos hdle hend ⊢
    have HS : Hid (n / 256 ^ (j + 1) = m / 256) := hst
    clear hm hst
    by_cases hm0 : 0 < m
    · have hjn := hpos (by omega)
      clear hpos hend
      go_wp2
      go_round
      case rel => exact ⟨j + 1, by omega, by rw [HS.out]; rfl, by go_num⟩
      case measure => simp [intOf]; omega
    · have hje := hend (by omega)
      have e : j = need n := by omega
      subst e
      clear hpos hend hje
      go_wp2
      go_ret
      exact ⟨rfl, rfl⟩

set_option maxHeartbeats 1000000 in
theorem roct_any (n k : Nat) (w : World) (h1 : n < 18446744073709551616) (h3 : k ≤ 64) (h4 : need n ≤ k) :
    Calls Try.prog 26 #[.int .u64 n, .int .i64 k] w fun e w' => e = .returned (.slice (some ⟨w.heap.size, 0, none⟩) k k) ∧
      w'.ownsRow w.heap.size 5 1 (.slice (some ⟨w.heap.size, 0, none⟩) k k) k ((oct n k).map (Value.int .u8)) ∧ Below w.heap.size w w' := by
  obtain ⟨i0, hi, hz0, hz1, hz2⟩ := info_parts Try.info5
  go_enter Try.func26, Try.ntmps26
  go_wp2_with (at_make; refine wpList_make_full _ rfl _ _ 23 rfl w.heap.size 5 i0 (.int .u8 0) 1 Try.underlying23 hi hz0 hz1 _ _ _ _ k rfl rfl rfl rfl (by rw [hz2]; omega) (by unfold maxLen; omega) (Nat.le_refl _) ?_; intro w1 hown hgrow)
  have hown0 : w1.ownsRow w.heap.size 5 1 (.slice (some ⟨w.heap.size, 0, none⟩) k k) k ((part n k 0).map (Value.int .u8)) := by
    rw [part_zero, List.map_replicate]
    have := toList_madeCells_one (.int .u8 0) (k * 1)
    rw [Nat.mul_one] at this
    rw [← this]
    simpa [Value.cells] using hown
  have hb0 : Below w.heap.size w w1 := (Below.refl _ _).grown hgrow (Nat.le_refl _) (fun _ h => by cases h)
  clear hown hgrow
  go_loopw [0, 6] (fun x i wr => ∃ j : Nat, j ≤ k ∧ x = .int .u64 ((n / 256 ^ j : Nat) : Int) ∧ i = .int .i64 j ∧
      wr.ownsRow w.heap.size 5 1 (.slice (some ⟨w.heap.size, 0, none⟩) k k) k ((part n k j).map (Value.int .u8)) ∧ Below w.heap.size w wr) (fun _ i _ => k - (intOf i).toNat)
  case atStart => exact ⟨0, Nat.zero_le _, by simp, by simp, hown0, hb0⟩
  case round =>
    obtain ⟨j, hj, rfl, rfl, hown, hbel⟩ := hrel
    by_cases hjk : j < k
    · have hst := div_step n j
      have hset := part_set n k j hjk
      have hdle : n / 256 ^ j ≤ n := Nat.div_le_self _ _
      obtain ⟨m, hm⟩ : ∃ m, m = n / 256 ^ j := ⟨_, rfl⟩
      rw [← hm] at hst hset hdle ⊢
      obtain ⟨t, ht⟩ : ∃ t : Nat, t + 1 + j = k := ⟨k - 1 - j, by omega⟩
      have et : (k : Int) - 1 - j = (t : Int) := by omega
      have etk : k - 1 - j = t := by omega
      rw [etk] at hset
      have htk : (t : Int) < (k : Int) := by omega
      have hf := hown.frozenAt t
      have hc' : wr.cell? ⟨w.heap.size, t, none⟩ = some (.int .u8 ((part n k j).getD t 0)) := by
        rw [hown.cellAt t (by omega), List.getElem?_map, List.getElem?_eq_getElem (by simp; omega)]
        simp [List.getElem?_eq_getElem (show t < (part n k j).length by simp; omega)]
      have hS := hown.stored t (.int .u8 (m % 256))
      have HS : Hid (n / 256 ^ (j + 1) = m / 256) := hst
      have HL : Hid ((part n k j).set t ((m % 256 : Nat) : Int) = part n k (j + 1)) := hset
      clear ht etk hst hset hm
      go_wp2
      go_roundw
      case rel =>
        refine ⟨j + 1, by omega, by rw [HS.out]; rfl, by go_num, ?_, hbel.setCell (Nat.le_refl _) _⟩
        rw [← HL.out, List.map_set]
        exact hS.1
      case measure => simp [intOf]; omega
    · have e : j = k := by omega
      have hd := part_done n k j (Nat.div_eq_of_lt (by rw [e]; exact (need_le_iff k n).1 h4))
      rw [hd] at hown
      clear hd e
      go_wp2
      go_ret
      exact ⟨rfl, hown, hbel⟩

set_option maxHeartbeats 400000 in
theorem rput_range (n s : Int) (w : World) (h : s < 0 ∨ 64 < s) :
    Calls Try.prog 11 #[.int .u64 n, .int .i64 s] w fun e w' => e = .returned (.tuple #[.slice none 0 0, .int .i64 4]) ∧ w = w' := by
  rcases h with h | h
  · go_enter Try.func11, Try.ntmps11
    go_wp2
    go_ret2
    exact ⟨rfl, rfl⟩
  · have h' : ¬ s < 0 := by omega
    go_enter Try.func11, Try.ntmps11
    go_wp2
    go_ret2
    exact ⟨rfl, rfl⟩

set_option maxHeartbeats 400000 in
theorem rput_big (n s : Int) (w : World) (h0 : 0 ≤ n) (h1 : n ≤ 18446744073709551615) (h2 : 0 ≤ s) (h3 : s ≤ 64) (h4 : s < need n.toNat) :
    Calls Try.prog 11 #[.int .u64 n, .int .i64 s] w fun e w' => e = .returned (.tuple #[.slice none 0 0, .int .i64 107]) ∧ w = w' := by
  go_enter Try.func11, Try.ntmps11
  go_wp2_with (go_at_call 15; refine (rneed_any _ _ (by omega) (by omega)).mono ?_; rintro e w' ⟨rfl, rfl⟩)
  go_ret2
  exact ⟨rfl, rfl⟩

set_option maxHeartbeats 400000 in
theorem rput_ok (n k : Nat) (w : World) (h1 : n < 18446744073709551616) (h3 : k ≤ 64) (h4 : need n ≤ k) :
    Calls Try.prog 11 #[.int .u64 n, .int .i64 k] w fun e w' => e = .returned (.tuple #[.slice (some ⟨w.heap.size, 0, none⟩) k k, .int .i64 0]) ∧
      w'.ownsRow w.heap.size 5 1 (.slice (some ⟨w.heap.size, 0, none⟩) k k) k ((oct n k).map (Value.int .u8)) ∧ Below w.heap.size w w' := by
  have hlt : ¬ (k : Int) < (need n : Int) := by omega
  go_enter Try.func11, Try.ntmps11
  go_wp2_with (first
    | (go_at_call 15; refine (rneed_any _ _ (by omega) (by omega)).mono ?_; rintro e w' ⟨rfl, rfl⟩; simp only [Int.toNat_natCast])
    | (go_at_call 26; refine (roct_any n k _ h1 h3 h4).mono ?_; rintro e w2 ⟨rfl, hown, hbel⟩))
  go_ret2
  exact ⟨rfl, hown, hbel⟩

theorem rput_all (n s : Int) (w : World) (h0 : 0 ≤ n) (h1 : n ≤ 18446744073709551615) :
    Calls Try.prog 11 #[.int .u64 n, .int .i64 s] w fun e w' => ∃ a cap, e = .returned (.tuple #[.slice a (pout n s).length cap, .int .i64 (perr n s)]) ∧
      w'.ownsRow w.heap.size 5 1 (.slice a (pout n s).length cap) (pout n s).length ((pout n s).map (Value.int .u8)) ∧ Below w.heap.size w w' := by
  by_cases hr : s < 0 ∨ 64 < s
  · have e1 : perr n s = 4 := by unfold perr; rw [if_pos hr]
    have e2 : pout n s = [] := by unfold pout; rw [if_pos hr]
    rw [e1, e2]
    refine (rput_range n s w hr).mono ?_
    rintro e w' ⟨rfl, rfl⟩
    exact ⟨none, 0, rfl, World.ownsRow_nil _ _ _ _, Below.refl _ _⟩
  · by_cases hb : s < need n.toNat
    · have e1 : perr n s = 107 := by unfold perr; rw [if_neg hr, if_pos hb]
      have e2 : pout n s = [] := by unfold pout; rw [if_neg hr, if_pos hb]
      rw [e1, e2]
      refine (rput_big n s w h0 h1 (by omega) (by omega) hb).mono ?_
      rintro e w' ⟨rfl, rfl⟩
      exact ⟨none, 0, rfl, World.ownsRow_nil _ _ _ _, Below.refl _ _⟩
    · have e1 : perr n s = 0 := by unfold perr; rw [if_neg hr, if_neg hb]
      have e2 : pout n s = oct n.toNat s.toNat := by unfold pout; rw [if_neg hr, if_neg hb]
      rw [e1, e2, oct_length]
      have := rput_ok n.toNat s.toNat w (by omega) (by omega) (by omega)
      rw [Int.toNat_of_nonneg h0, Int.toNat_of_nonneg (by omega)] at this
      refine this.mono ?_
      rintro e w' ⟨rfl, hown, hbel⟩
      exact ⟨_, _, rfl, hown, hbel⟩

end Go.Proofs.Ytiinboedojjbkaa
