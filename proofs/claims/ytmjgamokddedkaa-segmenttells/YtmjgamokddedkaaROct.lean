/-
  The document's octets of a number, and the number of octets.
-/
import Derived.Test.YtmjgamokddedkaaOGet
namespace Go.Proofs.Ytmjgamokddedkaa.O
open Go.RowKit

set_option maxHeartbeats 1000000 in
theorem roct_any (n k : Nat) (w : World) (h1 : n < 18446744073709551616) (h3 : k ≤ 64) (h4 : need n ≤ k) :
    Calls Try.prog 30 #[.int .u64 n, .int .i64 k] w fun e w' => e = .returned (.slice (some ⟨w.heap.size, 0, none⟩) k k) ∧
      w'.ownsRow w.heap.size 5 1 (.slice (some ⟨w.heap.size, 0, none⟩) k k) k ((oct n k).map (Value.int .u8)) ∧ Below w.heap.size w w' := by
  obtain ⟨i0, hi, hz0, hz1, hz2⟩ := info_parts Try.info5
  go_enter Try.func30, Try.ntmps30
  go_wp2_with (at_make; refine wpList_make_full _ rfl _ _ 25 rfl w.heap.size 5 i0 (.int .u8 0) 1 Try.underlying25 hi hz0 hz1 _ _ _ _ k rfl rfl rfl rfl (by rw [hz2]; omega) (by unfold maxLen; omega) (Nat.le_refl _) ?_; intro w1 hown hgrow)
  have hown0 : w1.ownsRow w.heap.size 5 1 (.slice (some ⟨w.heap.size, 0, none⟩) k k) k ((part n k 0).map (Value.int .u8)) := by
    rw [part_zero, List.map_replicate]
    have := toList_madeCells_one (.int .u8 0) (k * 1)
    rw [Nat.mul_one] at this
    rw [← this]
    simpa [Value.cells] using hown
  have hb0 : Below w.heap.size w w1 := (Below.refl _ _).grown hgrow (Nat.le_refl _) (fun _ h => by cases h)
  clear hown hgrow
  go_loopw [0, 6] (fun x i wr => ∃ j : Nat, j ≤ k ∧ x = .int .u64 ((n / 256 ^ j : Nat) : Int) ∧ i = .int .i64 j ∧
      wr.ownsRow w.heap.size 5 1 (.slice (some ⟨w.heap.size, 0, none⟩) k k) k ((part n k j).map (Value.int .u8)) ∧ Below w.heap.size w wr) (fun _ i _ => k - (intOf i).toNat)
  case atStart => exact ⟨0, Nat.zero_le _, by simp, by simp, hown0, hb0⟩
  case round =>
    obtain ⟨j, hj, rfl, rfl, hown, hbel⟩ := hrel
    by_cases hjk : j < k
    · have hst := div_step n j
      have hset := part_set n k j hjk
      have hdle : n / 256 ^ j ≤ n := Nat.div_le_self _ _
      obtain ⟨m, hm⟩ : ∃ m, m = n / 256 ^ j := ⟨_, rfl⟩
      rw [← hm] at hst hset hdle ⊢
      obtain ⟨t, ht⟩ : ∃ t : Nat, t + 1 + j = k := ⟨k - 1 - j, by omega⟩
      have et : (k : Int) - 1 - j = (t : Int) := by omega
      have etk : k - 1 - j = t := by omega
      rw [etk] at hset
      have htk : (t : Int) < (k : Int) := by omega
      have hf := hown.frozenAt t
      have hc' : wr.cell? ⟨w.heap.size, t, none⟩ = some (.int .u8 ((part n k j).getD t 0)) := by
        rw [hown.cellAt t (by omega), List.getElem?_map, List.getElem?_eq_getElem (by simp; omega)]
        simp [List.getElem?_eq_getElem (show t < (part n k j).length by simp; omega)]
      have hS := hown.stored t (.int .u8 (m % 256))
      have HS : Hid (n / 256 ^ (j + 1) = m / 256) := hst
      have HL : Hid ((part n k j).set t ((m % 256 : Nat) : Int) = part n k (j + 1)) := hset
      clear ht etk hst hset hm
      go_wp2
      go_roundw
      case rel =>
        refine ⟨j + 1, by omega, by rw [HS.out]; rfl, by go_num, ?_, hbel.setCell (Nat.le_refl _) _⟩
        rw [← HL.out, List.map_set]
        exact hS.1
      case measure => simp [intOf]; omega
    · have e : j = k := by omega
      have hd := part_done n k j (Nat.div_eq_of_lt (by rw [e]; exact (need_le_iff k n).1 h4))
      rw [hd] at hown
      clear hd e
      go_wp2
      go_ret
      exact ⟨rfl, hown, hbel⟩

set_option maxHeartbeats 400000 in
theorem num_none (a : Option Addr) (cap : Nat) (w : World) :
    Calls Try.prog 37 #[.slice a 0 cap] w fun e w' => e = .returned (.int .u64 0) ∧ w = w' := by
  go_enter Try.func37, Try.ntmps37
  go_wp2
  refine wp_loop_rounds 1 ?_
  rw [rounds_succ]
  go_wp2
  go_ret
  exact ⟨rfl, rfl⟩

set_option maxHeartbeats 1000000 in
theorem num_some (b off n cap : Nat) (l : List Int) (hl : l.length = n) (w : World) (hm : n ≤ maxLen) (hc : At w b off l) (hr : ∀ x ∈ l, 0 ≤ x ∧ x ≤ 255) (h8 : (dz l).length ≤ 8) :
    Calls Try.prog 37 #[.slice (some ⟨b, off, none⟩) n cap] w fun e w' => e = .returned (.int .u64 (nv l)) ∧ w = w' := by
  unfold maxLen at hm
  have hsm := nv_small l hr h8
  have HL : Hid (l.length = n) := hl
  have HC : Hid (At w b off l) := hc
  have HR : Hid (∀ x ∈ l, 0 ≤ x ∧ x ≤ 255) := hr
  clear hl hc hr h8
  go_enter Try.func37, Try.ntmps37
  go_wp2
  go_loop [3, 4] (fun x i => ∃ j : Nat, j ≤ n ∧ i = .int .i64 j ∧ x = .int .u64 ((nv (l.take j) : Nat) : Int)) (fun _ i => n - (intOf i).toNat)
  case atStart => exact ⟨0, Nat.zero_le _, rfl, by simp [nv]⟩
  case round =>
    obtain ⟨j, hj, rfl, rfl⟩ := hrel
    by_cases hlt : j < n
    · have hcell := HC.out j (by rw [HL.out]; exact hlt)
      have hs := nv_take_succ l j (by rw [HL.out]; exact hlt)
      have hb1 := nv_take_le l (j + 1)
      have hx := HR.out (l.getD j 0) (by
        have : j < l.length := by rw [HL.out]; exact hlt
        simp [List.getD, List.getElem?_eq_getElem this])
      obtain ⟨x, hxd⟩ : ∃ x, x = l.getD j 0 := ⟨_, rfl⟩
      rw [← hxd] at hcell hs hx
      obtain ⟨y, rfl⟩ := Int.eq_ofNat_of_zero_le hx.1
      obtain ⟨m, hmd⟩ : ∃ m, m = nv (l.take j) := ⟨_, rfl⟩
      rw [← hmd] at hs ⊢
      rw [Int.toNat_natCast] at hs
      have hmy : 256 * (m : Int) + (y : Int) ≤ 18446744073709551615 := by omega
      have hm1 : 256 * (m : Int) ≤ 18446744073709551615 := by omega
      have hy1 : (y : Int) ≤ 255 := by omega
      have HS : Hid (nv (l.take (j + 1)) = 256 * m + y) := hs
      clear hs hb1 hx hxd hmd hsm
      go_wp2
      go_round
      case rel => exact ⟨j + 1, by omega, by go_num, by rw [HS.out]; go_num⟩
      case measure => simp [intOf]; omega
    · have HT : Hid (nv (l.take j) = nv l) := by
        show _ = _
        rw [List.take_of_length_le (by rw [HL.out]; omega)]
      go_wp2
      go_ret
      exact ⟨by rw [← HT.out]; rfl, rfl⟩

end Go.Proofs.Ytmjgamokddedkaa.O
