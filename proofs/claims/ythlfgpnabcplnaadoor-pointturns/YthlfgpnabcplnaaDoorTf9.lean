/-
  What octets.Need and octets.Put answer: for every number and every size; Put's octets lie in one new block, and what was in memory stays.
-/
import Derived.Test.YthlfgpnabcplnaaDoorTf6
import Derived.Test.YthlfgpnabcplnaaDoorTf2
import Derived.WalkKit
import Derived.WalkSpells
import Derived.ProofKit
namespace Go.Proofs.YthlfgpnabcplnaaDoor.W.O
open Go.RowKit

set_option maxRecDepth 100000 in
set_option maxHeartbeats 400000 in
theorem need_any (x : Int) (w : World) (h0 : 0 ≤ x) (h1 : x ≤ 18446744073709551615) :
    Calls Tryd.prog 53 #[.int .u64 x] w fun e w' => e = .returned (.int .i64 (need x.toNat)) ∧ w = w' := by
  have hb : (Lib.bitLen x.toNat : Int) ≤ 64 := by have := Lib.bitLen_le x.toNat 64 (by omega) (by omega); omega
  have hn := need_bits x.toNat (by omega)
  have HN : Hid (((Lib.bitLen x.toNat : Int) + 7) / 8 = (need x.toNat : Int)) := by
    show _ = _
    rw [← hn]; omega
  clear hn
  go_enter Tryd.func53, Tryd.ntmps53
  go_wp2_with (go_at_call 61; refine (len_any _ _ (by omega) (by omega)).mono ?_; rintro e w' ⟨rfl, rfl⟩)
  go_ret
  exact ⟨congrArg Ending.returned (congrArg (Value.int IntKind.i64) HN.out), rfl⟩

theorem Tryd.info5 : (Tryd.prog.info? 5).map (fun i => (i.zero, i.size, i.bytes)) = some (some (.int .u8 0), 1, 1) := by kernel_rfl

set_option maxRecDepth 100000 in
set_option maxHeartbeats 400000 in
theorem put_range (n s : Int) (w : World) (h : s < 0 ∨ 64 < s) :
    Calls Tryd.prog 38 #[.int .u64 n, .int .i64 s] w fun e w' => e = .returned (.tuple #[.slice none 0 0, .int .i64 4]) ∧ w = w' := by
  rcases h with h | h
  · go_enter Tryd.func38, Tryd.ntmps38
    go_wp2
    go_ret2
    exact ⟨rfl, rfl⟩
  · have h' : ¬ s < 0 := by omega
    go_enter Tryd.func38, Tryd.ntmps38
    go_wp2
    go_ret2
    exact ⟨rfl, rfl⟩

set_option maxRecDepth 100000 in
set_option maxHeartbeats 400000 in
theorem put_big (n s : Int) (w : World) (h0 : 0 ≤ n) (h1 : n ≤ 18446744073709551615) (h2 : 0 ≤ s) (h3 : s ≤ 64) (h4 : s < need n.toNat) :
    Calls Tryd.prog 38 #[.int .u64 n, .int .i64 s] w fun e w' => e = .returned (.tuple #[.slice none 0 0, .int .i64 107]) ∧ w = w' := by
  go_enter Tryd.func38, Tryd.ntmps38
  go_wp2_with (go_at_call 53; refine (need_any _ _ (by omega) (by omega)).mono ?_; rintro e w' ⟨rfl, rfl⟩)
  go_ret2
  exact ⟨rfl, rfl⟩

set_option maxRecDepth 100000 in
set_option maxHeartbeats 1000000 in
theorem put_ok (n k : Nat) (w : World) (h1 : n < 18446744073709551616) (h3 : k ≤ 64) (h4 : need n ≤ k) :
    Calls Tryd.prog 38 #[.int .u64 n, .int .i64 k] w fun e w' => e = .returned (.tuple #[.slice (some ⟨w.heap.size, 0, none⟩) k k, .int .i64 0]) ∧
      w'.ownsRow w.heap.size 5 1 (.slice (some ⟨w.heap.size, 0, none⟩) k k) k ((oct n k).map (Value.int .u8)) ∧ Below w.heap.size w w' := by
  obtain ⟨i0, hi, hz0, hz1, hz2⟩ := info_parts Tryd.info5
  have hlt : ¬ (k : Int) < (need n : Int) := by omega
  go_enter Tryd.func38, Tryd.ntmps38
  go_wp2_with (first
    | (go_at_call 53; refine (need_any _ _ (by omega) (by omega)).mono ?_; rintro e w' ⟨rfl, rfl⟩; simp only [Int.toNat_natCast])
    | (at_make; refine wpList_make_full _ rfl _ _ 22 rfl w.heap.size 5 i0 (.int .u8 0) 1 Tryd.underlying22 hi hz0 hz1 _ _ _ _ k rfl rfl rfl rfl (by rw [hz2]; omega) (by unfold maxLen; omega) (Nat.le_refl _) ?_; intro w1 hown hgrow))
  have hown0 : w1.ownsRow w.heap.size 5 1 (.slice (some ⟨w.heap.size, 0, none⟩) k k) k ((part n k 0).map (Value.int .u8)) := by
    rw [part_zero, List.map_replicate]
    have := toList_madeCells_one (.int .u8 0) (k * 1)
    rw [Nat.mul_one] at this
    rw [← this]
    simpa [Value.cells] using hown
  have hb0 : Below w.heap.size w w1 := (Below.refl _ _).grown hgrow (Nat.le_refl _) (fun _ h => by cases h)
  clear hown hgrow
  go_loopw [0, 7] (fun x i wr => ∃ j : Nat, j ≤ need n ∧ x = .int .u64 ((n / 256 ^ j : Nat) : Int) ∧ i = .int .i64 ((k : Int) - 1 - j) ∧
      wr.ownsRow w.heap.size 5 1 (.slice (some ⟨w.heap.size, 0, none⟩) k k) k ((part n k j).map (Value.int .u8)) ∧ Below w.heap.size w wr) (fun x _ _ => (intOf x).toNat)
  case atStart => exact ⟨0, Nat.zero_le _, by simp, by simp, hown0, hb0⟩
  case round =>
    obtain ⟨j, hj, rfl, rfl, hown, hbel⟩ := hrel
    have hst := div_step n j
    have hpos := need_of_pos n j
    have hdone := part_done n k j
    have hps := part_set n k j
    have hdle : n / 256 ^ j ≤ n := Nat.div_le_self _ _
    obtain ⟨m, hm⟩ : ∃ m, m = n / 256 ^ j := ⟨_, rfl⟩
    rw [← hm] at hst hpos hdone hps hdle
    rw [← hm]
    have HM : Hid (m = n / 256 ^ j) := hm
    clear hm
    by_cases hm0 : 0 < m
    · have hjn := hpos (by omega)
      have hjk : j < k := by omega
      obtain ⟨t, ht⟩ : ∃ t : Nat, t + 1 + j = k := ⟨k - 1 - j, by omega⟩
      have et : (k : Int) - 1 - j = (t : Int) := by omega
      have etk : k - 1 - j = t := by omega
      have hset := hps hjk
      rw [etk] at hset
      have htk : (t : Int) < (k : Int) := by omega
      rw [et]
      have hc := hown.cellAt t (by omega)
      have hf := hown.frozenAt t
      have hc' : wr.cell? ⟨w.heap.size, t, none⟩ = some (.int .u8 ((part n k j).getD t 0)) := by
        rw [hc, List.getElem?_map, List.getElem?_eq_getElem (by simp; omega)]
        simp [List.getElem?_eq_getElem (show t < (part n k j).length by simp; omega)]
      have hS := hown.stored t (.int .u8 (m % 256))
      have HT : Hid (t + 1 + j = k) := ht
      have HS : Hid (n / 256 ^ (j + 1) = m / 256) := hst
      have HL : Hid ((part n k j).set t ((m % 256 : Nat) : Int) = part n k (j + 1)) := hset
      clear ht et etk hpos hdone hps hst hc hset
      go_wp2
      go_roundw
      case rel =>
        refine ⟨j + 1, by omega, by rw [HS.out]; rfl, by have := HT.out; congr 1; omega, ?_, hbel.setCell (Nat.le_refl _) _⟩
        rw [← HL.out, List.map_set]
        exact hS.1
      case measure => simp [intOf]; omega
    · have e0 : m = 0 := by omega
      subst e0
      have hd := hdone rfl
      rw [hd] at hown
      clear hdone hps hpos hst hd
      go_wp2
      go_ret2
      exact ⟨rfl, hown, hbel⟩
end Go.Proofs.YthlfgpnabcplnaaDoor.W.O
