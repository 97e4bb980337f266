/-
  What octets.Decimal answers: the decimal digits, - ahead below 0; for every int, in every memory; what was in memory stays.
-/
import Derived.Test.YtiinboedojjbkaaRows
import Derived.Test.YtiinboedojjbkaaDigits
import Derived.WalkKit
import Derived.WalkSpells
import Derived.ProofKit
import Derived.Laws.Bits64
import Derived.Laws.BytesArg
namespace Go.Proofs.Ytiinboedojjbkaa
open Go.RowKit

theorem mag_any (n : Int) (w : World) (h0 : -9223372036854775808 ≤ n) (h1 : n ≤ 9223372036854775807) :
    Calls Try.prog 32 #[.int .i64 n] w fun e w' => e = .returned (.int .u64 ((n.natAbs : Nat) : Int)) ∧ w = w' := by
  by_cases h : n < 0
  · go_enter Try.func32, Try.ntmps32
    go_wp2
    go_ret
    refine ⟨congrArg Ending.returned (congrArg (Value.int IntKind.u64) ?_), rfl⟩
    simp only [IntKind.wrap_u64]
    omega
  · go_enter Try.func32, Try.ntmps32
    go_wp2
    go_ret
    refine ⟨congrArg Ending.returned (congrArg (Value.int IntKind.u64) ?_), rfl⟩
    omega

theorem Try.elem54 : Try.prog.underlying 54 = some (.array 20 5) := by kernel_rfl
theorem slice20 (w : World) (g l : Nat) (hl : l < 20) : (Instr.sliceAt 54 (.pointer (some ⟨g, 0, none⟩)) (some (.int .i64 l)) none none).run Try.prog w = .ok (.slice (some ⟨g, l, none⟩) (20 - l) (20 - l)) w := by
  have e1 : Try.prog.arrayLen 54 = 20 := by kernel_rfl
  have e2 : Try.prog.elem 54 = 5 := by kernel_rfl
  rw [run_sliceAt_array_l w 54 ⟨g, 0, none⟩ (by rw [e1, e2]; exact Try.elem54) .i64 l (by omega) (by rw [e1]; omega), e1, e2]
  simp [go_sem, slicedAt]
  omega

theorem conv_row (w : World) (base g t : Nat) (l : List Int) (hl : l.length = 20) (ht : t ≤ 20) (hown : w.ownsRow base 54 1 (.slice (some ⟨g, 0, none⟩) 20 20) 20 (l.map (Value.int .u8))) :
    (convert 23 9 (.slice (some ⟨g, t, none⟩) (20 - t) (20 - t))).run Try.prog w = .ok (.string (strOfNums (l.drop t))) w := by
  refine run_convert_bytes_arg w 23 5 Try.underlying23 Try.underlying5 g t (20 - t) (20 - t) (l.drop t) (by simp [hl]) (fun i hi => ?_) 9 Try.underlying9
  rw [hown.cellAt (t + i) (by omega), List.getElem?_map, List.getElem?_eq_getElem (by omega)]
  simp [List.getElem?_eq_getElem (show t + i < l.length by omega)]

theorem div_lt (m j k : Nat) (h : m < 10 ^ k) (h1 : m / 10 ^ j ≠ 0) : j < k := by
  rcases Nat.lt_or_ge j k with c | c
  · exact c
  · exact absurd (Nat.div_eq_of_lt (Nat.lt_of_lt_of_le h (Nat.pow_le_pow_right (by decide) c))) h1

theorem out_pos (n : Int) (m j t : Nat) (hn : ¬ n < 0) (hm : m = n.natAbs) (ht : t + j = 19) (h1 : m / 10 ^ (j + 1) = 0) (h2 : j = 0 ∨ m / 10 ^ j ≠ 0) : (digs m (j + 1)).drop t = decimal n := by
  unfold decimal
  rw [if_neg hn, ← hm, ← decN_dec j m h1 h2, ← digs_drop m (j + 1) (by omega), show 20 - (j + 1) = t by omega]

theorem out_neg (n : Int) (m j t : Nat) (hn : n < 0) (hm : m = n.natAbs) (ht : t + j = 19) (ht1 : 1 ≤ t) (h1 : m / 10 ^ (j + 1) = 0) (h2 : j = 0 ∨ m / 10 ^ j ≠ 0) : ((digs m (j + 1)).set (t - 1) 45).drop (t - 1) = decimal n := by
  unfold decimal
  rw [if_pos hn, ← hm, ← decN_dec j m h1 h2, ← digs_drop_neg m (j + 1) (by omega), show 19 - (j + 1) = t - 1 by omega]

theorem own20 (w : World) (m : Nat) : (w.alloc (.cells #[.int .u8 0, .int .u8 0, .int .u8 0, .int .u8 0, .int .u8 0, .int .u8 0, .int .u8 0, .int .u8 0, .int .u8 0, .int .u8 0, .int .u8 0, .int .u8 0, .int .u8 0, .int .u8 0, .int .u8 0, .int .u8 0, .int .u8 0, .int .u8 0, .int .u8 0, .int .u8 0] 54)).ownsRow
    w.heap.size 54 1 (.slice (some ⟨w.heap.size, 0, none⟩) 20 20) 20 ((digs m 0).map (Value.int .u8)) := by
  rw [digs_zero]
  exact World.ownsRow_lit w _ 20 (Nat.le_refl _) (by unfold maxLen; omega) rfl

set_option maxHeartbeats 1000000 in
theorem dec_any (n : Int) (w : World) (h0 : -9223372036854775808 ≤ n) (h1 : n ≤ 9223372036854775807) :
    Calls Try.prog 21 #[.int .i64 n] w fun e w' => e = .returned (.string (strOfNums (decimal n))) ∧ Below w.heap.size w w' := by
  obtain ⟨m, hm⟩ : ∃ m, m = n.natAbs := ⟨_, rfl⟩
  have hmle : m < 10 ^ 20 := by omega
  have hneg : n < 0 → m < 10 ^ 19 := by omega
  have HM : Hid (m = n.natAbs) := hm
  have hmag := fun w => mag_any n w h0 h1
  rw [← hm] at hmag
  have hu : m ≤ 9223372036854775808 := by omega
  clear hm
  go_enter Try.func21, Try.ntmps21
  go_wp2_with (go_at_call 32; refine (hmag _).mono ?_; rintro e w' ⟨rfl, rfl⟩)
  clear hmag
  go_loopw [4, 5] (fun a r wr => ∃ j : Nat, j < 20 ∧ (j = 0 ∨ m / 10 ^ j ≠ 0) ∧ a = .int .i64 (20 - (j : Int)) ∧ r = .int .u64 ((m / 10 ^ j : Nat) : Int) ∧
      wr.ownsRow w.heap.size 54 1 (.slice (some ⟨w.heap.size, 0, none⟩) 20 20) 20 ((digs m j).map (Value.int .u8)) ∧ Below w.heap.size w wr) (fun a _ _ => (intOf a).toNat)
  case atStart => exact ⟨0, by omega, .inl rfl, by simp, by simp, own20 w m, (Below.refl _ _).alloc (Nat.le_refl _) _⟩
  case round =>
    obtain ⟨j, hj, hor, rfl, rfl, hown, hbel⟩ := hrel
    have hst := dstep m j
    have hset := digs_set m j hj
    obtain ⟨t, ht⟩ : ∃ t : Nat, t + j = 19 := ⟨19 - j, by omega⟩
    have etk : 19 - j = t := by omega
    rw [etk] at hset
    have ea : (20 : Int) - (j : Int) = (t : Int) + 1 := by omega
    rw [ea]
    have ht20 : t < 20 := by omega
    have hc : wr.cell? ⟨w.heap.size, t, none⟩ = some (.int .u8 ((digs m j).getD t 0)) := by
      rw [hown.cellAt t (by omega), List.getElem?_map, List.getElem?_eq_getElem (by simp; omega)]
      simp [List.getElem?_eq_getElem (show t < (digs m j).length by simp; omega)]
    have hf := hown.frozenAt t
    obtain ⟨r, hr⟩ : ∃ r, r = m / 10 ^ j := ⟨_, rfl⟩
    rw [← hr] at hst hset ⊢
    have hrm : r ≤ m := by rw [hr]; exact Nat.div_le_self _ _
    have hS := (hown.stored t (.int .u8 (48 + (r : Int) % 10))).1
    rw [show ((r % 10 : Nat) : Int) = (r : Int) % 10 by omega] at hset
    rw [← List.map_set, hset] at hS
    have hb2 := hbel.setCell (p := ⟨w.heap.size, t, none⟩) (Nat.le_refl _) (.int .u8 (48 + (r : Int) % 10))
    have HT : Hid (t + j = 19) := ht
    have HR : Hid (r = m / 10 ^ j) := hr
    have HST : Hid (m / 10 ^ (j + 1) = r / 10) := hst
    have HOR : Hid (j = 0 ∨ m / 10 ^ j ≠ 0) := hor
    clear ht hr hst hset hor ea etk
    by_cases hz : r / 10 = 0
    · have hzb : (((r : Int) / 10) == 0) = true := by simp; omega
      by_cases hng : n < 0
      · have ht1 : 1 ≤ t := by
          have h19 := hneg hng
          rcases HOR.out with h | h
          · have := HT.out; omega
          · have := div_lt m j 19 h19 h; have := HT.out; omega
        have hti : (1 : Int) ≤ (t : Int) := by omega
        have et1 : ((t - 1 : Nat) : Int) = (t : Int) - 1 := by omega
        have hsl := fun w' => slice20 w' w.heap.size (t - 1) (by omega)
        rw [et1] at hsl
        have hc1 : wr.cell? ⟨w.heap.size, t - 1, none⟩ = some (.int .u8 ((digs m j).getD (t - 1) 0)) := by
          rw [hown.cellAt (t - 1) (by omega), List.getElem?_map, List.getElem?_eq_getElem (by simp; omega)]
          simp [List.getElem?_eq_getElem (show t - 1 < (digs m j).length by simp; omega)]
        have hf1 := hown.frozenAt (t - 1)
        have hS1 := (hS.stored (t - 1) (.int .u8 45)).1
        rw [← List.map_set] at hS1
        have hb3 := hb2.setCell (p := ⟨w.heap.size, t - 1, none⟩) (Nat.le_refl _) (.int .u8 45)
        have hcv := conv_row _ _ w.heap.size (t - 1) _ (by simp) (by omega) hS1
        rw [out_neg n m j t hng HM.out HT.out ht1 (by rw [HST.out]; omega) HOR.out] at hcv
        clear hS hown hS1 et1 hneg
        go_wp2
        go_ret
        exact ⟨rfl, hb3⟩
      · have hsl := fun w' => slice20 w' w.heap.size t ht20
        have hcv := conv_row _ _ w.heap.size t _ (by simp) (by omega) hS
        rw [out_pos n m j t hng HM.out HT.out (by rw [HST.out]; omega) HOR.out] at hcv
        clear hS hown hneg
        go_wp2
        go_ret
        exact ⟨rfl, hb2⟩
    · have hzb : (((r : Int) / 10) == 0) = false := by simp; omega
      have h20 := div_lt m (j + 1) 20 hmle (by rw [HST.out]; exact hz)
      clear hneg
      go_wp2
      go_roundw
      case rel => exact ⟨j + 1, h20, .inr (by rw [HST.out]; exact hz), by have := HT.out; congr 1; omega, by rw [HST.out]; rfl, hS, hb2⟩
      case measure => simp [intOf]
end Go.Proofs.Ytiinboedojjbkaa
