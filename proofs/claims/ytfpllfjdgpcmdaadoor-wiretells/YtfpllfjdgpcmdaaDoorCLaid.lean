/-
  What laid answers: a sum's four octets, the lowest first, in a block of its own; what was in memory stays.
-/
import Derived.Test.YtfpllfjdgpcmdaaDoorCExtend
namespace Go.Proofs.YtfpllfjdgpcmdaaDoor.C
open Go.RowKit

/-- The first k octets of a sum, the rest 0. -/
def lowp (s k : Nat) : List Int := (List.range 4).map fun i => if i < k then ((s / 256 ^ i % 256 : Nat) : Int) else 0
theorem lowp_full (s : Nat) : lowp s 4 = low s := by
  simp [lowp, low, List.range, List.range.loop]

set_option maxRecDepth 100000 in
set_option maxHeartbeats 1000000 in
theorem laid_any (s : Nat) (w : World) :
    Calls Tryd.prog 47 #[.int .u32 s] w fun e w' => e = .returned (.slice (some ⟨w.heap.size, 0, none⟩) 4 4) ∧ w'.ownsRow w.heap.size 5 1 (.slice (some ⟨w.heap.size, 0, none⟩) 4 4) 4 ((low s).map (Value.int .u8)) ∧ Below w.heap.size w w' := by
  obtain ⟨i0, hi, hz0, hz1, hz2⟩ := info_parts Tryd.info5
  go_enter Tryd.func47, Tryd.ntmps47
  go_wp2_with (at_make; refine wpList_make_full _ rfl _ _ 26 rfl w.heap.size 5 i0 (.int .u8 0) 1 Tryd.underlying26 hi hz0 hz1 _ _ _ _ 4 rfl rfl rfl rfl (by rw [hz2]; omega) (by unfold maxLen; omega) (Nat.le_refl _) ?_; intro w1 hown hgrow)
  have hb0 : Below w.heap.size w w1 := (Below.refl _ _).grown hgrow (Nat.le_refl _) (fun _ h => by cases h)
  have hown0 : w1.ownsRow w.heap.size 5 1 (.slice (some ⟨w.heap.size, 0, none⟩) 4 4) 4 ((lowp s 0).map (Value.int .u8)) := by
    have := toList_madeCells_one (.int .u8 0) 4
    rw [show (lowp s 0).map (Value.int .u8) = (madeCells (Value.int .u8 0).cells 4).toList from by rw [show (Value.int .u8 0).cells = #[.int .u8 0] from rfl, this]; rfl]
    exact hown
  clear hown hgrow
  go_loopw [6] (fun i wr => ∃ j : Nat, j ≤ 4 ∧ i = .int .i64 j ∧ wr.ownsRow w.heap.size 5 1 (.slice (some ⟨w.heap.size, 0, none⟩) 4 4) 4 ((lowp s j).map (Value.int .u8)) ∧ Below w.heap.size w wr) (fun i _ => 4 - (intOf i).toNat)
  case atStart => exact ⟨0, by omega, rfl, hown0, hb0⟩
  case round =>
    obtain ⟨j, hj, rfl, hown, hbel⟩ := hrel
    by_cases hlt : j < 4
    · have hf := hown.frozenAt j
      obtain ⟨old, hc⟩ : ∃ old, wr.cell? ⟨w.heap.size, j, none⟩ = some (.int .u8 old) := ⟨_, by
        rw [hown.cellAt j (by omega), List.getElem?_map, List.getElem?_eq_getElem (by simp [lowp]; omega)]; rfl⟩
      have hS := (hown.stored j (.int .u8 ((s : Int) / 2 ^ (8 * j) % 256))).1
      have HV : Hid ((s : Int) / 2 ^ (8 * j) % 256 = ((s / 256 ^ j % 256 : Nat) : Int)) := by
        show _ = _
        rw [show 256 ^ j = 2 ^ (8 * j) from by rw [Nat.pow_mul]]
        simp
      have HL : Hid (((lowp s j).map (Value.int .u8)).set j (.int .u8 ((s : Int) / 2 ^ (8 * j) % 256)) = (lowp s (j + 1)).map (Value.int .u8)) := by
        show _ = _
        rw [HV.out, ← List.map_set]
        congr 1
        rcases (by omega : j = 0 ∨ j = 1 ∨ j = 2 ∨ j = 3) with rfl | rfl | rfl | rfl <;> simp [lowp, List.range, List.range.loop]
      rw [HL.out] at hS
      have hji : (j : Int) < 4 := by omega
      clear hown HL HV
      go_wp2
      go_roundw
      case rel => exact ⟨j + 1, by omega, by go_num, hS, hbel.setCell (Nat.le_refl _) _⟩
      case measure => simp [intOf]; omega
    · obtain rfl : j = 4 := by omega
      rw [lowp_full] at hown
      go_wp2
      go_ret
      exact ⟨rfl, hown, hbel⟩

end Go.Proofs.YtfpllfjdgpcmdaaDoor.C
