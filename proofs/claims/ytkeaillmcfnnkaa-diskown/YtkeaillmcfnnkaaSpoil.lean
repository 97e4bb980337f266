/-
  What Spoil does, and that a row of another block stays.
-/
import Derived.Test.YtkeaillmcfnnkaaClone
namespace Go.Proofs.Ytkeaillmcfnnkaa
open Go.RowKit

set_option maxHeartbeats 400000 in
theorem spoil_none (a : Option Addr) (cap : Nat) (w : World) :
    Calls Try.prog 30 #[.slice a 0 cap] w fun e w' => e = .returned (.tuple #[]) ∧ w = w' := by
  go_enter Try.func30, Try.ntmps30
  go_wp2
  refine wp_loop_rounds 1 ?_
  rw [rounds_succ]
  go_wp2
  go_end0
  exact ⟨rfl, rfl⟩

set_option maxHeartbeats 400000 in
theorem spoil_some (base g n cap : Nat) (l : List Int) (w : World) (hn : n ≤ maxLen) (hl : l.length = n) (hown : w.ownsRow base 5 1 (.slice (some ⟨g, 0, none⟩) n cap) n (l.map (Value.int .u8))) :
    Calls Try.prog 30 #[.slice (some ⟨g, 0, none⟩) n cap] w fun e w' => e = .returned (.tuple #[]) ∧ w.grownBy w' (some g) := by
  unfold maxLen at hn
  have HL : Hid (l.length = n) := hl
  clear hl
  go_enter Try.func30, Try.ntmps30
  go_wp2
  go_loopw [2] (fun i wr => ∃ (k : Nat) (l : List Int), k ≤ n ∧ i = .int .i64 k ∧ Hid (l.length = n) ∧ wr.ownsRow base 5 1 (.slice (some ⟨g, 0, none⟩) n cap) n (l.map (Value.int .u8)) ∧ w.grownBy wr (some g)) (fun i _ => n - (intOf i).toNat)
  case atStart => exact ⟨0, l, Nat.zero_le _, rfl, HL, hown, ⟨rfl, rfl, rfl, Nat.le_refl _, fun _ _ _ => rfl⟩⟩
  case round =>
    obtain ⟨k, l, hk, rfl, HL, hown, hbel⟩ := hrel
    by_cases hlt : k < n
    · have hc : wr.cell? ⟨g, k, none⟩ = some (.int .u8 (l.getD k 0)) := by
        have hkl : k < l.length := by rw [HL.out]; exact hlt
        rw [hown.cellAt k (by omega), List.getElem?_map, List.getElem?_eq_getElem hkl]
        simp [List.getElem?_eq_getElem hkl]
      have hf := hown.frozenAt k
      obtain ⟨x, hx⟩ : ∃ x, x = l.getD k 0 := ⟨_, rfl⟩
      rw [← hx] at hc
      have hb2 := hbel.trans (hown.stored k (.int .u8 (bits .xor .u8 x 85))).2
      have hS := (hown.stored k (.int .u8 (bits .xor .u8 x 85))).1
      rw [← List.map_set] at hS
      have HL2 : Hid ((l.set k (bits .xor .u8 x 85)).length = n) := by
        show _ = _
        rw [List.length_set]; exact HL.out
      have hki : (k : Int) < (n : Int) := by omega
      clear hx hown hbel
      go_wp2
      go_roundw
      case rel => exact ⟨k + 1, _, by omega, by go_num, HL2, hS, hb2⟩
      case measure => simp [intOf]; omega
    · go_wp2
      go_end0
      exact ⟨rfl, hbel⟩

theorem spoil_any (base : Nat) (v : Value) (l : List Int) (w : World) (hown : w.ownsRow base 5 1 v l.length (l.map (Value.int .u8))) :
    Calls Try.prog 30 #[v] w fun e w' => e = .returned (.tuple #[]) ∧ w.grownBy w' v.ownBlock := by
  have h0 := hown
  rcases hown.2 with ⟨rfl, h⟩ | ⟨g, cap, cur, rfl, _, _, h1, h2, _⟩
  · exact (spoil_none none 0 w).mono fun e w' ⟨he, hw⟩ => ⟨he, by subst hw; exact ⟨rfl, rfl, rfl, Nat.le_refl _, fun _ _ _ => rfl⟩⟩
  · exact spoil_some base g l.length cap l w (by omega) rfl h0

/-- A row that the call owns stays, where another one is written over. -/
theorem owns_far {w w' : World} {base' : Nat} {v u : Value} {n : Nat} {xs : List Value} (hv : w.ownsRow base' 5 1 v n xs) (hu : u.ownBlock = none ∨ ∃ g, u.ownBlock = some g ∧ g < base') (hg : w.grownBy w' u.ownBlock) : w'.ownsRow base' 5 1 v n xs := by
  obtain ⟨h1, h2⟩ := hv
  refine ⟨h1, ?_⟩
  rcases h2 with h2 | ⟨g, cap, cur, a, b, c, d⟩
  · exact .inl h2
  · have hlt : g < w.heap.size := (Array.getElem?_eq_some_iff.1 c).1
    refine .inr ⟨g, cap, cur, a, b, ?_, d⟩
    rw [hg.block g hlt ?_]
    · exact c
    · intro e
      rcases hu with h | ⟨g', h, hlt'⟩
      · rw [h] at e; cases e
      · rw [h] at e; cases e; omega

end Go.Proofs.Ytkeaillmcfnnkaa
