/-
  'These octets lie at this slice' as one word, what keeps it, and that SameBytes of two slices with the same octets is true, in every memory.
-/
import Derived.Test.YtiinboedojjbkaaRows
import Derived.WalkKit
import Derived.WalkSpells
import Derived.ProofKit
import Derived.Deep.QuietTactic
import Derived.BigQuiet
namespace Go.Proofs.Ytiinboedojjbkaa
open Go.RowKit

theorem cell_lt {w : World} {a : Addr} {v : Value} (h : w.cell? a = some v) : a.block < w.heap.size := by
  rcases Nat.lt_or_ge a.block w.heap.size with c | c
  · exact c
  · simp [World.cell?, Array.getElem?_eq_none c] at h

/-- The slice value v shows the octets l in the world w. -/
def Bytes (w : World) (v : Value) (l : List Int) : Prop :=
  (∃ a cap, v = .slice a l.length cap ∧ (l.length ≠ 0 → ∃ b off, a = some ⟨b, off, none⟩ ∧ ∀ i, i < l.length → w.cell? ⟨b, off + i, none⟩ = some (.int .u8 (l.getD i 0)))) ∧
    l.length ≤ maxLen ∧ ∀ x ∈ l, 0 ≤ x ∧ x ≤ 255

theorem Bytes.below {w w' : World} {v : Value} {l : List Int} (h : Bytes w v l) (hb : Below w.heap.size w w') : Bytes w' v l := by
  obtain ⟨⟨a, cap, hv, hc⟩, hm, hr⟩ := h
  refine ⟨⟨a, cap, hv, fun h0 => ?_⟩, hm, hr⟩
  obtain ⟨b, off, ha, hcell⟩ := hc h0
  refine ⟨b, off, ha, fun i hi => ?_⟩
  have := hcell i hi
  have hlt : b < w.heap.size := cell_lt this
  rw [hb.cell (p := ⟨b, off + i, none⟩) hlt]
  exact this

theorem Bytes.drewN {w : World} {v : Value} {l : List Int} (h : Bytes w v l) (q : Nat) : Bytes (w.drewN q) v l := by
  obtain ⟨⟨a, cap, hv, hc⟩, hm, hr⟩ := h
  refine ⟨⟨a, cap, hv, fun h0 => ?_⟩, hm, hr⟩
  obtain ⟨b, off, ha, hcell⟩ := hc h0
  exact ⟨b, off, ha, fun i hi => by simpa using hcell i hi⟩

theorem Bytes.own {w : World} {base : Nat} {v : Value} {l : List Int} (h : w.ownsRow base 5 1 v l.length (l.map (Value.int .u8))) (hr : ∀ x ∈ l, 0 ≤ x ∧ x ≤ 255) : Bytes w v l := by
  have h0 := h
  rcases h.2 with ⟨hv, hn⟩ | ⟨g, cap, cur, hv, hg, hh, h1, h2, h3, h4⟩
  · exact ⟨⟨none, 0, by rw [hv, hn], fun c => absurd hn c⟩, by unfold maxLen; omega, hr⟩
  · subst hv
    refine ⟨⟨_, cap, rfl, fun _ => ⟨g, 0, rfl, fun i hi => ?_⟩⟩, by omega, hr⟩
    have := h0.cellAt i (by omega)
    rw [Nat.zero_add, this, List.getElem?_map, List.getElem?_eq_getElem hi]
    simp [List.getElem?_eq_getElem hi]

set_option maxHeartbeats 400000 in
theorem same_none (a1 a2 : Option Addr) (c1 c2 : Nat) (w : World) :
    Calls Try.prog 16 #[.slice a1 0 c1, .slice a2 0 c2] w fun e w' => e = .returned (.bool true) ∧ w' = w := by
  go_enter Try.func16, Try.ntmps16
  go_wp2
  refine wp_loop_rounds 1 ?_
  rw [rounds_succ]
  go_wp2
  go_ret
  exact ⟨rfl, rfl⟩

set_option maxHeartbeats 400000 in
theorem same_some (b1 o1 b2 o2 n c1 c2 : Nat) (l : List Int) (hl : l.length = n) (w : World) (hm : n ≤ maxLen)
    (h1 : ∀ i, i < n → w.cell? ⟨b1, o1 + i, none⟩ = some (.int .u8 (l.getD i 0))) (h2 : ∀ i, i < n → w.cell? ⟨b2, o2 + i, none⟩ = some (.int .u8 (l.getD i 0))) :
    Calls Try.prog 16 #[.slice (some ⟨b1, o1, none⟩) n c1, .slice (some ⟨b2, o2, none⟩) n c2] w fun e w' => e = .returned (.bool true) ∧ ∃ q, w' = w.drewN q := by
  unfold maxLen at hm
  have HL : Hid (l.length = n) := hl
  clear hl
  go_enter Try.func16, Try.ntmps16
  go_wp2
  go_loopw [5] (fun i wr => ∃ k : Nat, k ≤ n ∧ i = .int .i64 k ∧ ∃ q, wr = w.drewN q) (fun i _ => n - (intOf i).toNat)
  case atStart => exact ⟨0, Nat.zero_le _, rfl, 0, rfl⟩
  case round =>
    obtain ⟨k, hk, rfl, q, rfl⟩ := hrel
    by_cases hlt : k < n
    · have g1 := h1 k hlt
      have g2 := h2 k hlt
      have hkn : (k : Int) < (n : Int) := by omega
      clear h1 h2
      obtain ⟨x, hx⟩ : ∃ x, x = l.getD k 0 := ⟨_, rfl⟩
      rw [← hx] at g1 g2
      clear hx
      go_wp2
      go_quiet (fail)
      go_wp2
      go_roundw
      case rel => exact ⟨k + 1, by omega, by go_num, _, rfl⟩
      case measure => simp [intOf]; omega
    · go_wp2
      go_ret
      exact ⟨rfl, q, rfl⟩

theorem same_true (v1 v2 : Value) (l : List Int) (w : World) (h1 : Bytes w v1 l) (h2 : Bytes w v2 l) :
    Calls Try.prog 16 #[v1, v2] w fun e w' => e = .returned (.bool true) ∧ ∃ q, w' = w.drewN q := by
  obtain ⟨⟨a1, c1, rfl, k1⟩, hm, _⟩ := h1
  obtain ⟨⟨a2, c2, rfl, k2⟩, _, _⟩ := h2
  by_cases h0 : l.length = 0
  · rw [h0]
    exact (same_none a1 a2 c1 c2 w).mono fun e w' ⟨he, hw⟩ => ⟨he, 0, hw⟩
  · obtain ⟨b1, o1, rfl, e1⟩ := k1 h0
    obtain ⟨b2, o2, rfl, e2⟩ := k2 h0
    exact same_some b1 o1 b2 o2 l.length c1 c2 l rfl w hm e1 e2
end Go.Proofs.Ytiinboedojjbkaa
