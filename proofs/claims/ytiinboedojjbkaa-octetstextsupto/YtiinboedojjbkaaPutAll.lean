/-
  What octets.Put answers, as one contract for all numbers and sizes; and octets.Unhex with its answer's shape laid open.
-/
import Derived.Test.YtiinboedojjbkaaAlive
namespace Go.Proofs.Ytiinboedojjbkaa
open Go.RowKit

def perr (n s : Int) : Int := if s < 0 ∨ 64 < s then 4 else if s < need n.toNat then 107 else 0
def pout (n s : Int) : List Int := if s < 0 ∨ 64 < s then [] else if s < need n.toNat then [] else oct n.toNat s.toNat

theorem pout_range (n s : Int) : ∀ x ∈ pout n s, 0 ≤ x ∧ x ≤ 255 := by
  unfold pout
  split
  · simp
  · split
    · simp
    · exact oct_range _ _

theorem pout_length (n s : Int) : (pout n s).length ≤ 64 := by
  unfold pout
  split
  · simp
  · split
    · simp
    · rw [oct_length]; omega

/-- The shape of a slice that the call owns. -/
theorem own_shape {w : World} {base : Nat} {v : Value} {n : Nat} {xs : List Value} (h : w.ownsRow base 5 1 v n xs) : ∃ a cap, v = .slice a n cap := by
  rcases h.2 with ⟨rfl, rfl⟩ | ⟨g, cap, cur, rfl, _⟩
  · exact ⟨none, 0, rfl⟩
  · exact ⟨_, cap, rfl⟩

theorem put_all (n s : Int) (w : World) (h0 : 0 ≤ n) (h1 : n ≤ 18446744073709551615) :
    Calls Try.prog 10 #[.int .u64 n, .int .i64 s] w fun e w' => ∃ a cap, e = .returned (.tuple #[.slice a (pout n s).length cap, .int .i64 (perr n s)]) ∧
      w'.ownsRow w.heap.size 5 1 (.slice a (pout n s).length cap) (pout n s).length ((pout n s).map (Value.int .u8)) ∧ Below w.heap.size w w' := by
  by_cases hr : s < 0 ∨ 64 < s
  · have e1 : perr n s = 4 := by unfold perr; rw [if_pos hr]
    have e2 : pout n s = [] := by unfold pout; rw [if_pos hr]
    rw [e1, e2]
    refine (put_range n s w hr).mono ?_
    rintro e w' ⟨rfl, rfl⟩
    exact ⟨none, 0, rfl, World.ownsRow_nil _ _ _ _, Below.refl _ _⟩
  · by_cases hb : s < need n.toNat
    · have e1 : perr n s = 107 := by unfold perr; rw [if_neg hr, if_pos hb]
      have e2 : pout n s = [] := by unfold pout; rw [if_neg hr, if_pos hb]
      rw [e1, e2]
      refine (put_big n s w h0 h1 (by omega) (by omega) hb).mono ?_
      rintro e w' ⟨rfl, rfl⟩
      exact ⟨none, 0, rfl, World.ownsRow_nil _ _ _ _, Below.refl _ _⟩
    · have e1 : perr n s = 0 := by unfold perr; rw [if_neg hr, if_neg hb]
      have e2 : pout n s = oct n.toNat s.toNat := by unfold pout; rw [if_neg hr, if_neg hb]
      rw [e1, e2, oct_length]
      have := put_ok n.toNat s.toNat w (by omega) (by omega) (by omega)
      rw [Int.toNat_of_nonneg h0, Int.toNat_of_nonneg (by omega)] at this
      refine this.mono ?_
      rintro e w' ⟨rfl, hown, hbel⟩
      exact ⟨_, _, rfl, hown, hbel⟩

theorem unhex_all (s : ByteArray) (w : World) (hs : s.size ≤ 281474976710656) :
    Calls Try.prog 19 #[.string s] w fun e w' => ∃ a cap, e = .returned (.tuple #[.slice a (uout (lets s)).length cap, .int .i64 (uerr (lets s))]) ∧
      w'.ownsRow w.heap.size 5 1 (.slice a (uout (lets s)).length cap) (uout (lets s)).length ((uout (lets s)).map (Value.int .u8)) ∧ Below w.heap.size w w' := by
  refine (unhex_any s w hs).mono ?_
  rintro e w' ⟨v, rfl, hown, hb⟩
  obtain ⟨a, cap, rfl⟩ := own_shape hown
  exact ⟨a, cap, rfl, hown, hb⟩

end Go.Proofs.Ytiinboedojjbkaa
