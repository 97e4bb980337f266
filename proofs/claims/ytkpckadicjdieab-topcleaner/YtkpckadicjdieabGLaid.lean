/-
  A number laid in octets, and read: what octets.Put and octets.Get answer to segment.
-/
import Derived.Test.YtkpckadicjdieabGOGet
import Derived.Test.YtkpckadicjdieabZ11
namespace Go.Proofs.Ytkpckadicjdieab
open Go.RowKit
open O (oct need nv gval gerr dz)

set_option maxRecDepth 100000 in
set_option maxHeartbeats 1000000 in
theorem laid_any (n k : Nat) (w : World) (h1 : n < 9223372036854775808) (h3 : k ≤ 64) (h4 : need n ≤ k) :
    Calls Try.prog 59 #[.int .i64 n, .int .i64 k] w fun e w' => (∃ v, e = .returned v ∧ Own1 w.heap.size w' v (oct n k)) ∧ Below w.heap.size w w' := by
  have HC := O.put_ok n k w (by omega) h3 h4
  have hcv : IntKind.u64.wrap (n : Int) = (n : Int) := by simp [IntKind.wrap, IntKind.bits, IntKind.signed]; omega
  have HO : Hid (Oct (oct n k) ∧ (oct n k).length = k) := ⟨fun x hx => by
    obtain ⟨j, -, rfl⟩ := List.mem_map.1 hx
    simp [Lit.wf, IntKind.min, IntKind.max, IntKind.signed, IntKind.bits]
    omega, by simp [oct]⟩
  clear h4
  go_enter Try.func59, Try.ntmps59
  go_wp2_with fail
  refine HC.mono ?_
  rintro e w1 ⟨rfl, hO1, hb1⟩
  go_wp2
  go_ret
  exact ⟨⟨_, rfl, Own1.mk (by rw [HO.out.2]; exact hO1) HO.out.1⟩, hb1⟩

theorem dz_le (l : List Int) : (dz l).length ≤ l.length := by
  induction l with
  | nil => simp [dz]
  | cons x l ih =>
    by_cases hx : x = 0
    · rw [hx, O.dz_cons_zero]; simp; omega
    · rw [O.dz_cons_pos x l hx]; exact Nat.le_refl _


end Go.Proofs.Ytkpckadicjdieab
