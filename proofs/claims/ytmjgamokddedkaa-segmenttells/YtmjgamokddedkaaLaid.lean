/-
  A number laid in octets, and read: what octets.Put and octets.Get answer to segment.
-/
import Derived.Test.YtmjgamokddedkaaOGet
import Derived.Test.YtmjgamokddedkaaSmall
namespace Go.Proofs.Ytmjgamokddedkaa
open Go.RowKit
open O (oct need nv gval gerr dz)

set_option maxRecDepth 100000 in
set_option maxHeartbeats 1000000 in
theorem laid_any (n k : Nat) (w : World) (h1 : n < 9223372036854775808) (h3 : k ≤ 64) (h4 : need n ≤ k) :
    Calls Try.prog 27 #[.int .i64 n, .int .i64 k] w fun e w' => (∃ v, e = .returned v ∧ Own1 w.heap.size w' v (oct n k)) ∧ Below w.heap.size w w' := by
  have HC := O.put_ok n k w (by omega) h3 h4
  have hcv : IntKind.u64.wrap (n : Int) = (n : Int) := by simp [IntKind.wrap, IntKind.bits, IntKind.signed]; omega
  have HO : Hid (Oct (oct n k) ∧ (oct n k).length = k) := ⟨fun x hx => by
    obtain ⟨j, -, rfl⟩ := List.mem_map.1 hx
    simp [Lit.wf, IntKind.min, IntKind.max, IntKind.signed, IntKind.bits]
    omega, by simp [oct]⟩
  clear h4
  go_enter Try.func27, Try.ntmps27
  go_wp2_with fail
  refine HC.mono ?_
  rintro e w1 ⟨rfl, hO1, hb1⟩
  go_wp2
  go_ret
  exact ⟨⟨_, rfl, Own1.mk (by rw [HO.out.2]; exact hO1) HO.out.1⟩, hb1⟩

theorem dz_le (l : List Int) : (dz l).length ≤ l.length := by
  induction l with
  | nil => simp [dz]
  | cons x l ih =>
    by_cases hx : x = 0
    · rw [hx, O.dz_cons_zero]; simp; omega
    · rw [O.dz_cons_pos x l hx]; exact Nat.le_refl _
theorem get_any {n0 : Nat} (v : Value) (l : List Int) (w : World) (h : Arg n0 w v l) :
    Calls Try.prog 49 #[v] w fun e w' => e = .returned (.tuple #[.int .u64 (gval l), .int .i64 (gerr l)]) ∧ w = w' := by
  have ho := h.oct
  rcases h.split with ⟨rfl, a, cap, rfl⟩ | ⟨b, off, cap, rfl, h1, h2, -, h4⟩
  · exact O.get_none a cap w
  · refine O.get_some b off l.length cap l rfl w h2 h1 h4 fun x hx => ?_
    have := ho x hx
    simp [Lit.wf, IntKind.min, IntKind.max, IntKind.signed, IntKind.bits] at this
    omega

set_option maxRecDepth 100000 in
set_option maxHeartbeats 1000000 in
theorem number_any {n0 : Nat} (v : Value) (l : List Int) (w : World) (h : Arg n0 w v l) (h8 : l.length ≤ 8) :
    Calls Try.prog 32 #[v] w fun e w' => e = .returned (.int .i64 (wrap64 (nv l : Nat))) ∧ w = w' := by
  have HC := get_any v l w h
  have h1 := dz_le l
  rw [show gval l = (nv l : Int) from if_neg (by omega), show gerr l = 0 from if_neg (by omega)] at HC
  obtain ⟨r, hr⟩ : ∃ r, r = wrap64 (nv l : Nat) := ⟨_, rfl⟩
  rw [← hr]
  obtain ⟨x, hx⟩ : ∃ x : Int, x = (nv l : Nat) := ⟨_, rfl⟩
  rw [← hx] at HC hr
  have HR : Hid (r = wrap64 x) := hr
  clear h h1 hx hr
  go_enter Try.func32, Try.ntmps32
  go_wp2_with fail
  refine HC.mono ?_
  rintro e w1 ⟨rfl, rfl⟩
  go_wp2
  go_ret
  exact ⟨by rw [HR.out]; rfl, rfl⟩

end Go.Proofs.Ytmjgamokddedkaa
