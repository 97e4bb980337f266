/-
  Parts of a list of octets that is owned, as the walk asks for them.
-/
import Derived.Test.YtpecniajamgjiaaCountsMath
namespace Go.Proofs.Ytpecniajamgjiaa
open Go.RowKit

theorem elem25 : Try.prog.underlying 25 = some (.slice (Try.prog.elem 25)) := by kernel_rfl
theorem elem25_is : Try.prog.elem 25 = 5 := by kernel_rfl
theorem size25 (W : World) : (sizeOf (Try.prog.elem 25)).run Try.prog W = .ok 1 W := by
  obtain ⟨i0, hi, hz0, hz1, hz2⟩ := info_parts Try.info5
  rw [elem25_is]
  simp [sizeOf, typeInfo, hi, hz1]

theorem cut_sub {w : World} {l : List Int} {x : Addr} {cap i j : Nat} (hj : j ≤ l.length) (hcap : l.length ≤ cap) (hc : ∀ (t : Nat) (u : Value), (l.map (Value.int .u8))[t]? = some u → w.cell? (x.add t) = some u) :
    ∃ ad, sliced (some x) i j cap 1 = .slice (some ad) (j - i) (cap - i) ∧ ∀ (t : Nat) (u : Value), (((l.take j).drop i).map (Value.int .u8))[t]? = some u → w.cell? (ad.add t) = some u := by
  by_cases e : cap = i
  · refine ⟨x, by unfold sliced; rw [if_pos e], fun t u ht => ?_⟩
    have h0 : (l.take j).drop i = [] := List.drop_eq_nil_of_le (by rw [List.length_take]; omega)
    rw [h0] at ht
    simp at ht
  · refine ⟨x.add (i * 1), by unfold sliced; rw [if_neg e]; rfl, fun t u ht => ?_⟩
    rw [add_add, Nat.mul_one]
    refine hc _ _ ?_
    simp only [List.getElem?_map, List.getElem?_drop, List.getElem?_take] at ht ⊢
    split at ht
    · exact ht
    · simp at ht

/-- What lies ahead of the k-th octet, and what lies behind it. -/
theorem cut_two {n0 : Nat} {w : World} {va : Option Addr} {n vc : Nat} {l : List Int} (hn : n = l.length) (h : Arg n0 w (.slice va n vc) l) (k : Nat) (hk : k < n) :
    ∃ a1 c1 a2 c2, (∀ W, (Instr.slice 25 (.slice va n vc) none (some (.int .i64 k)) none).run Try.prog W = .ok (.slice (some a1) k c1) W) ∧
      (∀ W, (Instr.slice 25 (.slice va n vc) (some (.int .i64 ((k : Int) + 1))) none none).run Try.prog W = .ok (.slice (some a2) (n - (k + 1)) c2) W) ∧
      (∀ (t : Nat) (u : Value), ((l.take k).map (Value.int .u8))[t]? = some u → w.cell? (a1.add t) = some u) ∧ (∀ (t : Nat) (u : Value), ((l.drop (k + 1)).map (Value.int .u8))[t]? = some u → w.cell? (a2.add t) = some u) := by
  obtain ⟨_, ⟨hv, h0⟩ | ⟨x, cap, hv, hcap, _, _, hc⟩⟩ := h.cells
  · omega
  · obtain ⟨rfl, _, rfl⟩ := Value.slice.inj hv
    obtain ⟨a1, e1, q1⟩ := cut_sub (i := 0) (j := k) (by omega) hcap hc
    obtain ⟨a2, e2, q2⟩ := cut_sub (i := k + 1) (j := n) (by omega) hcap hc
    refine ⟨a1, vc, a2, vc - (k + 1), fun W => ?_, fun W => ?_, by simpa using q1, ?_⟩
    · rw [run_slice_h W 25 (some x) n vc elem25 .i64 k (by omega) (by omega), size25]
      simp only [Result.andThen, Int.toNat_natCast]
      rw [e1]
      rfl
    · rw [run_slice_l W 25 (some x) n vc elem25 .i64 ((k : Int) + 1) (by omega) (by omega), size25]
      simp only [Result.andThen]
      rw [show ((k : Int) + 1).toNat = k + 1 by omega, e2]
    · rw [List.take_of_length_le (by omega)] at q2
      exact q2
theorem erase_two (l : List Int) (k : Nat) : l.eraseIdx k = l.take k ++ l.drop (k + 1) := List.eraseIdx_eq_take_drop_succ _ _

end Go.Proofs.Ytpecniajamgjiaa
