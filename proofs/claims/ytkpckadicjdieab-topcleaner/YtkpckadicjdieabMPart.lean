/-
  The first octets of a slice; the steps of a law, as the form reads them.
-/
import Derived.Test.YtkpckadicjdieabZ11
import Derived.Lib.SliceRun
namespace Go.Proofs.Ytkpckadicjdieab
open Go.ChangeShapes Go.WideShapes Go.ChangeAt Go.RowKit

theorem part_length (l : List Int) (i j : Nat) (hj : j ≤ l.length) : ((l.take j).drop i).length = j - i := by
  rw [List.length_drop, List.length_take, Nat.min_eq_left hj]
theorem Arg.subm {n0 : Nat} {w : World} {a : Option Addr} {len cap : Nat} {l : List Int} (h : Arg n0 w (.slice a len cap) l) (i j m : Nat) (hij : i ≤ j) (hj : j ≤ l.length) (hjm : j ≤ m) (hm' : m ≤ cap) : Arg n0 w (sliced a i j m 1) ((l.take j).drop i) := by
  have ho : Oct ((l.take j).drop i) := fun y hy => h.oct y (List.mem_of_mem_take (List.mem_of_mem_drop hy))
  have hl := part_length l i j hj
  obtain ⟨_, ⟨hv, h0⟩ | ⟨x, c, hv, hcap, hm, hb, hc⟩⟩ := h.cells
  · obtain ⟨rfl, rfl, rfl⟩ := Value.slice.inj hv
    obtain rfl : j = 0 := by omega
    obtain rfl : i = 0 := by omega
    obtain rfl : m = 0 := by omega
    exact .mk ⟨by simp, .inl ⟨by simp [sliced], by simp⟩⟩ (by simpa using ho)
  · obtain ⟨rfl, rfl, rfl⟩ := Value.slice.inj hv
    refine .mk ⟨by simp, .inr ?_⟩ ho
    by_cases e : m = i
    · refine ⟨x, m - i, ?_, by omega, by omega, hb, fun k u hk => ?_⟩
      · unfold sliced
        rw [if_pos e, hl]
      · have : k < ((l.take j).drop i).length := by
          have := (List.getElem?_eq_some_iff.1 hk).1
          simpa using this
        omega
    · have hblk : (x.add (i * 1)).block = x.block := by unfold Addr.add; split <;> rfl
      refine ⟨x.add (i * 1), m - i, ?_, by omega, by omega, by rw [hblk]; exact hb, fun k u hk => ?_⟩
      · unfold sliced
        rw [if_neg e, hl]
        rfl
      · have hk0 : k < j - i := by
          have := (List.getElem?_eq_some_iff.1 hk).1
          rw [List.length_map, hl] at this
          exact this
        have h1 := hc (i + k) u (by
          rw [List.getElem?_map] at hk ⊢
          rw [List.getElem?_drop, List.getElem?_take, if_pos (by omega)] at hk
          exact hk)
        have hpos : 0 < l.length := by omega
        have h0 := hc 0 (.int .u8 (l.getD 0 0)) (by simp [hpos])
        obtain ⟨b, off, spot⟩ := x
        have hspot : spot = none := by simpa [Addr.add] using World.cell?_spot h0
        subst hspot
        rw [add_plain] at h1
        rw [add_plain, add_plain, Nat.mul_one, Nat.add_assoc, h1]
theorem Arg.sub {n0 : Nat} {w : World} {a : Option Addr} {len cap : Nat} {l : List Int} (h : Arg n0 w (.slice a len cap) l) (i j : Nat) (hij : i ≤ j) (hj : j ≤ l.length) : Arg n0 w (sliced a i j cap 1) ((l.take j).drop i) := by
  obtain ⟨a', c', hv, h1, _⟩ := h.shape
  obtain ⟨rfl, rfl, rfl⟩ := Value.slice.inj hv
  exact h.subm i j cap hij hj (by omega) (Nat.le_refl _)
theorem elem25 : Try.prog.underlying 46 = some (.slice (Try.prog.elem 46)) := by kernel_rfl
theorem elem25_is : Try.prog.elem 46 = 5 := by kernel_rfl
theorem size5 (W : World) : (sizeOf (Try.prog.elem 46)).run Try.prog W = .ok 1 W := by
  obtain ⟨i0, hi, hz0, hz1, hz2⟩ := info_parts Try.info5
  rw [elem25_is]
  simp [sizeOf, typeInfo, hi, hz1]
theorem Arg.ahead {n0 : Nat} {w : World} {v : Value} {l : List Int} (h : Arg n0 w v l) (j : Nat) (hj : j ≤ l.length) :
    ∃ v', Arg n0 w v' (l.take j) ∧ ∀ W, (Instr.slice 46 v none (some (.int .i64 j)) none).run Try.prog W = .ok v' W := by
  obtain ⟨a, cap, rfl, hcap, _⟩ := h.shape
  refine ⟨_, by simpa using h.sub 0 j (by omega) hj, fun W => ?_⟩
  rw [run_slice_h W 46 a l.length cap elem25 .i64 j (by omega) (by omega), size5]
  simp [Result.andThen]

/-- A step: what, owner, index, octets, number. -/
abbrev Sp := Int × Int × Int × List Int × Int
def spF : Fields Sp := i64S.and (i64S.and (i64S.and (bytesS.and i64S.only)))
theorem sp_view {n : Nat} {w : World} {us : List Value} {p : Sp} (h : spF.lies n w us p) : ∃ a cap, us = [.int .i64 p.1, .int .i64 p.2.1, .int .i64 p.2.2.1, .slice a p.2.2.2.1.length cap, .int .i64 p.2.2.2.2] ∧ Arg n w (.slice a p.2.2.2.1.length cap) p.2.2.2.1 ∧ I64 p.1 ∧ I64 p.2.1 ∧ I64 p.2.2.1 ∧ I64 p.2.2.2.2 := by
  obtain ⟨u1, r, rfl, ⟨rfl, h1⟩, u2, r2, rfl, ⟨rfl, h2⟩, u3, r3, rfl, ⟨rfl, h3⟩, u4, r4, rfl, ⟨v, rfl, hC, ho⟩, rfl, h4⟩ := h
  obtain ⟨a, cap, rfl, _⟩ := hC.shape
  exact ⟨a, cap, rfl, ⟨_, rfl, hC, ho⟩, bounds_i64 h1, bounds_i64 h2, bounds_i64 h3, bounds_i64 h4⟩
theorem Box.five {w : World} {B : Nat} {t : TypeId} {u v x y z : Value} (h : Box w B t #[u, v, x, y, z]) : w.cell? ⟨B, 0, none⟩ = some u ∧ w.cell? ⟨B, 1, none⟩ = some v ∧ w.cell? ⟨B, 2, none⟩ = some x ∧ w.cell? ⟨B, 3, none⟩ = some y ∧ w.cell? ⟨B, 4, none⟩ = some z := ⟨h.cell 0 rfl, h.cell 1 rfl, h.cell 2 rfl, h.cell 3 rfl, h.cell 4 rfl⟩

end Go.Proofs.Ytkpckadicjdieab
