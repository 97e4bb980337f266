/-
  A part of a slice that came in, as the walks ask for it: its octets are that part of the octets; how long a slice is.
-/
import Derived.Test.YtmjgamokddedkaaCExtend
namespace Go.Proofs.Ytmjgamokddedkaa.C
open Go.RowKit

theorem part_length (l : List Int) (i j : Nat) (hj : j ≤ l.length) : ((l.take j).drop i).length = j - i := by
  rw [List.length_drop, List.length_take, Nat.min_eq_left hj]

theorem Arg.sub {w : World} {a : Option Addr} {len cap : Nat} {l : List Int} (h : Arg w (.slice a len cap) l) (i j : Nat) (hij : i ≤ j) (hj : j ≤ l.length) : Arg w (sliced a i j cap 1) ((l.take j).drop i) := by
  rcases h with ⟨hv, rfl⟩ | ⟨x, c, hv, hcap, hm, hc, hr⟩
  · obtain ⟨rfl, rfl, rfl⟩ := Value.slice.inj hv
    obtain rfl : j = 0 := by simpa using hj
    obtain rfl : i = 0 := by omega
    exact .inl ⟨rfl, rfl⟩
  · obtain ⟨rfl, rfl, rfl⟩ := Value.slice.inj hv
    have hr' : ∀ y ∈ (l.take j).drop i, 0 ≤ y ∧ y ≤ 255 := fun y hy => hr y (List.mem_of_mem_take (List.mem_of_mem_drop hy))
    have hl := part_length l i j hj
    by_cases e : cap = i
    · refine .inr ⟨x, cap - i, ?_, by omega, by omega, fun k hk => by omega, hr'⟩
      unfold sliced
      rw [if_pos e, hl]
    · refine .inr ⟨x.add (i * 1), cap - i, ?_, by omega, by omega, fun k hk => ?_, hr'⟩
      · unfold sliced
        rw [if_neg e, hl]
        rfl
      · have h1 := hc (i + k) (by omega)
        obtain ⟨b, off, spot⟩ := x
        have h0 := hc 0 (by omega)
        have hspot : spot = none := by simpa [Addr.add] using World.cell?_spot h0
        subst hspot
        rw [add_plain] at h1
        rw [add_plain, add_plain, Nat.mul_one, Nat.add_assoc, h1]
        congr 2
        have : k < j - i := by omega
        simp only [List.getD_eq_getElem?_getD, List.getElem?_drop, List.getElem?_take]
        rw [if_pos (by omega)]

theorem Arg.shape {w : World} {v : Value} {l : List Int} (h : Arg w v l) : ∃ a cap, v = .slice a l.length cap ∧ l.length ≤ cap ∧ l.length ≤ maxLen := by
  rcases h with ⟨rfl, rfl⟩ | ⟨x, c, rfl, hcap, hm, hc, hr⟩
  · exact ⟨none, 0, rfl, Nat.le_refl _, by simp [maxLen]⟩
  · exact ⟨_, c, rfl, hcap, hm⟩

theorem Arg.len {w : World} {v : Value} {l : List Int} (h : Arg w v l) (W : World) : (Builtin.len_ #[25] 3 #[v]).run Try.prog W = .ok (.int .i64 l.length) W := by
  obtain ⟨a, cap, rfl, _, _⟩ := h.shape
  simp [Builtin.len_, run_underlying Try.underlying25, goInt]

theorem elem22 : Try.prog.underlying 25 = some (.slice (Try.prog.elem 25)) := by kernel_rfl
theorem elem22_is : Try.prog.elem 25 = 5 := by kernel_rfl
theorem size5 (W : World) : (sizeOf (Try.prog.elem 25)).run Try.prog W = .ok 1 W := by
  obtain ⟨i0, hi, hz0, hz1, hz2⟩ := info_parts Try.info5
  rw [elem22_is]
  simp [sizeOf, typeInfo, hi, hz1]

theorem Arg.cut {w : World} {v : Value} {l : List Int} (h : Arg w v l) (i j : Nat) (hij : i ≤ j) (hj : j ≤ l.length) :
    ∃ v', Arg w v' ((l.take j).drop i) ∧ ∀ W, (Instr.slice 25 v (some (.int .i64 i)) (some (.int .i64 j)) none).run Try.prog W = .ok v' W := by
  obtain ⟨a, cap, rfl, hcap, _⟩ := h.shape
  refine ⟨_, h.sub i j hij hj, fun W => ?_⟩
  rw [run_slice_lh W 25 a l.length cap elem22 .i64 .i64 i j (by omega) (by omega) (by omega), size5]
  simp [Result.andThen]

theorem Arg.ahead {w : World} {v : Value} {l : List Int} (h : Arg w v l) (j : Nat) (hj : j ≤ l.length) :
    ∃ v', Arg w v' (l.take j) ∧ ∀ W, (Instr.slice 25 v none (some (.int .i64 j)) none).run Try.prog W = .ok v' W := by
  obtain ⟨a, cap, rfl, hcap, _⟩ := h.shape
  refine ⟨_, by simpa using h.sub 0 j (by omega) hj, fun W => ?_⟩
  rw [run_slice_h W 25 a l.length cap elem22 .i64 j (by omega) (by omega), size5]
  simp [Result.andThen]

theorem Arg.behind {w : World} {v : Value} {l : List Int} (h : Arg w v l) (i : Nat) (hi : i ≤ l.length) :
    ∃ v', Arg w v' (l.drop i) ∧ ∀ W, (Instr.slice 25 v (some (.int .i64 i)) none none).run Try.prog W = .ok v' W := by
  obtain ⟨a, cap, rfl, hcap, _⟩ := h.shape
  refine ⟨_, by simpa using h.sub i l.length hi (Nat.le_refl _), fun W => ?_⟩
  rw [run_slice_l W 25 a l.length cap elem22 .i64 i (by omega) (by omega), size5]
  simp [Result.andThen]

end Go.Proofs.Ytmjgamokddedkaa.C
