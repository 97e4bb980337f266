/-
  Parts of a slice: of entries, of octets.
-/
import Derived.Test.YtopcefhncildnaaGreatDoorZ25
import Derived.Laws.CopyOwn
import Derived.Deep.OwnRows
import Derived.Lib.AppendZeros
import Derived.Deep.AppendLies
namespace Go.Proofs.YtopcefhncildnaaGreatDoor.D
open Go.RowKit
end Go.Proofs.YtopcefhncildnaaGreatDoor.D
namespace Go.Proofs.YtopcefhncildnaaGreatDoor
open Go.RowKit
open D
theorem Cells.sub {n0 : Nat} {w : World} {size : Nat} {a : Option Addr} {len cap : Nat} {us : List Value} (h : Cells n0 w size (.slice a len cap) len us) (i j : Nat) (hij : i ≤ j) (hj : j ≤ len) :
   Cells n0 w size (sliced a i j cap size) (j - i) ((us.take (j * size)).drop (i * size)) := by
 have hus := h.1
 have hjl : j * size ≤ len * size := Nat.mul_le_mul_right _ hj
 have hl : ((us.take (j * size)).drop (i * size)).length = (j - i) * size := by
   rw [List.length_drop, List.length_take, hus, Nat.min_eq_left hjl, Nat.sub_mul]
 obtain ⟨_, ⟨hv, h0⟩ | ⟨x, c, hv, hcap, hm, hb, hc⟩⟩ := h
 · obtain ⟨rfl, rfl, rfl⟩ := Value.slice.inj hv
   obtain rfl : j = 0 := by omega
   obtain rfl : i = 0 := by omega
   exact ⟨hl, .inl ⟨by simp [sliced], by simp⟩⟩
 · obtain ⟨rfl, _, rfl⟩ := Value.slice.inj hv
   refine ⟨hl, .inr ?_⟩
   by_cases e : cap = i
   · refine ⟨x, cap - i, ?_, by omega, by omega, hb, fun k u hk => ?_⟩
     · unfold sliced
       rw [if_pos e]
     · have hk1 := (List.getElem?_eq_some_iff.1 hk).1
       rw [hl, show j - i = 0 by omega] at hk1
       omega
   · have hblk : (x.add (i * size)).block = x.block := by unfold Addr.add; split <;> rfl
     refine ⟨x.add (i * size), cap - i, ?_, by omega, by omega, by rw [hblk]; exact hb, fun k u hk => ?_⟩
     · unfold sliced
       rw [if_neg e]
       rfl
     · have hk0 : k < (j - i) * size := by
         have := (List.getElem?_eq_some_iff.1 hk).1
         rwa [hl] at this
       rw [Nat.sub_mul] at hk0
       have h1 := hc (i * size + k) u (by
         rw [List.getElem?_drop, List.getElem?_take, if_pos (by omega)] at hk
         exact hk)
       rw [add_add]
       exact h1
end Go.Proofs.YtopcefhncildnaaGreatDoor
namespace Go.Proofs.YtopcefhncildnaaGreatDoor.D
open Go.RowKit
theorem elem25 : Tryz.prog.underlying 42 = some (.slice (Tryz.prog.elem 42)) := by kernel_rfl
theorem elem25_is : Tryz.prog.elem 42 = 49 := by kernel_rfl
theorem size34 (W : World) : (sizeOf (Tryz.prog.elem 42)).run Tryz.prog W = .ok 2 W := by
 obtain ⟨i0, hi, hz0, hz1, hz2⟩ := info_parts Tryz.info49
 rw [elem25_is]
 simp [sizeOf, typeInfo, hi, hz1]
theorem elem47_is : Tryz.prog.elem 25 = 5 := by kernel_rfl
theorem size5 (W : World) : (sizeOf (Tryz.prog.elem 25)).run Tryz.prog W = .ok 1 W := by
 obtain ⟨i0, hi, hz0, hz1, hz2⟩ := info_parts Tryz.info5
 rw [elem47_is]
 simp [sizeOf, typeInfo, hi, hz1]
theorem ArgE.sub {n0 : Nat} {w : World} {a : Option Addr} {len cap : Nat} {l : List En} (h : ArgE n0 w (.slice a len cap) l) (i j : Nat) (hij : i ≤ j) (hj : j ≤ l.length) : ArgE n0 w (sliced a i j cap 2) ((l.take j).drop i) := by
 have hlen : ((l.take j).drop i).length = j - i := by rw [List.length_drop, List.length_take, Nat.min_eq_left hj]
 obtain ⟨a', c', hv, _⟩ := h.shape
 obtain ⟨_, rfl, _⟩ := Value.slice.inj hv
 refine ⟨?_, (h.2.take j).drop i⟩
 rw [hlen, evs_drop, evs_take]
 exact h.1.sub i j hij hj
theorem ArgE.ahead {n0 : Nat} {w : World} {v : Value} {l : List En} (h : ArgE n0 w v l) (j : Nat) (hj : j ≤ l.length) :
   ∃ v', ArgE n0 w v' (l.take j) ∧ ∀ W, (Instr.slice 42 v none (some (.int .i64 j)) none).run Tryz.prog W = .ok v' W := by
 obtain ⟨a, cap, rfl, hcap, _⟩ := h.shape
 refine ⟨_, by simpa using h.sub 0 j (by omega) hj, fun W => ?_⟩
 rw [run_slice_h W 42 a l.length cap elem25 .i64 j (by omega) (by omega), size34]
 simp [Result.andThen]
theorem ArgE.behind {n0 : Nat} {w : World} {v : Value} {l : List En} (h : ArgE n0 w v l) (i : Nat) (hi : i ≤ l.length) :
   ∃ v', ArgE n0 w v' (l.drop i) ∧ ∀ W, (Instr.slice 42 v (some (.int .i64 i)) none none).run Tryz.prog W = .ok v' W := by
 obtain ⟨a, cap, rfl, hcap, _⟩ := h.shape
 refine ⟨_, by simpa using h.sub i l.length hi (Nat.le_refl _), fun W => ?_⟩
 rw [run_slice_l W 42 a l.length cap elem25 .i64 i (by omega) (by omega), size34]
 simp [Result.andThen]
end Go.Proofs.YtopcefhncildnaaGreatDoor.D
