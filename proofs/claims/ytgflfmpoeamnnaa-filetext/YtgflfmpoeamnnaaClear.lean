/-
  What clear does to the end of a row of octets.
-/
import Derived.Test.YtgflfmpoeamnnaaWrite
import Derived.Laws.IdiomCopy
namespace Go.Proofs.Ytgflfmpoeamnnaa
open Go.RowKit

/-- Cells from o on, written over. -/
def sets : Array Value → Nat → List Value → Array Value
  | cs, _, [] => cs
  | cs, o, v :: r => sets (cs.setIfInBounds o v) (o + 1) r
theorem sets_size : ∀ (vs : List Value) (cs : Array Value) (o : Nat), (sets cs o vs).size = cs.size
  | [], _, _ => rfl
  | v :: r, cs, o => by rw [sets, sets_size r]; simp
theorem sets_get : ∀ (vs : List Value) (cs : Array Value) (o i : Nat), o + vs.length ≤ cs.size → (sets cs o vs)[i]? = if o ≤ i ∧ i < o + vs.length then vs[i - o]? else cs[i]?
  | [], cs, o, i, _ => by rw [sets, if_neg (by simp)]
  | v :: r, cs, o, i, h => by
    simp only [List.length_cons] at h
    rw [sets, sets_get r _ (o + 1) i (by simp; omega), Array.getElem?_setIfInBounds]
    simp only [List.length_cons]
    by_cases h1 : o + 1 ≤ i ∧ i < o + 1 + r.length
    · rw [if_pos h1, if_pos (by omega), show i - o = (i - (o + 1)) + 1 by omega]
      simp
    · rw [if_neg h1]
      by_cases h2 : o = i
      · subst h2
        rw [if_pos rfl, if_pos (by omega), if_pos (by omega)]
        simp
      · rw [if_neg h2, if_neg (by omega)]
theorem Box.setCells {t : TypeId} {B : Nat} : ∀ (vs : List Value) (o : Nat) {w : World} {cs : Array Value}, Box w B t cs → Box (w.setCells B o vs) B t (sets cs o vs)
  | [], _, _, _, h => h
  | v :: r, o, _, _, h => Box.setCells r (o + 1) (h.set o v)
theorem grown_setCells {B : Nat} : ∀ (vs : List Value) (o : Nat) (w : World), w.grownBy (w.setCells B o vs) (some B)
  | [], _, _ => ⟨rfl, rfl, rfl, Nat.le_refl _, fun _ _ _ => rfl⟩
  | v :: r, o, w => (grown_set w B o v).trans (grown_setCells r (o + 1) _)

theorem zero_cells (k : Nat) : (Builtin.zeroCells (Value.int .u8 0).cells k).toList = List.replicate k (.int .u8 0) := by
  apply List.ext_getElem?
  intro i
  by_cases h : i < k
  · simp [Builtin.zeroCells, Value.cells, h, Nat.mod_one]
  · simp [Builtin.zeroCells, Value.cells, h]

theorem zero5 (w : World) : (zeroValue 5).run Try.prog w = .ok (.int .u8 0) w := by
  obtain ⟨i, hi, hz, _⟩ := info_parts Try.info5
  simp [zeroValue, typeInfo, hi, hz]

theorem run_clear (w : World) (ty : TypeId) (g m : Nat) (l : List Int) (h : Row w g l) (hm : m ≤ 32) :
    ∃ a n c W', (∀ W, (Instr.slice 25 (rowV g) (some (.int .i64 m)) none none).run Try.prog W = .ok (.slice a n c) W) ∧ (Builtin.clear_ #[25] ty #[.slice a n c]).run Try.prog w = .ok (.tuple #[]) W' ∧ Row W' g (clr l m) ∧ w.grownBy W' (some g) := by
  have hl := h.2.1
  by_cases e : m = 32
  · subst e
    refine ⟨some ⟨g, 0, none⟩, 0, 0, w, fun W => ?_, ?_, ?_, ⟨rfl, rfl, rfl, Nat.le_refl _, fun _ _ _ => rfl⟩⟩
    · unfold rowV
      rw [run_slice_l W 25 (some ⟨g, 0, none⟩) 32 32 elem25 .i64 _ (by omega) (by omega), size5]
      simp [Result.andThen, sliced]
    · simp [Builtin.clear_, run_underlying Try.underlying25]
    · rw [show clr l 32 = l from alike (clr_length _ _) fun i hi => by
        rw [clr_length] at hi
        rw [clr_get _ _ _ hi, if_pos (by omega)]]
      exact h
  · have hst := run_storeCells_cells (P := Try.prog) g m (List.replicate (32 - m) (.int .u8 0)) 0 w (fun j hj => by
        rw [List.length_replicate] at hj
        have : w.cell? ⟨g, m + j, none⟩ = some (.int .u8 (l.getD (m + j) 0)) := by
          have hx : (l.map (Value.int .u8))[m + j]? = some (.int .u8 (l.getD (m + j) 0)) := by
            have : m + j < l.length := by omega
            simp [this]
          simp [World.cell?, h.1, hx]
        simp [this]) (fun j _ => by simp [World.frozen?, h.1]) (fun v hv => by rw [(List.mem_replicate.1 hv).2]; rfl)
    simp only [Nat.add_zero] at hst
    refine ⟨some ⟨g, m, none⟩, 32 - m, 32 - m, w.setCells g m (List.replicate (32 - m) (.int .u8 0)), fun W => ?_, ?_, ⟨?_, by rw [clr_length]; exact hl, clr_oct h.2.2 _⟩, grown_setCells _ _ _⟩
    · unfold rowV
      rw [run_slice_l W 25 (some ⟨g, 0, none⟩) 32 32 elem25 .i64 _ (by omega) (by omega), size5]
      simp only [Result.andThen, sliced, Int.toNat_natCast]
      rw [if_neg (by omega)]
      simp [add_plain]
    · obtain ⟨k, hk⟩ : ∃ k, 32 - m = k + 1 := ⟨31 - m, by omega⟩
      rw [hk] at hst ⊢
      simp [Builtin.clear_, run_underlying Try.underlying25, zero_cells, hst]
    · have hbx := Box.setCells (t := 5) (B := g) (List.replicate (32 - m) (.int .u8 0)) m (w := w) (cs := (l.map (Value.int .u8)).toArray) h.1
      have : sets (l.map (Value.int .u8)).toArray m (List.replicate (32 - m) (.int .u8 0)) = ((clr l m).map (Value.int .u8)).toArray := by
        apply Array.ext'
        apply List.ext_getElem?
        intro i
        rw [Array.getElem?_toList, sets_get _ _ _ _ (by simp; omega), List.length_replicate]
        by_cases hi : i < 32
        · have hc : (clr l m)[i]? = some ((clr l m).getD i 0) := by
            have : i < (clr l m).length := by rw [clr_length]; omega
            simp [this]
          simp only [List.getElem?_toArray, List.getElem?_map, hc, Option.map_some]
          rw [clr_get _ _ _ (by omega)]
          by_cases hc2 : i < m
          · rw [if_neg (by omega), if_pos hc2]
            have : i < l.length := by omega
            simp [this]
          · rw [if_pos (by omega), if_neg hc2]
            rw [List.getElem?_replicate, if_pos (by omega)]
        · rw [if_neg (by omega)]
          have h1 : l.length ≤ i := by omega
          have h2 : (clr l m).length ≤ i := by rw [clr_length]; omega
          simp [h1, h2]
      rw [this] at hbx
      exact hbx

end Go.Proofs.Ytgflfmpoeamnnaa
