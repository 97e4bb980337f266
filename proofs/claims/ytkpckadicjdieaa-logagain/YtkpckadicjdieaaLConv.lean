/-
  Octets of a constant; the example's stores.
-/
import Derived.Test.YtkpckadicjdieaaLNew
namespace Go.Proofs.Ytkpckadicjdieaa
open Go.RowKit

theorem Cells.box {n0 : Nat} {w : World} {B : Nat} {t : TypeId} {cs : Array Value} {n : Nat} (h : Box w B t cs) (hn : cs.size = n) (hm : n ≤ maxLen) (hb : n0 ≤ B) : Cells n0 w 1 (.slice (some ⟨B, 0, none⟩) n n) n cs.toList := by
  refine ⟨by simp [hn], .inr ⟨⟨B, 0, none⟩, n, rfl, Nat.le_refl _, hm, hb, fun j u hu => ?_⟩⟩
  rw [add_plain, Nat.zero_add]
  exact h.cell j (by simpa using hu)

/-- The conversion of a constant's octets: the row is marked, no cell is another one. -/
theorem conv_mark (V : World) (g n c : Nat) (C : Array Value) (h : V.heap[g]? = some (.cells C 5 (0, 0))) :
    ∃ V', (convert 27 27 (.slice (some ⟨g, 0, none⟩) n c)).run Try.prog V = .ok (.slice (some ⟨g, 0, none⟩) n c) V' ∧ Below g V V' ∧ (∀ p, V'.cell? p = V.cell? p) := by
  have hsh : V.shape? g = some (5, C.size) := by
    unfold World.shape?
    rw [h]
  have hlt : g < V.heap.size := (Array.getElem?_eq_some_iff.1 h).1
  have hblk : ∀ k, k ≠ g → (V.freeze ⟨g, C.size, none⟩ 1).heap[k]? = V.heap[k]? := fun k hk => by
    unfold World.freeze
    rw [if_neg (by decide)]
    show (V.heap.modify g _)[k]? = _
    rw [Array.getElem?_modify, if_neg (Ne.symm hk)]
  have hown : (V.freeze ⟨g, C.size, none⟩ 1).heap[g]? = some (.cells C 5 (C.size, C.size + 1)) := by
    unfold World.freeze
    rw [if_neg (by decide)]
    show (V.heap.modify g _)[g]? = _
    rw [Array.getElem?_modify, if_pos rfl, h]
    rfl
  refine ⟨V.freeze ⟨g, C.size, none⟩ 1, ?_, ⟨?_, ?_, ?_, ?_, fun k hk => hblk k (by omega)⟩, fun p => ?_⟩
  · simp [convert, run_underlying Try.underlying27, run_underlying Try.underlying5, markStringish, hsh]
  · unfold World.freeze; rw [if_neg (by decide)]
  · unfold World.freeze; rw [if_neg (by decide)]
  · unfold World.freeze; rw [if_neg (by decide)]
  · unfold World.freeze; rw [if_neg (by decide)]; simp
  · by_cases hp : p.block = g
    · unfold World.cell?
      rw [hp, hown, h]
    · unfold World.cell?
      rw [hblk _ hp]
theorem Arg.same {n0 : Nat} {V V' : World} {v : Value} {l : List Int} (h : Arg n0 V v l) (hc : ∀ p, V'.cell? p = V.cell? p) : Arg n0 V' v l := by
  refine Arg.mk ?_ h.oct
  obtain ⟨h1, h2⟩ := h.cells
  refine ⟨h1, h2.imp id ?_⟩
  rintro ⟨x, cap, rfl, a1, a2, a3, a4⟩
  exact ⟨x, cap, rfl, a1, a2, a3, fun j u hu => by rw [hc]; exact a4 j u hu⟩


abbrev x1 : St := ([(0, []), (0, [])], [false, false], [], 1)
abbrev x2 : St := ([(0, []), (0, [])], [false, false], [(1, 0, [97])], 1)
abbrev x3 : St := ([(1, [(1, 0, [97])]), (0, [])], [false, false], [], 2)
abbrev x4 : St := ([(1, [(1, 0, [97])]), (0, [])], [false, false], [(1, 0, [98])], 2)
abbrev x5 : St := ([(1, [(1, 0, [97])]), (2, [(1, 0, [98])])], [false, false], [], 3)
abbrev x6 : St := ([(0, []), (2, [(1, 0, [98])])], [false, false], [], 3)
theorem e1 : nE 2 = 0 ∧ nS 2 = x1 := ⟨by kernel_rfl, by kernel_rfl⟩
theorem e2 : pE x1 (1, 0, [97]) = 0 ∧ pS x1 (1, 0, [97]) = x2 := ⟨by kernel_rfl, by kernel_rfl⟩
theorem e3 : sE x2 = 0 ∧ sS x2 = x3 ∧ sP x2 = 0 := ⟨by kernel_rfl, by kernel_rfl, by kernel_rfl⟩
theorem e4 : pE x3 (1, 0, [98]) = 0 ∧ pS x3 (1, 0, [98]) = x4 := ⟨by kernel_rfl, by kernel_rfl⟩
theorem e5 : sE x4 = 0 ∧ sS x4 = x5 ∧ sP x4 = 1 := ⟨by kernel_rfl, by kernel_rfl, by kernel_rfl⟩
theorem e6 : uE x5 0 = 0 ∧ lL x5 0 = [] := ⟨by kernel_rfl, by kernel_rfl⟩
theorem e7 : fE x5 0 = 0 ∧ fS x5 0 = x6 := ⟨by kernel_rfl, by kernel_rfl⟩
theorem e8 : okE x6 = 0 ∧ gB x6 1 0 = [98] := ⟨by kernel_rfl, by kernel_rfl⟩

end Go.Proofs.Ytkpckadicjdieaa
