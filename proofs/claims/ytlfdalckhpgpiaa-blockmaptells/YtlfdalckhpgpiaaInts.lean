/-
  Lists of numbers: how they lie in memory.
-/
import Derived.Test.YtlfdalckhpgpiaaShape
namespace Go.Proofs.Ytlfdalckhpgpiaa
open Go.RowKit

theorem Try.info3 : (Try.prog.info? 3).map (fun i => (i.zero, i.size, i.bytes)) = some (some (.int .i64 0), 1, 8) := by kernel_rfl

def I64 (x : Int) : Prop := -9223372036854775808 ≤ x ∧ x ≤ 9223372036854775807
theorem I64.wf {x : Int} (h : I64 x) : (Lit.int .i64 x).wf = true := by
  obtain ⟨h1, h2⟩ := h
  simp [Lit.wf, IntKind.min, IntKind.max, IntKind.signed, IntKind.bits]
  omega

def i64L : Leaf Int := intL .i64 3 Try.underlying3 (by kernel_rfl)
def i64S : Shape Int := i64L.shape
theorem cells22 : Try.prog.cellsOf 22 = 1 := by kernel_rfl
def intsS : Shape (List Int) := i64L.row 22 Try.underlying22 cells22

theorem ints_at {n : Nat} {w : World} {v : Value} {l : List Int} (h : intsS.lies n w [v] l) (i : Nat) (x : Int) (hx : l[i]? = some x) : ∃ b o, (∀ W, (Instr.indexAt 22 v (.int .i64 i)).run Try.prog W = .ok (.pointer (some ⟨b, o, none⟩)) W) ∧ w.cell? ⟨b, o, none⟩ = some (.int .i64 x) ∧ I64 x := by
  obtain ⟨i0, hi0, _, hz, _⟩ := info_parts Try.info3
  obtain ⟨b, o, h1, _, h3, h4⟩ := Leaf.row_at (L := i64L) (t := 22) (ht := Try.underlying22) (hc := cells22) h hi0 hz i x hx
  exact ⟨b, o, h1, h3, bounds_i64 h4⟩
theorem ints_len {n : Nat} {w : World} {us : List Value} {l : List Int} (h : intsS.lies n w us l) : ∃ a cap, us = [.slice a l.length cap] ∧ l.length ≤ cap ∧ l.length ≤ maxLen ∧ (a = none → l.length = 0) :=
  Leaf.row_len (L := i64L) (t := 22) (ht := Try.underlying22) (hc := cells22) h
theorem ints_in {n : Nat} {w : World} {us : List Value} {l : List Int} (h : intsS.lies n w us l) : ∀ x ∈ l, I64 x := by
  obtain ⟨_, _, _, h⟩ := h
  exact fun x hx => bounds_i64 (h x hx)
theorem ints_own {n : Nat} {w : World} {v : Value} {l : List Int} (h : intsS.owns n w [v] l) : w.ownsRow n 3 1 v l.length (l.map (Value.int .i64)) := by
  obtain ⟨v', hv, hC, _⟩ := h
  obtain rfl : v = v' := by simpa using hv
  exact hC
theorem ints_omk {n : Nat} {w : World} {v : Value} {l : List Int} (h : w.ownsRow n 3 1 v l.length (l.map (Value.int .i64))) (hi : ∀ x ∈ l, I64 x) : intsS.owns n w [v] l := ⟨v, rfl, h, fun x hx => (hi x hx).wf⟩
theorem ints_shape {n : Nat} {w : World} {v : Value} {l : List Int} (h : intsS.lies n w [v] l) : ∃ a cap, v = .slice a l.length cap ∧ l.length ≤ maxLen := by
  obtain ⟨a, c, e, _, hm, _⟩ := ints_len h
  exact ⟨a, c, by simpa using e, hm⟩
theorem ints_nil (n0 : Nat) (w : World) : intsS.owns n0 w [.slice none 0 0] [] := ints_omk (World.ownsRow_nil _ _ _ _) (by simp)
theorem ints_lit (w : World) (l : List Int) (n0 : Nat) (h0 : n0 ≤ w.heap.size) (hl : l.length ≤ maxLen) (hi : ∀ x ∈ l, I64 x) : intsS.owns n0 (w.alloc (.cells (l.map (Value.int .i64)).toArray 3)) [.slice (some ⟨w.heap.size, 0, none⟩) l.length l.length] l := by
  refine ints_omk ?_ hi
  have := World.ownsRow_lit w (base := n0) (e := 3) (size := 1) (l.map (Value.int .i64)).toArray l.length h0 hl (by simp)
  simpa using this
theorem ints_cells {n : Nat} {w : World} {v : Value} {l : List Int} (h : intsS.lies n w [v] l) : Cells n w 1 v l.length (l.map (Value.int .i64)) := by
  obtain ⟨v', hv, hC, _⟩ := h
  obtain rfl : v = v' := by simpa using hv
  exact hC
theorem one_ints (l : List Int) : ∀ u ∈ l.map (Value.int .i64), u.oneCell' = true := fun u hu => by
  obtain ⟨y, _, rfl⟩ := List.mem_map.1 hu
  rfl
theorem get_lt {α : Type} {l : List α} {k : Nat} (h : k < l.length) : ∃ x, l[k]? = some x := ⟨_, List.getElem?_eq_getElem h⟩
theorem take_snoc {α : Type} {l : List α} {k : Nat} {x : α} (h : l[k]? = some x) : l.take (k + 1) = l.take k ++ [x] := by rw [List.take_add_one, h]; rfl

/-- Two lists as far as both go. -/
theorem alike {a b : List Int} (hl : a.length = b.length) (h : ∀ (i : Nat), i < a.length → a[i]? = b[i]?) : a = b := by
  apply List.ext_getElem? 
  intro i
  by_cases hi : i < a.length
  · exact h i hi
  · rw [List.getElem?_eq_none (by omega), List.getElem?_eq_none (by omega)]

end Go.Proofs.Ytlfdalckhpgpiaa
