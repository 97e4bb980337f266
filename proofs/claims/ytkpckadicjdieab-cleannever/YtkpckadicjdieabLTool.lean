/-
  Small words for the laws: a cell stays; a slice's length is an int.
-/
import Derived.Test.YtkpckadicjdieabFlat
import Derived.Test.YtkpckadicjdieabRTake
namespace Go.Proofs.Ytkpckadicjdieab
open Go.RowKit

theorem cell_below {w w' : World} {p : Addr} {v : Value} (h : Below w.heap.size w w') (hc : w.cell? p = some v) : w'.cell? p = some v := by
  rw [h.cell (cell_lt hc)]
  exact hc
theorem Arg.small {n0 : Nat} {w : World} {v : Value} {l : List Int} (h : Arg n0 w v l) : l.length ≤ 9223372036854775807 := by
  obtain ⟨_, _, _, _, h1, _⟩ := h.shape
  unfold maxLen at h1
  omega

theorem st_flatNl {n : Nat} {w : World} {us : List Value} {s : St} (h : stN.lies n w us s) : ∃ a n1 c b n2 d e n3 f q, us = [.slice a n1 c, .slice b n2 d, .slice e n3 f, .int .i64 q] ∧ n1 = s.1.length ∧ n3 = s.2.2.1.length ∧ n3 ≤ 9223372036854775807 ∧ n1 ≤ 9223372036854775807 := by
  obtain ⟨a, c, b, d, e, f, h, _, _, _, _, m1, _, m3⟩ := st_viewN h
  unfold maxLen at m1 m3
  exact ⟨a, _, c, b, _, d, e, _, f, _, h, rfl, rfl, m3, m1⟩
theorem st_flatRl {n : Nat} {w : World} {us : List Value} {s : St} (h : stR.lies n w us s) : ∃ a n1 c b n2 d e n3 f q, us = [.slice a n1 c, .slice b n2 d, .slice e n3 f, .int .i64 q] ∧ n1 = s.1.length ∧ n3 = s.2.2.1.length ∧ n3 ≤ 9223372036854775807 ∧ n1 ≤ 9223372036854775807 := by
  obtain ⟨a, c, b, d, e, f, h, _, _, _, _, m1, _, m3⟩ := st_viewR h
  unfold maxLen at m1 m3
  exact ⟨a, _, c, b, _, d, e, _, f, _, h, rfl, rfl, m3, m1⟩
theorem st_fl {n : Nat} {w : World} {us : List Value} {s : St} (h : stN.owns n w us s) : ∃ a n1 c b n2 d e n3 f q, us = [.slice a n1 c, .slice b n2 d, .slice e n3 f, .int .i64 q] := by
  obtain ⟨a, c, b, d, e, f, h, _⟩ := st_ownN h
  exact ⟨a, _, c, b, _, d, e, _, f, _, h⟩
theorem st_seg {n : Nat} {w : World} {a b e : Option Addr} {n1 c m d k f : Nat} {q : Int} {s : St} (h : stN.lies n w [.slice a n1 c, .slice b m d, .slice e k f, .int .i64 q] s) : sgsN.lies n w [.slice a n1 c] s.1 ∧ boolsS.lies n w [.slice b m d] s.2.1 ∧ bksN.lies n w [.slice e k f] s.2.2.1 ∧ q = s.2.2.2 ∧ I64 q := by
  obtain ⟨a9, c9, b9, d9, e9, f9, hu9, h1, h2, h3, h4, _⟩ := st_viewN h
  simp only [List.cons.injEq, Value.slice.injEq, Value.int.injEq, and_true, true_and] at hu9
  obtain ⟨⟨rfl, rfl, rfl⟩, ⟨rfl, rfl, rfl⟩, ⟨rfl, rfl, rfl⟩, rfl⟩ := hu9
  exact ⟨h1, h2, h3, rfl, h4⟩
theorem st_segR {n : Nat} {w : World} {a b e : Option Addr} {n1 c m d k f : Nat} {q : Int} {s : St} (h : stR.lies n w [.slice a n1 c, .slice b m d, .slice e k f, .int .i64 q] s) : sgsR.lies n w [.slice a n1 c] s.1 ∧ boolsS.lies n w [.slice b m d] s.2.1 ∧ bksR.lies n w [.slice e k f] s.2.2.1 ∧ q = s.2.2.2 ∧ I64 q := by
  obtain ⟨a9, c9, b9, d9, e9, f9, hu9, h1, h2, h3, h4, _⟩ := st_viewR h
  simp only [List.cons.injEq, Value.slice.injEq, Value.int.injEq, and_true, true_and] at hu9
  obtain ⟨⟨rfl, rfl, rfl⟩, ⟨rfl, rfl, rfl⟩, ⟨rfl, rfl, rfl⟩, rfl⟩ := hu9
  exact ⟨h1, h2, h3, rfl, h4⟩
theorem st_len {n : Nat} {w : World} {a b e : Option Addr} {n1 c m d k f : Nat} {q : Int} {s : St} (h : stN.lies n w [.slice a n1 c, .slice b m d, .slice e k f, .int .i64 q] s) : n1 = s.1.length ∧ m = s.2.1.length ∧ k = s.2.2.1.length ∧ n1 ≤ 9223372036854775807 ∧ m ≤ 9223372036854775807 ∧ k ≤ 9223372036854775807 := by
  obtain ⟨a9, c9, b9, d9, e9, f9, hu9, h1, h2, h3, h4, m1, m2, m3⟩ := st_viewN h
  simp only [List.cons.injEq, Value.slice.injEq, Value.int.injEq, and_true, true_and] at hu9
  unfold maxLen at m1 m2 m3
  omega
theorem st_lenR {n : Nat} {w : World} {a b e : Option Addr} {n1 c m d k f : Nat} {q : Int} {s : St} (h : stR.lies n w [.slice a n1 c, .slice b m d, .slice e k f, .int .i64 q] s) : n1 = s.1.length ∧ m = s.2.1.length ∧ k = s.2.2.1.length ∧ n1 ≤ 9223372036854775807 ∧ m ≤ 9223372036854775807 ∧ k ≤ 9223372036854775807 := by
  obtain ⟨a9, c9, b9, d9, e9, f9, hu9, h1, h2, h3, h4, m1, m2, m3⟩ := st_viewR h
  simp only [List.cons.injEq, Value.slice.injEq, Value.int.injEq, and_true, true_and] at hu9
  unfold maxLen at m1 m2 m3
  omega

end Go.Proofs.Ytkpckadicjdieab
