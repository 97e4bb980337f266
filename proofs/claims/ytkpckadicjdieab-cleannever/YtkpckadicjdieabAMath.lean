/-
  Plain mathematics: all blocks that are there, in the order of their kinds.
-/
import Derived.Test.YtkpckadicjdieabLGet
namespace Go.Proofs.Ytkpckadicjdieab
open Go.RowKit

/-- One kind ahead of another. -/
def kLt (a b : Bk) : Prop := a.1 < b.1 ∨ (a.1 = b.1 ∧ a.2.1 < b.2.1)
theorem kLt.trans {a b c : Bk} (h : kLt a b) (k : kLt b c) : kLt a c := by
  unfold kLt at *
  omega
theorem kLt.irrefl (a : Bk) : ¬ kLt a a := by unfold kLt; omega
/-- Is this block one that is there? -/
def isThere (s : St) (b : Bk) : Prop := b.2.2 = (last s b.1 b.2.1).1.2.2 ∧ b.2.2 ≠ []
/-- All that are there. -/
structure AllOf (s : St) (L : List Bk) : Prop where
  up : L.Pairwise kLt
  mem : ∀ b, b ∈ L ↔ isThere s b
theorem up_eq : ∀ {L M : List Bk}, L.Pairwise kLt → M.Pairwise kLt → (∀ b, b ∈ L ↔ b ∈ M) → L = M
  | [], [], _, _, _ => rfl
  | [], b :: M, _, _, h => by have := (h b).2 (List.mem_cons_self ..); cases this
  | a :: L, [], _, _, h => by have := (h a).1 (List.mem_cons_self ..); cases this
  | a :: L, b :: M, h1, h2, h => by
    obtain ⟨p1, p2⟩ := List.pairwise_cons.1 h1
    obtain ⟨q1, q2⟩ := List.pairwise_cons.1 h2
    have e : a = b := by
      rcases List.mem_cons.1 ((h a).1 (List.mem_cons_self ..)) with e | ha
      · exact e
      · rcases List.mem_cons.1 ((h b).2 (List.mem_cons_self ..)) with e | hb
        · exact e.symm
        · exact absurd ((q1 a ha).trans (p1 b hb)) (kLt.irrefl b)
    subst e
    congr 1
    refine up_eq p2 q2 fun x => ⟨fun hx => ?_, fun hx => ?_⟩
    · rcases List.mem_cons.1 ((h x).1 (List.mem_cons_of_mem _ hx)) with e | hm
      · subst e; exact absurd (p1 x hx) (kLt.irrefl x)
      · exact hm
    · rcases List.mem_cons.1 ((h x).2 (List.mem_cons_of_mem _ hx)) with e | hm
      · subst e; exact absurd (q1 x hx) (kLt.irrefl x)
      · exact hm
theorem AllOf.eq {s : St} {L M : List Bk} (h : AllOf s L) (k : AllOf s M) : L = M := up_eq h.up k.up fun b => (h.mem b).trans (k.mem b).symm

/-- The order of kinds as a number. -/
def cmpI (a b : Int) : Int := if a < b then -1 else if b < a then 1 else 0
def cmpK (a b : Bk) : Int := if cmpI a.1 b.1 ≠ 0 then cmpI a.1 b.1 else cmpI a.2.1 b.2.1
theorem cmpK_lt {a b : Bk} : cmpK a b < 0 ↔ kLt a b := by
  unfold cmpK cmpI kLt
  by_cases h1 : a.1 < b.1
  · simp [h1]
  · by_cases h2 : b.1 < a.1
    · simp [h1, h2]
      try omega
    · by_cases h3 : a.2.1 < b.2.1
      · simp [h1, h2, h3]
        try omega
      · by_cases h4 : b.2.1 < a.2.1
        · simp [h1, h2, h3, h4]
          try omega
        · simp [h1, h2, h3, h4]

end Go.Proofs.Ytkpckadicjdieab
