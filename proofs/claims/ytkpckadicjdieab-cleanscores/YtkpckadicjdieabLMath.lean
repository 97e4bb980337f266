/-
  Plain mathematics: which stores may be; versions, the last one of each kind.
-/
import Derived.Test.YtkpckadicjdieabCheck
import Derived.Test.YtkpckadicjdieabLog
namespace Go.Proofs.Ytkpckadicjdieab
open Go.RowKit

/-- A slot without a segment. -/
def freeB (p : Sg) : Bool := decide (p.1 = 0) && decide (p.2.length = 0)
theorem free_iff {p : Sg} : freeB p = true ↔ p.1 = 0 ∧ p.2.length = 0 := by simp [freeB]
/-- The numbers of the segments. -/
def seqs (l : List Sg) : List Int := (l.filter fun p => !freeB p).map (·.1)
/-- May a store be? -/
structure Ok (s : St) : Prop where
  slots : 1 ≤ s.1.length ∧ s.1.length ≤ 64
  held : s.2.1.length = s.1.length
  next : 1 ≤ s.2.2.2 ∧ s.2.2.2 ≤ 1099511627776
  few : s.2.2.1.length ≤ 8
  may : s.2.2.1.all mayB = true
  each : ∀ p ∈ s.1, freeB p = false → Chk p ∧ p.1 < s.2.2.2
  apart : (seqs s.1).Nodup
theorem seqs_snoc (l : List Sg) (p : Sg) : seqs (l ++ [p]) = if freeB p = true then seqs l else seqs l ++ [p.1] := by
  unfold seqs
  rw [List.filter_append]
  cases h : freeB p <;> simp [h]
theorem seqs_take {l : List Sg} {k : Nat} {p : Sg} (h : l[k]? = some p) : seqs (l.take (k + 1)) = if freeB p = true then seqs (l.take k) else seqs (l.take k) ++ [p.1] := by rw [take_snoc h, seqs_snoc]
theorem nodup_of_take {l : List Sg} {k : Nat} (h : (seqs l).Nodup) : (seqs (l.take k)).Nodup := by
  unfold seqs at *
  have h1 : ((l.take k).filter fun p => !freeB p).map (·.1) <+: (l.filter fun p => !freeB p).map (·.1) := by
    refine List.IsPrefix.map _ ?_
    exact List.IsPrefix.filter _ (List.take_prefix k l)
  exact h.sublist h1.sublist

/-- Each version: its number, its place, the block. -/
abbrev Ver := Int × Nat × Bk
def plc (q : Int) (l : List Bk) : List Ver := l.zipIdx.map fun p => (q, p.2, p.1)
theorem plc_snoc (q : Int) (l : List Bk) (b : Bk) : plc q (l ++ [b]) = plc q l ++ [(q, l.length, b)] := by simp [plc, List.zipIdx_append]
theorem plc_take {q : Int} {l : List Bk} {k : Nat} {b : Bk} (h : l[k]? = some b) : plc q (l.take (k + 1)) = plc q (l.take k) ++ [(q, k, b)] := by
  have hk := (List.getElem?_eq_some_iff.1 h).1
  rw [take_snoc h, plc_snoc, List.length_take, Nat.min_eq_left (by omega)]
def segv (l : List Sg) : List Ver := (l.map fun p => plc p.1 p.2).flatten
theorem segv_snoc (l : List Sg) (p : Sg) : segv (l ++ [p]) = segv l ++ plc p.1 p.2 := by simp [segv]
theorem segv_take {l : List Sg} {k : Nat} {p : Sg} (h : l[k]? = some p) : segv (l.take (k + 1)) = segv (l.take k) ++ plc p.1 p.2 := by rw [take_snoc h, segv_snoc]
def vers (s : St) : List Ver := segv s.1 ++ plc s.2.2.2 s.2.2.1
/-- What is known of a kind: the block, its number, its place, of how many versions it is the last. -/
abbrev Kn := Bk × Int × Nat × Nat
def kn0 : Kn := ((0, 0, []), 0, 0, 0)
def knStep (v : Kn) (x : Ver) : Kn := if v.2.1 ≤ x.1 then (x.2.2, x.1, x.2.1, v.2.2.2 + 1) else (v.1, v.2.1, v.2.2.1, v.2.2.2 + 1)
def isK (o i : Int) (x : Ver) : Bool := decide (x.2.2.1 = o) && decide (x.2.2.2.1 = i)
def kn (l : List Ver) (o i : Int) : Kn := (l.filter (isK o i)).foldl knStep kn0
theorem kn_nil (o i : Int) : kn [] o i = kn0 := rfl
theorem kn_snoc (l : List Ver) (x : Ver) (o i : Int) : kn (l ++ [x]) o i = if isK o i x = true then knStep (kn l o i) x else kn l o i := by
  unfold kn
  rw [List.filter_append, List.foldl_append]
  cases h : isK o i x <;> simp [h]
theorem kn_same (l : List Ver) (q : Int) (k : Nat) (b : Bk) : kn (l ++ [(q, k, b)]) b.1 b.2.1 = knStep (kn l b.1 b.2.1) (q, k, b) := by
  rw [kn_snoc, if_pos (by simp [isK])]
theorem kn_other (l : List Ver) (q : Int) (k : Nat) (b : Bk) {o i : Int} (h : ¬ (o = b.1 ∧ i = b.2.1)) : kn (l ++ [(q, k, b)]) o i = kn l o i := by
  rw [kn_snoc, if_neg]
  simp only [isK, Bool.and_eq_true, decide_eq_true_eq]
  exact fun e => h ⟨e.1.symm, e.2.symm⟩
def last (s : St) (o i : Int) : Kn := kn (vers s) o i

end Go.Proofs.Ytkpckadicjdieab
