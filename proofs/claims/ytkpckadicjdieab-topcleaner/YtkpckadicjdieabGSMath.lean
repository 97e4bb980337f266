/-
  Plain mathematics: a segment as octets.
-/
import Derived.Test.YtkpckadicjdieabZ11
import Derived.Test.YtkpckadicjdieabGLaid
import Derived.Test.YtkpckadicjdieabZ9
namespace Go.Proofs.Ytkpckadicjdieab
open O (oct need nv)

/-- What tells of one block. -/
def hd (p : Bk) : List Int := oct p.1.toNat 4 ++ oct p.2.1.toNat 1 ++ oct p.2.2.length 1
def pre (q n : Nat) : List Int := [115, 101, 103, 49] ++ oct q 8 ++ oct n 1
def hds (l : List Bk) : List Int := (l.map hd).flatten
def dts (l : List Bk) : List Int := (l.map fun p => p.2.2).flatten
def bodyO (s : Sg) : List Int := pre s.1.toNat s.2.length ++ hds s.2 ++ dts s.2
def fullO (s : Sg) : List Int := bodyO s ++ List.replicate (380 - (bodyO s).length) 0
def sealO (s : Sg) : List Int := fullO s ++ oct (C.sum (fullO s)) 4
def sealV (s : Sg) : List Int := if chkB s = true then sealO s else []
theorem oct_length (n k : Nat) : (oct n k).length = k := by simp [oct]
theorem hd_length (p : Bk) : (hd p).length = 6 := by simp [hd, oct]
theorem pre_length (q n : Nat) : (pre q n).length = 13 := by simp [pre, oct]
theorem hds_length (l : List Bk) : (hds l).length = 6 * l.length := by
  induction l with
  | nil => rfl
  | cons p l ih =>
    have : hds (p :: l) = hd p ++ hds l := rfl
    rw [this, List.length_append, ih, hd_length, List.length_cons]
    omega
theorem dts_le {l : List Bk} (h : l.all mayB = true) : (dts l).length ≤ 32 * l.length := by
  induction l with
  | nil => exact Nat.le_refl _
  | cons p l ih =>
    rw [List.all_cons, Bool.and_eq_true] at h
    have h1 := (may_iff.1 h.1).2.2
    have : dts (p :: l) = p.2.2 ++ dts l := rfl
    rw [this, List.length_append, List.length_cons]
    have := ih h.2
    omega
theorem hds_snoc (l : List Bk) (p : Bk) : hds (l ++ [p]) = hds l ++ hd p := by simp [hds]
theorem dts_snoc (l : List Bk) (p : Bk) : dts (l ++ [p]) = dts l ++ p.2.2 := by simp [dts]
theorem body_le {s : Sg} (h : Chk s) : (bodyO s).length ≤ 317 ∧ 13 ≤ (bodyO s).length := by
  have h1 := dts_le h.2.2
  have h2 := h.2.1
  simp only [bodyO, List.length_append, pre_length, hds_length]
  omega
theorem full_length {s : Sg} (h : Chk s) : (fullO s).length = 380 := by
  have := body_le h
  simp [fullO]; omega
theorem seal_length {s : Sg} (h : Chk s) : (sealO s).length = 384 := by simp [sealO, full_length h]
theorem seal_ok {s : Sg} (h : Chk s) : sealV s = sealO s := if_pos (by simp only [chkB, decide_eq_true_eq]; exact h)
theorem seal_bad {s : Sg} (h : ¬ Chk s) : sealV s = [] := if_neg (by simp only [chkB, decide_eq_true_eq]; exact h)
theorem Arg.toC {n0 : Nat} {w : World} {v : Value} {l : List Int} (h : Arg n0 w v l) : C.Arg w v l := by
  have ho : ∀ y ∈ l, 0 ≤ y ∧ y ≤ 255 := fun y hy => by
    have := h.oct y hy
    simp [Lit.wf, IntKind.min, IntKind.max, IntKind.signed, IntKind.bits] at this
    omega
  obtain ⟨_, ⟨rfl, h0⟩ | ⟨x, cap, rfl, h1, h2, h3, h4⟩⟩ := h.cells
  · exact .inl ⟨rfl, List.eq_nil_of_length_eq_zero h0⟩
  · exact .inr ⟨x, cap, rfl, h1, h2, fun i hi => h4 i _ (by simp [hi]), ho⟩
theorem need_le {n k : Nat} (h : n < 256 ^ k) : need n ≤ k := (O.need_le_iff k n).2 h

end Go.Proofs.Ytkpckadicjdieab
