/-
  A sealed text with one octet that is another one is not opened.
-/
import Derived.Test.YtfpllfjdgpcmdaaDoorCOpen
import Derived.Test.YtfpllfjdgpcmdaaDoorWMath
namespace Go.Proofs.YtfpllfjdgpcmdaaDoor
open Go.RowKit

theorem xor_left_inj {r s x : Nat} (h : r ^^^ x = s ^^^ x) : r = s := by
  have := congrArg (· ^^^ x) h
  simpa [Nat.xor_assoc] using this
theorem xor_right_inj {r x y : Nat} (h : r ^^^ x = r ^^^ y) : x = y := by
  rw [Nat.xor_comm r x, Nat.xor_comm r y] at h
  exact xor_left_inj h

theorem upd_inj : ∀ (l : List Int) (r s : Nat), Oc l → r < 4294967296 → s < 4294967296 → C.upd r l = C.upd s l → r = s
  | [], _, _, _, _, _, h => h
  | x :: l, r, s, ho, hr, hs, h => by
    rw [C.upd_cons, C.upd_cons] at h
    have hx := (oc_cons.1 ho).1
    have hx2 : x.toNat < 4294967296 := by omega
    have h1 : r ^^^ x.toNat < 4294967296 := Nat.xor_lt_two_pow (n := 32) hr hx2
    have h2 : s ^^^ x.toNat < 4294967296 := Nat.xor_lt_two_pow (n := 32) hs hx2
    have := upd_inj l _ _ (oc_cons.1 ho).2 (C.steps_lt 8 _ h1) (C.steps_lt 8 _ h2) h
    exact xor_left_inj (C.steps_inj 8 _ _ h1 h2 this)

theorem upd_set_ne (l : List Int) (ho : Oc l) (j : Nat) (hj : j < l.length) (y : Int) (hy : 0 ≤ y ∧ y ≤ 255) (hne : y ≠ l.getD j 0) (r : Nat) (hr : r < 4294967296) : C.upd r (l.set j y) ≠ C.upd r l := by
  intro h
  have e1 : l.set j y = l.take j ++ y :: l.drop (j + 1) := List.set_eq_take_append_cons_drop .. |>.trans (by rw [if_pos hj])
  have e2 : l = l.take j ++ l[j] :: l.drop (j + 1) := by
    rw [← List.drop_eq_getElem_cons hj, List.take_append_drop]
  have hq : C.upd r (l.take j) < 4294967296 := C.upd_lt r _ hr (oc_take ho j)
  have hd := oc_drop ho (j + 1)
  have hx := ho l[j] (List.getElem_mem hj)
  rw [e1] at h
  conv at h => rhs; rw [e2]
  rw [C.upd_append, C.upd_append, C.upd_cons, C.upd_cons] at h
  have h1 : C.upd r (l.take j) ^^^ y.toNat < 4294967296 := Nat.xor_lt_two_pow (n := 32) hq (by omega)
  have h2 : C.upd r (l.take j) ^^^ l[j].toNat < 4294967296 := Nat.xor_lt_two_pow (n := 32) hq (by omega)
  have h3 := upd_inj _ _ _ hd (C.steps_lt 8 _ h1) (C.steps_lt 8 _ h2) h
  have h4 := xor_right_inj (C.steps_inj 8 _ _ h1 h2 h3)
  apply hne
  rw [List.getD_eq_getElem?_getD, List.getElem?_eq_getElem hj, Option.getD_some]
  omega

theorem oc_set {l : List Int} (h : Oc l) (j : Nat) {y : Int} (hy : 0 ≤ y ∧ y ≤ 255) : Oc (l.set j y) := fun x hx => by
  rcases List.mem_or_eq_of_mem_set hx with h1 | h1
  · exact h x h1
  · rw [h1]; exact hy

theorem rot_bad (l : List Int) (ho : Oc l) (j : Nat) (hj : j < (C.sealed l).length) (y : Int) (hy : 0 ≤ y ∧ y ≤ 255) (hne : y ≠ (C.sealed l).getD j 0) : C.oerr ((C.sealed l).set j y) = 21 := by
  have hs := C.sealed_oct l ho
  have hl : ((C.sealed l).set j y).length = l.length + 4 := by rw [List.length_set, C.sealed_length]
  have hf := C.fits_rest ((C.sealed l).set j y) (oc_set hs j hy) (by omega)
  unfold C.oerr
  rw [if_neg (by omega), if_neg]
  intro h
  have h1 := hf.1 h
  have h2 := C.sealed_rest l ho
  rw [← h2] at h1
  exact upd_set_ne _ hs j hj y hy hne C.full (by decide) h1

end Go.Proofs.YtfpllfjdgpcmdaaDoor
