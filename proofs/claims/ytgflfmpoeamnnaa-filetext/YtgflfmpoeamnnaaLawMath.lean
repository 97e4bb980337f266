/-
  Small facts that the statements' walks lean on.
-/
import Derived.Test.YtgflfmpoeamnnaaAlive
import Derived.Test.YtgflfmpoeamnnaaFrame
namespace Go.Proofs.Ytgflfmpoeamnnaa
open Go.RowKit

theorem wrap64_in' (x : Int) (h : -9223372036854775808 ≤ x ∧ x ≤ 9223372036854775807) : wrap64 x = x := by unfold wrap64; omega
theorem tmod_bounds (x : Int) (m : Nat) (hm : 0 < m) : -(m : Int) < x.tmod m ∧ x.tmod m < m := by
  have h1 := Int.tmod_lt_of_pos x (show (0 : Int) < m by omega)
  have h2 := Int.lt_tmod_of_pos x (show (0 : Int) < m by omega)
  omega
theorem mod_pos (x : Int) (m : Nat) (hm : 0 < m) (hb : m ≤ 10000) : ∃ r : Nat, r < m ∧ (wrap64 (x.tmod m + m)).tmod m = (r : Int) := by
  obtain ⟨h1, h2⟩ := tmod_bounds x m hm
  have e : wrap64 (x.tmod m + m) = x.tmod m + m := wrap64_in' _ (by omega)
  rw [e, Int.tmod_eq_emod_of_nonneg (by omega)]
  have h3 := Int.emod_nonneg (x.tmod m + m) (show (m : Int) ≠ 0 by omega)
  have h4 := Int.emod_lt_of_pos (x.tmod m + m) (show (0 : Int) < m by omega)
  exact ⟨((x.tmod m + m) % m).toNat, by omega, by omega⟩
theorem mod2433 (x : Int) : ∃ r : Nat, r ≤ 2432 ∧ (wrap64 (x.tmod 2433 + 2433)).tmod 2433 = (r : Int) := by
  obtain ⟨r, h1, h2⟩ := mod_pos x 2433 (by omega) (by omega)
  exact ⟨r, by omega, h2⟩

theorem trE_ok {f : Fl} (h : chk f = true) {m : Nat} (hm : m ≤ 2432) : trE f (m : Int) = 0 ∧ trF f (m : Int) = mk (cutT (txt f) m) := by
  have e : trE f (m : Int) = 0 := by
    unfold trE
    rw [if_neg (by rw [h]; simp), if_neg (by omega), if_neg (by omega)]
  exact ⟨e, by unfold trF; rw [if_pos e, Int.toNat_natCast]⟩
theorem trE_bad {f : Fl} (h : chk f = false) (m : Int) : trE f m = 9 := if_pos h
theorem trE_bounds (f : Fl) (m : Int) : 0 ≤ trE f m ∧ trE f m ≤ 107 := by
  unfold trE
  split
  · omega
  · split
    · omega
    · split <;> omega
theorem rdE_bounds (f : Fl) (a b : Int) : 0 ≤ rdE f a b ∧ rdE f a b ≤ 107 := by
  unfold rdE
  split
  · omega
  · split <;> omega

theorem cut_back {f : Fl} (h : chk f = true) {a b : Nat} (hab : a ≤ b) (hb : b ≤ 2432) :
    trE f (a : Int) = 0 ∧ trE (trF f (a : Int)) (b : Int) = 0 ∧ rdE (trF (trF f (a : Int)) (b : Int)) (a : Int) 5000 = 0 ∧ rdO (trF (trF f (a : Int)) (b : Int)) (a : Int) 5000 = List.replicate (b - a) 0 := by
  obtain ⟨e1, e2⟩ := trE_ok h (m := a) (by omega)
  have l1 : (cutT (txt f) a).length ≤ 2432 := by rw [cutT_length]; omega
  obtain ⟨e3, e4⟩ := trE_ok (f := mk (cutT (txt f) a)) (chk_mk l1) (m := b) hb
  rw [txt_mk l1] at e4
  have l2 : (cutT (cutT (txt f) a) b).length ≤ 2432 := by rw [cutT_length]; omega
  rw [e2, e4]
  have e5 : rdE (mk (cutT (cutT (txt f) a) b)) (a : Int) 5000 = 0 := by
    unfold rdE
    rw [if_neg (by rw [chk_mk l2]; simp), if_neg (by omega)]
  refine ⟨e1, e3, e5, ?_⟩
  unfold rdO
  rw [if_pos e5, txt_mk l2]
  refine alike ?_ fun i hi => ?_
  · simp only [rdL, List.length_map, List.length_range, List.length_replicate, cutT_length]
    omega
  · have hi' : i < min 5000 (b - a) := by
      simp only [rdL, List.length_map, List.length_range, cutT_length] at hi
      have : (5000 : Int).toNat = 5000 := rfl
      omega
    unfold rdL
    rw [cutT_length, range_get _ _ _ _ (by have : (5000 : Int).toNat = 5000 := rfl; omega), cutT_get, if_pos (by omega), cutT_get, if_neg (by omega)]
    rw [List.getD_eq_getElem?_getD, List.getElem?_replicate, if_pos (by omega)]
    rfl

/-- A file in a variable: its two cells. -/
theorem var_new {n0 : Nat} {w : World} {us : List Value} {f : Fl} (h : flN.lies n0 w us f) : ∃ s a l c, us = [.int .i64 s, .slice a l c] ∧ flN.lies n0 w [.int .i64 s, .slice a l c] f ∧ s = f.1 ∧ l = f.2.length := by
  obtain ⟨a, c, rfl, _⟩ := fl_viewN h
  exact ⟨_, a, _, c, rfl, h, rfl, rfl⟩
theorem var_newR {n0 : Nat} {w : World} {us : List Value} {f : Fl} (h : flR.lies n0 w us f) : ∃ s a l c, us = [.int .i64 s, .slice a l c] ∧ flR.lies n0 w [.int .i64 s, .slice a l c] f ∧ s = f.1 ∧ l = f.2.length := by
  obtain ⟨a, c, rfl, _⟩ := fl_viewR h
  exact ⟨_, a, _, c, rfl, h, rfl, rfl⟩

theorem bytes_fit {l : List Int} (h : bytesS.fits l) : l.length ≤ 140737488351232 := by
  have b5 : Try.prog.bytesOf 5 = 1 := by kernel_rfl
  have h5 : l.length * Try.prog.bytesOf 5 ≤ 140737488351232 := h
  rwa [b5, Nat.mul_one] at h5

end Go.Proofs.Ytgflfmpoeamnnaa
