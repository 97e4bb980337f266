/-
  Packets that bear one octet each: what Send, Take, Drop, Double make of a network of them; numbers brought into their bounds.
-/
import Derived.Test.YtpecniajamgjiaaDrop
namespace Go.Proofs.Ytpecniajamgjiaa
open Go.RowKit

def mkp (x : Int) : Pk := (1, 2, [x])
def PS (want : List Int) : List Pk := want.map mkp
theorem PS_length (want : List Int) : (PS want).length = want.length := by simp [PS]
theorem PS_snoc (want : List Int) (x : Int) : PS (want ++ [x]) = PS want ++ [mkp x] := by simp [PS]
theorem map_erase {α β : Type} (f : α → β) : ∀ (l : List α) (k : Nat), (l.map f).eraseIdx k = (l.eraseIdx k).map f
  | [], _ => rfl
  | _ :: _, 0 => rfl
  | x :: r, k + 1 => by simp [map_erase f r k]
theorem PS_erase (want : List Int) (k : Nat) : (PS want).eraseIdx k = PS (want.eraseIdx k) := map_erase mkp want k
theorem PS_get {want : List Int} {k : Nat} {x : Int} (h : want[k]? = some x) : (PS want)[k]? = some (mkp x) := by simp [PS, h]
theorem okP_mkp (x : Int) : okP (mkp x) = true := by simp [okP, node, mkp]
theorem ferr_mkp (x : Int) : ferr (mkp x) = 0 := (ferr_ok _).2 (okP_mkp x)
theorem chk_PS {N : Nat} {want : List Int} (h1 : 1 ≤ N) (h2 : N ≤ 20) (hl : want.length ≤ N) : chk ((N : Int), PS want) = true := by
  have ha : (PS want).all okP = true := by
    rw [List.all_eq_true]
    intro p hp
    obtain ⟨x, _, rfl⟩ := List.mem_map.1 hp
    exact okP_mkp x
  simp only [chk, may, PS_length, ha, Bool.and_true, Bool.and_eq_true, decide_eq_true_eq]
  omega
theorem send_PS {N : Nat} {want : List Int} (x : Int) (h1 : 1 ≤ N) (h2 : N ≤ 20) (hl : want.length ≤ N) :
    serr ((N : Int), PS want) (mkp x) = 0 ∧ sis ((N : Int), PS want) (mkp x) = decide (want.length < N) ∧ sst ((N : Int), PS want) (mkp x) = ((N : Int), PS (if want.length < N then want ++ [x] else want)) := by
  have he : serr ((N : Int), PS want) (mkp x) = 0 := by
    unfold serr
    rw [chk_PS h1 h2 hl, if_neg (by simp), ferr_mkp]
  refine ⟨he, ?_, ?_⟩
  · unfold sis
    rw [he, if_pos rfl]
    simp only [PS_length]
    exact decide_eq_decide.2 (by omega)
  · unfold sst
    rw [he, if_pos rfl]
    simp only [PS_length]
    by_cases h : want.length < N
    · rw [if_pos (by omega), if_pos h, PS_snoc]
    · rw [if_neg (by omega), if_neg h]
theorem take_PS {N : Nat} {want : List Int} {k : Nat} {x : Int} (h1 : 1 ≤ N) (h2 : N ≤ 20) (hl : want.length ≤ N) (hk : want[k]? = some x) :
    terr ((N : Int), PS want) k = 0 ∧ tst ((N : Int), PS want) k = ((N : Int), PS (want.eraseIdx k)) ∧ tpk ((N : Int), PS want) k = mkp x := by
  have hlt : k < want.length := (List.getElem?_eq_some_iff.1 hk).1
  have he : terr ((N : Int), PS want) k = 0 := by
    unfold terr
    rw [chk_PS h1 h2 hl, if_neg (by simp), if_neg]
    simp only [PS_length]
    simp
    omega
  refine ⟨he, ?_, ?_⟩
  · unfold tst
    rw [he, if_pos rfl]
    simp only [Int.toNat_natCast, PS_erase]
  · unfold tpk
    rw [he, if_pos rfl]
    simp only [Int.toNat_natCast, PS_get hk]
    rfl
theorem double_PS {N : Nat} {want : List Int} {k : Nat} {x : Int} (h1 : 1 ≤ N) (h2 : N ≤ 20) (hl : want.length ≤ N) (hk : want[k]? = some x) :
    derr ((N : Int), PS want) k = 0 ∧ dis ((N : Int), PS want) k = decide (want.length < N) ∧ dst ((N : Int), PS want) k = ((N : Int), PS (if want.length < N then want ++ [x] else want)) := by
  have he := (take_PS h1 h2 hl hk).1
  obtain ⟨s1, s2, s3⟩ := send_PS x h1 h2 hl
  refine ⟨?_, ?_, ?_⟩
  · unfold derr
    rw [he, if_pos rfl]
    simp only [Int.toNat_natCast, PS_get hk]
    exact s1
  · unfold dis
    rw [he, if_pos rfl]
    simp only [Int.toNat_natCast, PS_get hk]
    exact s2
  · unfold dst
    rw [he, if_pos rfl]
    simp only [Int.toNat_natCast, PS_get hk]
    exact s3

/-! Numbers brought into their bounds. -/

theorem wrap64_in' (x : Int) (h : -9223372036854775808 ≤ x ∧ x ≤ 9223372036854775807) : wrap64 x = x := by
  unfold wrap64
  omega
theorem tmod_bounds (x : Int) (m : Nat) (hm : 0 < m) : -(m : Int) < x.tmod m ∧ x.tmod m < m := by
  constructor
  · have := Int.lt_tmod_of_pos x (show (0 : Int) < m by omega)
    omega
  · exact Int.tmod_lt_of_pos x (by omega)
theorem mod_pos (x : Int) (m : Nat) (hm : 0 < m) (hb : m ≤ 60) : ∃ r : Nat, r < m ∧ (wrap64 (x.tmod m + m)).tmod m = (r : Int) := by
  obtain ⟨h1, h2⟩ := tmod_bounds x m hm
  have e : wrap64 (x.tmod m + m) = x.tmod m + m := wrap64_in' _ (by omega)
  rw [e, Int.tmod_eq_emod_of_nonneg (by omega)]
  have h3 := Int.emod_nonneg (x.tmod m + m) (show (m : Int) ≠ 0 by omega)
  have h4 := Int.emod_lt_of_pos (x.tmod m + m) (show (0 : Int) < m by omega)
  exact ⟨((x.tmod m + m) % m).toNat, by omega, by omega⟩
theorem mod20 (x : Int) : ∃ N : Nat, 1 ≤ N ∧ N ≤ 20 ∧ wrap64 (1 + (wrap64 (x.tmod 20 + 20)).tmod 20) = (N : Int) := by
  obtain ⟨r, h1, h2⟩ := mod_pos x 20 (by omega) (by omega)
  have h3 : (wrap64 (x.tmod 20 + 20)).tmod 20 = (r : Int) := h2
  refine ⟨r + 1, by omega, by omega, ?_⟩
  rw [h3]
  have := wrap64_in' (1 + (r : Int)) (by omega)
  omega
theorem mod4 (x : Int) : ∃ r : Nat, r < 4 ∧ (wrap64 (x.tmod 4 + 4)).tmod 4 = (r : Int) := by
  obtain ⟨r, h1, h2⟩ := mod_pos x 4 (by omega) (by omega)
  exact ⟨r, h1, h2⟩

end Go.Proofs.Ytpecniajamgjiaa
