/-
  Texts written over and cut, as plain mathematics; and the blocks that make them.
-/
import Derived.Test.YtgflfmpoeamnnaaGather
namespace Go.Proofs.Ytgflfmpoeamnnaa
open Go.RowKit

/-- The text t with d from p on. -/
def wrT (t : List Int) (p : Nat) (d : List Int) : List Int := if d.length = 0 then t else (List.range (max t.length (p + d.length))).map fun i => if p ≤ i ∧ i < p + d.length then oc d (i - p) else oc t i
/-- The text t, so long. -/
def cutT (t : List Int) (n : Nat) : List Int := (List.range n).map (oc t)

def wrE (f : Fl) (off : Int) (d : List Int) : Int := if chk f = false then 9 else if off < 0 then 4 else if d.length = 0 then 0 else if 2432 < off + d.length then 107 else 0
def wrF (f : Fl) (off : Int) (d : List Int) : Fl := if wrE f off d = 0 then mk (wrT (txt f) off.toNat d) else (0, [])
def trE (f : Fl) (n : Int) : Int := if chk f = false then 9 else if n < 0 then 4 else if 2432 < n then 107 else 0
def trF (f : Fl) (n : Int) : Fl := if trE f n = 0 then mk (cutT (txt f) n.toNat) else (0, [])

theorem wrT_none {t d : List Int} (p : Nat) (h : d.length = 0) : wrT t p d = t := if_pos h
theorem wrT_length {t d : List Int} {p : Nat} (h : d.length ≠ 0) : (wrT t p d).length = max t.length (p + d.length) := by
  unfold wrT
  rw [if_neg h]
  simp
theorem wrT_get {t d : List Int} {p : Nat} (h : d.length ≠ 0) (i : Nat) : oc (wrT t p d) i = if p ≤ i ∧ i < p + d.length then oc d (i - p) else oc t i := by
  unfold wrT
  rw [if_neg h]
  by_cases hi : i < max t.length (p + d.length)
  · unfold oc
    rw [range_get _ _ _ _ hi]
  · rw [oc_out (by simp; omega), if_neg (by omega), oc_out (by omega)]
theorem cutT_length (t : List Int) (n : Nat) : (cutT t n).length = n := by simp [cutT]
theorem cutT_get (t : List Int) (n i : Nat) : oc (cutT t n) i = if i < n then oc t i else 0 := by
  by_cases hi : i < n
  · rw [if_pos hi]
    unfold cutT
    show ((List.range n).map (oc t)).getD i 0 = _
    rw [range_get _ _ _ _ hi]
  · rw [if_neg hi, oc_out (by rw [cutT_length]; omega)]

/-- The blocks behind k rounds of Write. -/
def wrB (T : Nat → List Int) (d : List Int) (p F k : Nat) : Nat → List Int := fun j => if F ≤ j ∧ j < F + k then layL (T j) (32 * j) d p else T j
theorem wrB_zero (T : Nat → List Int) (d : List Int) (p F : Nat) : wrB T d p F 0 = T := by
  funext j
  exact if_neg (by omega)
theorem wrB_at (T : Nat → List Int) (d : List Int) (p F k : Nat) : wrB T d p F k (F + k) = T (F + k) := if_neg (by omega)
theorem wrB_succ (T : Nat → List Int) (d : List Int) (p F k : Nat) : upd (wrB T d p F k) (F + k) (layL (T (F + k)) (32 * (F + k)) d p) = wrB T d p F (k + 1) := by
  funext j
  unfold upd wrB
  by_cases e : j = F + k
  · subst e
    rw [if_pos rfl, if_pos (by omega)]
  · rw [if_neg e]
    by_cases h : F ≤ j ∧ j < F + k
    · rw [if_pos h, if_pos (by omega)]
    · rw [if_neg h, if_neg (by omega)]

theorem wrB_done {f : Fl} (h : chk f = true) {d : List Int} {p K : Nat} (hd : d.length ≠ 0) (hK : p / 32 + K = (p + d.length + 31) / 32) : mkL (wrB (bd f.2) d p (p / 32) K) 76 = (mk (wrT (txt f) p d)).2 := by
  refine mkL_congr fun j hj => tb_of ?_ fun k hk => ?_
  · unfold wrB
    split
    · rw [layL_length, bd_length h]
    · exact bd_length h j
  · rw [wrT_get hd, txt_get h, oct_at hk]
    unfold wrB
    by_cases hb : p / 32 ≤ j ∧ j < p / 32 + K
    · rw [if_pos hb, layL_get _ _ _ _ _ (by rw [bd_length h]; exact hk)]
      rfl
    · rw [if_neg hb, if_neg (by omega)]

/-- The blocks behind a cut: those whose numbers are no longer to come are cleared from their end of the size on. -/
def clr (l : List Int) (m : Nat) : List Int := (List.range l.length).map fun k => if k < m then l.getD k 0 else 0
theorem clr_length (l : List Int) (m : Nat) : (clr l m).length = l.length := by simp [clr]
theorem clr_get (l : List Int) (m k : Nat) (h : k < l.length) : (clr l m).getD k 0 = if k < m then l.getD k 0 else 0 := range_get _ _ _ _ h
theorem clr_oct {l : List Int} (h : Oct l) (m : Nat) : Oct (clr l m) := fun x hx => by
  obtain ⟨i, _, rfl⟩ := List.mem_map.1 hx
  split
  · exact getD_oct h _
  · decide
theorem clr_zs (m : Nat) : clr zs m = zs := alike (clr_length _ _) fun i hi => by
  rw [clr_length] at hi
  rw [clr_get _ _ _ hi, zs_get]
  split <;> rfl
theorem clr_done {f : Fl} (h : chk f = true) {n : Nat} : mkL (fun j => clr (bd f.2 j) (ins j n)) 76 = (mk (cutT (txt f) n)).2 := by
  refine mkL_congr fun j hj => tb_of (by rw [clr_length, bd_length h]) fun k hk => ?_
  rw [clr_get _ _ _ (by rw [bd_length h]; exact hk), cutT_get, txt_get h, oct_at hk]
  by_cases hc : k < ins j n
  · rw [if_pos hc, if_pos (by unfold ins at hc; omega)]
  · rw [if_neg hc, if_neg (by unfold ins at hc; omega)]

theorem same_done {f : Fl} (h : chk f = true) : mkL (bd f.2) 76 = f.2 := by
  rw [mkL_congr (T' := tb (oct f)) fun j _ => bd_tb h j]
  exact blocks_mkL h

/-- The file (0, []) is the one of no octets. -/
theorem mk_nil : mk [] = (0, []) := by
  unfold mk
  rw [mkL_more (n := 0) (by omega) (fun j _ _ => isz_of fun k hk => by rw [tb_length] at hk; rw [tb_get _ _ _ hk]; rfl)]
  rfl
theorem chk_nil : chk (0, []) = true := by rw [← mk_nil]; exact chk_mk (by simp)
theorem txt_nil : txt (0, []) = [] := rfl

end Go.Proofs.Ytgflfmpoeamnnaa
