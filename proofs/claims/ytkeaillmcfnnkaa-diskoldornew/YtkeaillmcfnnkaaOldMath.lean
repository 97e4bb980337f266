/-
  What a sector may hold behind a crash: what it was, or what one of its writes had. Plain mathematics, for DiskOldOrNew.
-/
import Derived.Test.YtkeaillmcfnnkaaHoldsMath
namespace Go.Proofs.Ytkeaillmcfnnkaa
open Go.RowKit
set_option linter.unusedVariables false

/-- Whether a row is what a sector was, or what one of the first j writes of it had. -/
def okv (S : St) (k j : Nat) (r : List Int) : Bool := decide (r = S.secs.getD k []) || (S.cache.take j).any fun q => decide (q.1 = (k : Int)) && decide (r = q.2)

theorem okv_succ (S : St) (k j : Nat) (r : List Int) (q : Int × List Int) (h : S.cache[j]? = some q) : okv S k (j + 1) r = (okv S k j r || (decide (q.1 = (k : Int)) && decide (r = q.2))) := by
  unfold okv
  rw [take_snoc h, List.any_append]
  simp [Bool.or_assoc]

/-- A row behind any writes is the old one, or one of its writes'. -/
theorem fill_old (S : St) (hp : ∀ q ∈ S.cache, 0 ≤ q.1) (lands : Nat → Bool) (k : Nat) (hk : k < S.secs.length) : ∀ j, j ≤ S.cache.length → ∃ r, (fill S.secs (landed S lands j))[k]? = some r ∧ okv S k j r = true
  | 0, _ => ⟨S.secs[k], by simp [landed, fill, hk], by simp [okv, List.getD, hk]⟩
  | j + 1, hj => by
    obtain ⟨r, h1, h2⟩ := fill_old S hp lands k hk j (by omega)
    have hlt : j < S.cache.length := hj
    have hget := List.getElem?_eq_getElem hlt
    have h0 := hp _ (List.getElem_mem hlt)
    rw [landed]
    cases hl : lands j
    · refine ⟨r, by simpa using h1, ?_⟩
      rw [okv_succ S k j r _ hget, h2]; rfl
    · have hw : write S j = (S.cache[j].1.toNat, S.cache[j].2) := by simp [write, hlt]
      simp only [if_true]
      rw [fill_snoc, hw]
      by_cases e : S.cache[j].1 = (k : Int)
      · refine ⟨S.cache[j].2, ?_, ?_⟩
        · rw [show S.cache[j].1.toNat = k by omega, List.getElem?_set_self (by rw [fill_length]; exact hk)]
        · rw [okv_succ S k j _ _ hget]
          simp [e]
      · refine ⟨r, by rw [List.getElem?_set_ne (show S.cache[j].1.toNat ≠ k by omega)]; exact h1, ?_⟩
        rw [okv_succ S k j r _ hget, h2]; rfl

theorem stand_old {S : St} (hS : chk S = true) (lands : Nat → Bool) : ∃ T, stand S lands = ⟨T, []⟩ ∧ chk ⟨T, []⟩ = true ∧ T.length = S.secs.length ∧ ∀ k, k < S.secs.length → ∃ r, T[k]? = some r ∧ okv S k S.cache.length r = true := by
  obtain ⟨k1, k2, _, _, _, k6⟩ := chk_facts hS
  refine ⟨_, stand_good hS, ?_, by rw [fill_length]; simp, fun k hk => ?_⟩
  · have h64 := full_64 hS lands
    simp only [chk, Bool.and_eq_true, decide_eq_true_eq, List.all_eq_true]
    exact ⟨⟨⟨⟨by rw [fill_length]; simpa using k1, by rw [fill_length]; simpa using k2⟩, by simp⟩, fun l hl => by simpa [okSec] using h64 l hl⟩, fun q hq => by simp at hq⟩
  · rw [fill_all]
    exact fill_old S (fun q hq => (k6 q hq).1) lands k hk _ (Nat.le_refl _)

end Go.Proofs.Ytkeaillmcfnnkaa
