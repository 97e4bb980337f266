/-
  Score: the program's and the document's.
-/
import Derived.Test.YtkpckadicjdieabVMath
namespace Go.Proofs.Ytkpckadicjdieab
open Go.RowKit

/-- May a score be told? -/
def scOk (q l n : Int) : Prop := 1 ≤ q ∧ q ≤ 1099511627776 ∧ 0 ≤ l ∧ l ≤ 8 ∧ q ≤ n ∧ n ≤ 1099511627776
def scB (q l n : Int) : Bool := decide (1 ≤ q) && decide (q ≤ 1099511627776) && decide (0 ≤ l) && decide (l ≤ 8) && decide (q ≤ n) && decide (n ≤ 1099511627776)
theorem scB_iff {q l n : Int} : scB q l n = true ↔ scOk q l n := by
  unfold scB scOk
  simp only [Bool.and_eq_true, decide_eq_true_eq, and_assoc]
def scE (q l n : Int) : Int := if scB q l n = true then 0 else 4
def scV (q l n : Int) : Int := if scB q l n = true then 64 * (8 - l) * (n - q) / (8 + l) else 0
theorem sc_no {q l n : Int} (h : ¬ scOk q l n) : scV q l n = 0 := if_neg fun c => h (scB_iff.1 c)
theorem sc_no2 {q l n : Int} (h : ¬ scOk q l n) : scE q l n = 4 := if_neg fun c => h (scB_iff.1 c)
theorem sc_yes {q l n : Int} (h : scOk q l n) : scV q l n = 64 * (8 - l) * (n - q) / (8 + l) := if_pos (scB_iff.2 h)
theorem sc_yes2 {q l n : Int} (h : scOk q l n) : scE q l n = 0 := if_pos (scB_iff.2 h)

set_option maxRecDepth 100000 in
set_option maxHeartbeats 4000000 in
theorem score_any (q l n : Int) (w : World) (hq : I64 q) (hl : I64 l) (hn : I64 n) :
    Calls Try.prog 16 #[.int .i64 q, .int .i64 l, .int .i64 n] w fun e w' => e = .returned (.tuple #[.int .i64 (scV q l n), .int .i64 (scE q l n)]) ∧ w = w' := by
  obtain ⟨post, hpost⟩ : ∃ post : Ending → World → Prop, post = fun e w' => e = .returned (.tuple #[.int .i64 (scV q l n), .int .i64 (scE q l n)]) ∧ w = w' := ⟨_, rfl⟩
  have HNO : Hid (¬ scOk q l n → post (.returned (.tuple #[.int .i64 0, .int .i64 4])) w) := fun h => by rw [hpost, sc_no h, sc_no2 h]; exact ⟨rfl, rfl⟩
  have HYES : Hid (∀ r, scOk q l n → r = 64 * (8 - l) * (n - q) / (8 + l) → post (.returned (.tuple #[.int .i64 r, .int .i64 0])) w) := fun r h e => by rw [hpost, sc_yes h, sc_yes2 h, e]; exact ⟨rfl, rfl⟩
  rw [← hpost]
  clear hpost
  obtain ⟨hq1, hq2⟩ := hq
  obtain ⟨hl1, hl2⟩ := hl
  obtain ⟨hn1, hn2⟩ := hn
  by_cases h0 : q < 1
  · have HQ : Hid (post (.returned (.tuple #[.int .i64 0, .int .i64 4])) w) := HNO.out fun h => by unfold scOk at h; omega
    go_enter Try.func16, Try.ntmps16
    go_wp2
    exact HQ.out
  by_cases h1 : 1099511627776 < q
  · have HQ : Hid (post (.returned (.tuple #[.int .i64 0, .int .i64 4])) w) := HNO.out fun h => by unfold scOk at h; omega
    go_enter Try.func16, Try.ntmps16
    go_wp2
    exact HQ.out
  by_cases h2 : l < 0
  · have HQ : Hid (post (.returned (.tuple #[.int .i64 0, .int .i64 4])) w) := HNO.out fun h => by unfold scOk at h; omega
    go_enter Try.func16, Try.ntmps16
    go_wp2
    exact HQ.out
  by_cases h3 : 8 < l
  · have HQ : Hid (post (.returned (.tuple #[.int .i64 0, .int .i64 4])) w) := HNO.out fun h => by unfold scOk at h; omega
    go_enter Try.func16, Try.ntmps16
    go_wp2
    exact HQ.out
  by_cases h4 : n < q
  · have HQ : Hid (post (.returned (.tuple #[.int .i64 0, .int .i64 4])) w) := HNO.out fun h => by unfold scOk at h; omega
    go_enter Try.func16, Try.ntmps16
    go_wp2
    exact HQ.out
  by_cases h5 : 1099511627776 < n
  · have HQ : Hid (post (.returned (.tuple #[.int .i64 0, .int .i64 4])) w) := HNO.out fun h => by unfold scOk at h; omega
    go_enter Try.func16, Try.ntmps16
    go_wp2
    exact HQ.out
  have hl : l = 0 ∨ l = 1 ∨ l = 2 ∨ l = 3 ∨ l = 4 ∨ l = 5 ∨ l = 6 ∨ l = 7 ∨ l = 8 := by omega
  clear hl1 hl2 h2 h3
  rcases hl with rfl | rfl | rfl | rfl | rfl | rfl | rfl | rfl | rfl
  · have HQ : Hid (∀ r, r = 512 * (n - q) / 8 → post (.returned (.tuple #[.int .i64 r, .int .i64 0])) w) := fun r e => HYES.out r (by unfold scOk; omega) (by omega)
    go_enter Try.func16, Try.ntmps16
    go_wp2
    exact HQ.out _ (by omega)
  · have HQ : Hid (∀ r, r = 448 * (n - q) / 9 → post (.returned (.tuple #[.int .i64 r, .int .i64 0])) w) := fun r e => HYES.out r (by unfold scOk; omega) (by omega)
    go_enter Try.func16, Try.ntmps16
    go_wp2
    exact HQ.out _ (by omega)
  · have HQ : Hid (∀ r, r = 384 * (n - q) / 10 → post (.returned (.tuple #[.int .i64 r, .int .i64 0])) w) := fun r e => HYES.out r (by unfold scOk; omega) (by omega)
    go_enter Try.func16, Try.ntmps16
    go_wp2
    exact HQ.out _ (by omega)
  · have HQ : Hid (∀ r, r = 320 * (n - q) / 11 → post (.returned (.tuple #[.int .i64 r, .int .i64 0])) w) := fun r e => HYES.out r (by unfold scOk; omega) (by omega)
    go_enter Try.func16, Try.ntmps16
    go_wp2
    exact HQ.out _ (by omega)
  · have HQ : Hid (∀ r, r = 256 * (n - q) / 12 → post (.returned (.tuple #[.int .i64 r, .int .i64 0])) w) := fun r e => HYES.out r (by unfold scOk; omega) (by omega)
    go_enter Try.func16, Try.ntmps16
    go_wp2
    exact HQ.out _ (by omega)
  · have HQ : Hid (∀ r, r = 192 * (n - q) / 13 → post (.returned (.tuple #[.int .i64 r, .int .i64 0])) w) := fun r e => HYES.out r (by unfold scOk; omega) (by omega)
    go_enter Try.func16, Try.ntmps16
    go_wp2
    exact HQ.out _ (by omega)
  · have HQ : Hid (∀ r, r = 128 * (n - q) / 14 → post (.returned (.tuple #[.int .i64 r, .int .i64 0])) w) := fun r e => HYES.out r (by unfold scOk; omega) (by omega)
    go_enter Try.func16, Try.ntmps16
    go_wp2
    exact HQ.out _ (by omega)
  · have HQ : Hid (∀ r, r = 64 * (n - q) / 15 → post (.returned (.tuple #[.int .i64 r, .int .i64 0])) w) := fun r e => HYES.out r (by unfold scOk; omega) (by omega)
    go_enter Try.func16, Try.ntmps16
    go_wp2
    exact HQ.out _ (by omega)
  · have HQ : Hid (∀ r, r = 0 * (n - q) / 16 → post (.returned (.tuple #[.int .i64 r, .int .i64 0])) w) := fun r e => HYES.out r (by unfold scOk; omega) (by omega)
    go_enter Try.func16, Try.ntmps16
    go_wp2
    exact HQ.out _ (by omega)

end Go.Proofs.Ytkpckadicjdieab
