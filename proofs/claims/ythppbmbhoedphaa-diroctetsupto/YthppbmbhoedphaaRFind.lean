/-
  What the document's Find answers, for every entries and every name.
-/
import Derived.Test.YthppbmbhoedphaaFind
namespace Go.Proofs.Ythppbmbhoedphaa
open Go.RowKit

theorem not_there {l : List En} {x : ByteArray} (h : ∀ (i : Nat) (q : En), i < l.length → l[i]? = some q → q.1 ≠ x) : there l x = false := by
  rw [Bool.eq_false_iff]
  intro hc
  obtain ⟨i, p, hp, he⟩ := (there_iff l x).1 hc
  exact h i p (List.getElem?_eq_some_iff.1 hp).1 hp he

set_option maxRecDepth 100000 in
set_option maxHeartbeats 2000000 in
theorem rfind_any (n0 : Nat) (v : Value) (l : List En) (x : ByteArray) (w : World) (h : ArgE n0 w v l) :
    Calls Try.prog 11 #[v, .string x] w fun e w' => e = .returned (.tuple #[.int .i64 (fno l x), .bool (fis l x), .int .i64 (cerr l)]) ∧ ∃ q, w' = w.drewN q := by
  have HC := rcheck_any n0 v l w h
  obtain ⟨a, c, rfl, _⟩ := h.shape
  by_cases hck : Chk l
  case neg =>
    rw [show fno l x = 0 from if_neg hck, show fis l x = false from if_neg hck]
    rw [cerr_bad hck] at HC ⊢
    clear h hck
    go_enter Try.func11, Try.ntmps11
    go_wp2_with fail
    refine HC.mono ?_
    rintro e w1 ⟨rfl, hb1⟩
    go_wp2
    go_ret3
    exact ⟨rfl, hb1⟩
  rw [show fno l x = fnd l x from if_pos hck, show fis l x = there l x from if_pos hck]
  rw [cerr_ok hck] at HC ⊢
  obtain ⟨n, hn⟩ : ∃ n, n = l.length := ⟨_, rfl⟩
  rw [← hn] at h HC ⊢
  have hl1 := run_len Try.underlying22 a n c
  have h63 : n ≤ 63 := by rw [hn]; exact hck.1
  have HH : Hid (ArgE n0 w (.slice a n c) l ∧ n = l.length) := ⟨h, hn⟩
  obtain ⟨y, hy⟩ : ∃ y, y = fnd l x := ⟨_, rfl⟩
  obtain ⟨t, ht⟩ : ∃ t, t = there l x := ⟨_, rfl⟩
  rw [← hy, ← ht]
  have HY : Hid (y = fnd l x ∧ t = there l x) := ⟨hy, ht⟩
  clear h hck hn hy ht
  go_enter Try.func11, Try.ntmps11
  go_wp2_with fail
  refine HC.mono ?_
  rintro e w1 ⟨rfl, q1, hq1⟩
  have HQ1 : Hid (w1 = w.drewN q1) := hq1
  have HA : Hid (ArgE n0 w1 (.slice a n c) l) := by
    show ArgE _ _ _ _
    rw [hq1]; exact HH.out.1.below (below_drewN (Below.refl _ _) _)
  clear hq1 HC
  go_wp2
  go_loopw [7] (fun i wr => ∃ k : Nat, k ≤ n ∧ i = .int .i64 k ∧ wr = w1 ∧ Hid (∀ (i : Nat) (q : En), i < k → l[i]? = some q → q.1 ≠ x)) (fun i _ => n - (intOf i).toNat)
  case atStart => exact ⟨0, Nat.zero_le _, rfl, rfl, fun i q hi => by omega⟩
  case round =>
    obtain ⟨k, hk, rfl, hwr, HK⟩ := hrel
    subst hwr
    by_cases hlt : k < n
    · obtain ⟨p, hp⟩ := get_lt (l := l) (k := k) (by rw [← HH.out.2]; exact hlt)
      obtain ⟨b, o, hix, _, hc0, hc1⟩ := HA.out.atR k p hp
      have hki : (k : Int) < (n : Int) := by omega
      obtain ⟨s, z⟩ := p
      simp only at hc0 hc1
      have HP : Hid (l[k]? = some (s, z)) := hp
      have heq := ba_eq s x
      clear hp
      by_cases hsx : s = x
      · rw [decide_eq_true hsx] at heq
        have hy : y = z := by rw [HY.out.1]; exact find_first HK.out HP.out hsx
        have ht : t = true := by rw [HY.out.2]; exact (there_iff l x).2 ⟨k, _, HP.out, hsx⟩
        subst hy ht
        clear hsx
        go_wp2
        go_ret3
        exact ⟨rfl, _, HQ1.out⟩
      · rw [decide_eq_false hsx] at heq
        have HN : Hid (s ≠ x) := hsx
        clear hsx
        go_wp2
        go_roundw
        case rel =>
          refine ⟨k + 1, by omega, by go_num, by first | rfl | trivial, fun i q hi hq => ?_⟩
          by_cases e : i < k
          · exact HK.out i q e hq
          · obtain rfl : i = k := by omega
            rw [HP.out] at hq
            simp at hq
            rw [← hq]
            exact HN.out
        case measure => simp [intOf]; omega
    · obtain rfl : k = n := by omega
      have hth : there l x = false := not_there fun i q hi hq => HK.out i q (by rw [HH.out.2]; exact hi) hq
      have hy : y = 0 := by rw [HY.out.1]; exact fnd_none hth
      have ht : t = false := by rw [HY.out.2]; exact hth
      subst hy ht
      clear hth
      go_wp2
      go_ret3
      exact ⟨rfl, _, HQ1.out⟩

end Go.Proofs.Ythppbmbhoedphaa
