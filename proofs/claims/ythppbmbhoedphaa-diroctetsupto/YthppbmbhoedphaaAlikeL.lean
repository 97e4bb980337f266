/-
  What Alike answers: whether the program's entries and the document's are one; what the document's and the program's octets are held against each other by, and copied.
-/
import Derived.Test.YthppbmbhoedphaaOfL
namespace Go.Proofs.Ythppbmbhoedphaa
open Go.RowKit

theorem alike_en {a b : List En} (hl : a.length = b.length) (h : ∀ (i : Nat), i < a.length → a[i]? = b[i]?) : a = b := by
  apply List.ext_getElem? 
  intro i
  by_cases hi : i < a.length
  · exact h i hi
  · rw [List.getElem?_eq_none (by omega), List.getElem?_eq_none (by omega)]

set_option maxRecDepth 100000 in
set_option maxHeartbeats 2000000 in
theorem alike_any (n1 n2 : Nat) (v1 v2 : Value) (l1 l2 : List En) (w : World) (h1 : ArgE n1 w v1 l1) (h2 : ArgE n2 w v2 l2) :
    Calls Try.prog 17 #[v1, v2] w fun e w' => e = .returned (.int .i64 (if l1 = l2 then 0 else 1)) ∧ ∃ q, w' = w.drewN q := by
  obtain ⟨a1, c1, rfl, _, hm1, _⟩ := h1.shape
  obtain ⟨a2, c2, rfl, _, hm2, _⟩ := h2.shape
  unfold maxLen at hm1 hm2
  have hr1 := run_len Try.underlying25 a1 l1.length c1
  have hr2 := run_len Try.underlying22 a2 l2.length c2
  by_cases hlen : l1.length = l2.length
  case neg =>
    rw [if_neg (fun e => hlen (by rw [e]))]
    have hne : ¬ (l1.length : Int) = (l2.length : Int) := by omega
    clear h1 h2
    go_enter Try.func17, Try.ntmps17
    go_wp2
    go_ret
    exact ⟨rfl, 0, rfl⟩
  obtain ⟨n, hn⟩ : ∃ n, n = l1.length := ⟨_, rfl⟩
  have HN : Hid (n = l1.length ∧ n = l2.length) := ⟨hn, by omega⟩
  rw [← hlen] at h2 hr2 ⊢
  rw [← hn] at h1 h2 hr1 hr2 hm1 ⊢
  have HA : Hid (ArgE n1 w (.slice a1 n c1) l1 ∧ ArgE n2 w (.slice a2 n c2) l2) := ⟨h1, h2⟩
  obtain ⟨d, hd⟩ : ∃ d : Int, d = if l1 = l2 then 0 else 1 := ⟨_, rfl⟩
  rw [← hd]
  have HD : Hid (d = if l1 = l2 then 0 else 1) := hd
  clear h1 h2 hn hlen hd
  go_enter Try.func17, Try.ntmps17
  go_wp2
  go_loopw [5] (fun i wr => ∃ k : Nat, k ≤ n ∧ i = .int .i64 k ∧ Hid (∀ (i : Nat), i < k → l1[i]? = l2[i]?) ∧ ∃ q, wr = w.drewN q) (fun i _ => n - (intOf i).toNat)
  case atStart => exact ⟨0, Nat.zero_le _, rfl, fun i hi => by omega, 0, rfl⟩
  case round =>
    obtain ⟨k, hk, rfl, HK, q, hq⟩ := hrel
    have HQ : Hid (∀ r, ∃ q', wr.drewN r = w.drewN q') := fun r => ⟨_, by rw [hq]; exact World.drewN_drewN _ _ _⟩
    have HQ0 : Hid (∃ q', wr = w.drewN q') := ⟨q, hq⟩
    have hb0 : Below w.heap.size w wr := by rw [hq]; exact below_drewN (Below.refl _ _) q
    clear hq
    by_cases hlt : k < n
    · obtain ⟨x, hx⟩ := get_lt (l := l1) (k := k) (by rw [← HN.out.1]; exact hlt)
      obtain ⟨y, hy⟩ := get_lt (l := l2) (k := k) (by rw [← HN.out.2]; exact hlt)
      obtain ⟨b1, o1, hix1, _, g1, e1⟩ := (HA.out.1.below hb0).atN k x hx
      obtain ⟨b2, o2, hix2, _, g2, e2⟩ := (HA.out.2.below hb0).atR k y hy
      have hkn : (k : Int) < (n : Int) := by omega
      have HXY : Hid (l1[k]? = some x ∧ l2[k]? = some y) := ⟨hx, hy⟩
      obtain ⟨xs, xi⟩ := x
      obtain ⟨ys, yi⟩ := y
      simp only at g1 g2 e1 e2
      have hbe := ba_eq xs ys
      clear hx hy hb0
      by_cases hxy : xs = ys ∧ xi = yi
      · obtain ⟨rfl, rfl⟩ := hxy
        clear hbe
        go_wp2
        go_quiet (fail)
        go_wp2
        go_roundw
        case rel =>
          refine ⟨k + 1, by omega, by go_num, fun i hi => ?_, HQ.out _⟩
          by_cases e : i < k
          · exact HK.out i e
          · obtain rfl : i = k := by omega
            rw [HXY.out.1, HXY.out.2]
        case measure => simp [intOf]; omega
      · have hdf : d = 1 := by
          rw [HD.out]
          refine if_neg fun e => hxy ?_
          have h1 := HXY.out.1
          rw [e, HXY.out.2] at h1
          simp at h1
          exact ⟨h1.1.symm, h1.2.symm⟩
        subst hdf
        by_cases hs : xs = ys
        · subst hs
          have hxi : (xi == yi) = false := by
            rw [Bool.eq_false_iff]
            intro hc
            exact hxy ⟨rfl, by simpa using hc⟩
          clear hxy hbe
          go_wp2
          go_quiet (fail)
          go_wp2
          go_ret
          exact ⟨rfl, HQ.out _⟩
        · rw [decide_eq_false hs] at hbe
          clear hxy hs
          go_wp2
          go_quiet (fail)
          go_wp2
          go_ret
          exact ⟨rfl, HQ.out _⟩
    · obtain rfl : k = n := by omega
      have hdt : d = 0 := by
        rw [HD.out]
        exact if_pos (alike_en (by have := HN.out; omega) (fun i hi => HK.out i (by rw [HN.out.1]; exact hi)))
      subst hdt
      clear hb0
      go_wp2
      go_ret
      exact ⟨rfl, HQ0.out⟩

end Go.Proofs.Ythppbmbhoedphaa
