/-
  That SameLists of two lists of the same octets is true, and Alike of two disks of the same octets is 0.
-/
import Derived.Test.YtkeaillmcfnnkaaSame
import Derived.Test.YtkeaillmcfnnkaaBlank
namespace Go.Proofs.Ytkeaillmcfnnkaa
open Go.RowKit

theorem Lists.drewN {n0 : Nat} {w : World} {v : Value} {ls : List (List Int)} (h : Lists n0 w v ls) (q : Nat) : Lists n0 (w.drewN q) v ls := h.keep (.of_below (below_drewN (Below.refl _ _) q))

set_option maxRecDepth 100000 in
set_option maxHeartbeats 2000000 in
theorem sameLists_true (n1 n2 : Nat) (v1 v2 : Value) (ls : List (List Int)) (w : World) (h1 : Lists n1 w v1 ls) (h2 : Lists n2 w v2 ls) :
    Calls Try.prog 42 #[v1, v2] w fun e w' => e = .returned (.bool true) ∧ ∃ q, w' = w.drewN q := by
  obtain ⟨a1, c1, rfl, _, hm1, _⟩ := h1.shape
  obtain ⟨a2, c2, rfl, _, _, _⟩ := h2.shape
  have HL : Hid (Lists n1 w (.slice a1 ls.length c1) ls ∧ Lists n2 w (.slice a2 ls.length c2) ls) := ⟨h1, h2⟩
  obtain ⟨n, hn⟩ : ∃ n, n = ls.length := ⟨_, rfl⟩
  have HN : Hid (n = ls.length) := hn
  rw [← hn] at HL hm1 ⊢
  unfold maxLen at hm1
  have hl1 := run_len Try.underlying22 a1 n c1
  have hl2 := run_len Try.underlying22 a2 n c2
  clear h1 h2 hn
  go_enter Try.func42, Try.ntmps42
  go_wp2
  go_loopw [5] (fun i wr => ∃ k : Nat, k ≤ n ∧ i = .int .i64 k ∧ ∃ q, wr = w.drewN q) (fun i _ => n - (intOf i).toNat)
  case atStart => exact ⟨0, Nat.zero_le _, rfl, 0, rfl⟩
  case round =>
    obtain ⟨k, hk, rfl, q, rfl⟩ := hrel
    by_cases hlt : k < n
    · obtain ⟨l, hl⟩ := get_lt (l := ls) (k := k) (by rw [← HN.out]; exact hlt)
      obtain ⟨W0, hW0⟩ : ∃ W0, W0 = w.drewN q := ⟨_, rfl⟩
      have hb0 : Below w.heap.size w W0 := by rw [hW0]; exact below_drewN (Below.refl _ _) q
      obtain ⟨b1, o1, x1, cp1, hix1, _, hc1, hA1⟩ := (HL.out.1.below hb0).at k l hl
      obtain ⟨b2, o2, x2, cp2, hix2, _, hc2, hA2⟩ := (HL.out.2.below hb0).at k l hl
      have HS : Hid (∀ x, Calls Try.prog 21 #[.slice x1 l.length cp1, .slice x2 l.length cp2] (W0.drewN x) fun e w' => e = .returned (.bool true) ∧ ∃ y, w' = (W0.drewN x).drewN y) := fun x => by
        have := same_any n1 n2 _ _ l l (W0.drewN x) (hA1.below (below_drewN (Below.refl _ _) x)) (hA2.below (below_drewN (Below.refl _ _) x))
        rw [show decide (l = l) = true by simp] at this
        exact this
      obtain ⟨len, hlen⟩ : ∃ x, x = l.length := ⟨_, rfl⟩
      rw [← hlen] at hc1 hc2 HS
      have hki : (k : Int) < (n : Int) := by omega
      have HW0 : Hid (W0 = w.drewN q) := hW0
      rw [← hW0]
      clear hl hA1 hA2 hlen hb0 hW0
      go_wp2
      go_quiet ((go_at_call 21; exact Calls.quiet_of (HS.out _)))
      go_wp2
      go_roundw
      case rel => exact ⟨k + 1, by omega, by go_num, _, by rw [HW0.out]; exact World.drewN_drewN _ _ _⟩
      case measure => simp [intOf]; omega
    · obtain rfl : k = n := by omega
      go_wp2
      go_ret
      exact ⟨rfl, q, rfl⟩

set_option maxRecDepth 100000 in
set_option maxHeartbeats 4000000 in
theorem alike_any (n1 n2 : Nat) (v1 v2 : Value) (S : St) (w : World) (h1 : Disk n1 w v1 S) (h2 : Disk n2 w v2 S) :
    Calls Try.prog 19 #[v1, v2] w fun e w' => e = .returned (.int .i64 0) ∧ Below w.heap.size w w' := by
  obtain ⟨a1, c1, a2, c2, rfl, hL1, hW1⟩ := h1.shape
  obtain ⟨d1, e1, d2, e2, rfl, hL2, hW2⟩ := h2.shape
  obtain ⟨i6, hi6, _, hz6, _⟩ := info_parts Try.info64
  obtain ⟨i0, hi0, _, hz0, _⟩ := info_parts Try.info60
  obtain ⟨_, _, _, _, hm2, _⟩ := hW1.shape
  have HL : Hid (Lists n1 w (.slice a1 S.secs.length c1) S.secs ∧ Lists n2 w (.slice d1 S.secs.length e1) S.secs ∧ Writes n1 w (.slice a2 S.cache.length c2) S.cache ∧ Writes n2 w (.slice d2 S.cache.length e2) S.cache) := ⟨hL1, hL2, hW1, hW2⟩
  obtain ⟨n, hn⟩ : ∃ n, n = S.secs.length := ⟨_, rfl⟩
  obtain ⟨m, hm⟩ : ∃ n, n = S.cache.length := ⟨_, rfl⟩
  have HM : Hid (m = S.cache.length) := hm
  rw [← hn, ← hm] at HL ⊢
  rw [← hm] at hm2
  unfold maxLen at hm2
  clear h1 h2 hL1 hL2 hW1 hW2 hn hm
  have hl1 := run_len Try.underlying28 a2 m c2
  have hl2 := run_len Try.underlying23 d2 m e2
  go_enter Try.func19, Try.ntmps19
  go_wp2_with fail
  have hb0 : Below w.heap.size w ((w.alloc (.cells #[.slice a1 n c1, .slice a2 m c2] 30)).alloc (.cells #[.slice d1 n e1, .slice d2 m e2] 25)) := ((Below.refl _ w).alloc (Nat.le_refl _) _).alloc (by simp) _
  refine (sameLists_true n1 n2 _ _ S.secs _ (HL.out.1.below hb0) (HL.out.2.1.below hb0)).mono ?_
  rintro e w1 ⟨rfl, q0, hw1⟩
  have hb1 : Below w.heap.size w w1 := by rw [hw1]; exact below_drewN hb0 q0
  have hP1 : Box w1 w.heap.size 30 (.slice a1 n c1) (.slice a2 m c2) := by
    rw [hw1]; exact ((Box.new w 30 _ _).alloc _)
  have hP2 : Box w1 (w.heap.size + 1) 25 (.slice d1 n e1) (.slice d2 m e2) := by
    rw [hw1]
    have := Box.new (w.alloc (.cells #[.slice a1 n c1, .slice a2 m c2] 30)) 25 (.slice d1 n e1) (.slice d2 m e2)
    rw [World.size_alloc] at this
    exact this
  have HB1 : Hid (Below w.heap.size w w1 ∧ Box w1 w.heap.size 30 (.slice a1 n c1) (.slice a2 m c2) ∧ Box w1 (w.heap.size + 1) 25 (.slice d1 n e1) (.slice d2 m e2)) := ⟨hb1, hP1, hP2⟩
  have g1 := hP1.cell1
  have g2 := hP2.cell1
  clear hb0 hb1 hP1 hP2 hw1
  go_wp2
  clear g1 g2
  go_loopw [5] (fun i wr => ∃ k : Nat, k ≤ m ∧ i = .int .i64 k ∧ ∃ q, wr = w1.drewN q) (fun i _ => m - (intOf i).toNat)
  case atStart => exact ⟨0, Nat.zero_le _, rfl, 0, rfl⟩
  case round =>
    obtain ⟨k, hk, rfl, q, rfl⟩ := hrel
    obtain ⟨W0, hW0⟩ : ∃ W0, W0 = w1.drewN q := ⟨_, rfl⟩
    have hb0 : Below w1.heap.size w1 W0 := by rw [hW0]; exact below_drewN (Below.refl _ _) q
    have g1 := (HB1.out.2.1.below hb0 HB1.out.2.1.lt).cell1
    have g2 := (HB1.out.2.2.below hb0 HB1.out.2.2.lt).cell1
    have hbw := below_any HB1.out.1 hb0
    have HW0 : Hid (W0 = w1.drewN q ∧ Below w.heap.size w W0) := ⟨hW0, hbw⟩
    rw [← hW0]
    by_cases hlt : k < m
    · obtain ⟨x, hx⟩ := get_lt (l := S.cache) (k := k) (by rw [← HM.out]; exact hlt)
      obtain ⟨b1, o1, x1, cp1, hix1, _, hs1, hc1, hA1, _⟩ := (HL.out.2.2.1.below hbw).at Try.underlying28 hi6 hz6 k x hx
      obtain ⟨b2, o2, x2, cp2, hix2, _, hs2, hc2, hA2, _⟩ := (HL.out.2.2.2.below hbw).at Try.underlying23 hi0 hz0 k x hx
      obtain ⟨s, l⟩ := x
      simp only at hs1 hs2 hc1 hc2 hA1 hA2
      have HS : Hid (∀ x, Calls Try.prog 21 #[.slice x1 l.length cp1, .slice x2 l.length cp2] (W0.drewN x) fun e w' => e = .returned (.bool true) ∧ ∃ y, w' = (W0.drewN x).drewN y) := fun x => by
        have := same_any n1 n2 _ _ l l (W0.drewN x) (hA1.below (below_drewN (Below.refl _ _) x)) (hA2.below (below_drewN (Below.refl _ _) x))
        rw [show decide (l = l) = true by simp] at this
        exact this
      obtain ⟨len, hlen⟩ : ∃ x, x = l.length := ⟨_, rfl⟩
      rw [← hlen] at hc1 hc2 HS
      have hki : (k : Int) < (m : Int) := by omega
      clear hx hA1 hA2 hlen hb0 hbw hW0
      go_wp2
      go_quiet ((go_at_call 21; exact Calls.quiet_of (HS.out _)))
      go_wp2
      go_roundw
      case rel => exact ⟨k + 1, by omega, by go_num, _, by rw [HW0.out.1]; exact World.drewN_drewN _ _ _⟩
      case measure => simp [intOf]; omega
    · obtain rfl : k = m := by omega
      clear hb0 hbw hW0
      go_wp2
      go_ret
      exact ⟨rfl, HW0.out.2⟩

end Go.Proofs.Ytkeaillmcfnnkaa
