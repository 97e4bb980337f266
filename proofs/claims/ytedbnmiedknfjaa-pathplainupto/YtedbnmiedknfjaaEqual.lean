/-
  What slices.Equal answers of lists of texts, and CopyStrings; for all lists.
-/
import Derived.Test.YtedbnmiedknfjaaSame
namespace Go.Proofs.Ytedbnmiedknfjaa
open Go.RowKit

set_option maxHeartbeats 400000 in
theorem copy_any (n0 : Nat) (v : Value) (l : List ByteArray) (w : World) (h : ArgT n0 w v l) (hs : l.length * 16 ≤ 140737488351232) :
    Calls Try.prog 8 #[v] w fun e w' => (∃ v', e = .returned v' ∧ OwnT w.heap.size w' v' l) ∧ Below w.heap.size w w' := by
  obtain ⟨i0, hi, hz0, hz1, hz2⟩ := info_parts Try.info9
  have ho := h.2
  obtain ⟨hl, h | ⟨x, cap, rfl, hcap, hm, _, hc⟩⟩ := h.1
  · obtain ⟨rfl, h0⟩ := h
    obtain rfl := List.eq_nil_of_length_eq_zero h0
    go_enter Try.func8, Try.ntmps8
    go_wp2_with (at_builtin; refine wpList_append_own_none rfl _ _ 22 rfl w.heap.size 9 i0 1 Try.underlying22 hi (.slice none 0 0) 0 [] rfl (World.ownsRow_nil _ _ _ _) rfl ?_)
    go_ret
    exact ⟨⟨_, rfl, OwnT.nil _ _⟩, Below.refl _ _⟩
  · have hone := tv_one l
    go_enter Try.func8, Try.ntmps8
    go_wp2_with (at_builtin; refine wpList_append_own _ rfl _ _ 22 rfl w.heap.size 9 i0 (.string ⟨#[]⟩) 1 16 Try.underlying22 hi hz0 hz1 hz2 rfl (by decide) (.slice none 0 0) 0 [] rfl (World.ownsRow_nil _ _ _ _) x l.length cap (tv l) rfl (by simpa using hl) hc hone (by omega) (by omega) (Nat.le_refl _) ?_)
    intro v' w1 hown hgrow _
    have hb : Below w.heap.size w w1 := (Below.refl _ _).grown hgrow (Nat.le_refl _) (fun _ h => by cases h)
    clear hgrow hc hone
    go_wp2
    go_ret
    exact ⟨⟨v', rfl, ⟨by simpa using hown, ho⟩⟩, hb⟩

set_option maxRecDepth 100000 in
set_option maxHeartbeats 2000000 in
theorem equal_any (n0 n1 : Nat) (v u : Value) (l m : List ByteArray) (w : World) (h : ArgT n0 w v l) (k : ArgT n1 w u m) :
    Calls Try.prog 26 #[v, u] w fun e w' => e = .returned (.bool (decide (l = m))) ∧ ∃ q, w' = w.drewN q := by
  obtain ⟨a, c, rfl, _, hm, _⟩ := h.shape
  obtain ⟨b, d, rfl, _, hm2, _⟩ := k.shape
  unfold maxLen at hm hm2
  obtain ⟨n, hn⟩ : ∃ n, n = l.length := ⟨_, rfl⟩
  obtain ⟨n2, hn2⟩ : ∃ n, n = m.length := ⟨_, rfl⟩
  rw [← hn] at h hm ⊢
  rw [← hn2] at k hm2 ⊢
  have hl1 := run_len Try.underlying22 a n c
  have hl2 := run_len Try.underlying22 b n2 d
  have HH : Hid (ArgT n0 w (.slice a n c) l ∧ n = l.length ∧ ArgT n1 w (.slice b n2 d) m ∧ n2 = m.length) := ⟨h, hn, k, hn2⟩
  obtain ⟨R, hR⟩ : ∃ R, R = decide (l = m) := ⟨_, rfl⟩
  rw [← hR]
  have HR : Hid (R = decide (l = m)) := hR
  clear h k hn hn2 hR
  by_cases hne : n = n2
  · subst hne
    go_enter Try.func26, Try.ntmps26
    go_wp2
    go_loopw [5, 13] (fun _ i wr => ∃ k : Nat, k ≤ n ∧ i = .int .i64 k ∧ (∃ q, wr = w.drewN q) ∧ l.take k = m.take k) (fun _ i _ => n - (intOf i).toNat)
    case atStart => exact ⟨0, Nat.zero_le _, rfl, ⟨0, rfl⟩, rfl⟩
    case round =>
      obtain ⟨k, hk, rfl, ⟨q, hq⟩, htk⟩ := hrel
      have HQ : Hid (∀ r, ∃ q', wr.drewN r = w.drewN q') := fun r => ⟨_, by rw [hq]; exact World.drewN_drewN _ _ _⟩
      have HQ0 : Hid (∃ q', wr = w.drewN q') := ⟨q, hq⟩
      have hb : Below w.heap.size w wr := by rw [hq]; exact below_drewN (Below.refl _ _) q
      clear hq
      by_cases hlt : k < n
      · obtain ⟨x, hx⟩ := get_lt (l := l) (k := k) (by rw [← HH.out.2.1]; exact hlt)
        obtain ⟨y, hy⟩ := get_lt (l := m) (k := k) (by rw [← HH.out.2.2.2]; exact hlt)
        obtain ⟨b1, o1, hix1, _, hc1⟩ := (HH.out.1.below hb).at k x hx
        obtain ⟨b2, o2, hix2, _, hc2⟩ := (HH.out.2.2.1.below hb).at k y hy
        have hki : (k : Int) < (n : Int) := by omega
        have HT : Hid (l.take (k + 1) = l.take k ++ [x] ∧ m.take (k + 1) = m.take k ++ [y] ∧ l.take k = m.take k) := ⟨take_snoc hx, take_snoc hy, htk⟩
        have HX : Hid (l[k]? = some x ∧ m[k]? = some y) := ⟨hx, hy⟩
        have hxy := str_beq x y
        clear hx hy htk hb
        by_cases hex : x = y
        · have hd : (x.toList == y.toList) = true := by rw [hxy]; simp [hex]
          have HT2 : Hid (l.take (k + 1) = m.take (k + 1)) := by show _ = _; rw [HT.out.1, HT.out.2.1, HT.out.2.2, hex]
          clear hxy hex
          go_wp2
          go_quiet (fail)
          go_wp2
          go_roundw
          case rel => exact ⟨k + 1, by omega, by go_num, HQ.out _, HT2.out⟩
          case measure => simp [intOf]; omega
        · have hd : (x.toList == y.toList) = false := by rw [hxy]; simp [hex]
          have HF : Hid (R = false) := by
            show _ = _
            rw [HR.out]; exact decide_eq_false (take_ne HX.out.1 HX.out.2 hex)
          clear hxy hex
          go_wp2
          go_quiet (fail)
          go_wp2
          go_ret
          exact ⟨by rw [HF.out]; rfl, HQ.out _⟩
      · obtain rfl : k = n := by omega
        have HF : Hid (R = true) := by
          show _ = _
          rw [HR.out]
          refine decide_eq_true ?_
          have h1 := HH.out.2.1
          have h2 := HH.out.2.2.2
          rw [List.take_of_length_le (by omega), List.take_of_length_le (by omega)] at htk
          exact htk
        clear htk
        go_wp2
        go_ret
        exact ⟨by rw [HF.out]; rfl, HQ0.out⟩
  · have hnei : ((n : Int) == (n2 : Int)) = false := by simp; omega
    have HF : Hid (R = false) := by
      show _ = _
      rw [HR.out]
      exact decide_eq_false fun e => hne (by rw [HH.out.2.1, HH.out.2.2.2, e])
    go_enter Try.func26, Try.ntmps26
    go_wp2
    go_ret
    exact ⟨by rw [HF.out]; rfl, 0, rfl⟩

end Go.Proofs.Ytedbnmiedknfjaa
