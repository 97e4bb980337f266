/-
  What isZero, start, inside, mayStand answer, and cmp.Compare.
-/
import Derived.Test.YtgflfmpoeamnnaaMath
namespace Go.Proofs.Ytgflfmpoeamnnaa
open Go.RowKit

/-- The closure of isZero, as a value. -/
def someV : Value := .func (.func 43) #[] #[]

set_option maxHeartbeats 400000 in
theorem some_any (x : Int) (w : World) : Calls Try.prog 43 #[.int .u8 x] w fun e w' => e = .returned (.bool (decide (x ≠ 0))) ∧ w = w' := by
  by_cases h : x = 0
  · rw [decide_eq_false (by simpa using h)]
    go_enter Try.func43, Try.ntmps43
    go_wp2
    go_ret
    exact ⟨rfl, rfl⟩
  · rw [decide_eq_true (by simpa using h)]
    go_enter Try.func43, Try.ntmps43
    go_wp2
    go_ret
    exact ⟨by simp [h], rfl⟩

theorem isz_take_all {l : List Int} (h : isz (l.take l.length) = true) : isz l = true := by simpa using h
theorem isz_take_step {l : List Int} {k : Nat} (h : isz (l.take k) = true) (hx : l[k]? = some 0) : isz (l.take (k + 1)) = true := by
  rw [take_snoc hx, isz, List.all_append]
  simp only [isz] at h
  rw [h]; rfl
theorem isz_some {l : List Int} {k : Nat} {x : Int} (hx : l[k]? = some x) (h : x ≠ 0) : isz l = false := by
  rw [← Bool.not_eq_true]
  intro hz
  exact h (isz_iff.1 hz x (List.mem_of_getElem? hx))

set_option maxRecDepth 100000 in
set_option maxHeartbeats 2000000 in
theorem index_any (n0 : Nat) (v : Value) (l : List Int) (w : World) (h : Arg n0 w v l) :
    Calls Try.prog 47 #[v, someV] w fun e w' => (∃ r : Int, e = .returned (.int .i64 r) ∧ ((r = -1 ∧ isz l = true) ∨ (0 ≤ r ∧ isz l = false))) ∧ w = w' := by
  obtain ⟨a, c, rfl, _, hm, _⟩ := h.shape
  have HL : Hid (Arg n0 w (.slice a l.length c) l) := h
  obtain ⟨n, hn⟩ : ∃ n, n = l.length := ⟨_, rfl⟩
  have HN : Hid (n = l.length) := hn
  rw [← hn] at HL hm ⊢
  unfold maxLen at hm
  have hl1 := run_len Try.underlying25 a n c
  clear h hn
  unfold someV
  go_enter Try.func47, Try.ntmps47
  go_wp2
  go_loopw [8] (fun i wr => ∃ k : Nat, k ≤ n ∧ i = .int .i64 k ∧ Hid (isz (l.take k) = true) ∧ w = wr) (fun i _ => n - (intOf i).toNat)
  case atStart => exact ⟨0, Nat.zero_le _, rfl, by show _ = _; simp [isz], rfl⟩
  case round =>
    obtain ⟨k, hk, rfl, HK, rfl⟩ := hrel
    by_cases hlt : k < n
    · obtain ⟨x, hx⟩ := get_lt (l := l) (k := k) (by rw [← HN.out]; exact hlt)
      obtain ⟨b, o, hix, _, g0, _⟩ := HL.out.at k x hx
      have HX : Hid (l[k]? = some x) := hx
      clear hx
      have hki : (k : Int) < (n : Int) := by omega
      have HC := some_any x w
      by_cases h0 : x = 0
      · subst h0
        rw [decide_eq_false (by simp)] at HC
        have HK2 : Hid (isz (l.take (k + 1)) = true) := isz_take_step HK.out HX.out
        go_wp2_with fail
        refine HC.mono ?_
        rintro e w2 ⟨rfl, rfl⟩
        go_wp2
        go_roundw
        case rel => exact ⟨k + 1, by omega, by go_num, HK2, trivial⟩
        case measure => simp [intOf]; omega
      · rw [decide_eq_true (by simpa using h0)] at HC
        have HA : Hid (isz l = false) := isz_some HX.out h0
        go_wp2_with fail
        refine HC.mono ?_
        rintro e w2 ⟨rfl, rfl⟩
        go_wp2
        go_ret
        exact ⟨⟨k, rfl, .inr ⟨by omega, HA.out⟩⟩, rfl⟩
    · obtain rfl : k = n := by omega
      have HA : Hid (isz l = true) := isz_take_all (by rw [← HN.out]; exact HK.out)
      clear HK
      go_wp2
      go_ret
      exact ⟨⟨-1, rfl, .inl ⟨rfl, HA.out⟩⟩, rfl⟩

set_option maxHeartbeats 1000000 in
theorem contains_any (n0 : Nat) (v : Value) (l : List Int) (w : World) (h : Arg n0 w v l) :
    Calls Try.prog 42 #[v, someV] w fun e w' => e = .returned (.bool (!isz l)) ∧ w = w' := by
  have HC := index_any n0 v l w h
  clear h
  unfold someV at HC ⊢
  obtain ⟨al, hal⟩ : ∃ x, x = isz l := ⟨_, rfl⟩
  rw [← hal] at HC ⊢
  clear hal
  go_enter Try.func42, Try.ntmps42
  go_wp2_with fail
  refine HC.mono ?_
  rintro e w2 ⟨⟨r, rfl, hr⟩, rfl⟩
  rcases hr with ⟨rfl, rfl⟩ | ⟨h0, rfl⟩
  · go_wp2
    go_ret
    exact ⟨rfl, rfl⟩
  · go_wp2
    go_ret
    exact ⟨by simp, rfl⟩

set_option maxHeartbeats 1000000 in
theorem zero_any (n0 : Nat) (v : Value) (l : List Int) (w : World) (h : Arg n0 w v l) :
    Calls Try.prog 36 #[v] w fun e w' => e = .returned (.bool (isz l)) ∧ w = w' := by
  have HC := contains_any n0 v l w h
  clear h
  unfold someV at HC
  obtain ⟨al, hal⟩ : ∃ x, x = isz l := ⟨_, rfl⟩
  rw [← hal] at HC ⊢
  clear hal
  go_enter Try.func36, Try.ntmps36
  go_wp2_with fail
  refine HC.mono ?_
  rintro e w2 ⟨rfl, rfl⟩
  go_wp2
  go_ret
  exact ⟨by simp, rfl⟩

set_option maxHeartbeats 400000 in
theorem start_any (x : Int) (w : World) (h : 0 ≤ x ∧ x ≤ 1000) : Calls Try.prog 26 #[.int .i64 x] w fun e w' => e = .returned (.int .i64 (32 * x)) ∧ w = w' := by
  go_enter Try.func26, Try.ntmps26
  go_wp2
  go_ret
  exact ⟨by go_num, rfl⟩

set_option maxHeartbeats 400000 in
theorem inside_any (x s : Int) (w : World) (h : 0 ≤ x ∧ x ≤ 1000) (hs : 0 ≤ s ∧ s ≤ 100000) : Calls Try.prog 33 #[.int .i64 x, .int .i64 s] w fun e w' => e = .returned (.int .i64 (ins x s)) ∧ w = w' := by
  have HC := start_any x w h
  obtain ⟨m, hm⟩ : ∃ m, m = 32 * x := ⟨_, rfl⟩
  rw [← hm] at HC
  have hmb : 0 ≤ m ∧ m ≤ 32000 := by omega
  by_cases h1 : s - m < 0
  · rw [show ((ins x s : Nat) : Int) = 0 by unfold ins; omega]
    clear hm
    go_enter Try.func33, Try.ntmps33
    go_wp2_with fail
    refine HC.mono ?_
    rintro e w2 ⟨rfl, rfl⟩
    go_wp2
    go_ret
    exact ⟨rfl, rfl⟩
  · by_cases h2 : s - m < 32
    · rw [show ((ins x s : Nat) : Int) = s - m by unfold ins; omega]
      clear hm
      go_enter Try.func33, Try.ntmps33
      go_wp2_with fail
      refine HC.mono ?_
      rintro e w2 ⟨rfl, rfl⟩
      go_wp2
      go_ret
      exact ⟨by go_num, rfl⟩
    · rw [show ((ins x s : Nat) : Int) = 32 by unfold ins; omega]
      clear hm
      by_cases h3 : s - m = 32
      · go_enter Try.func33, Try.ntmps33
        go_wp2_with fail
        refine HC.mono ?_
        rintro e w2 ⟨rfl, rfl⟩
        go_wp2
        go_ret
        exact ⟨by go_num, rfl⟩
      · have h4 : 32 < s - m := by omega
        go_enter Try.func33, Try.ntmps33
        go_wp2_with fail
        refine HC.mono ?_
        rintro e w2 ⟨rfl, rfl⟩
        go_wp2
        go_ret
        exact ⟨by go_num, rfl⟩

end Go.Proofs.Ytgflfmpoeamnnaa
