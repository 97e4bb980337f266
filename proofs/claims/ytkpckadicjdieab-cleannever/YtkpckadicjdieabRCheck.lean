/-
  What the document's Check answers.
-/
import Derived.Test.YtkpckadicjdieabCheck
namespace Go.Proofs.Ytkpckadicjdieab
open Go.RowKit

set_option maxRecDepth 100000 in
set_option maxHeartbeats 2000000 in
theorem rmay_any (x : Option Addr) (cap : Nat) (p : Bk) (hm : p.2.2.length ≤ maxLen) (w : World) :
    Calls Try.prog 46 #[.agg #[.int .i64 p.1, .int .i64 p.2.1, .slice x p.2.2.length cap]] w fun e w' => e = .returned (.bool (mayB p)) ∧ Below w.heap.size w w' := by
  obtain ⟨o, i, d⟩ := p
  simp only at hm ⊢
  have HB : Hid (Below w.heap.size w (w.alloc (.cells #[.int .i64 o, .int .i64 i, .slice x d.length cap] 97))) := (Below.refl _ w).alloc (Nat.le_refl _) _
  have hl := run_len Try.underlying46 x d.length cap
  unfold maxLen at hm
  obtain ⟨r, hr⟩ : ∃ r, r = mayB (o, i, d) := ⟨_, rfl⟩
  have HR : Hid (r = mayB (o, i, d)) := hr
  rw [← hr]
  clear hr
  have HNO : Hid (¬ mayB (o, i, d) = true → r = false) := fun h => by rw [HR.out]; simpa using h
  by_cases h1 : 1 ≤ o
  case neg =>
    obtain rfl : r = false := HNO.out fun h => by have := (may_iff.1 h).1.1; simp only at this; omega
    go_enter Try.func46, Try.ntmps46
    go_wp2
    go_ret
    exact ⟨rfl, HB.out⟩
  by_cases h2 : o ≤ 2147483647
  case neg =>
    obtain rfl : r = false := HNO.out fun h => by have := (may_iff.1 h).1.2; simp only at this; omega
    go_enter Try.func46, Try.ntmps46
    go_wp2
    go_ret
    exact ⟨rfl, HB.out⟩
  by_cases h3 : 0 ≤ i
  case neg =>
    obtain rfl : r = false := HNO.out fun h => by have := (may_iff.1 h).2.1.1; simp only at this; omega
    go_enter Try.func46, Try.ntmps46
    go_wp2
    go_ret
    exact ⟨rfl, HB.out⟩
  by_cases h4 : i ≤ 255
  case neg =>
    obtain rfl : r = false := HNO.out fun h => by have := (may_iff.1 h).2.1.2; simp only at this; omega
    go_enter Try.func46, Try.ntmps46
    go_wp2
    go_ret
    exact ⟨rfl, HB.out⟩
  obtain ⟨n, hn⟩ : ∃ n, n = d.length := ⟨_, rfl⟩
  have HN : Hid (n = d.length) := hn
  rw [← hn] at HB hl hm ⊢
  clear hn
  by_cases h5 : n ≤ 32
  case neg =>
    obtain rfl : r = false := HNO.out fun h => by have h9 := (may_iff.1 h).2.2; have := HN.out; simp only at h9; omega
    have h5i : ¬ (n : Int) ≤ 32 := by omega
    go_enter Try.func46, Try.ntmps46
    go_wp2
    go_ret
    exact ⟨rfl, HB.out⟩
  obtain rfl : r = true := by
    rw [HR.out, may_iff.2 ⟨⟨by simp only; omega, by simp only; omega⟩, ⟨by simp only; omega, by simp only; omega⟩, by have := HN.out; simp only; omega⟩]
  have h5i : (n : Int) ≤ 32 := by omega
  go_enter Try.func46, Try.ntmps46
  go_wp2
  go_ret
  exact ⟨rfl, HB.out⟩


set_option maxRecDepth 100000 in
set_option maxHeartbeats 2000000 in
theorem rcheck_any (n0 : Nat) (us : List Value) (s : Sg) (w : World) (h : sgR.lies n0 w us s) :
    Calls Try.prog 45 #[.agg us.toArray] w fun e w' => e = .returned (.int .i64 (cerr s)) ∧ Below w.heap.size w w' := by
  obtain ⟨a, c, rfl, hL, hi, hm⟩ := sg_viewR h
  obtain ⟨q, l⟩ := s
  simp only at hL hi hm
  unfold maxLen at hm
  obtain ⟨W, hW⟩ : ∃ W, W = w.alloc (.cells #[.int .i64 q, .slice a l.length c] 36) := ⟨_, rfl⟩
  have hb : Below w.heap.size w W := by rw [hW]; exact (Below.refl _ w).alloc (Nat.le_refl _) _
  have hP : Box W w.heap.size 36 #[.int .i64 q, .slice a l.length c] := by rw [hW]; exact Box.new w _ _
  have HW : Hid (Below w.heap.size w W ∧ bksR.lies n0 W [.slice a l.length c] l ∧ Box W w.heap.size 36 #[.int .i64 q, .slice a l.length c]) := ⟨hb, bksR.below hL hb, hP⟩
  obtain ⟨ce, hce⟩ : ∃ x, x = cerr (q, l) := ⟨_, rfl⟩
  have HCB : Hid (¬ Chk (q, l) → ce = 9) := fun h => by rw [hce]; exact cerr_bad h
  have HCO : Hid (Chk (q, l) → ce = 0) := fun h => by rw [hce]; exact cerr_ok h
  rw [← hce]
  obtain ⟨n, hn⟩ : ∃ n, n = l.length := ⟨_, rfl⟩
  have HN : Hid (n = l.length) := hn
  rw [← hn] at HW hW hm
  simp only
  rw [← hn]
  have hl1 := run_len Try.underlying24 a n c
  clear h hL hb hce hP hn
  by_cases h1 : q < 1
  · obtain rfl : ce = 9 := HCB.out fun h => by have := h.1.1; simp only at this; omega
    rw [hW] at HW
    clear hW
    go_enter Try.func45, Try.ntmps45
    go_wp2
    go_ret
    exact ⟨rfl, HW.out.1⟩
  by_cases h2 : 1099511627776 < q
  · obtain rfl : ce = 9 := HCB.out fun h => by have := h.1.2; simp only at this; omega
    rw [hW] at HW
    clear hW
    go_enter Try.func45, Try.ntmps45
    go_wp2
    go_ret
    exact ⟨rfl, HW.out.1⟩
  by_cases h3 : n < 1
  · obtain rfl : ce = 9 := HCB.out fun h => by have h9 := h.2.1.1; have := HN.out; simp only at h9; omega
    have h3i : (n : Int) < 1 := by omega
    rw [hW] at HW
    clear hW
    go_enter Try.func45, Try.ntmps45
    go_wp2
    go_ret
    exact ⟨rfl, HW.out.1⟩
  have h3i : ¬ (n : Int) < 1 := by omega
  by_cases h4 : 8 < n
  · obtain rfl : ce = 9 := HCB.out fun h => by have h9 := h.2.1.2; have := HN.out; simp only at h9; omega
    have h4i : (8 : Int) < (n : Int) := by omega
    rw [hW] at HW
    clear hW
    go_enter Try.func45, Try.ntmps45
    go_wp2
    go_ret
    exact ⟨rfl, HW.out.1⟩
  have h4i : ¬ (8 : Int) < (n : Int) := by omega
  obtain ⟨g0, g1, -, -⟩ := HW.out.2.2.two
  rw [hW] at g0 g1
  go_enter Try.func45, Try.ntmps45
  go_wp2
  rw [← hW]
  clear hW g0 g1
  go_loopw [3] (fun i wr => ∃ k : Nat, k ≤ n ∧ i = .int .i64 k ∧ Hid ((l.take k).all mayB = true) ∧ Hid (Below W.heap.size W wr)) (fun i _ => n - (intOf i).toNat)
  case atStart => exact ⟨0, Nat.zero_le _, rfl, by show _ = _; simp, Below.refl _ _⟩
  case round =>
    obtain ⟨k, hk, rfl, HK, HB⟩ := hrel
    obtain ⟨g0, g1, -, -⟩ := (HW.out.2.2.below HB.out HW.out.2.2.lt).two
    by_cases hlt : k < n
    · obtain ⟨p, hp⟩ := get_lt (l := l) (k := k) (by rw [← HN.out]; exact hlt)
      obtain ⟨b, o, x, cap, hix, c0, c1, c2, hA, _⟩ := bks_atR (bksR.below HW.out.2.1 HB.out) k p hp
      have HP : Hid (l[k]? = some p) := hp
      have hki : (k : Int) < (n : Int) := by omega
      have HC := rmay_any x cap p (by obtain ⟨_, _, _, _, h1, _⟩ := hA.shape; exact h1) wr
      clear hp hA
      cases hok : mayB p
      · rw [hok] at HC
        obtain rfl : ce = 9 := HCB.out fun h => by have h9 := h.2.2; simp only at h9; rw [all_not HP.out hok] at h9; cases h9
        go_wp2_with fail
        refine HC.mono ?_
        rintro e w2 ⟨rfl, hb2⟩
        have HB2 : Hid (Below w.heap.size w w2) := below_any (below_any HW.out.1 HB.out) hb2
        go_wp2
        go_ret
        exact ⟨rfl, HB2.out⟩
      · rw [hok] at HC
        have HK2 : Hid ((l.take (k + 1)).all mayB = true) := take_step HK.out HP.out hok
        go_wp2_with fail
        refine HC.mono ?_
        rintro e w2 ⟨rfl, hb2⟩
        have HB2 : Hid (Below W.heap.size W w2) := below_any HB.out hb2
        clear hb2 g0 g1 c0 c1 c2
        go_wp2
        go_roundw
        case rel => exact ⟨k + 1, by omega, by go_num, HK2, HB2⟩
        case measure => simp [intOf]; omega
    · obtain rfl : k = n := by omega
      obtain rfl : ce = 0 := HCO.out ⟨⟨by simp only; omega, by simp only; omega⟩, ⟨by have := HN.out; simp only; omega, by have := HN.out; simp only; omega⟩, take_all (by rw [← HN.out]; exact HK.out)⟩
      clear HK
      go_wp2
      go_ret
      exact ⟨rfl, below_any HW.out.1 HB.out⟩

end Go.Proofs.Ytkpckadicjdieab
