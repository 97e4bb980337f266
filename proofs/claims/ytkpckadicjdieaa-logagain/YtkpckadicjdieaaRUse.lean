/-
  The document's slots in use.
-/
import Derived.Test.YtkpckadicjdieaaRLCheck
import Derived.Test.YtkpckadicjdieaaLUse
namespace Go.Proofs.Ytkpckadicjdieaa
open Go.RowKit

set_option maxRecDepth 100000 in
set_option maxHeartbeats 4000000 in
theorem rused_any (n0 : Nat) (us : List Value) (s : St) (k : Int) (w : World) (h : stR.lies n0 w us s) :
    Calls Try.prog 83 #[.agg us.toArray, .int .i64 k] w fun e w' => e = .returned (.int .i64 (uE s k)) ∧ Below w.heap.size w w' := by
  obtain ⟨a, c, b, d, e, f, rfl, hS, hH, hO, hN, m1, m2, m3⟩ := st_viewR h
  obtain ⟨post, hpost⟩ : ∃ post : Ending → World → Prop, post = fun e w' => e = .returned (.int .i64 (uE s k)) ∧ Below w.heap.size w w' := ⟨_, rfl⟩
  have HP : Hid (∀ r w', uE s k = r → Below w.heap.size w w' → post (.returned (.int .i64 r)) w') := fun r w' h1 h2 => by rw [hpost]; exact ⟨by rw [h1], h2⟩
  rw [← hpost]
  clear hpost
  unfold maxLen at m1
  obtain ⟨n, hn⟩ : ∃ n, n = s.1.length := ⟨_, rfl⟩
  obtain ⟨nh, hnh⟩ : ∃ n, n = s.2.1.length := ⟨_, rfl⟩
  obtain ⟨no, hno⟩ : ∃ n, n = s.2.2.1.length := ⟨_, rfl⟩
  obtain ⟨nx, hnx⟩ : ∃ n, n = s.2.2.2 := ⟨_, rfl⟩
  rw [← hn, ← hnh, ← hno, ← hnx] at h ⊢
  rw [← hn] at hS m1
  obtain ⟨W, hW⟩ : ∃ W, W = w.alloc (.cells #[.slice a n c, .slice b nh d, .slice e no f, .int .i64 nx] 26) := ⟨_, rfl⟩
  have hbW : Below w.heap.size w W := by rw [hW]; exact (Below.refl _ w).alloc (Nat.le_refl _) _
  have hB1 : Box W w.heap.size 26 #[.slice a n c, .slice b nh d, .slice e no f, .int .i64 nx] := by rw [hW]; exact Box.new _ _ _
  have HC := rcheckL_any n0 [.slice a n c, .slice b nh d, .slice e no f, .int .i64 nx] s W (stR.below h hbW)
  have HW : Hid (Below w.heap.size w W ∧ Box W w.heap.size 26 #[.slice a n c, .slice b nh d, .slice e no f, .int .i64 nx] ∧ sgsR.lies n0 w [.slice a n c] s.1 ∧ n = s.1.length) := ⟨hbW, hB1, hS, hn⟩
  have hl1 := run_len Try.underlying22 a n c
  obtain ⟨g0, g1, g2, g3, -⟩ := hB1.four
  rw [hW] at g0 g1 g2 g3
  clear h hS hH hO hN m2 m3 hbW hB1 hn hnh hno hnx
  go_enter Try.func83, Try.ntmps83
  go_wp2_with fail
  rw [← hW]
  clear hW g0 g1 g2 g3
  refine HC.mono ?_
  rintro e1 w1 ⟨rfl, hb1⟩
  have hx1 := HW.out.2.1.below hb1 HW.out.2.1.lt
  have HB1 : Hid (Below w.heap.size w w1) := below_any HW.out.1 hb1
  obtain ⟨q0, q1, q2, q3, -⟩ := hx1.four
  clear hx1 hb1 HC
  rcases okE_cases s with ⟨hk, hok⟩ | ⟨hk, hok⟩
  case inr =>
    rw [hk]
    have HE : Hid (post (.returned (.int .i64 9)) w1) := HP.out 9 w1 (by
      have : okB s = false := by cases hb : okB s with | false => rfl | true => exact absurd (ok_iff.1 hb) hok
      unfold uE; rw [if_pos this]) HB1.out
    clear hk hok
    go_wp2
    exact HE.out
  case inl =>
    rw [hk]
    have HOK : Hid (Ok s ∧ okB s = true) := ⟨hok, ok_iff.2 hok⟩
    have HBAD : Hid (usedB s k = false → post (.returned (.int .i64 71)) w1) := fun h => HP.out 71 w1 (by unfold uE; rw [if_neg (by rw [HOK.out.2]; simp), if_pos h]) HB1.out
    clear hk hok
    by_cases h0 : k < 0
    · have HE : Hid (post (.returned (.int .i64 71)) w1) := HBAD.out (by unfold usedB; rw [decide_eq_false (by omega)]; rfl)
      go_wp2
      exact HE.out
    · obtain ⟨i, rfl⟩ : ∃ i : Nat, k = i := ⟨k.toNat, by omega⟩
      by_cases h1 : n ≤ i
      · have h1i : (n : Int) ≤ (i : Int) := by omega
        have HE : Hid (post (.returned (.int .i64 71)) w1) := HBAD.out (by unfold usedB; rw [Int.toNat_natCast, List.getElem?_eq_none (by rw [← HW.out.2.2.2]; exact h1)]; simp)
        go_wp2
        exact HE.out
      · have h1i : ¬ (n : Int) ≤ (i : Int) := by omega
        obtain ⟨p, hp⟩ := get_lt (l := s.1) (k := i) (by rw [← HW.out.2.2.2]; omega)
        obtain ⟨pb, po, x, cap, hix, c0, c1, hL, _⟩ := sgs_atR (sgsR.below HW.out.2.2.1 HB1.out) i p hp
        have HU : Hid (usedB s (i : Int) = !freeB p) := by
          show usedB s (i : Int) = _
          unfold usedB
          rw [Int.toNat_natCast, hp, decide_eq_true (by omega)]
          rfl
        obtain ⟨q, pl⟩ := p
        simp only at c0 c1
        obtain ⟨m, hm⟩ : ∃ m, m = pl.length := ⟨_, rfl⟩
        rw [← hm] at c1
        have HFR : Hid (freeB (q, pl) = (decide (q = 0) && decide (m = 0))) := by show freeB _ = _; rw [hm]; rfl
        have HC := rfree_any q x m cap w1
        rw [← HFR.out] at HC
        cases hfr : freeB (q, pl)
        · rw [hfr] at HC HU
          clear hp hL hm hfr
          go_wp2_with fail
          refine HC.mono ?_
          rintro e2 w2 ⟨rfl, hb2⟩
          have HE : Hid (post (.returned (.int .i64 0)) w2) := HP.out 0 w2 (by unfold uE; rw [if_neg (by rw [HOK.out.2]; simp), if_neg (by rw [HU.out]; simp)]) (below_any HB1.out hb2)
          clear hb2
          go_wp2
          exact HE.out
        · rw [hfr] at HC HU
          clear hp hL hm hfr
          go_wp2_with fail
          refine HC.mono ?_
          rintro e2 w2 ⟨rfl, hb2⟩
          have HE : Hid (post (.returned (.int .i64 71)) w2) := HP.out 71 w2 (by unfold uE; rw [if_neg (by rw [HOK.out.2]; simp), if_pos (by rw [HU.out]; rfl)]) (below_any HB1.out hb2)
          clear hb2
          go_wp2
          exact HE.out


end Go.Proofs.Ytkpckadicjdieaa
