/-
  What Alike answers: whether the program's file and the document's are one.
-/
import Derived.Test.YtgflfmpoeamnnaaOfL
namespace Go.Proofs.Ytgflfmpoeamnnaa
open Go.RowKit

set_option maxRecDepth 100000 in
set_option maxHeartbeats 4000000 in
theorem alike_any (n1 n2 : Nat) (u1 u2 : List Value) (f1 f2 : Fl) (w : World) (h1 : flN.lies n1 w u1 f1) (h2 : flR.lies n2 w u2 f2) :
    Calls Try.prog 20 #[.agg u1.toArray, .agg u2.toArray] w fun e w' => e = .returned (.int .i64 (if f1 = f2 then 0 else 1)) ∧ Below w.heap.size w w' := by
  obtain ⟨a1, c1, rfl, hL1, hi1, hm1⟩ := fl_viewN h1
  obtain ⟨a2, c2, rfl, hL2, hi2, hm2⟩ := fl_viewR h2
  obtain ⟨s1, l1⟩ := f1
  obtain ⟨s2, l2⟩ := f2
  simp only at hL1 hL2 hm1 hm2 ⊢
  unfold maxLen at hm1 hm2
  have hr1 := run_len Try.underlying26 a1 l1.length c1
  have hr2 := run_len Try.underlying22 a2 l2.length c2
  obtain ⟨W, hW⟩ : ∃ W, W = (w.alloc (.cells #[.int .i64 s1, .slice a1 l1.length c1] 28)).alloc (.cells #[.int .i64 s2, .slice a2 l2.length c2] 24) := ⟨_, rfl⟩
  have hb : Below w.heap.size w W := by rw [hW]; exact ((Below.refl _ w).alloc (Nat.le_refl _) _).alloc (by simp) _
  have hB1 : Box W w.heap.size 28 #[.int .i64 s1, .slice a1 l1.length c1] := by rw [hW]; exact (Box.new _ _ _).alloc _
  have hB2 : Box W (w.heap.size + 1) 24 #[.int .i64 s2, .slice a2 l2.length c2] := by
    rw [hW]
    have := Box.new (w.alloc (.cells #[.int .i64 s1, .slice a1 l1.length c1] 28)) 24 #[.int .i64 s2, .slice a2 l2.length c2]
    rwa [World.size_alloc] at this
  have HW : Hid (Below w.heap.size w W ∧ bksN.lies n1 W [.slice a1 l1.length c1] l1 ∧ bksR.lies n2 W [.slice a2 l2.length c2] l2) := ⟨hb, bksN.below hL1 hb, bksR.below hL2 hb⟩
  obtain ⟨p0, p1, _, _⟩ := hB1.two
  obtain ⟨q0, q1, _, _⟩ := hB2.two
  clear h1 h2 hL1 hL2 hi1 hi2 hb hB1 hB2
  by_cases hs : s1 = s2
  case neg =>
    rw [if_neg (fun e => hs (congrArg Prod.fst e))]
    rw [hW] at HW
    clear p0 p1 q0 q1 hW
    go_enter Try.func20, Try.ntmps20
    go_wp2
    go_ret
    exact ⟨rfl, HW.out.1⟩
  subst hs
  by_cases hlen : l1.length = l2.length
  case neg =>
    rw [if_neg (fun e => hlen (by rw [(Prod.mk.inj e).2]))]
    have hne : ¬ (l1.length : Int) = (l2.length : Int) := by omega
    rw [hW] at HW
    clear p0 p1 q0 q1 hW
    go_enter Try.func20, Try.ntmps20
    go_wp2
    go_ret
    exact ⟨rfl, HW.out.1⟩
  obtain ⟨n, hn⟩ : ∃ n, n = l1.length := ⟨_, rfl⟩
  have HN : Hid (n = l1.length ∧ n = l2.length) := ⟨hn, by omega⟩
  rw [← hlen] at HW hr2 hW q1 ⊢
  rw [← hn] at HW hr1 hr2 hm1 hW p1 q1 ⊢
  obtain ⟨d, hd⟩ : ∃ d : Int, d = if (s1, l1) = (s1, l2) then 0 else 1 := ⟨_, rfl⟩
  rw [← hd]
  have HD : Hid (d = if (s1, l1) = (s1, l2) then 0 else 1) := hd
  rw [hW] at p0 p1 q0 q1
  have HP : Hid (∀ r, Below w.heap.size w (W.drewN r)) := fun r => below_drewN HW.out.1 r
  clear hn hlen hd hm2
  go_enter Try.func20, Try.ntmps20
  go_wp2
  rw [← hW] at p0 p1 q0 q1 ⊢
  clear hW
  go_loopw [5] (fun i wr => ∃ k : Nat, k ≤ n ∧ i = .int .i64 k ∧ Hid (∀ (i : Nat), i < k → l1[i]? = l2[i]?) ∧ ∃ q, wr = W.drewN q) (fun i _ => n - (intOf i).toNat)
  case atStart => exact ⟨0, Nat.zero_le _, rfl, fun i hi => by omega, 0, rfl⟩
  case round =>
    obtain ⟨k, hk, rfl, HK, q, rfl⟩ := hrel
    obtain ⟨W0, hW0⟩ : ∃ W0, W0 = W.drewN q := ⟨_, rfl⟩
    have hb0 : Below W.heap.size W W0 := by rw [hW0]; exact below_drewN (Below.refl _ _) q
    have p0 : W0.cell? ⟨w.heap.size, 0, none⟩ = some (.int .i64 s1) := by rw [hW0]; exact p0
    have p1 : W0.cell? ⟨w.heap.size, 1, none⟩ = some (.slice a1 n c1) := by rw [hW0]; exact p1
    have q0 : W0.cell? ⟨w.heap.size + 1, 0, none⟩ = some (.int .i64 s1) := by rw [hW0]; exact q0
    have q1 : W0.cell? ⟨w.heap.size + 1, 1, none⟩ = some (.slice a2 n c2) := by rw [hW0]; exact q1
    have HW0 : Hid (W0 = W.drewN q) := hW0
    rw [← hW0]
    by_cases hlt : k < n
    · obtain ⟨x, hx⟩ := get_lt (l := l1) (k := k) (by rw [← HN.out.1]; exact hlt)
      obtain ⟨y, hy⟩ := get_lt (l := l2) (k := k) (by rw [← HN.out.2]; exact hlt)
      obtain ⟨b1, o1, x1, z1, hix1, g1, e1, hA1, _⟩ := bks_atN (bksN.below HW.out.2.1 hb0) k x hx
      obtain ⟨b2, o2, x2, z2, hix2, g2, e2, hA2, _⟩ := bks_atR (bksR.below HW.out.2.2 hb0) k y hy
      have hkn : (k : Int) < (n : Int) := by omega
      have HXY : Hid (l1[k]? = some x ∧ l2[k]? = some y) := ⟨hx, hy⟩
      have HS : Hid (∀ r, Calls Try.prog 18 #[.slice x1 x.2.length z1, .slice x2 y.2.length z2] (W0.drewN r) fun e w' => e = .returned (.bool (decide (x.2 = y.2))) ∧ ∃ y, w' = (W0.drewN r).drewN y) := fun r =>
        same_any n1 n2 _ _ x.2 y.2 (W0.drewN r) (hA1.below (below_drewN (Below.refl _ _) r)) (hA2.below (below_drewN (Below.refl _ _) r))
      obtain ⟨xi, xd⟩ := x
      obtain ⟨yi, yd⟩ := y
      simp only at g1 g2 e1 e2 HS
      obtain ⟨m1, hm1'⟩ : ∃ S, S = xd.length := ⟨_, rfl⟩
      obtain ⟨m2, hm2'⟩ : ∃ S, S = yd.length := ⟨_, rfl⟩
      rw [← hm1', ← hm2'] at HS
      rw [← hm1'] at e1
      rw [← hm2'] at e2
      clear hx hy hA1 hA2 hm1' hm2' hb0 hW0
      by_cases hxy : xi = yi
      · subst hxy
        by_cases hd' : xd = yd
        · rw [decide_eq_true hd'] at HS
          go_wp2
          go_quiet ((go_at_call 18; exact Calls.quiet_of (HS.out _)))
          go_wp2
          go_roundw
          case rel =>
            refine ⟨k + 1, by omega, by go_num, fun i hi => ?_, _, by rw [HW0.out]; exact World.drewN_drewN _ _ _⟩
            by_cases e : i < k
            · exact HK.out i e
            · obtain rfl : i = k := by omega
              rw [HXY.out.1, HXY.out.2, hd']
          case measure => simp [intOf]; omega
        · rw [decide_eq_false hd'] at HS
          have hdf : d = 1 := by
            rw [HD.out]
            refine if_neg fun e => ?_
            have h1 := HXY.out.1
            rw [(Prod.mk.inj e).2, HXY.out.2] at h1
            simp at h1
            exact hd' h1.symm
          subst hdf
          clear hd'
          go_wp2
          go_quiet ((go_at_call 18; exact Calls.quiet_of (HS.out _)))
          go_wp2
          go_ret
          exact ⟨rfl, by rw [HW0.out, World.drewN_drewN]; exact HP.out _⟩
      · have hdf : d = 1 := by
          rw [HD.out]
          refine if_neg fun e => ?_
          have h1 := HXY.out.1
          rw [(Prod.mk.inj e).2, HXY.out.2] at h1
          simp at h1
          exact hxy h1.1.symm
        subst hdf
        clear HS
        go_wp2
        go_quiet (fail)
        go_wp2
        go_ret
        exact ⟨rfl, by rw [HW0.out, World.drewN_drewN]; exact HP.out _⟩
    · obtain rfl : k = n := by omega
      have hdt : d = 0 := by
        rw [HD.out]
        refine if_pos ?_
        rw [alike_b (by have := HN.out; omega) (fun i hi => HK.out i (by rw [HN.out.1]; exact hi))]
      subst hdt
      clear hb0 hW0
      go_wp2
      go_ret
      exact ⟨rfl, by rw [HW0.out]; exact HP.out _⟩

end Go.Proofs.Ytgflfmpoeamnnaa
