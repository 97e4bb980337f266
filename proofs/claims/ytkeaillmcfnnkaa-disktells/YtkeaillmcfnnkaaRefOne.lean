/-
  What the document's Get answers, over every disk and number.
-/
import Derived.Test.YtkeaillmcfnnkaaRefGet
namespace Go.Proofs.Ytkeaillmcfnnkaa
open Go.RowKit

set_option maxRecDepth 100000 in
set_option maxHeartbeats 2000000 in
theorem rget_any (n0 : Nat) (v : Value) (S : St) (s : Int) (w : World) (h : Disk n0 w v S) (hs : -9223372036854775808 ≤ s ∧ s ≤ 9223372036854775807) :
    Calls Try.prog 14 #[v, .int .i64 s] w fun e w' => ∃ v', e = .returned (.tuple #[v', .int .i64 (gerr S s 1)]) ∧ w'.ownsRow w.heap.size 5 1 v' (gout S s 1).length ((gout S s 1).map (Value.int .u8)) ∧ Below w.heap.size w w' := by
  obtain ⟨a1, c1, a2, c2, rfl, hL, hW⟩ := h.shape
  obtain ⟨_, _, _, _, hm1, _⟩ := hL.shape
  have HD : Hid (Disk n0 w (.agg #[.slice a1 S.secs.length c1, .slice a2 S.cache.length c2]) S) := h
  obtain ⟨n, hn⟩ : ∃ n, n = S.secs.length := ⟨_, rfl⟩
  obtain ⟨m, hm⟩ : ∃ n, n = S.cache.length := ⟨_, rfl⟩
  obtain ⟨ge, hge⟩ : ∃ x, x = gerr S s 1 := ⟨_, rfl⟩
  obtain ⟨go, hgo⟩ : ∃ x, x = gout S s 1 := ⟨_, rfl⟩
  have HG : Hid (ge = (if chk S = false then 9 else if reach n s 1 = false then 41 else 0) ∧ go = if ge = 0 then window (full S) s.toNat 1 else []) := by
    refine ⟨by rw [hge, hn]; rfl, by rw [hgo, hge]; rfl⟩
  have HN : Hid (n = S.secs.length) := hn
  rw [← hn, ← hm] at HD ⊢
  rw [← hge, ← hgo]
  rw [← hn] at hm1
  unfold maxLen at hm1
  have hl1 := run_len Try.underlying22 a1 n c1
  clear h hL hW hn hm hge hgo
  go_enter Try.func14, Try.ntmps14
  go_wp2_with fail
  have hb0 : Below w.heap.size w (w.alloc (.cells #[.slice a1 n c1, .slice a2 m c2] 25)) := (Below.refl _ w).alloc (Nat.le_refl _) _
  refine (rcheck_any n0 _ S _ (HD.out.below hb0)).mono ?_
  rintro e w1 ⟨rfl, hb1⟩
  have hP1 : Box w1 w.heap.size 25 (.slice a1 n c1) (.slice a2 m c2) := (Box.new w 25 _ _).below hb1 (by simp)
  have HB1 : Hid (Box w1 w.heap.size 25 (.slice a1 n c1) (.slice a2 m c2) ∧ Below w.heap.size w w1) := ⟨hP1, below_any hb0 hb1⟩
  have g0 := hP1.cell0
  have g1 := hP1.cell1
  unfold cerr
  clear hb0 hb1 hP1
  cases hchk : chk S
  · have e1 : ge = 9 := by rw [HG.out.1, if_pos hchk]
    have e2 : go = [] := by rw [HG.out.2, if_neg (by omega)]
    subst e1 e2
    go_wp2
    go_ret2
    exact ⟨_, rfl, World.ownsRow_nil _ _ _ _, HB1.out.2⟩
  · by_cases hr : 0 ≤ s ∧ s < (n : Int)
    · obtain ⟨k, rfl⟩ : ∃ k : Nat, s = (k : Int) := ⟨s.toNat, by omega⟩
      have hkn : k < n := by omega
      have e1 : ge = 0 := by
        rw [HG.out.1, if_neg (by rw [hchk]; simp), if_neg]
        simp [reach]; omega
      have hrow := full_row S hchk k (by rw [← HN.out]; exact hkn)
      have e2 : go = lw S.cache k (S.secs.getD k []) := by
        rw [HG.out.2, if_pos e1, Int.toNat_natCast, window_one _ _ _ hrow]
      have f1 : ¬ ((k : Int) < 0) := by omega
      have f2 : ¬ ((n : Int) ≤ (k : Int)) := by omega
      have HKN : Hid (k < S.secs.length) := by show _ < _; rw [← HN.out]; exact hkn
      obtain ⟨_, _, _, k4, k5, _⟩ := chk_facts hchk
      have HFF : Hid ((∀ l ∈ S.secs, l.length ≤ 140737488355328) ∧ ∀ q ∈ S.cache, q.2.length ≤ 140737488355328) := ⟨fun l hl => by rw [k4 l hl]; omega, fun q hq => by rw [k5 q hq]; omega⟩
      subst e1 e2
      clear k4 k5 hrow hr hchk
      go_wp2_with fail
      refine (last_any n0 _ S k w1 (HD.out.below HB1.out.2) HKN.out HFF.out.1 HFF.out.2).mono ?_
      rintro e w2 ⟨v', rfl, hO, hb2⟩
      have HO : Hid (w2.ownsRow w1.heap.size 5 1 v' (lw S.cache k (S.secs.getD k [])).length ((lw S.cache k (S.secs.getD k [])).map (Value.int .u8)) ∧ Below w.heap.size w w2) := ⟨hO, below_any HB1.out.2 hb2⟩
      clear hO hb2 g0 g1
      go_wp2
      go_ret2
      exact ⟨_, rfl, own_weaken HO.out.1 HB1.out.2.size, HO.out.2⟩
    · have e1 : ge = 41 := by
        rw [HG.out.1, if_neg (by rw [hchk]; simp), if_pos]
        simp [reach]; omega
      have e2 : go = [] := by rw [HG.out.2, if_neg (by omega)]
      subst e1 e2
      by_cases f1 : s < 0
      · go_wp2
        go_ret2
        exact ⟨_, rfl, World.ownsRow_nil _ _ _ _, HB1.out.2⟩
      · have f2 : (n : Int) ≤ s := by omega
        go_wp2
        go_ret2
        exact ⟨_, rfl, World.ownsRow_nil _ _ _ _, HB1.out.2⟩

end Go.Proofs.Ytkeaillmcfnnkaa
