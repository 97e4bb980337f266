/-
  What dir.Check answers, for every entries.
-/
import Derived.Test.YthppbmbhoedphaaMath
import Derived.Laws.Cover1
namespace Go.Proofs.Ythppbmbhoedphaa
open Go.RowKit

set_option maxRecDepth 100000 in
set_option maxHeartbeats 4000000 in
theorem check_any (n0 : Nat) (v : Value) (l : List En) (w : World) (h : ArgE n0 w v l) :
    Calls Try.prog 18 #[v] w fun e w' => e = .returned (.int .i64 (cerr l)) ∧ Below w.heap.size w w' := by
  obtain ⟨a, c, rfl, _, hm, _⟩ := h.shape
  unfold maxLen at hm
  obtain ⟨n, hn⟩ : ∃ n, n = l.length := ⟨_, rfl⟩
  rw [← hn] at h hm ⊢
  have hl1 := run_len Try.underlying25 a n c
  have HN : Hid (n = l.length) := hn
  have HA : Hid (ArgE n0 w (.slice a n c) l) := h
  have HB : Hid (Below w.heap.size w w) := Below.refl _ w
  by_cases h63 : 63 < n
  · have he : cerr l = 9 := cerr_bad fun hc => by have := hc.1; omega
    have h63i : (63 : Int) < (n : Int) := by omega
    rw [he]
    clear h hn he
    go_enter Try.func18, Try.ntmps18
    go_wp2
    go_ret
    exact ⟨rfl, HB.out⟩
  have h63i : ¬ (63 : Int) < (n : Int) := by omega
  obtain ⟨ce, hce⟩ : ∃ x, x = cerr l := ⟨_, rfl⟩
  rw [← hce]
  have HE : Hid (ce = cerr l) := hce
  clear h hn hce
  go_enter Try.func18, Try.ntmps18
  go_wp2
  go_loopw [3, 11] (fun s i wr => ∃ (k : Nat), k ≤ n ∧ i = .int .i64 k ∧ s = .string (lastN (l.take k)) ∧ Fine (l.take k) ∧ Below w.heap.size w wr) (fun _ i _ => n - (intOf i).toNat)
  case atStart => exact ⟨0, Nat.zero_le _, rfl, rfl, fine_nil, HB.out⟩
  case round =>
    obtain ⟨k, hk, rfl, rfl, hF, hbel⟩ := hrel
    by_cases hlt : k < n
    · obtain ⟨p, hp⟩ := get_lt (l := l) (k := k) (by rw [← HN.out]; exact hlt)
      obtain ⟨b, o, hix, _, hc0, hc1⟩ := (HA.out.below hbel).atN k p hp
      have hki : (k : Int) < (n : Int) := by omega
      obtain ⟨s, x⟩ := p
      simp only at hc0 hc1
      have HP : Hid (l[k]? = some (s, x) ∧ Fine (l.take k) ∧ Below w.heap.size w wr) := ⟨hp, hF, hbel⟩
      obtain ⟨ls, hls⟩ : ∃ y, y = lastN (l.take k) := ⟨_, rfl⟩
      rw [← hls]
      have HLS : Hid (ls = lastN (l.take k)) := hls
      obtain ⟨W, hW⟩ : ∃ W, W = wr.alloc (.cells #[.string s, .int .i64 x] 34) := ⟨_, rfl⟩
      have hbW : Below wr.heap.size wr W := by rw [hW]; exact (Below.refl _ wr).alloc (Nat.le_refl _) _
      have hBx : Box W wr.heap.size 34 #[.string s, .int .i64 x] := by rw [hW]; exact Box.new _ _ _
      have HW : Hid (Below w.heap.size w W ∧ Box W wr.heap.size 34 #[.string s, .int .i64 x]) := ⟨below_any hbel hbW, hBx⟩
      have HC := name_any s W
      obtain ⟨g0, g1, _, _⟩ := hBx.two
      rw [hW] at g0 g1
      clear hp hF hbel hls hbW hBx
      by_cases hnm : nameOk s = true
      case neg =>
        rw [show nerr s = 106 from if_neg hnm] at HC
        have hce : ce = 9 := by rw [HE.out]; exact cerr_bad (not_good HP.out.1 fun g => hnm g.1)
        subst hce
        clear hnm
        go_wp2_with fail
        rw [← hW]
        clear hW g0 g1
        refine HC.mono ?_
        rintro e w1 ⟨rfl, hb1⟩
        go_wp2
        go_ret
        exact ⟨rfl, below_any HW.out.1 hb1⟩
      rw [show nerr s = 0 from if_pos hnm] at HC
      cases hlt2 : ltB ls s
      case false =>
        have hce : ce = 9 := by rw [HE.out]; exact cerr_bad (not_last HP.out.1 (by rw [← HLS.out]; exact hlt2))
        subst hce
        obtain ⟨z1, hz1⟩ : ∃ z, z = Op.bytesLess s.toList ls.toList := ⟨_, rfl⟩
        obtain ⟨z2, hz2⟩ : ∃ z, z = (s.toList == ls.toList) := ⟨_, rfl⟩
        have hle : (z1 || z2) = true := by rw [hz1, hz2, leB_not, hlt2]; rfl
        clear hnm hlt2
        cases z1 <;> cases z2 <;> first | (cases hle; done) | skip
        all_goals
          clear hle
          have hy1 := hz1.symm
          have hy2 := hz2.symm
          clear hz1 hz2
          go_wp2_with fail
          rw [← hW]
          clear hW g0 g1
          refine HC.mono ?_
          rintro e w1 ⟨rfl, hb1⟩
          obtain ⟨q0, q1, _, _⟩ := (HW.out.2.below hb1 HW.out.2.lt).two
          go_wp2
          go_ret
          exact ⟨rfl, below_any HW.out.1 hb1⟩
      have hz1 : Op.bytesLess s.toList ls.toList = false := ltB_asymm hlt2
      have hz2 : (s.toList == ls.toList) = false := by
        rw [ba_eq]
        refine decide_eq_false fun e => ?_
        rw [e, ltB_irrefl] at hlt2
        cases hlt2
      cases hino : inoOk x
      case false =>
        have hce : ce = 9 := by rw [HE.out]; exact cerr_bad (not_good HP.out.1 fun g => by have := g.2; rw [hino] at this; cases this)
        subst hce
        clear hnm hlt2
        go_wp2_with fail
        rw [← hW]
        clear hW g0 g1
        refine HC.mono ?_
        rintro e w1 ⟨rfl, hb1⟩
        obtain ⟨q0, q1, _, _⟩ := (HW.out.2.below hb1 HW.out.2.lt).two
        have HM := may_any x w1
        rw [hino] at HM
        clear hino
        go_wp2_with (go_at_call 30; refine HM.mono ?_; rintro e w2 ⟨rfl, rfl⟩)
        go_ret
        exact ⟨rfl, below_any HW.out.1 hb1⟩
      have HF : Hid (Fine (l.take (k + 1)) ∧ lastN (l.take (k + 1)) = s) := ⟨by rw [take_snoc HP.out.1]; exact fine_snoc HP.out.2.1 ⟨hnm, hino⟩ (by rw [← HLS.out]; exact hlt2), lastN_take HP.out.1⟩
      clear hnm hlt2
      go_wp2_with fail
      rw [← hW]
      clear hW g0 g1
      refine HC.mono ?_
      rintro e w1 ⟨rfl, hb1⟩
      obtain ⟨q0, q1, _, _⟩ := (HW.out.2.below hb1 HW.out.2.lt).two
      have HM := may_any x w1
      rw [hino] at HM
      clear hino
      go_wp2_with (go_at_call 30; refine HM.mono ?_; rintro e w2 ⟨rfl, rfl⟩)
      go_roundw
      case rel => exact ⟨k + 1, by omega, by go_num, by rw [HF.out.2], HF.out.1, below_any HW.out.1 hb1⟩
      case measure => simp [intOf]; omega
    · obtain rfl : k = n := by omega
      have hce : ce = 0 := by
        rw [HE.out]
        refine cerr_ok ⟨by have := HN.out; omega, ?_⟩
        rw [List.take_of_length_le (by rw [HN.out]; exact Nat.le_refl _)] at hF
        exact hF
      subst hce
      go_wp2
      go_ret
      exact ⟨rfl, hbel⟩

end Go.Proofs.Ythppbmbhoedphaa
