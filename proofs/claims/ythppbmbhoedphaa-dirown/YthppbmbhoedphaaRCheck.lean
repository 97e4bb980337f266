/-
  What the document's answer for Check is, for every entries.
-/
import Derived.Test.YthppbmbhoedphaaCheck
namespace Go.Proofs.Ythppbmbhoedphaa
open Go.RowKit

theorem ok_bools {s t : ByteArray} (h : ltB t s = true) : Op.bytesLess s.toList t.toList = false ∧ (s.toList == t.toList) = false := by
  refine ⟨ltB_asymm h, ?_⟩
  rw [ba_eq]
  refine decide_eq_false fun e => ?_
  rw [e, ltB_irrefl] at h
  cases h

set_option maxRecDepth 100000 in
set_option maxHeartbeats 4000000 in
theorem rcheck_any (n0 : Nat) (v : Value) (l : List En) (w : World) (h : ArgE n0 w v l) :
    Calls Try.prog 19 #[v] w fun e w' => e = .returned (.int .i64 (cerr l)) ∧ ∃ q, w' = w.drewN q := by
  obtain ⟨a, c, rfl, _, hm, _⟩ := h.shape
  unfold maxLen at hm
  obtain ⟨n, hn⟩ : ∃ n, n = l.length := ⟨_, rfl⟩
  rw [← hn] at h hm ⊢
  have hl1 := run_len Try.underlying22 a n c
  have HN : Hid (n = l.length) := hn
  have HA : Hid (ArgE n0 w (.slice a n c) l) := h
  by_cases h63 : 63 < n
  · have he : cerr l = 9 := cerr_bad fun hc => by have := hc.1; omega
    have h63i : (63 : Int) < (n : Int) := by omega
    rw [he]
    clear h hn he
    go_enter Try.func19, Try.ntmps19
    go_wp2
    go_ret
    exact ⟨rfl, 0, rfl⟩
  have h63i : ¬ (63 : Int) < (n : Int) := by omega
  obtain ⟨ce, hce⟩ : ∃ x, x = cerr l := ⟨_, rfl⟩
  rw [← hce]
  have HE : Hid (ce = cerr l) := hce
  clear h hn hce
  go_enter Try.func19, Try.ntmps19
  go_wp2
  go_loopw [3] (fun i wr => ∃ (k : Nat), k ≤ n ∧ i = .int .i64 k ∧ Fine (l.take k) ∧ ∃ q, wr = w.drewN q) (fun i _ => n - (intOf i).toNat)
  case atStart => exact ⟨0, Nat.zero_le _, rfl, fine_nil, 0, rfl⟩
  case round =>
    obtain ⟨k, hk, rfl, hF, q, hq⟩ := hrel
    have HQ : Hid (∀ r, ∃ q', wr.drewN r = w.drewN q') := fun r => ⟨_, by rw [hq]; exact World.drewN_drewN _ _ _⟩
    have HQ0 : Hid (∃ q', wr = w.drewN q') := ⟨q, hq⟩
    by_cases hlt : k < n
    · obtain ⟨p, hp⟩ := get_lt (l := l) (k := k) (by rw [← HN.out]; exact hlt)
      have hAr : ArgE n0 wr (.slice a n c) l := by rw [hq]; exact HA.out.below (below_drewN (Below.refl _ _) q)
      obtain ⟨b, o, hix, _, hc0, hc1⟩ := hAr.atR k p hp
      have hki : (k : Int) < (n : Int) := by omega
      obtain ⟨s, x⟩ := p
      simp only at hc0 hc1
      have HP : Hid (l[k]? = some (s, x) ∧ Fine (l.take k)) := ⟨hp, hF⟩
      have HR : Hid (∀ W, Calls Try.prog 21 #[.string s] W fun e w' => e = .returned (.int .i64 (nerr s)) ∧ ∃ q, w' = W.drewN q) := fun W => (rname_any s W).mono fun e w' h => ⟨h.1, 0, h.2.symm⟩
      have HI : Hid (∀ W, Calls Try.prog 32 #[.int .i64 x] W fun e w' => e = .returned (.bool (inoOk x)) ∧ ∃ q, w' = W.drewN q) := fun W => (rino_any x W).mono fun e w' h => ⟨h.1, 0, h.2.symm⟩
      clear hp hF hq
      by_cases hnm : nameOk s = true
      case neg =>
        rw [show nerr s = 106 from if_neg hnm] at HR
        have hce : ce = 9 := by rw [HE.out]; exact cerr_bad (not_good HP.out.1 fun g => hnm g.1)
        subst hce
        clear hnm hAr
        go_wp2
        go_quiet ((go_at_call 21; exact Calls.quiet_of (HR.out _)))
        go_wp2
        go_ret
        exact ⟨rfl, HQ.out _⟩
      rw [show nerr s = 0 from if_pos hnm] at HR
      cases hino : inoOk x
      case false =>
        have hce : ce = 9 := by rw [HE.out]; exact cerr_bad (not_good HP.out.1 fun g => by have := g.2; rw [hino] at this; cases this)
        subst hce
        rw [hino] at HI
        clear hnm hino hAr
        go_wp2
        go_quiet (first | (go_at_call 21; exact Calls.quiet_of (HR.out _)) | (go_at_call 32; exact Calls.quiet_of (HI.out _)))
        go_wp2
        go_ret
        exact ⟨rfl, HQ.out _⟩
      rw [hino] at HI
      cases hk0 : k with
      | zero =>
        subst hk0
        have HF : Hid (Fine (l.take 1)) := by
          show Fine _
          rw [take_snoc HP.out.1]; exact fine_snoc HP.out.2 ⟨hnm, hino⟩ (by simpa [lastN] using lt_empty hnm)
        clear hnm hino hAr
        have hix0 : ∀ W, (Instr.indexAt 22 (.slice a n c) (.int .i64 0)).run Try.prog W = .ok (.pointer (some ⟨b, o, none⟩)) W := hix
        have hki0 : (0 : Int) < (n : Int) := by omega
        go_wp2
        go_quiet (first | (go_at_call 21; exact Calls.quiet_of (HR.out _)) | (go_at_call 32; exact Calls.quiet_of (HI.out _)))
        go_wp2
        go_roundw
        case rel => exact ⟨1, by omega, by first | rfl | go_num, HF.out, HQ.out _⟩
        case measure => simp [intOf]; omega
      | succ j =>
        subst hk0
        obtain ⟨q', hq'⟩ := get_lt (l := l) (k := j) (by rw [← HN.out]; omega)
        obtain ⟨b2, o2, hix2, _, hd0, _⟩ := hAr.atR j q' hq'
        have hlast := lastN_take hq'
        obtain ⟨t, y⟩ := q'
        simp only at hd0 hlast
        have hix1 : ∀ W, (Instr.indexAt 22 (.slice a n c) (.int .i64 ((j : Int) + 1))).run Try.prog W = .ok (.pointer (some ⟨b, o, none⟩)) W := hix
        have hwj : IntKind.i64.wrap (j : Int) = j := wrap_small _ (by omega) (by omega)
        have hjn : (j : Int) < (n : Int) := by omega
        have hj0 : (0 : Int) ≤ (j : Int) := by omega
        have hj1 : (0 : Int) < (j : Int) + 1 := by omega
        cases hlt2 : ltB t s
        case false =>
          have hce : ce = 9 := by rw [HE.out]; exact cerr_bad (not_last HP.out.1 (by rw [hlast]; exact hlt2))
          subst hce
          obtain ⟨z1, hz1⟩ : ∃ z, z = Op.bytesLess s.toList t.toList := ⟨_, rfl⟩
          obtain ⟨z2, hz2⟩ : ∃ z, z = (s.toList == t.toList) := ⟨_, rfl⟩
          have hle : (z1 || z2) = true := by rw [hz1, hz2, leB_not, hlt2]; rfl
          clear hnm hlt2 hino hAr hq' hlast
          cases z1 <;> cases z2 <;> first | (cases hle; done) | skip
          all_goals
            clear hle
            have hy1 := hz1.symm
            have hy2 := hz2.symm
            clear hz1 hz2
            go_wp2
            go_quiet (first | (go_at_call 21; exact Calls.quiet_of (HR.out _)) | (go_at_call 32; exact Calls.quiet_of (HI.out _)))
            go_wp2
            go_ret
            exact ⟨rfl, HQ.out _⟩
        have HF : Hid (Fine (l.take (j + 1 + 1))) := by
          show Fine _
          rw [take_snoc HP.out.1]; exact fine_snoc HP.out.2 ⟨hnm, hino⟩ (by rw [hlast]; exact hlt2)
        obtain ⟨hz1, hz2⟩ := ok_bools hlt2
        clear hnm hlt2 hino hAr hq' hlast
        go_wp2
        go_quiet (first | (go_at_call 21; exact Calls.quiet_of (HR.out _)) | (go_at_call 32; exact Calls.quiet_of (HI.out _)))
        go_wp2
        go_roundw
        case rel => exact ⟨j + 1 + 1, by omega, by go_num, HF.out, HQ.out _⟩
        case measure => simp [intOf]; omega
    · obtain rfl : k = n := by omega
      have hce : ce = 0 := by
        rw [HE.out]
        refine cerr_ok ⟨by have := HN.out; omega, ?_⟩
        rw [List.take_of_length_le (by rw [HN.out]; exact Nat.le_refl _)] at hF
        exact hF
      subst hce
      clear hq
      go_wp2
      go_ret
      exact ⟨rfl, HQ0.out⟩

end Go.Proofs.Ythppbmbhoedphaa
