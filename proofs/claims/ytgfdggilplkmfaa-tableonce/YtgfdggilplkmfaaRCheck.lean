/-
  What the document's Check answers.
-/
import Derived.Test.YtgfdggilplkmfaaTMath
namespace Go.Proofs.Ytgfdggilplkmfaa
open Go.RowKit

theorem may_iff {q x : Int} : mayB (q, x) = true ↔ 0 ≤ q ∧ q ≤ 1099511627776 ∧ 0 ≤ x ∧ x ≤ 8 ∧ (q = 0 → x = 0) := by
  by_cases e : q = 0
  · subst e
    rw [may_free (p := (0, x)) rfl]
    simp only [decide_eq_true_eq]
    constructor
    · rintro rfl
      exact ⟨by omega, by omega, by omega, by omega, fun _ => rfl⟩
    · intro h
      exact h.2.2.2.2 trivial
  · rw [may_used (p := (q, x)) e]
    simp only [holdB, decide_eq_true_eq]
    constructor
    · rintro ⟨h1, h2, h3, h4⟩
      exact ⟨by omega, h2, h3, h4, fun h => absurd h e⟩
    · rintro ⟨h1, h2, h3, h4, _⟩
      exact ⟨by omega, h2, h3, h4⟩

set_option maxRecDepth 100000 in
set_option maxHeartbeats 8000000 in
theorem rcheck_any (n0 : Nat) (v : Value) (l : List Sl) (w : World) (h : ArgE n0 w v l) :
    Calls Try.prog 21 #[v] w fun e w' => e = .returned (.int .i64 (cerr l)) ∧ Below w.heap.size w w' := by
  obtain ⟨a, c, rfl, _, hm, _⟩ := h.shape
  unfold maxLen at hm
  have hl1 := run_len Try.underlying22 a l.length c
  obtain ⟨ce, hce⟩ : ∃ x, x = cerr l := ⟨_, rfl⟩
  have HCB : Hid (¬ Chk l → ce = 9) := fun h => by rw [hce]; exact cerr_bad h
  have HCO : Hid (Chk l → ce = 0) := fun h => by rw [hce]; exact cerr_ok h
  rw [← hce]
  obtain ⟨n, hn⟩ : ∃ n, n = l.length := ⟨_, rfl⟩
  have HN : Hid (n = l.length ∧ ArgE n0 w (.slice a n c) l) := ⟨hn, by rw [hn]; exact h⟩
  rw [← hn] at hl1 hm ⊢
  clear h hce hn
  by_cases h3 : n < 1
  · obtain rfl : ce = 9 := HCB.out fun h => by have h9 := h.1; have := HN.out.1; omega
    have h3i : (n : Int) < 1 := by omega
    go_enter Try.func21, Try.ntmps21
    go_wp2
    go_ret
    exact ⟨rfl, Below.refl _ _⟩
  have h3i : ¬ (n : Int) < 1 := by omega
  by_cases h4 : 64 < n
  · obtain rfl : ce = 9 := HCB.out fun h => by have h9 := h.2.1; have := HN.out.1; omega
    have h4i : (64 : Int) < (n : Int) := by omega
    go_enter Try.func21, Try.ntmps21
    go_wp2
    go_ret
    exact ⟨rfl, Below.refl _ _⟩
  have h4i : ¬ (64 : Int) < (n : Int) := by omega
  go_enter Try.func21, Try.ntmps21
  go_wp2
  go_loopw [3] (fun i wr => ∃ k : Nat, k ≤ n ∧ i = .int .i64 k ∧ Hid (DocOk l k ∧ Below w.heap.size w wr)) (fun i _ => n - (intOf i).toNat)
  case atStart => exact ⟨0, Nat.zero_le _, rfl, fun i p hi => by omega, Below.refl _ _⟩
  case round =>
    obtain ⟨k, hk, rfl, HF⟩ := hrel
    by_cases hlt : k < n
    · obtain ⟨p, hp⟩ := get_lt (l := l) (k := k) (by rw [← HN.out.1]; exact hlt)
      obtain ⟨b, o, hix, -, c0, c1⟩ := (HN.out.2.below HF.out.2).atR k p hp
      have hki : (k : Int) < (n : Int) := by omega
      obtain ⟨q, x⟩ := p
      simp only at c0 c1
      obtain ⟨V, hV⟩ : ∃ V, V = wr.alloc (.cells #[.int .i64 q, .int .i64 x] 55) := ⟨_, rfl⟩
      have HV : Hid (Below w.heap.size w V ∧ Box V wr.heap.size 55 #[.int .i64 q, .int .i64 x] ∧ Below wr.heap.size wr V) := ⟨by rw [hV]; exact HF.out.2.alloc HF.out.2.size _, by rw [hV]; exact Box.new _ _ _, by rw [hV]; exact (Below.refl _ wr).alloc (Nat.le_refl _) _⟩
      have HP : Hid (l[k]? = some (q, x) ∧ (Chk l → mayB (q, x) = true)) := ⟨hp, fun h => (good_iff.1 (h.2.2 _ (List.mem_of_getElem? hp))).1⟩
      have HBB : Hid (Below w.heap.size w (wr.alloc (.cells #[.int .i64 q, .int .i64 x] 55))) := by rw [← hV]; exact HV.out.1
      clear hp
      by_cases e1 : q < 0
      · obtain rfl : ce = 9 := HCB.out fun h => by have := may_iff.1 (HP.out.2 h); omega
        clear hV
        go_wp2
        go_ret
        exact ⟨rfl, HBB.out⟩
      by_cases e2 : 1099511627776 < q
      · obtain rfl : ce = 9 := HCB.out fun h => by have := may_iff.1 (HP.out.2 h); omega
        clear hV
        go_wp2
        go_ret
        exact ⟨rfl, HBB.out⟩
      by_cases e3 : x < 0
      · obtain rfl : ce = 9 := HCB.out fun h => by have := may_iff.1 (HP.out.2 h); omega
        clear hV
        go_wp2
        go_ret
        exact ⟨rfl, HBB.out⟩
      by_cases e4 : 8 < x
      · obtain rfl : ce = 9 := HCB.out fun h => by have := may_iff.1 (HP.out.2 h); omega
        clear hV
        go_wp2
        go_ret
        exact ⟨rfl, HBB.out⟩
      by_cases e5 : q = 0
      · subst e5
        by_cases e6 : x = 0
        case neg =>
          obtain rfl : ce = 9 := HCB.out fun h => by have := may_iff.1 (HP.out.2 h); omega
          have e6b : (x == 0) = false := by simpa using e6
          clear hV
          go_wp2
          go_ret
          exact ⟨rfl, HBB.out⟩
        subst e6
        have HD : Hid (DocOk l (k + 1)) := fun i p hi hp => by
          by_cases e : i < k
          · exact HF.out.1 i p e hp
          · obtain rfl : i = k := by omega
            rw [HP.out.1] at hp
            rw [← Option.some.inj hp]
            exact ⟨by decide, fun h => absurd rfl h⟩
        obtain ⟨wo, hwo⟩ : ∃ wo, wo = wr := ⟨_, rfl⟩
        rw [← hwo] at HV hV HF HBB
        clear HF HBB
        go_wp2
        rw [← hwo, ← hV]
        clear hV hwo hix c0 c1 e1 e2 e3 e4
        go_loopw [5] (fun i wr => ∃ j : Nat, j ≤ k ∧ i = .int .i64 j ∧ Hid (Below V.heap.size V wr)) (fun i _ => k - (intOf i).toNat)
        case atStart => exact ⟨0, Nat.zero_le _, rfl, Below.refl _ _⟩
        case round =>
          obtain ⟨j, hj, rfl, HB⟩ := hrel
          by_cases hjk : j < k
          · have hji : (j : Int) < (k : Int) := by omega
            obtain ⟨g0, g1, -, -⟩ := (HV.out.2.1.below HB.out HV.out.2.1.lt).two
            go_wp2
            go_quiet (fail)
            clear g0 g1
            go_wp2
            go_roundw
            case rel => exact ⟨j + 1, by omega, by go_num, below_drewN HB.out _⟩
            case measure => simp [intOf]; omega
          · obtain rfl : j = k := by omega
            have HBE : Hid (Below w.heap.size w wr) := below_any HV.out.1 HB.out
            clear HB HV
            go_wp2
            go_roundw
            case rel => exact ⟨j + 1, by omega, by go_num, HD.out, HBE.out⟩
            case measure => simp [intOf]; omega
      have e5b : (q == 0) = false := by simpa using e5
      have HQ : Hid (mayB (q, x) = true ∧ q ≠ 0) := ⟨may_iff.2 ⟨by omega, by omega, by omega, by omega, fun h => absurd h e5⟩, e5⟩
      obtain ⟨wo, hwo⟩ : ∃ wo, wo = wr := ⟨_, rfl⟩
      rw [← hwo] at HV hV HF HBB
      clear HBB
      go_wp2
      rw [← hwo, ← hV]
      clear hV hwo hix c0 c1 e1 e2 e3 e4
      go_loopw [5] (fun i wr => ∃ j : Nat, j ≤ k ∧ i = .int .i64 j ∧ Hid (Below V.heap.size V wr ∧ ∀ i p, i < j → l[i]? = some p → p.1 ≠ q)) (fun i _ => k - (intOf i).toNat)
      case atStart => exact ⟨0, Nat.zero_le _, rfl, Below.refl _ _, fun i p hi => by omega⟩
      case round =>
        obtain ⟨j, hj, rfl, HB⟩ := hrel
        by_cases hjk : j < k
        · have hji : (j : Int) < (k : Int) := by omega
          obtain ⟨g0, g1, -, -⟩ := (HV.out.2.1.below HB.out.1 HV.out.2.1.lt).two
          obtain ⟨r, hr⟩ := get_lt (l := l) (k := j) (by rw [← HN.out.1]; omega)
          obtain ⟨rb, ro, rix, -, d0, d1⟩ := (HN.out.2.below (below_any HV.out.1 HB.out.1)).atR j r hr
          obtain ⟨r1, r2⟩ := r
          simp only at d0 d1
          have HRR : Hid (l[j]? = some (r1, r2)) := hr
          clear hr
          by_cases e6 : r1 = q
          · subst e6
            obtain rfl : ce = 9 := HCB.out fun h => by
              have := (chk_doc h k _ (by rw [← HN.out.1]; exact hlt) HP.out.1).2 HQ.out.2 j _ hjk HRR.out
              exact this rfl
            go_wp2
            go_quiet (fail)
            go_wp2
            go_ret
            exact ⟨rfl, below_drewN (below_any HV.out.1 HB.out.1) _⟩
          · have e6b : (r1 == q) = false := by simpa using e6
            have HB2 : Hid (∀ i p, i < j + 1 → l[i]? = some p → p.1 ≠ q) := fun i p hi hp => by
              by_cases e : i < j
              · exact HB.out.2 i p e hp
              · obtain rfl : i = j := by omega
                rw [HRR.out] at hp
                rw [← Option.some.inj hp]
                exact e6
            go_wp2
            go_quiet (fail)
            clear g0 g1 d0 d1 rix
            go_wp2
            go_roundw
            case rel => exact ⟨j + 1, by omega, by go_num, below_drewN HB.out.1 _, HB2.out⟩
            case measure => simp [intOf]; omega
        · obtain rfl : j = k := by omega
          have HBE : Hid (DocOk l (j + 1) ∧ Below w.heap.size w wr) := by
            refine ⟨fun i p hi hp => ?_, below_any HV.out.1 HB.out.1⟩
            by_cases e : i < j
            · exact HF.out.1 i p e hp
            · obtain rfl : i = j := by omega
              rw [HP.out.1] at hp
              rw [← Option.some.inj hp]
              exact ⟨HQ.out.1, fun _ j' q' h1 h2 => HB.out.2 j' q' h1 h2⟩
          clear HB HV HF
          go_wp2
          go_roundw
          case rel => exact ⟨j + 1, by omega, by go_num, HBE⟩
          case measure => simp [intOf]; omega
    · obtain rfl : k = n := by omega
      obtain rfl : ce = 0 := HCO.out (doc_chk (by have := HN.out.1; omega) (by have := HN.out.1; omega) (by rw [← HN.out.1]; exact HF.out.1))
      go_wp2
      go_ret
      exact ⟨rfl, HF.out.2⟩

end Go.Proofs.Ytgfdggilplkmfaa
