/-
  What the document's Parent answers; for every text.
-/
import Derived.Test.YtedbnmiedknfjaaParent
namespace Go.Proofs.Ytedbnmiedknfjaa
open Go.RowKit Go.Shelf

set_option maxRecDepth 100000 in
set_option maxHeartbeats 2000000 in
theorem rparent_any (s : ByteArray) (w : World) : Calls Try.prog 14 #[.string s] w fun e w' => e = .returned (.tuple #[.string (ppar s), .string (plast s), .int .i64 (perr s)]) ∧ Below w.heap.size w w' := by
  have HC : Hid (Calls Try.prog 10 #[.string s] w fun e w' => ∃ v, e = .returned (.tuple #[v, .int .i64 (serr s)]) ∧ OwnT w.heap.size w' v (sval s) ∧ Below w.heap.size w w') := rsplit_any s w
  obtain ⟨P, hP⟩ : ∃ P, P = ppar s := ⟨_, rfl⟩
  obtain ⟨N, hN⟩ : ∃ N, N = plast s := ⟨_, rfl⟩
  obtain ⟨E, hE⟩ : ∃ E, E = perr s := ⟨_, rfl⟩
  rw [← hP, ← hN, ← hE]
  have HP : Hid (P = ppar s ∧ N = plast s ∧ E = perr s) := ⟨hP, hN, hE⟩
  clear hP hN hE
  by_cases he : serr s = 0
  · have HE : Hid (serr s = 0) := he
    rw [he] at HC
    clear he
    by_cases hl : sval s = []
    · have HF : Hid (P = ⟨#[]⟩ ∧ N = ⟨#[]⟩ ∧ E = 108) := by
        have h1 : perr s = 108 := by simp [perr, HE.out, hl]
        exact ⟨by rw [HP.out.1, ppar, h1]; rfl, by rw [HP.out.2.1, plast, h1]; rfl, by rw [HP.out.2.2, h1]⟩
      rw [hl] at HC
      clear hl
      go_enter Try.func14, Try.ntmps14
      go_wp2_with (go_at_call 10; refine HC.out.mono ?_; rintro e w1 ⟨v, rfl, hO, hb⟩; obtain ⟨a, c, rfl⟩ := hO.shape; have hr := run_len Try.underlying22 a 0 c)
      go_ret3
      exact ⟨by rw [HF.out.1, HF.out.2.1, HF.out.2.2]; rfl, hb⟩
    · obtain ⟨L, hL⟩ : ∃ L, L = sval s := ⟨_, rfl⟩
      have HL : Hid (L = sval s) := hL
      rw [← hL] at HC hl
      obtain ⟨m, hm⟩ : ∃ m, L.length = m + 1 := ⟨L.length - 1, by have := List.length_pos_iff.2 hl; omega⟩
      obtain ⟨x, hx⟩ := get_lt (l := L) (k := m) (by omega)
      have h8 : m + 1 ≤ 8 := by
        rw [← hm, hL, sval, HE.out, if_pos rfl]
        have h1 := HE.out
        unfold serr at h1
        by_cases c : 8 < (pts s).length
        · simp [c] at h1
          omega
        · omega
      have HF : Hid (P = jval (L.take m) ∧ N = x ∧ E = 0 ∧ L.length = m + 1 ∧ L[m]? = some x) := by
        have h1 : perr s = 0 := by simp [perr, HE.out, ← hL, hl]
        refine ⟨?_, ?_, by rw [HP.out.2.2, h1], hm, hx⟩
        · rw [HP.out.1, ppar, h1, if_pos rfl, ← hL, hm]; rfl
        · rw [HP.out.2.1, plast, h1, if_pos rfl, ← hL, hm]
          simp [List.getD, hx]
      clear hl hL hx
      go_enter Try.func14, Try.ntmps14
      go_wp2_with fail
      refine HC.out.mono ?_
      rintro e w1 ⟨v, rfl, hO, hb⟩
      obtain ⟨a, c, rfl⟩ := hO.shape
      rw [hm] at hO ⊢
      have hr := run_len Try.underlying22 a (m + 1) c
      obtain ⟨v2, hA2, hsl⟩ := hO.arg.ahead m (by omega)
      have hj := rjoin_any w.heap.size v2 (L.take m) w1 hA2
      rw [← HF.out.1] at hj
      have HO : Hid (OwnT w.heap.size w1 (.slice a (m + 1) c) L ∧ Below w.heap.size w w1) := ⟨hO, hb⟩
      have hmi : ((m + 1 : Nat) : Int) - 1 = (m : Int) := by omega
      have hmz : (((m : Int) + 1) == 0) = false := beq_false_of_ne (by omega)
      clear hO hb hA2 hm
      go_wp2_with fail
      refine hj.mono ?_
      rintro e w2 ⟨rfl, hw2⟩
      have hb2 : Below w1.heap.size w1 w2 := by rw [← hw2]; exact Below.refl _ _
      clear hw2
      obtain ⟨b, o, hix, _, hc⟩ := (HO.out.1.arg.below hb2).at m x HF.out.2.2.2.2
      have HB : Hid (Below w.heap.size w w2) := below_any HO.out.2 hb2
      clear hj hb2 hsl
      go_wp2
      go_quiet (fail)
      go_wp2
      go_ret3
      exact ⟨by rw [HF.out.2.1, HF.out.2.2.1]; rfl, below_drewN HB.out _⟩
  · have HF : Hid (P = ⟨#[]⟩ ∧ N = ⟨#[]⟩ ∧ E = serr s) := by
      have h1 : perr s = serr s := by simp [perr, he]
      exact ⟨by rw [HP.out.1, ppar, h1, if_neg he], by rw [HP.out.2.1, plast, h1, if_neg he], by rw [HP.out.2.2, h1]⟩
    obtain ⟨k, hk⟩ : ∃ k, k = serr s := ⟨_, rfl⟩
    rw [← hk] at HC HF he
    have hb0 : (k == 0) = false := beq_false_of_ne he
    clear hk he
    go_enter Try.func14, Try.ntmps14
    go_wp2_with (go_at_call 10; refine HC.out.mono ?_; rintro e w1 ⟨v, rfl, hO, hb⟩)
    go_ret3
    exact ⟨by rw [HF.out.1, HF.out.2.1, HF.out.2.2]; rfl, hb⟩

end Go.Proofs.Ytedbnmiedknfjaa
