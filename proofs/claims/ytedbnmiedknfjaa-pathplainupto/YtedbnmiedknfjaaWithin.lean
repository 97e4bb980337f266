/-
  What path.Within and the document's Within answer; for all texts.
-/
import Derived.Test.YtedbnmiedknfjaaParent
namespace Go.Proofs.Ytedbnmiedknfjaa
open Go.RowKit Go.Shelf

/-- Within's error, and whether the names of a begin those of b. -/
def werr (a b : ByteArray) : Int := if serr a = 0 then serr b else serr a
def wval (a b : ByteArray) : Bool := decide (werr a b = 0) && (decide ((sval a).length ≤ (sval b).length) && decide (sval a = (sval b).take (sval a).length))

set_option maxRecDepth 100000 in
set_option maxHeartbeats 2000000 in
theorem within_any (s t : ByteArray) (w : World) : Calls Try.prog 15 #[.string s, .string t] w fun e w' => e = .returned (.tuple #[.bool (wval s t), .int .i64 (werr s t)]) ∧ Below w.heap.size w w' := by
  have HC : Hid (Calls Try.prog 9 #[.string s] w fun e w' => ∃ v, e = .returned (.tuple #[v, .int .i64 (serr s)]) ∧ OwnT w.heap.size w' v (sval s) ∧ Below w.heap.size w w') := split_any s w
  have HD : Hid (∀ W, Calls Try.prog 9 #[.string t] W fun e w' => ∃ v, e = .returned (.tuple #[v, .int .i64 (serr t)]) ∧ OwnT W.heap.size w' v (sval t) ∧ Below W.heap.size W w') := fun W => split_any t W
  obtain ⟨R, hR⟩ : ∃ R, R = wval s t := ⟨_, rfl⟩
  obtain ⟨E, hE⟩ : ∃ E, E = werr s t := ⟨_, rfl⟩
  rw [← hR, ← hE]
  have HP : Hid (R = wval s t ∧ E = werr s t) := ⟨hR, hE⟩
  clear hR hE
  by_cases he : serr s = 0
  · have HE : Hid (serr s = 0) := he
    rw [he] at HC
    clear he
    by_cases he2 : serr t = 0
    · have HE2 : Hid (serr t = 0) := he2
      rw [he2] at HD
      clear he2
      obtain ⟨L, hL⟩ : ∃ L, L = sval s := ⟨_, rfl⟩
      obtain ⟨M, hM⟩ : ∃ M, M = sval t := ⟨_, rfl⟩
      have HW : Hid (E = 0 ∧ R = (decide (L.length ≤ M.length) && decide (L = M.take L.length))) := by
        have h1 : werr s t = 0 := by rw [werr, HE.out, if_pos rfl, HE2.out]
        exact ⟨by rw [HP.out.2, h1], by rw [HP.out.1, wval, h1, ← hL, ← hM]; simp⟩
      rw [← hL] at HC
      rw [← hM] at HD
      clear hL hM
      go_enter Try.func15, Try.ntmps15
      go_wp2_with fail
      refine HC.out.mono ?_
      rintro e w1 ⟨v, rfl, hO, hb⟩
      have HO : Hid (OwnT w.heap.size w1 v L ∧ Below w.heap.size w w1) := ⟨hO, hb⟩
      clear hO hb
      go_wp2_with fail
      refine (HD.out w1).mono ?_
      rintro e w2 ⟨u, rfl, hU, hb2⟩
      have hA := HO.out.1.arg.below hb2
      have HB : Hid (ArgT w.heap.size w2 v L ∧ ArgT w1.heap.size w2 u M ∧ Below w.heap.size w w2) := ⟨hA, hU.arg, below_any HO.out.2 hb2⟩
      clear hA hU hb2
      obtain ⟨a, c, rfl, _, hm, _⟩ := HB.out.1.shape
      obtain ⟨b, d, rfl, _, hm2, _⟩ := HB.out.2.1.shape
      unfold maxLen at hm hm2
      obtain ⟨m, hmm⟩ : ∃ m, m = L.length := ⟨_, rfl⟩
      obtain ⟨n, hnn⟩ : ∃ n, n = M.length := ⟨_, rfl⟩
      rw [← hmm, ← hnn] at HB HW
      rw [← hmm] at hm ⊢
      rw [← hnn] at hm2 ⊢
      have HM : Hid (m = L.length ∧ n = M.length) := ⟨hmm, hnn⟩
      have hr1 := run_len Try.underlying22 a m c
      have hr2 := run_len Try.underlying22 b n d
      clear hmm hnn
      by_cases hle : m ≤ n
      · obtain ⟨u2, hA2, hsl⟩ := HB.out.2.1.ahead m (by rw [← HM.out.2]; exact hle)
        have hq := equal_any w.heap.size w1.heap.size _ u2 L (M.take m) w2 HB.out.1 hA2
        obtain ⟨T, hT⟩ : ∃ T, T = decide (L = M.take m) := ⟨_, rfl⟩
        rw [← hT] at hq
        have HT : Hid (R = T) := by show _ = _; rw [HW.out.2, hT]; simp [hle]
        have hlei : (m : Int) ≤ (n : Int) := by omega
        clear hA2 hT
        go_wp2_with fail
        refine hq.mono ?_
        rintro e w3 ⟨rfl, q, hq3⟩
        have HB3 : Hid (Below w.heap.size w w3) := by show Below _ _ _; rw [hq3]; exact below_drewN HB.out.2.2 _
        clear hq hq3 hsl
        go_wp2
        go_ret2
        exact ⟨by rw [HW.out.1, HT.out]; rfl, HB3.out⟩
      · have HT : Hid (R = false) := by show _ = _; rw [HW.out.2]; simp [hle]
        have hlei : ¬ (m : Int) ≤ (n : Int) := by omega
        go_wp2
        go_ret2
        exact ⟨by rw [HW.out.1, HT.out]; rfl, HB.out.2.2⟩
    · have HF : Hid (R = false ∧ E = serr t) := by
        have h1 : werr s t = serr t := by rw [werr, HE.out, if_pos rfl]
        exact ⟨by rw [HP.out.1, wval, h1]; simp [he2], by rw [HP.out.2, h1]⟩
      obtain ⟨k, hk⟩ : ∃ k, k = serr t := ⟨_, rfl⟩
      rw [← hk] at HD HF he2
      have hb0 : (k == 0) = false := beq_false_of_ne he2
      clear hk he2
      go_enter Try.func15, Try.ntmps15
      go_wp2_with fail
      refine HC.out.mono ?_
      rintro e w1 ⟨v, rfl, hO, hb⟩
      have HO : Hid (Below w.heap.size w w1) := hb
      clear hO hb
      go_wp2_with fail
      refine (HD.out w1).mono ?_
      rintro e w2 ⟨u, rfl, hU, hb2⟩
      have HB : Hid (Below w.heap.size w w2) := below_any HO.out hb2
      clear hU hb2
      go_wp2
      go_ret2
      exact ⟨by rw [HF.out.1, HF.out.2]; rfl, HB.out⟩
  · have HF : Hid (R = false ∧ E = serr s) := by
      have h1 : werr s t = serr s := by rw [werr, if_neg he]
      exact ⟨by rw [HP.out.1, wval, h1]; simp [he], by rw [HP.out.2, h1]⟩
    obtain ⟨k, hk⟩ : ∃ k, k = serr s := ⟨_, rfl⟩
    rw [← hk] at HC HF he
    have hb0 : (k == 0) = false := beq_false_of_ne he
    clear hk he
    go_enter Try.func15, Try.ntmps15
    go_wp2_with (go_at_call 9; refine HC.out.mono ?_; rintro e w1 ⟨v, rfl, hO, hb⟩)
    go_ret2
    exact ⟨by rw [HF.out.1, HF.out.2]; rfl, hb⟩

end Go.Proofs.Ytedbnmiedknfjaa
