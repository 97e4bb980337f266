/-
  What the document's Within answers; for all texts.
-/
import Derived.Test.YtedbnmiedknfjaaWithin
namespace Go.Proofs.Ytedbnmiedknfjaa
open Go.RowKit Go.Shelf

set_option maxRecDepth 100000 in
set_option maxHeartbeats 2000000 in
theorem rwithin_any (s t : ByteArray) (w : World) : Calls Try.prog 16 #[.string s, .string t] w fun e w' => e = .returned (.tuple #[.bool (wval s t), .int .i64 (werr s t)]) ∧ Below w.heap.size w w' := by
  have HC : Hid (Calls Try.prog 10 #[.string s] w fun e w' => ∃ v, e = .returned (.tuple #[v, .int .i64 (serr s)]) ∧ OwnT w.heap.size w' v (sval s) ∧ Below w.heap.size w w') := rsplit_any s w
  have HD : Hid (∀ W, Calls Try.prog 10 #[.string t] W fun e w' => ∃ v, e = .returned (.tuple #[v, .int .i64 (serr t)]) ∧ OwnT W.heap.size w' v (sval t) ∧ Below W.heap.size W w') := fun W => rsplit_any t W
  obtain ⟨R, hR⟩ : ∃ R, R = wval s t := ⟨_, rfl⟩
  obtain ⟨E, hE⟩ : ∃ E, E = werr s t := ⟨_, rfl⟩
  rw [← hR, ← hE]
  have HP : Hid (R = wval s t ∧ E = werr s t) := ⟨hR, hE⟩
  clear hR hE
  by_cases he : serr s = 0
  · have HE : Hid (serr s = 0) := he
    rw [he] at HC
    clear he
    by_cases he2 : serr t = 0
    · have HE2 : Hid (serr t = 0) := he2
      rw [he2] at HD
      clear he2
      obtain ⟨L, hL⟩ : ∃ L, L = sval s := ⟨_, rfl⟩
      obtain ⟨M, hM⟩ : ∃ M, M = sval t := ⟨_, rfl⟩
      have HW : Hid (E = 0 ∧ R = (decide (L.length ≤ M.length) && decide (L = M.take L.length))) := by
        have h1 : werr s t = 0 := by rw [werr, HE.out, if_pos rfl, HE2.out]
        exact ⟨by rw [HP.out.2, h1], by rw [HP.out.1, wval, h1, ← hL, ← hM]; simp⟩
      rw [← hL] at HC
      rw [← hM] at HD
      clear hL hM
      go_enter Try.func16, Try.ntmps16
      go_wp2_with fail
      refine HC.out.mono ?_
      rintro e w1 ⟨v, rfl, hO, hb⟩
      have HO : Hid (OwnT w.heap.size w1 v L ∧ Below w.heap.size w w1) := ⟨hO, hb⟩
      clear hO hb
      go_wp2_with fail
      refine (HD.out w1).mono ?_
      rintro e w2 ⟨u, rfl, hU, hb2⟩
      have hA := HO.out.1.arg.below hb2
      have HB : Hid (ArgT w.heap.size w2 v L ∧ ArgT w1.heap.size w2 u M ∧ Below w.heap.size w w2) := ⟨hA, hU.arg, below_any HO.out.2 hb2⟩
      clear hA hU hb2
      obtain ⟨a, c, rfl, _, hm, _⟩ := HB.out.1.shape
      obtain ⟨b, d, rfl, _, hm2, _⟩ := HB.out.2.1.shape
      unfold maxLen at hm hm2
      obtain ⟨m, hmm⟩ : ∃ m, m = L.length := ⟨_, rfl⟩
      obtain ⟨n, hnn⟩ : ∃ n, n = M.length := ⟨_, rfl⟩
      rw [← hmm, ← hnn] at HB HW
      rw [← hmm] at hm ⊢
      rw [← hnn] at hm2 ⊢
      have HM : Hid (m = L.length ∧ n = M.length) := ⟨hmm, hnn⟩
      have hr1 := run_len Try.underlying22 a m c
      have hr2 := run_len Try.underlying22 b n d
      clear hmm hnn
      by_cases hle : m ≤ n
      · have hlei : ¬ (n : Int) < (m : Int) := by omega
        have HT : Hid (R = decide (L = M.take m)) := by show _ = _; rw [HW.out.2]; simp [hle]
        go_wp2
        go_loopw [10] (fun i wr => ∃ k : Nat, k ≤ m ∧ i = .int .i64 k ∧ L.take k = M.take k ∧ ∃ q, wr = w2.drewN q) (fun i _ => m - (intOf i).toNat)
        case atStart => exact ⟨0, Nat.zero_le _, rfl, rfl, 0, rfl⟩
        case round =>
          obtain ⟨k, hk, rfl, htk, q, hq⟩ := hrel
          have HQ : Hid (∀ r, ∃ q', wr.drewN r = w2.drewN q') := fun r => ⟨_, by rw [hq]; exact World.drewN_drewN _ _ _⟩
          have HQ0 : Hid (∃ q', wr = w2.drewN q') := ⟨q, hq⟩
          have hb : Below w2.heap.size w2 wr := by rw [hq]; exact below_drewN (Below.refl _ _) q
          have HBW : Hid (∀ r, Below w.heap.size w (wr.drewN r)) := fun r => by
            obtain ⟨q', e⟩ := HQ.out r
            rw [e]; exact below_drewN HB.out.2.2 _
          have HBW0 : Hid (Below w.heap.size w wr) := below_any HB.out.2.2 hb
          clear hq
          by_cases hlt : k < m
          · obtain ⟨x, hx⟩ := get_lt (l := L) (k := k) (by rw [← HM.out.1]; exact hlt)
            obtain ⟨y, hy⟩ := get_lt (l := M) (k := k) (by rw [← HM.out.2]; omega)
            obtain ⟨b1, o1, hix1, _, hc1⟩ := (HB.out.1.below hb).at k x hx
            obtain ⟨b2, o2, hix2, _, hc2⟩ := (HB.out.2.1.below hb).at k y hy
            have hki : (k : Int) < (m : Int) := by omega
            have HK : Hid (L.take (k + 1) = L.take k ++ [x] ∧ M.take (k + 1) = M.take k ++ [y] ∧ L.take k = M.take k) := ⟨take_snoc hx, take_snoc hy, htk⟩
            have HX : Hid (L[k]? = some x ∧ (M.take m)[k]? = some y) := ⟨hx, by rw [List.getElem?_take, if_pos hlt]; exact hy⟩
            have hxy := str_beq x y
            clear hx hy htk hb
            by_cases hex : x = y
            · have hd : (x.toList == y.toList) = true := by rw [hxy]; simp [hex]
              have HK2 : Hid (L.take (k + 1) = M.take (k + 1)) := by show _ = _; rw [HK.out.1, HK.out.2.1, HK.out.2.2, hex]
              clear hxy hex
              go_wp2
              go_quiet (fail)
              go_wp2
              go_roundw
              case rel => exact ⟨k + 1, by omega, by go_num, HK2.out, HQ.out _⟩
              case measure => simp [intOf]; omega
            · have hd : (x.toList == y.toList) = false := by rw [hxy]; simp [hex]
              have HF : Hid (R = false) := by
                show _ = _
                rw [HT.out]; exact decide_eq_false (take_ne HX.out.1 HX.out.2 hex)
              clear hxy hex
              go_wp2
              go_quiet (fail)
              go_wp2
              go_ret2
              exact ⟨by rw [HW.out.1, HF.out]; rfl, HBW.out _⟩
          · obtain rfl : k = m := by omega
            have HF : Hid (R = true) := by
              show _ = _
              rw [HT.out]
              refine decide_eq_true ?_
              rwa [List.take_of_length_le (by have := HM.out.1; omega)] at htk
            clear htk
            go_wp2
            go_ret2
            exact ⟨by rw [HW.out.1, HF.out]; rfl, HBW0.out⟩
      · have HT : Hid (R = false) := by show _ = _; rw [HW.out.2]; simp [hle]
        have hlei : (n : Int) < (m : Int) := by omega
        go_wp2
        go_ret2
        exact ⟨by rw [HW.out.1, HT.out]; rfl, HB.out.2.2⟩
    · have HF : Hid (R = false ∧ E = serr t) := by
        have h1 : werr s t = serr t := by rw [werr, HE.out, if_pos rfl]
        exact ⟨by rw [HP.out.1, wval, h1]; simp [he2], by rw [HP.out.2, h1]⟩
      obtain ⟨k, hk⟩ : ∃ k, k = serr t := ⟨_, rfl⟩
      rw [← hk] at HD HF he2
      have hb0 : (k == 0) = false := beq_false_of_ne he2
      clear hk he2
      go_enter Try.func16, Try.ntmps16
      go_wp2_with fail
      refine HC.out.mono ?_
      rintro e w1 ⟨v, rfl, hO, hb⟩
      have HO : Hid (Below w.heap.size w w1) := hb
      clear hO hb
      go_wp2_with fail
      refine (HD.out w1).mono ?_
      rintro e w2 ⟨u, rfl, hU, hb2⟩
      have HB : Hid (Below w.heap.size w w2) := below_any HO.out hb2
      clear hU hb2
      go_wp2
      go_ret2
      exact ⟨by rw [HF.out.1, HF.out.2]; rfl, HB.out⟩
  · have HF : Hid (R = false ∧ E = serr s) := by
      have h1 : werr s t = serr s := by rw [werr, if_neg he]
      exact ⟨by rw [HP.out.1, wval, h1]; simp [he], by rw [HP.out.2, h1]⟩
    obtain ⟨k, hk⟩ : ∃ k, k = serr s := ⟨_, rfl⟩
    rw [← hk] at HC HF he
    have hb0 : (k == 0) = false := beq_false_of_ne he
    clear hk he
    go_enter Try.func16, Try.ntmps16
    go_wp2_with (go_at_call 10; refine HC.out.mono ?_; rintro e w1 ⟨v, rfl, hO, hb⟩)
    go_ret2
    exact ⟨by rw [HF.out.1, HF.out.2]; rfl, hb⟩

end Go.Proofs.Ytedbnmiedknfjaa
