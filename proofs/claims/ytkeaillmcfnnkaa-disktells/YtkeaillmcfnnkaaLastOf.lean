/-
  What the document's last answers: the octets of a sector as it was put last, in a block of its own.
-/
import Derived.Test.YtkeaillmcfnnkaaZeros
namespace Go.Proofs.Ytkeaillmcfnnkaa
open Go.RowKit

theorem lw_mem (k : Nat) : ∀ (ws : List (Int × List Int)) (d : List Int), lw ws k d = d ∨ ∃ q ∈ ws, lw ws k d = q.2
  | [], _ => .inl rfl
  | q :: ws, d => by
    rcases lw_mem k ws (if q.1 = (k : Int) then q.2 else d) with h | ⟨x, hx, h⟩
    · by_cases e : q.1 = (k : Int)
      · refine .inr ⟨q, List.mem_cons_self .., ?_⟩
        show lw ws k _ = _
        rw [h, if_pos e]
      · refine .inl ?_
        show lw ws k _ = _
        rw [h, if_neg e]
    · exact .inr ⟨x, List.mem_cons_of_mem _ hx, h⟩

set_option maxRecDepth 100000 in
set_option maxHeartbeats 2000000 in
theorem last_any (n0 : Nat) (v : Value) (S : St) (k : Nat) (w : World) (h : Disk n0 w v S) (hk : k < S.secs.length) (hf : ∀ l ∈ S.secs, l.length ≤ 140737488355328) (hg : ∀ q ∈ S.cache, q.2.length ≤ 140737488355328) :
    Calls Try.prog 37 #[v, .int .i64 (k : Int)] w fun e w' => ∃ v', e = .returned v' ∧ w'.ownsRow w.heap.size 5 1 v' (lw S.cache k (S.secs.getD k [])).length ((lw S.cache k (S.secs.getD k [])).map (Value.int .u8)) ∧ Below w.heap.size w w' := by
  obtain ⟨a1, c1, a2, c2, rfl, hL, hW⟩ := h.shape
  obtain ⟨i0, hi0, _, hz0, _⟩ := info_parts Try.info60
  obtain ⟨_, _, _, _, hm2, _⟩ := hW.shape
  obtain ⟨W, hW'⟩ : ∃ W, W = w.alloc (.cells #[.slice a1 S.secs.length c1, .slice a2 S.cache.length c2] 25) := ⟨_, rfl⟩
  have hbW : Below w.heap.size w W := by rw [hW']; exact (Below.refl _ _).alloc (Nat.le_refl _) _
  have hBx : Box W w.heap.size 25 (.slice a1 S.secs.length c1) (.slice a2 S.cache.length c2) := by rw [hW']; exact Box.new _ _ _ _
  obtain ⟨d, hd⟩ := get_lt (l := S.secs) (k := k) hk
  obtain ⟨b, o, a, cap, hix, _, hc, hA⟩ := (hL.below hbW).at k d hd
  have hdd : S.secs.getD k [] = d := by simp [List.getD, hd]
  rw [hdd]
  have HW : Hid (Writes n0 W (.slice a2 S.cache.length c2) S.cache) := hW.below hbW
  have HG : Hid (d.length ≤ 140737488355328 ∧ ∀ q ∈ S.cache, q.2.length ≤ 140737488355328) := ⟨hf d (List.mem_of_getElem? hd), hg⟩
  have g0 := hBx.cell0
  have g1 := hBx.cell1
  obtain ⟨n, hn⟩ : ∃ n, n = S.secs.length := ⟨_, rfl⟩
  obtain ⟨m, hm⟩ : ∃ n, n = S.cache.length := ⟨_, rfl⟩
  have HM : Hid (m = S.cache.length) := hm
  rw [← hn] at g0 hix hk hW' ⊢
  rw [← hm] at g1 HW hm2 hW' ⊢
  unfold maxLen at hm2
  have hl2 := run_len Try.underlying23 a2 m c2
  have HBW : Hid (Below w.heap.size w W) := hbW
  have HA : Hid (Arg n0 W (.slice a d.length cap) d) := hA
  have g2 := g0
  have g3 := g1
  have hc' := hc
  rw [hW'] at g2 g3 hc'
  clear h hL hW hbW hBx hd hA hn hm hdd hf hg
  go_enter Try.func37, Try.ntmps37
  go_wp2
  rw [← hW']
  clear hW' g2 g3 hc'
  go_loopw [5, 6] (fun x i wr => ∃ j : Nat, j ≤ m ∧ i = .int .i64 j ∧ Arg n0 W x (lw (S.cache.take j) k d) ∧ wr = W) (fun _ i _ => m - (intOf i).toNat)
  case atStart => exact ⟨0, Nat.zero_le _, rfl, by simpa [lw] using HA.out, rfl⟩
  case round =>
    obtain ⟨j, hj, rfl, hx, rfl⟩ := hrel
    obtain ⟨xa, xc, rfl, _, _, _⟩ := hx.shape
    have HX : Hid (Arg n0 wr (.slice xa (lw (S.cache.take j) k d).length xc) (lw (S.cache.take j) k d)) := hx
    clear hx
    by_cases hlt : j < m
    · obtain ⟨q, hq⟩ := get_lt (l := S.cache) (k := j) (by rw [← HM.out]; exact hlt)
      obtain ⟨b1, o1, x1, cp1, hix1, _, hs1, hc1, hA1, hr⟩ := HW.out.at Try.underlying23 hi0 hz0 j q hq
      have HT : Hid (lw (S.cache.take (j + 1)) k d = if q.1 = (k : Int) then q.2 else lw (S.cache.take j) k d) := by show _ = _; rw [take_snoc hq, lw_snoc]
      obtain ⟨s, l⟩ := q
      simp only at hs1 hc1 hA1 HT
      have HA1 : Hid (Arg n0 wr (.slice x1 l.length cp1) l) := hA1
      obtain ⟨ln, hln⟩ : ∃ x, x = l.length := ⟨_, rfl⟩
      obtain ⟨xn, hxn⟩ : ∃ x, x = (lw (S.cache.take j) k d).length := ⟨_, rfl⟩
      rw [← hln] at hc1 HA1
      rw [← hxn] at HX ⊢
      have hji : (j : Int) < (m : Int) := by omega
      clear hq hA1 hln hxn
      by_cases e : s = (k : Int)
      · go_wp2
        go_roundw
        case rel => exact ⟨j + 1, by omega, by go_num, by rw [HT.out, if_pos e]; exact HA1.out, trivial⟩
        case measure => simp [intOf]; omega
      · go_wp2
        go_roundw
        case rel => exact ⟨j + 1, by omega, by go_num, by rw [HT.out, if_neg e]; exact HX.out, trivial⟩
        case measure => simp [intOf]; omega
    · obtain rfl : j = m := by omega
      have hT : S.cache.take j = S.cache := by rw [HM.out]; simp
      rw [hT] at HX ⊢
      have hlen : (lw S.cache k d).length ≤ 140737488355328 := by
        rcases lw_mem k S.cache d with e | ⟨q, hq, e⟩
        · rw [e]; exact HG.out.1
        · rw [e]; exact HG.out.2 q hq
      have HC := copied_any n0 _ (lw S.cache k d) wr HX.out hlen
      obtain ⟨xn, hxn⟩ : ∃ x, x = (lw S.cache k d).length := ⟨_, rfl⟩
      rw [← hxn] at HC ⊢
      have HXN : Hid (xn = (lw S.cache k d).length) := hxn
      clear HX hxn hT hlen
      go_wp2_with fail
      refine HC.mono ?_
      rintro e w2 ⟨⟨v', rfl, hown⟩, hb2⟩
      have HF : Hid (w2.ownsRow w.heap.size 5 1 v' (lw S.cache k d).length ((lw S.cache k d).map (Value.int .u8)) ∧ Below w.heap.size w w2) := ⟨by rw [← HXN.out]; exact own_weaken hown HBW.out.size, below_any HBW.out hb2⟩
      clear hown hb2 HC
      go_wp2
      go_ret
      exact ⟨v', rfl, HF.out⟩

end Go.Proofs.Ytkeaillmcfnnkaa
