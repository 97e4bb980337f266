/-
  What the document's For answers: the places of the packets for one node.
-/
import Derived.Test.YtpecniajamgjiaaFor
namespace Go.Proofs.Ytpecniajamgjiaa
open Go.RowKit

set_option maxRecDepth 100000 in
set_option maxHeartbeats 8000000 in
theorem rfor_any (n0 : Nat) (us : List Value) (s : St) (to : Int) (w : World) (h : stR.lies n0 w us s) :
    Calls Try.prog 18 #[.agg us.toArray, .int .i64 to] w fun e w' => (∃ v, e = .returned (.tuple #[v, .int .i64 (cerr s)]) ∧ intsS.owns w.heap.size w' [v] (pls s to)) ∧ Below w.heap.size w w' := by
  obtain ⟨a, c, rfl, hL, hi, hm⟩ := st_viewR h
  obtain ⟨i1, hi1, hz10, hz11, hz12⟩ := info_parts Try.info3
  obtain ⟨lim, l⟩ := s
  simp only at hL hi hm
  obtain ⟨n, hn⟩ : ∃ n, n = l.length := ⟨_, rfl⟩
  obtain ⟨W, hW⟩ : ∃ W, W = w.alloc (.cells #[.int .i64 lim, .slice a n c] 24) := ⟨_, rfl⟩
  have hb : Below w.heap.size w W := by rw [hW]; exact (Below.refl _ w).alloc (Nat.le_refl _) _
  have hB0 : Box W w.heap.size 24 #[.int .i64 lim, .slice a n c] := by rw [hW]; exact Box.new w 24 _
  have HD : Hid (stR.lies n0 W [.int .i64 lim, .slice a n c] (lim, l)) := by
    rw [hn]; exact stR.below h hb
  have HW : Hid (Below w.heap.size w W ∧ Box W w.heap.size 24 #[.int .i64 lim, .slice a n c]) := ⟨hb, hB0⟩
  have HN : Hid (n = l.length) := hn
  have HC := rcheck_any n0 _ (lim, l) W HD.out
  obtain ⟨PL, hPL⟩ : ∃ x, x = pls (lim, l) to := ⟨_, rfl⟩
  have HPL : Hid (PL = if chk (lim, l) then places to 0 l else []) := hPL
  obtain ⟨ce, hce⟩ : ∃ x, x = cerr (lim, l) := ⟨_, rfl⟩
  have HCE : Hid (ce = if chk (lim, l) then 0 else 9) := hce
  rw [← hPL, ← hce]
  rw [← hce] at HC
  simp only
  rw [← hn]
  clear h hL hi hm hb hB0 hn hPL hce
  go_enter Try.func18, Try.ntmps18
  go_wp2_with fail
  rw [← hW]
  clear hW
  cases hc : chk (lim, l)
  · obtain rfl : PL = [] := by rw [HPL.out, hc]; rfl
    obtain rfl : ce = 9 := by rw [HCE.out, hc]; rfl
    refine HC.mono ?_
    rintro e w1 ⟨rfl, hb1⟩
    have HB : Hid (Below w.heap.size w w1) := below_any HW.out.1 hb1
    clear hb1 HC
    go_wp2
    refine bodyPost_ret (v := .tuple #[.slice none 0 0, .int .i64 9]) (by simp [results, Try.results18, go_sem]) rfl ⟨⟨_, rfl, ⟨_, rfl, World.ownsRow_nil _ _ _ _, fun _ h => by cases h⟩⟩, HB.out⟩
  obtain rfl : PL = places to 0 l := by rw [HPL.out, hc]; rfl
  obtain rfl : ce = 0 := by rw [HCE.out, hc]; rfl
  refine HC.mono ?_
  rintro e w1 ⟨rfl, hb1⟩
  have HFT := chk_fits hc
  simp only at HFT
  have hn4 : n ≤ 4096 := by rw [HN.out]; exact HFT.2
  have HB1 : Hid (Below w.heap.size w w1 ∧ pksR.lies n0 w1 [.slice a n c] l ∧ chk (lim, l) = true) := by
    refine ⟨below_any HW.out.1 hb1, ?_, hc⟩
    obtain ⟨a', c', e', hL', _⟩ := st_viewR (stR.below HD.out hb1)
    simp only at e' hL'
    have e2 := (List.cons.inj (List.cons.inj e').2).1
    rw [e2]
    exact hL'
  obtain ⟨g0, g1, _, _⟩ := (HW.out.2.below hb1 HW.out.2.lt).two
  have hl1 := run_len Try.underlying22 a n c
  have HBX1 := HW.out.2.below hb1 HW.out.2.lt
  clear hb1 HC HFT hc
  clear g0 g1
  have HBX : Hid (Box w1 w.heap.size 24 #[.int .i64 lim, .slice a n c]) := HBX1
  clear HBX1
  go_wp2
  go_loopw [6, 7] (fun v i wr => ∃ k : Nat, k ≤ n ∧ i = .int .i64 k ∧ intsS.owns w1.heap.size wr [v] (places to 0 (l.take k)) ∧ Below w1.heap.size w1 wr) (fun _ i _ => n - (intOf i).toNat)
  case atStart => exact ⟨0, Nat.zero_le _, rfl, ⟨_, rfl, World.ownsRow_nil _ _ _ _, fun _ h => by cases h⟩, Below.refl _ _⟩
  case round =>
    obtain ⟨k, hk, rfl, hO, hbel⟩ := hrel
    obtain ⟨q0, q1, _, _⟩ := (HBX.out.below hbel HBX.out.lt).two
    by_cases hlt : k < n
    · obtain ⟨p, hp⟩ := get_lt (l := l) (k := k) (by rw [← HN.out]; exact hlt)
      obtain ⟨b, o, x, cap, hix, g0, g1, g2, hA, hf, ht⟩ := pks_atR (pksR.below HB1.out.2.1 hbel) k p hp
      have hlk : (l.take k).length = k := by have := HN.out; rw [List.length_take]; omega
      have hki : (k : Int) < (n : Int) := by omega
      have HT : Hid (places to 0 (l.take (k + 1)) = places to 0 (l.take k) ++ (if p.2.1 = to then [(k : Int)] else [])) := by
        show _ = _
        rw [take_snoc hp, places_snoc, hlk]
      have hle := places_le to (l.take k) 0
      obtain ⟨L, hL⟩ : ∃ L, L = places to 0 (l.take k) := ⟨_, rfl⟩
      rw [← hL] at HT hO hle
      obtain ⟨hown, hwf⟩ := ints_own hO
      obtain ⟨j, hj⟩ : ∃ j, j = L.length := ⟨_, rfl⟩
      have hjk : j ≤ k := by omega
      rw [← hj] at hown
      obtain ⟨a', cap', rfl⟩ := own_shape hown
      have HJ : Hid (j = L.length ∧ (∀ x ∈ L, (Lit.int .i64 x).wf = true) ∧ intsS.owns w1.heap.size wr [.slice a' j cap'] L) := ⟨hj, hwf, hO⟩
      obtain ⟨us, hus⟩ : ∃ us, us = L.map (Value.int .i64) := ⟨_, rfl⟩
      rw [← hus] at hown
      have HU : Hid (us = L.map (Value.int .i64)) := hus
      obtain ⟨pf, pt, pd⟩ := p
      simp only at g0 g1 g2 HT
      have HB2 : Hid (Below w1.heap.size w1 wr ∧ wr.ownsRow w1.heap.size 3 1 (.slice a' j cap') j us) := ⟨hbel, hown⟩
      clear hp hlk hL hO hle hwf hj hus hA hf ht hown hbel g0 g2
      by_cases hto : pt = to
      · subst hto
        have HT2 : Hid (places pt 0 (l.take (k + 1)) = L ++ [(k : Int)]) := by
          show _ = _
          rw [HT.out, if_pos rfl]
        clear HT
        go_wp2_with (at_builtin
                     refine wpList_append_lies _ (by rfl) _ _ 49 (by rfl) w1.heap.size 3 i1 _ 1 8 Try.underlying49 hi1 hz10 hz11 hz12 rfl (by omega) _ j _ (by rfl) (HB2.out.2.alloc _) ⟨wr.heap.size, 0, none⟩ 1 1 [.int .i64 k] (by rfl) (by rfl)
                       (World.news_of_block (cs := #[.int .i64 k]) (t := 3) (fr := (0, 0)) (heap_alloc_new wr _)) (by simp [Value.oneCell']) (by omega) (by unfold maxLen; omega) (by omega) (by have := HB2.out.1.size; simp; omega) (wr.heap.size + 1) (by simp) ?_; intro gg cap3 w3 hown3 hgrow3 hat hltg
                     have HG : Hid (intsS.owns w1.heap.size w3 [.slice (some ⟨gg, 0, none⟩) (j + 1) cap3] (places pt 0 (l.take (k + 1))) ∧ Below w1.heap.size w1 w3) := by
                       refine ⟨?_, (HB2.out.1.alloc HB2.out.1.size _).grown hgrow3 (by have := HB2.out.1.size; simp; omega) (fun i hi => (HB2.out.2.lt i hi).1)⟩
                       rw [HT2.out]
                       refine ints_push ?_ HJ.out.2.1 ⟨by omega, by omega⟩
                       rw [← HJ.out.1, ← HU.out]
                       exact hown3
                     clear hown3 hgrow3 hat hltg)
        go_roundw
        case rel => exact ⟨k + 1, by omega, by go_num, HG.out⟩
        case measure => simp [intOf]; omega
      · have HT2 : Hid (places to 0 (l.take (k + 1)) = L) := by
          show _ = _
          rw [HT.out, if_neg hto, List.append_nil]
        have HG : Hid (intsS.owns w1.heap.size wr [.slice a' j cap'] (places to 0 (l.take (k + 1))) ∧ Below w1.heap.size w1 wr) := by
          refine ⟨?_, HB2.out.1⟩
          rw [HT2.out]
          exact HJ.out.2.2
        clear HT HT2
        go_wp2
        go_roundw
        case rel => exact ⟨k + 1, by omega, by go_num, HG.out⟩
        case measure => simp [intOf]; omega
    · obtain rfl : k = n := by omega
      have hT : l.take k = l := by rw [HN.out]; simp
      rw [hT] at hO
      have HG : Hid (intsS.owns w.heap.size wr [u6] (places to 0 l) ∧ Below w.heap.size w wr) := ⟨intsS.oweaken hO HB1.out.1.size, below_any HB1.out.1 hbel⟩
      clear hO hT hbel
      go_wp2
      refine bodyPost_ret (v := .tuple #[u6, .int .i64 0]) (by simp [results, Try.results18, go_sem]) rfl ⟨⟨_, rfl, HG.out.1⟩, HG.out.2⟩

end Go.Proofs.Ytpecniajamgjiaa
