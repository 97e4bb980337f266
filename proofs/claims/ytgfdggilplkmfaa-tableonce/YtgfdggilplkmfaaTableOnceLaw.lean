/-
  TableOnce, proved: for every number and list of steps (as great as the form reads them): the call returns true, and changes nothing that was in memory. No condition of its own.
-/
import Derived.Test.YtgfdggilplkmfaaOnceMath
import Derived.Test.YtgfdggilplkmfaaRTake
namespace Go.Proofs.Ytgfdggilplkmfaa.tableOnce
open Go.ChangeShapes Go.WideShapes Go.ChangeAt Go.RowKit
set_option linter.unusedVariables false

set_option maxRecDepth 100000 in
set_option maxHeartbeats 20000000 in
theorem walk (m0 : Int) (v : Value) (l : List Sp) (w : World) (h : stepsS.lies 0 w [v] l) :
    Calls Try.prog 4 #[.int .i64 m0, v] w fun e w' => e = .returned (.bool true) ∧ Below w.heap.size w w' := by
  obtain ⟨la, lc, hv, _, hm, _⟩ := Shape.list_len (S := stepS) (ht := Try.underlying48) (hc := cells48) h
  obtain rfl : v = _ := by simpa using hv
  have HL : Hid (stepsS.lies 0 w [.slice la l.length lc] l) := h
  obtain ⟨ln, hln⟩ : ∃ n, n = l.length := ⟨_, rfl⟩
  have HLN : Hid (ln = l.length) := hln
  rw [← hln] at HL hm ⊢
  unfold maxLen at hm
  obtain ⟨N, hN1, hN2, hN⟩ := mod12 m0
  have hl1 := run_len Try.underlying48 la ln lc
  clear h hv hln
  go_enter Try.func4, Try.ntmps4
  go_wp2_with fail
  refine (alive_any _).mono ?_
  rintro e w1 ⟨rfl, hb1⟩
  have HC := new_any N w1
  rw [show nE N = 0 from if_neg (by omega), show nV N = List.replicate N (0, 0) from by rw [nV, if_neg (by omega)]; simp] at HC
  go_wp2_with fail
  rw [hN]
  clear hN
  refine HC.mono ?_
  rintro e w2 ⟨⟨tv, rfl, hT⟩, hb2⟩
  obtain ⟨j3, hj3, hz30, hz31, hz32⟩ := info_parts Try.info3
  obtain ⟨j4, hj4, hz40, hz41, hz42⟩ := info_parts Try.info4
  have hb12 := below_any hb1 hb2
  obtain ⟨w3, hm3, ho3, hg3⟩ := run_make_full w2 w.heap.size 49 3 j3 _ 1 Try.underlying49 hj3 hz30 hz31 .i64 .i64 N (by rw [hz32]; omega) (by unfold maxLen; omega) hb12.size
  have hb3 : Below w.heap.size w w3 := hb12.grown hg3 hb12.size (fun _ h => by cases h)
  obtain ⟨w4, hm4, ho4, hg4⟩ := run_make_full w3 w.heap.size 50 4 j4 _ 1 Try.underlying50 hj4 hz40 hz41 .i64 .i64 N (by rw [hz42]; omega) (by unfold maxLen; omega) hb3.size
  obtain ⟨g1, hg1⟩ : ∃ g, g = w2.heap.size := ⟨_, rfl⟩
  obtain ⟨g2, hg2⟩ : ∃ g, g = w3.heap.size := ⟨_, rfl⟩
  rw [← hg1] at ho3 hm3
  rw [← hg2] at ho4 hm4
  have HIN : Hid (Inv w 0 N g1 g2 tv (List.replicate N (0, 0)) w4) := by
    refine ⟨⟨((hT.weaken hb1.size).1.kept hg3 (Classical.em _)).kept hg4 (Classical.em _), hT.2⟩, ?_, ?_, hb3.grown hg4 hb3.size (fun _ h => by cases h), by simp, ⟨by simp; omega, by simp; omega, fun p hp => ?_⟩, fun p hp => ?_⟩
    · have h1 := ho3.kept hg4 (Classical.em _)
      rw [show (madeCells (Value.int .i64 0).cells (N * 1)).toList = List.replicate (N * 1) (.int .i64 0) from toList_madeCells_one _ _, Nat.mul_one] at h1
      simpa [lvs] using h1
    · rw [show (madeCells (Value.bool false).cells (N * 1)).toList = List.replicate (N * 1) (.bool false) from toList_madeCells_one _ _, Nat.mul_one] at ho4
      simpa [uss] using ho4
    · rw [(List.mem_replicate.1 hp).2]
      exact good_iff.2 ⟨by decide, fun h => absurd rfl h⟩
    · rw [(List.mem_replicate.1 hp).2]
      simp
  clear hT hb1 hb2 hb12 hg3 hg4 hb3 ho3 ho4 hg1 hg2 HC hj3 hj4
  go_wp2_with (go_at_call 19; refine (num_any _ _).mono ?_; rintro e wn ⟨rfl, rfl⟩)
  clear hm3 hm4
  go_loopw [5, 9] (fun tv i wr => ∃ (j : Nat) (t : List Sl), j ≤ 200 ∧ j ≤ ln ∧ i = .int .i64 j ∧ Hid (Inv w j N g1 g2 tv t wr)) (fun _ i _ => 200 - (intOf i).toNat)
  case atStart => exact ⟨0, _, by omega, by omega, rfl, HIN⟩
  case round =>
    obtain ⟨j, t, hj, hjl, rfl, HIO⟩ := hrel
    by_cases hlt : j < ln
    case neg =>
      obtain rfl : j = ln := by omega
      go_wp2
      go_ret
      exact ⟨rfl, HIO.out.2.2.2.1⟩
    by_cases h200 : j < 200
    case neg =>
      go_wp2
      go_ret
      exact ⟨rfl, HIO.out.2.2.2.1⟩
    obtain ⟨q, hq⟩ := get_lt (l := l) (k := j) (by rw [← HLN.out]; exact hlt)
    obtain ⟨what, nn, lv⟩ := q
    obtain ⟨b0, o0, hix, c0, c1, c2⟩ := steps_at (stepsS.below HL.out HIO.out.2.2.2.1) j _ hq
    simp only at c0 c1 c2
    obtain ⟨r, hr3, hr⟩ := mod3 what
    obtain ⟨k, hk1, hke⟩ := mod_pos nn N (by omega) (by omega)
    have hji : (j : Int) < (ln : Int) := by omega
    have hk3 : ¬ (N : Int) = 0 := by omega
    obtain ⟨wo, rfl⟩ : ∃ wo, wo = wr := ⟨_, rfl⟩
    clear hq HIN
    obtain rfl | rfl | rfl : r = 0 ∨ r = 1 ∨ r = 2 := by omega
    · as_aux_lemma =>
          obtain ⟨x, hx9, hx⟩ := mod9 lv
          obtain ⟨hE0, hE1, -, -⟩ := alloc_E (x := (x : Int)) HIO.out.2.2.2.2.2.1 HIO.out.2.2.2.2.2.2 (by omega) ⟨by omega, by omega⟩
          have HEE : Hid ((cnt t 0 = 0 → aE t (j + 1) x = 51) ∧ (0 < cnt t 0 → aE t (j + 1) x = 0)) := ⟨hE0, hE1⟩
          have HC := alloc_any _ u5 t (j + 1) x ⟨by omega, by omega⟩ wo HIO.out.1.arg
          clear hE0 hE1
          go_wp2_with fail
          clear hx hk3 hr hke
          refine HC.mono ?_
          rintro e w6 ⟨⟨v6, rfl, hO6⟩, hb6⟩
          have H6 : Hid (OwnE 57 wo.heap.size w6 v6 (aV t (j + 1) x) ∧ Below wo.heap.size wo w6) := ⟨hO6, hb6⟩
          have HI6 : Hid (Inv w j N g1 g2 u5 t w6) := HIO.out.below hb6
          clear hO6 hb6 HC c0 c1 c2 hix
          obtain ⟨ae, hae⟩ : ∃ y, y = aE t (j + 1) x := ⟨_, rfl⟩
          obtain ⟨ap, hap⟩ : ∃ y, y = aP t (j + 1) x := ⟨_, rfl⟩
          rw [← hae] at HEE ⊢
          rw [← hap]
          have HAP : Hid (ap = aP t (j + 1) x) := hap
          clear hae hap
          go_wp2
          go_loopw [15, 16] (fun s i wr => ∃ jj : Nat, jj ≤ N ∧ i = .int .i64 jj ∧ s = .bool (decide (0 < cnt (t.take jj) 0)) ∧ Hid (wr = w6)) (fun _ i _ => N - (intOf i).toNat)
          case atStart => exact ⟨0, Nat.zero_le _, rfl, rfl, rfl⟩
          case round =>
            obtain ⟨jj, hjj, rfl, rfl, HW6⟩ := hrel
            obtain ⟨b, hb⟩ : ∃ b, b = decide (0 < cnt (t.take jj) 0) := ⟨_, rfl⟩
            rw [← hb]
            have HBB : Hid (b = decide (0 < cnt (t.take jj) 0)) := hb
            clear hb
            by_cases hjl : jj < N
            · obtain ⟨p, hp⟩ := get_lt (l := t) (k := jj) (by rw [HI6.out.2.2.2.2.1]; exact hjl)
              have hji2 : (jj : Int) < (N : Int) := by omega
              have HCN : Hid (cnt (t.take (jj + 1)) 0 = cnt (t.take jj) 0 + if p.1 = 0 then 1 else 0) := by rw [take_snoc hp]; exact cnt_snoc _ _ _
              cases b
              · obtain ⟨-, d1, -, -⟩ := HI6.out.at hp
                rw [← HW6.out] at d1
                have ix2 := ix_us g2 N jj hjl
                have hz : cnt (t.take jj) 0 = 0 := by have := of_decide_eq_false HBB.out.symm; omega
                clear hp
                by_cases e : p.1 = 0
                · replace d1 : wr.cell? ⟨g2, jj, none⟩ = some (.bool false) := by rw [d1, decide_eq_true e]; rfl
                  have HN2 : Hid (decide (0 < cnt (t.take (jj + 1)) 0) = true) := by show _ = _; rw [HCN.out, if_pos e]; simp
                  clear e hz HCN
                  go_wp2
                  go_roundw
                  case rel => exact ⟨jj + 1, by omega, by go_num, by rw [HN2.out], HW6⟩
                  case measure => simp [intOf]; omega
                · replace d1 : wr.cell? ⟨g2, jj, none⟩ = some (.bool true) := by rw [d1, decide_eq_false e]; rfl
                  have HN2 : Hid (decide (0 < cnt (t.take (jj + 1)) 0) = false) := by show _ = _; rw [HCN.out, if_neg e, hz]; rfl
                  clear e hz HCN
                  go_wp2
                  go_roundw
                  case rel => exact ⟨jj + 1, by omega, by go_num, by rw [HN2.out], HW6⟩
                  case measure => simp [intOf]; omega
              · have HN2 : Hid (decide (0 < cnt (t.take (jj + 1)) 0) = true) := by
                  show _ = _
                  have := of_decide_eq_true HBB.out.symm
                  rw [HCN.out]
                  exact decide_eq_true (by omega)
                clear hp HCN
                go_wp2
                go_roundw
                case rel => exact ⟨jj + 1, by omega, by go_num, by rw [HN2.out], HW6⟩
                case measure => simp [intOf]; omega
            · obtain rfl : jj = N := by omega
              have HBT : Hid (b = decide (0 < cnt t 0)) := by
                have := HBB.out
                rwa [List.take_of_length_le (by rw [HI6.out.2.2.2.2.1]; omega)] at this
              clear HBB
              cases b
              · obtain rfl : ae = 51 := HEE.out.1 (by have := of_decide_eq_false HBT.out.symm; omega)
                go_wp2_with (go_at_call 19; refine (num_any _ _).mono ?_; rintro e wn ⟨rfl, rfl⟩)
                go_roundw
                case rel => exact ⟨j + 1, t, by omega, by omega, by go_num, by rw [HW6.out]; exact HI6.out.more⟩
                case measure => simp [intOf]; omega
              · have hpos := of_decide_eq_true HBT.out.symm
                obtain rfl : ae = 0 := HEE.out.2 hpos
                obtain ⟨f1, f2, f3, f4⟩ := alloc_next (x := (x : Int)) HIO.out.2.2.2.2.2.1 HIO.out.2.2.2.2.2.2 (by omega) ⟨by omega, by omega⟩ hpos
                obtain ⟨f, hf⟩ : ∃ f, f = freeAt t := ⟨_, rfl⟩
                obtain ⟨p, hp, hp0⟩ := freeAt_is hpos
                have hfl : f < jj := by rw [hf, ← HI6.out.2.2.2.2.1]; exact freeAt_lt hpos
                rw [← hf] at f1 f2 f3 f4 hp
                obtain rfl : ap = f := by rw [HAP.out]; exact f2
                have h6 := H6.out
                rw [f1] at h6
                obtain ⟨t', ht'⟩ : ∃ t', t' = t.set f ((j : Int) + 1, x) := ⟨_, rfl⟩
                obtain ⟨d0, d1, e0, e1⟩ := HI6.out.at hp
                replace d1 : w6.cell? ⟨g2, f, none⟩ = some (.bool false) := by rw [d1, decide_eq_true hp0]; rfl
                obtain ⟨W5, hW5⟩ : ∃ W5, W5 = (w6.setCell ⟨g2, f, none⟩ (.bool true)).setCell ⟨g1, f, none⟩ (.int .i64 x) := ⟨_, rfl⟩
                have HI : Hid (Inv w (j + 1) jj g1 g2 v6 t' W5) := by
                  rw [ht', hW5]
                  exact HIO.out.both h6.2 h6.1 f3 f4 true (by have : ¬ ((j : Int) + 1 = 0) := by omega
                                                              simp [this])
                have ix1 := ix_lv g1 jj f hfl
                have ix2 := ix_us g2 jj f hfl
                have hfi : (f : Int) < (jj : Int) := by omega
                have hgg := HI6.out.blocks.1
                have hq0 : (w6.setCell ⟨g2, f, none⟩ (.bool true)).cell? ⟨g1, f, none⟩ = some (.int .i64 p.2) := by
                  rw [World.cell?_of_block (Below.heap_setCell _ _ _ _ hgg)]
                  exact d0
                have hq1 : (w6.setCell ⟨g2, f, none⟩ (.bool true)).frozen? ⟨g1, f, none⟩ = false := by
                  unfold World.frozen?
                  rw [show (w6.setCell ⟨g2, f, none⟩ (.bool true)).heap[g1]? = w6.heap[g1]? from Below.heap_setCell _ _ _ _ hgg]
                  exact e0
                have hwq := HW6.out
                clear hpos f1 f2 f3 f4 hp hp0 hf h6 HAP HEE HBT HI6 HIO H6 HW6
                subst hwq
                obtain ⟨tv', rfl⟩ : ∃ tv', tv' = v6 := ⟨_, rfl⟩
                obtain ⟨N, rfl⟩ : ∃ N, N = jj := ⟨_, rfl⟩
                go_wp2_with (first | (go_at_call 19; refine (num_any _ _).mono ?_; rintro e wn ⟨rfl, rfl⟩))
                rw [← hW5]
                clear hW5 ht' hq0 hq1 d0 d1 e0 e1 ix1 ix2
                have HC := room_any _ tv' t' W5 HI.out.1.arg
                rw [show rF t' = cnt t' 0 from if_pos (cerr_ok HI.out.2.2.2.2.2.1), show rL t' = lives t' from if_pos (cerr_ok HI.out.2.2.2.2.2.1), cerr_ok HI.out.2.2.2.2.2.1] at HC
                obtain ⟨cf, hcf⟩ : ∃ c, c = cnt t' 0 := ⟨_, rfl⟩
                obtain ⟨lf, hlf⟩ : ∃ c, c = lives t' := ⟨_, rfl⟩
                have HCF : Hid (cf = cnt t' 0 ∧ lf = lives t') := ⟨hcf, hlf⟩
                rw [← hcf, ← hlf] at HC
                clear hcf hlf
                refine HC.mono ?_
                rintro e w9 ⟨rfl, hb9⟩
                have HI9 : Hid (Inv w (j + 1) N g1 g2 tv' t' w9) := HI.out.below hb9
                clear hb9 HC HI
                go_wp2
                go_loopw [24, 25, 26] (fun a b i wr => ∃ jj : Nat, jj ≤ N ∧ i = .int .i64 jj ∧ a = .int .i64 (cnt (t'.take jj) 0) ∧ b = .int .i64 (lives (t'.take jj)) ∧ Hid (wr = w9)) (fun _ _ i _ => N - (intOf i).toNat)
                case atStart => exact ⟨0, Nat.zero_le _, rfl, rfl, rfl, rfl⟩
                case round =>
                  obtain ⟨jj, hjj, rfl, rfl, rfl, HW9⟩ := hrel
                  have hlb : 0 ≤ lives (t'.take jj) ∧ lives (t'.take jj) ≤ 512 := by
                    have h1 := lives_le (l := t'.take jj) fun p hp => HI9.out.2.2.2.2.2.1.live (List.mem_of_mem_take hp)
                    rw [List.length_take] at h1
                    omega
                  have hcb : cnt (t'.take jj) 0 ≤ 64 := by
                    have h1 := cnt_le (t'.take jj) 0
                    rw [List.length_take] at h1
                    omega
                  by_cases hjl : jj < N
                  · obtain ⟨p, hp⟩ := get_lt (l := t') (k := jj) (by rw [HI9.out.2.2.2.2.1]; exact hjl)
                    obtain ⟨d0, d1, -, -⟩ := HI9.out.at hp
                    rw [← HW9.out] at d0 d1
                    have ix1 := ix_lv g1 N jj hjl
                    have ix2 := ix_us g2 N jj hjl
                    have hji2 : (jj : Int) < (N : Int) := by omega
                    have hpl := HI9.out.2.2.2.2.2.1.live (List.mem_of_getElem? hp)
                    have HT : Hid (lives (t'.take (jj + 1)) = lives (t'.take jj) + p.2 ∧ cnt (t'.take (jj + 1)) 0 = cnt (t'.take jj) 0 + if p.1 = 0 then 1 else 0) := by rw [take_snoc hp]; exact ⟨lives_snoc _ _, cnt_snoc _ _ _⟩
                    obtain ⟨p1, p2⟩ := p
                    simp only at d0 d1 hpl HT
                    obtain ⟨lv, hlv⟩ : ∃ t, t = lives (t'.take jj) := ⟨_, rfl⟩
                    obtain ⟨cv, hcv⟩ : ∃ t, t = cnt (t'.take jj) 0 := ⟨_, rfl⟩
                    rw [← hlv] at hlb HT ⊢
                    rw [← hcv] at hcb HT ⊢
                    clear hp hlv hcv
                    by_cases e : p1 = 0
                    · subst e
                      have HT2 : Hid (lives (t'.take (jj + 1)) = lv + p2 ∧ cnt (t'.take (jj + 1)) 0 = cv + 1) := ⟨HT.out.1, by rw [HT.out.2, if_pos rfl]⟩
                      replace d1 : wr.cell? ⟨g2, jj, none⟩ = some (.bool false) := d1
                      clear HT
                      go_wp2
                      go_roundw
                      case rel => exact ⟨jj + 1, by omega, by go_num, by rw [HT2.out.2]; go_num, by rw [HT2.out.1], HW9⟩
                      case measure => simp [intOf]; omega
                    · have HT2 : Hid (lives (t'.take (jj + 1)) = lv + p2 ∧ cnt (t'.take (jj + 1)) 0 = cv) := ⟨HT.out.1, by rw [HT.out.2, if_neg e]; rfl⟩
                      replace d1 : wr.cell? ⟨g2, jj, none⟩ = some (.bool true) := by rw [d1, decide_eq_false e]; rfl
                      clear HT e
                      go_wp2
                      go_roundw
                      case rel => exact ⟨jj + 1, by omega, by go_num, by rw [HT2.out.2], by rw [HT2.out.1], HW9⟩
                      case measure => simp [intOf]; omega
                  · obtain rfl : jj = N := by omega
                    have HT : Hid (lives (t'.take jj) = lf ∧ cnt (t'.take jj) 0 = cf) := by rw [HCF.out.1, HCF.out.2, List.take_of_length_le (by rw [HI9.out.2.2.2.2.1]; omega)]; exact ⟨rfl, rfl⟩
                    rw [HT.out.1, HT.out.2]
                    clear hlb hcb HT HCF
                    go_wp2_with (go_at_call 19; refine (num_any _ _).mono ?_; rintro e wn ⟨rfl, rfl⟩)
                    go_roundw
                    case rel => exact ⟨j + 1, t', by omega, by omega, by go_num, by rw [HW9.out]; exact HI9⟩
                    case measure => simp [intOf]; omega
    · as_aux_lemma =>
          have HC := kill_any _ u5 t k 1 wo HIO.out.1.arg
          obtain ⟨p, hp⟩ := get_lt (l := t) (k := k) (by rw [HIO.out.2.2.2.2.1]; exact hk1)
          obtain ⟨q, x⟩ := p
          have HEE : Hid ((q ≠ 0 ∧ 0 < x → kE t k 1 = 0 ∧ kV t k 1 = t.set k (q, x - 1) ∧ Chk (t.set k (q, x - 1))) ∧ (¬ (q ≠ 0 ∧ 0 < x) → kE t k 1 ≠ 0)) := kill_E HIO.out.2.2.2.2.2.1 hp
          have HP : Hid (t[k]? = some (q, x) ∧ 0 ≤ x ∧ x ≤ 8) := ⟨hp, HIO.out.2.2.2.2.2.1.live (List.mem_of_getElem? hp)⟩
          have ix1 := ix_lv g1 N k hk1
          have ix2 := ix_us g2 N k hk1
          have hki : (k : Int) < (N : Int) := by omega
          obtain ⟨ke, hke'⟩ : ∃ y, y = kE t k 1 := ⟨_, rfl⟩
          obtain ⟨kv, hkv⟩ : ∃ y, y = kV t k 1 := ⟨_, rfl⟩
          rw [← hke', ← hkv] at HC HEE
          clear hp hke' hkv
          go_wp2_with fail
          clear hk3 hr hke c0 c1 c2 hix
          refine HC.mono ?_
          rintro e w6 ⟨⟨v6, rfl, hO6⟩, hb6⟩
          have H6 : Hid (OwnE 57 wo.heap.size w6 v6 kv ∧ Below wo.heap.size wo w6) := ⟨hO6, hb6⟩
          have HI6 : Hid (Inv w j N g1 g2 u5 t w6) := HIO.out.below hb6
          obtain ⟨d0, d1, e0, e1⟩ := HI6.out.at HP.out.1
          simp only at d0 d1
          clear hO6 hb6 HC
          go_wp2
          by_cases h0 : q = 0
          · have hne := HEE.out.2 (fun h => h.1 h0)
            have hneb : (ke == 0) = false := by simpa using hne
            replace d1 : w6.cell? ⟨g2, k, none⟩ = some (.bool false) := by rw [d1, decide_eq_true h0]; rfl
            refine AnyBut.begin (fun V => V.cell? ⟨g2, k, none⟩ = some (.bool false) ∧ V.cell? ⟨g1, k, none⟩ = some (.int .i64 x)) 1000 (by kernel_rfl) ?_
            have hSS : w6.drew.cell? ⟨g2, k, none⟩ = some (.bool false) ∧ w6.drew.cell? ⟨g1, k, none⟩ = some (.int .i64 x) := ⟨d1, d0⟩
            refine tx 0 146 hSS ?_
            simp only [ua, ub, uc, ud]
            refine tx 3 149 hSS ?_
            simp only [ua, ub, uc, ud]
            refine tx 4 150 hSS ?_
            simp only [ua, ub, uc, ud]
            refine tx 5 151 hSS ?_
            simp only [ua, ub, uc, ud]
            refine tx 6 152 hSS ?_
            simp only [ua, ub, uc, ud]
            refine AnyBut.step (i := 1) (by kernel_rfl) rfl (fun K hK => ?_)
            go_simp
            refine Calls.mono (num_any _ _) ?_
            rintro e wn ⟨rfl, rfl⟩
            dsimp only
            refine hK.out _ _ hSS ?_
            clear hK
            refine tx 2 148 hSS ?_
            simp only [ua, ub, uc, ud]
            refine tx 7 153 hSS ?_
            simp only [ua, ub, uc, ud]
            refine tus 5 [(8, 154), (9, 155), (10, 156), (11, 157), (12, 158)] hSS ?_
            simp only [skL, skA, ua, ub, uc, ud]
            refine tx 13 159 hSS ?_
            simp only [ua, ub, uc, ud]
            refine tx 14 160 hSS ?_
            simp only [ua, ub, uc, ud]
            refine AnyBut.done (by kernel_rfl) ?_
            clear hSS
            obtain ⟨W5, hW5⟩ : ∃ W5, W5 = w6.drew := ⟨_, rfl⟩
            obtain ⟨t', rfl⟩ : ∃ t', t' = t := ⟨_, rfl⟩
            obtain ⟨tv', rfl⟩ : ∃ tv', tv' = u5 := ⟨_, rfl⟩
            have HI : Hid (Inv w (j + 1) N g1 g2 tv' t' W5) := by rw [hW5]; exact (HI6.out.below (Below.refl _ _).drew).more
            rw [← hW5]
            clear hW5 d0 d1 e0 e1 ix1 ix2 HEE H6 HIO HI6
            go_wp2_with (go_at_call 19; refine (num_any _ _).mono ?_; rintro e wn ⟨rfl, rfl⟩)
            have HC := room_any _ tv' t' W5 HI.out.1.arg
            rw [show rF t' = cnt t' 0 from if_pos (cerr_ok HI.out.2.2.2.2.2.1), show rL t' = lives t' from if_pos (cerr_ok HI.out.2.2.2.2.2.1), cerr_ok HI.out.2.2.2.2.2.1] at HC
            obtain ⟨cf, hcf⟩ : ∃ c, c = cnt t' 0 := ⟨_, rfl⟩
            obtain ⟨lf, hlf⟩ : ∃ c, c = lives t' := ⟨_, rfl⟩
            have HCF : Hid (cf = cnt t' 0 ∧ lf = lives t') := ⟨hcf, hlf⟩
            rw [← hcf, ← hlf] at HC
            clear hcf hlf
            refine HC.mono ?_
            rintro e w9 ⟨rfl, hb9⟩
            have HI9 : Hid (Inv w (j + 1) N g1 g2 tv' t' w9) := HI.out.below hb9
            clear hb9 HC HI
            go_wp2
            go_loopw [24, 25, 26] (fun a b i wr => ∃ jj : Nat, jj ≤ N ∧ i = .int .i64 jj ∧ a = .int .i64 (cnt (t'.take jj) 0) ∧ b = .int .i64 (lives (t'.take jj)) ∧ Hid (wr = w9)) (fun _ _ i _ => N - (intOf i).toNat)
            case atStart => exact ⟨0, Nat.zero_le _, rfl, rfl, rfl, rfl⟩
            case round =>
              obtain ⟨jj, hjj, rfl, rfl, rfl, HW9⟩ := hrel
              have hlb : 0 ≤ lives (t'.take jj) ∧ lives (t'.take jj) ≤ 512 := by
                have h1 := lives_le (l := t'.take jj) fun p hp => HI9.out.2.2.2.2.2.1.live (List.mem_of_mem_take hp)
                rw [List.length_take] at h1
                omega
              have hcb : cnt (t'.take jj) 0 ≤ 64 := by
                have h1 := cnt_le (t'.take jj) 0
                rw [List.length_take] at h1
                omega
              by_cases hjl : jj < N
              · obtain ⟨p, hp⟩ := get_lt (l := t') (k := jj) (by rw [HI9.out.2.2.2.2.1]; exact hjl)
                obtain ⟨d0, d1, -, -⟩ := HI9.out.at hp
                rw [← HW9.out] at d0 d1
                have ix1 := ix_lv g1 N jj hjl
                have ix2 := ix_us g2 N jj hjl
                have hji2 : (jj : Int) < (N : Int) := by omega
                have hpl := HI9.out.2.2.2.2.2.1.live (List.mem_of_getElem? hp)
                have HT : Hid (lives (t'.take (jj + 1)) = lives (t'.take jj) + p.2 ∧ cnt (t'.take (jj + 1)) 0 = cnt (t'.take jj) 0 + if p.1 = 0 then 1 else 0) := by rw [take_snoc hp]; exact ⟨lives_snoc _ _, cnt_snoc _ _ _⟩
                obtain ⟨p1, p2⟩ := p
                simp only at d0 d1 hpl HT
                obtain ⟨lv, hlv⟩ : ∃ t, t = lives (t'.take jj) := ⟨_, rfl⟩
                obtain ⟨cv, hcv⟩ : ∃ t, t = cnt (t'.take jj) 0 := ⟨_, rfl⟩
                rw [← hlv] at hlb HT ⊢
                rw [← hcv] at hcb HT ⊢
                clear hp hlv hcv
                by_cases e : p1 = 0
                · subst e
                  have HT2 : Hid (lives (t'.take (jj + 1)) = lv + p2 ∧ cnt (t'.take (jj + 1)) 0 = cv + 1) := ⟨HT.out.1, by rw [HT.out.2, if_pos rfl]⟩
                  replace d1 : wr.cell? ⟨g2, jj, none⟩ = some (.bool false) := d1
                  clear HT
                  go_wp2
                  go_roundw
                  case rel => exact ⟨jj + 1, by omega, by go_num, by rw [HT2.out.2]; go_num, by rw [HT2.out.1], HW9⟩
                  case measure => simp [intOf]; omega
                · have HT2 : Hid (lives (t'.take (jj + 1)) = lv + p2 ∧ cnt (t'.take (jj + 1)) 0 = cv) := ⟨HT.out.1, by rw [HT.out.2, if_neg e]; rfl⟩
                  replace d1 : wr.cell? ⟨g2, jj, none⟩ = some (.bool true) := by rw [d1, decide_eq_false e]; rfl
                  clear HT e
                  go_wp2
                  go_roundw
                  case rel => exact ⟨jj + 1, by omega, by go_num, by rw [HT2.out.2], by rw [HT2.out.1], HW9⟩
                  case measure => simp [intOf]; omega
              · obtain rfl : jj = N := by omega
                have HT : Hid (lives (t'.take jj) = lf ∧ cnt (t'.take jj) 0 = cf) := by rw [HCF.out.1, HCF.out.2, List.take_of_length_le (by rw [HI9.out.2.2.2.2.1]; omega)]; exact ⟨rfl, rfl⟩
                rw [HT.out.1, HT.out.2]
                clear hlb hcb HT HCF
                go_wp2_with (go_at_call 19; refine (num_any _ _).mono ?_; rintro e wn ⟨rfl, rfl⟩)
                go_roundw
                case rel => exact ⟨j + 1, t', by omega, by omega, by go_num, by rw [HW9.out]; exact HI9⟩
                case measure => simp [intOf]; omega
          by_cases h1 : 0 < x
          · obtain ⟨z1, z2, z3⟩ := HEE.out.1 ⟨h0, h1⟩
            subst z1
            replace d1 : w6.cell? ⟨g2, k, none⟩ = some (.bool true) := by rw [d1, decide_eq_false h0]; rfl
            refine AnyBut.begin (fun V => V.cell? ⟨g2, k, none⟩ = some (.bool true) ∧ V.cell? ⟨g1, k, none⟩ = some (.int .i64 x)) 1000 (by kernel_rfl) ?_
            have hSS : w6.drew.cell? ⟨g2, k, none⟩ = some (.bool true) ∧ w6.drew.cell? ⟨g1, k, none⟩ = some (.int .i64 x) := ⟨d1, d0⟩
            refine tx 0 146 hSS ?_
            simp only [ua, ub, uc, ud]
            refine tx 3 149 hSS ?_
            simp only [ua, ub, uc, ud]
            refine tx 4 150 hSS ?_
            simp only [ua, ub, uc, ud]
            refine tx 5 151 hSS ?_
            simp only [ua, ub, uc, ud]
            refine tx 6 152 hSS ?_
            simp only [ua, ub, uc, ud]
            refine AnyBut.step (i := 1) (by kernel_rfl) rfl (fun K hK => ?_)
            go_simp
            refine Calls.mono (num_any _ _) ?_
            rintro e wn ⟨rfl, rfl⟩
            dsimp only
            refine hK.out _ _ hSS ?_
            clear hK
            refine tx 2 148 hSS ?_
            simp only [ua, ub, uc, ud]
            refine tx 7 153 hSS ?_
            simp only [ua, ub, uc, ud]
            refine tx 8 154 hSS ?_
            simp only [ua, ub, uc, ud]
            refine tx 9 155 hSS ?_
            simp only [ua, ub, uc, ud]
            refine tx 10 156 hSS ?_
            simp only [ua, ub, uc, ud]
            refine tx 11 157 hSS ?_
            simp only [ua, ub, uc, ud]
            refine tx 12 158 hSS ?_
            simp only [ua, ub, uc, ud]
            refine tx 13 159 hSS ?_
            simp only [ua, ub, uc, ud]
            refine tx 14 160 hSS ?_
            simp only [ua, ub, uc, ud]
            refine AnyBut.done (by kernel_rfl) ?_
            clear hSS
            have HI6d : Hid (Inv w j N g1 g2 u5 t w6.drew) := HI6.out.below (Below.refl _ _).drew
            obtain ⟨W4, hW4⟩ : ∃ W4, W4 = w6.drew := ⟨_, rfl⟩
            have h6 := H6.out
            rw [z2] at h6
            have hb4 : Below wo.heap.size wo W4 := by rw [hW4]; exact h6.2.drew
            have hO4 : OwnE 57 wo.heap.size W4 v6 (t.set k (q, x - 1)) := by rw [hW4]; exact h6.1.below (Below.refl _ _).drew
            obtain ⟨t', ht'⟩ : ∃ t', t' = t.set k (q, x - 1) := ⟨_, rfl⟩
            obtain ⟨W5, hW5⟩ : ∃ W5, W5 = W4.setCell ⟨g1, k, none⟩ (.int .i64 (x - 1)) := ⟨_, rfl⟩
            have HI : Hid (Inv w (j + 1) N g1 g2 v6 t' W5) := by rw [ht', hW5]; exact (HIO.out.live hb4 HP.out.1 hO4 z3).more
            replace d0 : W4.cell? ⟨g1, k, none⟩ = some (.int .i64 x) := by rw [hW4]; exact d0
            replace d1 : W4.cell? ⟨g2, k, none⟩ = some (.bool true) := by rw [hW4]; exact d1
            replace e0 : W4.frozen? ⟨g1, k, none⟩ = false := by rw [hW4]; exact e0
            replace e1 : W4.frozen? ⟨g2, k, none⟩ = false := by rw [hW4]; exact e1
            rw [← hW4]
            have hx8 : 0 ≤ x ∧ x ≤ 8 := HP.out.2
            clear hW4 z2 z3 h6 hb4 hO4 ht' HIO HI6 HI6d H6 HEE HP
            obtain ⟨tv', rfl⟩ : ∃ tv', tv' = v6 := ⟨_, rfl⟩
            go_wp2_with (go_at_call 19; refine (num_any _ _).mono ?_; rintro e wn ⟨rfl, rfl⟩)
            rw [← hW5]
            clear hW5 d0 d1 e0 e1 ix1 ix2 hx8
            have HC := room_any _ tv' t' W5 HI.out.1.arg
            rw [show rF t' = cnt t' 0 from if_pos (cerr_ok HI.out.2.2.2.2.2.1), show rL t' = lives t' from if_pos (cerr_ok HI.out.2.2.2.2.2.1), cerr_ok HI.out.2.2.2.2.2.1] at HC
            obtain ⟨cf, hcf⟩ : ∃ c, c = cnt t' 0 := ⟨_, rfl⟩
            obtain ⟨lf, hlf⟩ : ∃ c, c = lives t' := ⟨_, rfl⟩
            have HCF : Hid (cf = cnt t' 0 ∧ lf = lives t') := ⟨hcf, hlf⟩
            rw [← hcf, ← hlf] at HC
            clear hcf hlf
            refine HC.mono ?_
            rintro e w9 ⟨rfl, hb9⟩
            have HI9 : Hid (Inv w (j + 1) N g1 g2 tv' t' w9) := HI.out.below hb9
            clear hb9 HC HI
            go_wp2
            go_loopw [24, 25, 26] (fun a b i wr => ∃ jj : Nat, jj ≤ N ∧ i = .int .i64 jj ∧ a = .int .i64 (cnt (t'.take jj) 0) ∧ b = .int .i64 (lives (t'.take jj)) ∧ Hid (wr = w9)) (fun _ _ i _ => N - (intOf i).toNat)
            case atStart => exact ⟨0, Nat.zero_le _, rfl, rfl, rfl, rfl⟩
            case round =>
              obtain ⟨jj, hjj, rfl, rfl, rfl, HW9⟩ := hrel
              have hlb : 0 ≤ lives (t'.take jj) ∧ lives (t'.take jj) ≤ 512 := by
                have h1 := lives_le (l := t'.take jj) fun p hp => HI9.out.2.2.2.2.2.1.live (List.mem_of_mem_take hp)
                rw [List.length_take] at h1
                omega
              have hcb : cnt (t'.take jj) 0 ≤ 64 := by
                have h1 := cnt_le (t'.take jj) 0
                rw [List.length_take] at h1
                omega
              by_cases hjl : jj < N
              · obtain ⟨p, hp⟩ := get_lt (l := t') (k := jj) (by rw [HI9.out.2.2.2.2.1]; exact hjl)
                obtain ⟨d0, d1, -, -⟩ := HI9.out.at hp
                rw [← HW9.out] at d0 d1
                have ix1 := ix_lv g1 N jj hjl
                have ix2 := ix_us g2 N jj hjl
                have hji2 : (jj : Int) < (N : Int) := by omega
                have hpl := HI9.out.2.2.2.2.2.1.live (List.mem_of_getElem? hp)
                have HT : Hid (lives (t'.take (jj + 1)) = lives (t'.take jj) + p.2 ∧ cnt (t'.take (jj + 1)) 0 = cnt (t'.take jj) 0 + if p.1 = 0 then 1 else 0) := by rw [take_snoc hp]; exact ⟨lives_snoc _ _, cnt_snoc _ _ _⟩
                obtain ⟨p1, p2⟩ := p
                simp only at d0 d1 hpl HT
                obtain ⟨lv, hlv⟩ : ∃ t, t = lives (t'.take jj) := ⟨_, rfl⟩
                obtain ⟨cv, hcv⟩ : ∃ t, t = cnt (t'.take jj) 0 := ⟨_, rfl⟩
                rw [← hlv] at hlb HT ⊢
                rw [← hcv] at hcb HT ⊢
                clear hp hlv hcv
                by_cases e : p1 = 0
                · subst e
                  have HT2 : Hid (lives (t'.take (jj + 1)) = lv + p2 ∧ cnt (t'.take (jj + 1)) 0 = cv + 1) := ⟨HT.out.1, by rw [HT.out.2, if_pos rfl]⟩
                  replace d1 : wr.cell? ⟨g2, jj, none⟩ = some (.bool false) := d1
                  clear HT
                  go_wp2
                  go_roundw
                  case rel => exact ⟨jj + 1, by omega, by go_num, by rw [HT2.out.2]; go_num, by rw [HT2.out.1], HW9⟩
                  case measure => simp [intOf]; omega
                · have HT2 : Hid (lives (t'.take (jj + 1)) = lv + p2 ∧ cnt (t'.take (jj + 1)) 0 = cv) := ⟨HT.out.1, by rw [HT.out.2, if_neg e]; rfl⟩
                  replace d1 : wr.cell? ⟨g2, jj, none⟩ = some (.bool true) := by rw [d1, decide_eq_false e]; rfl
                  clear HT e
                  go_wp2
                  go_roundw
                  case rel => exact ⟨jj + 1, by omega, by go_num, by rw [HT2.out.2], by rw [HT2.out.1], HW9⟩
                  case measure => simp [intOf]; omega
              · obtain rfl : jj = N := by omega
                have HT : Hid (lives (t'.take jj) = lf ∧ cnt (t'.take jj) 0 = cf) := by rw [HCF.out.1, HCF.out.2, List.take_of_length_le (by rw [HI9.out.2.2.2.2.1]; omega)]; exact ⟨rfl, rfl⟩
                rw [HT.out.1, HT.out.2]
                clear hlb hcb HT HCF
                go_wp2_with (go_at_call 19; refine (num_any _ _).mono ?_; rintro e wn ⟨rfl, rfl⟩)
                go_roundw
                case rel => exact ⟨j + 1, t', by omega, by omega, by go_num, by rw [HW9.out]; exact HI9⟩
                case measure => simp [intOf]; omega
          have hne := HEE.out.2 (fun h => h1 h.2)
          have hneb : (ke == 0) = false := by simpa using hne
          have hneg : ¬ 0 < x := h1
          replace d1 : w6.cell? ⟨g2, k, none⟩ = some (.bool true) := by rw [d1, decide_eq_false h0]; rfl
          refine AnyBut.begin (fun V => V.cell? ⟨g2, k, none⟩ = some (.bool true) ∧ V.cell? ⟨g1, k, none⟩ = some (.int .i64 x)) 1000 (by kernel_rfl) ?_
          have hSS : w6.drew.cell? ⟨g2, k, none⟩ = some (.bool true) ∧ w6.drew.cell? ⟨g1, k, none⟩ = some (.int .i64 x) := ⟨d1, d0⟩
          refine tx 0 146 hSS ?_
          simp only [ua, ub, uc, ud]
          refine tx 3 149 hSS ?_
          simp only [ua, ub, uc, ud]
          refine tx 4 150 hSS ?_
          simp only [ua, ub, uc, ud]
          refine tx 5 151 hSS ?_
          simp only [ua, ub, uc, ud]
          refine tx 6 152 hSS ?_
          simp only [ua, ub, uc, ud]
          refine AnyBut.step (i := 1) (by kernel_rfl) rfl (fun K hK => ?_)
          go_simp
          refine Calls.mono (num_any _ _) ?_
          rintro e wn ⟨rfl, rfl⟩
          dsimp only
          refine hK.out _ _ hSS ?_
          clear hK
          refine tx 2 148 hSS ?_
          simp only [ua, ub, uc, ud]
          refine tx 7 153 hSS ?_
          simp only [ua, ub, uc, ud]
          refine tx 8 154 hSS ?_
          simp only [ua, ub, uc, ud]
          refine tx 9 155 hSS ?_
          simp only [ua, ub, uc, ud]
          refine tx 10 156 hSS ?_
          simp only [ua, ub, uc, ud]
          refine tx 11 157 hSS ?_
          simp only [ua, ub, uc, ud]
          refine tx 12 158 hSS ?_
          simp only [ua, ub, uc, ud]
          refine tx 13 159 hSS ?_
          simp only [ua, ub, uc, ud]
          refine tx 14 160 hSS ?_
          simp only [ua, ub, uc, ud]
          refine AnyBut.done (by kernel_rfl) ?_
          clear hSS
          obtain ⟨W5, hW5⟩ : ∃ W5, W5 = w6.drew := ⟨_, rfl⟩
          obtain ⟨t', rfl⟩ : ∃ t', t' = t := ⟨_, rfl⟩
          obtain ⟨tv', rfl⟩ : ∃ tv', tv' = u5 := ⟨_, rfl⟩
          have HI : Hid (Inv w (j + 1) N g1 g2 tv' t' W5) := by rw [hW5]; exact (HI6.out.below (Below.refl _ _).drew).more
          rw [← hW5]
          clear hW5 d0 d1 e0 e1 ix1 ix2 HEE H6 HIO HI6
          go_wp2_with (go_at_call 19; refine (num_any _ _).mono ?_; rintro e wn ⟨rfl, rfl⟩)
          have HC := room_any _ tv' t' W5 HI.out.1.arg
          rw [show rF t' = cnt t' 0 from if_pos (cerr_ok HI.out.2.2.2.2.2.1), show rL t' = lives t' from if_pos (cerr_ok HI.out.2.2.2.2.2.1), cerr_ok HI.out.2.2.2.2.2.1] at HC
          obtain ⟨cf, hcf⟩ : ∃ c, c = cnt t' 0 := ⟨_, rfl⟩
          obtain ⟨lf, hlf⟩ : ∃ c, c = lives t' := ⟨_, rfl⟩
          have HCF : Hid (cf = cnt t' 0 ∧ lf = lives t') := ⟨hcf, hlf⟩
          rw [← hcf, ← hlf] at HC
          clear hcf hlf
          refine HC.mono ?_
          rintro e w9 ⟨rfl, hb9⟩
          have HI9 : Hid (Inv w (j + 1) N g1 g2 tv' t' w9) := HI.out.below hb9
          clear hb9 HC HI
          go_wp2
          go_loopw [24, 25, 26] (fun a b i wr => ∃ jj : Nat, jj ≤ N ∧ i = .int .i64 jj ∧ a = .int .i64 (cnt (t'.take jj) 0) ∧ b = .int .i64 (lives (t'.take jj)) ∧ Hid (wr = w9)) (fun _ _ i _ => N - (intOf i).toNat)
          case atStart => exact ⟨0, Nat.zero_le _, rfl, rfl, rfl, rfl⟩
          case round =>
            obtain ⟨jj, hjj, rfl, rfl, rfl, HW9⟩ := hrel
            have hlb : 0 ≤ lives (t'.take jj) ∧ lives (t'.take jj) ≤ 512 := by
              have h1 := lives_le (l := t'.take jj) fun p hp => HI9.out.2.2.2.2.2.1.live (List.mem_of_mem_take hp)
              rw [List.length_take] at h1
              omega
            have hcb : cnt (t'.take jj) 0 ≤ 64 := by
              have h1 := cnt_le (t'.take jj) 0
              rw [List.length_take] at h1
              omega
            by_cases hjl : jj < N
            · obtain ⟨p, hp⟩ := get_lt (l := t') (k := jj) (by rw [HI9.out.2.2.2.2.1]; exact hjl)
              obtain ⟨d0, d1, -, -⟩ := HI9.out.at hp
              rw [← HW9.out] at d0 d1
              have ix1 := ix_lv g1 N jj hjl
              have ix2 := ix_us g2 N jj hjl
              have hji2 : (jj : Int) < (N : Int) := by omega
              have hpl := HI9.out.2.2.2.2.2.1.live (List.mem_of_getElem? hp)
              have HT : Hid (lives (t'.take (jj + 1)) = lives (t'.take jj) + p.2 ∧ cnt (t'.take (jj + 1)) 0 = cnt (t'.take jj) 0 + if p.1 = 0 then 1 else 0) := by rw [take_snoc hp]; exact ⟨lives_snoc _ _, cnt_snoc _ _ _⟩
              obtain ⟨p1, p2⟩ := p
              simp only at d0 d1 hpl HT
              obtain ⟨lv, hlv⟩ : ∃ t, t = lives (t'.take jj) := ⟨_, rfl⟩
              obtain ⟨cv, hcv⟩ : ∃ t, t = cnt (t'.take jj) 0 := ⟨_, rfl⟩
              rw [← hlv] at hlb HT ⊢
              rw [← hcv] at hcb HT ⊢
              clear hp hlv hcv
              by_cases e : p1 = 0
              · subst e
                have HT2 : Hid (lives (t'.take (jj + 1)) = lv + p2 ∧ cnt (t'.take (jj + 1)) 0 = cv + 1) := ⟨HT.out.1, by rw [HT.out.2, if_pos rfl]⟩
                replace d1 : wr.cell? ⟨g2, jj, none⟩ = some (.bool false) := d1
                clear HT
                go_wp2
                go_roundw
                case rel => exact ⟨jj + 1, by omega, by go_num, by rw [HT2.out.2]; go_num, by rw [HT2.out.1], HW9⟩
                case measure => simp [intOf]; omega
              · have HT2 : Hid (lives (t'.take (jj + 1)) = lv + p2 ∧ cnt (t'.take (jj + 1)) 0 = cv) := ⟨HT.out.1, by rw [HT.out.2, if_neg e]; rfl⟩
                replace d1 : wr.cell? ⟨g2, jj, none⟩ = some (.bool true) := by rw [d1, decide_eq_false e]; rfl
                clear HT e
                go_wp2
                go_roundw
                case rel => exact ⟨jj + 1, by omega, by go_num, by rw [HT2.out.2], by rw [HT2.out.1], HW9⟩
                case measure => simp [intOf]; omega
            · obtain rfl : jj = N := by omega
              have HT : Hid (lives (t'.take jj) = lf ∧ cnt (t'.take jj) 0 = cf) := by rw [HCF.out.1, HCF.out.2, List.take_of_length_le (by rw [HI9.out.2.2.2.2.1]; omega)]; exact ⟨rfl, rfl⟩
              rw [HT.out.1, HT.out.2]
              clear hlb hcb HT HCF
              go_wp2_with (go_at_call 19; refine (num_any _ _).mono ?_; rintro e wn ⟨rfl, rfl⟩)
              go_roundw
              case rel => exact ⟨j + 1, t', by omega, by omega, by go_num, by rw [HW9.out]; exact HI9⟩
              case measure => simp [intOf]; omega
    · as_aux_lemma =>
          have HC := free_any _ u5 t k wo HIO.out.1.arg
          obtain ⟨p, hp⟩ := get_lt (l := t) (k := k) (by rw [HIO.out.2.2.2.2.1]; exact hk1)
          obtain ⟨q, x⟩ := p
          have HEE : Hid ((q ≠ 0 ∧ x = 0 → fE t k = 0 ∧ fV t k = t.set k (0, 0) ∧ Chk (t.set k (0, 0))) ∧ (¬ (q ≠ 0 ∧ x = 0) → fE t k ≠ 0)) := free_E HIO.out.2.2.2.2.2.1 hp
          have HP : Hid (t[k]? = some (q, x) ∧ 0 ≤ x ∧ x ≤ 8) := ⟨hp, HIO.out.2.2.2.2.2.1.live (List.mem_of_getElem? hp)⟩
          have ix1 := ix_lv g1 N k hk1
          have ix2 := ix_us g2 N k hk1
          have hki : (k : Int) < (N : Int) := by omega
          obtain ⟨ke, hke'⟩ : ∃ y, y = fE t k := ⟨_, rfl⟩
          obtain ⟨kv, hkv⟩ : ∃ y, y = fV t k := ⟨_, rfl⟩
          rw [← hke', ← hkv] at HC HEE
          clear hp hke' hkv
          go_wp2_with fail
          clear hk3 hr hke c0 c1 c2 hix
          refine HC.mono ?_
          rintro e w6 ⟨⟨v6, rfl, hO6⟩, hb6⟩
          have H6 : Hid (OwnE 57 wo.heap.size w6 v6 kv ∧ Below wo.heap.size wo w6) := ⟨hO6, hb6⟩
          have HI6 : Hid (Inv w j N g1 g2 u5 t w6) := HIO.out.below hb6
          obtain ⟨d0, d1, e0, e1⟩ := HI6.out.at HP.out.1
          simp only at d0 d1
          clear hO6 hb6 HC
          go_wp2
          by_cases h0 : q = 0
          · have hne := HEE.out.2 (fun h => h.1 h0)
            have hneb : (ke == 0) = false := by simpa using hne
            replace d1 : w6.cell? ⟨g2, k, none⟩ = some (.bool false) := by rw [d1, decide_eq_true h0]; rfl
            refine AnyBut.begin (fun V => V.cell? ⟨g2, k, none⟩ = some (.bool false) ∧ V.cell? ⟨g1, k, none⟩ = some (.int .i64 x)) 1000 (by kernel_rfl) ?_
            have hSS : w6.drew.cell? ⟨g2, k, none⟩ = some (.bool false) ∧ w6.drew.cell? ⟨g1, k, none⟩ = some (.int .i64 x) := ⟨d1, d0⟩
            refine tx 0 179 hSS ?_
            simp only [ua, ub, uc, ud]
            refine tx 3 182 hSS ?_
            simp only [ua, ub, uc, ud]
            refine tx 4 183 hSS ?_
            simp only [ua, ub, uc, ud]
            refine tx 5 184 hSS ?_
            simp only [ua, ub, uc, ud]
            refine tx 6 185 hSS ?_
            simp only [ua, ub, uc, ud]
            refine AnyBut.step (i := 1) (by kernel_rfl) rfl (fun K hK => ?_)
            go_simp
            refine Calls.mono (num_any _ _) ?_
            rintro e wn ⟨rfl, rfl⟩
            dsimp only
            refine hK.out _ _ hSS ?_
            clear hK
            refine tx 2 181 hSS ?_
            simp only [ua, ub, uc, ud]
            refine tx 7 186 hSS ?_
            simp only [ua, ub, uc, ud]
            refine tus 5 [(8, 187), (9, 188), (10, 189), (11, 190), (12, 191)] hSS ?_
            simp only [skL, skA, ua, ub, uc, ud]
            refine tx 13 192 hSS ?_
            simp only [ua, ub, uc, ud]
            refine tx 14 193 hSS ?_
            simp only [ua, ub, uc, ud]
            refine AnyBut.done (by kernel_rfl) ?_
            clear hSS
            obtain ⟨W5, hW5⟩ : ∃ W5, W5 = w6.drew := ⟨_, rfl⟩
            obtain ⟨t', rfl⟩ : ∃ t', t' = t := ⟨_, rfl⟩
            obtain ⟨tv', rfl⟩ : ∃ tv', tv' = u5 := ⟨_, rfl⟩
            have HI : Hid (Inv w (j + 1) N g1 g2 tv' t' W5) := by rw [hW5]; exact (HI6.out.below (Below.refl _ _).drew).more
            rw [← hW5]
            clear hW5 d0 d1 e0 e1 ix1 ix2 HEE H6 HIO HI6
            go_wp2_with (go_at_call 19; refine (num_any _ _).mono ?_; rintro e wn ⟨rfl, rfl⟩)
            have HC := room_any _ tv' t' W5 HI.out.1.arg
            rw [show rF t' = cnt t' 0 from if_pos (cerr_ok HI.out.2.2.2.2.2.1), show rL t' = lives t' from if_pos (cerr_ok HI.out.2.2.2.2.2.1), cerr_ok HI.out.2.2.2.2.2.1] at HC
            obtain ⟨cf, hcf⟩ : ∃ c, c = cnt t' 0 := ⟨_, rfl⟩
            obtain ⟨lf, hlf⟩ : ∃ c, c = lives t' := ⟨_, rfl⟩
            have HCF : Hid (cf = cnt t' 0 ∧ lf = lives t') := ⟨hcf, hlf⟩
            rw [← hcf, ← hlf] at HC
            clear hcf hlf
            refine HC.mono ?_
            rintro e w9 ⟨rfl, hb9⟩
            have HI9 : Hid (Inv w (j + 1) N g1 g2 tv' t' w9) := HI.out.below hb9
            clear hb9 HC HI
            go_wp2
            go_loopw [24, 25, 26] (fun a b i wr => ∃ jj : Nat, jj ≤ N ∧ i = .int .i64 jj ∧ a = .int .i64 (cnt (t'.take jj) 0) ∧ b = .int .i64 (lives (t'.take jj)) ∧ Hid (wr = w9)) (fun _ _ i _ => N - (intOf i).toNat)
            case atStart => exact ⟨0, Nat.zero_le _, rfl, rfl, rfl, rfl⟩
            case round =>
              obtain ⟨jj, hjj, rfl, rfl, rfl, HW9⟩ := hrel
              have hlb : 0 ≤ lives (t'.take jj) ∧ lives (t'.take jj) ≤ 512 := by
                have h1 := lives_le (l := t'.take jj) fun p hp => HI9.out.2.2.2.2.2.1.live (List.mem_of_mem_take hp)
                rw [List.length_take] at h1
                omega
              have hcb : cnt (t'.take jj) 0 ≤ 64 := by
                have h1 := cnt_le (t'.take jj) 0
                rw [List.length_take] at h1
                omega
              by_cases hjl : jj < N
              · obtain ⟨p, hp⟩ := get_lt (l := t') (k := jj) (by rw [HI9.out.2.2.2.2.1]; exact hjl)
                obtain ⟨d0, d1, -, -⟩ := HI9.out.at hp
                rw [← HW9.out] at d0 d1
                have ix1 := ix_lv g1 N jj hjl
                have ix2 := ix_us g2 N jj hjl
                have hji2 : (jj : Int) < (N : Int) := by omega
                have hpl := HI9.out.2.2.2.2.2.1.live (List.mem_of_getElem? hp)
                have HT : Hid (lives (t'.take (jj + 1)) = lives (t'.take jj) + p.2 ∧ cnt (t'.take (jj + 1)) 0 = cnt (t'.take jj) 0 + if p.1 = 0 then 1 else 0) := by rw [take_snoc hp]; exact ⟨lives_snoc _ _, cnt_snoc _ _ _⟩
                obtain ⟨p1, p2⟩ := p
                simp only at d0 d1 hpl HT
                obtain ⟨lv, hlv⟩ : ∃ t, t = lives (t'.take jj) := ⟨_, rfl⟩
                obtain ⟨cv, hcv⟩ : ∃ t, t = cnt (t'.take jj) 0 := ⟨_, rfl⟩
                rw [← hlv] at hlb HT ⊢
                rw [← hcv] at hcb HT ⊢
                clear hp hlv hcv
                by_cases e : p1 = 0
                · subst e
                  have HT2 : Hid (lives (t'.take (jj + 1)) = lv + p2 ∧ cnt (t'.take (jj + 1)) 0 = cv + 1) := ⟨HT.out.1, by rw [HT.out.2, if_pos rfl]⟩
                  replace d1 : wr.cell? ⟨g2, jj, none⟩ = some (.bool false) := d1
                  clear HT
                  go_wp2
                  go_roundw
                  case rel => exact ⟨jj + 1, by omega, by go_num, by rw [HT2.out.2]; go_num, by rw [HT2.out.1], HW9⟩
                  case measure => simp [intOf]; omega
                · have HT2 : Hid (lives (t'.take (jj + 1)) = lv + p2 ∧ cnt (t'.take (jj + 1)) 0 = cv) := ⟨HT.out.1, by rw [HT.out.2, if_neg e]; rfl⟩
                  replace d1 : wr.cell? ⟨g2, jj, none⟩ = some (.bool true) := by rw [d1, decide_eq_false e]; rfl
                  clear HT e
                  go_wp2
                  go_roundw
                  case rel => exact ⟨jj + 1, by omega, by go_num, by rw [HT2.out.2], by rw [HT2.out.1], HW9⟩
                  case measure => simp [intOf]; omega
              · obtain rfl : jj = N := by omega
                have HT : Hid (lives (t'.take jj) = lf ∧ cnt (t'.take jj) 0 = cf) := by rw [HCF.out.1, HCF.out.2, List.take_of_length_le (by rw [HI9.out.2.2.2.2.1]; omega)]; exact ⟨rfl, rfl⟩
                rw [HT.out.1, HT.out.2]
                clear hlb hcb HT HCF
                go_wp2_with (go_at_call 19; refine (num_any _ _).mono ?_; rintro e wn ⟨rfl, rfl⟩)
                go_roundw
                case rel => exact ⟨j + 1, t', by omega, by omega, by go_num, by rw [HW9.out]; exact HI9⟩
                case measure => simp [intOf]; omega
          by_cases h1 : x = 0
          · obtain ⟨z1, z2, z3⟩ := HEE.out.1 ⟨h0, h1⟩
            subst h1
            subst z1
            replace d1 : w6.cell? ⟨g2, k, none⟩ = some (.bool true) := by rw [d1, decide_eq_false h0]; rfl
            refine AnyBut.begin (fun V => V.cell? ⟨g2, k, none⟩ = some (.bool true) ∧ V.cell? ⟨g1, k, none⟩ = some (.int .i64 0)) 1000 (by kernel_rfl) ?_
            have hSS : w6.drew.cell? ⟨g2, k, none⟩ = some (.bool true) ∧ w6.drew.cell? ⟨g1, k, none⟩ = some (.int .i64 0) := ⟨d1, d0⟩
            refine tx 0 179 hSS ?_
            simp only [ua, ub, uc, ud]
            refine tx 3 182 hSS ?_
            simp only [ua, ub, uc, ud]
            refine tx 4 183 hSS ?_
            simp only [ua, ub, uc, ud]
            refine tx 5 184 hSS ?_
            simp only [ua, ub, uc, ud]
            refine tx 6 185 hSS ?_
            simp only [ua, ub, uc, ud]
            refine AnyBut.step (i := 1) (by kernel_rfl) rfl (fun K hK => ?_)
            go_simp
            refine Calls.mono (num_any _ _) ?_
            rintro e wn ⟨rfl, rfl⟩
            dsimp only
            refine hK.out _ _ hSS ?_
            clear hK
            refine tx 2 181 hSS ?_
            simp only [ua, ub, uc, ud]
            refine tx 7 186 hSS ?_
            simp only [ua, ub, uc, ud]
            refine tx 8 187 hSS ?_
            simp only [ua, ub, uc, ud]
            refine tx 9 188 hSS ?_
            simp only [ua, ub, uc, ud]
            refine tx 10 189 hSS ?_
            simp only [ua, ub, uc, ud]
            refine tx 11 190 hSS ?_
            simp only [ua, ub, uc, ud]
            refine tx 12 191 hSS ?_
            simp only [ua, ub, uc, ud]
            refine tx 13 192 hSS ?_
            simp only [ua, ub, uc, ud]
            refine tx 14 193 hSS ?_
            simp only [ua, ub, uc, ud]
            refine AnyBut.done (by kernel_rfl) ?_
            clear hSS
            have HI6d : Hid (Inv w j N g1 g2 u5 t w6.drew) := HI6.out.below (Below.refl _ _).drew
            obtain ⟨W4, hW4⟩ : ∃ W4, W4 = w6.drew := ⟨_, rfl⟩
            have h6 := H6.out
            rw [z2] at h6
            have hb4 : Below wo.heap.size wo W4 := by rw [hW4]; exact h6.2.drew
            have hO4 : OwnE 57 wo.heap.size W4 v6 (t.set k (0, 0)) := by rw [hW4]; exact h6.1.below (Below.refl _ _).drew
            obtain ⟨t', ht'⟩ : ∃ t', t' = t.set k (0, 0) := ⟨_, rfl⟩
            obtain ⟨W5, hW5⟩ : ∃ W5, W5 = W4.setCell ⟨g2, k, none⟩ (.bool false) := ⟨_, rfl⟩
            have HI : Hid (Inv w (j + 1) N g1 g2 v6 t' W5) := by rw [ht', hW5]; exact (HIO.out.free hb4 HP.out.1 hO4 z3).more
            replace d0 : W4.cell? ⟨g1, k, none⟩ = some (.int .i64 0) := by rw [hW4]; exact d0
            replace d1 : W4.cell? ⟨g2, k, none⟩ = some (.bool true) := by rw [hW4]; exact d1
            replace e0 : W4.frozen? ⟨g1, k, none⟩ = false := by rw [hW4]; exact e0
            replace e1 : W4.frozen? ⟨g2, k, none⟩ = false := by rw [hW4]; exact e1
            rw [← hW4]
            clear hW4 z2 z3 h6 hb4 hO4 ht' HIO HI6 HI6d H6 HEE HP
            obtain ⟨tv', rfl⟩ : ∃ tv', tv' = v6 := ⟨_, rfl⟩
            go_wp2_with (go_at_call 19; refine (num_any _ _).mono ?_; rintro e wn ⟨rfl, rfl⟩)
            rw [← hW5]
            clear hW5 d0 d1 e0 e1 ix1 ix2
            have HC := room_any _ tv' t' W5 HI.out.1.arg
            rw [show rF t' = cnt t' 0 from if_pos (cerr_ok HI.out.2.2.2.2.2.1), show rL t' = lives t' from if_pos (cerr_ok HI.out.2.2.2.2.2.1), cerr_ok HI.out.2.2.2.2.2.1] at HC
            obtain ⟨cf, hcf⟩ : ∃ c, c = cnt t' 0 := ⟨_, rfl⟩
            obtain ⟨lf, hlf⟩ : ∃ c, c = lives t' := ⟨_, rfl⟩
            have HCF : Hid (cf = cnt t' 0 ∧ lf = lives t') := ⟨hcf, hlf⟩
            rw [← hcf, ← hlf] at HC
            clear hcf hlf
            refine HC.mono ?_
            rintro e w9 ⟨rfl, hb9⟩
            have HI9 : Hid (Inv w (j + 1) N g1 g2 tv' t' w9) := HI.out.below hb9
            clear hb9 HC HI
            go_wp2
            go_loopw [24, 25, 26] (fun a b i wr => ∃ jj : Nat, jj ≤ N ∧ i = .int .i64 jj ∧ a = .int .i64 (cnt (t'.take jj) 0) ∧ b = .int .i64 (lives (t'.take jj)) ∧ Hid (wr = w9)) (fun _ _ i _ => N - (intOf i).toNat)
            case atStart => exact ⟨0, Nat.zero_le _, rfl, rfl, rfl, rfl⟩
            case round =>
              obtain ⟨jj, hjj, rfl, rfl, rfl, HW9⟩ := hrel
              have hlb : 0 ≤ lives (t'.take jj) ∧ lives (t'.take jj) ≤ 512 := by
                have h1 := lives_le (l := t'.take jj) fun p hp => HI9.out.2.2.2.2.2.1.live (List.mem_of_mem_take hp)
                rw [List.length_take] at h1
                omega
              have hcb : cnt (t'.take jj) 0 ≤ 64 := by
                have h1 := cnt_le (t'.take jj) 0
                rw [List.length_take] at h1
                omega
              by_cases hjl : jj < N
              · obtain ⟨p, hp⟩ := get_lt (l := t') (k := jj) (by rw [HI9.out.2.2.2.2.1]; exact hjl)
                obtain ⟨d0, d1, -, -⟩ := HI9.out.at hp
                rw [← HW9.out] at d0 d1
                have ix1 := ix_lv g1 N jj hjl
                have ix2 := ix_us g2 N jj hjl
                have hji2 : (jj : Int) < (N : Int) := by omega
                have hpl := HI9.out.2.2.2.2.2.1.live (List.mem_of_getElem? hp)
                have HT : Hid (lives (t'.take (jj + 1)) = lives (t'.take jj) + p.2 ∧ cnt (t'.take (jj + 1)) 0 = cnt (t'.take jj) 0 + if p.1 = 0 then 1 else 0) := by rw [take_snoc hp]; exact ⟨lives_snoc _ _, cnt_snoc _ _ _⟩
                obtain ⟨p1, p2⟩ := p
                simp only at d0 d1 hpl HT
                obtain ⟨lv, hlv⟩ : ∃ t, t = lives (t'.take jj) := ⟨_, rfl⟩
                obtain ⟨cv, hcv⟩ : ∃ t, t = cnt (t'.take jj) 0 := ⟨_, rfl⟩
                rw [← hlv] at hlb HT ⊢
                rw [← hcv] at hcb HT ⊢
                clear hp hlv hcv
                by_cases e : p1 = 0
                · subst e
                  have HT2 : Hid (lives (t'.take (jj + 1)) = lv + p2 ∧ cnt (t'.take (jj + 1)) 0 = cv + 1) := ⟨HT.out.1, by rw [HT.out.2, if_pos rfl]⟩
                  replace d1 : wr.cell? ⟨g2, jj, none⟩ = some (.bool false) := d1
                  clear HT
                  go_wp2
                  go_roundw
                  case rel => exact ⟨jj + 1, by omega, by go_num, by rw [HT2.out.2]; go_num, by rw [HT2.out.1], HW9⟩
                  case measure => simp [intOf]; omega
                · have HT2 : Hid (lives (t'.take (jj + 1)) = lv + p2 ∧ cnt (t'.take (jj + 1)) 0 = cv) := ⟨HT.out.1, by rw [HT.out.2, if_neg e]; rfl⟩
                  replace d1 : wr.cell? ⟨g2, jj, none⟩ = some (.bool true) := by rw [d1, decide_eq_false e]; rfl
                  clear HT e
                  go_wp2
                  go_roundw
                  case rel => exact ⟨jj + 1, by omega, by go_num, by rw [HT2.out.2], by rw [HT2.out.1], HW9⟩
                  case measure => simp [intOf]; omega
              · obtain rfl : jj = N := by omega
                have HT : Hid (lives (t'.take jj) = lf ∧ cnt (t'.take jj) 0 = cf) := by rw [HCF.out.1, HCF.out.2, List.take_of_length_le (by rw [HI9.out.2.2.2.2.1]; omega)]; exact ⟨rfl, rfl⟩
                rw [HT.out.1, HT.out.2]
                clear hlb hcb HT HCF
                go_wp2_with (go_at_call 19; refine (num_any _ _).mono ?_; rintro e wn ⟨rfl, rfl⟩)
                go_roundw
                case rel => exact ⟨j + 1, t', by omega, by omega, by go_num, by rw [HW9.out]; exact HI9⟩
                case measure => simp [intOf]; omega
          have hne := HEE.out.2 (fun h => h1 h.2)
          have hneb : (ke == 0) = false := by simpa using hne
          have hneg : (x == 0) = false := by simpa using h1
          replace d1 : w6.cell? ⟨g2, k, none⟩ = some (.bool true) := by rw [d1, decide_eq_false h0]; rfl
          refine AnyBut.begin (fun V => V.cell? ⟨g2, k, none⟩ = some (.bool true) ∧ V.cell? ⟨g1, k, none⟩ = some (.int .i64 x)) 1000 (by kernel_rfl) ?_
          have hSS : w6.drew.cell? ⟨g2, k, none⟩ = some (.bool true) ∧ w6.drew.cell? ⟨g1, k, none⟩ = some (.int .i64 x) := ⟨d1, d0⟩
          refine tx 0 179 hSS ?_
          simp only [ua, ub, uc, ud]
          refine tx 3 182 hSS ?_
          simp only [ua, ub, uc, ud]
          refine tx 4 183 hSS ?_
          simp only [ua, ub, uc, ud]
          refine tx 5 184 hSS ?_
          simp only [ua, ub, uc, ud]
          refine tx 6 185 hSS ?_
          simp only [ua, ub, uc, ud]
          refine AnyBut.step (i := 1) (by kernel_rfl) rfl (fun K hK => ?_)
          go_simp
          refine Calls.mono (num_any _ _) ?_
          rintro e wn ⟨rfl, rfl⟩
          dsimp only
          refine hK.out _ _ hSS ?_
          clear hK
          refine tx 2 181 hSS ?_
          simp only [ua, ub, uc, ud]
          refine tx 7 186 hSS ?_
          simp only [ua, ub, uc, ud]
          refine tx 8 187 hSS ?_
          simp only [ua, ub, uc, ud]
          refine tx 9 188 hSS ?_
          simp only [ua, ub, uc, ud]
          refine tx 10 189 hSS ?_
          simp only [ua, ub, uc, ud]
          refine tx 11 190 hSS ?_
          simp only [ua, ub, uc, ud]
          refine tx 12 191 hSS ?_
          simp only [ua, ub, uc, ud]
          refine tx 13 192 hSS ?_
          simp only [ua, ub, uc, ud]
          refine tx 14 193 hSS ?_
          simp only [ua, ub, uc, ud]
          refine AnyBut.done (by kernel_rfl) ?_
          clear hSS
          obtain ⟨W5, hW5⟩ : ∃ W5, W5 = w6.drew := ⟨_, rfl⟩
          obtain ⟨t', rfl⟩ : ∃ t', t' = t := ⟨_, rfl⟩
          obtain ⟨tv', rfl⟩ : ∃ tv', tv' = u5 := ⟨_, rfl⟩
          have HI : Hid (Inv w (j + 1) N g1 g2 tv' t' W5) := by rw [hW5]; exact (HI6.out.below (Below.refl _ _).drew).more
          rw [← hW5]
          clear hW5 d0 d1 e0 e1 ix1 ix2 HEE H6 HIO HI6
          go_wp2_with (go_at_call 19; refine (num_any _ _).mono ?_; rintro e wn ⟨rfl, rfl⟩)
          have HC := room_any _ tv' t' W5 HI.out.1.arg
          rw [show rF t' = cnt t' 0 from if_pos (cerr_ok HI.out.2.2.2.2.2.1), show rL t' = lives t' from if_pos (cerr_ok HI.out.2.2.2.2.2.1), cerr_ok HI.out.2.2.2.2.2.1] at HC
          obtain ⟨cf, hcf⟩ : ∃ c, c = cnt t' 0 := ⟨_, rfl⟩
          obtain ⟨lf, hlf⟩ : ∃ c, c = lives t' := ⟨_, rfl⟩
          have HCF : Hid (cf = cnt t' 0 ∧ lf = lives t') := ⟨hcf, hlf⟩
          rw [← hcf, ← hlf] at HC
          clear hcf hlf
          refine HC.mono ?_
          rintro e w9 ⟨rfl, hb9⟩
          have HI9 : Hid (Inv w (j + 1) N g1 g2 tv' t' w9) := HI.out.below hb9
          clear hb9 HC HI
          go_wp2
          go_loopw [24, 25, 26] (fun a b i wr => ∃ jj : Nat, jj ≤ N ∧ i = .int .i64 jj ∧ a = .int .i64 (cnt (t'.take jj) 0) ∧ b = .int .i64 (lives (t'.take jj)) ∧ Hid (wr = w9)) (fun _ _ i _ => N - (intOf i).toNat)
          case atStart => exact ⟨0, Nat.zero_le _, rfl, rfl, rfl, rfl⟩
          case round =>
            obtain ⟨jj, hjj, rfl, rfl, rfl, HW9⟩ := hrel
            have hlb : 0 ≤ lives (t'.take jj) ∧ lives (t'.take jj) ≤ 512 := by
              have h1 := lives_le (l := t'.take jj) fun p hp => HI9.out.2.2.2.2.2.1.live (List.mem_of_mem_take hp)
              rw [List.length_take] at h1
              omega
            have hcb : cnt (t'.take jj) 0 ≤ 64 := by
              have h1 := cnt_le (t'.take jj) 0
              rw [List.length_take] at h1
              omega
            by_cases hjl : jj < N
            · obtain ⟨p, hp⟩ := get_lt (l := t') (k := jj) (by rw [HI9.out.2.2.2.2.1]; exact hjl)
              obtain ⟨d0, d1, -, -⟩ := HI9.out.at hp
              rw [← HW9.out] at d0 d1
              have ix1 := ix_lv g1 N jj hjl
              have ix2 := ix_us g2 N jj hjl
              have hji2 : (jj : Int) < (N : Int) := by omega
              have hpl := HI9.out.2.2.2.2.2.1.live (List.mem_of_getElem? hp)
              have HT : Hid (lives (t'.take (jj + 1)) = lives (t'.take jj) + p.2 ∧ cnt (t'.take (jj + 1)) 0 = cnt (t'.take jj) 0 + if p.1 = 0 then 1 else 0) := by rw [take_snoc hp]; exact ⟨lives_snoc _ _, cnt_snoc _ _ _⟩
              obtain ⟨p1, p2⟩ := p
              simp only at d0 d1 hpl HT
              obtain ⟨lv, hlv⟩ : ∃ t, t = lives (t'.take jj) := ⟨_, rfl⟩
              obtain ⟨cv, hcv⟩ : ∃ t, t = cnt (t'.take jj) 0 := ⟨_, rfl⟩
              rw [← hlv] at hlb HT ⊢
              rw [← hcv] at hcb HT ⊢
              clear hp hlv hcv
              by_cases e : p1 = 0
              · subst e
                have HT2 : Hid (lives (t'.take (jj + 1)) = lv + p2 ∧ cnt (t'.take (jj + 1)) 0 = cv + 1) := ⟨HT.out.1, by rw [HT.out.2, if_pos rfl]⟩
                replace d1 : wr.cell? ⟨g2, jj, none⟩ = some (.bool false) := d1
                clear HT
                go_wp2
                go_roundw
                case rel => exact ⟨jj + 1, by omega, by go_num, by rw [HT2.out.2]; go_num, by rw [HT2.out.1], HW9⟩
                case measure => simp [intOf]; omega
              · have HT2 : Hid (lives (t'.take (jj + 1)) = lv + p2 ∧ cnt (t'.take (jj + 1)) 0 = cv) := ⟨HT.out.1, by rw [HT.out.2, if_neg e]; rfl⟩
                replace d1 : wr.cell? ⟨g2, jj, none⟩ = some (.bool true) := by rw [d1, decide_eq_false e]; rfl
                clear HT e
                go_wp2
                go_roundw
                case rel => exact ⟨jj + 1, by omega, by go_num, by rw [HT2.out.2], by rw [HT2.out.1], HW9⟩
                case measure => simp [intOf]; omega
            · obtain rfl : jj = N := by omega
              have HT : Hid (lives (t'.take jj) = lf ∧ cnt (t'.take jj) 0 = cf) := by rw [HCF.out.1, HCF.out.2, List.take_of_length_le (by rw [HI9.out.2.2.2.2.1]; omega)]; exact ⟨rfl, rfl⟩
              rw [HT.out.1, HT.out.2]
              clear hlb hcb HT HCF
              go_wp2_with (go_at_call 19; refine (num_any _ _).mono ?_; rintro e wn ⟨rfl, rfl⟩)
              go_roundw
              case rel => exact ⟨j + 1, t', by omega, by omega, by go_num, by rw [HW9.out]; exact HI9⟩
              case measure => simp [intOf]; omega

set_option maxRecDepth 100000 in
theorem lifted (os : Os) (started : os.Started) (H : Type) (enc : TypeId × Value → H) :
    ReturnsInHanded {} Try.checked os 4 .any (Rows.tableOnceSpec.pre6 enc Try.prog Try.f4 Rows.tableOnceRow.domain false) (Rows.tableOnceSpec.post enc Try.prog Try.f4 false true false false) := by
  refine returnsInHanded_of_change_sized (C := Try.checked) own started (by kernel_rfl) Try.func4
    (ChangeSpec.witness6 (enc := enc) (C := Try.checked) false ⟨#[], #[.int .i64 0, .slice none 0 0], []⟩ 8 (by kernel_rfl) (by kernel_rfl) (by kernel_rfl) (by kernel_rfl)) ?_
  intro W base args ds gs before hval0 hW hcnd hsz0 _
  have hval : ∀ (j : Nat) t v, Try.f4.params[j]? = some t → args[j]? = some v → Value.okWide Try.prog W .any base t v := hval0
  have hW' := hW
  obtain ⟨p, q, hA0, hV, rfl, hfz, hnd⟩ := hW
  have hA : DataW.TrodAll enc Try.prog W 0 (fun _ => true) true Try.f4.params.toList args.toList ds p := hA0
  have hsz : (DataW.weightsEach Try.prog (Try.f4.params.toList ++ Rows.tableOnceSpec.plain.varTypes Try.prog) (ds ++ gs)).all (· ≤ reachBytes) = true := hsz0
  clear hsz0
  rw [Try.params4] at hA hval hsz
  obtain ⟨v0, vs0, d0, ds0, p0, q0, hargs, rfl, rfl, h0, r0⟩ := trodAll_cons hA
  obtain ⟨v1, vs1, d1, ds1, p1, q1, rfl, rfl, rfl, h1, r1⟩ := trodAll_cons r0
  obtain ⟨rfl, rfl, rfl⟩ := trodAll_nil r1
  obtain rfl : args = #[v0, v1] := by cases args; simp_all
  obtain ⟨rfl, rfl⟩ := trodVars_none hV
  obtain ⟨a0, rfl, rfl, rfl, w0⟩ := open_int Try.underlying3 (hval 0 3 v0 rfl rfl) h0
  have b0 := bounds_i64 w0
  obtain ⟨x1, len1, cap1, rfl⟩ := okWide_slice Try.underlying48 (hval 1 48 v1 rfl rfl)
  have k1 := h1
  have lt1 : ∀ x ∈ p1, x.block < W.heap.size := by obtain ⟨m, hm⟩ := k1; exact DataW.trod_lt m _ _ _ hm
  obtain ⟨m1, hm1⟩ := h1
  obtain ⟨s1, A1, F1'⟩ := stepsS.reads hm1
  have F1 := F1' fun n hn => by have := List.all_eq_true.1 hsz _ (DataW.weights_mem_each (j := 1) rfl rfl n hn); simpa using this
  clear hA0 hval0
  refine (walk a0 _ s1 W A1).mono fun e W' ⟨he, bel⟩ => ?_
  subst he
  exact ⟨_, rfl, _, _, _, [], _, [], hW', trodAll_mk1 (shut_bool Try.underlying4 _), (trodAll_cons_mk (shut_int Try.underlying3 w0) (trodAll_cons_mk (Below.trod laidOut (by kernel_rfl) (of_decide_eq_true (by kernel_rfl)) k1 bel lt1) trodAll_mk0)), rfl, bel.frame _, fun h => by cases h⟩

theorem over : Rows.tableOnceRow.holds Try.pinned (OpenSpec.ofChange Rows.tableOnceSpec) :=
  OpenClaim.holds_of_wide 4 Try.f4 rfl rfl rfl rfl rfl rfl rfl ⟨rfl, rfl, rfl, rfl, rfl⟩ rfl rfl rfl rfl rfl (by kernel_rfl) Try.func4 (by kernel_rfl)
    (of_decide_eq_true (by kernel_rfl)) (by unfold Func.isWrapper; first | (rw [if_pos (by decide +kernel)]; kernel_rfl) | (rw [if_neg (by decide +kernel)]; exact ⟨rfl, rfl⟩))
    (fun os started H enc _ => lifted os started H enc)

end Go.Proofs.Ytgfdggilplkmfaa.tableOnce

namespace Go.Proofs.Ytgfdggilplkmfaa
theorem tableOnce_holds : Rows.TableOnceSaid := tableOnce.over
#print axioms tableOnce_holds
end Go.Proofs.Ytgfdggilplkmfaa
