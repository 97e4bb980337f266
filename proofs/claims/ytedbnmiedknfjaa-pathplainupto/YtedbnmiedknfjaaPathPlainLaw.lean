/-
  PathPlain, proved for what is of bulk at most 1048576 (the second form): for every list of texts, every list of numbers and both truths within that bound the law answers true: slashes in a row, and one at the end, say nothing.
-/
import Derived.Test.YtedbnmiedknfjaaPlainMath
import Derived.JoinedCond
namespace Go.Proofs.Ytedbnmiedknfjaa.pathPlain
open Go.ChangeShapes Go.WideShapes Go.ChangeAt Go.RowKit
set_option linter.unusedVariables false

set_option maxRecDepth 100000 in
set_option maxHeartbeats 8000000 in
theorem walk (v : Value) (l : List ByteArray) (u : Value) (xs : List Int) (fin : Bool) (w : World) (h : ArgT 0 w v l) (hz : tot l + l.length ≤ 1048576) (hu : intsS.lies 0 w [u] xs) : Calls Try.prog 7 #[v, u, .bool fin] w fun e w' => e = .returned (.bool true) ∧ Below w.heap.size w w' := by
  have KL : Hid (∀ V, Below w.heap.size w V → ArgT 0 V v l ∧ intsS.lies 0 V [u] xs) := fun V hV => ⟨h.below hV, intsS.keep hu (.of_below hV)⟩
  have HZ : Hid (tot l + l.length ≤ 1048576) := hz
  obtain ⟨i3, hi3, _, hz3, _⟩ := info_parts Try.info3
  have HI3 : Hid (Try.prog.info? 3 = some i3 ∧ i3.size = 1) := ⟨hi3, hz3⟩
  obtain ⟨a, c, hv, _, hm, _⟩ := h.shape
  obtain ⟨b, d, hu2, _, hm2, _⟩ : ∃ b d, u = .slice b xs.length d ∧ xs.length ≤ d ∧ xs.length ≤ maxLen ∧ True := by
    obtain ⟨u', e, hC, _⟩ := hu
    obtain rfl : u = u' := by simpa using e
    obtain ⟨b, d, e1, e2, e3, _⟩ := hC.shape
    exact ⟨b, d, e1, e2, e3, trivial⟩
  unfold maxLen at hm hm2
  obtain ⟨n, hn⟩ : ∃ n, n = l.length := ⟨_, rfl⟩
  obtain ⟨m, hmm⟩ : ∃ m, m = xs.length := ⟨_, rfl⟩
  rw [← hn] at hv hm
  rw [← hmm] at hu2 hm2
  have HN : Hid (n = l.length ∧ m = xs.length) := ⟨hn, hmm⟩
  have hr1 := run_len Try.underlying22 a n c
  have hr2 := run_len Try.underlying48 b m d
  have H1 := alive_any w
  rw [hv, hu2]
  clear h hz hu hi3 hz3 hn hmm
  go_enter Try.func7, Try.ntmps7
  go_wp2_with fail
  refine H1.mono ?_
  rintro e w1 ⟨rfl, hb1⟩
  have HB1 : Hid (Below w.heap.size w w1) := hb1
  clear H1 hb1
  have HV : Hid (v = .slice a n c ∧ u = .slice b m d) := ⟨hv, hu2⟩
  clear hv hu2
  go_wp2
  go_loopw [7, 8, 9, 10] (fun sv i _ _ wr => ∃ (k : Nat) (t : List UInt8), k ≤ n ∧ sv = .string (bk t) ∧ i = .int .i64 k ∧ Built l k t ∧ wr = w1) (fun _ i _ _ _ => n - (intOf i).toNat)
  case atStart => exact ⟨0, [], Nat.zero_le _, rfl, rfl, Built.zero l, rfl⟩
  case round =>
    obtain ⟨k, t, hk, rfl, rfl, hbu, hwr⟩ := hrel
    obtain rfl : w1 = wr := hwr.symm
    have HT : Hid (Built l k t) := hbu
    clear hbu
    by_cases hlt : k < n
    · obtain ⟨x, hx⟩ := get_lt (l := l) (k := k) (by rw [← HN.out.1]; exact hlt)
      obtain ⟨b1, o1, hix, _, hc⟩ := (KL.out w1 HB1.out).1.at k x hx
      rw [HV.out.1] at hix
      have hki : (k : Int) < (n : Int) := by omega
      have HX : Hid (l[k]? = some x) := hx
      clear hx
      by_cases hkm : k < m
      · obtain ⟨y, hy⟩ := get_lt (l := xs) (k := k) (by rw [← HN.out.2]; exact hkm)
        obtain ⟨b2, o2, hix2, _, hc2, _⟩ := Leaf.row_at (L := i64L) (ht := Try.underlying48) (hc := by kernel_rfl) (KL.out w1 HB1.out).2 HI3.out.1 HI3.out.2 k y hy
        rw [HV.out.2] at hix2
        have hc2' : w1.cell? ⟨b2, o2, none⟩ = some (.int .i64 y) := hc2
        have hkmi : (k : Int) < (m : Int) := by omega
        obtain ⟨r, hr3, er⟩ := mod3 y
        have hto : wrap64 (1 + (wrap64 (y.tmod 3 + 3)).tmod 3) = (r : Int) + 1 := by
          rw [er, wrap64_in' (1 + (r : Int)) (by omega)]
          omega
        clear hc2 hy er
        go_wp2
        clear hto
        go_loopw [7, 10] (fun sv j W => ∃ q : Nat, q ≤ r + 1 ∧ sv = .string (bk (t ++ List.replicate q 47)) ∧ j = .int .i64 q ∧ W = w1) (fun _ j _ => r + 1 - (intOf j).toNat)
        case atStart => exact ⟨0, Nat.zero_le _, by simp, rfl, rfl⟩
        case round =>
          obtain ⟨q, hq, rfl, rfl, hwr2⟩ := hrel
          obtain rfl : w1 = wr := hwr2.symm
          obtain ⟨T, hT⟩ : ∃ T, T = t ++ List.replicate q 47 := ⟨_, rfl⟩
          have z1 : (bk T).size = T.length := bk_size T
          have z2 : T.length ≤ 4194400 := by
            have h1 := HT.out.len
            have h2 := tot_take l k
            have h3 := HZ.out
            have h4 := HN.out.1
            rw [hT, List.length_append, List.length_replicate]
            omega
          by_cases hqr : q < r + 1
          · have hqi : (q : Int) < (r : Int) + 1 := by omega
            have HN : Hid (t ++ List.replicate (q + 1) 47 = T ++ [47]) := by
              show _ = _
              rw [hT, List.replicate_succ', List.append_assoc]
            have e1 := cat_slash T
            rw [← hT]
            clear hT
            go_wp2
            go_roundw
            case rel => exact ⟨q + 1, by omega, by rw [HN.out], by go_num, by first | rfl | trivial⟩
            case measure => simp [intOf]; omega
          · obtain rfl : q = r + 1 := by omega
            have HB2 : Hid (Built l (k + 1) (T ++ x.data.toList)) := by rw [hT]; exact HT.out.succ HX.out r hr3
            have hqi : ¬ ((r + 1 : Nat) : Int) < (r : Int) + 1 := by omega
            have e2 := cat_text T x
            have z3 : x.size ≤ 1048576 := by
              have h1 := HZ.out
              have h2 := tot_take l (k + 1)
              rw [take_snoc HX.out, tot_snoc] at h2
              omega
            rw [← hT]
            clear hT
            go_wp2
            go_roundw
            case rel => exact ⟨k + 1, T ++ x.data.toList, by omega, by first | rfl | simp, by go_num, HB2.out, by first | rfl | trivial⟩
            case measure => simp [intOf]; omega
      · have hkmi : ¬ (k : Int) < (m : Int) := by omega
        go_wp2
        go_loopw [7, 10] (fun sv j W => ∃ q : Nat, q ≤ 1 ∧ sv = .string (bk (t ++ List.replicate q 47)) ∧ j = .int .i64 q ∧ W = w1) (fun _ j _ => 1 - (intOf j).toNat)
        case atStart => exact ⟨0, Nat.zero_le _, by simp, rfl, rfl⟩
        case round =>
          obtain ⟨q, hq, rfl, rfl, hwr2⟩ := hrel
          obtain rfl : w1 = wr := hwr2.symm
          obtain ⟨T, hT⟩ : ∃ T, T = t ++ List.replicate q 47 := ⟨_, rfl⟩
          have z1 : (bk T).size = T.length := bk_size T
          have z2 : T.length ≤ 4194400 := by
            have h1 := HT.out.len
            have h2 := tot_take l k
            have h3 := HZ.out
            have h4 := HN.out.1
            rw [hT, List.length_append, List.length_replicate]
            omega
          by_cases hqr : q < 1
          · have hqi : (q : Int) < 1 := by omega
            have HN : Hid (t ++ List.replicate (q + 1) 47 = T ++ [47]) := by
              show _ = _
              rw [hT, List.replicate_succ', List.append_assoc]
            have e1 := cat_slash T
            rw [← hT]
            clear hT
            go_wp2
            go_roundw
            case rel => exact ⟨q + 1, by omega, by rw [HN.out], by go_num, by first | rfl | trivial⟩
            case measure => simp [intOf]; omega
          · obtain rfl : q = 1 := by omega
            have HB2 : Hid (Built l (k + 1) (T ++ x.data.toList)) := by rw [hT]; exact HT.out.succ HX.out 0 (by omega)
            have hqi : ¬ ((1 : Nat) : Int) < 1 := by omega
            have e2 := cat_text T x
            have z3 : x.size ≤ 1048576 := by
              have h1 := HZ.out
              have h2 := tot_take l (k + 1)
              rw [take_snoc HX.out, tot_snoc] at h2
              omega
            rw [← hT]
            clear hT
            go_wp2
            go_roundw
            case rel => exact ⟨k + 1, T ++ x.data.toList, by omega, by first | rfl | simp, by go_num, HB2.out, by first | rfl | trivial⟩
            case measure => simp [intOf]; omega
    · obtain rfl : k = n := by omega
      have hki : ¬ (k : Int) < (k : Int) := by omega
      have hnl := HN.out.1
      rw [hnl] at HT
      have hv := HV.out.1
      have zt : (bk t).size = t.length := bk_size t
      have z2 : t.length ≤ 4194400 := by
        have h1 := HT.out.len
        have h2 := tot_take l l.length
        have h3 := HZ.out
        omega
      clear hnl
      cases fin
      · by_cases hte : t = []
        · have hemp : (bk t).toList.isEmpty = true := by rw [empty_iff, bk_size, hte]; rfl
          obtain ⟨T, hT⟩ : ∃ T, T = t ++ [47] := ⟨_, rfl⟩
          have HTT : Hid (T = t ∧ t ≠ [] ∨ T = t ++ [47]) := .inr hT
          have e1 := cat_slash t
          rw [← hT] at e1
          clear hT
          clear hte
          have H2 := join_any 0 v l w1 (KL.out w1 HB1.out).1
          obtain ⟨E, hE⟩ : ∃ X, X = jerr l := ⟨_, rfl⟩
          obtain ⟨C, hC⟩ : ∃ X, X = jval l := ⟨_, rfl⟩
          rw [← hE, ← hC] at H2
          have HEC : Hid (E = jerr l ∧ C = jval l) := ⟨hE, hC⟩
          obtain ⟨F, hF⟩ : ∃ X, X = serr (bk T) := ⟨_, rfl⟩
          obtain ⟨M, hM⟩ : ∃ X, X = sval (bk T) := ⟨_, rfl⟩
          have HFM : Hid (F = serr (bk T) ∧ M = sval (bk T)) := ⟨hF, hM⟩
          clear hE hC hF hM
          rw [hv] at H2
          go_wp2_with fail
          refine H2.mono ?_
          rintro e w2 ⟨rfl, hb2⟩
          have HB2 : Hid (Below w.heap.size w w2) := below_any HB1.out hb2
          have H3 := split_any (bk T) w2
          rw [← HFM.out.1, ← HFM.out.2] at H3
          clear H2 hb2
          go_wp2_with fail
          refine H3.mono ?_
          rintro e w3 ⟨v3, rfl, hO3, hb3⟩
          have HB3 : Hid (Below w.heap.size w w3) := below_any HB2.out hb3
          have K3 : Hid (∀ V, Below w3.heap.size w3 V → ArgT w2.heap.size V v3 M) := fun V hV => hO3.arg.below hV
          have z1 : (bk T).size = T.length := bk_size T
          clear H3 hO3 hb3
          by_cases hE0 : E = 0
          · have hj : jerr l = 0 := by rw [← HEC.out.1]; exact hE0
            by_cases h128 : 128 < T.length
            · have hF5 : F = 5 := by rw [HFM.out.1, serr, if_pos (by rw [z1]; exact h128)]
              have hce : C.toList.isEmpty = false := by
                rw [HEC.out.2, jval_zero hj, jt, empty_iff, bk_size, jp_length]
                simp
              have h128i : (128 : Int) < (T.length : Int) := by omega
              subst hE0 hF5
              clear hj
              go_wp2_with (go_at_call 18; refine (num_any _ _).mono ?_; rintro e wn ⟨rfl, rfl⟩)
              go_ret
              exact ⟨rfl, HB3.out⟩
            · obtain ⟨g1, g2⟩ := HT.out.split HTT.out hj (by omega)
              have hF0 : F = 0 := by rw [HFM.out.1, g1]
              have hM0 : M = l := by rw [HFM.out.2, g2]
              have h128i : ¬ (128 : Int) < (T.length : Int) := by omega
              subst hE0 hF0
              rw [hM0] at K3
              have H4 := same_any w2.heap.size 0 v3 v l l w3 (K3.out w3 (Below.refl _ _)) (KL.out w3 HB3.out).1
              rw [decide_eq_true rfl, hv] at H4
              clear hj g1 g2 hM0
              go_wp2_with (go_at_call 18; refine (num_any _ _).mono ?_; rintro e wn ⟨rfl, rfl⟩)
              refine H4.mono ?_
              rintro e w4 ⟨rfl, q4, hq4⟩
              have HB4 : Hid (Below w.heap.size w w4) := by show Below _ _ _; rw [hq4]; exact below_drewN HB3.out _
              clear H4 hq4
              go_wp2
              go_ret
              exact ⟨rfl, HB4.out⟩
          · have hce : C.toList.isEmpty = true := by
              rw [HEC.out.2, jval_bad (by rw [← HEC.out.1]; exact hE0), empty_iff]
              rfl
            have b0 : (E == 0) = false := beq_false_of_ne hE0
            have b1 : (E != 0) = true := by simp [hE0]
            go_wp2_with (go_at_call 18; refine (num_any _ _).mono ?_; rintro e wn ⟨rfl, rfl⟩)
            go_ret
            exact ⟨rfl, HB3.out⟩
        · have hemp : (bk t).toList.isEmpty = false := by rw [empty_iff, bk_size]; simp; exact hte
          obtain ⟨T, hT⟩ : ∃ T, T = t := ⟨_, rfl⟩
          have HTT : Hid (T = t ∧ t ≠ [] ∨ T = t ++ [47]) := .inl ⟨hT, hte⟩
          rw [← hT] at hemp ⊢
          clear hT hte
          have H2 := join_any 0 v l w1 (KL.out w1 HB1.out).1
          obtain ⟨E, hE⟩ : ∃ X, X = jerr l := ⟨_, rfl⟩
          obtain ⟨C, hC⟩ : ∃ X, X = jval l := ⟨_, rfl⟩
          rw [← hE, ← hC] at H2
          have HEC : Hid (E = jerr l ∧ C = jval l) := ⟨hE, hC⟩
          obtain ⟨F, hF⟩ : ∃ X, X = serr (bk T) := ⟨_, rfl⟩
          obtain ⟨M, hM⟩ : ∃ X, X = sval (bk T) := ⟨_, rfl⟩
          have HFM : Hid (F = serr (bk T) ∧ M = sval (bk T)) := ⟨hF, hM⟩
          clear hE hC hF hM
          rw [hv] at H2
          go_wp2_with fail
          refine H2.mono ?_
          rintro e w2 ⟨rfl, hb2⟩
          have HB2 : Hid (Below w.heap.size w w2) := below_any HB1.out hb2
          have H3 := split_any (bk T) w2
          rw [← HFM.out.1, ← HFM.out.2] at H3
          clear H2 hb2
          go_wp2_with fail
          refine H3.mono ?_
          rintro e w3 ⟨v3, rfl, hO3, hb3⟩
          have HB3 : Hid (Below w.heap.size w w3) := below_any HB2.out hb3
          have K3 : Hid (∀ V, Below w3.heap.size w3 V → ArgT w2.heap.size V v3 M) := fun V hV => hO3.arg.below hV
          have z1 : (bk T).size = T.length := bk_size T
          clear H3 hO3 hb3
          by_cases hE0 : E = 0
          · have hj : jerr l = 0 := by rw [← HEC.out.1]; exact hE0
            by_cases h128 : 128 < T.length
            · have hF5 : F = 5 := by rw [HFM.out.1, serr, if_pos (by rw [z1]; exact h128)]
              have hce : C.toList.isEmpty = false := by
                rw [HEC.out.2, jval_zero hj, jt, empty_iff, bk_size, jp_length]
                simp
              have h128i : (128 : Int) < (T.length : Int) := by omega
              subst hE0 hF5
              clear hj
              go_wp2_with (go_at_call 18; refine (num_any _ _).mono ?_; rintro e wn ⟨rfl, rfl⟩)
              go_ret
              exact ⟨rfl, HB3.out⟩
            · obtain ⟨g1, g2⟩ := HT.out.split HTT.out hj (by omega)
              have hF0 : F = 0 := by rw [HFM.out.1, g1]
              have hM0 : M = l := by rw [HFM.out.2, g2]
              have h128i : ¬ (128 : Int) < (T.length : Int) := by omega
              subst hE0 hF0
              rw [hM0] at K3
              have H4 := same_any w2.heap.size 0 v3 v l l w3 (K3.out w3 (Below.refl _ _)) (KL.out w3 HB3.out).1
              rw [decide_eq_true rfl, hv] at H4
              clear hj g1 g2 hM0
              go_wp2_with (go_at_call 18; refine (num_any _ _).mono ?_; rintro e wn ⟨rfl, rfl⟩)
              refine H4.mono ?_
              rintro e w4 ⟨rfl, q4, hq4⟩
              have HB4 : Hid (Below w.heap.size w w4) := by show Below _ _ _; rw [hq4]; exact below_drewN HB3.out _
              clear H4 hq4
              go_wp2
              go_ret
              exact ⟨rfl, HB4.out⟩
          · have hce : C.toList.isEmpty = true := by
              rw [HEC.out.2, jval_bad (by rw [← HEC.out.1]; exact hE0), empty_iff]
              rfl
            have b0 : (E == 0) = false := beq_false_of_ne hE0
            have b1 : (E != 0) = true := by simp [hE0]
            go_wp2_with (go_at_call 18; refine (num_any _ _).mono ?_; rintro e wn ⟨rfl, rfl⟩)
            go_ret
            exact ⟨rfl, HB3.out⟩
      · obtain ⟨T, hT⟩ : ∃ T, T = t ++ [47] := ⟨_, rfl⟩
        have HTT : Hid (T = t ∧ t ≠ [] ∨ T = t ++ [47]) := .inr hT
        have e1 := cat_slash t
        rw [← hT] at e1
        clear hT
        have H2 := join_any 0 v l w1 (KL.out w1 HB1.out).1
        obtain ⟨E, hE⟩ : ∃ X, X = jerr l := ⟨_, rfl⟩
        obtain ⟨C, hC⟩ : ∃ X, X = jval l := ⟨_, rfl⟩
        rw [← hE, ← hC] at H2
        have HEC : Hid (E = jerr l ∧ C = jval l) := ⟨hE, hC⟩
        obtain ⟨F, hF⟩ : ∃ X, X = serr (bk T) := ⟨_, rfl⟩
        obtain ⟨M, hM⟩ : ∃ X, X = sval (bk T) := ⟨_, rfl⟩
        have HFM : Hid (F = serr (bk T) ∧ M = sval (bk T)) := ⟨hF, hM⟩
        clear hE hC hF hM
        rw [hv] at H2
        go_wp2_with fail
        refine H2.mono ?_
        rintro e w2 ⟨rfl, hb2⟩
        have HB2 : Hid (Below w.heap.size w w2) := below_any HB1.out hb2
        have H3 := split_any (bk T) w2
        rw [← HFM.out.1, ← HFM.out.2] at H3
        clear H2 hb2
        go_wp2_with fail
        refine H3.mono ?_
        rintro e w3 ⟨v3, rfl, hO3, hb3⟩
        have HB3 : Hid (Below w.heap.size w w3) := below_any HB2.out hb3
        have K3 : Hid (∀ V, Below w3.heap.size w3 V → ArgT w2.heap.size V v3 M) := fun V hV => hO3.arg.below hV
        have z1 : (bk T).size = T.length := bk_size T
        clear H3 hO3 hb3
        by_cases hE0 : E = 0
        · have hj : jerr l = 0 := by rw [← HEC.out.1]; exact hE0
          by_cases h128 : 128 < T.length
          · have hF5 : F = 5 := by rw [HFM.out.1, serr, if_pos (by rw [z1]; exact h128)]
            have hce : C.toList.isEmpty = false := by
              rw [HEC.out.2, jval_zero hj, jt, empty_iff, bk_size, jp_length]
              simp
            have h128i : (128 : Int) < (T.length : Int) := by omega
            subst hE0 hF5
            clear hj
            go_wp2_with (go_at_call 18; refine (num_any _ _).mono ?_; rintro e wn ⟨rfl, rfl⟩)
            go_ret
            exact ⟨rfl, HB3.out⟩
          · obtain ⟨g1, g2⟩ := HT.out.split HTT.out hj (by omega)
            have hF0 : F = 0 := by rw [HFM.out.1, g1]
            have hM0 : M = l := by rw [HFM.out.2, g2]
            have h128i : ¬ (128 : Int) < (T.length : Int) := by omega
            subst hE0 hF0
            rw [hM0] at K3
            have H4 := same_any w2.heap.size 0 v3 v l l w3 (K3.out w3 (Below.refl _ _)) (KL.out w3 HB3.out).1
            rw [decide_eq_true rfl, hv] at H4
            clear hj g1 g2 hM0
            go_wp2_with (go_at_call 18; refine (num_any _ _).mono ?_; rintro e wn ⟨rfl, rfl⟩)
            refine H4.mono ?_
            rintro e w4 ⟨rfl, q4, hq4⟩
            have HB4 : Hid (Below w.heap.size w w4) := by show Below _ _ _; rw [hq4]; exact below_drewN HB3.out _
            clear H4 hq4
            go_wp2
            go_ret
            exact ⟨rfl, HB4.out⟩
        · have hce : C.toList.isEmpty = true := by
            rw [HEC.out.2, jval_bad (by rw [← HEC.out.1]; exact hE0), empty_iff]
            rfl
          have b0 : (E == 0) = false := beq_false_of_ne hE0
          have b1 : (E != 0) = true := by simp [hE0]
          go_wp2_with (go_at_call 18; refine (num_any _ _).mono ?_; rintro e wn ⟨rfl, rfl⟩)
          go_ret
          exact ⟨rfl, HB3.out⟩

theorem contract (H : Type) (enc : TypeId × Value → H) (W : World) (base : Nat) (args : Array Value) (ds gs : List (DataW H)) (before : List MemPlace)
    (hval : ∀ (j : Nat) t v, Try.f7.params[j]? = some t → args[j]? = some v → Value.okWide Try.prog W .any base t v)
    (hW : DataW.Whole enc Try.prog Try.f7.params.toList Rows.pathPlainSpec.vars false W args.toList ds gs before) (hk : Rows.uptoSmall H (ds ++ gs) = true) :
    Calls Try.prog 7 args W fun e W' => ∃ v, e = .returned v ∧ Rows.pathPlainSpec.post enc Try.prog Try.f7 false true false false W args v W' := by
  have hW' := hW
  obtain ⟨p, q, hA0, hV, rfl, hfz, hnd⟩ := hW
  have hA : DataW.TrodAll enc Try.prog W 0 (fun _ => true) true Try.f7.params.toList args.toList ds p := hA0
  rw [Try.params7] at hA hval
  obtain ⟨v0, vs0, d0, ds0, p0, q0, hargs, rfl, rfl, h0, r0⟩ := trodAll_cons hA
  obtain ⟨v1, vs1, d1, ds1, p1, q1, rfl, rfl, rfl, h1, r1⟩ := trodAll_cons r0
  obtain ⟨v2, vs2, d2, ds2, p2, q2, rfl, rfl, rfl, h2, r2⟩ := trodAll_cons r1
  obtain ⟨rfl, rfl, rfl⟩ := trodAll_nil r2
  obtain rfl : args = #[v0, v1, v2] := by cases args; simp_all
  obtain ⟨rfl, rfl⟩ := trodVars_none hV
  obtain ⟨x0, len0, cap0, rfl⟩ := okWide_slice Try.underlying22 (hval 0 22 v0 rfl rfl)
  have k0 := h0
  have lt0 : ∀ x ∈ p0, x.block < W.heap.size := by obtain ⟨m, hm⟩ := k0; exact DataW.trod_lt m _ _ _ hm
  obtain ⟨m0, hm0⟩ := h0
  obtain ⟨s0, A0, _⟩ := textsS.reads hm0
  obtain ⟨x1, len1, cap1, rfl⟩ := okWide_slice Try.underlying48 (hval 1 48 v1 rfl rfl)
  have k1 := h1
  have lt1 : ∀ x ∈ p1, x.block < W.heap.size := by obtain ⟨m, hm⟩ := k1; exact DataW.trod_lt m _ _ _ hm
  obtain ⟨m1, hm1⟩ := h1
  obtain ⟨s1, A1, _⟩ := intsS.reads hm1
  obtain ⟨b2, rfl, rfl, rfl⟩ := open_bool Try.underlying4 (hval 2 4 v2 rfl rfl) h2
  clear hA0
  have u0 := bulk_three hk
  have t0 := texts_bulk hm0 (texts_of A0)
  refine (walk (.slice x0 len0 cap0) s0 (.slice x1 len1 cap1) s1 b2 W (texts_of A0) (by simp only at t0; omega) A1).mono fun e W' ⟨he, bel⟩ => ?_
  subst he
  exact ⟨_, rfl, _, _, _, [], _, [], hW', trodAll_mk1 (shut_bool Try.underlying4 _), (trodAll_cons_mk (Below.trod laidOut (by kernel_rfl) (of_decide_eq_true (by kernel_rfl)) k0 bel lt0) (trodAll_cons_mk (Below.trod laidOut (by kernel_rfl) (of_decide_eq_true (by kernel_rfl)) k1 bel lt1) (trodAll_cons_mk (shut_bool Try.underlying4 _) trodAll_mk0))), rfl, bel.frame _, fun h => by cases h⟩

set_option maxRecDepth 100000 in
theorem lifted (os : Os) (started : os.Started) (H : Type) (enc : TypeId × Value → H) (F : Stop.Interp) :
    ReturnsInHanded {} Try.checked os 7 .any ((Rows.OpenSpec.upto Rows.pathPlainSpec).pre6 enc Try.prog Try.f7 Rows.pathPlainUptoRow.domain false) (((Rows.OpenSpec.upto Rows.pathPlainSpec).at F).post enc Try.prog Try.f7 false true false false) := by
  refine returnsInHanded_of_cond (C := Try.checked) (s := Rows.OpenSpec.upto Rows.pathPlainSpec) (k := Rows.uptoSmall) rfl own started (by kernel_rfl) Try.func7
    (OpenSpec.witness (enc := enc) (C := Try.checked) (s := Rows.OpenSpec.upto Rows.pathPlainSpec) (k := Rows.uptoSmall) rfl false ⟨#[], #[.slice none 0 0, .slice none 0 0, .bool false], []⟩ 8 (by kernel_rfl) (by kernel_rfl) (by kernel_rfl)
      (x := ([.nil, .nil, .lit (.bool false)], [], [])) (by kernel_rfl) rfl (by kernel_rfl)) ?_
  intro W base args ds gs before hval hW _ hk _
  exact contract H enc W base args ds gs before hval hW hk

theorem over : Rows.PathPlainUptoSaid :=
  OpenClaim.holds_of_cond 7 Try.f7 rfl rfl rfl rfl rfl rfl rfl ⟨rfl, rfl, rfl, rfl, rfl⟩ rfl rfl rfl rfl rfl (by kernel_rfl) Try.func7 (by kernel_rfl)
    (of_decide_eq_true (by kernel_rfl)) (by unfold Func.isWrapper; first | (rw [if_pos (by decide +kernel)]; kernel_rfl) | (rw [if_neg (by decide +kernel)]; exact ⟨rfl, rfl⟩))
    (fun os started H enc _ F => lifted os started H enc F)

end Go.Proofs.Ytedbnmiedknfjaa.pathPlain

namespace Go.Proofs.Ytedbnmiedknfjaa
theorem pathPlainUpto_holds : Rows.PathPlainUptoSaid := pathPlain.over
#print axioms pathPlainUpto_holds
end Go.Proofs.Ytedbnmiedknfjaa
