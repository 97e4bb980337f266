/-
  TopCleaner, proved: for every blocks and every number (as great as the form reads them): the call returns true, and changes nothing that was in memory. No condition of its own.
-/
import Derived.Test.YtkpckadicjdieabTInv
namespace Go.Proofs.Ytkpckadicjdieab.topCleaner
open Go.ChangeShapes Go.WideShapes Go.ChangeAt Go.RowKit
set_option linter.unusedVariables false

set_option maxRecDepth 100000 in
set_option maxHeartbeats 64000000 in
theorem walk (n0 : Nat) (v : Value) (l : List Bk) (ev : Int) (w : World) (h : bksN.lies n0 w [v] l) (hev : I64 ev) :
    Calls Try.prog 7 #[v, .int .i64 ev] w fun e w' => e = .returned (.bool true) ∧ Below w.heap.size w w' := by
  obtain ⟨post, hpost⟩ : ∃ post : Ending → World → Prop, post = fun e w' => e = .returned (.bool true) ∧ Below w.heap.size w w' := ⟨_, rfl⟩
  have HPo : Hid (∀ w', Below w.heap.size w w' → post (.returned (.bool true)) w') := fun w' h => by rw [hpost]; exact ⟨rfl, h⟩
  rw [← hpost]
  clear hpost
  obtain ⟨la, lc, hv, _, hlm, _⟩ := Shape.list_len (S := bkN) (ht := Try.underlying29) (hc := cells29) h
  obtain rfl : v = _ := (List.cons.inj hv).1
  obtain ⟨ln, hln⟩ : ∃ z, z = l.length := ⟨_, rfl⟩
  unfold maxLen at hlm
  rw [← hln] at h hlm ⊢
  have HL : Hid (bksN.lies n0 w [.slice la ln lc] l ∧ ln = l.length) := ⟨h, hln⟩
  have hl1 := run_len Try.underlying29 la ln lc
  obtain ⟨r, hr1, hr2⟩ := mod_pos ev 9 (by omega) (by omega)
  replace hr2 : (wrap64 (ev.tmod 9 + 9)).tmod 9 = (r : Int) := hr2
  obtain ⟨N, hN⟩ : ∃ N, N = r + 1 := ⟨_, rfl⟩
  have HN : Hid (1 ≤ N ∧ N ≤ 9) := ⟨by omega, by omega⟩
  have hrN : (1 : Int) + (r : Int) = (N : Int) := by omega
  have hrw : wrap64 (1 + (r : Int)) = (N : Int) := by rw [wrap64_in' _ (by omega)]; omega
  clear h hln hv hev hN
  have HA := cleans_any w
  go_enter Try.func7, Try.ntmps7
  go_wp2_with fail
  refine HA.mono ?_
  rintro e1 w1 ⟨rfl, hb1⟩
  have HB1 : Hid (Below w.heap.size w w1) := hb1
  clear hb1 HA
  go_upto_region 4 with fail
  try simp only [hr2, hrw, hrN]
  clear hr1 hr2 hrw hrN
  have hnE : nE 24 = 0 := by kernel_rfl
  have hnS : nS 24 = (List.replicate 24 (0, []), List.replicate 24 false, [], 1) := by kernel_rfl
  have HC := new_any 24 w1
  rw [hnE, hnS] at HC
  go_wp2_with fail
  refine HC.mono ?_
  rintro e2 w2 ⟨⟨us2, rfl, ho2⟩, hb2⟩
  obtain ⟨a1, n1, c1, b1, m1, d1, e1, k1, f1, q1, rfl⟩ := st_fl ho2
  obtain ⟨V2, hV2⟩ : ∃ V, V = w2.alloc (.cells #[.slice a1 n1 c1, .slice b1 m1 d1, .slice e1 k1 f1, .int .i64 q1] 31) := ⟨_, rfl⟩
  have hbV2 : Below w2.heap.size w2 V2 := by rw [hV2]; exact (Below.refl _ _).alloc (Nat.le_refl _) _
  have H2 : Hid (Below w.heap.size w V2 ∧ Box V2 w2.heap.size 31 #[.slice a1 n1 c1, .slice b1 m1 d1, .slice e1 k1 f1, .int .i64 q1] ∧ stN.owns w1.heap.size V2 [.slice a1 n1 c1, .slice b1 m1 d1, .slice e1 k1 f1, .int .i64 q1] (List.replicate 24 (0, []), List.replicate 24 false, [], 1) ∧ w.heap.size ≤ w2.heap.size) := ⟨below_any (below_any HB1.out hb2) hbV2, by rw [hV2]; exact Box.new _ _ _, stN.obelow ho2 hbV2, (below_any HB1.out hb2).size⟩
  clear HC ho2 hb2 hbV2
  go_upto_region 5 with fail
  rw [← hV2]
  clear hV2
  have HC := new_any 24 V2
  rw [hnE, hnS] at HC
  clear hnE hnS
  go_wp2_with fail
  refine HC.mono ?_
  rintro e3 w3 ⟨⟨us3, rfl, ho3⟩, hb3⟩
  obtain ⟨a2, n2, c2, b2, m2, d2, e2, k2, f2, q2, rfl⟩ := st_fl ho3
  obtain ⟨V3, hV3⟩ : ∃ V, V = w3.alloc (.cells #[.slice a2 n2 c2, .slice b2 m2 d2, .slice e2 k2 f2, .int .i64 q2] 31) := ⟨_, rfl⟩
  have hbV3 : Below w3.heap.size w3 V3 := by rw [hV3]; exact (Below.refl _ _).alloc (Nat.le_refl _) _
  obtain ⟨Ba, hBa⟩ : ∃ B, B = w2.heap.size := ⟨_, rfl⟩
  obtain ⟨Bb, hBb⟩ : ∃ B, B = w3.heap.size := ⟨_, rfl⟩
  have HI0 : Hid (TI w Ba Bb (List.replicate 24 (0, []), List.replicate 24 false, [], 1) [.slice a1 n1 c1, .slice b1 m1 d1, .slice e1 k1 f1, .int .i64 q1] [.slice a2 n2 c2, .slice b2 m2 d2, .slice e2 k2 f2, .int .i64 q2] V3) := by
    rw [hBa, hBb]
    have h5 := below_any hb3 hbV3
    exact ⟨below_any H2.out.1 h5, H2.out.2.1.below h5 H2.out.2.1.lt, by rw [hV3]; exact Box.new _ _ _, ⟨_, stN.obelow H2.out.2.2.1 h5⟩, ⟨_, stN.obelow ho3 hbV3⟩, new24_ok⟩
  have HAB : Hid (w.heap.size ≤ Ba ∧ w.heap.size ≤ Bb ∧ Ba ≠ Bb) := by
    have h5 := H2.out.2.1.lt
    have h6 := hb3.size
    have h7 := H2.out.2.2.2
    rw [hBa, hBb]
    exact ⟨h7, by omega, by omega⟩
  clear HC ho3 hb3 hbV3
  go_upto_region 6 with fail
  rw [← hV3, ← hBa, ← hBb]
  clear hV3 hBa hBb H2 HB1
  go_upto_block 0 with fail
  go_cut [] (fun wx => ∃ (t : St) (ua ub : List Value), Hid (TI w Ba Bb t ua ub wx))
  case rest =>
    as_aux_lemma =>
      obtain ⟨t, ua, ub, HX⟩ := hcut
      obtain ⟨W, hW⟩ : ∃ U, U = wc := ⟨_, rfl⟩
      rw [← hW] at HX ⊢
      clear hW HL HI0 HAB HN
      obtain ⟨a1, n1, c1, b1, m1, d1, e1, k1, f1, q1, rfl⟩ := (let ⟨b, h9⟩ := HX.out.2.2.2.1; st_fl h9)
      obtain ⟨a2, n2, c2, b2, m2, d2, e2, k2, f2, q2, rfl⟩ := (let ⟨b, h9⟩ := HX.out.2.2.2.2.1; st_fl h9)
      have hn1 := (st_len HX.out.liesA).1
      have hn2 := (st_len HX.out.liesB).1
      obtain rfl : n2 = n1 := by omega
      have HN1 : Hid (n2 = t.1.length) := hn1
      have hn64 : n2 ≤ 64 := by rw [hn1]; exact HX.out.2.2.2.2.2.slots.2
      clear hn1 hn2
      have hl1 := run_len Try.underlying28 a1 n2 c1
      have hl2 := run_len Try.underlying28 a2 n2 c2
      go_upto_block 2 with fail
      go_cut [] (fun wx => Hid (Below W.heap.size W wx))
      case first =>
        rename_i J K1 hJ hMt
        go_wp2_with fail
        go_loopw [19] (fun i wr => ∃ k : Nat, k ≤ 24 ∧ k ≤ n2 ∧ i = .int .i64 (k : Int) ∧ Hid (Below W.heap.size W wr)) (fun i _ => 24 - (intOf i).toNat)
        case atStart => exact ⟨0, Nat.zero_le _, Nat.zero_le _, rfl, Below.refl _ _⟩
        case round =>
          obtain ⟨kk, hk24, hkn, rfl, HR⟩ := hrel
          obtain ⟨y0, y1, y2, y3, -⟩ := (HX.out.2.1.below HR.out HX.out.2.1.lt).four
          obtain ⟨z0, z1, z2, z3, -⟩ := (HX.out.2.2.1.below HR.out HX.out.2.2.1.lt).four
          by_cases h24 : kk < 24
          case neg =>
            obtain rfl : kk = 24 := by omega
            have HE : Hid (Below W.heap.size W wr) := HR.out
            go_wp2_with fail
            refine Go.Met.intro (hJ _ _ ?_)
            (repeat (refine Exists.intro ?_ ?_; rotate_left 1))
            refine ⟨?rel1, ?fr1⟩
            case fr1 => rfl
            case rel1 => exact HE
          have h24i : (kk : Int) < 24 := by omega
          by_cases hkl : kk < n2
          case neg =>
            obtain rfl : kk = n2 := by omega
            have HE : Hid (Below W.heap.size W wr) := HR.out
            go_wp2_with fail
            refine Go.Met.intro (hJ _ _ ?_)
            (repeat (refine Exists.intro ?_ ?_; rotate_left 1))
            refine ⟨?rel2, ?fr2⟩
            case fr2 => rfl
            case rel2 => exact HE
          have hkli : (kk : Int) < (n2 : Int) := by omega
          obtain ⟨p, hp⟩ := get_lt (l := t.1) (k := kk) (by rw [← HN1.out]; exact hkl)
          obtain ⟨pb, po, pa, pc, hix, c0, c1', hpL, -⟩ := sgs_atN (sgsN.below (st_seg HX.out.liesA).1 HR.out) kk p hp
          obtain ⟨qb, qo, qa, qc, hiy, d0, d1', -, -⟩ := sgs_atN (sgsN.below (st_seg HX.out.liesB).1 HR.out) kk p hp
          obtain ⟨pq, hpq⟩ : ∃ q, q = p.1 := ⟨_, rfl⟩
          obtain ⟨pm, hpm⟩ : ∃ q, q = p.2.length := ⟨_, rfl⟩
          obtain ⟨ge, hge⟩ : ∃ q, q = cerr p := ⟨_, rfl⟩
          rw [← hpq] at c0 d0 hpL
          rw [← hpm] at c1' d1' hpL
          have HC := gseal_any 0 [.int .i64 pq, .slice pa pm pc] p wr hpL
          rw [← hge] at HC
          have HQ1 : Hid (∀ V, Below wr.heap.size wr V → sgN.lies 0 V [.int .i64 pq, .slice qa pm qc] p ∧ V.cell? ⟨qb, qo, none⟩ = some (.int .i64 pq) ∧ V.cell? ⟨qb, qo + 1, none⟩ = some (.slice qa pm qc)) := fun V hV => by
            obtain ⟨b', o', a', c', hi', e0, e1, eL, -⟩ := sgs_atN (sgsN.below (st_seg HX.out.liesB).1 (below_any HR.out hV)) kk p hp
            have hbo := (hiy V).symm.trans (hi' V)
            simp only [Result.ok.injEq, Value.pointer.injEq, Option.some.injEq, Addr.mk.injEq, and_true] at hbo
            obtain ⟨rfl, rfl⟩ := hbo
            have h5 := cell_below hV d1'
            rw [e1] at h5
            simp only [Option.some.injEq, Value.slice.injEq, ← hpm, true_and] at h5
            rw [← hpq, ← hpm, h5.1, h5.2] at eL
            exact ⟨eL, cell_below hV d0, cell_below hV d1'⟩
          have HGE : Hid (ge = cerr p) := hge
          clear hp hpq hpm hpL hge
          go_wp2_with fail
          clear hix c0 c1' d0 d1' y0 y1 y2 y3 z0 z1 z2 z3
          refine HC.mono ?_
          rintro e9 w7 ⟨⟨v7, rfl, ho7⟩, hb7⟩
          obtain ⟨sv, hsv⟩ : ∃ z, z = sealV p := ⟨_, rfl⟩
          rw [← hsv] at ho7
          obtain ⟨qL, d0, d1'⟩ := HQ1.out w7 hb7
          have HC := gseal_any 0 [.int .i64 pq, .slice qa pm qc] p w7 qL
          rw [← HGE.out, ← hsv] at HC
          clear hsv
          have H7 : Hid (Below W.heap.size W w7 ∧ Arg 0 w7 v7 sv) := ⟨below_any HR.out hb7, ho7.arg.weaken (Nat.zero_le _)⟩
          obtain ⟨z0, z1, z2, z3, -⟩ := (HX.out.2.2.1.below H7.out.1 HX.out.2.2.1.lt).four
          obtain ⟨va7, vc7, hv7⟩ := ho7.shape
          subst hv7
          obtain ⟨n7, hn7⟩ : ∃ z, z = sv.length := ⟨_, rfl⟩
          rw [← hn7] at H7 ⊢
          clear ho7 hb7 qL
          go_wp2_with fail
          clear hiy d0 d1' z0 z1 z2 z3
          refine HC.mono ?_
          rintro e9 w8 ⟨⟨v8, rfl, ho8⟩, hb8⟩
          obtain ⟨va8, vc8, hv8⟩ := ho8.shape
          subst hv8
          rw [← hn7] at ho8 ⊢
          have HSM : Hid (Calls Try.prog 14 #[.slice va7 n7 vc7, .slice va8 n7 vc8] w8 fun e w' => e = .returned (.bool true) ∧ ∃ q, w' = w8.drewN q) := by
            have := same_any 0 0 (.slice va7 n7 vc7) (.slice va8 n7 vc8) sv sv w8 (H7.out.2.below hb8) (ho8.arg.weaken (Nat.zero_le _))
            rwa [decide_eq_true rfl] at this
          have H8 : Hid (Below W.heap.size W w8) := below_any H7.out.1 hb8
          have hgn : (ge != ge) = false := by simp
          clear HC ho8 hb8 hn7
          go_wp2_with fail
          refine HSM.out.mono ?_
          rintro e7 w10 ⟨rfl, q7, hq7⟩
          have H10 : Hid (Below W.heap.size W w10) := by rw [hq7]; exact below_drewN H8.out q7
          clear hq7 HSM hgn
          go_wp2_with fail
          go_roundw
          case rel => exact ⟨kk + 1, by omega, by omega, by go_num, H10.out⟩
          case measure => simp [intOf]; omega
      case rest =>
        obtain ⟨W2, hW2⟩ : ∃ U, U = wc := ⟨_, rfl⟩
        rw [← hW2] at hcut ⊢
        clear hW2 hl1 hl2
        have HB : Hid (Below w.heap.size w W2) := below_any HX.out.1 hcut.out
        have AX : Hid (Box W2 Ba 31 #[.slice a1 n2 c1, .slice b1 m1 d1, .slice e1 k1 f1, .int .i64 q1] ∧ stN.lies 0 W2 [.slice a1 n2 c1, .slice b1 m1 d1, .slice e1 k1 f1, .int .i64 q1] t) := ⟨HX.out.2.1.below hcut.out HX.out.2.1.lt, stN.below HX.out.liesA hcut.out⟩
        have AY : Hid (Box W2 Bb 31 #[.slice a2 n2 c2, .slice b2 m2 d2, .slice e2 k2 f2, .int .i64 q2] ∧ stN.lies 0 W2 [.slice a2 n2 c2, .slice b2 m2 d2, .slice e2 k2 f2, .int .i64 q2] t) := ⟨HX.out.2.2.1.below hcut.out HX.out.2.2.1.lt, stN.below HX.out.liesB hcut.out⟩
        have HOK : Hid (Ok t) := HX.out.2.2.2.2.2
        clear hcut HX HN1
        have HC := all_any 0 [.slice a1 n2 c1, .slice b1 m1 d1, .slice e1 k1 f1, .int .i64 q1] t W2 AX.out.2
        rw [okE_ok HOK.out] at HC
        obtain ⟨AXc0, AXc1, AXc2, AXc3, -⟩ := AX.out.1.four
        go_wp2_with fail
        clear AXc0 AXc1 AXc2 AXc3
        refine HC.mono ?_
        rintro e9 w41 ⟨⟨v9, L1, rfl, ho9, hA9, hN9⟩, hb9⟩
        have HL1 : Hid ((Ok t → AllOf t L1) ∧ (¬ Ok t → L1 = [])) := ⟨hA9, hN9⟩
        obtain ⟨aA3, cA3, _, hv9, -⟩ := Shape.list_own (S := bkN) (ht := Try.underlying29) (hc := cells29) ho9
        obtain rfl : v9 = _ := (List.cons.inj hv9).1
        obtain ⟨zA3, hz9⟩ : ∃ z, z = (L1).length := ⟨_, rfl⟩
        rw [← hz9] at ho9 ⊢
        have A3 : Hid (bksN.lies 0 w41 [.slice aA3 zA3 cA3] L1) := bksN.weaken (bksN.olies ho9) (Nat.zero_le _)
        have A3l : Hid (zA3 = (L1).length) := hz9
        replace AX : Hid (Box w41 Ba 31 #[.slice a1 n2 c1, .slice b1 m1 d1, .slice e1 k1 f1, .int .i64 q1] ∧ stN.lies 0 w41 [.slice a1 n2 c1, .slice b1 m1 d1, .slice e1 k1 f1, .int .i64 q1] t) := ⟨AX.out.1.below hb9 AX.out.1.lt, stN.below AX.out.2 hb9⟩
        replace AY : Hid (Box w41 Bb 31 #[.slice a2 n2 c2, .slice b2 m2 d2, .slice e2 k2 f2, .int .i64 q2] ∧ stN.lies 0 w41 [.slice a2 n2 c2, .slice b2 m2 d2, .slice e2 k2 f2, .int .i64 q2] t) := ⟨AY.out.1.below hb9 AY.out.1.lt, stN.below AY.out.2 hb9⟩
        replace HB : Hid (Below w.heap.size w w41) := below_any HB.out hb9
        clear HC ho9 hb9 hv9 hz9 hA9 hN9
        have HC := all_any 0 [.slice a2 n2 c2, .slice b2 m2 d2, .slice e2 k2 f2, .int .i64 q2] t w41 AY.out.2
        rw [okE_ok HOK.out] at HC
        obtain ⟨AYc0, AYc1, AYc2, AYc3, -⟩ := AY.out.1.four
        go_wp2_with fail
        clear AYc0 AYc1 AYc2 AYc3
        refine HC.mono ?_
        rintro e9 w42 ⟨⟨v9, L2, rfl, ho9, hA9, hN9⟩, hb9⟩
        have HL2 : Hid ((Ok t → AllOf t L2) ∧ (¬ Ok t → L2 = [])) := ⟨hA9, hN9⟩
        obtain ⟨aA4, cA4, _, hv9, -⟩ := Shape.list_own (S := bkN) (ht := Try.underlying29) (hc := cells29) ho9
        obtain rfl : v9 = _ := (List.cons.inj hv9).1
        obtain ⟨zA4, hz9⟩ : ∃ z, z = (L2).length := ⟨_, rfl⟩
        rw [← hz9] at ho9 ⊢
        have A4 : Hid (bksN.lies 0 w42 [.slice aA4 zA4 cA4] L2) := bksN.weaken (bksN.olies ho9) (Nat.zero_le _)
        have A4l : Hid (zA4 = (L2).length) := hz9
        replace AX : Hid (Box w42 Ba 31 #[.slice a1 n2 c1, .slice b1 m1 d1, .slice e1 k1 f1, .int .i64 q1] ∧ stN.lies 0 w42 [.slice a1 n2 c1, .slice b1 m1 d1, .slice e1 k1 f1, .int .i64 q1] t) := ⟨AX.out.1.below hb9 AX.out.1.lt, stN.below AX.out.2 hb9⟩
        replace AY : Hid (Box w42 Bb 31 #[.slice a2 n2 c2, .slice b2 m2 d2, .slice e2 k2 f2, .int .i64 q2] ∧ stN.lies 0 w42 [.slice a2 n2 c2, .slice b2 m2 d2, .slice e2 k2 f2, .int .i64 q2] t) := ⟨AY.out.1.below hb9 AY.out.1.lt, stN.below AY.out.2 hb9⟩
        replace A3 : Hid (bksN.lies 0 w42 [(.slice aA3 zA3 cA3)] L1) := bksN.below A3.out hb9
        replace HB : Hid (Below w.heap.size w w42) := below_any HB.out hb9
        clear HC ho9 hb9 hv9 hz9 hA9 hN9
        obtain rfl : L1 = L2 := (HL1.out.1 HOK.out).eq (HL2.out.1 HOK.out)
        obtain rfl : zA4 = zA3 := by rw [A3l.out, A4l.out]
        have hlA3 := run_len Try.underlying29 aA3 zA4 cA3
        have hlA4 := run_len Try.underlying29 aA4 zA4 cA4
        have hzn : ((zA4 : Int) != (zA4 : Int)) = false := by simp
        have hzb : zA4 ≤ 9223372036854775807 := by
          obtain ⟨_, _, e8, _, h8, _⟩ := Shape.list_len (S := bkN) (ht := Try.underlying29) (hc := cells29) A3.out
          unfold maxLen at h8
          have := A3l.out
          omega
        clear HL1 HL2 HOK AX AY
        go_wp2_with fail
        go_loopw [28] (fun i wr => ∃ k : Nat, k ≤ zA4 ∧ i = .int .i64 k ∧ Hid (Below w42.heap.size w42 wr)) (fun i _ => zA4 - (intOf i).toNat)
        case atStart => exact ⟨0, Nat.zero_le _, rfl, Below.refl _ _⟩
        case round =>
          obtain ⟨kk, hk, rfl, HR⟩ := hrel
          by_cases hlt : kk < zA4
          · obtain ⟨x, hx⟩ := get_lt (l := L1) (k := kk) (by rw [← A3l.out]; exact hlt)
            obtain ⟨gb1, go1, gx1, gz1, hix1, p0, p1, p2, hA1, _⟩ := bks_atN (bksN.below A3.out HR.out) kk x hx
            obtain ⟨gb2, go2, gx2, gz2, hix2, q0, q1, q2, hA2, _⟩ := bks_atN (bksN.below A4.out HR.out) kk x hx
            have hkn : (kk : Int) < (zA4 : Int) := by omega
            have HSM : Hid (Calls Try.prog 14 #[.slice gx1 x.2.2.length gz1, .slice gx2 x.2.2.length gz2] wr.drew fun e w' => e = .returned (.bool (decide (x.2.2 = x.2.2))) ∧ ∃ q, w' = wr.drew.drewN q) := same_any 0 0 _ _ _ _ _ (hA1.below (Below.refl _ wr).drew) (hA2.below (Below.refl _ wr).drew)
            rw [decide_eq_true rfl] at HSM
            obtain ⟨xo, xi, xd⟩ := x
            simp only at p0 p1 p2 q0 q1 q2 HSM
            obtain ⟨xl, hxl⟩ : ∃ m, m = xd.length := ⟨_, rfl⟩
            rw [← hxl] at HSM p2 q2
            have HC : Hid (∀ V, Below wr.heap.size wr V → V.cell? ⟨gb1, go1, none⟩ = some (.int .i64 xo) ∧ V.cell? ⟨gb1, go1 + 1, none⟩ = some (.int .i64 xi) ∧ V.cell? ⟨gb1, go1 + 2, none⟩ = some (.slice gx1 xl gz1) ∧ V.cell? ⟨gb2, go2, none⟩ = some (.int .i64 xo) ∧ V.cell? ⟨gb2, go2 + 1, none⟩ = some (.int .i64 xi) ∧ V.cell? ⟨gb2, go2 + 2, none⟩ = some (.slice gx2 xl gz2)) := fun V hV => ⟨cell_below hV p0, cell_below hV p1, cell_below hV p2, cell_below hV q0, cell_below hV q1, cell_below hV q2⟩
            clear hx hA1 hA2 hxl p0 p1 p2 q0 q1 q2
            go_wp2
            refine AnyBut.begin (fun V => V.cell? ⟨gb1, go1, none⟩ = some (.int .i64 xo) ∧ V.cell? ⟨gb1, go1 + 1, none⟩ = some (.int .i64 xi) ∧ V.cell? ⟨gb1, go1 + 2, none⟩ = some (.slice gx1 xl gz1) ∧ V.cell? ⟨gb2, go2, none⟩ = some (.int .i64 xo) ∧ V.cell? ⟨gb2, go2 + 1, none⟩ = some (.int .i64 xi) ∧ V.cell? ⟨gb2, go2 + 2, none⟩ = some (.slice gx2 xl gz2)) 1000 (by kernel_rfl) ?_
            have hSS := HC.out wr.drew (Below.refl _ wr).drew
            refine tx 0 238 hSS ?_
            simp only [ua, ub, uc, ud]
            refine tx 1 239 hSS ?_
            simp only [ua, ub, uc, ud]
            refine tx 2 240 hSS ?_
            simp only [ua, ub, uc, ud]
            refine tx 3 241 hSS ?_
            simp only [ua, ub, uc, ud]
            refine tx 4 242 hSS ?_
            simp only [ua, ub, uc, ud]
            refine tx 5 243 hSS ?_
            simp only [ua, ub, uc, ud]
            refine tx 6 244 hSS ?_
            simp only [ua, ub, uc, ud]
            refine tx 7 245 hSS ?_
            simp only [ua, ub, uc, ud]
            refine tx 8 246 hSS ?_
            simp only [ua, ub, uc, ud]
            refine tx 9 247 hSS ?_
            simp only [ua, ub, uc, ud]
            refine tx 10 248 hSS ?_
            simp only [ua, ub, uc, ud]
            refine tx 11 249 hSS ?_
            simp only [ua, ub, uc, ud]
            refine tx 12 250 hSS ?_
            simp only [ua, ub, uc, ud]
            refine tx 13 251 hSS ?_
            simp only [ua, ub, uc, ud]
            refine tx 14 252 hSS ?_
            simp only [ua, ub, uc, ud]
            refine tx 15 253 hSS ?_
            simp only [ua, ub, uc, ud]
            refine tx 16 254 hSS ?_
            simp only [ua, ub, uc, ud]
            refine tx 17 255 hSS ?_
            simp only [ua, ub, uc, ud]
            refine tx 18 256 hSS ?_
            simp only [ua, ub, uc, ud]
            refine tx 19 257 hSS ?_
            simp only [ua, ub, uc, ud]
            refine tx 20 258 hSS ?_
            simp only [ua, ub, uc, ud]
            refine tx 21 259 hSS ?_
            simp only [ua, ub, uc, ud]
            refine tx 22 260 hSS ?_
            simp only [ua, ub, uc, ud]
            refine tx 23 261 hSS ?_
            simp only [ua, ub, uc, ud]
            refine tx 24 262 hSS ?_
            simp only [ua, ub, uc, ud]
            refine tx 25 263 hSS ?_
            simp only [ua, ub, uc, ud]
            refine tx 26 264 hSS ?_
            simp only [ua, ub, uc, ud]
            refine tx 27 265 hSS ?_
            simp only [ua, ub, uc, ud]
            refine tx 28 266 hSS ?_
            simp only [ua, ub, uc, ud]
            refine tx 29 267 hSS ?_
            simp only [ua, ub, uc, ud]
            refine tx 30 268 hSS ?_
            simp only [ua, ub, uc, ud]
            refine tx 31 269 hSS ?_
            simp only [ua, ub, uc, ud]
            refine tx 32 270 hSS ?_
            simp only [ua, ub, uc, ud]
            refine tx 33 271 hSS ?_
            simp only [ua, ub, uc, ud]
            refine tx 34 272 hSS ?_
            simp only [ua, ub, uc, ud]
            refine AnyBut.step (i := 35) (by kernel_rfl) rfl (fun K hK => ?_)
            go_simp
            refine Calls.mono HSM.out ?_
            rintro e9 w9 ⟨rfl, q9, hq9⟩
            dsimp only
            have hb9 : Below wr.heap.size wr w9 := by rw [hq9]; exact below_drewN (Below.refl _ wr).drew q9
            refine hK.out _ _ (HC.out w9 hb9) ?_
            clear hK hSS hq9
            have hSS := HC.out w9 hb9
            refine tx 36 274 hSS ?_
            simp only [ua, ub, uc, ud]
            refine tx 37 275 hSS ?_
            simp only [ua, ub, uc, ud]
            refine AnyBut.done (by kernel_rfl) ?_
            have HR2 : Hid (Below w42.heap.size w42 w9) := below_any HR.out hb9
            clear hSS hb9 HC HSM
            go_wp2
            go_roundw
            case rel => exact ⟨kk + 1, by omega, by go_num, HR2.out⟩
            case measure => simp [intOf]; omega
          · obtain rfl : kk = zA4 := by omega
            have HQ : Hid (post (.returned (.bool true)) wr) := HPo.out _ (below_any HB.out HR.out)
            go_wp2
            exact HQ.out
  rename_i J0 K0 hJ0 hMt0
  go_wp2_with fail
  go_loopw [9] (fun i wr => ∃ (j : Nat) (t : St) (ua ub : List Value), j ≤ ln ∧ j ≤ 100 ∧ i = .int .i64 (j : Int) ∧ Hid (TI w Ba Bb t ua ub wr)) (fun i _ => 100 - (intOf i).toNat)
  case atStart => exact ⟨0, _, _, _, Nat.zero_le _, Nat.zero_le _, rfl, HI0.out⟩
  case round =>
    clear HI0
    obtain ⟨j, t, ua, ub, hj, hj2, rfl, HI⟩ := hrel
    obtain ⟨a1, n1, c1, b1, m1, d1, e1, k1, f1, q1, rfl⟩ := (let ⟨b, h9⟩ := HI.out.2.2.2.1; st_fl h9)
    obtain ⟨a2, n2, c2, b2, m2, d2, e2, k2, f2, q2, rfl⟩ := (let ⟨b, h9⟩ := HI.out.2.2.2.2.1; st_fl h9)
    by_cases hlt : j < ln ∧ j < 100
    case neg =>
      have HE : Hid (TI w Ba Bb t [.slice a1 n1 c1, .slice b1 m1 d1, .slice e1 k1 f1, .int .i64 q1] [.slice a2 n2 c2, .slice b2 m2 d2, .slice e2 k2 f2, .int .i64 q2] wr) := HI.out
      by_cases hlt1 : j < ln
      case neg =>
        obtain rfl : j = ln := by omega
        go_wp2_with fail
        refine Go.Met.intro (hJ0 _ _ ?_)
        (repeat (refine Exists.intro ?_ ?_; rotate_left 1))
        refine ⟨?rel3, ?fr3⟩
        case fr3 => rfl
        case rel3 => exact ⟨_, _, _, HE⟩
      · obtain rfl : j = 100 := by omega
        have hji : (100 : Int) < (ln : Int) := by omega
        go_wp2_with fail
        refine Go.Met.intro (hJ0 _ _ ?_)
        (repeat (refine Exists.intro ?_ ?_; rotate_left 1))
        refine ⟨?rel4, ?fr4⟩
        case fr4 => rfl
        case rel4 => exact ⟨_, _, _, HE⟩
    obtain ⟨hlt1, hlt2⟩ := hlt
    have hji : (j : Int) < (ln : Int) := by omega
    have hj100 : (j : Int) < 100 := by omega
    obtain ⟨x, hx⟩ := get_lt (l := l) (k := j) (by rw [← HL.out.2]; exact hlt1)
    obtain ⟨gb, gof, da, dc, hix, k0, k1', k2', hA, i1, i2, _⟩ := bks_atN HL.out.1 j x hx
    obtain ⟨xo, xi, xd⟩ := x
    simp only at k0 k1' k2' hA i1 i2
    obtain ⟨dm, hdm⟩ : ∃ z, z = xd.length := ⟨_, rfl⟩
    rw [← hdm] at k2' hA
    have HS : Hid (∀ V, Below wr.heap.size wr V → V.cell? ⟨gb, gof, none⟩ = some (.int .i64 xo) ∧ V.cell? ⟨gb, gof + 1, none⟩ = some (.int .i64 xi) ∧ V.cell? ⟨gb, gof + 2, none⟩ = some (.slice da dm dc)) := fun V hV => ⟨cell_below (below_any HI.out.1 hV) k0, cell_below (below_any HI.out.1 hV) k1', cell_below (below_any HI.out.1 hV) k2'⟩
    obtain ⟨mm, hmm⟩ : ∃ z, z = min dm 32 := ⟨_, rfl⟩
    obtain ⟨vd, hAd, hsl⟩ := hA.ahead mm (by omega)
    obtain ⟨dd, hdd⟩ : ∃ z, z = xd.take mm := ⟨_, rfl⟩
    rw [← hdd] at hAd
    have hdl : dd.length ≤ 32 := by rw [hdd, List.length_take]; omega
    obtain ⟨va, vc, hv9, -⟩ := hAd.shape
    subst hv9
    obtain ⟨dn, hdn⟩ : ∃ z, z = dd.length := ⟨_, rfl⟩
    rw [← hdn] at hAd hsl hdl
    have HMN : Hid (min (dm : Int) 32 = (mm : Int)) := by show _ = _; omega
    have HAD : Hid (Arg 0 w (.slice va dn vc) dd ∧ dn = dd.length ∧ dn ≤ 32) := ⟨hAd.weaken (Nat.zero_le _), hdn, hdl⟩
    have HSL : Hid (∀ W, (Instr.slice 46 (.slice da dm dc) none (some (.int .i64 (mm : Int))) none).run Try.prog W = .ok (.slice va dn vc) W) := hsl
    clear hx k0 k1' k2' hA i1 i2 hdm hmm hAd hsl hdd hdl hdn
    go_upto_region 11 with fail
    obtain ⟨ro, ho1, ho2⟩ := mod_pos xo 4 (by omega) (by omega)
    replace ho2 : (wrap64 (xo.tmod 4 + 4)).tmod 4 = (ro : Int) := ho2
    obtain ⟨ri, hi1, hi2⟩ := mod_pos xi 4 (by omega) (by omega)
    replace hi2 : (wrap64 (xi.tmod 4 + 4)).tmod 4 = (ri : Int) := hi2
    have hox : wrap64 (1 + (ro : Int)) = 1 + (ro : Int) := wrap64_in' _ (by omega)
    obtain ⟨z1, hz1⟩ : ∃ z, z = wrap64 (xo.tmod 4 + 4) := ⟨_, rfl⟩
    obtain ⟨z2, hz2⟩ : ∃ z, z = wrap64 (xi.tmod 4 + 4) := ⟨_, rfl⟩
    rw [← hz1] at ho2
    rw [← hz2] at hi2
    have hq1 : IntKind.i64.wrap (xo.tmod 4 + 4) = z1 := wrap_is _ _ hz1
    have hq2 : IntKind.i64.wrap (xi.tmod 4 + 4) = z2 := wrap_is _ _ hz2
    have hq3 : IntKind.i64.wrap (1 + (ro : Int)) = 1 + (ro : Int) := wrap_is _ _ hox.symm
    have HBK : Hid (bkN.lies 0 w [.int .i64 (1 + (ro : Int)), .int .i64 (ri : Int), .slice va dn vc] (1 + (ro : Int), (ri : Int), dd) ∧ mayB (1 + (ro : Int), (ri : Int), dd) = true) := ⟨bk_mk (p := (1 + (ro : Int), (ri : Int), dd)) HAD.out.1 ⟨by simp only; omega, by simp only; omega⟩ ⟨by simp only; omega, by simp only; omega⟩, may_of ⟨by omega, by omega⟩ ⟨by omega, by omega⟩ (by rw [← HAD.out.2.1]; exact HAD.out.2.2)⟩
    have hmin := HMN.out
    have hsl := HSL.out
    have hl3 := run_len Try.underlying46 da dm dc
    clear hz1 hz2 hox ho1 hi1
    refine AnyBut.begin (fun V => V.cell? ⟨gb, gof, none⟩ = some (.int .i64 xo) ∧ V.cell? ⟨gb, gof + 1, none⟩ = some (.int .i64 xi) ∧ V.cell? ⟨gb, gof + 2, none⟩ = some (.slice da dm dc)) 1000 (by kernel_rfl) ?_
    have hSS := HS.out wr.drew (Below.refl _ wr).drew
    refine tx 0 60 hSS ?_
    simp only [ua, ub, uc, ud]
    refine tx 1 61 hSS ?_
    simp only [ua, ub, uc, ud]
    refine tx 2 62 hSS ?_
    simp only [ua, ub, uc, ud]
    refine tx 3 63 hSS ?_
    simp only [ua, ub, uc, ud]
    refine tx 4 64 hSS ?_
    simp only [ua, ub, uc, ud]
    refine tx 5 65 hSS ?_
    simp only [ua, ub, uc, ud]
    refine tx 6 66 hSS ?_
    simp only [ua, ub, uc, ud]
    refine tx 7 67 hSS ?_
    simp only [ua, ub, uc, ud]
    refine tx 8 68 hSS ?_
    simp only [ua, ub, uc, ud]
    refine tx 9 69 hSS ?_
    simp only [ua, ub, uc, ud]
    refine tx 10 70 hSS ?_
    simp only [ua, ub, uc, ud]
    refine tx 11 71 hSS ?_
    simp only [ua, ub, uc, ud]
    refine tx 12 72 hSS ?_
    simp only [ua, ub, uc, ud]
    refine tx 13 73 hSS ?_
    simp only [ua, ub, uc, ud]
    refine tx 14 74 hSS ?_
    simp only [ua, ub, uc, ud]
    refine tx 15 75 hSS ?_
    simp only [ua, ub, uc, ud]
    refine tx 16 76 hSS ?_
    simp only [ua, ub, uc, ud]
    refine tx 17 77 hSS ?_
    simp only [ua, ub, uc, ud]
    refine tx 18 78 hSS ?_
    simp only [ua, ub, uc, ud]
    refine tx 19 79 hSS ?_
    simp only [ua, ub, uc, ud]
    refine tx 20 80 hSS ?_
    simp only [ua, ub, uc, ud]
    refine tx 21 81 hSS ?_
    simp only [ua, ub, uc, ud]
    refine tx 22 82 hSS ?_
    simp only [ua, ub, uc, ud]
    refine tx 23 83 hSS ?_
    simp only [ua, ub, uc, ud]
    refine tx 24 84 hSS ?_
    simp only [ua, ub, uc, ud]
    refine tx 25 85 hSS ?_
    simp only [ua, ub, uc, ud]
    refine tx 26 86 hSS ?_
    simp only [ua, ub, uc, ud]
    refine tx 27 87 hSS ?_
    simp only [ua, ub, uc, ud]
    refine tx 28 88 hSS ?_
    simp only [ua, ub, uc, ud]
    refine tx 29 89 hSS ?_
    simp only [ua, ub, uc, ud]
    refine tx 30 90 hSS ?_
    simp only [ua, ub, uc, ud]
    clear hq1 hq2 hq3 ho2 hi2 hmin hsl hl3 hix
    obtain ⟨Z, hZ⟩ : ∃ Z, Z = (wr.alloc (.cells #[.int .i64 0, .int .i64 0, .slice none 0 0] 48)).drew := ⟨_, rfl⟩
    have hbZ : Below wr.heap.size wr Z := by rw [hZ]; exact ((Below.refl _ _).alloc (Nat.le_refl _) _).drew
    have hxZ : Box Z wr.heap.size 48 #[.int .i64 0, .int .i64 0, .slice none 0 0] := by rw [hZ]; exact Box.drew (Box.new _ _ _)
    refine AnyBut.step (i := 31) (by kernel_rfl) rfl (fun K hK => ?_)
    go_simp
    rw [← hZ]
    refine hK.out _ _ (HS.out Z hbZ) ?_
    clear hK hSS hZ
    obtain ⟨W, hW⟩ : ∃ W, W = ((Z.setCell ⟨wr.heap.size, 0, none⟩ (.int .i64 (1 + (ro : Int)))).setCell ⟨wr.heap.size, 1, none⟩ (.int .i64 (ri : Int))).setCell ⟨wr.heap.size, 2, none⟩ (.slice va dn vc) := ⟨_, rfl⟩
    have hbW : Below wr.heap.size wr W := by rw [hW]; exact below_set3 hbZ (Nat.le_refl _) _ _ _
    have hxW : Box W wr.heap.size 48 #[.int .i64 (1 + (ro : Int)), .int .i64 (ri : Int), .slice va dn vc] := by rw [hW]; exact ((hxZ.set 0 _).set 1 _).set 2 _
    obtain ⟨zz0, zz1, zz2, zf0, zf1, zf2⟩ := hxZ.three
    refine AnyBut.step (i := 32) (by kernel_rfl) rfl (fun K hK => ?_)
    go_simp
    rw [← hW]
    refine hK.out _ _ (HS.out W hbW) ?_
    clear hK hW zz0 zz1 zz2 zf0 zf1 zf2 hxZ hbZ HS
    refine AnyBut.done (by kernel_rfl) ?_
    have HW : Hid (TI w Ba Bb t [.slice a1 n1 c1, .slice b1 m1 d1, .slice e1 k1 f1, .int .i64 q1] [.slice a2 n2 c2, .slice b2 m2 d2, .slice e2 k2 f2, .int .i64 q2] W ∧ Box W wr.heap.size 48 #[.int .i64 (1 + (ro : Int)), .int .i64 (ri : Int), .slice va dn vc]) := ⟨HI.out.below hbW, hxW⟩
    clear hbW hxW HSL HMN
    obtain ⟨pe, hpe⟩ : ∃ z, z = pE t (1 + (ro : Int), (ri : Int), dd) := ⟨_, rfl⟩
    have HPE : Hid (pe = pE t (1 + (ro : Int), (ri : Int), dd)) := hpe
    have HC := put_any 0 0 [.slice a1 n1 c1, .slice b1 m1 d1, .slice e1 k1 f1, .int .i64 q1] t [.int .i64 (1 + (ro : Int)), .int .i64 (ri : Int), .slice va dn vc] (1 + (ro : Int), (ri : Int), dd) W HW.out.1.liesA (bkN.below HBK.out.1 HW.out.1.1) (Nat.zero_le _)
    rw [← hpe] at HC
    obtain ⟨y0, y1, y2, y3, -⟩ := HW.out.1.2.1.four
    obtain ⟨x0, x1, x2, -⟩ := HW.out.2.three
    clear hpe
    go_wp2_with fail
    clear y0 y1 y2 y3 x0 x1 x2
    refine HC.mono ?_
    rintro e9 w4 ⟨⟨us9, rfl, ho9⟩, hb9⟩
    obtain ⟨a3, n3, c3, b3, m3, d3, e3, k3, f3, q3, rfl⟩ := st_fl ho9
    obtain ⟨V4, hV4⟩ : ∃ V, V = w4.alloc (.cells #[.slice a3 n3 c3, .slice b3 m3 d3, .slice e3 k3 f3, .int .i64 q3] 31) := ⟨_, rfl⟩
    have hbV4 : Below w4.heap.size w4 V4 := by rw [hV4]; exact (Below.refl _ _).alloc (Nat.le_refl _) _
    have h45 := below_any hb9 hbV4
    have H4 : Hid (TI w Ba Bb t [.slice a1 n1 c1, .slice b1 m1 d1, .slice e1 k1 f1, .int .i64 q1] [.slice a2 n2 c2, .slice b2 m2 d2, .slice e2 k2 f2, .int .i64 q2] V4 ∧ Box V4 wr.heap.size 48 #[.int .i64 (1 + (ro : Int)), .int .i64 (ri : Int), .slice va dn vc] ∧ Box V4 w4.heap.size 31 #[.slice a3 n3 c3, .slice b3 m3 d3, .slice e3 k3 f3, .int .i64 q3] ∧ stN.owns W.heap.size V4 [.slice a3 n3 c3, .slice b3 m3 d3, .slice e3 k3 f3, .int .i64 q3] (pS t (1 + (ro : Int), (ri : Int), dd)) ∧ W.heap.size ≤ w4.heap.size) := ⟨HW.out.1.below h45, HW.out.2.below h45 HW.out.2.lt, by rw [hV4]; exact Box.new _ _ _, stN.obelow ho9 hbV4, hb9.size⟩
    clear HC ho9 hb9 hbV4 h45
    go_upto_region 13 with fail
    rw [← hV4]
    clear hV4
    have HC := put_any 0 0 [.slice a2 n2 c2, .slice b2 m2 d2, .slice e2 k2 f2, .int .i64 q2] t [.int .i64 (1 + (ro : Int)), .int .i64 (ri : Int), .slice va dn vc] (1 + (ro : Int), (ri : Int), dd) V4 H4.out.1.liesB (bkN.below HBK.out.1 H4.out.1.1) (Nat.zero_le _)
    rw [← HPE.out] at HC
    obtain ⟨y0, y1, y2, y3, -⟩ := H4.out.1.2.2.1.four
    obtain ⟨x0, x1, x2, -⟩ := H4.out.2.1.three
    go_wp2_with fail
    clear y0 y1 y2 y3 x0 x1 x2
    refine HC.mono ?_
    rintro e9 w5 ⟨⟨us9, rfl, ho9⟩, hb9⟩
    obtain ⟨a4, n4, c4, b4, m4, d4, e4, k4, f4, q4, rfl⟩ := st_fl ho9
    obtain ⟨V5, hV5⟩ : ∃ V, V = w5.alloc (.cells #[.slice a4 n4 c4, .slice b4 m4 d4, .slice e4 k4 f4, .int .i64 q4] 31) := ⟨_, rfl⟩
    have hbV5 : Below w5.heap.size w5 V5 := by rw [hV5]; exact (Below.refl _ _).alloc (Nat.le_refl _) _
    have h45 := below_any hb9 hbV5
    obtain ⟨Bs, hBs⟩ : ∃ B, B = w4.heap.size := ⟨_, rfl⟩
    obtain ⟨Bt, hBt⟩ : ∃ B, B = w5.heap.size := ⟨_, rfl⟩
    have HT : Hid (TM w Ba Bb Bs Bt t [.slice a1 n1 c1, .slice b1 m1 d1, .slice e1 k1 f1, .int .i64 q1] [.slice a2 n2 c2, .slice b2 m2 d2, .slice e2 k2 f2, .int .i64 q2] [.slice a3 n3 c3, .slice b3 m3 d3, .slice e3 k3 f3, .int .i64 q3] [.slice a4 n4 c4, .slice b4 m4 d4, .slice e4 k4 f4, .int .i64 q4] V5) := by
      rw [hBs, hBt]
      exact ⟨H4.out.1.below h45, H4.out.2.2.1.below h45 H4.out.2.2.1.lt, by rw [hV5]; exact Box.new _ _ _⟩
    have HO : Hid ((∃ b, stN.owns b V5 [.slice a3 n3 c3, .slice b3 m3 d3, .slice e3 k3 f3, .int .i64 q3] (pS t (1 + (ro : Int), (ri : Int), dd))) ∧ (∃ b, stN.owns b V5 [.slice a4 n4 c4, .slice b4 m4 d4, .slice e4 k4 f4, .int .i64 q4] (pS t (1 + (ro : Int), (ri : Int), dd)))) := ⟨⟨_, stN.obelow H4.out.2.2.2.1 h45⟩, ⟨_, stN.obelow ho9 hbV5⟩⟩
    have HD : Hid (Dst w Ba Bb Bs Bt) := by
      have h1 := HW.out.1.2.1.lt
      have h2 := HW.out.1.2.2.1.lt
      have h3 := H4.out.2.2.2.2
      have h4 := H4.out.2.2.1.lt
      have h5 := hb9.size
      have h6 := HAB.out
      have h7 := HW.out.1.1.size
      rw [hBs, hBt]
      exact ⟨h6.1, h6.2.1, by omega, by omega, h6.2.2, by omega, by omega, by omega, by omega, by omega⟩
    clear HC ho9 hb9 hbV5 h45
    go_upto_region 14 with fail
    rw [← hV5, ← hBs, ← hBt]
    clear hV5 hBs hBt H4 HW
    have hpn : (pe != pe) = false := by simp
    go_upto_if 107 with fail
    clear hpn
    go_cut [] (fun wx => ∃ (t9 : St) (ua9 ub9 us9 ut9 : List Value), Hid (TM w Ba Bb Bs Bt t9 ua9 ub9 us9 ut9 wx ∧ us9.length = 4 ∧ ut9.length = 4))
    case first =>
      rename_i J K1 hJ hMt
      by_cases hpe : pe = 0
      case neg =>
        have hpb : (pe == 0) = false := by simpa using hpe
        have HN9 : Hid (TM w Ba Bb Bs Bt t [.slice a1 n1 c1, .slice b1 m1 d1, .slice e1 k1 f1, .int .i64 q1] [.slice a2 n2 c2, .slice b2 m2 d2, .slice e2 k2 f2, .int .i64 q2] [.slice a3 n3 c3, .slice b3 m3 d3, .slice e3 k3 f3, .int .i64 q3] [.slice a4 n4 c4, .slice b4 m4 d4, .slice e4 k4 f4, .int .i64 q4] V5) := HT.out
        go_wp2_with fail
        refine Go.Met.intro (hJ _ _ ?_)
        (repeat (refine Exists.intro ?_ ?_; rotate_left 1))
        refine ⟨?rel5, ?fr5⟩
        case fr5 => rfl
        case rel5 => exact ⟨_, _, _, _, _, HN9.out, rfl, rfl⟩
      subst hpe
      obtain ⟨Y, hY⟩ : ∃ Y, Y = V5.drew := ⟨_, rfl⟩
      have hYb : Below V5.heap.size V5 Y := by rw [hY]; exact (Below.refl _ _).drew
      have hYT := HT.out.below hYb
      obtain ⟨Q1, hQ1⟩ : ∃ Q, Q = (((Y.setCell ⟨Ba, 0, none⟩ (.slice a3 n3 c3)).setCell ⟨Ba, 1, none⟩ (.slice b3 m3 d3)).setCell ⟨Ba, 2, none⟩ (.slice e3 k3 f3)).setCell ⟨Ba, 3, none⟩ (.int .i64 q3) := ⟨_, rfl⟩
      obtain ⟨Q2, hQ2⟩ : ∃ Q, Q = (((Q1.setCell ⟨Bb, 0, none⟩ (.slice a4 n4 c4)).setCell ⟨Bb, 1, none⟩ (.slice b4 m4 d4)).setCell ⟨Bb, 2, none⟩ (.slice e4 k4 f4)).setCell ⟨Bb, 3, none⟩ (.int .i64 q4) := ⟨_, rfl⟩
      obtain ⟨hP1, hP2, hP3, hP4⟩ := hYT.pair (t' := (pS t (1 + (ro : Int), (ri : Int), dd))) HD.out (let ⟨b, h9⟩ := HO.out.1; ⟨b, stN.obelow h9 hYb⟩) (let ⟨b, h9⟩ := HO.out.2; ⟨b, stN.obelow h9 hYb⟩) (pS_ok HPE.out.symm) Q1 Q2 hQ1 hQ2
      have HQ2 : Hid (TM w Ba Bb Bs Bt (pS t (1 + (ro : Int), (ri : Int), dd)) [.slice a3 n3 c3, .slice b3 m3 d3, .slice e3 k3 f3, .int .i64 q3] [.slice a4 n4 c4, .slice b4 m4 d4, .slice e4 k4 f4, .int .i64 q4] [.slice a3 n3 c3, .slice b3 m3 d3, .slice e3 k3 f3, .int .i64 q3] [.slice a4 n4 c4, .slice b4 m4 d4, .slice e4 k4 f4, .int .i64 q4] Q2) := hP1
      have HSC : Hid (∀ V, Box V Bs 31 #[.slice a3 n3 c3, .slice b3 m3 d3, .slice e3 k3 f3, .int .i64 q3] → Box V Bt 31 #[.slice a4 n4 c4, .slice b4 m4 d4, .slice e4 k4 f4, .int .i64 q4] → V.cell? ⟨Bs, 0, none⟩ = some (.slice a3 n3 c3) ∧ V.cell? ⟨Bs, 1, none⟩ = some (.slice b3 m3 d3) ∧ V.cell? ⟨Bs, 2, none⟩ = some (.slice e3 k3 f3) ∧ V.cell? ⟨Bs, 3, none⟩ = some (.int .i64 q3) ∧ V.cell? ⟨Bt, 0, none⟩ = some (.slice a4 n4 c4) ∧ V.cell? ⟨Bt, 1, none⟩ = some (.slice b4 m4 d4) ∧ V.cell? ⟨Bt, 2, none⟩ = some (.slice e4 k4 f4) ∧ V.cell? ⟨Bt, 3, none⟩ = some (.int .i64 q4)) := fun V h1 h2 => ⟨h1.four.1, h1.four.2.1, h1.four.2.2.1, h1.four.2.2.2.1, h2.four.1, h2.four.2.1, h2.four.2.2.1, h2.four.2.2.2.1⟩
      have hSS := HSC.out Y hYT.2.1 hYT.2.2
      have hS1 := HSC.out Q1 hP2 hP3
      have hS2 := HSC.out Q2 hP1.2.1 hP1.2.2
      obtain ⟨uu0, uu1, uu2, uu3, vv0, vv1, vv2, vv3⟩ := hYT.1.2.1.four
      obtain ⟨pp0, pp1, pp2, pp3, ss0, ss1, ss2, ss3⟩ := hP4.four
      clear hYb hYT hP1 hP2 hP3 hP4 HSC
      go_upto_region 17 with fail
      refine AnyBut.begin (fun V => V.cell? ⟨Bs, 0, none⟩ = some (.slice a3 n3 c3) ∧ V.cell? ⟨Bs, 1, none⟩ = some (.slice b3 m3 d3) ∧ V.cell? ⟨Bs, 2, none⟩ = some (.slice e3 k3 f3) ∧ V.cell? ⟨Bs, 3, none⟩ = some (.int .i64 q3) ∧ V.cell? ⟨Bt, 0, none⟩ = some (.slice a4 n4 c4) ∧ V.cell? ⟨Bt, 1, none⟩ = some (.slice b4 m4 d4) ∧ V.cell? ⟨Bt, 2, none⟩ = some (.slice e4 k4 f4) ∧ V.cell? ⟨Bt, 3, none⟩ = some (.int .i64 q4)) 1000 (by kernel_rfl) ?_
      rw [← hY]
      clear hY
      refine tx 0 108 hSS ?_
      simp only [ua, ub, uc, ud]
      refine tx 1 109 hSS ?_
      simp only [ua, ub, uc, ud]
      refine AnyBut.step (i := 2) (by kernel_rfl) rfl (fun K hK => ?_)
      go_simp
      rw [← hQ1]
      refine hK.out _ _ hS1 ?_
      clear hK hSS uu0 uu1 uu2 uu3 vv0 vv1 vv2 vv3 hQ1
      refine AnyBut.step (i := 3) (by kernel_rfl) rfl (fun K hK => ?_)
      go_simp
      rw [← hQ2]
      refine hK.out _ _ hS2 ?_
      clear hK hS1 hS2 pp0 pp1 pp2 pp3 ss0 ss1 ss2 ss3 hQ2
      refine AnyBut.done (by kernel_rfl) ?_
      go_wp2_with fail
      refine Go.Met.intro (hJ _ _ ?_)
      (repeat (refine Exists.intro ?_ ?_; rotate_left 1))
      refine ⟨?rel6, ?fr6⟩
      case fr6 => rfl
      case rel6 => exact ⟨_, _, _, _, _, HQ2.out, rfl, rfl⟩
    case rest =>
      clear HT HO HPE HBK HAD HI
      obtain ⟨t9, ua9, ub9, us9, ut9, HX⟩ := hcut
      obtain ⟨V6, hV6⟩ : ∃ U, U = wc := ⟨_, rfl⟩
      rw [← hV6] at HX ⊢
      clear hV6
      obtain ⟨a1, n1, c1, b1, m1, d1, e1, k1, f1, q1, rfl⟩ := (let ⟨b, h9⟩ := HX.out.1.1.2.2.2.1; st_fl h9)
      obtain ⟨a2, n2, c2, b2, m2, d2, e2, k2, f2, q2, rfl⟩ := (let ⟨b, h9⟩ := HX.out.1.1.2.2.2.2.1; st_fl h9)
      obtain ⟨x1, x2, x3, x4, rfl⟩ : ∃ x1 x2 x3 x4, us9 = [x1, x2, x3, x4] := four_of HX.out.2.1
      obtain ⟨x5, x6, x7, x8, rfl⟩ : ∃ x1 x2 x3 x4, ut9 = [x1, x2, x3, x4] := four_of HX.out.2.2
      have HT : Hid (TM w Ba Bb Bs Bt t9 [.slice a1 n1 c1, .slice b1 m1 d1, .slice e1 k1 f1, .int .i64 q1] [.slice a2 n2 c2, .slice b2 m2 d2, .slice e2 k2 f2, .int .i64 q2] [x1, x2, x3, x4] [x5, x6, x7, x8] V6) := HX.out.1
      clear HX
      have hN1 : 1 ≤ N := HN.out.1
      have hN0 : ¬ (N : Int) = 0 := by omega
      have hN2 : ¬ N = 0 := by omega
      by_cases hm : (j : Int) % (N : Int) = 0
      case neg =>
        have hmb : ((j : Int) % (N : Int) == 0) = false := by simpa using hm
        have HE : Hid (TI w Ba Bb t9 [.slice a1 n1 c1, .slice b1 m1 d1, .slice e1 k1 f1, .int .i64 q1] [.slice a2 n2 c2, .slice b2 m2 d2, .slice e2 k2 f2, .int .i64 q2] V6) := HT.out.1
        go_wp2_with fail
        go_roundw
        case rel => exact ⟨j + 1, _, _, _, by omega, by omega, by go_num, HE.out⟩
        case measure => simp [intOf]; omega
      obtain ⟨se, hse⟩ : ∃ z, z = sE t9 := ⟨_, rfl⟩
      obtain ⟨sp, hsp⟩ : ∃ z, z = sP t9 := ⟨_, rfl⟩
      have HSE : Hid (se = sE t9 ∧ sp = sP t9) := ⟨hse, hsp⟩
      clear hse hsp
      have HC := seal_any 0 [.slice a1 n1 c1, .slice b1 m1 d1, .slice e1 k1 f1, .int .i64 q1] t9 V6 HT.out.1.liesA
      rw [← HSE.out.1, ← HSE.out.2] at HC
      obtain ⟨y0, y1, y2, y3, -⟩ := HT.out.1.2.1.four
      go_wp2_with fail
      clear y0 y1 y2 y3
      refine HC.mono ?_
      rintro e9 w7 ⟨⟨us9, rfl, ho9⟩, hb9⟩
      obtain ⟨a3, n3, c3, b3, m3, d3, e3, k3, f3, q3, rfl⟩ := st_fl ho9
      have hTw := HT.out.below hb9
      obtain ⟨X7, hX7⟩ : ∃ X, X = (((w7.setCell ⟨Bs, 0, none⟩ (.slice a3 n3 c3)).setCell ⟨Bs, 1, none⟩ (.slice b3 m3 d3)).setCell ⟨Bs, 2, none⟩ (.slice e3 k3 f3)).setCell ⟨Bs, 3, none⟩ (.int .i64 q3) := ⟨_, rfl⟩
      have hoX : stN.owns V6.heap.size X7 [.slice a3 n3 c3, .slice b3 m3 d3, .slice e3 k3 f3, .int .i64 q3] (sS t9) := by rw [hX7]; exact own_set4 stN (by decide) ho9 hTw.2.1 _ _ _ _

      have HTn : Hid (TM w Ba Bb Bs Bt t9 [.slice a1 n1 c1, .slice b1 m1 d1, .slice e1 k1 f1, .int .i64 q1] [.slice a2 n2 c2, .slice b2 m2 d2, .slice e2 k2 f2, .int .i64 q2] [.slice a3 n3 c3, .slice b3 m3 d3, .slice e3 k3 f3, .int .i64 q3] [x5, x6, x7, x8] X7) := by rw [hX7]; exact hTw.setS HD.out _ _ _ _

      obtain ⟨g0, g1, g2, g3, l0, l1, l2, l3⟩ := hTw.2.1.four
      have HO1 : Hid (∃ b, stN.owns b X7 [.slice a3 n3 c3, .slice b3 m3 d3, .slice e3 k3 f3, .int .i64 q3] (sS t9)) := ⟨_, hoX⟩
      clear HC ho9 hb9 hTw hoX HT
      have HT : Hid (TM w Ba Bb Bs Bt t9 [.slice a1 n1 c1, .slice b1 m1 d1, .slice e1 k1 f1, .int .i64 q1] [.slice a2 n2 c2, .slice b2 m2 d2, .slice e2 k2 f2, .int .i64 q2] [.slice a3 n3 c3, .slice b3 m3 d3, .slice e3 k3 f3, .int .i64 q3] [x5, x6, x7, x8] X7) := HTn.out

      clear HTn
      go_upto_region 20 with fail
      rw [← hX7]
      clear hX7 g0 g1 g2 g3 l0 l1 l2 l3
      have HC := seal_any 0 [.slice a2 n2 c2, .slice b2 m2 d2, .slice e2 k2 f2, .int .i64 q2] t9 X7 HT.out.1.liesB
      rw [← HSE.out.1, ← HSE.out.2] at HC
      obtain ⟨y0, y1, y2, y3, -⟩ := HT.out.1.2.2.1.four
      go_wp2_with fail
      clear y0 y1 y2 y3
      refine HC.mono ?_
      rintro e9 w8 ⟨⟨us9, rfl, ho9⟩, hb9⟩
      obtain ⟨a4, n4, c4, b4, m4, d4, e4, k4, f4, q4, rfl⟩ := st_fl ho9
      have hTw := HT.out.below hb9
      obtain ⟨X8, hX8⟩ : ∃ X, X = (((w8.setCell ⟨Bt, 0, none⟩ (.slice a4 n4 c4)).setCell ⟨Bt, 1, none⟩ (.slice b4 m4 d4)).setCell ⟨Bt, 2, none⟩ (.slice e4 k4 f4)).setCell ⟨Bt, 3, none⟩ (.int .i64 q4) := ⟨_, rfl⟩
      have hoX : stN.owns X7.heap.size X8 [.slice a4 n4 c4, .slice b4 m4 d4, .slice e4 k4 f4, .int .i64 q4] (sS t9) := by rw [hX8]; exact own_set4 stN (by decide) ho9 hTw.2.2 _ _ _ _
      have hoY : ∃ b, stN.owns b X8 [.slice a3 n3 c3, .slice b3 m3 d3, .slice e3 k3 f3, .int .i64 q3] (sS t9) := by rw [hX8]; exact (let ⟨b, h9⟩ := HO1.out; ⟨b, own_set4 stN (by decide) (stN.obelow h9 hb9) hTw.2.2 _ _ _ _⟩)
      have HTn : Hid (TM w Ba Bb Bs Bt t9 [.slice a1 n1 c1, .slice b1 m1 d1, .slice e1 k1 f1, .int .i64 q1] [.slice a2 n2 c2, .slice b2 m2 d2, .slice e2 k2 f2, .int .i64 q2] [.slice a3 n3 c3, .slice b3 m3 d3, .slice e3 k3 f3, .int .i64 q3] [.slice a4 n4 c4, .slice b4 m4 d4, .slice e4 k4 f4, .int .i64 q4] X8) := by rw [hX8]; exact hTw.setT HD.out _ _ _ _

      obtain ⟨g0, g1, g2, g3, l0, l1, l2, l3⟩ := hTw.2.2.four
      have HO : Hid ((∃ b, stN.owns b X8 [.slice a3 n3 c3, .slice b3 m3 d3, .slice e3 k3 f3, .int .i64 q3] (sS t9)) ∧ (∃ b, stN.owns b X8 [.slice a4 n4 c4, .slice b4 m4 d4, .slice e4 k4 f4, .int .i64 q4] (sS t9))) := ⟨hoY, ⟨_, hoX⟩⟩
      clear HC ho9 hb9 hTw hoX HT hoY HO1
      have HT : Hid (TM w Ba Bb Bs Bt t9 [.slice a1 n1 c1, .slice b1 m1 d1, .slice e1 k1 f1, .int .i64 q1] [.slice a2 n2 c2, .slice b2 m2 d2, .slice e2 k2 f2, .int .i64 q2] [.slice a3 n3 c3, .slice b3 m3 d3, .slice e3 k3 f3, .int .i64 q3] [.slice a4 n4 c4, .slice b4 m4 d4, .slice e4 k4 f4, .int .i64 q4] X8) := HTn.out

      clear HTn
      go_upto_region 21 with fail
      rw [← hX8]
      clear hX8 g0 g1 g2 g3 l0 l1 l2 l3
      have hsn : (se != se) = false := by simp
      have hspn : ((sp : Int) != (sp : Int)) = false := by simp
      go_upto_if 135 with fail
      clear hsn hspn hm hN0 hN2
      go_cut [] (fun wx => ∃ (t9 : St) (ua9 ub9 us9 ut9 : List Value), Hid (TM w Ba Bb Bs Bt t9 ua9 ub9 us9 ut9 wx ∧ us9.length = 4 ∧ ut9.length = 4))
      case first =>
        rename_i J K1 hJ hMt
        by_cases hpe : se = 0
        case neg =>
          have hpb : (se == 0) = false := by simpa using hpe
          have HN9 : Hid (TM w Ba Bb Bs Bt t9 [.slice a1 n1 c1, .slice b1 m1 d1, .slice e1 k1 f1, .int .i64 q1] [.slice a2 n2 c2, .slice b2 m2 d2, .slice e2 k2 f2, .int .i64 q2] [.slice a3 n3 c3, .slice b3 m3 d3, .slice e3 k3 f3, .int .i64 q3] [.slice a4 n4 c4, .slice b4 m4 d4, .slice e4 k4 f4, .int .i64 q4] X8) := HT.out
          go_wp2_with fail
          refine Go.Met.intro (hJ _ _ ?_)
          (repeat (refine Exists.intro ?_ ?_; rotate_left 1))
          refine ⟨?rel7, ?fr7⟩
          case fr7 => rfl
          case rel7 => exact ⟨_, _, _, _, _, HN9.out, rfl, rfl⟩
        subst hpe
        obtain ⟨Y, hY⟩ : ∃ Y, Y = X8.drew := ⟨_, rfl⟩
        have hYb : Below X8.heap.size X8 Y := by rw [hY]; exact (Below.refl _ _).drew
        have hYT := HT.out.below hYb
        obtain ⟨Q1, hQ1⟩ : ∃ Q, Q = (((Y.setCell ⟨Ba, 0, none⟩ (.slice a3 n3 c3)).setCell ⟨Ba, 1, none⟩ (.slice b3 m3 d3)).setCell ⟨Ba, 2, none⟩ (.slice e3 k3 f3)).setCell ⟨Ba, 3, none⟩ (.int .i64 q3) := ⟨_, rfl⟩
        obtain ⟨Q2, hQ2⟩ : ∃ Q, Q = (((Q1.setCell ⟨Bb, 0, none⟩ (.slice a4 n4 c4)).setCell ⟨Bb, 1, none⟩ (.slice b4 m4 d4)).setCell ⟨Bb, 2, none⟩ (.slice e4 k4 f4)).setCell ⟨Bb, 3, none⟩ (.int .i64 q4) := ⟨_, rfl⟩
        obtain ⟨hP1, hP2, hP3, hP4⟩ := hYT.pair (t' := (sS t9)) HD.out (let ⟨b, h9⟩ := HO.out.1; ⟨b, stN.obelow h9 hYb⟩) (let ⟨b, h9⟩ := HO.out.2; ⟨b, stN.obelow h9 hYb⟩) (sS_ok HSE.out.1.symm) Q1 Q2 hQ1 hQ2
        have HQ2 : Hid (TM w Ba Bb Bs Bt (sS t9) [.slice a3 n3 c3, .slice b3 m3 d3, .slice e3 k3 f3, .int .i64 q3] [.slice a4 n4 c4, .slice b4 m4 d4, .slice e4 k4 f4, .int .i64 q4] [.slice a3 n3 c3, .slice b3 m3 d3, .slice e3 k3 f3, .int .i64 q3] [.slice a4 n4 c4, .slice b4 m4 d4, .slice e4 k4 f4, .int .i64 q4] Q2) := hP1
        have HSC : Hid (∀ V, Box V Bs 31 #[.slice a3 n3 c3, .slice b3 m3 d3, .slice e3 k3 f3, .int .i64 q3] → Box V Bt 31 #[.slice a4 n4 c4, .slice b4 m4 d4, .slice e4 k4 f4, .int .i64 q4] → V.cell? ⟨Bs, 0, none⟩ = some (.slice a3 n3 c3) ∧ V.cell? ⟨Bs, 1, none⟩ = some (.slice b3 m3 d3) ∧ V.cell? ⟨Bs, 2, none⟩ = some (.slice e3 k3 f3) ∧ V.cell? ⟨Bs, 3, none⟩ = some (.int .i64 q3) ∧ V.cell? ⟨Bt, 0, none⟩ = some (.slice a4 n4 c4) ∧ V.cell? ⟨Bt, 1, none⟩ = some (.slice b4 m4 d4) ∧ V.cell? ⟨Bt, 2, none⟩ = some (.slice e4 k4 f4) ∧ V.cell? ⟨Bt, 3, none⟩ = some (.int .i64 q4)) := fun V h1 h2 => ⟨h1.four.1, h1.four.2.1, h1.four.2.2.1, h1.four.2.2.2.1, h2.four.1, h2.four.2.1, h2.four.2.2.1, h2.four.2.2.2.1⟩
        have hSS := HSC.out Y hYT.2.1 hYT.2.2
        have hS1 := HSC.out Q1 hP2 hP3
        have hS2 := HSC.out Q2 hP1.2.1 hP1.2.2
        obtain ⟨uu0, uu1, uu2, uu3, vv0, vv1, vv2, vv3⟩ := hYT.1.2.1.four
        obtain ⟨pp0, pp1, pp2, pp3, ss0, ss1, ss2, ss3⟩ := hP4.four
        clear hYb hYT hP1 hP2 hP3 hP4 HSC
        go_upto_region 24 with fail
        refine AnyBut.begin (fun V => V.cell? ⟨Bs, 0, none⟩ = some (.slice a3 n3 c3) ∧ V.cell? ⟨Bs, 1, none⟩ = some (.slice b3 m3 d3) ∧ V.cell? ⟨Bs, 2, none⟩ = some (.slice e3 k3 f3) ∧ V.cell? ⟨Bs, 3, none⟩ = some (.int .i64 q3) ∧ V.cell? ⟨Bt, 0, none⟩ = some (.slice a4 n4 c4) ∧ V.cell? ⟨Bt, 1, none⟩ = some (.slice b4 m4 d4) ∧ V.cell? ⟨Bt, 2, none⟩ = some (.slice e4 k4 f4) ∧ V.cell? ⟨Bt, 3, none⟩ = some (.int .i64 q4)) 1000 (by kernel_rfl) ?_
        rw [← hY]
        clear hY
        refine tx 0 136 hSS ?_
        simp only [ua, ub, uc, ud]
        refine tx 1 137 hSS ?_
        simp only [ua, ub, uc, ud]
        refine AnyBut.step (i := 2) (by kernel_rfl) rfl (fun K hK => ?_)
        go_simp
        rw [← hQ1]
        refine hK.out _ _ hS1 ?_
        clear hK hSS uu0 uu1 uu2 uu3 vv0 vv1 vv2 vv3 hQ1
        refine AnyBut.step (i := 3) (by kernel_rfl) rfl (fun K hK => ?_)
        go_simp
        rw [← hQ2]
        refine hK.out _ _ hS2 ?_
        clear hK hS1 hS2 pp0 pp1 pp2 pp3 ss0 ss1 ss2 ss3 hQ2
        refine AnyBut.done (by kernel_rfl) ?_
        go_wp2_with fail
        refine Go.Met.intro (hJ _ _ ?_)
        (repeat (refine Exists.intro ?_ ?_; rotate_left 1))
        refine ⟨?rel8, ?fr8⟩
        case fr8 => rfl
        case rel8 => exact ⟨_, _, _, _, _, HQ2.out, rfl, rfl⟩
      case rest =>
        clear HT HO HSE
        obtain ⟨t8, ua9, ub9, us9, ut9, HX⟩ := hcut
        obtain ⟨V9, hV9⟩ : ∃ U, U = wc := ⟨_, rfl⟩
        rw [← hV9] at HX ⊢
        clear hV9
        obtain ⟨a1, n1, c1, b1, m1, d1, e1, k1, f1, q1, rfl⟩ := (let ⟨b, h9⟩ := HX.out.1.1.2.2.2.1; st_fl h9)
        obtain ⟨a2, n2, c2, b2, m2, d2, e2, k2, f2, q2, rfl⟩ := (let ⟨b, h9⟩ := HX.out.1.1.2.2.2.2.1; st_fl h9)
        obtain ⟨x1, x2, x3, x4, rfl⟩ : ∃ x1 x2 x3 x4, us9 = [x1, x2, x3, x4] := four_of HX.out.2.1
        obtain ⟨x5, x6, x7, x8, rfl⟩ : ∃ x1 x2 x3 x4, ut9 = [x1, x2, x3, x4] := four_of HX.out.2.2
        have HT : Hid (TM w Ba Bb Bs Bt t8 [.slice a1 n1 c1, .slice b1 m1 d1, .slice e1 k1 f1, .int .i64 q1] [.slice a2 n2 c2, .slice b2 m2 d2, .slice e2 k2 f2, .int .i64 q2] [x1, x2, x3, x4] [x5, x6, x7, x8] V9) := HX.out.1
        clear HX
        obtain ⟨vn, h3⟩ : ∃ z, z = vA t8 := ⟨_, rfl⟩
        obtain ⟨vv, h4⟩ : ∃ z, z = vQ t8 := ⟨_, rfl⟩
        obtain ⟨ve, h5⟩ : ∃ z, z = vE t8 := ⟨_, rfl⟩
        obtain ⟨ce, h6⟩ : ∃ z, z = clE t8 (vn : Int) vv := ⟨_, rfl⟩
        have HVE : Hid (ce = clE t8 (vn : Int) vv) := h6
        have HC := victim_any 0 [.slice a1 n1 c1, .slice b1 m1 d1, .slice e1 k1 f1, .int .i64 q1] t8 V9 HT.out.1.liesA
        rw [← h3, ← h4, ← h5] at HC
        obtain ⟨y0, y1, y2, y3, -⟩ := HT.out.1.2.1.four
        clear h3 h4 h5 h6
        go_wp2_with fail
        clear y0 y1 y2 y3
        refine HC.mono ?_
        rintro e9 w9 ⟨rfl, hb9⟩
        obtain ⟨V10, hV10⟩ : ∃ X, X = w9.alloc (.cells #[.int .i64 (vn : Int), .int .i64 vv] 34) := ⟨_, rfl⟩
        have hb10 : Below V9.heap.size V9 V10 := by rw [hV10]; exact below_any hb9 ((Below.refl _ _).alloc (Nat.le_refl _) _)
        have HT0 : Hid (TM w Ba Bb Bs Bt t8 [.slice a1 n1 c1, .slice b1 m1 d1, .slice e1 k1 f1, .int .i64 q1] [.slice a2 n2 c2, .slice b2 m2 d2, .slice e2 k2 f2, .int .i64 q2] [x1, x2, x3, x4] [x5, x6, x7, x8] V10 ∧ Box V10 w9.heap.size 34 #[.int .i64 (vn : Int), .int .i64 vv]) := ⟨HT.out.below hb10, by rw [hV10]; exact Box.new _ _ _⟩
        clear HC hb9 hb10 HT
        go_upto_region 26 with fail
        rw [← hV10]
        clear hV10
        by_cases hve : ve = 0
        case neg =>
          have hvb : (ve == 0) = false := by simpa using hve
          have HE : Hid (TI w Ba Bb t8 [.slice a1 n1 c1, .slice b1 m1 d1, .slice e1 k1 f1, .int .i64 q1] [.slice a2 n2 c2, .slice b2 m2 d2, .slice e2 k2 f2, .int .i64 q2] V10) := HT0.out.1.1
          go_wp2_with fail
          go_roundw
          case rel => exact ⟨j + 1, _, _, _, by omega, by omega, by go_num, HE.out⟩
          case measure => simp [intOf]; omega
        subst hve
        have HT : Hid (TM w Ba Bb Bs Bt t8 [.slice a1 n1 c1, .slice b1 m1 d1, .slice e1 k1 f1, .int .i64 q1] [.slice a2 n2 c2, .slice b2 m2 d2, .slice e2 k2 f2, .int .i64 q2] [x1, x2, x3, x4] [x5, x6, x7, x8] V10) := HT0.out.1
        have HR : Hid (Box V10 w9.heap.size 34 #[.int .i64 (vn : Int), .int .i64 vv]) := HT0.out.2
        clear HT0
        have HC := clean_any 0 [.slice a1 n1 c1, .slice b1 m1 d1, .slice e1 k1 f1, .int .i64 q1] t8 (vn : Int) vv V10 HT.out.1.liesA
        rw [← HVE.out] at HC
        obtain ⟨y0, y1, y2, y3, -⟩ := HT.out.1.2.1.four
        obtain ⟨r0, r1, -⟩ := HR.out.two
        go_wp2_with fail
        clear y0 y1 y2 y3 r0 r1
        refine HC.mono ?_
        rintro e9 w11 ⟨⟨us9, rfl, ho9⟩, hb9⟩
        obtain ⟨a3, n3, c3, b3, m3, d3, e3, k3, f3, q3, rfl⟩ := st_fl ho9
        have hTw := HT.out.below hb9
        obtain ⟨X11, hX11⟩ : ∃ X, X = (((w11.setCell ⟨Bs, 0, none⟩ (.slice a3 n3 c3)).setCell ⟨Bs, 1, none⟩ (.slice b3 m3 d3)).setCell ⟨Bs, 2, none⟩ (.slice e3 k3 f3)).setCell ⟨Bs, 3, none⟩ (.int .i64 q3) := ⟨_, rfl⟩
        have hoX : stN.owns V10.heap.size X11 [.slice a3 n3 c3, .slice b3 m3 d3, .slice e3 k3 f3, .int .i64 q3] (clS t8 (vn : Int) vv) := by rw [hX11]; exact own_set4 stN (by decide) ho9 hTw.2.1 _ _ _ _

        have HTn : Hid (TM w Ba Bb Bs Bt t8 [.slice a1 n1 c1, .slice b1 m1 d1, .slice e1 k1 f1, .int .i64 q1] [.slice a2 n2 c2, .slice b2 m2 d2, .slice e2 k2 f2, .int .i64 q2] [.slice a3 n3 c3, .slice b3 m3 d3, .slice e3 k3 f3, .int .i64 q3] [x5, x6, x7, x8] X11) := by rw [hX11]; exact hTw.setS HD.out _ _ _ _
        have HR2 : Hid (Box X11 w9.heap.size 34 #[.int .i64 (vn : Int), .int .i64 vv]) := by rw [hX11]; exact oth4 (HR.out.below hb9 HR.out.lt) (fun e => by have h1 := HR.out.below hb9 HR.out.lt; have h2 := hTw.2.1; unfold Box at h1 h2; rw [e, h2] at h1; simp at h1) _ _ _ _
        obtain ⟨g0, g1, g2, g3, l0, l1, l2, l3⟩ := hTw.2.1.four
        have HO1 : Hid (∃ b, stN.owns b X11 [.slice a3 n3 c3, .slice b3 m3 d3, .slice e3 k3 f3, .int .i64 q3] (clS t8 (vn : Int) vv)) := ⟨_, hoX⟩
        clear HC ho9 hb9 hTw hoX HT HR
        have HT : Hid (TM w Ba Bb Bs Bt t8 [.slice a1 n1 c1, .slice b1 m1 d1, .slice e1 k1 f1, .int .i64 q1] [.slice a2 n2 c2, .slice b2 m2 d2, .slice e2 k2 f2, .int .i64 q2] [.slice a3 n3 c3, .slice b3 m3 d3, .slice e3 k3 f3, .int .i64 q3] [x5, x6, x7, x8] X11) := HTn.out
        have HR : Hid (Box X11 w9.heap.size 34 #[.int .i64 (vn : Int), .int .i64 vv]) := HR2.out
        clear HTn HR2
        go_upto_region 28 with fail
        rw [← hX11]
        clear hX11 g0 g1 g2 g3 l0 l1 l2 l3
        have HC := clean_any 0 [.slice a2 n2 c2, .slice b2 m2 d2, .slice e2 k2 f2, .int .i64 q2] t8 (vn : Int) vv X11 HT.out.1.liesB
        rw [← HVE.out] at HC
        obtain ⟨y0, y1, y2, y3, -⟩ := HT.out.1.2.2.1.four
        obtain ⟨r0, r1, -⟩ := HR.out.two
        go_wp2_with fail
        clear y0 y1 y2 y3 r0 r1
        refine HC.mono ?_
        rintro e9 w12 ⟨⟨us9, rfl, ho9⟩, hb9⟩
        obtain ⟨a4, n4, c4, b4, m4, d4, e4, k4, f4, q4, rfl⟩ := st_fl ho9
        have hTw := HT.out.below hb9
        obtain ⟨X12, hX12⟩ : ∃ X, X = (((w12.setCell ⟨Bt, 0, none⟩ (.slice a4 n4 c4)).setCell ⟨Bt, 1, none⟩ (.slice b4 m4 d4)).setCell ⟨Bt, 2, none⟩ (.slice e4 k4 f4)).setCell ⟨Bt, 3, none⟩ (.int .i64 q4) := ⟨_, rfl⟩
        have hoX : stN.owns X11.heap.size X12 [.slice a4 n4 c4, .slice b4 m4 d4, .slice e4 k4 f4, .int .i64 q4] (clS t8 (vn : Int) vv) := by rw [hX12]; exact own_set4 stN (by decide) ho9 hTw.2.2 _ _ _ _
        have hoY : ∃ b, stN.owns b X12 [.slice a3 n3 c3, .slice b3 m3 d3, .slice e3 k3 f3, .int .i64 q3] (clS t8 (vn : Int) vv) := by rw [hX12]; exact (let ⟨b, h9⟩ := HO1.out; ⟨b, own_set4 stN (by decide) (stN.obelow h9 hb9) hTw.2.2 _ _ _ _⟩)
        have HTn : Hid (TM w Ba Bb Bs Bt t8 [.slice a1 n1 c1, .slice b1 m1 d1, .slice e1 k1 f1, .int .i64 q1] [.slice a2 n2 c2, .slice b2 m2 d2, .slice e2 k2 f2, .int .i64 q2] [.slice a3 n3 c3, .slice b3 m3 d3, .slice e3 k3 f3, .int .i64 q3] [.slice a4 n4 c4, .slice b4 m4 d4, .slice e4 k4 f4, .int .i64 q4] X12) := by rw [hX12]; exact hTw.setT HD.out _ _ _ _
        have HR2 : Hid (Box X12 w9.heap.size 34 #[.int .i64 (vn : Int), .int .i64 vv]) := by rw [hX12]; exact oth4 (HR.out.below hb9 HR.out.lt) (fun e => by have h1 := HR.out.below hb9 HR.out.lt; have h2 := hTw.2.2; unfold Box at h1 h2; rw [e, h2] at h1; simp at h1) _ _ _ _
        obtain ⟨g0, g1, g2, g3, l0, l1, l2, l3⟩ := hTw.2.2.four
        have HO : Hid ((∃ b, stN.owns b X12 [.slice a3 n3 c3, .slice b3 m3 d3, .slice e3 k3 f3, .int .i64 q3] (clS t8 (vn : Int) vv)) ∧ (∃ b, stN.owns b X12 [.slice a4 n4 c4, .slice b4 m4 d4, .slice e4 k4 f4, .int .i64 q4] (clS t8 (vn : Int) vv))) := ⟨hoY, ⟨_, hoX⟩⟩
        clear HC ho9 hb9 hTw hoX HT HR hoY HO1
        have HT : Hid (TM w Ba Bb Bs Bt t8 [.slice a1 n1 c1, .slice b1 m1 d1, .slice e1 k1 f1, .int .i64 q1] [.slice a2 n2 c2, .slice b2 m2 d2, .slice e2 k2 f2, .int .i64 q2] [.slice a3 n3 c3, .slice b3 m3 d3, .slice e3 k3 f3, .int .i64 q3] [.slice a4 n4 c4, .slice b4 m4 d4, .slice e4 k4 f4, .int .i64 q4] X12) := HTn.out
        have HR : Hid (Box X12 w9.heap.size 34 #[.int .i64 (vn : Int), .int .i64 vv]) := HR2.out
        clear HTn HR2
        go_upto_region 29 with fail
        rw [← hX12]
        clear hX12 g0 g1 g2 g3 l0 l1 l2 l3
        have hcn : (ce != ce) = false := by simp
        go_upto_region 31 with fail
        clear hcn
        by_cases hpe : ce = 0
        case neg =>
          have hpb : (ce == 0) = false := by simpa using hpe
          have HE : Hid (TI w Ba Bb t8 [.slice a1 n1 c1, .slice b1 m1 d1, .slice e1 k1 f1, .int .i64 q1] [.slice a2 n2 c2, .slice b2 m2 d2, .slice e2 k2 f2, .int .i64 q2] X12) := HT.out.1
          go_wp2_with fail
          go_roundw
          case rel => exact ⟨j + 1, _, _, _, by omega, by omega, by go_num, HE.out⟩
          case measure => simp [intOf]; omega
        subst hpe
        obtain ⟨Y, hY⟩ : ∃ Y, Y = X12.drew := ⟨_, rfl⟩
        have hYb : Below X12.heap.size X12 Y := by rw [hY]; exact (Below.refl _ _).drew
        have hYT := HT.out.below hYb
        obtain ⟨Q1, hQ1⟩ : ∃ Q, Q = (((Y.setCell ⟨Ba, 0, none⟩ (.slice a3 n3 c3)).setCell ⟨Ba, 1, none⟩ (.slice b3 m3 d3)).setCell ⟨Ba, 2, none⟩ (.slice e3 k3 f3)).setCell ⟨Ba, 3, none⟩ (.int .i64 q3) := ⟨_, rfl⟩
        obtain ⟨Q2, hQ2⟩ : ∃ Q, Q = (((Q1.setCell ⟨Bb, 0, none⟩ (.slice a4 n4 c4)).setCell ⟨Bb, 1, none⟩ (.slice b4 m4 d4)).setCell ⟨Bb, 2, none⟩ (.slice e4 k4 f4)).setCell ⟨Bb, 3, none⟩ (.int .i64 q4) := ⟨_, rfl⟩
        obtain ⟨hP1, hP2, hP3, hP4⟩ := hYT.pair (t' := (clS t8 (vn : Int) vv)) HD.out (let ⟨b, h9⟩ := HO.out.1; ⟨b, stN.obelow h9 hYb⟩) (let ⟨b, h9⟩ := HO.out.2; ⟨b, stN.obelow h9 hYb⟩) (clS_ok HVE.out.symm) Q1 Q2 hQ1 hQ2
        have HQ2 : Hid (TM w Ba Bb Bs Bt (clS t8 (vn : Int) vv) [.slice a3 n3 c3, .slice b3 m3 d3, .slice e3 k3 f3, .int .i64 q3] [.slice a4 n4 c4, .slice b4 m4 d4, .slice e4 k4 f4, .int .i64 q4] [.slice a3 n3 c3, .slice b3 m3 d3, .slice e3 k3 f3, .int .i64 q3] [.slice a4 n4 c4, .slice b4 m4 d4, .slice e4 k4 f4, .int .i64 q4] Q2) := hP1
        have HSC : Hid (∀ V, Box V Bs 31 #[.slice a3 n3 c3, .slice b3 m3 d3, .slice e3 k3 f3, .int .i64 q3] → Box V Bt 31 #[.slice a4 n4 c4, .slice b4 m4 d4, .slice e4 k4 f4, .int .i64 q4] → V.cell? ⟨Bs, 0, none⟩ = some (.slice a3 n3 c3) ∧ V.cell? ⟨Bs, 1, none⟩ = some (.slice b3 m3 d3) ∧ V.cell? ⟨Bs, 2, none⟩ = some (.slice e3 k3 f3) ∧ V.cell? ⟨Bs, 3, none⟩ = some (.int .i64 q3) ∧ V.cell? ⟨Bt, 0, none⟩ = some (.slice a4 n4 c4) ∧ V.cell? ⟨Bt, 1, none⟩ = some (.slice b4 m4 d4) ∧ V.cell? ⟨Bt, 2, none⟩ = some (.slice e4 k4 f4) ∧ V.cell? ⟨Bt, 3, none⟩ = some (.int .i64 q4)) := fun V h1 h2 => ⟨h1.four.1, h1.four.2.1, h1.four.2.2.1, h1.four.2.2.2.1, h2.four.1, h2.four.2.1, h2.four.2.2.1, h2.four.2.2.2.1⟩
        have hSS := HSC.out Y hYT.2.1 hYT.2.2
        have hS1 := HSC.out Q1 hP2 hP3
        have hS2 := HSC.out Q2 hP1.2.1 hP1.2.2
        obtain ⟨uu0, uu1, uu2, uu3, vv0, vv1, vv2, vv3⟩ := hYT.1.2.1.four
        obtain ⟨pp0, pp1, pp2, pp3, ss0, ss1, ss2, ss3⟩ := hP4.four
        clear hYb hYT hP1 hP2 hP3 hP4 HSC
        go_upto_region 32 with fail
        refine AnyBut.begin (fun V => V.cell? ⟨Bs, 0, none⟩ = some (.slice a3 n3 c3) ∧ V.cell? ⟨Bs, 1, none⟩ = some (.slice b3 m3 d3) ∧ V.cell? ⟨Bs, 2, none⟩ = some (.slice e3 k3 f3) ∧ V.cell? ⟨Bs, 3, none⟩ = some (.int .i64 q3) ∧ V.cell? ⟨Bt, 0, none⟩ = some (.slice a4 n4 c4) ∧ V.cell? ⟨Bt, 1, none⟩ = some (.slice b4 m4 d4) ∧ V.cell? ⟨Bt, 2, none⟩ = some (.slice e4 k4 f4) ∧ V.cell? ⟨Bt, 3, none⟩ = some (.int .i64 q4)) 1000 (by kernel_rfl) ?_
        rw [← hY]
        clear hY
        refine tx 0 162 hSS ?_
        simp only [ua, ub, uc, ud]
        refine tx 1 163 hSS ?_
        simp only [ua, ub, uc, ud]
        refine AnyBut.step (i := 2) (by kernel_rfl) rfl (fun K hK => ?_)
        go_simp
        rw [← hQ1]
        refine hK.out _ _ hS1 ?_
        clear hK hSS uu0 uu1 uu2 uu3 vv0 vv1 vv2 vv3 hQ1
        refine AnyBut.step (i := 3) (by kernel_rfl) rfl (fun K hK => ?_)
        go_simp
        rw [← hQ2]
        refine hK.out _ _ hS2 ?_
        clear hK hS1 hS2 pp0 pp1 pp2 pp3 ss0 ss1 ss2 ss3 hQ2
        refine AnyBut.done (by kernel_rfl) ?_
        have HE : Hid (TI w Ba Bb (clS t8 (vn : Int) vv) [.slice a3 n3 c3, .slice b3 m3 d3, .slice e3 k3 f3, .int .i64 q3] [.slice a4 n4 c4, .slice b4 m4 d4, .slice e4 k4 f4, .int .i64 q4] Q2) := HQ2.out.1
        go_wp2_with fail
        go_roundw
        case rel => exact ⟨j + 1, _, _, _, by omega, by omega, by go_num, HE.out⟩
        case measure => simp [intOf]; omega
set_option maxRecDepth 100000 in
theorem lifted (os : Os) (started : os.Started) (H : Type) (enc : TypeId × Value → H) :
    ReturnsInHanded {} Try.checked os 7 .any (Rows.topCleanerSpec.pre6 enc Try.prog Try.f7 Rows.topCleanerRow.domain false) (Rows.topCleanerSpec.post enc Try.prog Try.f7 false true false false) := by
  refine returnsInHanded_of_change_sized (C := Try.checked) own started (by kernel_rfl) Try.func7
    (ChangeSpec.witness6 (enc := enc) (C := Try.checked) false ⟨#[], #[.slice none 0 0, .int .i64 0], []⟩ 8 (by kernel_rfl) (by kernel_rfl) (by kernel_rfl) (by kernel_rfl)) ?_
  intro W base args ds gs before hval0 hW hcnd hsz0 _
  have hval : ∀ (j : Nat) t v, Try.f7.params[j]? = some t → args[j]? = some v → Value.okWide Try.prog W .any base t v := hval0
  have hW' := hW
  obtain ⟨p, q, hA0, hV, rfl, hfz, hnd⟩ := hW
  have hA : DataW.TrodAll enc Try.prog W 0 (fun _ => true) true Try.f7.params.toList args.toList ds p := hA0
  have hsz : (DataW.weightsEach Try.prog (Try.f7.params.toList ++ Rows.topCleanerSpec.plain.varTypes Try.prog) (ds ++ gs)).all (· ≤ reachBytes) = true := hsz0
  clear hsz0
  rw [Try.params7] at hA hval hsz
  obtain ⟨v0, vs0, d0, ds0, p0, q0, hargs, rfl, rfl, h0, r0⟩ := trodAll_cons hA
  obtain ⟨v1, vs1, d1, ds1, p1, q1, rfl, rfl, rfl, h1, r1⟩ := trodAll_cons r0
  obtain ⟨rfl, rfl, rfl⟩ := trodAll_nil r1
  obtain rfl : args = #[v0, v1] := by cases args; simp_all
  obtain ⟨rfl, rfl⟩ := trodVars_none hV
  obtain ⟨x0, len0, cap0, rfl⟩ := okWide_slice Try.underlying29 (hval 0 29 v0 rfl rfl)
  have k0 := h0
  have lt0 : ∀ x ∈ p0, x.block < W.heap.size := by obtain ⟨m, hm⟩ := k0; exact DataW.trod_lt m _ _ _ hm
  obtain ⟨m0, hm0⟩ := h0
  obtain ⟨s0, A0, F0'⟩ := bksN.reads hm0
  have F0 := F0' fun n hn => by have := List.all_eq_true.1 hsz _ (DataW.weights_mem_each (j := 0) rfl rfl n hn); simpa using this
  obtain ⟨a1, rfl, rfl, rfl, w1⟩ := open_int Try.underlying3 (hval 1 3 v1 rfl rfl) h1
  have b1 := bounds_i64 w1
  clear hA0 hval0
  refine (walk 0 _ s0 a1 W A0 b1).mono fun e W' ⟨he, bel⟩ => ?_
  subst he
  exact ⟨_, rfl, _, _, _, [], _, [], hW', trodAll_mk1 (shut_bool Try.underlying4 _), (trodAll_cons_mk (Below.trod laidOut (by kernel_rfl) (of_decide_eq_true (by kernel_rfl)) k0 bel lt0) (trodAll_cons_mk (shut_int Try.underlying3 w1) trodAll_mk0)), rfl, bel.frame _, fun h => by cases h⟩

theorem over : Rows.topCleanerRow.holds Try.pinned (OpenSpec.ofChange Rows.topCleanerSpec) :=
  OpenClaim.holds_of_wide 7 Try.f7 rfl rfl rfl rfl rfl rfl rfl ⟨rfl, rfl, rfl, rfl, rfl⟩ rfl rfl rfl rfl rfl (by kernel_rfl) Try.func7 (by kernel_rfl)
    (of_decide_eq_true (by kernel_rfl)) (by unfold Func.isWrapper; first | (rw [if_pos (by decide +kernel)]; kernel_rfl) | (rw [if_neg (by decide +kernel)]; exact ⟨rfl, rfl⟩))
    (fun os started H enc _ => lifted os started H enc)

end Go.Proofs.Ytkpckadicjdieab.topCleaner

namespace Go.Proofs.Ytkpckadicjdieab
theorem topCleaner_holds : Rows.TopCleanerSaid := topCleaner.over
#print axioms topCleaner_holds
end Go.Proofs.Ytkpckadicjdieab
