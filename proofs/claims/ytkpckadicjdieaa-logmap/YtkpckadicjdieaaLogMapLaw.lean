/-
  LogMap, proved: for every number and every steps (as great as the form reads them): the call returns true, and changes nothing that was in memory. No condition of its own.
-/
import Derived.Test.YtkpckadicjdieaaMPart
import Derived.Test.YtkpckadicjdieaaMInv
import Derived.Test.YtkpckadicjdieaaZ17
import Derived.Test.YtkpckadicjdieaaZ13
import Derived.Test.YtkpckadicjdieaaZ15
import Derived.Test.YtkpckadicjdieaaLAlive
import Derived.Test.YtkpckadicjdieaaZ6
import Derived.Test.YtkpckadicjdieaaZ14
namespace Go.Proofs.Ytkpckadicjdieaa.logMap
open Go.ChangeShapes Go.WideShapes Go.ChangeAt Go.RowKit
set_option linter.unusedVariables false

set_option maxRecDepth 100000 in
set_option maxHeartbeats 64000000 in
theorem walk (n0 : Nat) (n : Int) (v : Value) (l : List Sp) (w : World) (hn : I64 n) (h : stepsS.lies n0 w [v] l) :
    Calls Try.prog 4 #[.int .i64 n, v] w fun e w' => e = .returned (.bool true) ∧ Below w.heap.size w w' := by
  obtain ⟨post, hpost⟩ : ∃ post : Ending → World → Prop, post = fun e w' => e = .returned (.bool true) ∧ Below w.heap.size w w' := ⟨_, rfl⟩
  have HPo : Hid (∀ w', Below w.heap.size w w' → post (.returned (.bool true)) w') := fun w' h => by rw [hpost]; exact ⟨rfl, h⟩
  rw [← hpost]
  clear hpost
  obtain ⟨la, lc, hv, _, hlm, _⟩ := steps_len h
  obtain rfl : v = _ := (List.cons.inj hv).1
  obtain ⟨ln, hln⟩ : ∃ z, z = l.length := ⟨_, rfl⟩
  unfold maxLen at hlm
  rw [← hln] at h hlm ⊢
  have HL : Hid (stepsS.lies n0 w [.slice la ln lc] l ∧ ln = l.length) := ⟨h, hln⟩
  have hl1 := run_len Try.underlying58 la ln lc
  obtain ⟨r, hr1, hr2⟩ := mod_pos n 12 (by omega) (by omega)
  replace hr2 : (wrap64 (n.tmod 12 + 12)).tmod 12 = (r : Int) := hr2
  obtain ⟨N, hN⟩ : ∃ N, N = r + 1 := ⟨_, rfl⟩
  have HN : Hid (1 ≤ N ∧ N ≤ 12) := ⟨by omega, by omega⟩
  have hrN : (1 : Int) + (r : Int) = (N : Int) := by omega
  have hrw : wrap64 (1 + (r : Int)) = (N : Int) := by rw [wrap64_in' _ (by omega)]; omega
  clear h hln hv hn hN
  have HA := alive_any w
  go_enter Try.func4, Try.ntmps4
  go_wp2_with fail
  refine HA.mono ?_
  rintro e1 w1 ⟨rfl, hb1⟩
  have HB1 : Hid (Below w.heap.size w w1) := hb1
  have HC := new_any (N : Int) w1
  have hnE : nE (N : Int) = 0 := by unfold nE; rw [if_neg (by have := HN.out; omega)]
  have hnS : nS (N : Int) = (List.replicate N (0, []), List.replicate N false, [], 1) := by unfold nS; rw [if_pos hnE]; simp
  rw [hnE, hnS] at HC
  clear hnE hnS hb1 HA
  go_upto_region 4 with fail
  try simp only [hr2, hrw, hrN]
  clear hr1 hr2 hrw hrN
  go_wp2_with fail
  refine HC.mono ?_
  rintro e2 w2 ⟨⟨us2, rfl, ho2⟩, hb2⟩
  obtain ⟨a0, n0, c0, b0, m0, d0, e0, k0, f0, q0, rfl⟩ := st_fl ho2
  obtain ⟨V, hV⟩ : ∃ V, V = w2.alloc (.cells #[.slice a0 n0 c0, .slice b0 m0 d0, .slice e0 k0 f0, .int .i64 q0] 33) := ⟨_, rfl⟩
  have hbV : Below w2.heap.size w2 V := by rw [hV]; exact (Below.refl _ _).alloc (Nat.le_refl _) _
  have HB2 : Hid (Below w.heap.size w w2) := below_any HB1.out hb2
  have HI0 : Hid (LI w w2.heap.size (List.replicate N (0, []), List.replicate N false, [], 1) [.slice a0 n0 c0, .slice b0 m0 d0, .slice e0 k0 f0, .int .i64 q0] (.slice none 0 0) [] V) := ⟨below_any HB2.out hbV, by rw [hV]; exact Box.new _ _ _, ⟨_, stN.obelow ho2 hbV⟩, BR.nil _ _ _, new_ok HN.out.1 (by have := HN.out; omega), Wnt.start N⟩
  obtain ⟨B, hB⟩ : ∃ B, B = w2.heap.size := ⟨_, rfl⟩
  have HBB : Hid (w.heap.size ≤ B) := by rw [hB]; exact HB2.out.size
  rw [← hB] at HI0
  clear HC ho2 hb2 hbV HB1 HB2
  go_upto_region 5 with fail
  rw [← hV, ← hB]
  clear hV hB
  go_wp2_with (go_at_call 18; refine (num_any _ _).mono ?_; rintro e9 wn ⟨rfl, rfl⟩)
  go_loopw [7, 8] (fun v i wr => ∃ (j : Nat) (t : St) (ux : List Value) (L : List Bk), j ≤ ln ∧ j ≤ 120 ∧ i = .int .i64 (j : Int) ∧ Hid (LI w B t ux v L wr)) (fun _ i _ => 120 - (intOf i).toNat)
  case atStart => exact ⟨0, _, _, _, Nat.zero_le _, Nat.zero_le _, rfl, HI0.out⟩
  case round =>
    clear HI0
    obtain ⟨j, t, ux, L, hj, hj2, rfl, HI⟩ := hrel
    by_cases hlt : j < ln
    case neg =>
      obtain rfl : j = ln := by omega
      have HQ : Hid (post (.returned (.bool true)) wr) := HPo.out _ HI.out.1
      go_wp2
      exact HQ.out
    have hji : (j : Int) < (ln : Int) := by omega
    by_cases hlt2 : j < 120
    case neg =>
      obtain rfl : j = 120 := by omega
      have HQ : Hid (post (.returned (.bool true)) wr) := HPo.out _ HI.out.1
      go_wp2
      exact HQ.out
    have hj120 : (j : Int) < 120 := by omega
    obtain ⟨p, hp⟩ := get_lt (l := l) (k := j) (by rw [← HL.out.2]; exact hlt)
    obtain ⟨pb, po, da, dc, hix, k0, k1, k2, k3, k4, hA, i1, i2, i3, i4⟩ := steps_at HL.out.1 j p hp
    obtain ⟨pw, pO, pI, pd, pn⟩ := p
    simp only at k0 k1 k2 k3 k4 hA i1 i2 i3 i4
    obtain ⟨dm, hdm⟩ : ∃ z, z = pd.length := ⟨_, rfl⟩
    rw [← hdm] at k3 hA
    have g0 := cell_below HI.out.1 k0
    have g1 := cell_below HI.out.1 k1
    have g2 := cell_below HI.out.1 k2
    have g3 := cell_below HI.out.1 k3
    have g4 := cell_below HI.out.1 k4
    have HD : Hid (Arg 0 w (.slice da dm dc) pd ∧ dm = pd.length) := ⟨hA.weaken (Nat.zero_le _), hdm⟩
    obtain ⟨V, hV⟩ : ∃ V, V = wr.alloc (.cells #[.int .i64 pw, .int .i64 pO, .int .i64 pI, .slice da dm dc, .int .i64 pn] 61) := ⟨_, rfl⟩
    have hbV : Below wr.heap.size wr V := by rw [hV]; exact (Below.refl _ _).alloc (Nat.le_refl _) _
    have HV : Hid (Below wr.heap.size wr V ∧ LI w B t ux u7 L V ∧ Box V wr.heap.size 61 #[.int .i64 pw, .int .i64 pO, .int .i64 pI, .slice da dm dc, .int .i64 pn]) := ⟨hbV, HI.out.below hbV, by rw [hV]; exact Box.new _ _ _⟩
    clear hp k0 k1 k2 k3 k4 hA i1 i2 i3 i4 hdm hbV
    go_upto_region 12 with fail
    rw [← hV]
    clear hV hix g0 g1 g2 g3 g4
    obtain ⟨ro, ho1, ho2⟩ := mod_pos pO 3 (by omega) (by omega)
    replace ho2 : (wrap64 (pO.tmod 3 + 3)).tmod 3 = (ro : Int) := ho2
    obtain ⟨ri, hi1, hi2⟩ := mod_pos pI 3 (by omega) (by omega)
    replace hi2 : (wrap64 (pI.tmod 3 + 3)).tmod 3 = (ri : Int) := hi2
    obtain ⟨rw', hw1, hw2⟩ := mod_pos pw 5 (by omega) (by omega)
    replace hw2 : (wrap64 (pw.tmod 5 + 5)).tmod 5 = (rw' : Int) := hw2
    have hox : wrap64 (1 + (ro : Int)) = 1 + (ro : Int) := wrap64_in' _ (by omega)
    obtain ⟨z1, hz1⟩ : ∃ z, z = wrap64 (pO.tmod 3 + 3) := ⟨_, rfl⟩
    obtain ⟨z2, hz2⟩ : ∃ z, z = wrap64 (pI.tmod 3 + 3) := ⟨_, rfl⟩
    rw [← hz1] at ho2
    rw [← hz2] at hi2
    have hq1 : IntKind.i64.wrap (pO.tmod 3 + 3) = z1 := wrap_is _ _ hz1
    have hq2 : IntKind.i64.wrap (pI.tmod 3 + 3) = z2 := wrap_is _ _ hz2
    have hq3 : IntKind.i64.wrap (1 + (ro : Int)) = 1 + (ro : Int) := wrap_is _ _ hox.symm
    have HMW : Hid ((wrap64 (pw.tmod 5 + 5)).tmod 5 = (rw' : Int)) := hw2
    clear hz1 hz2 hw2 hox
    refine AnyBut.begin (fun X => X.cell? ⟨wr.heap.size, 1, none⟩ = some (.int .i64 pO) ∧ X.cell? ⟨wr.heap.size, 2, none⟩ = some (.int .i64 pI)) 1000 (by kernel_rfl) ?_
    have hSS : V.drew.cell? ⟨wr.heap.size, 1, none⟩ = some (.int .i64 pO) ∧ V.drew.cell? ⟨wr.heap.size, 2, none⟩ = some (.int .i64 pI) := ⟨HV.out.2.2.five.2.1, HV.out.2.2.five.2.2.1⟩
    refine tx 0 57 hSS ?_
    simp only [ua, ub, uc, ud]
    refine tx 1 58 hSS ?_
    simp only [ua, ub, uc, ud]
    refine tx 2 59 hSS ?_
    simp only [ua, ub, uc, ud]
    refine tx 3 60 hSS ?_
    simp only [ua, ub, uc, ud]
    refine tx 4 61 hSS ?_
    simp only [ua, ub, uc, ud]
    refine tx 5 62 hSS ?_
    simp only [ua, ub, uc, ud]
    refine tx 6 63 hSS ?_
    simp only [ua, ub, uc, ud]
    refine tx 7 64 hSS ?_
    simp only [ua, ub, uc, ud]
    refine tx 8 65 hSS ?_
    simp only [ua, ub, uc, ud]
    refine tx 9 66 hSS ?_
    simp only [ua, ub, uc, ud]
    refine tx 10 67 hSS ?_
    simp only [ua, ub, uc, ud]
    refine tx 11 10 hSS ?_
    simp only [ua, ub, uc, ud]
    refine tx 12 11 hSS ?_
    simp only [ua, ub, uc, ud]
    refine AnyBut.done (by kernel_rfl) ?_
    clear hSS hq1 hq2 hq3 ho2 hi2
    obtain ⟨W, hW⟩ : ∃ W, W = V.drew := ⟨_, rfl⟩
    have hbW : Below V.heap.size V W := by rw [hW]; exact (Below.refl _ _).drew
    have HW : Hid (LI w B t ux u7 L W ∧ Box W wr.heap.size 61 #[.int .i64 pw, .int .i64 pO, .int .i64 pI, .slice da dm dc, .int .i64 pn]) := ⟨HV.out.2.1.below hbW, HV.out.2.2.below hbW HV.out.2.2.lt⟩
    rw [← hW]
    clear hW hbW HV
    obtain ⟨cc0, cc1, cc2, cc3, cc4⟩ := HW.out.2.five
    obtain ⟨oo, hoo⟩ : ∃ z, z = 1 + (ro : Int) := ⟨_, rfl⟩
    have HO : Hid ((1 ≤ oo ∧ oo ≤ 3) ∧ (0 ≤ (ri : Int) ∧ (ri : Int) ≤ 2)) := ⟨⟨by omega, by omega⟩, by omega, by omega⟩
    obtain ⟨a1, n1, c1, b1, m1, d1, e1, k1, f1, q1, rfl, hkx, hkb⟩ := (let ⟨b, h9⟩ := HW.out.1.2.2.1; st_oflat h9)
    have HKX : Hid (k1 = t.2.2.1.length) := hkx
    obtain ⟨a7, c7, rfl⟩ := HW.out.1.2.2.2.1.shape
    obtain ⟨n7, hn7⟩ : ∃ z, z = L.length := ⟨_, rfl⟩
    have HN7 : Hid (n7 = L.length ∧ n7 ≤ 1000) := ⟨hn7, by rw [hn7]; exact HW.out.1.2.2.2.2.2.few HW.out.1.2.2.2.2.1⟩
    rw [← hn7] at HW ⊢
    clear hkx hn7 hoo HI
    have hw2 := HMW.out
    go_upto_block 2 with fail
    clear hw2
    go_cut [7] (fun v wx => ∃ (t' : St) (ux' : List Value) (L' : List Bk), Hid (LI w B t' ux' v L' wx))
    case first =>
      rename_i J K1 hJ hMt
      have hrw : rw' = 0 ∨ rw' = 1 ∨ rw' = 2 ∨ rw' = 3 ∨ rw' = 4 := by omega
      rcases hrw with rfl | rfl | rfl | rfl | rfl
      · as_aux_lemma =>
          obtain ⟨mm, hmm⟩ : ∃ z, z = min dm 32 := ⟨_, rfl⟩
          have hmin : min (dm : Int) 32 = (mm : Int) := by omega
          obtain ⟨vd, hAd, hsl⟩ := HD.out.1.ahead mm (by have := HD.out.2; omega)
          obtain ⟨dd, hdd⟩ : ∃ z, z = pd.take mm := ⟨_, rfl⟩
          rw [← hdd] at hAd
          have hdl : dd.length ≤ 32 := by rw [hdd, List.length_take]; omega
          have hl3 := run_len Try.underlying27 da dm dc
          obtain ⟨va, vc, hv9, -⟩ := hAd.shape
          subst hv9
          obtain ⟨dn, hdn⟩ : ∃ z, z = dd.length := ⟨_, rfl⟩
          rw [← hdn] at hAd hsl hdl
          clear hmm hdd
          have HBK : Hid (bkN.lies 0 w [.int .i64 (1 + (ro : Int)), .int .i64 (ri : Int), .slice va dn vc] (1 + (ro : Int), (ri : Int), dd) ∧ bkR.lies 0 w [.int .i64 (1 + (ro : Int)), .int .i64 (ri : Int), .slice va dn vc] (1 + (ro : Int), (ri : Int), dd) ∧ dn = dd.length ∧ mayB (1 + (ro : Int), (ri : Int), dd) = true) := ⟨bk_mk (p := (1 + (ro : Int), (ri : Int), dd)) hAd ⟨by simp only; omega, by simp only; omega⟩ ⟨by simp only; omega, by simp only; omega⟩, bk_mk (p := (1 + (ro : Int), (ri : Int), dd)) hAd ⟨by simp only; omega, by simp only; omega⟩ ⟨by simp only; omega, by simp only; omega⟩, hdn, may_of ⟨by omega, by omega⟩ ⟨by omega, by omega⟩ (by rw [← hdn]; exact hdl)⟩
          obtain ⟨pe, hpe⟩ : ∃ z, z = pE t (1 + (ro : Int), (ri : Int), dd) := ⟨_, rfl⟩
          have HC := put_any 0 0 [.slice a1 n1 c1, .slice b1 m1 d1, .slice e1 k1 f1, .int .i64 q1] t [.int .i64 (1 + (ro : Int)), .int .i64 (ri : Int), .slice va dn vc] (1 + (ro : Int), (ri : Int), dd) W (let ⟨b, h9⟩ := HW.out.1.2.2.1; stN.weaken (stN.olies h9) (Nat.zero_le _)) (bkN.below HBK.out.1 HW.out.1.1) (Nat.zero_le _)
          rw [← hpe] at HC
          have HPE : Hid (pe = pE t (1 + (ro : Int), (ri : Int), dd)) := hpe
          obtain ⟨y0, y1, y2, y3, -⟩ := HW.out.1.2.1.four
          have hw2 := HMW.out
          clear hAd hdn hpe
          go_wp2_with fail
          clear y0 y1 y2 y3 cc0 cc1 cc2 cc3 cc4 hsl hmin hw2
          refine HC.mono ?_
          rintro e3 w3 ⟨⟨us3, rfl, ho3⟩, hb3⟩
          obtain ⟨a3, n3, c3, b3, m3, d3, e3, k3, f3, q3, rfl⟩ := st_fl ho3
          obtain ⟨V3, hV3⟩ : ∃ V, V = w3.alloc (.cells #[.slice a3 n3 c3, .slice b3 m3 d3, .slice e3 k3 f3, .int .i64 q3] 33) := ⟨_, rfl⟩
          have hbV : Below w3.heap.size w3 V3 := by rw [hV3]; exact (Below.refl _ _).alloc (Nat.le_refl _) _
          have HV3 : Hid (LI w B t [.slice a1 n1 c1, .slice b1 m1 d1, .slice e1 k1 f1, .int .i64 q1] (.slice a7 n7 c7) L V3 ∧ Box V3 w3.heap.size 33 #[.slice a3 n3 c3, .slice b3 m3 d3, .slice e3 k3 f3, .int .i64 q3] ∧ stN.owns W.heap.size V3 [.slice a3 n3 c3, .slice b3 m3 d3, .slice e3 k3 f3, .int .i64 q3] (pS t (1 + (ro : Int), (ri : Int), dd))) := ⟨HW.out.1.below (below_any hb3 hbV), by rw [hV3]; exact Box.new _ _ _, stN.obelow ho3 hbV⟩
          clear HC ho3 hb3 hbV
          go_upto_region 21 with fail
          rw [← hV3]
          clear hV3
          rcases pE_some HW.out.1.2.2.2.2.1 HBK.out.2.2.2 with hp0 | ⟨hp0, hp8⟩
          case inr =>
            obtain rfl : pe = 51 := HPE.out.trans hp0
            obtain rfl : k1 = 8 := HKX.out.trans hp8
            obtain ⟨y0, y1, y2, y3, -⟩ := HV3.out.1.2.1.four
            have hl9 := run_len Try.underlying31 e1 8 f1
            have HN : Hid (LI w B t [.slice a1 n1 c1, .slice b1 m1 d1, .slice e1 8 f1, .int .i64 q1] (.slice a7 n7 c7) L V3) := HV3.out.1
            clear hp0 hp8
            go_wp2_with (go_at_call 18; refine (num_any _ _).mono ?_; rintro e9 wn ⟨rfl, rfl⟩)
            go_roundw
            case rel => exact ⟨j + 1, _, _, _, by omega, by omega, by go_num, HN.out⟩
            case measure => simp [intOf]; omega
          obtain rfl : pe = 0 := HPE.out.trans hp0
          have HP0 : Hid (pE t (1 + (ro : Int), (ri : Int), dd) = 0) := hp0
          clear hp0
          obtain ⟨y0, y1, y2, y3, z0, z1, z2, z3⟩ := HV3.out.1.2.1.four
          obtain ⟨x0, x1, x2, x3, -⟩ := HV3.out.2.1.four
          obtain ⟨Y, hY⟩ : ∃ Y, Y = (((V3.setCell ⟨B, 0, none⟩ (.slice a3 n3 c3)).setCell ⟨B, 1, none⟩ (.slice b3 m3 d3)).setCell ⟨B, 2, none⟩ (.slice e3 k3 f3)).setCell ⟨B, 3, none⟩ (.int .i64 q3) := ⟨_, rfl⟩
          have HY : Hid (LP w B (pS t (1 + (ro : Int), (ri : Int), dd)) [.slice a3 n3 c3, .slice b3 m3 d3, .slice e3 k3 f3, .int .i64 q3] (.slice a7 n7 c7) L Y.heap.size (.slice none 0 0) [] Y) := by
            rw [hY]
            exact LP.start HV3.out.1 HBB.out HV3.out.2.2
          go_upto_region 25 with (go_at_call 18; refine (num_any _ _).mono ?_; rintro e9 wn ⟨rfl, rfl⟩)
          rw [← hY]
          clear hY x0 x1 x2 x3 y0 y1 y2 y3 z0 z1 z2 z3
          have hl7 := run_len Try.underlying24 a7 n7 c7
          have hn7b : n7 ≤ 1000 := HN7.out.2
          go_wp2_with fail
          go_loopw [15, 16] (fun v i wr => ∃ kk : Nat, kk ≤ n7 ∧ i = .int .i64 (kk : Int) ∧ Hid (LP w B (pS t (1 + (ro : Int), (ri : Int), dd)) [.slice a3 n3 c3, .slice b3 m3 d3, .slice e3 k3 f3, .int .i64 q3] (.slice a7 n7 c7) L Y.heap.size v ((L.take kk).filter (nk (1 + (ro : Int)) (ri : Int))) wr)) (fun _ i _ => n7 - (intOf i).toNat)
          case atStart => exact ⟨0, Nat.zero_le _, rfl, HY.out⟩
          case round =>
            clear HY
            obtain ⟨kk, hkk, rfl, HP⟩ := hrel
            by_cases hk7 : kk < n7
            · have hki : (kk : Int) < (n7 : Int) := by omega
              obtain ⟨x, hx⟩ := get_lt (l := L) (k := kk) (by rw [← HN7.out.1]; exact hk7)
              obtain ⟨gb, gof, xa, xc, hixb, p0, p1, p2, hAx, jx1, jx2, -⟩ := bks_atR (HP.out.2.2.2.1.lies HP.out.1) kk x hx
              have HXW : Hid (∃ us, bkR.lies 0 w us x ∧ us = [.int .i64 x.1, .int .i64 x.2.1, .slice xa x.2.2.length xc]) := br_get HP.out.2.2.2.1 hx gb gof hixb p0 p1 p2
              have HFT : Hid ((L.take (kk + 1)).filter (nk (1 + (ro : Int)) (ri : Int)) = if nk (1 + (ro : Int)) (ri : Int) x = true then (L.take kk).filter (nk (1 + (ro : Int)) (ri : Int)) ++ [x] else (L.take kk).filter (nk (1 + (ro : Int)) (ri : Int))) := filt_take hx
              obtain ⟨xo, xi, xd⟩ := x
              simp only at p0 p1 p2 HXW
              obtain ⟨xm, hxm⟩ : ∃ z, z = xd.length := ⟨_, rfl⟩
              rw [← hxm] at p2 HXW
              obtain ⟨va15, vc15, hv15⟩ := HP.out.2.2.2.2.2.1.shape
              subst hv15
              have HLN : Hid (((L.take kk).filter (nk (1 + (ro : Int)) (ri : Int))).length ≤ 10000) := by
                have h1 := List.length_filter_le (nk (1 + (ro : Int)) (ri : Int)) (L.take kk)
                have h2 := HN7.out
                rw [List.length_take] at h1
                show _ ≤ _
                omega
              obtain ⟨gg, cap3, w6, hrun, hbx6, hg6⟩ := HP.out.2.2.2.2.2.1.push (b := (xo, xi, xd)) (let ⟨us, h8, e8⟩ := HXW.out; e8 ▸ h8) HP.out.2.2.2.2.2.2.2 HLN.out
              have HPU : Hid (nk (1 + (ro : Int)) (ri : Int) (xo, xi, xd) = true → LP w B (pS t (1 + (ro : Int), (ri : Int), dd)) [.slice a3 n3 c3, .slice b3 m3 d3, .slice e3 k3 f3, .int .i64 q3] (.slice a7 n7 c7) L Y.heap.size (.slice (some ⟨gg, 0, none⟩) (((L.take kk).filter (nk (1 + (ro : Int)) (ri : Int))).length + 1) cap3) ((L.take (kk + 1)).filter (nk (1 + (ro : Int)) (ri : Int))) w6) := fun hnk => by
                rw [HFT.out, if_pos hnk]
                exact HP.out.push hg6 hbx6
              have HSK : Hid (nk (1 + (ro : Int)) (ri : Int) (xo, xi, xd) = false → LP w B (pS t (1 + (ro : Int), (ri : Int), dd)) [.slice a3 n3 c3, .slice b3 m3 d3, .slice e3 k3 f3, .int .i64 q3] (.slice a7 n7 c7) L Y.heap.size (.slice va15 ((L.take kk).filter (nk (1 + (ro : Int)) (ri : Int))).length vc15) ((L.take (kk + 1)).filter (nk (1 + (ro : Int)) (ri : Int))) wr) := fun hnk => by
                rw [HFT.out, if_neg (by rw [hnk]; decide)]
                exact HP.out
              clear hx hAx jx1 jx2 hxm hbx6 hg6 HXW
              by_cases hxo : xo = 1 + (ro : Int)
              · subst hxo
                by_cases hxi : xi = (ri : Int)
                · subst hxi
                  have HS2 : Hid _ := HSK.out (by simp [nk])
                  have hb1 : ((1 + (ro : Int)) != (1 + (ro : Int))) = false := by simp
                  have hb2 : ((ri : Int) != (ri : Int)) = false := by simp
                  clear hrun
                  go_wp2
                  go_roundw
                  case rel => exact ⟨kk + 1, by omega, by go_num, HS2.out⟩
                  case measure => simp [intOf]; omega
                · have hxib : (xi == (ri : Int)) = false := by simpa using hxi
                  have HP2 : Hid _ := HPU.out (nk_iff.2 fun e => hxi e.2)
                  have hb1 : ((1 + (ro : Int)) != (1 + (ro : Int))) = false := by simp
                  go_wp2_with (at_builtin; refine list_app rfl _ _ 24 rfl rfl rfl rfl hrun ?_)
                  go_roundw
                  case rel => exact ⟨kk + 1, by omega, by go_num, HP2.out⟩
                  case measure => simp [intOf]; omega
              · have hxob : (xo == 1 + (ro : Int)) = false := by simpa using hxo
                have HP2 : Hid _ := HPU.out (nk_iff.2 fun e => hxo e.1)
                go_wp2_with (at_builtin; refine list_app rfl _ _ 24 rfl rfl rfl rfl hrun ?_)
                go_roundw
                case rel => exact ⟨kk + 1, by omega, by go_num, HP2.out⟩
                case measure => simp [intOf]; omega
            · obtain rfl : kk = n7 := by omega
              have HP9 : Hid (LP w B (pS t (1 + (ro : Int), (ri : Int), dd)) [.slice a3 n3 c3, .slice b3 m3 d3, .slice e3 k3 f3, .int .i64 q3] (.slice a7 kk c7) L Y.heap.size u15 (L.filter (nk (1 + (ro : Int)) (ri : Int))) wr ∧ Ok (pS t (1 + (ro : Int), (ri : Int), dd)) ∧ (Wnt (pS t (1 + (ro : Int), (ri : Int), dd)) (L.filter (nk (1 + (ro : Int)) (ri : Int)) ++ if dn = 0 then [] else [(1 + (ro : Int), (ri : Int), dd)]))) := by
                have h1 := HP.out
                rw [HN7.out.1, List.take_length, ← HN7.out.1] at h1
                refine ⟨h1, pS_ok HP0.out, ?_⟩
                have h2 := HW.out.1.2.2.2.2.2.put HP0.out
                rw [HBK.out.2.2.1]
                exact h2
              clear HP
              obtain ⟨va15, vc15, hv15⟩ := HP9.out.1.2.2.2.2.2.1.shape
              subst hv15
              have hl12 := run_len Try.underlying27 va dn vc
              by_cases hd0 : dn = 0
              · subst hd0
                have HF : Hid (LI w B (pS t (1 + (ro : Int), (ri : Int), dd)) [.slice a3 n3 c3, .slice b3 m3 d3, .slice e3 k3 f3, .int .i64 q3] (.slice va15 (L.filter (nk (1 + (ro : Int)) (ri : Int))).length vc15) (L.filter (nk (1 + (ro : Int)) (ri : Int))) wr) := HP9.out.1.done HP9.out.2.1 (by have := HP9.out.2.2; rw [if_pos rfl, List.append_nil] at this; exact this)
                go_wp2_with fail
                refine Go.Met.intro (hJ _ _ ?_)
                (repeat (refine Exists.intro ?_ ?_; rotate_left 1))
                refine ⟨?rel1, ?fr1⟩
                case fr1 => rfl
                case rel1 => exact ⟨_, _, _, HF⟩
              · have hd0i : (0 : Int) < (dn : Int) := by omega
                have HLN : Hid ((L.filter (nk (1 + (ro : Int)) (ri : Int))).length ≤ 10000) := by
                  have h1 := List.length_filter_le (nk (1 + (ro : Int)) (ri : Int)) L
                  have h2 := HN7.out
                  show _ ≤ _
                  omega
                obtain ⟨gg, cap3, w6, hrun, hbx6, hg6⟩ := HP9.out.1.2.2.2.2.2.1.push HBK.out.2.1 HP9.out.1.2.2.2.2.2.2.2 HLN.out
                have HF : Hid (LI w B (pS t (1 + (ro : Int), (ri : Int), dd)) [.slice a3 n3 c3, .slice b3 m3 d3, .slice e3 k3 f3, .int .i64 q3] (.slice (some ⟨gg, 0, none⟩) ((L.filter (nk (1 + (ro : Int)) (ri : Int))).length + 1) cap3) (L.filter (nk (1 + (ro : Int)) (ri : Int)) ++ [(1 + (ro : Int), (ri : Int), dd)]) w6) := HP9.out.1.last hg6 hbx6 HP9.out.2.1 (by have := HP9.out.2.2; rw [if_neg hd0] at this; exact this)
                clear hbx6 hg6
                go_wp2_with (at_builtin; refine list_app rfl _ _ 24 rfl rfl rfl rfl hrun ?_)
                refine Go.Met.intro (hJ _ _ ?_)
                (repeat (refine Exists.intro ?_ ?_; rotate_left 1))
                refine ⟨?rel2, ?fr2⟩
                case fr2 => rfl
                case rel2 => exact ⟨_, _, _, HF⟩
      · as_aux_lemma =>
          obtain ⟨mm, hmm⟩ : ∃ z, z = min dm 32 := ⟨_, rfl⟩
          have hmin : min (dm : Int) 32 = (mm : Int) := by omega
          obtain ⟨vd, hAd, hsl⟩ := HD.out.1.ahead mm (by have := HD.out.2; omega)
          obtain ⟨dd, hdd⟩ : ∃ z, z = pd.take mm := ⟨_, rfl⟩
          rw [← hdd] at hAd
          have hdl : dd.length ≤ 32 := by rw [hdd, List.length_take]; omega
          have hl3 := run_len Try.underlying27 da dm dc
          obtain ⟨va, vc, hv9, -⟩ := hAd.shape
          subst hv9
          obtain ⟨dn, hdn⟩ : ∃ z, z = dd.length := ⟨_, rfl⟩
          rw [← hdn] at hAd hsl hdl
          clear hmm hdd
          have HBK : Hid (bkN.lies 0 w [.int .i64 (1 + (ro : Int)), .int .i64 (ri : Int), .slice va dn vc] (1 + (ro : Int), (ri : Int), dd) ∧ bkR.lies 0 w [.int .i64 (1 + (ro : Int)), .int .i64 (ri : Int), .slice va dn vc] (1 + (ro : Int), (ri : Int), dd) ∧ dn = dd.length ∧ mayB (1 + (ro : Int), (ri : Int), dd) = true) := ⟨bk_mk (p := (1 + (ro : Int), (ri : Int), dd)) hAd ⟨by simp only; omega, by simp only; omega⟩ ⟨by simp only; omega, by simp only; omega⟩, bk_mk (p := (1 + (ro : Int), (ri : Int), dd)) hAd ⟨by simp only; omega, by simp only; omega⟩ ⟨by simp only; omega, by simp only; omega⟩, hdn, may_of ⟨by omega, by omega⟩ ⟨by omega, by omega⟩ (by rw [← hdn]; exact hdl)⟩
          obtain ⟨pe, hpe⟩ : ∃ z, z = pE t (1 + (ro : Int), (ri : Int), dd) := ⟨_, rfl⟩
          have HC := put_any 0 0 [.slice a1 n1 c1, .slice b1 m1 d1, .slice e1 k1 f1, .int .i64 q1] t [.int .i64 (1 + (ro : Int)), .int .i64 (ri : Int), .slice va dn vc] (1 + (ro : Int), (ri : Int), dd) W (let ⟨b, h9⟩ := HW.out.1.2.2.1; stN.weaken (stN.olies h9) (Nat.zero_le _)) (bkN.below HBK.out.1 HW.out.1.1) (Nat.zero_le _)
          rw [← hpe] at HC
          have HPE : Hid (pe = pE t (1 + (ro : Int), (ri : Int), dd)) := hpe
          obtain ⟨y0, y1, y2, y3, -⟩ := HW.out.1.2.1.four
          have hw2 := HMW.out
          clear hAd hdn hpe
          go_wp2_with fail
          clear y0 y1 y2 y3 cc0 cc1 cc2 cc3 cc4 hsl hmin hw2
          refine HC.mono ?_
          rintro e3 w3 ⟨⟨us3, rfl, ho3⟩, hb3⟩
          obtain ⟨a3, n3, c3, b3, m3, d3, e3, k3, f3, q3, rfl⟩ := st_fl ho3
          obtain ⟨V3, hV3⟩ : ∃ V, V = w3.alloc (.cells #[.slice a3 n3 c3, .slice b3 m3 d3, .slice e3 k3 f3, .int .i64 q3] 33) := ⟨_, rfl⟩
          have hbV : Below w3.heap.size w3 V3 := by rw [hV3]; exact (Below.refl _ _).alloc (Nat.le_refl _) _
          have HV3 : Hid (LI w B t [.slice a1 n1 c1, .slice b1 m1 d1, .slice e1 k1 f1, .int .i64 q1] (.slice a7 n7 c7) L V3 ∧ Box V3 w3.heap.size 33 #[.slice a3 n3 c3, .slice b3 m3 d3, .slice e3 k3 f3, .int .i64 q3] ∧ stN.owns W.heap.size V3 [.slice a3 n3 c3, .slice b3 m3 d3, .slice e3 k3 f3, .int .i64 q3] (pS t (1 + (ro : Int), (ri : Int), dd))) := ⟨HW.out.1.below (below_any hb3 hbV), by rw [hV3]; exact Box.new _ _ _, stN.obelow ho3 hbV⟩
          clear HC ho3 hb3 hbV
          go_upto_region 21 with fail
          rw [← hV3]
          clear hV3
          rcases pE_some HW.out.1.2.2.2.2.1 HBK.out.2.2.2 with hp0 | ⟨hp0, hp8⟩
          case inr =>
            obtain rfl : pe = 51 := HPE.out.trans hp0
            obtain rfl : k1 = 8 := HKX.out.trans hp8
            obtain ⟨y0, y1, y2, y3, -⟩ := HV3.out.1.2.1.four
            have hl9 := run_len Try.underlying31 e1 8 f1
            have HN : Hid (LI w B t [.slice a1 n1 c1, .slice b1 m1 d1, .slice e1 8 f1, .int .i64 q1] (.slice a7 n7 c7) L V3) := HV3.out.1
            clear hp0 hp8
            go_wp2_with (go_at_call 18; refine (num_any _ _).mono ?_; rintro e9 wn ⟨rfl, rfl⟩)
            go_roundw
            case rel => exact ⟨j + 1, _, _, _, by omega, by omega, by go_num, HN.out⟩
            case measure => simp [intOf]; omega
          obtain rfl : pe = 0 := HPE.out.trans hp0
          have HP0 : Hid (pE t (1 + (ro : Int), (ri : Int), dd) = 0) := hp0
          clear hp0
          obtain ⟨y0, y1, y2, y3, z0, z1, z2, z3⟩ := HV3.out.1.2.1.four
          obtain ⟨x0, x1, x2, x3, -⟩ := HV3.out.2.1.four
          obtain ⟨Y, hY⟩ : ∃ Y, Y = (((V3.setCell ⟨B, 0, none⟩ (.slice a3 n3 c3)).setCell ⟨B, 1, none⟩ (.slice b3 m3 d3)).setCell ⟨B, 2, none⟩ (.slice e3 k3 f3)).setCell ⟨B, 3, none⟩ (.int .i64 q3) := ⟨_, rfl⟩
          have HY : Hid (LP w B (pS t (1 + (ro : Int), (ri : Int), dd)) [.slice a3 n3 c3, .slice b3 m3 d3, .slice e3 k3 f3, .int .i64 q3] (.slice a7 n7 c7) L Y.heap.size (.slice none 0 0) [] Y) := by
            rw [hY]
            exact LP.start HV3.out.1 HBB.out HV3.out.2.2
          go_upto_region 25 with (go_at_call 18; refine (num_any _ _).mono ?_; rintro e9 wn ⟨rfl, rfl⟩)
          rw [← hY]
          clear hY x0 x1 x2 x3 y0 y1 y2 y3 z0 z1 z2 z3
          have hl7 := run_len Try.underlying24 a7 n7 c7
          have hn7b : n7 ≤ 1000 := HN7.out.2
          go_wp2_with fail
          go_loopw [15, 16] (fun v i wr => ∃ kk : Nat, kk ≤ n7 ∧ i = .int .i64 (kk : Int) ∧ Hid (LP w B (pS t (1 + (ro : Int), (ri : Int), dd)) [.slice a3 n3 c3, .slice b3 m3 d3, .slice e3 k3 f3, .int .i64 q3] (.slice a7 n7 c7) L Y.heap.size v ((L.take kk).filter (nk (1 + (ro : Int)) (ri : Int))) wr)) (fun _ i _ => n7 - (intOf i).toNat)
          case atStart => exact ⟨0, Nat.zero_le _, rfl, HY.out⟩
          case round =>
            clear HY
            obtain ⟨kk, hkk, rfl, HP⟩ := hrel
            by_cases hk7 : kk < n7
            · have hki : (kk : Int) < (n7 : Int) := by omega
              obtain ⟨x, hx⟩ := get_lt (l := L) (k := kk) (by rw [← HN7.out.1]; exact hk7)
              obtain ⟨gb, gof, xa, xc, hixb, p0, p1, p2, hAx, jx1, jx2, -⟩ := bks_atR (HP.out.2.2.2.1.lies HP.out.1) kk x hx
              have HXW : Hid (∃ us, bkR.lies 0 w us x ∧ us = [.int .i64 x.1, .int .i64 x.2.1, .slice xa x.2.2.length xc]) := br_get HP.out.2.2.2.1 hx gb gof hixb p0 p1 p2
              have HFT : Hid ((L.take (kk + 1)).filter (nk (1 + (ro : Int)) (ri : Int)) = if nk (1 + (ro : Int)) (ri : Int) x = true then (L.take kk).filter (nk (1 + (ro : Int)) (ri : Int)) ++ [x] else (L.take kk).filter (nk (1 + (ro : Int)) (ri : Int))) := filt_take hx
              obtain ⟨xo, xi, xd⟩ := x
              simp only at p0 p1 p2 HXW
              obtain ⟨xm, hxm⟩ : ∃ z, z = xd.length := ⟨_, rfl⟩
              rw [← hxm] at p2 HXW
              obtain ⟨va15, vc15, hv15⟩ := HP.out.2.2.2.2.2.1.shape
              subst hv15
              have HLN : Hid (((L.take kk).filter (nk (1 + (ro : Int)) (ri : Int))).length ≤ 10000) := by
                have h1 := List.length_filter_le (nk (1 + (ro : Int)) (ri : Int)) (L.take kk)
                have h2 := HN7.out
                rw [List.length_take] at h1
                show _ ≤ _
                omega
              obtain ⟨gg, cap3, w6, hrun, hbx6, hg6⟩ := HP.out.2.2.2.2.2.1.push (b := (xo, xi, xd)) (let ⟨us, h8, e8⟩ := HXW.out; e8 ▸ h8) HP.out.2.2.2.2.2.2.2 HLN.out
              have HPU : Hid (nk (1 + (ro : Int)) (ri : Int) (xo, xi, xd) = true → LP w B (pS t (1 + (ro : Int), (ri : Int), dd)) [.slice a3 n3 c3, .slice b3 m3 d3, .slice e3 k3 f3, .int .i64 q3] (.slice a7 n7 c7) L Y.heap.size (.slice (some ⟨gg, 0, none⟩) (((L.take kk).filter (nk (1 + (ro : Int)) (ri : Int))).length + 1) cap3) ((L.take (kk + 1)).filter (nk (1 + (ro : Int)) (ri : Int))) w6) := fun hnk => by
                rw [HFT.out, if_pos hnk]
                exact HP.out.push hg6 hbx6
              have HSK : Hid (nk (1 + (ro : Int)) (ri : Int) (xo, xi, xd) = false → LP w B (pS t (1 + (ro : Int), (ri : Int), dd)) [.slice a3 n3 c3, .slice b3 m3 d3, .slice e3 k3 f3, .int .i64 q3] (.slice a7 n7 c7) L Y.heap.size (.slice va15 ((L.take kk).filter (nk (1 + (ro : Int)) (ri : Int))).length vc15) ((L.take (kk + 1)).filter (nk (1 + (ro : Int)) (ri : Int))) wr) := fun hnk => by
                rw [HFT.out, if_neg (by rw [hnk]; decide)]
                exact HP.out
              clear hx hAx jx1 jx2 hxm hbx6 hg6 HXW
              by_cases hxo : xo = 1 + (ro : Int)
              · subst hxo
                by_cases hxi : xi = (ri : Int)
                · subst hxi
                  have HS2 : Hid _ := HSK.out (by simp [nk])
                  have hb1 : ((1 + (ro : Int)) != (1 + (ro : Int))) = false := by simp
                  have hb2 : ((ri : Int) != (ri : Int)) = false := by simp
                  clear hrun
                  go_wp2
                  go_roundw
                  case rel => exact ⟨kk + 1, by omega, by go_num, HS2.out⟩
                  case measure => simp [intOf]; omega
                · have hxib : (xi == (ri : Int)) = false := by simpa using hxi
                  have HP2 : Hid _ := HPU.out (nk_iff.2 fun e => hxi e.2)
                  have hb1 : ((1 + (ro : Int)) != (1 + (ro : Int))) = false := by simp
                  go_wp2_with (at_builtin; refine list_app rfl _ _ 24 rfl rfl rfl rfl hrun ?_)
                  go_roundw
                  case rel => exact ⟨kk + 1, by omega, by go_num, HP2.out⟩
                  case measure => simp [intOf]; omega
              · have hxob : (xo == 1 + (ro : Int)) = false := by simpa using hxo
                have HP2 : Hid _ := HPU.out (nk_iff.2 fun e => hxo e.1)
                go_wp2_with (at_builtin; refine list_app rfl _ _ 24 rfl rfl rfl rfl hrun ?_)
                go_roundw
                case rel => exact ⟨kk + 1, by omega, by go_num, HP2.out⟩
                case measure => simp [intOf]; omega
            · obtain rfl : kk = n7 := by omega
              have HP9 : Hid (LP w B (pS t (1 + (ro : Int), (ri : Int), dd)) [.slice a3 n3 c3, .slice b3 m3 d3, .slice e3 k3 f3, .int .i64 q3] (.slice a7 kk c7) L Y.heap.size u15 (L.filter (nk (1 + (ro : Int)) (ri : Int))) wr ∧ Ok (pS t (1 + (ro : Int), (ri : Int), dd)) ∧ (Wnt (pS t (1 + (ro : Int), (ri : Int), dd)) (L.filter (nk (1 + (ro : Int)) (ri : Int)) ++ if dn = 0 then [] else [(1 + (ro : Int), (ri : Int), dd)]))) := by
                have h1 := HP.out
                rw [HN7.out.1, List.take_length, ← HN7.out.1] at h1
                refine ⟨h1, pS_ok HP0.out, ?_⟩
                have h2 := HW.out.1.2.2.2.2.2.put HP0.out
                rw [HBK.out.2.2.1]
                exact h2
              clear HP
              obtain ⟨va15, vc15, hv15⟩ := HP9.out.1.2.2.2.2.2.1.shape
              subst hv15
              have hl12 := run_len Try.underlying27 va dn vc
              by_cases hd0 : dn = 0
              · subst hd0
                have HF : Hid (LI w B (pS t (1 + (ro : Int), (ri : Int), dd)) [.slice a3 n3 c3, .slice b3 m3 d3, .slice e3 k3 f3, .int .i64 q3] (.slice va15 (L.filter (nk (1 + (ro : Int)) (ri : Int))).length vc15) (L.filter (nk (1 + (ro : Int)) (ri : Int))) wr) := HP9.out.1.done HP9.out.2.1 (by have := HP9.out.2.2; rw [if_pos rfl, List.append_nil] at this; exact this)
                go_wp2_with fail
                refine Go.Met.intro (hJ _ _ ?_)
                (repeat (refine Exists.intro ?_ ?_; rotate_left 1))
                refine ⟨?rel3, ?fr3⟩
                case fr3 => rfl
                case rel3 => exact ⟨_, _, _, HF⟩
              · have hd0i : (0 : Int) < (dn : Int) := by omega
                have HLN : Hid ((L.filter (nk (1 + (ro : Int)) (ri : Int))).length ≤ 10000) := by
                  have h1 := List.length_filter_le (nk (1 + (ro : Int)) (ri : Int)) L
                  have h2 := HN7.out
                  show _ ≤ _
                  omega
                obtain ⟨gg, cap3, w6, hrun, hbx6, hg6⟩ := HP9.out.1.2.2.2.2.2.1.push HBK.out.2.1 HP9.out.1.2.2.2.2.2.2.2 HLN.out
                have HF : Hid (LI w B (pS t (1 + (ro : Int), (ri : Int), dd)) [.slice a3 n3 c3, .slice b3 m3 d3, .slice e3 k3 f3, .int .i64 q3] (.slice (some ⟨gg, 0, none⟩) ((L.filter (nk (1 + (ro : Int)) (ri : Int))).length + 1) cap3) (L.filter (nk (1 + (ro : Int)) (ri : Int)) ++ [(1 + (ro : Int), (ri : Int), dd)]) w6) := HP9.out.1.last hg6 hbx6 HP9.out.2.1 (by have := HP9.out.2.2; rw [if_neg hd0] at this; exact this)
                clear hbx6 hg6
                go_wp2_with (at_builtin; refine list_app rfl _ _ 24 rfl rfl rfl rfl hrun ?_)
                refine Go.Met.intro (hJ _ _ ?_)
                (repeat (refine Exists.intro ?_ ?_; rotate_left 1))
                refine ⟨?rel4, ?fr4⟩
                case fr4 => rfl
                case rel4 => exact ⟨_, _, _, HF⟩
      · as_aux_lemma =>
          obtain ⟨mm, hmm⟩ : ∃ z, z = min dm 32 := ⟨_, rfl⟩
          have hmin : min (dm : Int) 32 = (mm : Int) := by omega
          obtain ⟨vd, -, hsl⟩ := HD.out.1.ahead mm (by have := HD.out.2; omega)
          have hl3 := run_len Try.underlying27 da dm dc
          have hAd : Arg 0 w (.slice none 0 0) ([] : List Int) := .mk ⟨by simp, .inl ⟨rfl, by simp⟩⟩ (fun y hy => by cases hy)
          have hdl : 0 ≤ 32 := by omega
          have hdn : 0 = ([] : List Int).length := rfl
          clear hmm
          have HBK : Hid (bkN.lies 0 w [.int .i64 (1 + (ro : Int)), .int .i64 (ri : Int), .slice none 0 0] (1 + (ro : Int), (ri : Int), ([] : List Int)) ∧ bkR.lies 0 w [.int .i64 (1 + (ro : Int)), .int .i64 (ri : Int), .slice none 0 0] (1 + (ro : Int), (ri : Int), ([] : List Int)) ∧ 0 = ([] : List Int).length ∧ mayB (1 + (ro : Int), (ri : Int), ([] : List Int)) = true) := ⟨bk_mk (p := (1 + (ro : Int), (ri : Int), ([] : List Int))) hAd ⟨by simp only; omega, by simp only; omega⟩ ⟨by simp only; omega, by simp only; omega⟩, bk_mk (p := (1 + (ro : Int), (ri : Int), ([] : List Int))) hAd ⟨by simp only; omega, by simp only; omega⟩ ⟨by simp only; omega, by simp only; omega⟩, hdn, may_of ⟨by omega, by omega⟩ ⟨by omega, by omega⟩ (by rw [← hdn]; exact hdl)⟩
          obtain ⟨pe, hpe⟩ : ∃ z, z = pE t (1 + (ro : Int), (ri : Int), ([] : List Int)) := ⟨_, rfl⟩
          have HC := put_any 0 0 [.slice a1 n1 c1, .slice b1 m1 d1, .slice e1 k1 f1, .int .i64 q1] t [.int .i64 (1 + (ro : Int)), .int .i64 (ri : Int), .slice none 0 0] (1 + (ro : Int), (ri : Int), ([] : List Int)) W (let ⟨b, h9⟩ := HW.out.1.2.2.1; stN.weaken (stN.olies h9) (Nat.zero_le _)) (bkN.below HBK.out.1 HW.out.1.1) (Nat.zero_le _)
          rw [← hpe] at HC
          have HPE : Hid (pe = pE t (1 + (ro : Int), (ri : Int), ([] : List Int))) := hpe
          obtain ⟨y0, y1, y2, y3, -⟩ := HW.out.1.2.1.four
          have hw2 := HMW.out
          clear hAd hdn hpe
          go_wp2_with fail
          clear y0 y1 y2 y3 cc0 cc1 cc2 cc3 cc4 hsl hmin hw2
          refine HC.mono ?_
          rintro e3 w3 ⟨⟨us3, rfl, ho3⟩, hb3⟩
          obtain ⟨a3, n3, c3, b3, m3, d3, e3, k3, f3, q3, rfl⟩ := st_fl ho3
          obtain ⟨V3, hV3⟩ : ∃ V, V = w3.alloc (.cells #[.slice a3 n3 c3, .slice b3 m3 d3, .slice e3 k3 f3, .int .i64 q3] 33) := ⟨_, rfl⟩
          have hbV : Below w3.heap.size w3 V3 := by rw [hV3]; exact (Below.refl _ _).alloc (Nat.le_refl _) _
          have HV3 : Hid (LI w B t [.slice a1 n1 c1, .slice b1 m1 d1, .slice e1 k1 f1, .int .i64 q1] (.slice a7 n7 c7) L V3 ∧ Box V3 w3.heap.size 33 #[.slice a3 n3 c3, .slice b3 m3 d3, .slice e3 k3 f3, .int .i64 q3] ∧ stN.owns W.heap.size V3 [.slice a3 n3 c3, .slice b3 m3 d3, .slice e3 k3 f3, .int .i64 q3] (pS t (1 + (ro : Int), (ri : Int), ([] : List Int)))) := ⟨HW.out.1.below (below_any hb3 hbV), by rw [hV3]; exact Box.new _ _ _, stN.obelow ho3 hbV⟩
          clear HC ho3 hb3 hbV
          go_upto_region 21 with fail
          rw [← hV3]
          clear hV3
          rcases pE_some HW.out.1.2.2.2.2.1 HBK.out.2.2.2 with hp0 | ⟨hp0, hp8⟩
          case inr =>
            obtain rfl : pe = 51 := HPE.out.trans hp0
            obtain rfl : k1 = 8 := HKX.out.trans hp8
            obtain ⟨y0, y1, y2, y3, -⟩ := HV3.out.1.2.1.four
            have hl9 := run_len Try.underlying31 e1 8 f1
            have HN : Hid (LI w B t [.slice a1 n1 c1, .slice b1 m1 d1, .slice e1 8 f1, .int .i64 q1] (.slice a7 n7 c7) L V3) := HV3.out.1
            clear hp0 hp8
            go_wp2_with (go_at_call 18; refine (num_any _ _).mono ?_; rintro e9 wn ⟨rfl, rfl⟩)
            go_roundw
            case rel => exact ⟨j + 1, _, _, _, by omega, by omega, by go_num, HN.out⟩
            case measure => simp [intOf]; omega
          obtain rfl : pe = 0 := HPE.out.trans hp0
          have HP0 : Hid (pE t (1 + (ro : Int), (ri : Int), ([] : List Int)) = 0) := hp0
          clear hp0
          obtain ⟨y0, y1, y2, y3, z0, z1, z2, z3⟩ := HV3.out.1.2.1.four
          obtain ⟨x0, x1, x2, x3, -⟩ := HV3.out.2.1.four
          obtain ⟨Y, hY⟩ : ∃ Y, Y = (((V3.setCell ⟨B, 0, none⟩ (.slice a3 n3 c3)).setCell ⟨B, 1, none⟩ (.slice b3 m3 d3)).setCell ⟨B, 2, none⟩ (.slice e3 k3 f3)).setCell ⟨B, 3, none⟩ (.int .i64 q3) := ⟨_, rfl⟩
          have HY : Hid (LP w B (pS t (1 + (ro : Int), (ri : Int), ([] : List Int))) [.slice a3 n3 c3, .slice b3 m3 d3, .slice e3 k3 f3, .int .i64 q3] (.slice a7 n7 c7) L Y.heap.size (.slice none 0 0) [] Y) := by
            rw [hY]
            exact LP.start HV3.out.1 HBB.out HV3.out.2.2
          go_upto_region 25 with (go_at_call 18; refine (num_any _ _).mono ?_; rintro e9 wn ⟨rfl, rfl⟩)
          rw [← hY]
          clear hY x0 x1 x2 x3 y0 y1 y2 y3 z0 z1 z2 z3
          have hl7 := run_len Try.underlying24 a7 n7 c7
          have hn7b : n7 ≤ 1000 := HN7.out.2
          go_wp2_with fail
          go_loopw [15, 16] (fun v i wr => ∃ kk : Nat, kk ≤ n7 ∧ i = .int .i64 (kk : Int) ∧ Hid (LP w B (pS t (1 + (ro : Int), (ri : Int), ([] : List Int))) [.slice a3 n3 c3, .slice b3 m3 d3, .slice e3 k3 f3, .int .i64 q3] (.slice a7 n7 c7) L Y.heap.size v ((L.take kk).filter (nk (1 + (ro : Int)) (ri : Int))) wr)) (fun _ i _ => n7 - (intOf i).toNat)
          case atStart => exact ⟨0, Nat.zero_le _, rfl, HY.out⟩
          case round =>
            clear HY
            obtain ⟨kk, hkk, rfl, HP⟩ := hrel
            by_cases hk7 : kk < n7
            · have hki : (kk : Int) < (n7 : Int) := by omega
              obtain ⟨x, hx⟩ := get_lt (l := L) (k := kk) (by rw [← HN7.out.1]; exact hk7)
              obtain ⟨gb, gof, xa, xc, hixb, p0, p1, p2, hAx, jx1, jx2, -⟩ := bks_atR (HP.out.2.2.2.1.lies HP.out.1) kk x hx
              have HXW : Hid (∃ us, bkR.lies 0 w us x ∧ us = [.int .i64 x.1, .int .i64 x.2.1, .slice xa x.2.2.length xc]) := br_get HP.out.2.2.2.1 hx gb gof hixb p0 p1 p2
              have HFT : Hid ((L.take (kk + 1)).filter (nk (1 + (ro : Int)) (ri : Int)) = if nk (1 + (ro : Int)) (ri : Int) x = true then (L.take kk).filter (nk (1 + (ro : Int)) (ri : Int)) ++ [x] else (L.take kk).filter (nk (1 + (ro : Int)) (ri : Int))) := filt_take hx
              obtain ⟨xo, xi, xd⟩ := x
              simp only at p0 p1 p2 HXW
              obtain ⟨xm, hxm⟩ : ∃ z, z = xd.length := ⟨_, rfl⟩
              rw [← hxm] at p2 HXW
              obtain ⟨va15, vc15, hv15⟩ := HP.out.2.2.2.2.2.1.shape
              subst hv15
              have HLN : Hid (((L.take kk).filter (nk (1 + (ro : Int)) (ri : Int))).length ≤ 10000) := by
                have h1 := List.length_filter_le (nk (1 + (ro : Int)) (ri : Int)) (L.take kk)
                have h2 := HN7.out
                rw [List.length_take] at h1
                show _ ≤ _
                omega
              obtain ⟨gg, cap3, w6, hrun, hbx6, hg6⟩ := HP.out.2.2.2.2.2.1.push (b := (xo, xi, xd)) (let ⟨us, h8, e8⟩ := HXW.out; e8 ▸ h8) HP.out.2.2.2.2.2.2.2 HLN.out
              have HPU : Hid (nk (1 + (ro : Int)) (ri : Int) (xo, xi, xd) = true → LP w B (pS t (1 + (ro : Int), (ri : Int), ([] : List Int))) [.slice a3 n3 c3, .slice b3 m3 d3, .slice e3 k3 f3, .int .i64 q3] (.slice a7 n7 c7) L Y.heap.size (.slice (some ⟨gg, 0, none⟩) (((L.take kk).filter (nk (1 + (ro : Int)) (ri : Int))).length + 1) cap3) ((L.take (kk + 1)).filter (nk (1 + (ro : Int)) (ri : Int))) w6) := fun hnk => by
                rw [HFT.out, if_pos hnk]
                exact HP.out.push hg6 hbx6
              have HSK : Hid (nk (1 + (ro : Int)) (ri : Int) (xo, xi, xd) = false → LP w B (pS t (1 + (ro : Int), (ri : Int), ([] : List Int))) [.slice a3 n3 c3, .slice b3 m3 d3, .slice e3 k3 f3, .int .i64 q3] (.slice a7 n7 c7) L Y.heap.size (.slice va15 ((L.take kk).filter (nk (1 + (ro : Int)) (ri : Int))).length vc15) ((L.take (kk + 1)).filter (nk (1 + (ro : Int)) (ri : Int))) wr) := fun hnk => by
                rw [HFT.out, if_neg (by rw [hnk]; decide)]
                exact HP.out
              clear hx hAx jx1 jx2 hxm hbx6 hg6 HXW
              by_cases hxo : xo = 1 + (ro : Int)
              · subst hxo
                by_cases hxi : xi = (ri : Int)
                · subst hxi
                  have HS2 : Hid _ := HSK.out (by simp [nk])
                  have hb1 : ((1 + (ro : Int)) != (1 + (ro : Int))) = false := by simp
                  have hb2 : ((ri : Int) != (ri : Int)) = false := by simp
                  clear hrun
                  go_wp2
                  go_roundw
                  case rel => exact ⟨kk + 1, by omega, by go_num, HS2.out⟩
                  case measure => simp [intOf]; omega
                · have hxib : (xi == (ri : Int)) = false := by simpa using hxi
                  have HP2 : Hid _ := HPU.out (nk_iff.2 fun e => hxi e.2)
                  have hb1 : ((1 + (ro : Int)) != (1 + (ro : Int))) = false := by simp
                  go_wp2_with (at_builtin; refine list_app rfl _ _ 24 rfl rfl rfl rfl hrun ?_)
                  go_roundw
                  case rel => exact ⟨kk + 1, by omega, by go_num, HP2.out⟩
                  case measure => simp [intOf]; omega
              · have hxob : (xo == 1 + (ro : Int)) = false := by simpa using hxo
                have HP2 : Hid _ := HPU.out (nk_iff.2 fun e => hxo e.1)
                go_wp2_with (at_builtin; refine list_app rfl _ _ 24 rfl rfl rfl rfl hrun ?_)
                go_roundw
                case rel => exact ⟨kk + 1, by omega, by go_num, HP2.out⟩
                case measure => simp [intOf]; omega
            · obtain rfl : kk = n7 := by omega
              have HP9 : Hid (LP w B (pS t (1 + (ro : Int), (ri : Int), ([] : List Int))) [.slice a3 n3 c3, .slice b3 m3 d3, .slice e3 k3 f3, .int .i64 q3] (.slice a7 kk c7) L Y.heap.size u15 (L.filter (nk (1 + (ro : Int)) (ri : Int))) wr ∧ Ok (pS t (1 + (ro : Int), (ri : Int), ([] : List Int))) ∧ (Wnt (pS t (1 + (ro : Int), (ri : Int), ([] : List Int))) (L.filter (nk (1 + (ro : Int)) (ri : Int)) ++ if 0 = 0 then [] else [(1 + (ro : Int), (ri : Int), ([] : List Int))]))) := by
                have h1 := HP.out
                rw [HN7.out.1, List.take_length, ← HN7.out.1] at h1
                refine ⟨h1, pS_ok HP0.out, ?_⟩
                have h2 := HW.out.1.2.2.2.2.2.put HP0.out
                rw [HBK.out.2.2.1]
                exact h2
              clear HP
              obtain ⟨va15, vc15, hv15⟩ := HP9.out.1.2.2.2.2.2.1.shape
              subst hv15
              have hl12 := run_len Try.underlying27 none 0 0
              have HF : Hid (LI w B (pS t (1 + (ro : Int), (ri : Int), ([] : List Int))) [.slice a3 n3 c3, .slice b3 m3 d3, .slice e3 k3 f3, .int .i64 q3] (.slice va15 (L.filter (nk (1 + (ro : Int)) (ri : Int))).length vc15) (L.filter (nk (1 + (ro : Int)) (ri : Int))) wr) := HP9.out.1.done HP9.out.2.1 (by have := HP9.out.2.2; rw [if_pos rfl, List.append_nil] at this; exact this)
              go_wp2_with fail
              refine Go.Met.intro (hJ _ _ ?_)
              (repeat (refine Exists.intro ?_ ?_; rotate_left 1))
              refine ⟨?rel5, ?fr5⟩
              case fr5 => rfl
              case rel5 => exact ⟨_, _, _, HF⟩
      · as_aux_lemma =>
          obtain ⟨se, hse⟩ : ∃ z, z = sE t := ⟨_, rfl⟩
          obtain ⟨sp, hsp⟩ : ∃ z, z = sP t := ⟨_, rfl⟩
          have HC := seal_any 0 [.slice a1 n1 c1, .slice b1 m1 d1, .slice e1 k1 f1, .int .i64 q1] t W (let ⟨b, h9⟩ := HW.out.1.2.2.1; stN.weaken (stN.olies h9) (Nat.zero_le _))
          rw [← hse, ← hsp] at HC
          have HSE : Hid (se = sE t) := hse
          obtain ⟨y0, y1, y2, y3, -⟩ := HW.out.1.2.1.four
          clear hse hsp
          go_wp2_with fail
          clear y0 y1 y2 y3 cc0 cc1 cc2 cc3 cc4
          refine HC.mono ?_
          rintro e3 w3 ⟨⟨us3, rfl, ho3⟩, hb3⟩
          obtain ⟨a3, n3, c3, b3, m3, d3, e3, k3, f3, q3, rfl⟩ := st_fl ho3
          obtain ⟨V3, hV3⟩ : ∃ V, V = w3.alloc (.cells #[.slice a3 n3 c3, .slice b3 m3 d3, .slice e3 k3 f3, .int .i64 q3] 33) := ⟨_, rfl⟩
          have hbV : Below w3.heap.size w3 V3 := by rw [hV3]; exact (Below.refl _ _).alloc (Nat.le_refl _) _
          have HV3 : Hid (LI w B t [.slice a1 n1 c1, .slice b1 m1 d1, .slice e1 k1 f1, .int .i64 q1] (.slice a7 n7 c7) L V3 ∧ Box V3 w3.heap.size 33 #[.slice a3 n3 c3, .slice b3 m3 d3, .slice e3 k3 f3, .int .i64 q3] ∧ stN.owns W.heap.size V3 [.slice a3 n3 c3, .slice b3 m3 d3, .slice e3 k3 f3, .int .i64 q3] (sS t)) := ⟨HW.out.1.below (below_any hb3 hbV), by rw [hV3]; exact Box.new _ _ _, stN.obelow ho3 hbV⟩
          clear HC ho3 hb3 hbV
          go_upto_region 36 with fail
          rw [← hV3]
          clear hV3
          by_cases hs0 : se = 0
          case neg =>
            have hsb : (se == 0) = false := by simpa using hs0
            have HN : Hid (LI w B t [.slice a1 n1 c1, .slice b1 m1 d1, .slice e1 k1 f1, .int .i64 q1] (.slice a7 n7 c7) L V3) := HV3.out.1
            go_wp2_with (go_at_call 18; refine (num_any _ _).mono ?_; rintro e9 wn ⟨rfl, rfl⟩)
            refine Go.Met.intro (hJ _ _ ?_)
            (repeat (refine Exists.intro ?_ ?_; rotate_left 1))
            refine ⟨?rel7, ?fr7⟩
            case fr7 => rfl
            case rel7 => exact ⟨_, _, _, HN⟩
          subst hs0
          have HE0 : Hid (sE t = 0) := HSE.out.symm
          obtain ⟨y0, y1, y2, y3, z0, z1, z2, z3⟩ := HV3.out.1.2.1.four
          obtain ⟨x0, x1, x2, x3, -⟩ := HV3.out.2.1.four
          have HN : Hid (LI w B (sS t) [.slice a3 n3 c3, .slice b3 m3 d3, .slice e3 k3 f3, .int .i64 q3] (.slice a7 n7 c7) L ((((V3.setCell ⟨B, 0, none⟩ (.slice a3 n3 c3)).setCell ⟨B, 1, none⟩ (.slice b3 m3 d3)).setCell ⟨B, 2, none⟩ (.slice e3 k3 f3)).setCell ⟨B, 3, none⟩ (.int .i64 q3))) := HV3.out.1.set HBB.out HV3.out.2.2 (sS_ok HE0.out) (fun L' h => h.same fun o i => by rw [(sS_last HE0.out o i).1])
          go_wp2_with (go_at_call 18; refine (num_any _ _).mono ?_; rintro e9 wn ⟨rfl, rfl⟩)
          refine Go.Met.intro (hJ _ _ ?_)
          (repeat (refine Exists.intro ?_ ?_; rotate_left 1))
          refine ⟨?rel8, ?fr8⟩
          case fr8 => rfl
          case rel8 => exact ⟨_, _, _, HN⟩
      · as_aux_lemma =>
          clear cc0 cc1 cc2 cc3 cc4
          go_upto_region 39 with fail
          obtain ⟨rn, hrn1, hrn2⟩ := mod_pos pn N (by have := HN.out; omega) (by have := HN.out; omega)
          obtain ⟨fe, hfe⟩ : ∃ z, z = fE t (rn : Int) := ⟨_, rfl⟩
          have HFE : Hid (fe = fE t (rn : Int)) := hfe
          obtain ⟨z3, hz3⟩ : ∃ z, z = wrap64 (pn.tmod (N : Int) + (N : Int)) := ⟨_, rfl⟩
          rw [← hz3] at hrn2
          have hq4 : IntKind.i64.wrap (pn.tmod (N : Int) + (N : Int)) = z3 := wrap_is _ _ hz3
          have hN0 : ¬ (N : Int) = 0 := by have := HN.out; omega
          have hN2 : ¬ N = 0 := by have := HN.out; omega
          have hN1 : ((N : Int) == 0) = false := by simpa using hN0
          have HCF : Hid (∀ V, Below W.heap.size W V → Calls Try.prog 26 #[.agg #[.slice a1 n1 c1, .slice b1 m1 d1, .slice e1 k1 f1, .int .i64 q1], .int .i64 (rn : Int)] V (TellsS fe (fS t (rn : Int)) V)) := fun V hV => by
            rw [hfe]
            exact free_any 0 [.slice a1 n1 c1, .slice b1 m1 d1, .slice e1 k1 f1, .int .i64 q1] t (rn : Int) V (stN.below (let ⟨b, h9⟩ := HW.out.1.2.2.1; stN.weaken (stN.olies h9) (Nat.zero_le _)) hV)
          have HS : Hid (∀ V, Below W.heap.size W V → V.cell? ⟨B, 0, none⟩ = some (.slice a1 n1 c1) ∧ V.cell? ⟨B, 1, none⟩ = some (.slice b1 m1 d1) ∧ V.cell? ⟨B, 2, none⟩ = some (.slice e1 k1 f1) ∧ V.cell? ⟨B, 3, none⟩ = some (.int .i64 q1) ∧ V.cell? ⟨wr.heap.size, 4, none⟩ = some (.int .i64 pn)) := fun V hV => ⟨(HW.out.1.2.1.below hV HW.out.1.2.1.lt).four.1, (HW.out.1.2.1.below hV HW.out.1.2.1.lt).four.2.1, (HW.out.1.2.1.below hV HW.out.1.2.1.lt).four.2.2.1, (HW.out.1.2.1.below hV HW.out.1.2.1.lt).four.2.2.2.1, (HW.out.2.below hV HW.out.2.lt).five.2.2.2.2⟩
          clear hfe
          have HMQ : Hid (IntKind.i64.wrap (pn.tmod (N : Int) + (N : Int)) = z3 ∧ z3.tmod (N : Int) = (rn : Int) ∧ ¬ N = 0 ∧ ((N : Int) == 0) = false ∧ ¬ (N : Int) = 0) := ⟨hq4, hrn2, hN2, hN1, hN0⟩
          clear hq4 hrn2 hN2 hN1 hN0 hrn1 hz3
          go_cut [20, 21] (fun u v wx => ∃ (Bf : Nat) (us3 : List Value), u = .pointer (some ⟨Bf, 0, none⟩) ∧ v = .int .i64 fe ∧ Hid (LI w B t [.slice a1 n1 c1, .slice b1 m1 d1, .slice e1 k1 f1, .int .i64 q1] (.slice a7 n7 c7) L wx ∧ Box wx Bf 33 us3.toArray ∧ ∃ b', stN.owns b' wx us3 (fS t (rn : Int))))
          case first =>
            rename_i J2 K2 hJ2 hMt2
            refine AnyBut.begin (fun V => V.cell? ⟨B, 0, none⟩ = some (.slice a1 n1 c1) ∧ V.cell? ⟨B, 1, none⟩ = some (.slice b1 m1 d1) ∧ V.cell? ⟨B, 2, none⟩ = some (.slice e1 k1 f1) ∧ V.cell? ⟨B, 3, none⟩ = some (.int .i64 q1) ∧ V.cell? ⟨wr.heap.size, 4, none⟩ = some (.int .i64 pn)) 1000 (by kernel_rfl) ?_
            have hSS := HS.out W.drew (Below.refl _ W).drew
            have hbV : Below W.heap.size W W.drew := (Below.refl _ W).drew
            obtain ⟨hq4, hrn2, hN2, hN1, hN0⟩ := HMQ.out
            refine tx 0 162 hSS ?_
            simp only [ua, ub, uc, ud]
            refine tx 1 163 hSS ?_
            simp only [ua, ub, uc, ud]
            refine tx 2 164 hSS ?_
            simp only [ua, ub, uc, ud]
            refine tx 3 165 hSS ?_
            simp only [ua, ub, uc, ud]
            refine tx 4 166 hSS ?_
            simp only [ua, ub, uc, ud]
            refine tx 5 167 hSS ?_
            simp only [ua, ub, uc, ud]
            refine tx 6 168 hSS ?_
            simp only [ua, ub, uc, ud]
            refine tx 7 169 hSS ?_
            simp only [ua, ub, uc, ud]
            try simp only [hrn2]
            refine tx 8 170 hSS ?_
            simp only [ua, ub, uc, ud]
            try simp only [hrn2]
            clear hq4 hrn2 hN2 hN1 hN0
            refine AnyBut.two (i := 9) (j := 13) (by kernel_rfl) rfl rfl (fun K hK => ?_) (fun K hK => ?_)
            · go_simp
              refine Calls.mono (HCF.out _ hbV) ?_
              rintro e3 w3 ⟨⟨us3, rfl, ho3⟩, hb3⟩
              obtain ⟨a3, n3, c3, b3, m3, d3, e3, k3, f3, q3, rfl⟩ := st_fl ho3
              dsimp only
              replace hbV : Below W.heap.size W w3 := below_any hbV hb3
              have hle : W.heap.size ≤ w3.heap.size := hbV.size
              refine hK.out _ _ (HS.out w3 hbV) ?_
              clear hK hSS hb3
              obtain ⟨V3, hV3⟩ : ∃ V, V = w3.alloc (.cells #[.slice none 0 0, .slice none 0 0, .slice none 0 0, .int .i64 0] 33) := ⟨_, rfl⟩
              have hb4 : Below w3.heap.size w3 V3 := by rw [hV3]; exact (Below.refl _ _).alloc (Nat.le_refl _) _
              have hx3 : Box V3 w3.heap.size 33 #[.slice none 0 0, .slice none 0 0, .slice none 0 0, .int .i64 0] := by rw [hV3]; exact Box.new _ _ _
              have hSS := HS.out w3 hbV
              refine tx 10 161 hSS ?_
              simp only [ua, ub, uc, ud]
              refine tx 11 172 hSS ?_
              simp only [ua, ub, uc, ud]
              refine tx 12 173 hSS ?_
              simp only [ua, ub, uc, ud]
              refine AnyBut.step (i := 13) (by kernel_rfl) rfl (fun K hK => ?_)
              go_simp
              rw [← hV3]
              replace ho3 := stN.obelow ho3 hb4
              replace hbV : Below W.heap.size W V3 := below_any hbV hb4
              refine hK.out _ _ (HS.out V3 hbV) ?_
              clear hK hSS hV3 hb4
              obtain ⟨f0', f1', f2', f3', j0, j1, j2, j3⟩ := hx3.four
              obtain ⟨Q, hQ⟩ : ∃ Q, Q = (((V3.setCell ⟨w3.heap.size, 0, none⟩ (.slice a3 n3 c3)).setCell ⟨w3.heap.size, 1, none⟩ (.slice b3 m3 d3)).setCell ⟨w3.heap.size, 2, none⟩ (.slice e3 k3 f3)).setCell ⟨w3.heap.size, 3, none⟩ (.int .i64 q3) := ⟨_, rfl⟩
              have hbQ : Below W.heap.size W Q := by rw [hQ]; exact below_set4 hbV hle _ _ _ _
              have HQ : Hid (LI w B t [.slice a1 n1 c1, .slice b1 m1 d1, .slice e1 k1 f1, .int .i64 q1] (.slice a7 n7 c7) L Q ∧ Box Q w3.heap.size 33 #[.slice a3 n3 c3, .slice b3 m3 d3, .slice e3 k3 f3, .int .i64 q3] ∧ ∃ b', stN.owns b' Q [.slice a3 n3 c3, .slice b3 m3 d3, .slice e3 k3 f3, .int .i64 q3] (fS t (rn : Int))) := ⟨HW.out.1.below hbQ, by rw [hQ]; exact box_four' hx3 _ _ _ _, _, by rw [hQ]; exact own_set4 stN (by decide) ho3 hx3 _ _ _ _⟩
              refine AnyBut.step (i := 14) (by kernel_rfl) rfl (fun K hK => ?_)
              go_simp
              rw [← hQ]
              refine hK.out _ _ (HS.out Q hbQ) ?_
              clear hK hQ f0' f1' f2' f3' j0 j1 j2 j3
              have hSS := HS.out Q hbQ
              refine AnyBut.step (i := 15) (by kernel_rfl) rfl (fun K hK => ?_)
              go_simp
              refine hK.out _ _ hSS ?_
              clear hK
              refine AnyBut.done (by kernel_rfl) ?_
              refine hMt2 _ _ (Go.Met.intro (hJ2 _ _ ?_))
              (repeat (refine Exists.intro ?_ ?_; rotate_left 1))
              refine ⟨?relf1, ?frf1⟩
              case frf1 => rfl
              case relf1 => exact ⟨_, _, rfl, rfl, HQ⟩
            · go_simp
              obtain ⟨V3, hV3⟩ : ∃ V, V = (W.alloc (.cells #[.slice none 0 0, .slice none 0 0, .slice none 0 0, .int .i64 0] 33)).drew := ⟨_, rfl⟩
              have hb4 : Below W.heap.size W V3 := by rw [hV3]; exact ((Below.refl _ _).alloc (Nat.le_refl _) _).drew
              have hx3 : Box V3 W.heap.size 33 #[.slice none 0 0, .slice none 0 0, .slice none 0 0, .int .i64 0] := by rw [hV3]; exact Box.drew (Box.new _ _ _)
              rw [← hV3]
              refine hK.out _ _ (HS.out V3 hb4) ?_
              clear hK hSS hV3 hbV
              refine AnyBut.step (i := 9) (by kernel_rfl) rfl (fun K hK => ?_)
              go_simp
              refine Calls.mono (HCF.out _ hb4) ?_
              rintro e3 w3 ⟨⟨us3, rfl, ho3⟩, hb3⟩
              obtain ⟨a3, n3, c3, b3, m3, d3, e3, k3, f3, q3, rfl⟩ := st_fl ho3
              dsimp only
              have hbV : Below W.heap.size W w3 := below_any hb4 hb3
              have hle : W.heap.size ≤ W.heap.size := Nat.le_refl _
              replace hx3 := hx3.below hb3 hx3.lt
              refine hK.out _ _ (HS.out w3 hbV) ?_
              clear hK hb3 hb4
              have hSS := HS.out w3 hbV
              refine tx 10 161 hSS ?_
              simp only [ua, ub, uc, ud]
              refine tx 11 172 hSS ?_
              simp only [ua, ub, uc, ud]
              refine tx 12 173 hSS ?_
              simp only [ua, ub, uc, ud]
              clear hSS
              obtain ⟨f0', f1', f2', f3', j0, j1, j2, j3⟩ := hx3.four
              obtain ⟨Q, hQ⟩ : ∃ Q, Q = (((w3.setCell ⟨W.heap.size, 0, none⟩ (.slice a3 n3 c3)).setCell ⟨W.heap.size, 1, none⟩ (.slice b3 m3 d3)).setCell ⟨W.heap.size, 2, none⟩ (.slice e3 k3 f3)).setCell ⟨W.heap.size, 3, none⟩ (.int .i64 q3) := ⟨_, rfl⟩
              have hbQ : Below W.heap.size W Q := by rw [hQ]; exact below_set4 hbV hle _ _ _ _
              have HQ : Hid (LI w B t [.slice a1 n1 c1, .slice b1 m1 d1, .slice e1 k1 f1, .int .i64 q1] (.slice a7 n7 c7) L Q ∧ Box Q W.heap.size 33 #[.slice a3 n3 c3, .slice b3 m3 d3, .slice e3 k3 f3, .int .i64 q3] ∧ ∃ b', stN.owns b' Q [.slice a3 n3 c3, .slice b3 m3 d3, .slice e3 k3 f3, .int .i64 q3] (fS t (rn : Int))) := ⟨HW.out.1.below hbQ, by rw [hQ]; exact box_four' hx3 _ _ _ _, _, by rw [hQ]; exact own_set4 stN (by decide) ho3 hx3 _ _ _ _⟩
              refine AnyBut.step (i := 14) (by kernel_rfl) rfl (fun K hK => ?_)
              go_simp
              rw [← hQ]
              refine hK.out _ _ (HS.out Q hbQ) ?_
              clear hK hQ f0' f1' f2' f3' j0 j1 j2 j3
              have hSS := HS.out Q hbQ
              refine AnyBut.step (i := 15) (by kernel_rfl) rfl (fun K hK => ?_)
              go_simp
              refine hK.out _ _ hSS ?_
              clear hK
              refine AnyBut.done (by kernel_rfl) ?_
              refine hMt2 _ _ (Go.Met.intro (hJ2 _ _ ?_))
              (repeat (refine Exists.intro ?_ ?_; rotate_left 1))
              refine ⟨?relf2, ?frf2⟩
              case frf2 => rfl
              case relf2 => exact ⟨_, _, rfl, rfl, HQ⟩
          case rest =>
            obtain ⟨Bf, us3, rfl, rfl, HXX⟩ := hcut
            obtain ⟨wx, hwx⟩ : ∃ U, U = wc := ⟨_, rfl⟩
            rw [← hwx] at HXX ⊢
            clear hwx HS HCF
            obtain ⟨a3, n3, c3, b3, m3, d3, e3, k3, f3, q3, rfl⟩ := (let ⟨b, h9⟩ := HXX.out.2.2; st_fl h9)
            by_cases hs0 : fe = 0
            case neg =>
              have hsb : (fe == 0) = false := by simpa using hs0
              have HN : Hid (LI w B t [.slice a1 n1 c1, .slice b1 m1 d1, .slice e1 k1 f1, .int .i64 q1] (.slice a7 n7 c7) L wx) := HXX.out.1
              go_wp2_with (go_at_call 18; refine (num_any _ _).mono ?_; rintro e9 wn ⟨rfl, rfl⟩)
              refine Go.Met.intro (hJ _ _ ?_)
              (repeat (refine Exists.intro ?_ ?_; rotate_left 1))
              refine ⟨?rel9, ?fr9⟩
              case fr9 => rfl
              case rel9 => exact ⟨_, _, _, HN⟩
            subst hs0
            have HE0 : Hid (fE t (rn : Int) = 0) := HFE.out.symm
            obtain ⟨y0, y1, y2, y3, z0, z1, z2, z3⟩ := HXX.out.1.2.1.four
            obtain ⟨x0, x1, x2, x3, -⟩ := HXX.out.2.1.four
            have HN : Hid (LI w B (fS t (rn : Int)) [.slice a3 n3 c3, .slice b3 m3 d3, .slice e3 k3 f3, .int .i64 q3] (.slice a7 n7 c7) L ((((wx.setCell ⟨B, 0, none⟩ (.slice a3 n3 c3)).setCell ⟨B, 1, none⟩ (.slice b3 m3 d3)).setCell ⟨B, 2, none⟩ (.slice e3 k3 f3)).setCell ⟨B, 3, none⟩ (.int .i64 q3))) := HXX.out.1.set HBB.out HXX.out.2.2.choose_spec (fS_ok HE0.out) (fun L' h => h.same fun o i => fS_last HE0.out o i)
            go_wp2_with (go_at_call 18; refine (num_any _ _).mono ?_; rintro e9 wn ⟨rfl, rfl⟩)
            refine Go.Met.intro (hJ _ _ ?_)
            (repeat (refine Exists.intro ?_ ?_; rotate_left 1))
            refine ⟨?rel10, ?fr10⟩
            case fr10 => rfl
            case rel10 => exact ⟨_, _, _, HN⟩
    case rest =>
      as_aux_lemma =>
        obtain ⟨t', ux', L', HX⟩ := hcut
        obtain ⟨wx, hwx⟩ : ∃ U, U = wc := ⟨_, rfl⟩
        rw [← hwx] at HX ⊢
        clear hwx HW HN7 HKX hkb
        obtain ⟨a4, n4, c4, b4, m4, d4, e4, k4, f4, q4, rfl⟩ := (let ⟨b, h9⟩ := HX.out.2.2.1; st_fl h9)
        obtain ⟨a8, c8, hv8⟩ := HX.out.2.2.2.1.shape
        subst hv8
        obtain ⟨n8, hn8⟩ : ∃ z, z = L'.length := ⟨_, rfl⟩
        have HN8 : Hid (n8 = L'.length ∧ n8 ≤ 1000) := ⟨hn8, by rw [hn8]; exact HX.out.2.2.2.2.2.few HX.out.2.2.2.2.1⟩
        rw [← hn8] at HX ⊢
        clear hn8
        have hn8b : n8 ≤ 1000 := HN8.out.2
        have HC := all_any 0 [.slice a4 n4 c4, .slice b4 m4 d4, .slice e4 k4 f4, .int .i64 q4] t' wx (let ⟨b, h9⟩ := HX.out.2.2.1; stN.weaken (stN.olies h9) (Nat.zero_le _))
        rw [okE_ok HX.out.2.2.2.2.1] at HC
        obtain ⟨y0, y1, y2, y3, -⟩ := HX.out.2.1.four
        go_wp2_with fail
        clear y0 y1 y2 y3
        refine HC.mono ?_
        rintro e5 wA ⟨⟨v5, M, rfl, ho5, hA5, -⟩, hb5⟩
        obtain ⟨a5, c5, _, hv5, -⟩ := Shape.list_own (S := bkN) (ht := Try.underlying31) (hc := cells31) ho5
        obtain rfl : v5 = _ := (List.cons.inj hv5).1
        have hml : M.length = n8 := by rw [HN8.out.1]; exact HX.out.2.2.2.2.2.len (hA5 HX.out.2.2.2.2.1)
        rw [hml]
        have HXA : Hid (LI w B t' [.slice a4 n4 c4, .slice b4 m4 d4, .slice e4 k4 f4, .int .i64 q4] (.slice a8 n8 c8) L' wA) := HX.out.below hb5
        have hl5 := run_len Try.underlying31 a5 n8 c5
        have hl8 := run_len Try.underlying24 a8 n8 c8
        clear HC ho5 hA5 hv5 hml hb5 HX
        have hnn : ((n8 : Int) != (n8 : Int)) = false := by simp
        go_wp2_with (go_at_call 18; refine (num_any _ _).mono ?_; rintro e9 wn ⟨rfl, rfl⟩)
        go_loopw [24] (fun i wr => ∃ kk : Nat, kk ≤ n8 ∧ i = .int .i64 (kk : Int) ∧ Hid (LI w B t' [.slice a4 n4 c4, .slice b4 m4 d4, .slice e4 k4 f4, .int .i64 q4] (.slice a8 n8 c8) L' wr)) (fun i _ => n8 - (intOf i).toNat)
        case atStart => exact ⟨0, Nat.zero_le _, rfl, HXA.out⟩
        case round =>
          obtain ⟨kk, hkk, rfl, HP⟩ := hrel
          by_cases hk7 : kk < n8
          case neg =>
            obtain rfl : kk = n8 := by omega
            go_wp2
            go_roundw
            case rel => exact ⟨j + 1, _, _, _, by omega, by omega, by go_num, HP.out⟩
            case measure => simp [intOf]; omega
          have hki : (kk : Int) < (n8 : Int) := by omega
          obtain ⟨x, hx⟩ := get_lt (l := L') (k := kk) (by rw [← HN8.out.1]; exact hk7)
          obtain ⟨gb, gof, xa, xc, hixb, p0, p1, p2, hAx, jx1, jx2, -⟩ := bks_atR (HP.out.2.2.2.1.lies HP.out.1) kk x hx
          obtain ⟨hg1, hg2⟩ := HP.out.2.2.2.2.2.got HP.out.2.2.2.2.1 (List.mem_of_getElem? hx)
          obtain ⟨xo, xi, xd⟩ := x
          simp only at p0 p1 p2 hAx jx1 jx2 hg1 hg2
          obtain ⟨xm, hxm⟩ : ∃ z, z = xd.length := ⟨_, rfl⟩
          rw [← hxm] at p2 hAx hg2
          have HCG : Hid (∀ V, Below wr.heap.size wr V → Calls Try.prog 13 #[.agg #[.slice a4 n4 c4, .slice b4 m4 d4, .slice e4 k4 f4, .int .i64 q4], .int .i64 xo, .int .i64 xi] V fun e w' => (∃ v', e = .returned (.tuple #[v', .bool true, .int .i64 0]) ∧ Own1 V.heap.size w' v' xd) ∧ Below V.heap.size V w') := fun V hV => by
            have h1 := get_any 0 [.slice a4 n4 c4, .slice b4 m4 d4, .slice e4 k4 f4, .int .i64 q4] t' xo xi V (stN.below (let ⟨b, h9⟩ := HP.out.2.2.1; stN.weaken (stN.olies h9) (Nat.zero_le _)) hV) jx1 jx2
            rw [hg1, okE_ok HP.out.2.2.2.2.1, ← hxm, decide_eq_false hg2] at h1
            exact h1
          have HS : Hid (∀ V, Below wr.heap.size wr V → V.cell? ⟨B, 0, none⟩ = some (.slice a4 n4 c4) ∧ V.cell? ⟨B, 1, none⟩ = some (.slice b4 m4 d4) ∧ V.cell? ⟨B, 2, none⟩ = some (.slice e4 k4 f4) ∧ V.cell? ⟨B, 3, none⟩ = some (.int .i64 q4) ∧ V.cell? ⟨gb, gof, none⟩ = some (.int .i64 xo) ∧ V.cell? ⟨gb, gof + 1, none⟩ = some (.int .i64 xi)) := fun V hV => ⟨(HP.out.2.1.below hV HP.out.2.1.lt).four.1, (HP.out.2.1.below hV HP.out.2.1.lt).four.2.1, (HP.out.2.1.below hV HP.out.2.1.lt).four.2.2.1, (HP.out.2.1.below hV HP.out.2.1.lt).four.2.2.2.1, cell_below hV p0, cell_below hV p1⟩
          have HAX : Hid (Arg 0 wr (.slice xa xm xc) xd ∧ xm = xd.length ∧ wr.cell? ⟨gb, gof + 2, none⟩ = some (.slice xa xm xc)) := ⟨hAx, hxm, p2⟩
          clear hx hAx jx1 jx2 hg1 hg2 hxm p0 p1 p2
          go_upto_region 48 with fail
          refine AnyBut.begin (fun V => V.cell? ⟨B, 0, none⟩ = some (.slice a4 n4 c4) ∧ V.cell? ⟨B, 1, none⟩ = some (.slice b4 m4 d4) ∧ V.cell? ⟨B, 2, none⟩ = some (.slice e4 k4 f4) ∧ V.cell? ⟨B, 3, none⟩ = some (.int .i64 q4) ∧ V.cell? ⟨gb, gof, none⟩ = some (.int .i64 xo) ∧ V.cell? ⟨gb, gof + 1, none⟩ = some (.int .i64 xi)) 1000 (by kernel_rfl) ?_
          have hSS := HS.out wr.drew (Below.refl _ wr).drew
          refine tx 0 200 hSS ?_
          simp only [ua, ub, uc, ud]
          refine tx 1 201 hSS ?_
          simp only [ua, ub, uc, ud]
          refine tx 2 202 hSS ?_
          simp only [ua, ub, uc, ud]
          refine tx 3 203 hSS ?_
          simp only [ua, ub, uc, ud]
          refine tx 4 204 hSS ?_
          simp only [ua, ub, uc, ud]
          refine tx 5 205 hSS ?_
          simp only [ua, ub, uc, ud]
          refine tx 6 206 hSS ?_
          simp only [ua, ub, uc, ud]
          refine tx 7 207 hSS ?_
          simp only [ua, ub, uc, ud]
          refine tx 8 208 hSS ?_
          simp only [ua, ub, uc, ud]
          refine tx 9 209 hSS ?_
          simp only [ua, ub, uc, ud]
          refine tx 10 210 hSS ?_
          simp only [ua, ub, uc, ud]
          refine AnyBut.step (i := 11) (by kernel_rfl) rfl (fun K hK => ?_)
          go_simp
          refine Calls.mono (HCG.out _ (Below.refl _ wr).drew) ?_
          rintro e6 w6 ⟨⟨v6, rfl, ho6⟩, hb6⟩
          dsimp only
          have hb6 : Below wr.heap.size wr w6 := ((Below.refl wr.heap.size wr).drew).trans (hb6.mono (Nat.le_refl _))
          refine hK.out _ _ (HS.out w6 hb6) ?_
          clear hK hSS
          have hSS := HS.out w6 hb6
          refine tx 12 199 hSS ?_
          simp only [ua, ub, uc, ud]
          refine tx 13 212 hSS ?_
          simp only [ua, ub, uc, ud]
          refine tx 14 213 hSS ?_
          simp only [ua, ub, uc, ud]
          refine tx 15 214 hSS ?_
          simp only [ua, ub, uc, ud]
          refine tx 16 25 hSS ?_
          simp only [ua, ub, uc, ud]
          refine tx 17 26 hSS ?_
          simp only [ua, ub, uc, ud]
          refine tx 18 27 hSS ?_
          simp only [ua, ub, uc, ud]
          refine AnyBut.done (by kernel_rfl) ?_
          clear hSS HS HCG
          obtain ⟨ga6, gc6, hv6⟩ := ho6.shape
          subst hv6
          rw [← HAX.out.2.1] at ho6 ⊢
          have HSM : Hid (Calls Try.prog 19 #[.slice ga6 xm gc6, .slice xa xm xc] w6 fun e w' => e = .returned (.bool true) ∧ ∃ q, w' = w6.drewN q) := by
            have := same_any 0 0 (.slice ga6 xm gc6) (.slice xa xm xc) xd xd w6 (ho6.arg.weaken (Nat.zero_le _)) (HAX.out.1.below hb6)
            rwa [decide_eq_true rfl] at this
          have p2 := cell_below hb6 HAX.out.2.2
          have HP6 : Hid (LI w B t' [.slice a4 n4 c4, .slice b4 m4 d4, .slice e4 k4 f4, .int .i64 q4] (.slice a8 n8 c8) L' w6) := HP.out.below hb6
          clear ho6 hb6
          go_wp2_with (go_at_call 18; refine (num_any _ _).mono ?_; rintro e9 wn ⟨rfl, rfl⟩)
          refine HSM.out.mono ?_
          rintro e7 w7 ⟨rfl, q7, hq7⟩
          have HP7 : Hid (LI w B t' [.slice a4 n4 c4, .slice b4 m4 d4, .slice e4 k4 f4, .int .i64 q4] (.slice a8 n8 c8) L' w7) := HP6.out.below (by rw [hq7]; exact below_drewN (Below.refl _ _) q7)
          clear hq7 p2 HSM
          go_wp2
          go_roundw
          case rel => exact ⟨kk + 1, by omega, by go_num, HP7.out⟩
          case measure => simp [intOf]; omega

set_option maxRecDepth 100000 in
theorem lifted (os : Os) (started : os.Started) (H : Type) (enc : TypeId × Value → H) :
    ReturnsInHanded {} Try.checked os 4 .any (Rows.logMapSpec.pre6 enc Try.prog Try.f4 Rows.logMapRow.domain false) (Rows.logMapSpec.post enc Try.prog Try.f4 false true false false) := by
  refine returnsInHanded_of_change_sized (C := Try.checked) own started (by kernel_rfl) Try.func4
    (ChangeSpec.witness6 (enc := enc) (C := Try.checked) false ⟨#[], #[.int .i64 0, .slice none 0 0], []⟩ 8 (by kernel_rfl) (by kernel_rfl) (by kernel_rfl) (by kernel_rfl)) ?_
  intro W base args ds gs before hval0 hW hcnd hsz0 _
  have hval : ∀ (j : Nat) t v, Try.f4.params[j]? = some t → args[j]? = some v → Value.okWide Try.prog W .any base t v := hval0
  have hW' := hW
  obtain ⟨p, q, hA0, hV, rfl, hfz, hnd⟩ := hW
  have hA : DataW.TrodAll enc Try.prog W 0 (fun _ => true) true Try.f4.params.toList args.toList ds p := hA0
  have hsz : (DataW.weightsEach Try.prog (Try.f4.params.toList ++ Rows.logMapSpec.plain.varTypes Try.prog) (ds ++ gs)).all (· ≤ reachBytes) = true := hsz0
  clear hsz0
  rw [Try.params4] at hA hval hsz
  obtain ⟨v0, vs0, d0, ds0, p0, q0, hargs, rfl, rfl, h0, r0⟩ := trodAll_cons hA
  obtain ⟨v1, vs1, d1, ds1, p1, q1, rfl, rfl, rfl, h1, r1⟩ := trodAll_cons r0
  obtain ⟨rfl, rfl, rfl⟩ := trodAll_nil r1
  obtain rfl : args = #[v0, v1] := by cases args; simp_all
  obtain ⟨rfl, rfl⟩ := trodVars_none hV
  obtain ⟨a0, rfl, rfl, rfl, w0⟩ := open_int Try.underlying3 (hval 0 3 v0 rfl rfl) h0
  have b0 := bounds_i64 w0
  obtain ⟨x1, len1, cap1, rfl⟩ := okWide_slice Try.underlying58 (hval 1 58 v1 rfl rfl)
  have k1 := h1
  have lt1 : ∀ x ∈ p1, x.block < W.heap.size := by obtain ⟨m, hm⟩ := k1; exact DataW.trod_lt m _ _ _ hm
  obtain ⟨m1, hm1⟩ := h1
  obtain ⟨s1, A1, F1'⟩ := stepsS.reads hm1
  have F1 := F1' fun n hn => by have := List.all_eq_true.1 hsz _ (DataW.weights_mem_each (j := 1) rfl rfl n hn); simpa using this
  clear hA0 hval0
  refine (walk 0 a0 _ s1 W b0 A1).mono fun e W' ⟨he, bel⟩ => ?_
  subst he
  exact ⟨_, rfl, _, _, _, [], _, [], hW', trodAll_mk1 (shut_bool Try.underlying4 _), (trodAll_cons_mk (shut_int Try.underlying3 w0) (trodAll_cons_mk (Below.trod laidOut (by kernel_rfl) (of_decide_eq_true (by kernel_rfl)) k1 bel lt1) trodAll_mk0)), rfl, bel.frame _, fun h => by cases h⟩

theorem over : Rows.logMapRow.holds Try.pinned (OpenSpec.ofChange Rows.logMapSpec) :=
  OpenClaim.holds_of_wide 4 Try.f4 rfl rfl rfl rfl rfl rfl rfl ⟨rfl, rfl, rfl, rfl, rfl⟩ rfl rfl rfl rfl rfl (by kernel_rfl) Try.func4 (by kernel_rfl)
    (of_decide_eq_true (by kernel_rfl)) (by unfold Func.isWrapper; first | (rw [if_pos (by decide +kernel)]; kernel_rfl) | (rw [if_neg (by decide +kernel)]; exact ⟨rfl, rfl⟩))
    (fun os started H enc _ => lifted os started H enc)

end Go.Proofs.Ytkpckadicjdieaa.logMap

namespace Go.Proofs.Ytkpckadicjdieaa
theorem logMap_holds : Rows.LogMapSaid := logMap.over
#print axioms logMap_holds
end Go.Proofs.Ytkpckadicjdieaa
