/-
  Which blocks of a slot are live, as the program tells them: the walk.
-/
import Derived.Test.YtkpckadicjdieabLUse
namespace Go.Proofs.Ytkpckadicjdieab
open Go.RowKit

set_option maxRecDepth 100000 in
set_option maxHeartbeats 8000000 in
theorem live_any (n0 : Nat) (us : List Value) (s : St) (i : Nat) (p : Sg) (w : World) (h : stN.lies n0 w us s) (hok : Ok s) (hp : s.1[i]? = some p) :
    Calls Try.prog 64 #[.agg us.toArray, .int .i64 i] w fun e w' => (∃ v', e = .returned v' ∧ BX w w' w.heap.size v' (lvs s p.1 p.2)) ∧ Below w.heap.size w w' := by
  obtain ⟨a, c, b, d, e, f, rfl, hS, hH, hO, hN, m1, m2, m3⟩ := st_viewN h
  obtain ⟨post, hpost⟩ : ∃ post : Ending → World → Prop, post = fun e w' => (∃ v', e = .returned v' ∧ BX w w' w.heap.size v' (lvs s p.1 p.2)) ∧ Below w.heap.size w w' := ⟨_, rfl⟩
  have HP : Hid (∀ v' w', BX w w' w.heap.size v' (lvs s p.1 p.2) → Below w.heap.size w w' → post (.returned v') w') := fun v' w' h1 h2 => by rw [hpost]; exact ⟨⟨v', rfl, h1⟩, h2⟩
  rw [← hpost]
  clear hpost
  obtain ⟨n, hn⟩ : ∃ n, n = s.1.length := ⟨_, rfl⟩
  obtain ⟨nh, hnh⟩ : ∃ n, n = s.2.1.length := ⟨_, rfl⟩
  obtain ⟨no, hno⟩ : ∃ n, n = s.2.2.1.length := ⟨_, rfl⟩
  obtain ⟨nx, hnx⟩ : ∃ n, n = s.2.2.2 := ⟨_, rfl⟩
  rw [← hn, ← hnh, ← hno, ← hnx] at h ⊢
  rw [← hn] at hS
  obtain ⟨W, hW⟩ : ∃ W, W = w.alloc (.cells #[.slice a n c, .slice b nh d, .slice e no f, .int .i64 nx] 31) := ⟨_, rfl⟩
  have hbW : Below w.heap.size w W := by rw [hW]; exact (Below.refl _ w).alloc (Nat.le_refl _) _
  have hB1 : Box W w.heap.size 31 #[.slice a n c, .slice b nh d, .slice e no f, .int .i64 nx] := by rw [hW]; exact Box.new _ _ _
  obtain ⟨pb, po, x, cap, hix, c0, c1, hL, _⟩ := sgs_atN hS i p hp
  obtain ⟨_, _, e0, hLb, hI, _⟩ := sg_viewN hL
  have HLB : Hid (bksN.lies n0 w [.slice x p.2.length cap] p.2 ∧ p.2.length ≤ 8 ∧ I64 p.1) := ⟨by simp at e0; obtain ⟨rfl, rfl⟩ := e0; exact hLb, hok.small p (List.mem_of_getElem? hp), hI⟩
  have HCL : Hid (∀ V, Below W.heap.size W V → Calls Try.prog 32 #[.agg #[.slice a n c, .slice b nh d, .slice e no f, .int .i64 nx]] V fun e w' => (∃ b, e = .returned (.map (some b)) ∧ LV V w' b (vers s) ∧ V.heap.size ≤ b) ∧ Below V.heap.size V w') := fun V hV => last_any n0 [.slice a n c, .slice b nh d, .slice e no f, .int .i64 nx] s V (stN.below h (below_any hbW hV)) hok
  have HW : Hid (Below w.heap.size w W ∧ ∀ U, Below W.heap.size W U → (U.cell? ⟨w.heap.size, 0, none⟩ = some (.slice a n c) ∧ U.cell? ⟨w.heap.size, 1, none⟩ = some (.slice b nh d) ∧ U.cell? ⟨w.heap.size, 2, none⟩ = some (.slice e no f) ∧ U.cell? ⟨w.heap.size, 3, none⟩ = some (.int .i64 nx)) ∧ U.cell? ⟨pb, po, none⟩ = some (.int .i64 p.1) ∧ U.cell? ⟨pb, po + 1, none⟩ = some (.slice x p.2.length cap)) := ⟨hbW, fun U hU => by
    have h1 := (hB1.below hU hB1.lt).four
    have h2 := below_any hbW hU
    exact ⟨⟨h1.1, h1.2.1, h1.2.2.1, h1.2.2.2.1⟩, by rw [h2.cell (cell_lt c0)]; exact c0, by rw [h2.cell (cell_lt c1)]; exact c1⟩⟩
  obtain ⟨m, hm⟩ : ∃ m, m = p.2.length := ⟨_, rfl⟩
  have HM : Hid (m = p.2.length) := hm
  rw [← hm] at HLB HW
  have hm8 := HLB.out.2.1
  have hl3 := run_len Try.underlying29 x m cap
  clear h hS hH hO hN m1 m2 m3 hbW hB1 c0 c1 hL hLb hI e0 hn hnh hno hnx hok hp hm
  go_enter Try.func64, Try.ntmps64
  go_upto_region 1 with fail
  rw [← hW]
  clear hW
  go_cut [5, 6] (fun u v wx => ∃ bb dd, u = .map (some bb) ∧ v = .pointer (some ⟨dd, 0, none⟩) ∧ Hid (W.heap.size ≤ dd) ∧ Hid (Below W.heap.size W wx ∧ (∃ w0, LV w0 wx bb (vers s)) ∧ Box wx dd 45 #[.int .i64 p.1, .slice x m cap]))
  case first =>
    rename_i J K1 hJ hMt
    refine AnyBut.begin (fun U => (U.cell? ⟨w.heap.size, 0, none⟩ = some (.slice a n c) ∧ U.cell? ⟨w.heap.size, 1, none⟩ = some (.slice b nh d) ∧ U.cell? ⟨w.heap.size, 2, none⟩ = some (.slice e no f) ∧ U.cell? ⟨w.heap.size, 3, none⟩ = some (.int .i64 nx)) ∧ U.cell? ⟨pb, po, none⟩ = some (.int .i64 p.1) ∧ U.cell? ⟨pb, po + 1, none⟩ = some (.slice x m cap)) 1000 (by kernel_rfl) ?_
    have hSS := HW.out.2 W.drew (Below.refl _ W).drew
    refine tx 0 12 hSS ?_
    simp only [ua, ub, uc, ud]
    refine tx 2 14 hSS ?_
    simp only [ua, ub, uc, ud]
    refine tx 3 15 hSS ?_
    simp only [ua, ub, uc, ud]
    refine tx 4 16 hSS ?_
    simp only [ua, ub, uc, ud]
    refine tx 5 17 hSS ?_
    simp only [ua, ub, uc, ud]
    refine tx 6 18 hSS ?_
    simp only [ua, ub, uc, ud]
    refine AnyBut.two (i := 1) (j := 7) (by kernel_rfl) rfl rfl (fun K hK => ?_) (fun K hK => ?_)
    · go_simp
      refine Calls.mono (HCL.out W.drew (Below.refl _ W).drew) ?_
      rintro e1 w1 ⟨⟨bb, rfl, hLV, hbb⟩, hb1⟩
      dsimp only
      have hb1 : Below W.heap.size W w1 := ((Below.refl _ W).drew).trans hb1
      refine hK.out _ _ (HW.out.2 w1 hb1) ?_
      clear hK hSS
      refine AnyBut.step (i := 7) (by kernel_rfl) rfl (fun K hK => ?_)
      go_simp
      refine hK.out _ _ (HW.out.2 _ (hb1.alloc hb1.size _)) ?_
      clear hK
      have hSS := HW.out.2 _ (hb1.alloc hb1.size (.cells #[.int .i64 0, .slice none 0 0] 45))
      refine tx 8 5 hSS ?_
      simp only [ua, ub, uc, ud]
      refine AnyBut.step (i := 9) (by kernel_rfl) rfl (fun K hK => ?_)
      go_simp
      refine hK.out _ _ (HW.out.2 _ (hb1.alloc hb1.size _)) ?_
      clear hK
      refine AnyBut.done (by kernel_rfl) ?_
      refine hMt _ _ (Go.Met.intro (hJ _ _ ?_))
      (repeat (refine Exists.intro ?_ ?_; rotate_left 1))
      refine ⟨?rel1, ?fr1⟩
      case fr1 => rfl
      case rel1 => exact ⟨_, _, rfl, rfl, hb1.size, hb1.alloc hb1.size _, ⟨_, hLV.below ((Below.refl _ _).alloc (Nat.le_refl _) _)⟩, Box.new _ _ _⟩
    · go_simp
      obtain ⟨Z, hZ⟩ : ∃ Z, Z = (W.alloc (.cells #[.int .i64 0, .slice none 0 0] 45)).drew := ⟨_, rfl⟩
      have hbz : Below W.heap.size W Z := by rw [hZ]; exact ((Below.refl _ W).alloc (Nat.le_refl _) _).drew
      have hBz : Box Z W.heap.size 45 #[.int .i64 0, .slice none 0 0] := by rw [hZ]; exact Box.drew (Box.new _ _ _)
      rw [← hZ]
      refine hK.out _ _ (HW.out.2 Z hbz) ?_
      clear hK hSS hZ
      refine AnyBut.step (i := 1) (by kernel_rfl) rfl (fun K hK => ?_)
      go_simp
      refine Calls.mono (HCL.out Z hbz) ?_
      rintro e1 w1 ⟨⟨bb, rfl, hLV, hbb⟩, hb1⟩
      dsimp only
      have hBp := hBz.below hb1 hBz.lt
      have hb1 : Below W.heap.size W w1 := hbz.trans (hb1.mono hbz.size)
      refine hK.out _ _ (HW.out.2 w1 hb1) ?_
      clear hK
      have hSS := HW.out.2 w1 hb1
      refine tx 8 5 hSS ?_
      simp only [ua, ub, uc, ud]
      obtain ⟨z0, z1, y0, y1⟩ := hBp.two
      have HbQ : Hid (∀ u0 u1, Below W.heap.size W ((w1.setCell ⟨W.heap.size, 0, none⟩ u0).setCell ⟨W.heap.size, 1, none⟩ u1) ∧ Box ((w1.setCell ⟨W.heap.size, 0, none⟩ u0).setCell ⟨W.heap.size, 1, none⟩ u1) W.heap.size 45 #[u0, u1] ∧ LV Z ((w1.setCell ⟨W.heap.size, 0, none⟩ u0).setCell ⟨W.heap.size, 1, none⟩ u1) bb (vers s)) := fun u0 u1 => ⟨below_set2 hb1 (Nat.le_refl _) _ _, (hBp.set 0 _).set 1 _, hLV.kept (by
        have h9 : W.heap.size < Z.heap.size := hBz.lt
        rw [Below.heap_setCell _ _ _ _ (by show bb ≠ W.heap.size; omega), Below.heap_setCell _ _ _ _ (by show bb ≠ W.heap.size; omega)])⟩
      clear hBp hBz hbz
      refine AnyBut.step (i := 9) (by kernel_rfl) rfl (fun K hK => ?_)
      go_simp
      refine hK.out _ _ (HW.out.2 _ (HbQ.out _ _).1) ?_
      clear hK
      refine AnyBut.done (by kernel_rfl) ?_
      refine hMt _ _ (Go.Met.intro (hJ _ _ ?_))
      (repeat (refine Exists.intro ?_ ?_; rotate_left 1))
      refine ⟨?rel2, ?fr2⟩
      case fr2 => rfl
      case rel2 => exact ⟨_, _, rfl, rfl, Nat.le_refl _, (HbQ.out _ _).1, ⟨_, (HbQ.out _ _).2.2⟩, (HbQ.out _ _).2.1⟩
  case rest =>
    obtain ⟨bb, dd, rfl, rfl, HDD, HXX⟩ := hcut
    obtain ⟨wx, hwx⟩ : ∃ U, U = wc := ⟨_, rfl⟩
    rw [← hwx] at HXX ⊢
    clear hwx hix
    obtain ⟨hbx, ⟨w0, hLV⟩, hBX⟩ := HXX.out
    have HLV : Hid (LV w0 wx bb (vers s)) := hLV
    have HXB : Hid (Below W.heap.size W wx ∧ Box wx dd 45 #[.int .i64 p.1, .slice x m cap]) := ⟨hbx, hBX⟩
    obtain ⟨q0, q1, -⟩ := hBX.two
    clear HXX hbx hLV hBX
    go_wp2
    clear q0 q1
    go_loopw [7, 22] (fun v i wr => ∃ j : Nat, j ≤ m ∧ i = .int .i64 j ∧ Hid (BX w wr wx.heap.size v (lvs s p.1 (p.2.take j)) ∧ Below wx.heap.size wx wr)) (fun _ i _ => m - (intOf i).toNat)
    case atStart => exact ⟨0, Nat.zero_le _, rfl, BX.nil _ _ _, Below.refl _ _⟩
    case round =>
      obtain ⟨j, hj, rfl, HJ⟩ := hrel
      by_cases hlt : j < m
      · obtain ⟨t, ht⟩ := get_lt (l := p.2) (k := j) (by rw [← HM.out]; exact hlt)
        have hbr : Below w.heap.size w wr := below_any (below_any HW.out.1 HXB.out.1) HJ.out.2
        obtain ⟨tb, tof, tx', tcap, hix, k0, k1, k2, hA, hto, hti, _⟩ := bks_atN HLB.out.1 j t ht
        have g0 : wr.cell? ⟨tb, tof, none⟩ = some (.int .i64 t.1) := by rw [hbr.cell (cell_lt k0)]; exact k0
        have g1 : wr.cell? ⟨tb, tof + 1, none⟩ = some (.int .i64 t.2.1) := by rw [hbr.cell (cell_lt k1)]; exact k1
        have g2 : wr.cell? ⟨tb, tof + 2, none⟩ = some (.slice tx' t.2.2.length tcap) := by rw [hbr.cell (cell_lt k2)]; exact k2
        have HTK : Hid (lvs s p.1 (p.2.take (j + 1)) = if isLive s (p.1, j, t) = true then lvs s p.1 (p.2.take j) ++ [t] else lvs s p.1 (p.2.take j)) := lvs_take ht
        have HLL : Hid ((lvs s p.1 (p.2.take j)).length ≤ 8) := Nat.le_trans (lvs_le _ _ _) (by rw [List.length_take]; omega)
        obtain ⟨ml, hml⟩ : ∃ k, k = t.2.2.length := ⟨_, rfl⟩
        rw [← hml] at g2 hA
        have HUS : Hid (bkN.lies 0 w [.int .i64 t.1, .int .i64 t.2.1, .slice tx' ml tcap] t) := bk_mk (p := t) (hA.weaken (Nat.zero_le _)) hto hti
        obtain ⟨V, hV⟩ : ∃ V, V = wr.alloc (.cells #[.int .i64 t.1, .int .i64 t.2.1, .slice tx' ml tcap] 48) := ⟨_, rfl⟩
        have hbV : Below wr.heap.size wr V := by rw [hV]; exact (Below.refl _ _).alloc (Nat.le_refl _) _
        have hxV : Box V wr.heap.size 48 #[.int .i64 t.1, .int .i64 t.2.1, .slice tx' ml tcap] := by rw [hV]; exact Box.new _ _ _
        obtain ⟨kvv, hlk, hkv⟩ := HLV.out.look hto hti
        obtain ⟨ka, kc, hkv0, _⟩ := hkv
        obtain ⟨⟨kb, sq, pl, ct⟩, hkk⟩ : ∃ y, y = kn (vers s) t.1 t.2.1 := ⟨_, rfl⟩
        rw [← hkk] at hkv0
        simp only at hkv0
        subst hkv0
        have HLT : Hid (isLive s (p.1, j, t) = (decide (sq = p.1) && decide (pl = j) && (!decide (ml = 0) || decide (1 < ct)))) := by
          show isLive s (p.1, j, t) = _
          unfold isLive last
          simp only
          rw [← hkk, ← hml]
        have HC := kindOf_any t.1 t.2.1 tx' ml tcap V
        have HV : Hid (Below wr.heap.size wr V ∧ Box V wr.heap.size 48 #[.int .i64 t.1, .int .i64 t.2.1, .slice tx' ml tcap]) := ⟨hbV, hxV⟩
        obtain ⟨v0, v1, v2, -⟩ := hxV.three
        have hji : (j : Int) < (m : Int) := by omega
        have hbm := HLV.out.lt
        have HLK : Hid (∀ U, Below wx.heap.size wx U → Sem.run Try.prog (Instr.lookup 77 (.map (some bb)) (.agg #[.int .i64 t.1, .int .i64 t.2.1]) false) U = .ok (.agg #[.int .i64 kb.1, .int .i64 kb.2.1, .slice ka kb.2.2.length kc, .int .i64 sq, .int .i64 (pl : Nat), .int .i64 (ct : Nat)]) U) := fun U hU => hlk U (hU.block bb hbm)
        clear ht hA hto hti k0 k1 k2 hml hbV hxV hkk hlk hbr hbm
        obtain ⟨a7, c7, rfl⟩ := HJ.out.1.shape
        go_upto_region 6 with fail
        rw [← hV]
        clear hV hix g0 g1 g2
        go_wp2_with fail
        refine HC.mono ?_
        rintro e2 w2 ⟨rfl, hb2⟩
        have hlk2 := HLK.out w2 (HJ.out.2.trans ((HV.out.1.trans (hb2.mono HV.out.1.size)).mono HJ.out.2.size))
        obtain ⟨V2, hV2⟩ : ∃ V2, V2 = w2.alloc (.cells #[.int .i64 kb.1, .int .i64 kb.2.1, .slice ka kb.2.2.length kc, .int .i64 sq, .int .i64 (pl : Nat), .int .i64 (ct : Nat)] 82) := ⟨_, rfl⟩
        have hbV2 : Below wr.heap.size wr V2 := by rw [hV2]; exact (HV.out.1.trans (hb2.mono HV.out.1.size)).alloc (by have := HV.out.1.size; have := hb2.size; omega) _
        have hxV2 : Box V2 w2.heap.size 82 #[.int .i64 kb.1, .int .i64 kb.2.1, .slice ka kb.2.2.length kc, .int .i64 sq, .int .i64 (pl : Nat), .int .i64 (ct : Nat)] := by rw [hV2]; exact Box.new _ _ _
        have hyV2 : Box V2 wr.heap.size 48 #[.int .i64 t.1, .int .i64 t.2.1, .slice tx' ml tcap] := by rw [hV2]; exact (HV.out.2.below hb2 HV.out.2.lt).alloc _
        have HVV : Hid (Below wr.heap.size wr V2 ∧ ∀ U, Below V2.heap.size V2 U → Box U w2.heap.size 82 #[.int .i64 kb.1, .int .i64 kb.2.1, .slice ka kb.2.2.length kc, .int .i64 sq, .int .i64 (pl : Nat), .int .i64 (ct : Nat)] ∧ Box U wr.heap.size 48 #[.int .i64 t.1, .int .i64 t.2.1, .slice tx' ml tcap]) := ⟨hbV2, fun U hU => ⟨hxV2.below hU hxV2.lt, hyV2.below hU hyV2.lt⟩⟩
        have hsV2 := HXB.out.2.below (HJ.out.2.trans (hbV2.mono HJ.out.2.size)) HXB.out.2.lt
        have HG := isGone_any t.1 t.2.1 tx' ml tcap V2
        have HBX : Hid (BX w wr wx.heap.size (.slice a7 (lvs s p.1 (p.2.take j)).length c7) (lvs s p.1 (p.2.take j))) := HJ.out.1
        have HSKIP : Hid (isLive s (p.1, j, t) = false → ∀ U, Below V2.heap.size V2 U → Hid (BX w U wx.heap.size (.slice a7 (lvs s p.1 (p.2.take j)).length c7) (lvs s p.1 (p.2.take (j + 1))) ∧ Below wx.heap.size wx U)) := fun hl U hU => by
          have h1 := hbV2.trans (hU.mono hbV2.size)
          refine ⟨?_, HJ.out.2.trans (h1.mono HJ.out.2.size)⟩
          rw [HTK.out, hl]
          exact HBX.out.below h1
        have HPUSH : Hid (isLive s (p.1, j, t) = true → ∀ U, Below V2.heap.size V2 U → ∀ v3 w6, U.grownBy w6 (Value.slice a7 (lvs s p.1 (p.2.take j)).length c7).ownBlock → BX w w6 wx.heap.size v3 (lvs s p.1 (p.2.take j) ++ [t]) → BX w w6 wx.heap.size v3 (lvs s p.1 (p.2.take (j + 1))) ∧ Below wx.heap.size wx w6) := fun hl U hU v3 w6 hg h6 => by
          have h1 := hbV2.trans (hU.mono hbV2.size)
          refine ⟨by rw [HTK.out, hl, if_pos rfl]; exact h6, ?_⟩
          exact (HBX.out.below h1).grow hg (HJ.out.2.trans (h1.mono HJ.out.2.size)) (by have := HJ.out.2.size; have := h1.size; omega)
        obtain ⟨x0, x1, x2, x3, x4, x5⟩ := hxV2.six
        obtain ⟨b0, b1, b2, -⟩ := hyV2.three
        obtain ⟨s0', s1', -⟩ := hsV2.two
        go_upto_region 7 with fail
        rw [← hV2]
        clear hV2 hbV2 hxV2 hyV2 hsV2 hb2 HC v0 v1 v2 hlk2
        by_cases h1 : sq = p.1
        · subst h1
          by_cases h2 : pl = j
          · subst h2
            by_cases h3 : ml = 0
            · subst h3
              by_cases h4 : 1 < ct
              · have h4i : (1 : Int) < (ct : Int) := by omega
                have HLIV : Hid (isLive s (p.1, pl, t) = true) := show _ = _ by rw [HLT.out]; simp [h4]
                go_wp2_with fail
                refine HG.mono ?_
                rintro e5 w5 ⟨rfl, hb5⟩
                obtain ⟨y0, y1, y2, y3, y4, y5⟩ := (HVV.out.2 w5 hb5).1.six
                obtain ⟨d0, d1, d2, -⟩ := (HVV.out.2 w5 hb5).2.three
                obtain ⟨gg, cap3, w6, hrun, hbx6, hg6⟩ := (HBX.out.below (HVV.out.1.trans (hb5.mono HVV.out.1.size))).push HUS.out (by have := HJ.out.2.size; have := HVV.out.1.size; have := hb5.size; omega) (by have := HLL.out; omega)
                have HF : Hid (BX w w6 wx.heap.size (.slice (some ⟨gg, 0, none⟩) ((lvs s p.1 (p.2.take pl)).length + 1) cap3) (lvs s p.1 (p.2.take (pl + 1))) ∧ Below wx.heap.size wx w6) := HPUSH.out HLIV.out w5 hb5 _ _ hg6 hbx6
                clear hb5 HG x0 x1 x2 x3 x4 x5 b0 b1 b2 s0' s1' hbx6 hg6
                go_wp2_with (at_builtin; refine list_app rfl _ _ 29 rfl rfl rfl rfl hrun ?_)
                go_roundw
                case rel => exact ⟨pl + 1, by omega, by go_num, HF.out⟩
                case measure => simp [intOf]; omega
              · have h4i : ¬ (1 : Int) < (ct : Int) := by omega
                have HLIV : Hid (isLive s (p.1, pl, t) = false) := show _ = _ by rw [HLT.out]; simp [h4]
                go_wp2_with fail
                refine HG.mono ?_
                rintro e5 w5 ⟨rfl, hb5⟩
                obtain ⟨y0, y1, y2, y3, y4, y5⟩ := (HVV.out.2 w5 hb5).1.six
                have HS5 := HSKIP.out HLIV.out w5 hb5
                clear hb5 HG x0 x1 x2 x3 x4 x5 b0 b1 b2 s0' s1'
                go_wp2
                go_roundw
                case rel => exact ⟨pl + 1, by omega, by go_num, HS5.out⟩
                case measure => simp [intOf]; omega
            · have h3d : decide (ml = 0) = false := decide_eq_false h3
              have HLIV : Hid (isLive s (p.1, pl, t) = true) := show _ = _ by rw [HLT.out]; simp [h3]
              rw [h3d] at HG
              go_wp2_with fail
              refine HG.mono ?_
              rintro e5 w5 ⟨rfl, hb5⟩
              obtain ⟨y0, y1, y2, y3, y4, y5⟩ := (HVV.out.2 w5 hb5).1.six
              obtain ⟨d0, d1, d2, -⟩ := (HVV.out.2 w5 hb5).2.three
              obtain ⟨gg, cap3, w6, hrun, hbx6, hg6⟩ := (HBX.out.below (HVV.out.1.trans (hb5.mono HVV.out.1.size))).push HUS.out (by have := HJ.out.2.size; have := HVV.out.1.size; have := hb5.size; omega) (by have := HLL.out; omega)
              have HF : Hid (BX w w6 wx.heap.size (.slice (some ⟨gg, 0, none⟩) ((lvs s p.1 (p.2.take pl)).length + 1) cap3) (lvs s p.1 (p.2.take (pl + 1))) ∧ Below wx.heap.size wx w6) := HPUSH.out HLIV.out w5 hb5 _ _ hg6 hbx6
              clear hb5 HG x0 x1 x2 x3 x4 x5 b0 b1 b2 s0' s1' hbx6 hg6
              go_wp2_with (at_builtin; refine list_app rfl _ _ 29 rfl rfl rfl rfl hrun ?_)
              go_roundw
              case rel => exact ⟨pl + 1, by omega, by go_num, HF.out⟩
              case measure => simp [intOf]; omega
          · have h2i : ((pl : Int) == (j : Int)) = false := by simp; omega
            have HLIV : Hid (isLive s (p.1, j, t) = false) := show _ = _ by rw [HLT.out]; simp [h2]
            clear HG
            go_wp2
            go_roundw
            case rel => exact ⟨j + 1, by omega, by go_num, (HSKIP.out HLIV.out V2 (Below.refl _ _)).out⟩
            case measure => simp [intOf]; omega
        · have h1i : (sq == p.1) = false := by simp [h1]
          have HLIV : Hid (isLive s (p.1, j, t) = false) := show _ = _ by rw [HLT.out]; simp [h1]
          clear HG
          go_wp2
          go_roundw
          case rel => exact ⟨j + 1, by omega, by go_num, (HSKIP.out HLIV.out V2 (Below.refl _ _)).out⟩
          case measure => simp [intOf]; omega
      · obtain rfl : j = m := by omega
        have HE : Hid (BX w wr wx.heap.size u7 (lvs s p.1 p.2) ∧ Below wx.heap.size wx wr) := by
          show _ ∧ _
          have := HJ.out
          rwa [HM.out, List.take_length] at this
        go_wp2
        exact HP.out _ _ (HE.out.1.weaken (by have := HW.out.1.size; have := HXB.out.1.size; omega)) (below_any (below_any HW.out.1 HXB.out.1) HE.out.2)

end Go.Proofs.Ytkpckadicjdieab
