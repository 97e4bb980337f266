/-
  The document's live blocks.
-/
import Derived.Test.YtkpckadicjdieaaRLast
import Derived.Test.YtkpckadicjdieaaRUse
import Derived.Test.YtkpckadicjdieaaROwnB
import Derived.Test.YtkpckadicjdieaaLFree
namespace Go.Proofs.Ytkpckadicjdieaa
open Go.RowKit

/-! A row of blocks of its own whose data lie elsewhere. -/
def BR (w0 w : World) (base : Nat) (v : Value) (L : List Bk) : Prop := ∃ vss : List (List Value), w.ownsRow base 29 3 v L.length vss.flatten ∧ Each (bkR.lies 0 w0) vss L
theorem BR.nil (w0 w : World) (base : Nat) : BR w0 w base (.slice none 0 0) [] := ⟨[], World.ownsRow_nil _ _ _ _, trivial⟩
theorem BR.below {w0 w w' : World} {base : Nat} {v : Value} {L : List Bk} (h : BR w0 w base v L) (hb : Below w.heap.size w w') : BR w0 w' base v L := by
  obtain ⟨vss, h1, h2⟩ := h
  exact ⟨vss, own_below h1 hb, h2⟩
theorem BR.weaken {w0 w : World} {base b2 : Nat} {v : Value} {L : List Bk} (h : BR w0 w base v L) (hb : b2 ≤ base) : BR w0 w b2 v L := by
  obtain ⟨vss, h1, h2⟩ := h
  exact ⟨vss, own_weaken h1 hb, h2⟩
theorem BR.row {w0 w : World} {base : Nat} {v : Value} {L : List Bk} (h : BR w0 w base v L) : ∃ xs, w.ownsRow base 29 3 v L.length xs := let ⟨_, h1, _⟩ := h; ⟨_, h1⟩
theorem BR.shape {w0 w : World} {base : Nat} {v : Value} {L : List Bk} (h : BR w0 w base v L) : ∃ a c, v = .slice a L.length c := let ⟨_, h1⟩ := h.row; own_shape h1
theorem BR.lies {w0 w : World} {base : Nat} {v : Value} {L : List Bk} (h : BR w0 w base v L) (hb : Below w0.heap.size w0 w) : bksR.lies 0 w [v] L := by
  obtain ⟨vss, h1, h2⟩ := h
  exact ⟨v, vss, rfl, (Cells.own h1).weaken (Nat.zero_le _), h2.mono fun _ _ h => bkR.below h hb⟩
theorem BR.push {w0 wr : World} {base : Nat} {v : Value} {L : List Bk} {us : List Value} {b : Bk} (h : BR w0 wr base v L) (hu : bkR.lies 0 w0 us b) (hb : base ≤ wr.heap.size) (hl : L.length ≤ 10000) :
    ∃ g cap w3, (Builtin.append_ #[24, 24] 24 #[v, .slice (some ⟨wr.heap.size, 0, none⟩) 1 1]).run Try.prog (wr.alloc (.cells us.toArray 29)) = .ok (.slice (some ⟨g, 0, none⟩) (L.length + 1) cap) w3 ∧ BR w0 w3 base (.slice (some ⟨g, 0, none⟩) (L.length + 1) cap) (L ++ [b]) ∧ wr.grownBy w3 v.ownBlock := by
  obtain ⟨vss, hown, hE⟩ := h
  obtain ⟨i, hi, hz, hsz, hby⟩ := info_parts Try.info29
  have hul : us.length = 3 := bkR.length hu
  obtain ⟨g, cap, w3, h1, h2, h3, _, _⟩ := run_append_lies (P := Try.prog) (wr.alloc (.cells us.toArray 29)) 24 24 base 29 i _ 3 40 Try.underlying24 hi hz hsz hby rfl (by decide) v L.length vss.flatten (hown.alloc _) ⟨wr.heap.size, 0, none⟩ 1 1 us (by omega)
    (fun j u hj => World.news_of_block (cs := us.toArray) (t := 29) (fr := (0, 0)) (heap_alloc_new wr _) j u (by simpa using hj)) (bkR.ones hu) (by omega) (by unfold maxLen; omega) (by omega) (by simp; omega) (wr.heap.size + 1) (by simp)
  refine ⟨g, cap, w3, h1, ⟨vss ++ [us], by rw [List.length_append, flat_snoc]; exact h2, hE.snoc hu⟩, ?_⟩
  refine ⟨h3.os, h3.tape, h3.output, ?_, fun k hk hne => ?_⟩
  · have := h3.size
    simp at this
    omega
  · rw [h3.block k (by simp; omega) hne, Below.heap_alloc wr _ k hk]
theorem BR.grow {w0 w wr w3 : World} {base : Nat} {v : Value} {L : List Bk} (h : BR w0 wr base v L) (hg : wr.grownBy w3 v.ownBlock) (hb : Below base w wr) (hs : base ≤ wr.heap.size) : Below base w w3 := let ⟨_, h1⟩ := h.row; below_row hb h1 hg hs


set_option maxRecDepth 100000 in
set_option maxHeartbeats 8000000 in
theorem rliveL_any (n0 : Nat) (us : List Value) (s : St) (k : Int) (w : World) (h : stR.lies n0 w us s) :
    Calls Try.prog 68 #[.agg us.toArray, .int .i64 k] w fun e w' => (∃ v', e = .returned (.tuple #[v', .int .i64 (uE s k)]) ∧ bksR.owns w.heap.size w' [v'] (lL s k)) ∧ Below w.heap.size w w' := by
  obtain ⟨a, c, b, d, e, f, rfl, hS, hH, hO, hN, m1, m2, m3⟩ := st_viewR h
  obtain ⟨post, hpost⟩ : ∃ post : Ending → World → Prop, post = fun e w' => (∃ v', e = .returned (.tuple #[v', .int .i64 (uE s k)]) ∧ bksR.owns w.heap.size w' [v'] (lL s k)) ∧ Below w.heap.size w w' := ⟨_, rfl⟩
  have HNO : Hid (∀ r w', uE s k = r → r ≠ 0 → Below w.heap.size w w' → post (.returned (.tuple #[.slice none 0 0, .int .i64 r])) w') := fun r w' h1 h2 h3 => by
    rw [hpost]
    refine ⟨⟨_, by rw [h1], ?_⟩, h3⟩
    unfold lL
    rw [if_neg (by rw [h1]; exact h2)]
    exact Shape.list_nil bkR 24 Try.underlying24 cells24 _ _
  have HYES : Hid (∀ v' w', uE s k = 0 → bksR.owns w.heap.size w' [v'] (lL s k) → Below w.heap.size w w' → post (.returned (.tuple #[v', .int .i64 0])) w') := fun v' w' h1 h2 h3 => by
    rw [hpost]
    exact ⟨⟨v', by rw [h1], h2⟩, h3⟩
  rw [← hpost]
  clear hpost
  obtain ⟨n, hn⟩ : ∃ n, n = s.1.length := ⟨_, rfl⟩
  obtain ⟨nh, hnh⟩ : ∃ n, n = s.2.1.length := ⟨_, rfl⟩
  obtain ⟨no, hno⟩ : ∃ n, n = s.2.2.1.length := ⟨_, rfl⟩
  obtain ⟨nx, hnx⟩ : ∃ n, n = s.2.2.2 := ⟨_, rfl⟩
  rw [← hn, ← hnh, ← hno, ← hnx] at h ⊢
  rw [← hn] at hS
  obtain ⟨W, hW⟩ : ∃ W, W = w.alloc (.cells #[.slice a n c, .slice b nh d, .slice e no f, .int .i64 nx] 26) := ⟨_, rfl⟩
  have hbW : Below w.heap.size w W := by rw [hW]; exact (Below.refl _ w).alloc (Nat.le_refl _) _
  have hB1 : Box W w.heap.size 26 #[.slice a n c, .slice b nh d, .slice e no f, .int .i64 nx] := by rw [hW]; exact Box.new _ _ _
  have HC := rused_any n0 [.slice a n c, .slice b nh d, .slice e no f, .int .i64 nx] s k W (stR.below h hbW)
  have HW : Hid (Below w.heap.size w W ∧ Box W w.heap.size 26 #[.slice a n c, .slice b nh d, .slice e no f, .int .i64 nx] ∧ stR.lies n0 w [.slice a n c, .slice b nh d, .slice e no f, .int .i64 nx] s ∧ sgsR.lies n0 w [.slice a n c] s.1) := ⟨hbW, hB1, h, hS⟩
  obtain ⟨g0, g1, g2, g3, -⟩ := hB1.four
  rw [hW] at g0 g1 g2 g3
  clear h hS hH hO hN m1 m2 m3 hbW hB1 hn hnh hno hnx
  go_enter Try.func68, Try.ntmps68
  go_wp2_with fail
  rw [← hW]
  clear hW g0 g1 g2 g3
  refine HC.mono ?_
  rintro e1 w1 ⟨rfl, hb1⟩
  have HB1 : Hid (Below W.heap.size W w1) := hb1
  obtain ⟨q0, q1, q2, q3, -⟩ := (HW.out.2.1.below hb1 HW.out.2.1.lt).four
  clear hb1 HC
  rcases uE_cases s k with ⟨hu, hok, i, p, hki, hil, hip, hsl⟩ | ⟨hu, hv⟩
  · rw [hu]
    have HU : Hid (uE s k = 0 ∧ lL s k = lvs s p.1 p.2 ∧ Ok s) := ⟨hu, by unfold lL; rw [if_pos hu, hsl], hok⟩
    subst hki
    have HFB : Hid (FitsB (lvs s p.1 p.2)) := ⟨by have := lvs_le s p.1 p.2; have := hok.small p (List.mem_of_getElem? hip); omega, fun t ht => by
      have := may_len (hok.data p (List.mem_of_getElem? hip) t (lvs_mem ht))
      omega⟩
    obtain ⟨pb, po, x, cap, hix, c0, c1, hL, _⟩ := sgs_atR HW.out.2.2.2 i p hip
    obtain ⟨_, _, e0, hLb, hI, _⟩ := sg_viewR hL
    obtain ⟨m, hm⟩ : ∃ m, m = p.2.length := ⟨_, rfl⟩
    have HM : Hid (m = p.2.length) := hm
    have HLB : Hid (bksR.lies n0 w [.slice x m cap] p.2 ∧ m ≤ 8) := ⟨by rw [hm]; simp at e0; obtain ⟨rfl, rfl⟩ := e0; exact hLb, by rw [hm]; exact hok.small p (List.mem_of_getElem? hip)⟩
    have hm8 := HLB.out.2
    have hbw1 := below_any HW.out.1 HB1.out
    have k0 : w1.cell? ⟨pb, po, none⟩ = some (.int .i64 p.1) := by rw [hbw1.cell (cell_lt c0)]; exact c0
    have k1 : w1.cell? ⟨pb, po + 1, none⟩ = some (.slice x m cap) := by rw [hbw1.cell (cell_lt c1), hm]; exact c1
    obtain ⟨WX, hWX⟩ : ∃ V, V = w1.alloc (.cells #[.int .i64 p.1, .slice x m cap] 91) := ⟨_, rfl⟩
    have hbX : Below W.heap.size W WX := by rw [hWX]; exact HB1.out.alloc HB1.out.size _
    have hxX : Box WX w1.heap.size 91 #[.int .i64 p.1, .slice x m cap] := by rw [hWX]; exact Box.new _ _ _
    have HX : Hid (Below W.heap.size W WX ∧ ∀ U, Below WX.heap.size WX U → (U.cell? ⟨w1.heap.size, 0, none⟩ = some (.int .i64 p.1) ∧ U.cell? ⟨w1.heap.size, 1, none⟩ = some (.slice x m cap)) ∧ U.cell? ⟨w.heap.size, 0, none⟩ = some (.slice a n c) ∧ U.cell? ⟨w.heap.size, 1, none⟩ = some (.slice b nh d) ∧ U.cell? ⟨w.heap.size, 2, none⟩ = some (.slice e no f) ∧ U.cell? ⟨w.heap.size, 3, none⟩ = some (.int .i64 nx)) := ⟨hbX, fun U hU => by
      have h1 := (hxX.below hU hxX.lt).two
      have h2 := (HW.out.2.1.below (hbX.trans (hU.mono hbX.size)) HW.out.2.1.lt).four
      exact ⟨⟨h1.1, h1.2.1⟩, h2.1, h2.2.1, h2.2.2.1, h2.2.2.2.1⟩⟩
    have hl3 := run_len Try.underlying24 x m cap
    clear hu hok hil hip hsl hL hLb hI e0 hm hbw1 c0 c1 hbX hxX
    go_upto_region 6 with fail
    rw [← hWX]
    clear hWX hix k0 k1 q0 q1 q2 q3
    go_wp2
    go_loopw [7, 9] (fun v i wr => ∃ j : Nat, j ≤ m ∧ i = .int .i64 j ∧ Hid (BR w wr WX.heap.size v (lvs s p.1 (p.2.take j)) ∧ Below WX.heap.size WX wr)) (fun _ i _ => m - (intOf i).toNat)
    case atStart => exact ⟨0, Nat.zero_le _, rfl, BR.nil _ _ _, Below.refl _ _⟩
    case round =>
      obtain ⟨j, hj, rfl, HJ⟩ := hrel
      obtain ⟨a7, c7, rfl⟩ := HJ.out.1.shape
      obtain ⟨⟨s0', s1'⟩, -⟩ := HX.out.2 wr HJ.out.2
      by_cases hlt : j < m
      · obtain ⟨t, ht⟩ := get_lt (l := p.2) (k := j) (by rw [← HM.out]; exact hlt)
        have hbr : Below w.heap.size w wr := below_any (below_any HW.out.1 HX.out.1) HJ.out.2
        obtain ⟨tb, tof, tx', tcap, hixt, k0, k1, k2, hA, hto, hti, _⟩ := bks_atR HLB.out.1 j t ht
        have g0 : wr.cell? ⟨tb, tof, none⟩ = some (.int .i64 t.1) := by rw [hbr.cell (cell_lt k0)]; exact k0
        have g1 : wr.cell? ⟨tb, tof + 1, none⟩ = some (.int .i64 t.2.1) := by rw [hbr.cell (cell_lt k1)]; exact k1
        have g2 : wr.cell? ⟨tb, tof + 2, none⟩ = some (.slice tx' t.2.2.length tcap) := by rw [hbr.cell (cell_lt k2)]; exact k2
        have HTK : Hid (lvs s p.1 (p.2.take (j + 1)) = if isLive s (p.1, j, t) = true then lvs s p.1 (p.2.take j) ++ [t] else lvs s p.1 (p.2.take j)) := lvs_take ht
        have HLL : Hid ((lvs s p.1 (p.2.take j)).length ≤ 8) := Nat.le_trans (lvs_le _ _ _) (by rw [List.length_take]; omega)
        obtain ⟨ml, hml⟩ : ∃ k, k = t.2.2.length := ⟨_, rfl⟩
        rw [← hml] at g2 hA
        have HUS : Hid (bkR.lies 0 w [.int .i64 t.1, .int .i64 t.2.1, .slice tx' ml tcap] t) := bk_mk (p := t) (hA.weaken (Nat.zero_le _)) hto hti
        have HML : Hid (ml = t.2.2.length) := hml
        obtain ⟨V, hV⟩ : ∃ V, V = wr.alloc (.cells #[.int .i64 t.1, .int .i64 t.2.1, .slice tx' ml tcap] 29) := ⟨_, rfl⟩
        have hbV : Below wr.heap.size wr V := by rw [hV]; exact (Below.refl _ _).alloc (Nat.le_refl _) _
        have hxV : Box V wr.heap.size 29 #[.int .i64 t.1, .int .i64 t.2.1, .slice tx' ml tcap] := by rw [hV]; exact Box.new _ _ _
        have HCL := rlast_any n0 [.slice a n c, .slice b nh d, .slice e no f, .int .i64 nx] s t.1 t.2.1 V (stR.below HW.out.2.2.1 (below_any hbr hbV)) HU.out.2.2
        have HV : Hid (Below wr.heap.size wr V ∧ Box V wr.heap.size 29 #[.int .i64 t.1, .int .i64 t.2.1, .slice tx' ml tcap]) := ⟨hbV, hxV⟩
        obtain ⟨v0, v1, v2, -⟩ := hxV.three
        obtain ⟨-, y0, y1, y2, y3⟩ := HX.out.2 V (HJ.out.2.trans (hbV.mono HJ.out.2.size))
        have hji : (j : Int) < (m : Int) := by omega
        have hlm := run_len Try.underlying27 tx' ml tcap
        clear ht hA hto hti k0 k1 k2 hml hbV hxV hbr
        go_upto_region 10 with fail
        rw [← hV]
        clear hV hixt g0 g1 g2 s0' s1'
        go_wp2_with fail
        refine HCL.mono ?_
        rintro e2 V2 ⟨⟨sq, pl, ct, v2', rfl, hkx⟩, hb2⟩
        obtain ⟨kb, hkn, hka, -, -⟩ := hkx
        obtain ⟨va, vc, rfl, -⟩ := hka.shape
        generalize kb.2.2.length = vm
        have HLT : Hid (isLive s (p.1, j, t) = (decide (sq = p.1) && decide (pl = j) && (!decide (ml = 0) || decide (1 < ct)))) := by
          show isLive s (p.1, j, t) = _
          unfold isLive last
          simp only
          rw [hkn, ← HML.out]
        have hbV2 : Below wr.heap.size wr V2 := HV.out.1.trans (hb2.mono HV.out.1.size)
        have hyV2 := HV.out.2.below hb2 HV.out.2.lt
        have HVV : Hid (Below wr.heap.size wr V2 ∧ True) := ⟨hbV2, trivial⟩
        have HBX : Hid (BR w wr WX.heap.size (.slice a7 (lvs s p.1 (p.2.take j)).length c7) (lvs s p.1 (p.2.take j))) := HJ.out.1
        have HSKIP : Hid (isLive s (p.1, j, t) = false → Hid (BR w V2 WX.heap.size (.slice a7 (lvs s p.1 (p.2.take j)).length c7) (lvs s p.1 (p.2.take (j + 1))) ∧ Below WX.heap.size WX V2)) := fun hl => by
          refine ⟨?_, HJ.out.2.trans (hbV2.mono HJ.out.2.size)⟩
          rw [HTK.out, hl]
          exact HBX.out.below hbV2
        have HPUSH : Hid (isLive s (p.1, j, t) = true → ∀ v3 w6, V2.grownBy w6 (Value.slice a7 (lvs s p.1 (p.2.take j)).length c7).ownBlock → BR w w6 WX.heap.size v3 (lvs s p.1 (p.2.take j) ++ [t]) → BR w w6 WX.heap.size v3 (lvs s p.1 (p.2.take (j + 1))) ∧ Below WX.heap.size WX w6) := fun hl v3 w6 hg h6 => by
          refine ⟨by rw [HTK.out, hl, if_pos rfl]; exact h6, ?_⟩
          exact (HBX.out.below hbV2).grow hg (HJ.out.2.trans (hbV2.mono HJ.out.2.size)) (by have := HJ.out.2.size; have := hbV2.size; omega)
        obtain ⟨b0, b1, b2, -⟩ := hyV2.three
        obtain ⟨⟨s0', s1'⟩, -⟩ := HX.out.2 V2 (HJ.out.2.trans (hbV2.mono HJ.out.2.size))
        clear hbV2 hyV2 hb2 HCL v0 v1 v2 y0 y1 y2 y3 hkn hka
        by_cases h1 : sq = p.1
        · subst h1
          by_cases h2 : pl = j
          · subst h2
            by_cases h3 : ml = 0
            · subst h3
              by_cases h4 : 1 < ct
              · have h4i : (1 : Int) < (ct : Int) := by omega
                have HLIV : Hid (isLive s (p.1, pl, t) = true) := show _ = _ by rw [HLT.out]; simp [h4]
                obtain ⟨gg, cap3, w6, hrun, hbx6, hg6⟩ := (HBX.out.below HVV.out.1).push HUS.out (by have := HJ.out.2.size; have := HVV.out.1.size; omega) (by have := HLL.out; omega)
                have HF : Hid (BR w w6 WX.heap.size (.slice (some ⟨gg, 0, none⟩) ((lvs s p.1 (p.2.take pl)).length + 1) cap3) (lvs s p.1 (p.2.take (pl + 1))) ∧ Below WX.heap.size WX w6) := HPUSH.out HLIV.out _ _ hg6 hbx6
                clear hbx6 hg6
                go_wp2_with (at_builtin; refine list_app rfl _ _ 24 rfl rfl rfl rfl hrun ?_)
                go_roundw
                case rel => exact ⟨pl + 1, by omega, by go_num, HF.out⟩
                case measure => simp [intOf]; omega
              · have h4i : ¬ (1 : Int) < (ct : Int) := by omega
                have h4d : decide ((1 : Int) < (ct : Int)) = false := decide_eq_false h4i
                have HLIV : Hid (isLive s (p.1, pl, t) = false) := show _ = _ by rw [HLT.out]; simp [h4]
                go_wp2
                go_roundw
                case rel => exact ⟨pl + 1, by omega, by go_num, (HSKIP.out HLIV.out).out⟩
                case measure => simp [intOf]; omega
            · have h3i : (0 : Int) < (ml : Int) := by omega
              have HLIV : Hid (isLive s (p.1, pl, t) = true) := show _ = _ by rw [HLT.out]; simp [h3]
              obtain ⟨gg, cap3, w6, hrun, hbx6, hg6⟩ := (HBX.out.below HVV.out.1).push HUS.out (by have := HJ.out.2.size; have := HVV.out.1.size; omega) (by have := HLL.out; omega)
              have HF : Hid (BR w w6 WX.heap.size (.slice (some ⟨gg, 0, none⟩) ((lvs s p.1 (p.2.take pl)).length + 1) cap3) (lvs s p.1 (p.2.take (pl + 1))) ∧ Below WX.heap.size WX w6) := HPUSH.out HLIV.out _ _ hg6 hbx6
              clear hbx6 hg6
              go_wp2_with (at_builtin; refine list_app rfl _ _ 24 rfl rfl rfl rfl hrun ?_)
              go_roundw
              case rel => exact ⟨pl + 1, by omega, by go_num, HF.out⟩
              case measure => simp [intOf]; omega
          · have h2i : ((pl : Int) == (j : Int)) = false := by simp; omega
            have HLIV : Hid (isLive s (p.1, j, t) = false) := show _ = _ by rw [HLT.out]; simp [h2]
            go_wp2
            go_roundw
            case rel => exact ⟨j + 1, by omega, by go_num, (HSKIP.out HLIV.out).out⟩
            case measure => simp [intOf]; omega
        · have h1i : (sq == p.1) = false := by simp [h1]
          have HLIV : Hid (isLive s (p.1, j, t) = false) := show _ = _ by rw [HLT.out]; simp [h1]
          go_wp2
          go_roundw
          case rel => exact ⟨j + 1, by omega, by go_num, (HSKIP.out HLIV.out).out⟩
          case measure => simp [intOf]; omega
      · obtain rfl : j = m := by omega
        have HE0 : Hid (BR w wr WX.heap.size (.slice a7 (lvs s p.1 p.2).length c7) (lvs s p.1 p.2) ∧ Below WX.heap.size WX wr) := by
          show _ ∧ _
          have := HJ.out
          rwa [HM.out, List.take_length] at this
        have hT : p.2.take j = p.2 := by rw [HM.out, List.take_length]
        rw [hT]
        have hbw := below_any (below_any HW.out.1 HX.out.1) HE0.out.2
        have HCB := rown_any 0 (.slice a7 (lvs s p.1 p.2).length c7) (lvs s p.1 p.2) wr (HE0.out.1.lies hbw) HFB.out
        have HBW : Hid (Below w.heap.size w wr) := hbw
        clear hbw HJ
        generalize (lvs s p.1 p.2).length = n2 at HCB
        go_wp2_with fail
        refine HCB.mono ?_
        rintro e3 w3 ⟨⟨v3, rfl, ho3⟩, hb3⟩
        have HE : Hid (post (.returned (.tuple #[v3, .int .i64 0])) w3) := HYES.out v3 w3 HU.out.1 (by rw [HU.out.2.1]; exact bksR.oweaken ho3 HBW.out.size) (below_any HBW.out hb3)
        clear ho3 hb3 HCB
        go_wp2
        exact HE.out
  · have HE : Hid (post (.returned (.tuple #[.slice none 0 0, .int .i64 (uE s k)])) w1) := HNO.out _ w1 rfl hu (below_any HW.out.1 HB1.out)
    generalize uE s k = r at hu hv HE
    have hri : (r == 0) = false := by simp [hu]
    clear hv
    go_wp2
    exact HE.out

end Go.Proofs.Ytkpckadicjdieaa
