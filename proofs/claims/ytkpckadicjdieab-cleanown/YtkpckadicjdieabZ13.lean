import Derived.Test.YtkpckadicjdieabZ12
import Derived.Test.YtkpckadicjdieabZ8
import Derived.Test.YtkpckadicjdieabZ11
import Derived.Test.YtkpckadicjdieabZ7
/-
  The document's live blocks.
-/
namespace Go.Proofs.Ytkpckadicjdieab
open Go.RowKit

/-! A row of blocks of its own whose data lie elsewhere. -/
def BR (w0 w : World) (base : Nat) (v : Value) (L : List Bk) : Prop := ∃ vss : List (List Value), w.ownsRow base 97 3 v L.length vss.flatten ∧ Each (bkR.lies 0 w0) vss L
theorem BR.nil (w0 w : World) (base : Nat) : BR w0 w base (.slice none 0 0) [] := ⟨[], World.ownsRow_nil _ _ _ _, trivial⟩
theorem BR.below {w0 w w' : World} {base : Nat} {v : Value} {L : List Bk} (h : BR w0 w base v L) (hb : Below w.heap.size w w') : BR w0 w' base v L := by
  obtain ⟨vss, h1, h2⟩ := h
  exact ⟨vss, own_below h1 hb, h2⟩
theorem BR.weaken {w0 w : World} {base b2 : Nat} {v : Value} {L : List Bk} (h : BR w0 w base v L) (hb : b2 ≤ base) : BR w0 w b2 v L := by
  obtain ⟨vss, h1, h2⟩ := h
  exact ⟨vss, own_weaken h1 hb, h2⟩
theorem BR.row {w0 w : World} {base : Nat} {v : Value} {L : List Bk} (h : BR w0 w base v L) : ∃ xs, w.ownsRow base 97 3 v L.length xs := let ⟨_, h1, _⟩ := h; ⟨_, h1⟩
theorem BR.shape {w0 w : World} {base : Nat} {v : Value} {L : List Bk} (h : BR w0 w base v L) : ∃ a c, v = .slice a L.length c := let ⟨_, h1⟩ := h.row; own_shape h1
theorem BR.lies {w0 w : World} {base : Nat} {v : Value} {L : List Bk} (h : BR w0 w base v L) (hb : Below w0.heap.size w0 w) : bksR.lies 0 w [v] L := by
  obtain ⟨vss, h1, h2⟩ := h
  exact ⟨v, vss, rfl, (Cells.own h1).weaken (Nat.zero_le _), h2.mono fun _ _ h => bkR.below h hb⟩
theorem BR.push {w0 wr : World} {base : Nat} {v : Value} {L : List Bk} {us : List Value} {b : Bk} (h : BR w0 wr base v L) (hu : bkR.lies 0 w0 us b) (hb : base ≤ wr.heap.size) (hl : L.length ≤ 10000) :
    ∃ g cap w3, (Builtin.append_ #[24, 24] 24 #[v, .slice (some ⟨wr.heap.size, 0, none⟩) 1 1]).run Try.prog (wr.alloc (.cells us.toArray 97)) = .ok (.slice (some ⟨g, 0, none⟩) (L.length + 1) cap) w3 ∧ BR w0 w3 base (.slice (some ⟨g, 0, none⟩) (L.length + 1) cap) (L ++ [b]) ∧ wr.grownBy w3 v.ownBlock := by
  obtain ⟨vss, hown, hE⟩ := h
  obtain ⟨i, hi, hz, hsz, hby⟩ := info_parts Try.info97
  have hul : us.length = 3 := bkR.length hu
  obtain ⟨g, cap, w3, h1, h2, h3, _, _⟩ := run_append_lies (P := Try.prog) (wr.alloc (.cells us.toArray 97)) 24 24 base 97 i _ 3 40 Try.underlying24 hi hz hsz hby rfl (by decide) v L.length vss.flatten (hown.alloc _) ⟨wr.heap.size, 0, none⟩ 1 1 us (by omega)
    (fun j u hj => World.news_of_block (cs := us.toArray) (t := 97) (fr := (0, 0)) (heap_alloc_new wr _) j u (by simpa using hj)) (bkR.ones hu) (by omega) (by unfold maxLen; omega) (by omega) (by simp; omega) (wr.heap.size + 1) (by simp)
  refine ⟨g, cap, w3, h1, ⟨vss ++ [us], by rw [List.length_append, flat_snoc]; exact h2, hE.snoc hu⟩, ?_⟩
  refine ⟨h3.os, h3.tape, h3.output, ?_, fun k hk hne => ?_⟩
  · have := h3.size
    simp at this
    omega
  · rw [h3.block k (by simp; omega) hne, Below.heap_alloc wr _ k hk]
theorem BR.grow {w0 w wr w3 : World} {base : Nat} {v : Value} {L : List Bk} (h : BR w0 wr base v L) (hg : wr.grownBy w3 v.ownBlock) (hb : Below base w wr) (hs : base ≤ wr.heap.size) : Below base w w3 := let ⟨_, h1⟩ := h.row; below_row hb h1 hg hs


set_option maxRecDepth 100000 in
set_option maxHeartbeats 8000000 in
theorem rliveL_any (n0 : Nat) (us : List Value) (s : St) (k : Int) (w : World) (h : stR.lies n0 w us s) :
    Calls Try.prog 47 #[.agg us.toArray, .int .i64 k] w fun e w' => (∃ v', e = .returned (.tuple #[v', .int .i64 (uE s k)]) ∧ bksR.owns w.heap.size w' [v'] (lL s k)) ∧ Below w.heap.size w w' := by
  obtain ⟨a, c, b, d, e, f, rfl, hS, hH, hO, hN, m1, m2, m3⟩ := st_viewR h
  obtain ⟨post, hpost⟩ : ∃ post : Ending → World → Prop, post = fun e w' => (∃ v', e = .returned (.tuple #[v', .int .i64 (uE s k)]) ∧ bksR.owns w.heap.size w' [v'] (lL s k)) ∧ Below w.heap.size w w' := ⟨_, rfl⟩
  have HNO : Hid (∀ r w', uE s k = r → r ≠ 0 → Below w.heap.size w w' → post (.returned (.tuple #[.slice none 0 0, .int .i64 r])) w') := fun r w' h1 h2 h3 => by
    rw [hpost]
    refine ⟨⟨_, by rw [h1], ?_⟩, h3⟩
    unfold lL
    rw [if_neg (by rw [h1]; exact h2)]
    exact Shape.list_nil bkR 24 Try.underlying24 cells24 _ _
  have HYES : Hid (∀ v' w', uE s k = 0 → bksR.owns w.heap.size w' [v'] (lL s k) → Below w.heap.size w w' → post (.returned (.tuple #[v', .int .i64 0])) w') := fun v' w' h1 h2 h3 => by
    rw [hpost]
    exact ⟨⟨v', by rw [h1], h2⟩, h3⟩
  rw [← hpost]
  clear hpost
  obtain ⟨n, hn⟩ : ∃ n, n = s.1.length := ⟨_, rfl⟩
  obtain ⟨nh, hnh⟩ : ∃ n, n = s.2.1.length := ⟨_, rfl⟩
  obtain ⟨no, hno⟩ : ∃ n, n = s.2.2.1.length := ⟨_, rfl⟩
  obtain ⟨nx, hnx⟩ : ∃ n, n = s.2.2.2 := ⟨_, rfl⟩
  rw [← hn, ← hnh, ← hno, ← hnx] at h ⊢
  rw [← hn] at hS
  obtain ⟨W, hW⟩ : ∃ W, W = w.alloc (.cells #[.slice a n c, .slice b nh d, .slice e no f, .int .i64 nx] 26) := ⟨_, rfl⟩
  have hbW : Below w.heap.size w W := by rw [hW]; exact (Below.refl _ w).alloc (Nat.le_refl _) _
  have hB1 : Box W w.heap.size 26 #[.slice a n c, .slice b nh d, .slice e no f, .int .i64 nx] := by rw [hW]; exact Box.new _ _ _
  have HC := rused_any n0 [.slice a n c, .slice b nh d, .slice e no f, .int .i64 nx] s k W (stR.below h hbW)
  have HW : Hid (Below w.heap.size w W ∧ Box W w.heap.size 26 #[.slice a n c, .slice b nh d, .slice e no f, .int .i64 nx] ∧ stR.lies n0 w [.slice a n c, .slice b nh d, .slice e no f, .int .i64 nx] s ∧ sgsR.lies n0 w [.slice a n c] s.1) := ⟨hbW, hB1, h, hS⟩
  obtain ⟨g0, g1, g2, g3, -⟩ := hB1.four
  rw [hW] at g0 g1 g2 g3
  clear h hS hH hO hN m1 m2 m3 hbW hB1 hn hnh hno hnx
  go_enter Try.func47, Try.ntmps47
  go_wp2_with fail
  rw [← hW]
  clear hW g0 g1 g2 g3
  refine HC.mono ?_
  rintro e1 w1 ⟨rfl, hb1⟩
  have HB1 : Hid (Below W.heap.size W w1) := hb1
  obtain ⟨q0, q1, q2, q3, -⟩ := (HW.out.2.1.below hb1 HW.out.2.1.lt).four
  clear hb1 HC
  rcases uE_cases s k with ⟨hu, hok, i, p, hki, hil, hip, hsl⟩ | ⟨hu, hv⟩
  · rw [hu]
    have HU : Hid (uE s k = 0 ∧ lL s k = lvs s p.1 p.2 ∧ Ok s) := ⟨hu, by unfold lL; rw [if_pos hu, hsl], hok⟩
    subst hki
    have HFB : Hid (FitsB (lvs s p.1 p.2)) := ⟨by have := lvs_le s p.1 p.2; have := hok.small p (List.mem_of_getElem? hip); omega, fun t ht => by
      have := may_len (hok.data p (List.mem_of_getElem? hip) t (lvs_mem ht))
      omega⟩
    obtain ⟨pb, po, x, cap, hix, c0, c1, hL, _⟩ := sgs_atR HW.out.2.2.2 i p hip
    obtain ⟨_, _, e0, hLb, hI, _⟩ := sg_viewR hL
    obtain ⟨m, hm⟩ : ∃ m, m = p.2.length := ⟨_, rfl⟩
    have HM : Hid (m = p.2.length) := hm
    have HLB : Hid (bksR.lies n0 w [.slice x m cap] p.2 ∧ m ≤ 8) := ⟨by rw [hm]; simp at e0; obtain ⟨rfl, rfl⟩ := e0; exact hLb, by rw [hm]; exact hok.small p (List.mem_of_getElem? hip)⟩
    have hm8 := HLB.out.2
    have hbw1 := below_any HW.out.1 HB1.out
    have k0 : w1.cell? ⟨pb, po, none⟩ = some (.int .i64 p.1) := by rw [hbw1.cell (cell_lt c0)]; exact c0
    have k1 : w1.cell? ⟨pb, po + 1, none⟩ = some (.slice x m cap) := by rw [hbw1.cell (cell_lt c1), hm]; exact c1
    obtain ⟨WX, hWX⟩ : ∃ V, V = w1.alloc (.cells #[.int .i64 p.1, .slice x m cap] 36) := ⟨_, rfl⟩
    have hbX : Below W.heap.size W WX := by rw [hWX]; exact HB1.out.alloc HB1.out.size _
    have hxX : Box WX w1.heap.size 36 #[.int .i64 p.1, .slice x m cap] := by rw [hWX]; exact Box.new _ _ _
    have HX : Hid (Below W.heap.size W WX ∧ ∀ U, Below WX.heap.size WX U → (U.cell? ⟨w1.heap.size, 0, none⟩ = some (.int .i64 p.1) ∧ U.cell? ⟨w1.heap.size, 1, none⟩ = some (.slice x m cap)) ∧ U.cell? ⟨w.heap.size, 0, none⟩ = some (.slice a n c) ∧ U.cell? ⟨w.heap.size, 1, none⟩ = some (.slice b nh d) ∧ U.cell? ⟨w.heap.size, 2, none⟩ = some (.slice e no f) ∧ U.cell? ⟨w.heap.size, 3, none⟩ = some (.int .i64 nx)) := ⟨hbX, fun U hU => by
      have h1 := (hxX.below hU hxX.lt).two
      have h2 := (HW.out.2.1.below (hbX.trans (hU.mono hbX.size)) HW.out.2.1.lt).four
      exact ⟨⟨h1.1, h1.2.1⟩, h2.1, h2.2.1, h2.2.2.1, h2.2.2.2.1⟩⟩
    have hl3 := run_len Try.underlying24 x m cap
    clear hu hok hil hip hsl hL hLb hI e0 hm hbw1 c0 c1 hbX hxX
    go_upto_region 6 with fail
    rw [← hWX]
    clear hWX hix k0 k1 q0 q1 q2 q3
    go_wp2
    go_loopw [7, 9] (fun v i wr => ∃ j : Nat, j ≤ m ∧ i = .int .i64 j ∧ Hid (BR w wr WX.heap.size v (lvs s p.1 (p.2.take j)) ∧ Below WX.heap.size WX wr)) (fun _ i _ => m - (intOf i).toNat)
    case atStart => exact ⟨0, Nat.zero_le _, rfl, BR.nil _ _ _, Below.refl _ _⟩
    case round =>
      obtain ⟨j, hj, rfl, HJ⟩ := hrel
      obtain ⟨a7, c7, rfl⟩ := HJ.out.1.shape
      obtain ⟨⟨s0', s1'⟩, -⟩ := HX.out.2 wr HJ.out.2
      by_cases hlt : j < m
      · obtain ⟨t, ht⟩ := get_lt (l := p.2) (k := j) (by rw [← HM.out]; exact hlt)
        have hbr : Below w.heap.size w wr := below_any (below_any HW.out.1 HX.out.1) HJ.out.2
        obtain ⟨tb, tof, tx', tcap, hixt, k0, k1, k2, hA, hto, hti, _⟩ := bks_atR HLB.out.1 j t ht
        have g0 : wr.cell? ⟨tb, tof, none⟩ = some (.int .i64 t.1) := by rw [hbr.cell (cell_lt k0)]; exact k0
        have g1 : wr.cell? ⟨tb, tof + 1, none⟩ = some (.int .i64 t.2.1) := by rw [hbr.cell (cell_lt k1)]; exact k1
        have g2 : wr.cell? ⟨tb, tof + 2, none⟩ = some (.slice tx' t.2.2.length tcap) := by rw [hbr.cell (cell_lt k2)]; exact k2
        have HTK : Hid (lvs s p.1 (p.2.take (j + 1)) = if isLive s (p.1, j, t) = true then lvs s p.1 (p.2.take j) ++ [t] else lvs s p.1 (p.2.take j)) := lvs_take ht
        have HLL : Hid ((lvs s p.1 (p.2.take j)).length ≤ 8) := Nat.le_trans (lvs_le _ _ _) (by rw [List.length_take]; omega)
        obtain ⟨ml, hml⟩ : ∃ k, k = t.2.2.length := ⟨_, rfl⟩
        rw [← hml] at g2 hA
        have HUS : Hid (bkR.lies 0 w [.int .i64 t.1, .int .i64 t.2.1, .slice tx' ml tcap] t) := bk_mk (p := t) (hA.weaken (Nat.zero_le _)) hto hti
        have HML : Hid (ml = t.2.2.length) := hml
        obtain ⟨V, hV⟩ : ∃ V, V = wr.alloc (.cells #[.int .i64 t.1, .int .i64 t.2.1, .slice tx' ml tcap] 97) := ⟨_, rfl⟩
        have hbV : Below wr.heap.size wr V := by rw [hV]; exact (Below.refl _ _).alloc (Nat.le_refl _) _
        have hxV : Box V wr.heap.size 97 #[.int .i64 t.1, .int .i64 t.2.1, .slice tx' ml tcap] := by rw [hV]; exact Box.new _ _ _
        have HCL := rlast_any n0 [.slice a n c, .slice b nh d, .slice e no f, .int .i64 nx] s t.1 t.2.1 V (stR.below HW.out.2.2.1 (below_any hbr hbV)) HU.out.2.2
        have HV : Hid (Below wr.heap.size wr V ∧ Box V wr.heap.size 97 #[.int .i64 t.1, .int .i64 t.2.1, .slice tx' ml tcap]) := ⟨hbV, hxV⟩
        obtain ⟨v0, v1, v2, -⟩ := hxV.three
        obtain ⟨-, y0, y1, y2, y3⟩ := HX.out.2 V (HJ.out.2.trans (hbV.mono HJ.out.2.size))
        have hji : (j : Int) < (m : Int) := by omega
        have hlm := run_len Try.underlying46 tx' ml tcap
        clear ht hA hto hti k0 k1 k2 hml hbV hxV hbr
        go_upto_region 10 with fail
        rw [← hV]
        clear hV hixt g0 g1 g2 s0' s1'
        go_wp2_with fail
        refine HCL.mono ?_
        rintro e2 V2 ⟨⟨sq, pl, ct, v2', rfl, hkx⟩, hb2⟩
        obtain ⟨kb, hkn, hka, -, -⟩ := hkx
        obtain ⟨va, vc, rfl, -⟩ := hka.shape
        generalize kb.2.2.length = vm
        have HLT : Hid (isLive s (p.1, j, t) = (decide (sq = p.1) && decide (pl = j) && (!decide (ml = 0) || decide (1 < ct)))) := by
          show isLive s (p.1, j, t) = _
          unfold isLive last
          simp only
          rw [hkn, ← HML.out]
        have hbV2 : Below wr.heap.size wr V2 := HV.out.1.trans (hb2.mono HV.out.1.size)
        have hyV2 := HV.out.2.below hb2 HV.out.2.lt
        have HVV : Hid (Below wr.heap.size wr V2 ∧ True) := ⟨hbV2, trivial⟩
        have HBX : Hid (BR w wr WX.heap.size (.slice a7 (lvs s p.1 (p.2.take j)).length c7) (lvs s p.1 (p.2.take j))) := HJ.out.1
        have HSKIP : Hid (isLive s (p.1, j, t) = false → Hid (BR w V2 WX.heap.size (.slice a7 (lvs s p.1 (p.2.take j)).length c7) (lvs s p.1 (p.2.take (j + 1))) ∧ Below WX.heap.size WX V2)) := fun hl => by
          refine ⟨?_, HJ.out.2.trans (hbV2.mono HJ.out.2.size)⟩
          rw [HTK.out, hl]
          exact HBX.out.below hbV2
        have HPUSH : Hid (isLive s (p.1, j, t) = true → ∀ v3 w6, V2.grownBy w6 (Value.slice a7 (lvs s p.1 (p.2.take j)).length c7).ownBlock → BR w w6 WX.heap.size v3 (lvs s p.1 (p.2.take j) ++ [t]) → BR w w6 WX.heap.size v3 (lvs s p.1 (p.2.take (j + 1))) ∧ Below WX.heap.size WX w6) := fun hl v3 w6 hg h6 => by
          refine ⟨by rw [HTK.out, hl, if_pos rfl]; exact h6, ?_⟩
          exact (HBX.out.below hbV2).grow hg (HJ.out.2.trans (hbV2.mono HJ.out.2.size)) (by have := HJ.out.2.size; have := hbV2.size; omega)
        obtain ⟨b0, b1, b2, -⟩ := hyV2.three
        obtain ⟨⟨s0', s1'⟩, -⟩ := HX.out.2 V2 (HJ.out.2.trans (hbV2.mono HJ.out.2.size))
        clear hbV2 hyV2 hb2 HCL v0 v1 v2 y0 y1 y2 y3 hkn hka
        by_cases h1 : sq = p.1
        · subst h1
          by_cases h2 : pl = j
          · subst h2
            by_cases h3 : ml = 0
            · subst h3
              by_cases h4 : 1 < ct
              · have h4i : (1 : Int) < (ct : Int) := by omega
                have HLIV : Hid (isLive s (p.1, pl, t) = true) := show _ = _ by rw [HLT.out]; simp [h4]
                obtain ⟨gg, cap3, w6, hrun, hbx6, hg6⟩ := (HBX.out.below HVV.out.1).push HUS.out (by have := HJ.out.2.size; have := HVV.out.1.size; omega) (by have := HLL.out; omega)
                have HF : Hid (BR w w6 WX.heap.size (.slice (some ⟨gg, 0, none⟩) ((lvs s p.1 (p.2.take pl)).length + 1) cap3) (lvs s p.1 (p.2.take (pl + 1))) ∧ Below WX.heap.size WX w6) := HPUSH.out HLIV.out _ _ hg6 hbx6
                clear hbx6 hg6
                go_wp2_with (at_builtin; refine list_app rfl _ _ 24 rfl rfl rfl rfl hrun ?_)
                go_roundw
                case rel => exact ⟨pl + 1, by omega, by go_num, HF.out⟩
                case measure => simp [intOf]; omega
              · have h4i : ¬ (1 : Int) < (ct : Int) := by omega
                have h4d : decide ((1 : Int) < (ct : Int)) = false := decide_eq_false h4i
                have HLIV : Hid (isLive s (p.1, pl, t) = false) := show _ = _ by rw [HLT.out]; simp [h4]
                go_wp2
                go_roundw
                case rel => exact ⟨pl + 1, by omega, by go_num, (HSKIP.out HLIV.out).out⟩
                case measure => simp [intOf]; omega
            · have h3i : (0 : Int) < (ml : Int) := by omega
              have HLIV : Hid (isLive s (p.1, pl, t) = true) := show _ = _ by rw [HLT.out]; simp [h3]
              obtain ⟨gg, cap3, w6, hrun, hbx6, hg6⟩ := (HBX.out.below HVV.out.1).push HUS.out (by have := HJ.out.2.size; have := HVV.out.1.size; omega) (by have := HLL.out; omega)
              have HF : Hid (BR w w6 WX.heap.size (.slice (some ⟨gg, 0, none⟩) ((lvs s p.1 (p.2.take pl)).length + 1) cap3) (lvs s p.1 (p.2.take (pl + 1))) ∧ Below WX.heap.size WX w6) := HPUSH.out HLIV.out _ _ hg6 hbx6
              clear hbx6 hg6
              go_wp2_with (at_builtin; refine list_app rfl _ _ 24 rfl rfl rfl rfl hrun ?_)
              go_roundw
              case rel => exact ⟨pl + 1, by omega, by go_num, HF.out⟩
              case measure => simp [intOf]; omega
          · have h2i : ((pl : Int) == (j : Int)) = false := by simp; omega
            have HLIV : Hid (isLive s (p.1, j, t) = false) := show _ = _ by rw [HLT.out]; simp [h2]
            go_wp2
            go_roundw
            case rel => exact ⟨j + 1, by omega, by go_num, (HSKIP.out HLIV.out).out⟩
            case measure => simp [intOf]; omega
        · have h1i : (sq == p.1) = false := by simp [h1]
          have HLIV : Hid (isLive s (p.1, j, t) = false) := show _ = _ by rw [HLT.out]; simp [h1]
          go_wp2
          go_roundw
          case rel => exact ⟨j + 1, by omega, by go_num, (HSKIP.out HLIV.out).out⟩
          case measure => simp [intOf]; omega
      · obtain rfl : j = m := by omega
        have HE0 : Hid (BR w wr WX.heap.size (.slice a7 (lvs s p.1 p.2).length c7) (lvs s p.1 p.2) ∧ Below WX.heap.size WX wr) := by
          show _ ∧ _
          have := HJ.out
          rwa [HM.out, List.take_length] at this
        have hT : p.2.take j = p.2 := by rw [HM.out, List.take_length]
        rw [hT]
        have hbw := below_any (below_any HW.out.1 HX.out.1) HE0.out.2
        have HCB := rown_any 0 (.slice a7 (lvs s p.1 p.2).length c7) (lvs s p.1 p.2) wr (HE0.out.1.lies hbw) HFB.out
        have HBW : Hid (Below w.heap.size w wr) := hbw
        clear hbw HJ
        generalize (lvs s p.1 p.2).length = n2 at HCB
        go_wp2_with fail
        refine HCB.mono ?_
        rintro e3 w3 ⟨⟨v3, rfl, ho3⟩, hb3⟩
        have HE : Hid (post (.returned (.tuple #[v3, .int .i64 0])) w3) := HYES.out v3 w3 HU.out.1 (by rw [HU.out.2.1]; exact bksR.oweaken ho3 HBW.out.size) (below_any HBW.out hb3)
        clear ho3 hb3 HCB
        go_wp2
        exact HE.out
  · have HE : Hid (post (.returned (.tuple #[.slice none 0 0, .int .i64 (uE s k)])) w1) := HNO.out _ w1 rfl hu (below_any HW.out.1 HB1.out)
    generalize uE s k = r at hu hv HE
    have hri : (r == 0) = false := by simp [hu]
    clear hv
    go_wp2
    exact HE.out

end Go.Proofs.Ytkpckadicjdieab

/-
  The document's store in memory of its own.
-/
namespace Go.Proofs.Ytkpckadicjdieab
open Go.RowKit

theorem rown_set4 {α : Type} (S : Shape α) (hid : 26 ∉ S.ids) {n B : Nat} {w : World} {us : List Value} {x : α} {cs : Array Value} (h : S.owns n w us x) (hB : Box w B 26 cs) (u v y z : Value) : S.owns n ((((w.setCell ⟨B, 0, none⟩ u).setCell ⟨B, 1, none⟩ v).setCell ⟨B, 2, none⟩ y).setCell ⟨B, 3, none⟩ z) us x :=
  S.ogrown (S.ogrown (S.ogrown (S.ogrown h (grown_set w B 0 u) (hB.clear hid)) (grown_set _ B 1 v) ((hB.set 0 u).clear hid)) (grown_set _ B 2 y) (((hB.set 0 u).set 1 v).clear hid)) (grown_set _ B 3 z) ((((hB.set 0 u).set 1 v).set 2 y).clear hid)
/-- The document's store in memory of its own, its open blocks ahead of all else. -/
def SepR (n : Nat) (w : World) (us : List Value) (s : St) : Prop := ∃ v1 v2 v3 B, us = [v1, v2, v3, .int .i64 s.2.2.2] ∧ n ≤ B ∧ B ≤ w.heap.size ∧ sgsR.owns B w [v1] s.1 ∧ boolsS.owns B w [v2] s.2.1 ∧ bksR.owns n w [v3] s.2.2.1 ∧ (∀ g, v3.ownBlock = some g → g < B) ∧ I64 s.2.2.2
theorem SepR.owns {n : Nat} {w : World} {us : List Value} {s : St} (h : SepR n w us s) : stR.owns n w us s := by
  obtain ⟨v1, v2, v3, B, rfl, h1, _, h2, h3, h4, _, h5⟩ := h
  exact st_omkR (sgsR.oweaken h2 h1) (boolsS.oweaken h3 h1) h4 h5

theorem bools_app (n0 : Nat) (v : Value) (l : List Bool) (w : World) (h : boolsS.lies n0 w [v] l) (hs : l.length ≤ 140737488355328) :
    ∃ v' w', (Builtin.append_ #[23, 23] 23 #[.slice none 0 0, v]).run Try.prog w = .ok v' w' ∧ boolsS.owns w.heap.size w' [v'] l ∧ Below w.heap.size w w' := by
  obtain ⟨i0, hi, hz0, hz1, hz2⟩ := info_parts Try.info4
  obtain ⟨v', hv, hC, _⟩ := h
  obtain rfl : v = v' := by simpa using hv
  obtain ⟨hl, h | ⟨x, cap, rfl, hcap, hm, _, hc⟩⟩ := hC
  · obtain ⟨rfl, h0⟩ := h
    obtain rfl := List.eq_nil_of_length_eq_zero h0
    exact ⟨_, w, run_append_owned_none (P := Try.prog) (w := w) w.heap.size 23 23 4 i0 1 Try.underlying23 hi (.slice none 0 0) 0 [] (World.ownsRow_nil _ _ _ _), ⟨_, rfl, World.ownsRow_nil _ _ _ _, fun _ _ => trivial⟩, Below.refl _ _⟩
  · have hone : ∀ u ∈ l.map bL.val, u.oneCell' = true := fun u hu => by
      obtain ⟨y, _, rfl⟩ := List.mem_map.1 hu
      rfl
    obtain ⟨v', w', h1, h2, h3, _⟩ := run_append_own (P := Try.prog) w w.heap.size 23 23 4 i0 (.bool false) 1 1 Try.underlying23 hi hz0 hz1 hz2 rfl (by decide) (.slice none 0 0) 0 [] (World.ownsRow_nil _ _ _ _) x l.length cap (l.map bL.val) (by simp) hc hone (by omega) (by omega) (Nat.le_refl _)
    exact ⟨v', w', h1, ⟨_, rfl, (show w'.ownsRow w.heap.size 4 1 v' l.length (l.map bL.val) by simpa using h2), fun _ _ => trivial⟩, (Below.refl _ _).grown h3 (Nat.le_refl _) (fun _ h => by cases h)⟩

set_option maxRecDepth 100000 in
set_option maxHeartbeats 8000000 in
theorem rownL_any (n0 : Nat) (us : List Value) (s : St) (w : World) (h : stR.lies n0 w us s) (hf : FitsL s) :
    Calls Try.prog 48 #[.agg us.toArray] w fun e w' => (∃ us', e = .returned (.agg us'.toArray) ∧ SepR (w.heap.size + 2) w' us' s) ∧ Below w.heap.size w w' := by
  obtain ⟨a, c, b, d, e, f, rfl, hS, hH, hO, hN, m1, m2, m3⟩ := st_viewR h
  obtain ⟨l, hd, op, nx⟩ := s
  simp only at hS hH hO hN m1 m2 m3 hf ⊢
  obtain ⟨⟨f1, f2⟩, f3, f4, f5⟩ := hf
  simp only at f1 f2 f3 f4 f5
  obtain ⟨post, hpost⟩ : ∃ post : Ending → World → Prop, post = fun e w' => (∃ us', e = .returned (.agg us'.toArray) ∧ SepR (w.heap.size + 2) w' us' (l, hd, op, nx)) ∧ Below w.heap.size w w' := ⟨_, rfl⟩
  have HPo : Hid (∀ us' w', SepR (w.heap.size + 2) w' us' (l, hd, op, nx) → Below w.heap.size w w' → post (.returned (.agg us'.toArray)) w') := fun v' w' h1 h2 => by rw [hpost]; exact ⟨⟨v', rfl, h1⟩, h2⟩
  rw [← hpost]
  clear hpost
  obtain ⟨n, hn⟩ : ∃ n, n = l.length := ⟨_, rfl⟩
  obtain ⟨nh, hnh⟩ : ∃ n, n = hd.length := ⟨_, rfl⟩
  obtain ⟨no, hno⟩ : ∃ n, n = op.length := ⟨_, rfl⟩
  rw [← hn, ← hnh, ← hno]
  have hnb : n * 32 ≤ 140737488351232 := by rw [hn]; exact f1
  obtain ⟨W, hW⟩ : ∃ W, W = (w.alloc (.cells #[.slice a n c, .slice b nh d, .slice e no f, .int .i64 nx] 26)).alloc (.cells #[.slice none 0 0, .slice none 0 0, .slice none 0 0, .int .i64 0] 26) := ⟨_, rfl⟩
  have hbW : Below w.heap.size w W := by rw [hW]; exact ((Below.refl _ w).alloc (Nat.le_refl _) _).alloc (by simp) _
  have hB1 : Box W w.heap.size 26 #[.slice a n c, .slice b nh d, .slice e no f, .int .i64 nx] := by rw [hW]; exact (Box.new _ _ _).alloc _
  have hB2 : Box W (w.heap.size + 1) 26 #[.slice none 0 0, .slice none 0 0, .slice none 0 0, .int .i64 0] := by
    rw [hW]
    have := Box.new (w.alloc (.cells #[.slice a n c, .slice b nh d, .slice e no f, .int .i64 nx] 26)) 26 #[.slice none 0 0, .slice none 0 0, .slice none 0 0, .int .i64 0]
    rwa [World.size_alloc] at this
  have HN : Hid (n = l.length ∧ nh = hd.length ∧ no = op.length) := ⟨hn, hnh, hno⟩
  have HW : Hid (Below w.heap.size w W ∧ W.heap.size = w.heap.size + 2 ∧ ∀ V, Below W.heap.size W V → Box V w.heap.size 26 #[.slice a n c, .slice b nh d, .slice e no f, .int .i64 nx] ∧ Box V (w.heap.size + 1) 26 #[.slice none 0 0, .slice none 0 0, .slice none 0 0, .int .i64 0]) := ⟨hbW, by rw [hW]; simp, fun V hV => ⟨hB1.below hV hB1.lt, hB2.below hV hB2.lt⟩⟩
  have HA : Hid (sgsR.lies n0 w [.slice a n c] l ∧ (∀ p ∈ l, Fits p) ∧ I64 nx ∧ boolsS.lies n0 w [.slice b nh d] hd ∧ nh ≤ 140737488351232) := ⟨by rw [hn]; exact hS, f2, hN, by rw [hnh]; exact hH, by omega⟩
  have HC2 : Hid (∀ V, Below W.heap.size W V → Calls Try.prog 77 #[.slice e no f] V fun e w' => (∃ v', e = .returned v' ∧ bksR.owns V.heap.size w' [v'] op) ∧ Below V.heap.size V w') := fun V hV => rown_any n0 (.slice e no f) op V (bksR.below (by rw [hno]; exact hO) (below_any hbW hV)) ⟨f4, f5⟩
  have HS : Hid (∀ V, Below W.heap.size W V → V.cell? ⟨w.heap.size, 2, none⟩ = some (.slice e no f) ∧ V.cell? ⟨w.heap.size, 3, none⟩ = some (.int .i64 nx)) := fun V hV => by
    have h1 := (hB1.below hV hB1.lt).four
    exact ⟨h1.2.2.1, h1.2.2.2.1⟩
  clear h hS hH hO hN m1 m2 m3 hbW hB1 hB2 hn hnh hno f1 f2 f3 f4 f5
  go_enter Try.func48, Try.ntmps48
  go_upto_region 1 with fail
  rw [← hW]
  clear hW
  go_cut [3] (fun u wx => ∃ dd, u = .pointer (some ⟨dd, 0, none⟩) ∧ Hid (W.heap.size ≤ dd ∧ Below W.heap.size W wx ∧ ∃ a3 c3, Box wx dd 26 #[.slice none 0 0, .slice none 0 0, .slice a3 no c3, .int .i64 nx] ∧ bksR.owns W.heap.size wx [.slice a3 no c3] op))
  case first =>
    rename_i J K1 hJ hMt
    have HREL : Hid (∀ dd a3 c3 (w1 : World), Below W.heap.size W w1 → W.heap.size ≤ dd → Box w1 dd 26 #[.slice none 0 0, .slice none 0 0, .slice none 0 0, .int .i64 0] → bksR.owns W.heap.size w1 [.slice a3 no c3] op → Below W.heap.size W ((((w1.setCell ⟨dd, 0, none⟩ (.slice none 0 0)).setCell ⟨dd, 1, none⟩ (.slice none 0 0)).setCell ⟨dd, 2, none⟩ (.slice a3 no c3)).setCell ⟨dd, 3, none⟩ (.int .i64 nx)) ∧ Hid (W.heap.size ≤ dd ∧ Below W.heap.size W ((((w1.setCell ⟨dd, 0, none⟩ (.slice none 0 0)).setCell ⟨dd, 1, none⟩ (.slice none 0 0)).setCell ⟨dd, 2, none⟩ (.slice a3 no c3)).setCell ⟨dd, 3, none⟩ (.int .i64 nx)) ∧ ∃ a3' c3', Box ((((w1.setCell ⟨dd, 0, none⟩ (.slice none 0 0)).setCell ⟨dd, 1, none⟩ (.slice none 0 0)).setCell ⟨dd, 2, none⟩ (.slice a3 no c3)).setCell ⟨dd, 3, none⟩ (.int .i64 nx)) dd 26 #[.slice none 0 0, .slice none 0 0, .slice a3' no c3', .int .i64 nx] ∧ bksR.owns W.heap.size ((((w1.setCell ⟨dd, 0, none⟩ (.slice none 0 0)).setCell ⟨dd, 1, none⟩ (.slice none 0 0)).setCell ⟨dd, 2, none⟩ (.slice a3 no c3)).setCell ⟨dd, 3, none⟩ (.int .i64 nx)) [.slice a3' no c3'] op)) := fun dd a3 c3 w1 h1 h2 h3 h5 => ⟨below_set4 h1 h2 _ _ _ _, h2, below_set4 h1 h2 _ _ _ _, a3, c3, (((h3.set 0 _).set 1 _).set 2 _).set 3 _, rown_set4 bksR (by decide) h5 h3 _ _ _ _⟩
    refine AnyBut.begin (fun V => V.cell? ⟨w.heap.size, 2, none⟩ = some (.slice e no f) ∧ V.cell? ⟨w.heap.size, 3, none⟩ = some (.int .i64 nx)) 1000 (by kernel_rfl) ?_
    have hSS := HS.out W.drew (Below.refl _ W).drew
    refine tx 0 5 hSS ?_
    simp only [ua, ub, uc, ud]
    refine tx 1 6 hSS ?_
    simp only [ua, ub, uc, ud]
    refine tx 2 7 hSS ?_
    simp only [ua, ub, uc, ud]
    refine tx 3 8 hSS ?_
    simp only [ua, ub, uc, ud]
    clear hSS
    refine AnyBut.two (i := 4) (j := 6) (by kernel_rfl) rfl rfl (fun K hK => ?_) (fun K hK => ?_)
    · go_simp
      refine Calls.mono (HC2.out W.drew (Below.refl _ W).drew) ?_
      rintro e2 w2 ⟨⟨v2, rfl, ho2⟩, hb2⟩
      dsimp only
      have hb2 : Below W.heap.size W w2 := ((Below.refl W.heap.size W).drew).trans (hb2.mono (Nat.le_refl _))
      refine hK.out _ _ (HS.out w2 hb2) ?_
      clear hK
      obtain ⟨a3, c3, _, hv2, -⟩ := Shape.list_own (S := bkR) (ht := Try.underlying24) (hc := cells24) ho2
      obtain rfl : v2 = _ := by simpa using hv2
      rw [← HN.out.2.2] at ho2 ⊢
      have hSS := HS.out w2 hb2
      refine tx 5 10 hSS ?_
      simp only [ua, ub, uc, ud]
      refine AnyBut.step (i := 6) (by kernel_rfl) rfl (fun K hK => ?_)
      go_simp
      refine hK.out _ _ (HS.out _ (hb2.alloc hb2.size _)) ?_
      clear hK
      refine AnyBut.step (i := 7) (by kernel_rfl) rfl (fun K hK => ?_)
      go_simp
      refine hK.out _ _ (HS.out _ (hb2.alloc hb2.size _)) ?_
      clear hK
      refine AnyBut.done (by kernel_rfl) ?_
      refine hMt _ _ (Go.Met.intro (hJ _ _ ?_))
      (repeat (refine Exists.intro ?_ ?_; rotate_left 1))
      refine ⟨?rel1, ?fr1⟩
      case fr1 => rfl
      case rel1 => exact ⟨_, rfl, hb2.size, hb2.alloc hb2.size _, _, _, Box.new _ _ _, bksR.obelow ho2 ((Below.refl _ _).alloc (Nat.le_refl _) _)⟩
    · go_simp
      obtain ⟨Z, hZ⟩ : ∃ Z, Z = (W.alloc (.cells #[.slice none 0 0, .slice none 0 0, .slice none 0 0, .int .i64 0] 26)).drew := ⟨_, rfl⟩
      have hbz : Below W.heap.size W Z := by rw [hZ]; exact ((Below.refl _ W).alloc (Nat.le_refl _) _).drew
      have hBz : Box Z W.heap.size 26 #[.slice none 0 0, .slice none 0 0, .slice none 0 0, .int .i64 0] := by rw [hZ]; exact Box.drew (Box.new _ _ _)
      rw [← hZ]
      refine hK.out _ _ (HS.out Z hbz) ?_
      clear hK hZ
      refine AnyBut.step (i := 4) (by kernel_rfl) rfl (fun K hK => ?_)
      go_simp
      refine Calls.mono (HC2.out Z hbz) ?_
      rintro e2 w2 ⟨⟨v2, rfl, ho2⟩, hb2⟩
      dsimp only
      have hb2o := hb2
      have hb2 : Below W.heap.size W w2 := hbz.trans (hb2.mono hbz.size)
      refine hK.out _ _ (HS.out w2 hb2) ?_
      clear hK
      obtain ⟨a3, c3, _, hv2, -⟩ := Shape.list_own (S := bkR) (ht := Try.underlying24) (hc := cells24) ho2
      obtain rfl : v2 = _ := by simpa using hv2
      rw [← HN.out.2.2] at ho2 ⊢
      have hSS := HS.out w2 hb2
      refine tx 5 10 hSS ?_
      simp only [ua, ub, uc, ud]
      have hBz2 := hBz.below hb2o hBz.lt
      obtain ⟨z0, z1, z2, z3, y0, y1, y2, y3⟩ := hBz2.four
      have HQ : Hid _ := HREL.out W.heap.size a3 c3 w2 hb2 (Nat.le_refl _) hBz2 (bksR.oweaken ho2 hbz.size)
      refine AnyBut.step (i := 7) (by kernel_rfl) rfl (fun K hK => ?_)
      go_simp
      refine hK.out _ _ (HS.out _ HQ.out.1) ?_
      clear hK
      refine AnyBut.done (by kernel_rfl) ?_
      refine hMt _ _ (Go.Met.intro (hJ _ _ ?_))
      (repeat (refine Exists.intro ?_ ?_; rotate_left 1))
      refine ⟨?rel2, ?fr2⟩
      case fr2 => rfl
      case rel2 => exact ⟨_, rfl, HQ.out.2⟩
  case rest =>
    obtain ⟨dd, rfl, HXX⟩ := hcut
    obtain ⟨wx, hwx⟩ : ∃ U, U = wc := ⟨_, rfl⟩
    rw [← hwx] at HXX ⊢
    clear hwx
    obtain ⟨hdd, hbx, a3, c3, hBx, ho3⟩ := HXX.out
    have HDD : Hid (W.heap.size ≤ dd ∧ dd < wx.heap.size) := ⟨hdd, hBx.lt⟩
    have HOB : Hid (∀ g, (Value.slice a3 no c3).ownBlock = some g → g < wx.heap.size) := fun g hg => by
      obtain ⟨v9, vss, hv9, hown, _⟩ := ho3
      obtain rfl : Value.slice a3 no c3 = v9 := by simpa using hv9
      exact (hown.lt g hg).2
    have HXB : Hid (Below W.heap.size W wx ∧ Box wx dd 26 #[.slice none 0 0, .slice none 0 0, .slice a3 no c3, .int .i64 nx] ∧ bksR.owns W.heap.size wx [.slice a3 no c3] op) := ⟨hbx, hBx, ho3⟩
    obtain ⟨t0, t1, t2, t3, u0, u1, u2, u3⟩ := hBx.four
    obtain ⟨x0, x1, x2, x3, -⟩ := (HW.out.2.2 wx hbx).1.four
    clear HXX hdd hbx hBx ho3 HC2 HS
    have hl1 := run_len Try.underlying22 a n c
    obtain ⟨vb, w2, hrunb, hob, hbb⟩ := bools_app n0 (.slice b nh d) hd wx (boolsS.below HA.out.2.2.2.1 (below_any HW.out.1 HXB.out.1)) (by have := HA.out.2.2.2.2; have := HN.out.2.1; omega)
    obtain ⟨a2, c2, hvb, -⟩ := Leaf.row_len (L := bL) (ht := Try.underlying23) (hc := cells23) (boolsS.olies hob)
    obtain rfl : vb = .slice a2 hd.length c2 := (List.cons.inj hvb).1
    rw [← HN.out.2.1] at hrunb hob
    have hx2 := HXB.out.2.1.below hbb HXB.out.2.1.lt
    obtain ⟨s0', s1', s2', s3', j0, j1, j2, j3⟩ := hx2.four
    obtain ⟨Y, hY⟩ : ∃ Y, Y = w2.setCell ⟨dd, 1, none⟩ (.slice a2 nh c2) := ⟨_, rfl⟩
    have HJ0 : Hid (Below W.heap.size W Y ∧ wx.heap.size ≤ Y.heap.size ∧ Box Y dd 26 #[.slice none 0 0, .slice a2 nh c2, .slice a3 no c3, .int .i64 nx] ∧ boolsS.owns wx.heap.size Y [.slice a2 nh c2] hd ∧ bksR.owns W.heap.size Y [.slice a3 no c3] op) := by
      rw [hY]
      exact ⟨(HXB.out.1.trans (hbb.mono HXB.out.1.size)).setCell (p := ⟨dd, 1, none⟩) HDD.out.1 _, by simp [World.setCell]; exact hbb.size, hx2.set 1 _, boolsS.osame hob (.set HDD.out.2), bksR.ogrown (bksR.obelow HXB.out.2.2 hbb) (grown_set _ _ _ _) (hx2.clear (by decide))⟩
    clear hob hbb hx2 hvb
    go_upto_region 3 with (at_builtin; refine list_app rfl _ _ 23 rfl rfl rfl rfl hrunb ?_)
    rw [← hY]
    clear hY t0 t1 t2 t3 u0 u1 u2 u3 x0 x1 x2 x3 s0' s1' s2' s3' j0 j1 j2 j3 hrunb HXB
    go_wp2
    go_loopw [4] (fun i wr => ∃ k : Nat, k ≤ n ∧ i = .int .i64 k ∧ Hid (Below W.heap.size W wr ∧ wx.heap.size ≤ wr.heap.size ∧ ∃ v, sgsR.owns wx.heap.size wr [v] (l.take k) ∧ Box wr dd 26 #[v, .slice a2 nh c2, .slice a3 no c3, .int .i64 nx] ∧ boolsS.owns wx.heap.size wr [.slice a2 nh c2] hd ∧ bksR.owns W.heap.size wr [.slice a3 no c3] op)) (fun i _ => n - (intOf i).toNat)
    case atStart => exact ⟨0, Nat.zero_le _, rfl, HJ0.out.1, HJ0.out.2.1, _, Shape.list_nil sgR 22 Try.underlying22 cells22 _ _, HJ0.out.2.2⟩
    case round =>
      obtain ⟨k, hk, rfl, HJ⟩ := hrel
      obtain ⟨hbr, hwz, v, hv, hBr, hb1, hb2⟩ := HJ.out
      obtain ⟨av, cv, _, hvv, -⟩ := Shape.list_own (S := sgR) (ht := Try.underlying22) (hc := cells22) hv
      obtain rfl : v = .slice av (l.take k).length cv := (List.cons.inj hvv).1
      have hW2 := HW.out.2.1
      have hTL : (l.take k).length = k := by have := HN.out.1; rw [List.length_take]; omega
      rw [hTL] at hv hBr
      by_cases hlt : k < n
      · obtain ⟨p, hp⟩ := get_lt (l := l) (k := k) (by rw [← HN.out.1]; exact hlt)
        have HTK : Hid (l.take (k + 1) = l.take k ++ [p] ∧ (l.take k).length = k) := ⟨take_snoc hp, hTL⟩
        obtain ⟨pb, po, x, cap, hix, c0, c1, hL, _⟩ := sgs_atR HA.out.1 k p hp
        obtain ⟨_, _, e0, hLb, hI, _⟩ := sg_viewR hL
        obtain ⟨m, hm⟩ : ∃ m, m = p.2.length := ⟨_, rfl⟩
        have HSW : Hid (∀ V, Below w.heap.size w V → V.cell? ⟨pb, po, none⟩ = some (.int .i64 p.1) ∧ V.cell? ⟨pb, po + 1, none⟩ = some (.slice x m cap)) := fun V h2 => ⟨by rw [h2.cell (cell_lt c0)]; exact c0, by rw [h2.cell (cell_lt c1)]; rw [hm]; exact c1⟩
        have HS : Hid (∀ V, Below wr.heap.size wr V → V.cell? ⟨dd, 0, none⟩ = some (.slice av k cv) ∧ V.cell? ⟨w.heap.size, 0, none⟩ = some (.slice a n c) ∧ V.cell? ⟨pb, po, none⟩ = some (.int .i64 p.1) ∧ V.cell? ⟨pb, po + 1, none⟩ = some (.slice x m cap)) := fun V hV => by
          have h1 := below_any hbr hV
          have h2 := HSW.out V (below_any HW.out.1 h1)
          exact ⟨(hBr.below hV hBr.lt).four.1, ((HW.out.2.2 V h1).1).four.1, h2.1, h2.2⟩
        have HC : Hid (Calls Try.prog 77 #[.slice x m cap] wr.drew fun e w' => (∃ v', e = .returned v' ∧ bksR.owns wr.heap.size w' [v'] p.2) ∧ Below wr.heap.size wr w') := (rown_any n0 (.slice x m cap) p.2 wr.drew (bksR.below (bksR.below (by rw [hm]; simp at e0; obtain ⟨rfl, rfl⟩ := e0; exact hLb) (below_any HW.out.1 hbr)) (Below.refl _ _).drew) (HA.out.2.1 p (List.mem_of_getElem? hp))).mono fun e w' h => ⟨h.1, ((Below.refl _ wr).drew).trans h.2⟩
        have HJ2 : Hid (Below W.heap.size W wr ∧ wx.heap.size ≤ wr.heap.size ∧ sgsR.owns wx.heap.size wr [.slice av k cv] (l.take k) ∧ Box wr dd 26 #[.slice av k cv, .slice a2 nh c2, .slice a3 no c3, .int .i64 nx] ∧ boolsS.owns wx.heap.size wr [.slice a2 nh c2] hd ∧ bksR.owns W.heap.size wr [.slice a3 no c3] op ∧ I64 p.1) := ⟨hbr, hwz, hv, hBr, hb1, hb2, hI⟩
        have hki : (k : Int) < (n : Int) := by omega
        obtain ⟨t0, -⟩ := ((HW.out.2.2 wr hbr).1).four
        clear hp c0 c1 hL hbr hv hBr hb1 hb2 HJ hm hTL hLb hI e0 hwz
        go_upto_region 6 with fail
        clear t0
        refine AnyBut.begin (fun V => V.cell? ⟨dd, 0, none⟩ = some (.slice av k cv) ∧ V.cell? ⟨w.heap.size, 0, none⟩ = some (.slice a n c) ∧ V.cell? ⟨pb, po, none⟩ = some (.int .i64 p.1) ∧ V.cell? ⟨pb, po + 1, none⟩ = some (.slice x m cap)) 19 (by kernel_rfl) ?_
        have hSS := HS.out wr.drew (Below.refl _ wr).drew
        refine tt 0 24 ?_ hSS ?_ ?_; rotate_left
        · intro W9 hSW; (try dsimp only at hSW); go_simp; try with_reducible rfl
        simp only [ua, ub, uc, ud]
        refine tt 1 25 ?_ hSS ?_ ?_; rotate_left
        · intro W9 hSW; (try dsimp only at hSW); go_simp; try with_reducible rfl
        simp only [ua, ub, uc, ud]
        refine tt 2 26 ?_ hSS ?_ ?_; rotate_left
        · intro W9 hSW; (try dsimp only at hSW); go_simp; try with_reducible rfl
        simp only [ua, ub, uc, ud]
        refine tt 3 27 ?_ hSS ?_ ?_; rotate_left
        · intro W9 hSW; (try dsimp only at hSW); go_simp; try with_reducible rfl
        simp only [ua, ub, uc, ud]
        refine tt 4 28 ?_ hSS ?_ ?_; rotate_left
        · intro W9 hSW; (try dsimp only at hSW); go_simp; try with_reducible rfl
        simp only [ua, ub, uc, ud]
        refine tt 5 29 ?_ hSS ?_ ?_; rotate_left
        · intro W9 hSW; (try dsimp only at hSW); go_simp; try with_reducible rfl
        simp only [ua, ub, uc, ud]
        refine tt 6 30 ?_ hSS ?_ ?_; rotate_left
        · intro W9 hSW; (try dsimp only at hSW); go_simp; try with_reducible rfl
        simp only [ua, ub, uc, ud]
        refine tt 7 31 ?_ hSS ?_ ?_; rotate_left
        · intro W9 hSW; (try dsimp only at hSW); go_simp; try with_reducible rfl
        simp only [ua, ub, uc, ud]
        refine tt 8 32 ?_ hSS ?_ ?_; rotate_left
        · intro W9 hSW; (try dsimp only at hSW); go_simp; try with_reducible rfl
        simp only [ua, ub, uc, ud]
        refine tt 9 33 ?_ hSS ?_ ?_; rotate_left
        · intro W9 hSW; (try dsimp only at hSW); go_simp; try with_reducible rfl
        simp only [ua, ub, uc, ud]
        refine tt 10 34 ?_ hSS ?_ ?_; rotate_left
        · intro W9 hSW; (try dsimp only at hSW); go_simp; try with_reducible rfl
        simp only [ua, ub, uc, ud]
        refine tt 11 35 ?_ hSS ?_ ?_; rotate_left
        · intro W9 hSW; (try dsimp only at hSW); go_simp; try with_reducible rfl
        simp only [ua, ub, uc, ud]
        refine tt 12 36 ?_ hSS ?_ ?_; rotate_left
        · intro W9 hSW; (try dsimp only at hSW); go_simp; try with_reducible rfl
        simp only [ua, ub, uc, ud]
        refine tt 13 37 ?_ hSS ?_ ?_; rotate_left
        · intro W9 hSW; (try dsimp only at hSW); go_simp; try with_reducible rfl
        simp only [ua, ub, uc, ud]
        refine AnyBut.step (i := 14) (by kernel_rfl) rfl (fun K hK => ?_)
        go_simp
        refine Calls.mono HC.out ?_
        rintro e5 w5 ⟨⟨v5, rfl, ho5⟩, hb5⟩
        dsimp only
        refine hK.out _ _ (HS.out w5 hb5) ?_
        clear hK hSS
        have hSS := HS.out w5 hb5
        obtain ⟨a5, c5, _, hv5, -⟩ := Shape.list_own (S := bkR) (ht := Try.underlying24) (hc := cells24) ho5
        obtain rfl : v5 = .slice a5 p.2.length c5 := (List.cons.inj hv5).1
        refine tt 15 39 ?_ hSS ?_ ?_; rotate_left
        · intro W9 hSW; (try dsimp only at hSW); go_simp; try with_reducible rfl
        simp only [ua, ub, uc, ud]
        clear hSS
        refine AnyBut.step (i := 16) (by kernel_rfl) rfl (fun K hK => ?_)
        go_simp
        have hb6 : Below wr.heap.size wr (w5.alloc (.cells #[.int .i64 p.1, .slice a5 p.2.length c5] 36)) := hb5.alloc hb5.size _
        refine hK.out _ _ (HS.out _ hb6) ?_
        clear hK
        obtain ⟨i3, hi3, hz30, hz31, hz32⟩ := info_parts Try.info36
        have hbw5 := HJ2.out.1.trans (hb5.mono HJ2.out.1.size)
        have hws5 : wx.heap.size ≤ w5.heap.size := Nat.le_trans HJ2.out.2.1 hb5.size
        obtain ⟨g7, c7, w7, hrun, ho7, hg7, hs7⟩ := list_append sgR 22 Try.underlying22 cells22 hi3 hz30 hz31 hz32 rfl (by decide) (by decide) (sgsR.obelow HJ2.out.2.2.1 hb5) (sg_omkR (s := p) (bksR.oweaken ho5 HJ2.out.2.1) HJ2.out.2.2.2.2.2.2) hws5 (by rw [HTK.out.2]; omega) (by rw [HTK.out.2]; unfold maxLen; omega)
        rw [HTK.out.2] at hrun ho7
        rw [← HTK.out.1] at ho7
        obtain ⟨_, hrow⟩ : ∃ xs, w5.ownsRow wx.heap.size 36 2 (.slice av k cv) (l.take k).length xs := by
          obtain ⟨v9, vss, hv9, hown, _⟩ := sgsR.obelow HJ2.out.2.2.1 hb5
          obtain rfl : Value.slice av k cv = v9 := by simpa using hv9
          exact ⟨_, hown⟩
        have hx7 : Box w7 dd 26 #[.slice av k cv, .slice a2 nh c2, .slice a3 no c3, .int .i64 nx] := (HJ2.out.2.2.2.1.below hb5 HJ2.out.2.2.2.1.lt).grown hg7 ((HJ2.out.2.2.2.1.below hb5 HJ2.out.2.2.2.1.lt).apart hrow (by decide))
        have hbw7 : Below W.heap.size W w7 := below_row hbw5 (own_weaken hrow (by have := HDD.out; omega)) hg7 hbw5.size
        have hb17 := boolsS.ogrown (boolsS.obelow HJ2.out.2.2.2.2.1 hb5) hg7 (.own hrow (by decide))
        have hb27 := bksR.ogrown (bksR.obelow HJ2.out.2.2.2.2.2.1 hb5) hg7 (.own hrow (by decide))
        have hS7 : w7.cell? ⟨dd, 0, none⟩ = some (.slice av k cv) ∧ w7.cell? ⟨w.heap.size, 0, none⟩ = some (.slice a n c) ∧ w7.cell? ⟨pb, po, none⟩ = some (.int .i64 p.1) ∧ w7.cell? ⟨pb, po + 1, none⟩ = some (.slice x m cap) := ⟨hx7.four.1, ((HW.out.2.2 w7 hbw7).1).four.1, (HSW.out w7 (below_any HW.out.1 hbw7)).1, (HSW.out w7 (below_any HW.out.1 hbw7)).2⟩
        refine AnyBut.step (i := 17) (by kernel_rfl) rfl (fun K hK => ?_)
        refine step_app rfl _ _ 22 rfl rfl rfl rfl hrun ?_
        refine hK.out _ _ hS7 ?_
        clear hK
        have hSS := hS7
        refine tt 18 42 ?_ hSS ?_ ?_; rotate_left
        · intro W9 hSW; (try dsimp only at hSW); go_simp; try with_reducible rfl
        obtain ⟨z0, z1, z2, z3, j0, j1, j2, j3⟩ := hx7.four
        obtain ⟨Y, hY⟩ : ∃ Y, Y = w7.setCell ⟨dd, 0, none⟩ (.slice (some ⟨g7, 0, none⟩) (k + 1) c7) := ⟨_, rfl⟩
        have HF : Hid (Below W.heap.size W Y ∧ wx.heap.size ≤ Y.heap.size ∧ ∃ v, sgsR.owns wx.heap.size Y [v] (l.take (k + 1)) ∧ Box Y dd 26 #[v, .slice a2 nh c2, .slice a3 no c3, .int .i64 nx] ∧ boolsS.owns wx.heap.size Y [.slice a2 nh c2] hd ∧ bksR.owns W.heap.size Y [.slice a3 no c3] op) := by
          rw [hY]
          exact ⟨hbw7.setCell (p := ⟨dd, 0, none⟩) HDD.out.1 _, by simp [World.setCell]; omega, _, sgsR.ogrown ho7 (grown_set _ _ _ _) (hx7.clear (by decide)), hx7.set 0 _, boolsS.ogrown hb17 (grown_set _ _ _ _) (hx7.clear (by decide)), bksR.ogrown hb27 (grown_set _ _ _ _) (hx7.clear (by decide))⟩
        refine AnyBut.last (by kernel_rfl) (by kernel_rfl) rfl (fun K hK => ?_)
        go_simp
        rw [← hY]
        refine hK.out _ _ ?_
        clear hK hSS hS7 hx7 hbw7 hb17 hb27 hrow ho7 hg7 hs7 hrun hbw5 hi3 hz30 hz31 hz32 hb6 ho5 hb5 hY z0 z1 z2 z3 j0 j1 j2 j3 hix hws5
        go_wp2
        go_roundw
        case rel => exact ⟨k + 1, by omega, by go_num, HF.out⟩
        case measure => simp [intOf]; omega
      · obtain rfl : k = n := by omega
        have hT : l.take k = l := by rw [HN.out.1]; simp
        rw [hT] at hv
        have HE : Hid (Below w.heap.size w wr ∧ ∀ U, Same W.heap.size wr U → wr.heap.size ≤ U.heap.size → SepR (w.heap.size + 2) U [.slice av k cv, .slice a2 nh c2, .slice a3 no c3, .int .i64 nx] (l, hd, op, nx)) := ⟨below_any HW.out.1 hbr, fun U hU hUs => ⟨_, _, _, wx.heap.size, rfl, by have := HDD.out; omega, by omega, sgsR.osame hv (fun k h1 h2 => hU k (by have := HDD.out; omega) h2), boolsS.osame hb1 (fun k h1 h2 => hU k (by have := HDD.out; omega) h2), by rw [← hW2]; exact bksR.osame hb2 hU, HOB.out, HA.out.2.2.1⟩⟩
        obtain ⟨t0, -⟩ := ((HW.out.2.2 wr hbr).1).four
        obtain ⟨y0, y1, y2, y3, j0, j1, j2, j3⟩ := ((HW.out.2.2 wr hbr).2).four
        obtain ⟨z0, z1, z2, z3, -⟩ := hBr.four
        have HSZ : Hid (W.heap.size = w.heap.size + 2) := hW2
        clear hv hBr hb1 hb2 HJ hbr hW2 hT hTL
        go_wp2
        refine bodyPost_ret (v := .agg #[.slice av k cv, .slice a2 nh c2, .slice a3 no c3, .int .i64 nx]) (by simp [results, Try.results48, go_sem, *]) rfl ?_
        exact HPo.out [_, _, _, _] _ (HE.out.2 _ (.set4 (by have := HSZ.out; omega)) (by simp [World.setCell])) (below_set4 HE.out.1 (by omega) _ _ _ _)

end Go.Proofs.Ytkpckadicjdieab

/-
  What the document's Put answers, for every store and block.
-/
namespace Go.Proofs.Ytkpckadicjdieab
open Go.RowKit

theorem s0_ownsR (n : Nat) (w : World) : stR.owns n w [.slice none 0 0, .slice none 0 0, .slice none 0 0, .int .i64 0] s0 := st_nilR n w
/-- A call that answers a store of the document's and a number. -/
def TellsR (k : Int) (s' : St) (w : World) (e : Ending) (w' : World) : Prop := (∃ us', e = .returned (.tuple #[.agg us'.toArray, .int .i64 k]) ∧ stR.owns w.heap.size w' us' s') ∧ Below w.heap.size w w'

set_option maxRecDepth 100000 in
set_option maxHeartbeats 8000000 in
theorem rput_any (n0 n1 : Nat) (us : List Value) (s : St) (ub : List Value) (p : Bk) (w : World) (h : stR.lies n0 w us s) (hp : bkR.lies n1 w ub p) (h1 : n1 ≤ w.heap.size) :
    Calls Try.prog 50 #[.agg us.toArray, .agg ub.toArray] w (TellsR (pE s p) (pS s p) w) := by
  obtain ⟨a, c, b, d, e, f, rfl, hS, hH, hO, hN, m1, m2, m3⟩ := st_viewR h
  obtain ⟨x, cap, rfl, hA, hpo, hpi⟩ := bk_view hp
  obtain ⟨po, pi, pd⟩ := p
  simp only at hA hpo hpi ⊢
  obtain ⟨post, hpost⟩ : ∃ post : Ending → World → Prop, post = TellsR (pE s (po, pi, pd)) (pS s (po, pi, pd)) w := ⟨_, rfl⟩
  have HNO : Hid (∀ k w', pE s (po, pi, pd) = k → k ≠ 0 → Below w.heap.size w w' → post (.returned (.tuple #[.agg #[.slice none 0 0, .slice none 0 0, .slice none 0 0, .int .i64 0], .int .i64 k])) w') := fun k w' e1 e2 e3 => by
    rw [hpost]
    refine ⟨⟨_, by rw [e1], ?_⟩, e3⟩
    unfold pS
    rw [if_neg (by rw [e1]; exact e2)]
    exact s0_ownsR _ _
  have HYES : Hid (∀ us' w', pE s (po, pi, pd) = 0 → stR.owns w.heap.size w' us' (s.1, s.2.1, s.2.2.1 ++ [(po, pi, pd)], s.2.2.2) → Below w.heap.size w w' → post (.returned (.tuple #[.agg us'.toArray, .int .i64 0])) w') := fun us' w' e1 e2 e3 => by
    rw [hpost]
    refine ⟨⟨us', by rw [e1], ?_⟩, e3⟩
    unfold pS
    rw [if_pos e1]
    exact e2
  rw [← hpost]
  clear hpost
  obtain ⟨m, hm⟩ : ∃ m, m = pd.length := ⟨_, rfl⟩
  rw [← hm] at hA ⊢
  obtain ⟨n, hn⟩ : ∃ n, n = s.1.length := ⟨_, rfl⟩
  obtain ⟨nh, hnh⟩ : ∃ n, n = s.2.1.length := ⟨_, rfl⟩
  obtain ⟨no, hno⟩ : ∃ n, n = s.2.2.1.length := ⟨_, rfl⟩
  obtain ⟨nx, hnx⟩ : ∃ n, n = s.2.2.2 := ⟨_, rfl⟩
  rw [← hn, ← hnh, ← hno, ← hnx] at h ⊢
  obtain ⟨W, hW⟩ : ∃ W, W = ((w.alloc (.cells #[.slice a n c, .slice b nh d, .slice e no f, .int .i64 nx] 26)).alloc (.cells #[.int .i64 po, .int .i64 pi, .slice x m cap] 97)).alloc (.cells #[.slice none 0 0, .slice none 0 0, .slice none 0 0, .int .i64 0] 26) := ⟨_, rfl⟩
  have hbW : Below w.heap.size w W := by rw [hW]; exact (((Below.refl _ w).alloc (Nat.le_refl _) _).alloc (by simp) _).alloc (by simp; omega) _
  have hB1 : Box W w.heap.size 26 #[.slice a n c, .slice b nh d, .slice e no f, .int .i64 nx] := by rw [hW]; exact ((Box.new _ _ _).alloc _).alloc _
  have hB2 : Box W (w.heap.size + 1) 97 #[.int .i64 po, .int .i64 pi, .slice x m cap] := by
    rw [hW]
    have := Box.new (w.alloc (.cells #[.slice a n c, .slice b nh d, .slice e no f, .int .i64 nx] 26)) 97 #[.int .i64 po, .int .i64 pi, .slice x m cap]
    rw [World.size_alloc] at this
    exact this.alloc _
  have hB3 : Box W (w.heap.size + 2) 26 #[.slice none 0 0, .slice none 0 0, .slice none 0 0, .int .i64 0] := by
    rw [hW]
    have := Box.new ((w.alloc (.cells #[.slice a n c, .slice b nh d, .slice e no f, .int .i64 nx] 26)).alloc (.cells #[.int .i64 po, .int .i64 pi, .slice x m cap] 97)) 26 #[.slice none 0 0, .slice none 0 0, .slice none 0 0, .int .i64 0]
    rwa [World.size_alloc, World.size_alloc] at this
  have HC := rcheckL_any n0 [.slice a n c, .slice b nh d, .slice e no f, .int .i64 nx] s W (stR.below h hbW)
  have HW : Hid (Below w.heap.size w W ∧ W.heap.size = w.heap.size + 3 ∧ ∀ V, Below W.heap.size W V → Box V w.heap.size 26 #[.slice a n c, .slice b nh d, .slice e no f, .int .i64 nx] ∧ Box V (w.heap.size + 1) 97 #[.int .i64 po, .int .i64 pi, .slice x m cap] ∧ Box V (w.heap.size + 2) 26 #[.slice none 0 0, .slice none 0 0, .slice none 0 0, .int .i64 0]) := ⟨hbW, by rw [hW]; simp, fun V hV => ⟨hB1.below hV hB1.lt, hB2.below hV hB2.lt, hB3.below hV hB3.lt⟩⟩
  have HA : Hid (stR.lies n0 w [.slice a n c, .slice b nh d, .slice e no f, .int .i64 nx] s ∧ Arg n1 w (.slice x m cap) pd ∧ I64 po ∧ I64 pi ∧ m = pd.length ∧ no = s.2.2.1.length ∧ n1 ≤ w.heap.size) := ⟨h, hA, hpo, hpi, hm, hno, h1⟩
  obtain ⟨g0, g1, g2, g3, -⟩ := hB1.four
  rw [hW] at g0 g1 g2 g3
  clear h hp h1 hS hH hO hN m1 m2 m3 hA hpo hpi hbW hB1 hB2 hB3 hm hn hnh hno hnx
  go_enter Try.func50, Try.ntmps50
  go_wp2_with fail
  rw [← hW]
  clear hW g0 g1 g2 g3
  refine HC.mono ?_
  rintro e1 w1 ⟨rfl, hb1⟩
  obtain ⟨hx1, hx2, hx3⟩ := HW.out.2.2 w1 hb1
  have HB1 : Hid (Below W.heap.size W w1) := hb1
  rcases okE_cases s with ⟨hk, hok⟩ | ⟨hk, hok⟩
  case inr =>
    rw [hk]
    obtain ⟨y0, y1, y2, y3, j0, j1, j2, j3⟩ := hx3.four
    have HE := HNO.out 9 ((((w1.setCell ⟨w.heap.size + 2, 0, none⟩ (.slice none 0 0)).setCell ⟨w.heap.size + 2, 1, none⟩ (.slice none 0 0)).setCell ⟨w.heap.size + 2, 2, none⟩ (.slice none 0 0)).setCell ⟨w.heap.size + 2, 3, none⟩ (.int .i64 0)) (by
      have : okB s = false := by cases hb : okB s with | false => rfl | true => exact absurd (ok_iff.1 hb) hok
      unfold pE; rw [if_pos this]) (by decide) (below_set4 (below_any HW.out.1 hb1) (by omega) _ _ _ _)
    have HE : Hid _ := HE
    clear hb1 hx1 hx2 hx3 hok hk
    go_wp2
    refine bodyPost_ret (v := .tuple #[.agg #[.slice none 0 0, .slice none 0 0, .slice none 0 0, .int .i64 0], .int .i64 9]) (by simp [results, Try.results50, go_sem, *]) rfl HE.out
  case inl =>
    rw [hk]
    obtain ⟨q0, q1, q2, -⟩ := hx2.three
    have HOK : Hid (Ok s ∧ okB s = true) := ⟨hok, ok_iff.2 hok⟩
    have hbw1 := below_any HW.out.1 hb1
    have HM := rmay_any x cap (po, pi, pd) (by obtain ⟨_, _, _, _, h9, _⟩ := HA.out.2.1.shape; exact h9) w1
    simp only at HM
    rw [← HA.out.2.2.2.2.1] at HM
    clear hk hok hx1 hx2 hx3 hb1 hbw1
    cases hmay : mayB (po, pi, pd)
    · rw [hmay] at HM
      go_wp2_with fail
      refine HM.mono ?_
      rintro e2 w2 ⟨rfl, hb2⟩
      have hbw := HB1.out.trans (hb2.mono HB1.out.size)
      obtain ⟨y0, y1, y2, y3, j0, j1, j2, j3⟩ := (HW.out.2.2 w2 hbw).2.2.four
      have HE := HNO.out 1 ((((w2.setCell ⟨w.heap.size + 2, 0, none⟩ (.slice none 0 0)).setCell ⟨w.heap.size + 2, 1, none⟩ (.slice none 0 0)).setCell ⟨w.heap.size + 2, 2, none⟩ (.slice none 0 0)).setCell ⟨w.heap.size + 2, 3, none⟩ (.int .i64 0)) (by unfold pE; rw [if_neg (by rw [HOK.out.2]; simp), if_pos hmay]) (by decide) (below_set4 (below_any HW.out.1 hbw) (by omega) _ _ _ _)
      have HE : Hid _ := HE
      clear hb2 hbw hmay
      go_wp2
      refine bodyPost_ret (v := .tuple #[.agg #[.slice none 0 0, .slice none 0 0, .slice none 0 0, .int .i64 0], .int .i64 1]) (by simp [results, Try.results50, go_sem, *]) rfl HE.out
    · rw [hmay] at HM
      have HMY : Hid (mayB (po, pi, pd) = true) := hmay
      go_wp2_with fail
      clear hmay
      refine HM.mono ?_
      rintro e2 w2 ⟨rfl, hb2⟩
      have hbw := HB1.out.trans (hb2.mono HB1.out.size)
      have HB2 : Hid (Below W.heap.size W w2) := hbw
      obtain ⟨hx1, hx2, hx3⟩ := HW.out.2.2 w2 hbw
      obtain ⟨z0, z1, z2, z3, i0, i1, i2, i3⟩ := hx1.four
      have hl3 := run_len Try.underlying24 e no f
      clear hb2 hbw HM q0 q1 q2
      by_cases h8 : 8 ≤ no
      · have HE := HNO.out 51 ((((w2.setCell ⟨w.heap.size + 2, 0, none⟩ (.slice none 0 0)).setCell ⟨w.heap.size + 2, 1, none⟩ (.slice none 0 0)).setCell ⟨w.heap.size + 2, 2, none⟩ (.slice none 0 0)).setCell ⟨w.heap.size + 2, 3, none⟩ (.int .i64 0)) (by unfold pE; rw [if_neg (by rw [HOK.out.2]; simp), if_neg (by rw [HMY.out]; simp), if_pos (by rw [← HA.out.2.2.2.2.2.1]; omega)]) (by decide) (below_set4 (below_any HW.out.1 HB2.out) (by omega) _ _ _ _)
        have HE : Hid _ := HE
        have h8i : (8 : Int) ≤ (no : Int) := by omega
        obtain ⟨y0, y1, y2, y3, j0, j1, j2, j3⟩ := hx3.four
        clear hx1 hx2 hx3
        go_wp2
        refine bodyPost_ret (v := .tuple #[.agg #[.slice none 0 0, .slice none 0 0, .slice none 0 0, .int .i64 0], .int .i64 51]) (by simp [results, Try.results50, go_sem, *]) rfl HE.out
      · have h8i : ¬ (8 : Int) ≤ (no : Int) := by omega
        have h8d : decide ((8 : Int) ≤ (no : Int)) = false := decide_eq_false h8i
        have HCC := rownL_any n0 [.slice a n c, .slice b nh d, .slice e no f, .int .i64 nx] s w2 (stR.below HA.out.1 (below_any HW.out.1 HB2.out)) HOK.out.1.fits
        have HPE : Hid (pE s (po, pi, pd) = 0) := by
          show pE _ _ = 0
          unfold pE
          rw [if_neg (by rw [HOK.out.2]; simp), if_neg (by rw [HMY.out]; simp), if_neg (by rw [← HA.out.2.2.2.2.2.1]; exact h8)]
        clear hx1 hx2 hx3 h8
        go_wp2_with fail
        refine HCC.mono ?_
        rintro e3 w3 ⟨⟨us3, rfl, ho3⟩, hb3⟩
        obtain ⟨v1, v2, v3, B, rfl, hB0, hB1, hSG, hBO, hOP, hOB, hNX⟩ := ho3
        obtain ⟨a1, c1, _, hv1, -⟩ := Shape.list_own (S := sgR) (ht := Try.underlying22) (hc := cells22) hSG
        obtain ⟨a2, c2, hv2, -⟩ := Leaf.row_len (L := bL) (ht := Try.underlying23) (hc := cells23) (boolsS.olies hBO)
        obtain ⟨a3, c3, _, hv3, -⟩ := Shape.list_own (S := bkR) (ht := Try.underlying24) (hc := cells24) hOP
        obtain rfl : v1 = _ := (List.cons.inj hv1).1
        obtain rfl : v2 = _ := (List.cons.inj hv2).1
        obtain rfl : v3 = _ := (List.cons.inj hv3).1
        have hbw3 : Below W.heap.size W w3 := HB2.out.trans (hb3.mono HB2.out.size)
        obtain ⟨l, hd, op, nx'⟩ := s
        simp only at hSG hBO hOP hOB hNX ⊢
        obtain ⟨X, hX⟩ : ∃ X, X = w3.alloc (.cells #[.slice a1 l.length c1, .slice a2 hd.length c2, .slice a3 op.length c3, .int .i64 nx'] 26) := ⟨_, rfl⟩
        have hbX3 : Below w3.heap.size w3 X := by rw [hX]; exact (Below.refl _ _).alloc (Nat.le_refl _) _
        have hxX : Box X w3.heap.size 26 #[.slice a1 l.length c1, .slice a2 hd.length c2, .slice a3 op.length c3, .int .i64 nx'] := by rw [hX]; exact Box.new _ _ _
        have hbX : Below W.heap.size W X := hbw3.trans (hbX3.mono hbw3.size)
        have hW3 := HW.out.2.1
        have hw2 : w.heap.size + 3 ≤ w2.heap.size := by have := HB2.out.size; omega
        have hw3 := hb3.size
        have HX : Hid (Below W.heap.size W X ∧ w.heap.size + 3 ≤ w2.heap.size ∧ w2.heap.size ≤ w3.heap.size ∧ w3.heap.size < X.heap.size ∧ w2.heap.size + 2 ≤ B ∧ B ≤ w3.heap.size ∧ sgsR.owns B X [.slice a1 l.length c1] l ∧ boolsS.owns B X [.slice a2 hd.length c2] hd ∧ bksR.owns (w2.heap.size + 2) X [.slice a3 op.length c3] op ∧ (∀ g, (Value.slice a3 op.length c3).ownBlock = some g → g < B) ∧ I64 nx') := ⟨hbX, hw2, hw3, hxX.lt, hB0, hB1, sgsR.obelow hSG hbX3, boolsS.obelow hBO hbX3, bksR.obelow hOP hbX3, hOB, hNX⟩
        have HXB : Hid (∀ U, Below X.heap.size X U → Box U w3.heap.size 26 #[.slice a1 l.length c1, .slice a2 hd.length c2, .slice a3 op.length c3, .int .i64 nx'] ∧ Box U (w.heap.size + 1) 97 #[.int .i64 po, .int .i64 pi, .slice x m cap] ∧ Box U (w.heap.size + 2) 26 #[.slice none 0 0, .slice none 0 0, .slice none 0 0, .int .i64 0]) := fun U hU => ⟨hxX.below hU hxX.lt, (HW.out.2.2 U (hbX.trans (hU.mono hbX.size))).2⟩
        have HS : Hid (∀ U, Box U w3.heap.size 26 #[.slice a1 l.length c1, .slice a2 hd.length c2, .slice a3 op.length c3, .int .i64 nx'] → Box U (w.heap.size + 1) 97 #[.int .i64 po, .int .i64 pi, .slice x m cap] → U.cell? ⟨w3.heap.size, 2, none⟩ = some (.slice a3 op.length c3) ∧ U.cell? ⟨w.heap.size + 1, 0, none⟩ = some (.int .i64 po) ∧ U.cell? ⟨w.heap.size + 1, 1, none⟩ = some (.int .i64 pi) ∧ U.cell? ⟨w.heap.size + 1, 2, none⟩ = some (.slice x m cap)) := fun U h1 h2 => ⟨h1.four.2.2.1, h2.three.1, h2.three.2.1, h2.three.2.2.1⟩
        have HFEW : Hid (op.length ≤ 8) := HOK.out.1.few
        have HCP : Hid (Calls Try.prog 78 #[.slice x m cap] X.drew fun e w' => (∃ v', e = .returned v' ∧ Own1 X.heap.size w' v' pd) ∧ Below X.heap.size X w') := (rcopied_any n1 (.slice x m cap) pd X.drew ((HA.out.2.1.below (below_any HW.out.1 hbX)).below (Below.refl _ _).drew) (by have := may_len HMY.out; simp only at this; omega)).mono fun e w' h => ⟨h.1, ((Below.refl _ X).drew).trans h.2⟩
        go_upto_region 8 with fail
        rw [← hX]
        clear hX hxX hbX hbX3 hW3 hw2 hw3 hSG hBO hOP hOB hNX hv1 hv2 hv3 hb3 hbw3 hB0 hB1 z0 z1 z2 z3 i0 i1 i2 i3 HCC h8i h8d
        refine AnyBut.begin (fun U => U.cell? ⟨w3.heap.size, 2, none⟩ = some (.slice a3 op.length c3) ∧ U.cell? ⟨w.heap.size + 1, 0, none⟩ = some (.int .i64 po) ∧ U.cell? ⟨w.heap.size + 1, 1, none⟩ = some (.int .i64 pi) ∧ U.cell? ⟨w.heap.size + 1, 2, none⟩ = some (.slice x m cap)) 13 (by kernel_rfl) ?_
        have hbD : Below X.heap.size X X.drew := (Below.refl _ X).drew
        have hSS := HS.out X.drew (HXB.out X.drew hbD).1 (HXB.out X.drew hbD).2.1
        refine tt 0 25 ?_ hSS ?_ ?_; rotate_left
        · intro W9 hSW; (try dsimp only at hSW); go_simp; try with_reducible rfl
        simp only [ua, ub, uc, ud]
        refine tt 1 26 ?_ hSS ?_ ?_; rotate_left
        · intro W9 hSW; (try dsimp only at hSW); go_simp; try with_reducible rfl
        simp only [ua, ub, uc, ud]
        refine tt 2 27 ?_ hSS ?_ ?_; rotate_left
        · intro W9 hSW; (try dsimp only at hSW); go_simp; try with_reducible rfl
        simp only [ua, ub, uc, ud]
        refine tt 3 28 ?_ hSS ?_ ?_; rotate_left
        · intro W9 hSW; (try dsimp only at hSW); go_simp; try with_reducible rfl
        simp only [ua, ub, uc, ud]
        refine tt 4 29 ?_ hSS ?_ ?_; rotate_left
        · intro W9 hSW; (try dsimp only at hSW); go_simp; try with_reducible rfl
        simp only [ua, ub, uc, ud]
        refine tt 5 30 ?_ hSS ?_ ?_; rotate_left
        · intro W9 hSW; (try dsimp only at hSW); go_simp; try with_reducible rfl
        simp only [ua, ub, uc, ud]
        refine tt 6 31 ?_ hSS ?_ ?_; rotate_left
        · intro W9 hSW; (try dsimp only at hSW); go_simp; try with_reducible rfl
        simp only [ua, ub, uc, ud]
        refine tt 7 32 ?_ hSS ?_ ?_; rotate_left
        · intro W9 hSW; (try dsimp only at hSW); go_simp; try with_reducible rfl
        simp only [ua, ub, uc, ud]
        refine AnyBut.step (i := 8) (by kernel_rfl) rfl (fun K hK => ?_)
        go_simp
        refine Calls.mono HCP.out ?_
        rintro e4 w4 ⟨⟨v4, rfl, ho4⟩, hb4⟩
        dsimp only
        refine hK.out _ _ (HS.out w4 (HXB.out w4 hb4).1 (HXB.out w4 hb4).2.1) ?_
        clear hK hSS
        have hSS := HS.out w4 (HXB.out w4 hb4).1 (HXB.out w4 hb4).2.1
        obtain ⟨a4, c4, hv4⟩ := ho4.shape
        subst hv4
        refine tt 9 34 ?_ hSS ?_ ?_; rotate_left
        · intro W9 hSW; (try dsimp only at hSW); go_simp; try with_reducible rfl
        simp only [ua, ub, uc, ud]
        clear hSS
        refine AnyBut.step (i := 10) (by kernel_rfl) rfl (fun K hK => ?_)
        go_simp
        have hb6 : Below X.heap.size X (w4.alloc (.cells #[.int .i64 po, .int .i64 pi, .slice a4 pd.length c4] 97)) := hb4.alloc hb4.size _
        refine hK.out _ _ (HS.out _ (HXB.out _ hb6).1 (HXB.out _ hb6).2.1) ?_
        clear hK
        obtain ⟨i3, hi3, hz30, hz31, hz32⟩ := info_parts Try.info97
        have hXs := HX.out.2.2.2.1
        have hw23 := HX.out.2.2.1
        have hB3 := HX.out.2.2.2.2.1
        have hB4 := HX.out.2.2.2.2.2.1
        have hw2 := HX.out.2.1
        have hb4s := hb4.size
        obtain ⟨g5, c5, w5, hrun, ho5, hg5, hs5⟩ := list_append bkR 24 Try.underlying24 cells24 hi3 hz30 hz31 hz32 rfl (by decide) (by decide) (bksR.obelow HX.out.2.2.2.2.2.2.2.2.1 hb4) (bk_omk (p := (po, pi, pd)) (bytesS.oweaken ho4 (by omega)) HA.out.2.2.1 HA.out.2.2.2.1) (by omega) (by have := HFEW.out; omega) (by have := HFEW.out; unfold maxLen; omega)
        obtain ⟨_, hrow⟩ : ∃ xs, w4.ownsRow (w2.heap.size + 2) 97 3 (.slice a3 op.length c3) op.length xs := by
          obtain ⟨v9, vss, hv9, hown, _⟩ := bksR.obelow HX.out.2.2.2.2.2.2.2.2.1 hb4
          obtain rfl : Value.slice a3 op.length c3 = v9 := by simpa using hv9
          exact ⟨_, hown⟩
        have hne : ∀ j, B ≤ j → some j ≠ (Value.slice a3 op.length c3).ownBlock := fun j hj he => by
          have := HX.out.2.2.2.2.2.2.2.2.2.1 j he.symm
          omega
        have hx5 := (HXB.out w4 hb4).1.grown hg5 (hne _ (by omega))
        have hy5 := (HXB.out w4 hb4).2.1.grown hg5 (row_ne hrow (by omega))
        have hz5 := (HXB.out w4 hb4).2.2.grown hg5 (row_ne hrow (by omega))
        have hbw5 : Below W.heap.size W w5 := below_row (HX.out.1.trans (hb4.mono HX.out.1.size)) (own_weaken hrow (by have := HW.out.2.1; omega)) hg5 (by have := HX.out.1.size; omega)
        have hs5w : Same B w4 w5 := fun j h1 h2 => hg5.block j h2 (hne j h1)
        have hsg5 := sgsR.osame (sgsR.obelow HX.out.2.2.2.2.2.2.1 hb4) hs5w
        have hbo5 := boolsS.osame (boolsS.obelow HX.out.2.2.2.2.2.2.2.1 hb4) hs5w
        refine AnyBut.step (i := 11) (by kernel_rfl) rfl (fun K hK => ?_)
        refine step_app rfl _ _ 24 rfl rfl rfl rfl hrun ?_
        refine hK.out _ _ (HS.out w5 hx5 hy5) ?_
        clear hK
        have hSS := HS.out w5 hx5 hy5
        refine tt 12 37 ?_ hSS ?_ ?_; rotate_left
        · intro W9 hSW; (try dsimp only at hSW); go_simp; try with_reducible rfl
        obtain ⟨z0, z1, z2, z3, j0, j1, j2, j3⟩ := hx5.four
        obtain ⟨Y, hY⟩ : ∃ Y, Y = w5.setCell ⟨w3.heap.size, 2, none⟩ (.slice (some ⟨g5, 0, none⟩) (op.length + 1) c5) := ⟨_, rfl⟩
        have hxY : Box Y w3.heap.size 26 #[.slice a1 l.length c1, .slice a2 hd.length c2, .slice (some ⟨g5, 0, none⟩) (op.length + 1) c5, .int .i64 nx'] := by rw [hY]; exact hx5.set 2 _
        have hzY : Box Y (w.heap.size + 2) 26 #[.slice none 0 0, .slice none 0 0, .slice none 0 0, .int .i64 0] := by rw [hY]; exact hz5.other (by omega)
        have HY : Hid (stR.owns (w.heap.size + 3) Y [.slice a1 l.length c1, .slice a2 hd.length c2, .slice (some ⟨g5, 0, none⟩) (op.length + 1) c5, .int .i64 nx'] (l, hd, op ++ [(po, pi, pd)], nx') ∧ Below w.heap.size w Y) := ⟨st_omkR (s := (l, hd, op ++ [(po, pi, pd)], nx')) (by rw [hY]; exact sgsR.ogrown (sgsR.oweaken hsg5 (by omega)) (grown_set _ _ _ _) (hx5.clear (by decide))) (by rw [hY]; exact boolsS.ogrown (boolsS.oweaken hbo5 (by omega)) (grown_set _ _ _ _) (hx5.clear (by decide))) (by rw [hY]; exact bksR.ogrown (bksR.oweaken ho5 (by omega)) (grown_set _ _ _ _) (hx5.clear (by decide))) HX.out.2.2.2.2.2.2.2.2.2.2, by rw [hY]; exact (below_any HW.out.1 hbw5).setCell (p := ⟨w3.heap.size, 2, none⟩) (by show w.heap.size ≤ w3.heap.size; omega) _⟩
        refine AnyBut.last (by kernel_rfl) (by kernel_rfl) rfl (fun K hK => ?_)
        go_simp
        rw [← hY]
        refine hK.out _ _ ?_
        clear hK hSS
        obtain ⟨q0, q1, q2, q3, -⟩ := hxY.four
        obtain ⟨y0, y1, y2, y3, f0, f1, f2, f3⟩ := hzY.four
        have HPE2 : Hid (∀ U, Same (w.heap.size + 3) Y U → Below w.heap.size w U → post (.returned (.tuple #[.agg #[.slice a1 l.length c1, .slice a2 hd.length c2, .slice (some ⟨g5, 0, none⟩) (op.length + 1) c5, .int .i64 nx'], .int .i64 0])) U) := fun U h1 h2 => HYES.out [_, _, _, _] U HPE.out (stR.oweaken (stR.osame HY.out.1 h1) (by omega)) h2
        have HYB : Hid (Below w.heap.size w Y) := HY.out.2
        clear hY hxY hzY HY hx5 hy5 hz5 hne hrow hrun ho5 hg5 hs5 ho4 hb4 z0 z1 z2 z3 j0 j1 j2 j3 hi3 hz30 hz31 hz32 hB3 hB4 HX HXB HS hbw5 hs5w hsg5 hbo5 hXs hw23 hw2 hb4s hb6
        go_wp2
        refine bodyPost_ret (v := .tuple #[.agg #[.slice a1 l.length c1, .slice a2 hd.length c2, .slice (some ⟨g5, 0, none⟩) (op.length + 1) c5, .int .i64 nx'], .int .i64 0]) (by simp [results, Try.results50, go_sem, *]) rfl ?_
        exact HPE2.out _ (.set4 (by omega)) (below_set4 HYB.out (by omega) _ _ _ _)

end Go.Proofs.Ytkpckadicjdieab

/-
  What the document's Seal answers, for every store.
-/
namespace Go.Proofs.Ytkpckadicjdieab
open Go.RowKit

/-- A segment in a row of its own: where it lies, and what a store makes of the row. -/
theorem sgs_setR {n : Nat} {w : World} {v : Value} {l : List Sg} (h : sgsR.owns n w [v] l) (i : Nat) (hi : i < l.length) :
    ∃ g cap, v = .slice (some ⟨g, 0, none⟩) l.length cap ∧ n ≤ g ∧ g < w.heap.size ∧ (∀ W, (Instr.indexAt 22 v (.int .i64 i)).run Try.prog W = .ok (.pointer (some ⟨g, i * 2, none⟩)) W) ∧ (∃ u0 u1, w.cell? ⟨g, i * 2, none⟩ = some u0 ∧ w.cell? ⟨g, i * 2 + 1, none⟩ = some u1) ∧ w.frozen? ⟨g, i * 2, none⟩ = false ∧ w.frozen? ⟨g, i * 2 + 1, none⟩ = false ∧
      ∀ q u bl, I64 q → bksR.owns n w [u] bl → sgsR.owns n ((w.setCell ⟨g, i * 2, none⟩ (.int .i64 q)).setCell ⟨g, i * 2 + 1, none⟩ u) [v] (l.set i (q, bl)) ∧ w.grownBy ((w.setCell ⟨g, i * 2, none⟩ (.int .i64 q)).setCell ⟨g, i * 2 + 1, none⟩ u) (some g) ∧ Clear w (some g) [4, 97, 5] := by
  obtain ⟨i0, hi0, _, hz, _⟩ := info_parts Try.info36
  obtain ⟨v', vss, hv, hC, hE⟩ := h
  obtain rfl : v = v' := by simpa using hv
  obtain ⟨g, cap, rfl⟩ : ∃ g cap, v = .slice (some ⟨g, 0, none⟩) l.length cap := by
    rcases hC.2 with ⟨_, h0⟩ | ⟨g, cap, cur, h', _⟩
    · omega
    · exact ⟨g, cap, h'⟩
  have hob : (Value.slice (some ⟨g, 0, none⟩) l.length cap).ownBlock = some g := rfl
  have hlt := hC.lt g hob
  have hsz : ∀ us ∈ vss, us.length = 2 := fun us h => by
    obtain ⟨q, _, hq⟩ := hE.left h
    exact sgR.length (sgR.olies hq)
  obtain ⟨p, hp⟩ := get_lt (l := l) (k := i) hi
  obtain ⟨us, hu, hO⟩ := hE.get hp
  obtain ⟨a, c, rfl, _⟩ := sg_ownR hO
  refine ⟨g, cap, rfl, hlt.1, hlt.2, fun W => ?_, ⟨.int .i64 p.1, .slice a p.2.length c, ?_, ?_⟩, hC.frozenAt _, hC.frozenAt _, fun q u bl hq hb => ?_⟩
  · have := run_index (size := 2) Try.underlying22 hi0 hz g 0 l.length cap i hi W
    simpa using this
  · have hc := hC.cells hob (i * 2 + 0) (.int .i64 p.1) (flat_get hsz hu rfl)
    rwa [add_plain, Nat.zero_add] at hc
  · have hc := hC.cells hob (i * 2 + 1) (.slice a p.2.length c) (flat_get hsz hu rfl)
    rwa [add_plain, Nat.zero_add] at hc
  · obtain ⟨h1, h2⟩ := hC.stored (i * 2 + 0) (.int .i64 q)
    rw [flat_set hsz hu (by omega)] at h1
    obtain ⟨h3, h4⟩ := h1.stored (i * 2 + 1) u
    rw [flat_set (us := [.int .i64 q, .slice a p.2.length c]) (fun x hx => by
      rcases List.mem_or_eq_of_mem_set hx with hx | hx
      · exact hsz x hx
      · rw [hx]; rfl) (by rw [List.getElem?_set_self (by rw [hE.length]; exact hi)]; rfl) (by omega), List.set_set] at h3
    have hg : w.grownBy ((w.setCell ⟨g, i * 2, none⟩ (.int .i64 q)).setCell ⟨g, i * 2 + 1, none⟩ u) (some g) := grown_trans h2 h4
    have hcl : ∀ ids, 36 ∉ ids → Clear w (some g) ids := fun ids h => by rw [← hob]; exact .own hC h
    have kp : ∀ x y, sgR.owns n w x y → sgR.owns n ((w.setCell ⟨g, i * 2, none⟩ (.int .i64 q)).setCell ⟨g, i * 2 + 1, none⟩ u) x y := fun x y h => sgR.ogrown h hg (hcl _ (by decide))
    refine ⟨⟨_, vss.set i [.int .i64 q, u], rfl, by rw [List.length_set]; exact h3, ?_⟩, hg, hcl _ (by decide)⟩
    refine each_of (by rw [List.length_set, List.length_set, hE.length]) fun j x y hx hy => ?_
    by_cases ej : j = i
    · subst ej
      rw [List.getElem?_set_self (by rw [hE.length]; exact hi)] at hx
      rw [List.getElem?_set_self hi] at hy
      obtain rfl := Option.some.inj hx
      obtain rfl := Option.some.inj hy
      exact kp _ _ (sg_omkR (s := (q, bl)) hb hq)
    · rw [List.getElem?_set_ne (by omega)] at hx hy
      obtain ⟨us', h5, h6⟩ := hE.get hy
      rw [hx] at h5
      obtain rfl := Option.some.inj h5
      exact kp _ _ h6

def TellsPR (k : Int) (p : Nat) (s' : St) (w : World) (e : Ending) (w' : World) : Prop := (∃ us', e = .returned (.tuple #[.agg us'.toArray, .int .i64 p, .int .i64 k]) ∧ stR.owns w.heap.size w' us' s') ∧ Below w.heap.size w w'

set_option maxRecDepth 100000 in
set_option maxHeartbeats 8000000 in
theorem rseal_any (n0 : Nat) (us : List Value) (s : St) (w : World) (h : stR.lies n0 w us s) :
    Calls Try.prog 49 #[.agg us.toArray] w (TellsPR (sE s) (sP s) (sS s) w) := by
  obtain ⟨a, c, b, d, e, f, rfl, hS, hH, hO, hN, m1, m2, m3⟩ := st_viewR h
  obtain ⟨post, hpost⟩ : ∃ post : Ending → World → Prop, post = TellsPR (sE s) (sP s) (sS s) w := ⟨_, rfl⟩
  have HNO : Hid (∀ k w', sE s = k → k ≠ 0 → Below w.heap.size w w' → post (.returned (.tuple #[.agg #[.slice none 0 0, .slice none 0 0, .slice none 0 0, .int .i64 0], .int .i64 0, .int .i64 k])) w') := fun k w' e1 e2 e3 => by
    rw [hpost]
    refine ⟨⟨_, by unfold sP; rw [e1, if_neg e2]; rfl, ?_⟩, e3⟩
    unfold sS
    rw [if_neg (by rw [e1]; exact e2)]
    exact s0_ownsR _ _
  have HYES : Hid (∀ (lo : Nat) us' w', sE s = 0 → lowAt s.1 s.2.1 = lo → stR.owns w.heap.size w' us' (s.1.set lo (s.2.2.2, s.2.2.1), s.2.1, [], s.2.2.2 + 1) → Below w.heap.size w w' → post (.returned (.tuple #[.agg us'.toArray, .int .i64 lo, .int .i64 0])) w') := fun lo us' w' e1 e0 e2 e3 => by
    rw [hpost]
    refine ⟨⟨us', by unfold sP; rw [e1, if_pos rfl, e0], ?_⟩, e3⟩
    unfold sS
    rw [if_pos e1, e0]
    exact e2
  rw [← hpost]
  clear hpost
  unfold maxLen at m1
  obtain ⟨n, hn⟩ : ∃ n, n = s.1.length := ⟨_, rfl⟩
  obtain ⟨nh, hnh⟩ : ∃ n, n = s.2.1.length := ⟨_, rfl⟩
  obtain ⟨no, hno⟩ : ∃ n, n = s.2.2.1.length := ⟨_, rfl⟩
  obtain ⟨nx, hnx⟩ : ∃ n, n = s.2.2.2 := ⟨_, rfl⟩
  rw [← hn, ← hnh, ← hno, ← hnx] at h ⊢
  rw [← hn] at hS m1
  rw [← hnh] at hH
  obtain ⟨W, hW⟩ : ∃ W, W = (w.alloc (.cells #[.slice a n c, .slice b nh d, .slice e no f, .int .i64 nx] 26)).alloc (.cells #[.slice none 0 0, .slice none 0 0, .slice none 0 0, .int .i64 0] 26) := ⟨_, rfl⟩
  have hbW : Below w.heap.size w W := by rw [hW]; exact ((Below.refl _ w).alloc (Nat.le_refl _) _).alloc (by simp) _
  have hB1 : Box W w.heap.size 26 #[.slice a n c, .slice b nh d, .slice e no f, .int .i64 nx] := by rw [hW]; exact (Box.new _ _ _).alloc _
  have hB2 : Box W (w.heap.size + 1) 26 #[.slice none 0 0, .slice none 0 0, .slice none 0 0, .int .i64 0] := by
    rw [hW]
    have := Box.new (w.alloc (.cells #[.slice a n c, .slice b nh d, .slice e no f, .int .i64 nx] 26)) 26 #[.slice none 0 0, .slice none 0 0, .slice none 0 0, .int .i64 0]
    rwa [World.size_alloc] at this
  have HC := rcheckL_any n0 [.slice a n c, .slice b nh d, .slice e no f, .int .i64 nx] s W (stR.below h hbW)
  have HW : Hid (Below w.heap.size w W ∧ W.heap.size = w.heap.size + 2 ∧ ∀ V, Below W.heap.size W V → Box V w.heap.size 26 #[.slice a n c, .slice b nh d, .slice e no f, .int .i64 nx] ∧ Box V (w.heap.size + 1) 26 #[.slice none 0 0, .slice none 0 0, .slice none 0 0, .int .i64 0]) := ⟨hbW, by rw [hW]; simp, fun V hV => ⟨hB1.below hV hB1.lt, hB2.below hV hB2.lt⟩⟩
  have HA : Hid (stR.lies n0 w [.slice a n c, .slice b nh d, .slice e no f, .int .i64 nx] s ∧ no = s.2.2.1.length ∧ nx = s.2.2.2 ∧ I64 nx ∧ sgsR.lies n0 w [.slice a n c] s.1 ∧ boolsS.lies n0 w [.slice b nh d] s.2.1 ∧ n = s.1.length ∧ nh = s.2.1.length) := ⟨h, hno, hnx, by rw [hnx]; exact hN, hS, hH, hn, hnh⟩
  have hl1 := run_len Try.underlying22 a n c
  have hl3 := run_len Try.underlying24 e no f
  obtain ⟨g0, g1, g2, g3, -⟩ := hB1.four
  rw [hW] at g0 g1 g2 g3
  clear h hS hH hO hN m2 m3 hbW hB1 hB2 hn hnh hno hnx
  go_enter Try.func49, Try.ntmps49
  go_wp2_with fail
  rw [← hW]
  clear hW g0 g1 g2 g3
  refine HC.mono ?_
  rintro e1 w1 ⟨rfl, hb1⟩
  obtain ⟨hx1, hx3⟩ := HW.out.2.2 w1 hb1
  have HB1 : Hid (Below W.heap.size W w1) := hb1
  obtain ⟨y0, y1, y2, y3, j0, j1, j2, j3⟩ := hx3.four
  obtain ⟨q0, q1, q2, q3, -⟩ := hx1.four
  rcases okE_cases s with ⟨hk, hok⟩ | ⟨hk, hok⟩
  case inr =>
    rw [hk]
    have HE := HNO.out 9 ((((w1.setCell ⟨w.heap.size + 1, 0, none⟩ (.slice none 0 0)).setCell ⟨w.heap.size + 1, 1, none⟩ (.slice none 0 0)).setCell ⟨w.heap.size + 1, 2, none⟩ (.slice none 0 0)).setCell ⟨w.heap.size + 1, 3, none⟩ (.int .i64 0)) (by
      have : okB s = false := by cases hb : okB s with | false => rfl | true => exact absurd (ok_iff.1 hb) hok
      unfold sE; rw [if_pos this]) (by decide) (below_set4 (below_any HW.out.1 hb1) (by omega) _ _ _ _)
    have HE : Hid _ := HE
    clear hb1 hx1 hx3 hok hk
    go_wp2
    refine bodyPost_ret (v := .tuple #[.agg #[.slice none 0 0, .slice none 0 0, .slice none 0 0, .int .i64 0], .int .i64 0, .int .i64 9]) (by simp [results, Try.results49, go_sem, *]) rfl HE.out
  case inl =>
    rw [hk]
    have HOK : Hid (Ok s ∧ okB s = true) := ⟨hok, ok_iff.2 hok⟩
    clear hk hok hx1 hb1 hx3
    by_cases h0 : no = 0
    · have HE := HNO.out 71 ((((w1.setCell ⟨w.heap.size + 1, 0, none⟩ (.slice none 0 0)).setCell ⟨w.heap.size + 1, 1, none⟩ (.slice none 0 0)).setCell ⟨w.heap.size + 1, 2, none⟩ (.slice none 0 0)).setCell ⟨w.heap.size + 1, 3, none⟩ (.int .i64 0)) (by unfold sE; rw [if_neg (by rw [HOK.out.2]; simp), if_pos (by rw [← HA.out.2.1]; exact h0)]) (by decide) (below_set4 (below_any HW.out.1 HB1.out) (by omega) _ _ _ _)
      have HE : Hid _ := HE
      subst h0
      go_wp2
      refine bodyPost_ret (v := .tuple #[.agg #[.slice none 0 0, .slice none 0 0, .slice none 0 0, .int .i64 0], .int .i64 0, .int .i64 71]) (by simp [results, Try.results49, go_sem, *]) rfl HE.out
    · have h0i : ((no : Int) == 0) = false := by simp; omega
      have h0j : ¬ (no : Int) = 0 := by omega
      have H0 : Hid (¬ s.2.2.1.length = 0) := show ¬ _ by rw [← HA.out.2.1]; exact h0
      clear h0
      by_cases hmx : 1099511627776 ≤ nx
      · have HE := HNO.out 51 ((((w1.setCell ⟨w.heap.size + 1, 0, none⟩ (.slice none 0 0)).setCell ⟨w.heap.size + 1, 1, none⟩ (.slice none 0 0)).setCell ⟨w.heap.size + 1, 2, none⟩ (.slice none 0 0)).setCell ⟨w.heap.size + 1, 3, none⟩ (.int .i64 0)) (by unfold sE; rw [if_neg (by rw [HOK.out.2]; simp), if_neg H0.out, if_pos (.inr (by rw [← HA.out.2.2.1]; exact hmx))]) (by decide) (below_set4 (below_any HW.out.1 HB1.out) (by omega) _ _ _ _)
        have HE : Hid _ := HE
        go_wp2
        refine bodyPost_ret (v := .tuple #[.agg #[.slice none 0 0, .slice none 0 0, .slice none 0 0, .int .i64 0], .int .i64 0, .int .i64 51]) (by simp [results, Try.results49, go_sem, *]) rfl HE.out
      · have hmd : decide ((1099511627776 : Int) ≤ nx) = false := decide_eq_false hmx
        have HNX : Hid (nx < 1099511627776 ∧ 1 ≤ nx) := ⟨by omega, by have := HOK.out.1.next.1; have := HA.out.2.2.1; omega⟩
        go_wp2
        clear y0 y1 y2 y3 j0 j1 j2 j3 q0 q1 q2 q3 hmd h0i h0j
        go_loopw [5] (fun i wr => ∃ k : Nat, k ≤ n ∧ i = .int .i64 k ∧ Hid ((∀ j, j < k → tst s.1 s.2.1 j = false) ∧ Below W.heap.size W wr)) (fun i _ => n - (intOf i).toNat)
        case atStart => exact ⟨0, Nat.zero_le _, rfl, fun j hj => by omega, HB1.out⟩
        case round =>
          obtain ⟨k, hk, rfl, HJ⟩ := hrel
          obtain ⟨q0, q1, q2, q3, -⟩ := ((HW.out.2.2 wr HJ.out.2).1).four
          by_cases hlt : k < n
          · obtain ⟨p, hp⟩ := get_lt (l := s.1) (k := k) (by rw [← HA.out.2.2.2.2.2.2.1]; exact hlt)
            obtain ⟨x, hx⟩ := get_lt (l := s.2.1) (k := k) (by have := HOK.out.1.held; have := HA.out.2.2.2.2.2.2.1; omega)
            have hbr := below_any HW.out.1 HJ.out.2
            obtain ⟨pb, po, xx, cap, hix, c0, c1, hL, _⟩ := sgs_atR (sgsR.below HA.out.2.2.2.2.1 hbr) k p hp
            obtain ⟨hb, ho, hix2, _, hc⟩ := bools_at HA.out.2.2.2.2.2.1 k x hx
            have hki : (k : Int) < (n : Int) := by omega
            have HT : Hid (tst s.1 s.2.1 k = (freeB p && !x)) := tst_at hp hx
            obtain ⟨q, pl⟩ := p
            simp only at c0 c1
            obtain ⟨m, hm⟩ : ∃ m, m = pl.length := ⟨_, rfl⟩
            rw [← hm] at c1
            have HCF := rfree_any q xx m cap wr
            have HFR : Hid (freeB (q, pl) = (decide (q = 0) && decide (m = 0))) := by show freeB _ = _; rw [hm]; rfl
            obtain ⟨fr, hfr⟩ : ∃ fr, fr = freeB (q, pl) := ⟨_, rfl⟩
            rw [← HFR.out, ← hfr] at HCF
            rw [← hfr] at HT
            have HV : Hid (∀ U, Below W.heap.size W U → (U.cell? ⟨w.heap.size, 0, none⟩ = some (.slice a n c) ∧ U.cell? ⟨w.heap.size, 1, none⟩ = some (.slice b nh d) ∧ U.cell? ⟨w.heap.size, 2, none⟩ = some (.slice e no f) ∧ U.cell? ⟨w.heap.size, 3, none⟩ = some (.int .i64 nx)) ∧ U.cell? ⟨hb, ho, none⟩ = some (.bool x)) := fun U hU => by
              have h1 := (HW.out.2.2 U hU).1.four
              exact ⟨⟨h1.1, h1.2.1, h1.2.2.1, h1.2.2.2.1⟩, by rw [(below_any HW.out.1 hU).cell (cell_lt hc)]; exact hc⟩
            clear hp hx hL hbr hm hfr HFR hc
            cases fr with
            | false =>
              go_wp2_with fail
              refine HCF.mono ?_
              rintro e2 w2 ⟨rfl, hb2⟩
              have HJ2 : Hid ((∀ j, j < k + 1 → tst s.1 s.2.1 j = false) ∧ Below W.heap.size W w2) := ⟨fun j hj => by
                by_cases ej : j = k
                · rw [ej, HT.out]; rfl
                · exact HJ.out.1 j (by omega), HJ.out.2.trans (hb2.mono HJ.out.2.size)⟩
              clear hb2 q0 q1 q2 q3 hix2 hix c0 c1
              go_wp2
              go_roundw
              case rel => exact ⟨k + 1, by omega, by go_num, HJ2.out⟩
              case measure => simp [intOf]; omega
            | true =>
              cases x with
              | true =>
                go_wp2_with fail
                refine HCF.mono ?_
                rintro e2 w2 ⟨rfl, hb2⟩
                have hbw := HJ.out.2.trans (hb2.mono HJ.out.2.size)
                obtain ⟨⟨z0, z1, z2', z3⟩, z4⟩ := HV.out w2 hbw
                have HJ2 : Hid ((∀ j, j < k + 1 → tst s.1 s.2.1 j = false) ∧ Below W.heap.size W w2) := ⟨fun j hj => by
                  by_cases ej : j = k
                  · rw [ej, HT.out]; rfl
                  · exact HJ.out.1 j (by omega), hbw⟩
                clear hb2 q0 q1 q2 q3 hbw hix c0 c1
                go_wp2
                go_roundw
                case rel => exact ⟨k + 1, by omega, by go_num, HJ2.out⟩
                case measure => simp [intOf]; omega
              | false =>
                go_wp2_with fail
                refine HCF.mono ?_
                rintro e2 w2 ⟨rfl, hb2⟩
                have hbw := HJ.out.2.trans (hb2.mono HJ.out.2.size)
                obtain ⟨⟨z0, z1, z2', z3⟩, z4⟩ := HV.out w2 hbw
                have HB2 : Hid (Below W.heap.size W w2) := hbw
                have HLO : Hid (lowAt s.1 s.2.1 = k ∧ k < s.1.length) := ⟨low_at HJ.out.1 (by rw [HT.out]; rfl), by have := HA.out.2.2.2.2.2.2.1; omega⟩
                have HSE : Hid (sE s = 0) := by
                  show sE s = 0
                  unfold sE
                  rw [if_neg (by rw [HOK.out.2]; simp), if_neg H0.out, if_neg (by have := HNX.out; have := HLO.out; have := HA.out.2.2.1; omega)]
                have HCC := rownL_any n0 [.slice a n c, .slice b nh d, .slice e no f, .int .i64 nx] s w2 (stR.below HA.out.1 (below_any HW.out.1 hbw)) HOK.out.1.fits
                clear hb2 q0 q1 q2 q3 hbw hix c0 c1
                go_wp2_with fail
                refine HCC.mono ?_
                rintro e3 w3 ⟨⟨us3, rfl, ho3⟩, hb3⟩
                replace ho3 := ho3.owns
                obtain ⟨l, hd, op, nx'⟩ := s
                obtain ⟨u1, u2, u3, u4, h5⟩ : ∃ v1 v2 v3, us3 = [v1, v2, v3, .int .i64 nx'] ∧ sgsR.owns (w2.heap.size + 2) w3 [v1] l ∧ boolsS.owns (w2.heap.size + 2) w3 [v2] hd ∧ bksR.owns (w2.heap.size + 2) w3 [v3] op ∧ I64 nx' := by
                  obtain ⟨p1, r, rfl, h1, p2, r2, rfl, h2, p3, r3, rfl, h3, rfl, h4⟩ := ho3
                  obtain ⟨_, _, _, rfl, _⟩ := Shape.list_own (S := sgR) (ht := Try.underlying22) (hc := cells22) h1
                  obtain ⟨_, _, rfl, _⟩ := Leaf.row_len (L := bL) (ht := Try.underlying23) (hc := cells23) (boolsS.olies h2)
                  obtain ⟨_, _, _, rfl, _⟩ := Shape.list_own (S := bkR) (ht := Try.underlying24) (hc := cells24) h3
                  exact ⟨_, _, _, rfl, h1, h2, h3, bounds_i64 h4⟩
                obtain ⟨hs1, hs2, hs3, hI⟩ := h5
                subst u4
                obtain ⟨a1, c1, _, hv1, -⟩ := Shape.list_own (S := sgR) (ht := Try.underlying22) (hc := cells22) hs1
                obtain ⟨a2, c2, hv2, -⟩ := Leaf.row_len (L := bL) (ht := Try.underlying23) (hc := cells23) (boolsS.olies hs2)
                obtain ⟨a3, c3, _, hv3, -⟩ := Shape.list_own (S := bkR) (ht := Try.underlying24) (hc := cells24) hs3
                obtain rfl : u1 = _ := (List.cons.inj hv1).1
                obtain rfl : u2 = _ := (List.cons.inj hv2).1
                obtain rfl : u3 = _ := (List.cons.inj hv3).1
                have hbw3 : Below W.heap.size W w3 := HB2.out.trans (hb3.mono HB2.out.size)
                obtain ⟨hx1, hx3⟩ := HW.out.2.2 w3 hbw3
                obtain ⟨X, hX⟩ : ∃ X, X = w3.alloc (.cells #[.slice a1 l.length c1, .slice a2 hd.length c2, .slice a3 op.length c3, .int .i64 nx'] 26) := ⟨_, rfl⟩
                have hbX3 : Below w3.heap.size w3 X := by rw [hX]; exact (Below.refl _ _).alloc (Nat.le_refl _) _
                have hxX : Box X w3.heap.size 26 #[.slice a1 l.length c1, .slice a2 hd.length c2, .slice a3 op.length c3, .int .i64 nx'] := by rw [hX]; exact Box.new _ _ _
                have hsX := hx1.below hbX3 hx1.lt
                have hzX := hx3.below hbX3 hx3.lt
                have hbX : Below w.heap.size w X := below_any HW.out.1 (hbw3.trans (hbX3.mono hbw3.size))
                have hW2 := HW.out.2.1
                have hw2 : w.heap.size + 2 ≤ w2.heap.size := by have := HB2.out.size; omega
                have hw3 := hb3.size
                have hg1 := sgsR.obelow hs1 hbX3
                have hg2 := boolsS.obelow hs2 hbX3
                have hg3 := bksR.obelow hs3 hbX3
                obtain ⟨g, cap', hv, hgB, hgl, hixx, ⟨u0', u1', cc0, cc1⟩, ff0, ff1, hst⟩ := sgs_setR hg1 k HLO.out.2
                have hgg : g < w3.heap.size := by
                  obtain ⟨gL, _, hgL0, _, hgL, _⟩ := sgs_setR hs1 k HLO.out.2
                  have h9 := hgL0.symm.trans hv
                  simp only [Value.slice.injEq, Option.some.injEq, Addr.mk.injEq, and_true, true_and] at h9
                  omega
                obtain ⟨rfl, rfl⟩ : a1 = some ⟨g, 0, none⟩ ∧ c1 = cap' := by simpa using hv
                obtain ⟨hY1, hYg, hcl⟩ := hst nx' (.slice a3 op.length c3) op hI hg3
                obtain ⟨Y, hY⟩ : ∃ Y, Y = (X.setCell ⟨g, k * 2, none⟩ (.int .i64 nx')).setCell ⟨g, k * 2 + 1, none⟩ (.slice a3 op.length c3) := ⟨_, rfl⟩
                rw [← hY] at hY1 hYg
                have hxY := hxX.grown hYg (by simp; omega)
                have hzY := hzX.grown hYg (by simp; omega)
                have hbY : Below w.heap.size w Y := by rw [hY]; exact (hbX.setCell (p := ⟨g, k * 2, none⟩) (by show w.heap.size ≤ g; omega) _).setCell (p := ⟨g, k * 2 + 1, none⟩) (by show w.heap.size ≤ g; omega) _
                have hY2 := boolsS.ogrown hg2 hYg (hcl.sub (fun x hx => by
                  have : x = 4 := List.mem_singleton.1 hx
                  rw [this]; simp))
                have HY : Hid (sgsR.owns (w2.heap.size + 2) Y [.slice (some ⟨g, 0, none⟩) l.length c1] (l.set k (nx', op)) ∧ boolsS.owns (w2.heap.size + 2) Y [.slice a2 hd.length c2] hd ∧ Below w.heap.size w Y ∧ Box Y w3.heap.size 26 #[.slice (some ⟨g, 0, none⟩) l.length c1, .slice a2 hd.length c2, .slice a3 op.length c3, .int .i64 nx'] ∧ Box Y (w.heap.size + 1) 26 #[.slice none 0 0, .slice none 0 0, .slice none 0 0, .int .i64 0] ∧ w.heap.size + 2 ≤ w2.heap.size ∧ w2.heap.size ≤ w3.heap.size) := ⟨hY1, hY2, hbY, hxY, hzY, hw2, hw3⟩
                obtain ⟨s0', s1', s2', s3', -⟩ := hxX.four
                obtain ⟨t0', t1', t2', t3', -⟩ := hsX.four
                have hnx1 : nx = nx' := HA.out.2.2.1
                subst hnx1
                go_upto_region 12 with fail
                rw [← hX]
                clear hX hxX hsX hzX hbX hW2 hw2 hg1 hg2 hg3 hst hcl hY1 hYg hxY hzY hbY hY2 hs1 hs2 hs3 hb3 hbw3 hx1 hx3 HCC z0 z1 z2' z3 z4 hgg hbX3 hw3
                go_upto_region 13 with fail
                rw [← hY]
                clear hY cc0 cc1 ff0 ff1 hixx s0' s1' s2' s3' t0' t1' t2' t3'
                obtain ⟨x0, x1, x2, x3, p0, p1, p2, p3⟩ := HY.out.2.2.2.1.four
                obtain ⟨Y2, hY2⟩ : ∃ Y2, Y2 = Y.setCell ⟨w3.heap.size, 2, none⟩ (.slice none 0 0) := ⟨_, rfl⟩
                obtain ⟨Z, hZ⟩ : ∃ Z, Z = Y2.setCell ⟨w3.heap.size, 3, none⟩ (.int .i64 (nx + 1)) := ⟨_, rfl⟩
                have hw9 := HY.out.2.2.2.2.2
                have hxY2 : Box Y2 w3.heap.size 26 #[.slice (some ⟨g, 0, none⟩) l.length c1, .slice a2 hd.length c2, .slice none 0 0, .int .i64 nx] := by rw [hY2]; exact HY.out.2.2.2.1.set 2 _
                have hxZ : Box Z w3.heap.size 26 #[.slice (some ⟨g, 0, none⟩) l.length c1, .slice a2 hd.length c2, .slice none 0 0, .int .i64 (nx + 1)] := by rw [hZ]; exact hxY2.set 3 _
                have hzZ : Box Z (w.heap.size + 1) 26 #[.slice none 0 0, .slice none 0 0, .slice none 0 0, .int .i64 0] := by rw [hZ, hY2]; exact (HY.out.2.2.2.2.1.other (by omega)).other (by omega)
                have hbZ : Below w.heap.size w Z := by rw [hZ, hY2]; exact (HY.out.2.2.1.setCell (p := ⟨w3.heap.size, 2, none⟩) (by show w.heap.size ≤ w3.heap.size; omega) _).setCell (p := ⟨w3.heap.size, 3, none⟩) (by show w.heap.size ≤ w3.heap.size; omega) _
                have hzown : stR.owns (w.heap.size + 2) Z [.slice (some ⟨g, 0, none⟩) l.length c1, .slice a2 hd.length c2, .slice none 0 0, .int .i64 (nx + 1)] (l.set k (nx, op), hd, [], nx + 1) := st_omkR (s := (l.set k (nx, op), hd, [], nx + 1)) (sgsR.oweaken (by rw [hZ]; exact sgsR.ogrown (by rw [hY2]; exact sgsR.ogrown HY.out.1 (grown_set _ _ _ _) (HY.out.2.2.2.1.clear (by decide))) (grown_set _ _ _ _) (hxY2.clear (by decide))) (by omega)) (boolsS.oweaken (by rw [hZ]; exact boolsS.ogrown (by rw [hY2]; exact boolsS.ogrown HY.out.2.1 (grown_set _ _ _ _) (HY.out.2.2.2.1.clear (by decide))) (grown_set _ _ _ _) (hxY2.clear (by decide))) (by omega)) (Shape.list_nil bkR 24 Try.underlying24 cells24 _ _) ⟨by have := HNX.out; show _ ≤ nx + 1; omega, by have := HNX.out; show nx + 1 ≤ _; omega⟩
                have HEND : Hid (∀ U, Same (w.heap.size + 2) Z U → Below w.heap.size w U → post (.returned (.tuple #[.agg #[.slice (some ⟨g, 0, none⟩) l.length c1, .slice a2 hd.length c2, .slice none 0 0, .int .i64 (nx + 1)], .int .i64 k, .int .i64 0])) U) := fun U h1 h2 => HYES.out k [_, _, _, _] U HSE.out HLO.out.1 (stR.oweaken (stR.osame hzown h1) (by omega)) h2
                have HBZ : Hid (Below w.heap.size w Z) := hbZ
                obtain ⟨q0, q1, q2, q3, -⟩ := hxZ.four
                obtain ⟨y0, y1, y2, y3, f0, f1, f2, f3⟩ := hzZ.four
                have hn1 := HNX.out
                go_upto_region 14 with fail
                rw [← hY2]
                clear hY2 x0 x1 x2 x3 p0 p1 p2 p3
                obtain ⟨x0, x1, x2, x3, p0, p1, p2, p3⟩ := hxY2.four
                go_upto_region 15 with fail
                rw [← hZ]
                clear hZ hxZ hzZ hbZ hzown hxY2 x0 x1 x2 x3 p0 p1 p2 p3 HY
                go_wp2
                refine bodyPost_ret (v := .tuple #[.agg #[.slice (some ⟨g, 0, none⟩) l.length c1, .slice a2 hd.length c2, .slice none 0 0, .int .i64 (nx + 1)], .int .i64 k, .int .i64 0]) (by simp [results, Try.results49, go_sem, *]) rfl ?_
                exact HEND.out _ (.set4 (by omega)) (below_set4 HBZ.out (by omega) _ _ _ _)
          · obtain rfl : k = n := by omega
            have HE := HNO.out 51 ((((wr.setCell ⟨w.heap.size + 1, 0, none⟩ (.slice none 0 0)).setCell ⟨w.heap.size + 1, 1, none⟩ (.slice none 0 0)).setCell ⟨w.heap.size + 1, 2, none⟩ (.slice none 0 0)).setCell ⟨w.heap.size + 1, 3, none⟩ (.int .i64 0)) (by unfold sE; rw [if_neg (by rw [HOK.out.2]; simp), if_neg H0.out, if_pos (.inl (by rw [low_none HOK.out.1.held (by rw [← HA.out.2.2.2.2.2.2.1]; exact HJ.out.1)]; exact Nat.le_refl _))]) (by decide) (below_set4 (below_any HW.out.1 HJ.out.2) (by omega) _ _ _ _)
            have HE : Hid _ := HE
            obtain ⟨y0, y1, y2, y3, j0, j1, j2, j3⟩ := ((HW.out.2.2 wr HJ.out.2).2).four
            go_wp2
            refine bodyPost_ret (v := .tuple #[.agg #[.slice none 0 0, .slice none 0 0, .slice none 0 0, .int .i64 0], .int .i64 0, .int .i64 51]) (by simp [results, Try.results49, go_sem, *]) rfl HE.out

end Go.Proofs.Ytkpckadicjdieab

/-
  What the document's Free answers.
-/
namespace Go.Proofs.Ytkpckadicjdieab
open Go.RowKit


end Go.Proofs.Ytkpckadicjdieab

/-
  Plain mathematics: which numbers a cleaning answers.
-/
namespace Go.Proofs.Ytkpckadicjdieab

theorem sE_some {t : St} (h : Ok t) (hn : t.2.2.1 ≠ []) : sE t = 0 ∨ sE t = 51 := by
  unfold sE
  rw [if_neg (by rw [ok_iff.2 h]; decide), if_neg (fun c => hn (List.eq_nil_of_length_eq_zero c))]
  split
  · exact .inr rfl
  · exact .inl rfl
theorem ptE_some {t : St} {b : Bk} (h : Ok t) (hb : mayB b = true) : (ptE t b = 0 ∧ Ok (ptS t b) ∧ (ptS t b).2.2.1 ≠ []) ∨ ptE t b = 51 := by
  rcases ptE_is h hb with ⟨_, h1, h2, h3⟩ | ⟨_, h0, h1, h2, h3⟩ | ⟨h4, h0, h1, _⟩
  · refine .inl ⟨h1, by rw [h3]; exact pS_ok h2, ?_⟩
    rw [h3]
    unfold pS
    rw [if_pos h2]
    simp
  · refine .inl ⟨h1, by rw [h3]; exact pS_ok h2, ?_⟩
    rw [h3]
    unfold pS
    rw [if_pos h2]
    simp
  · rcases sE_some h (fun c => by rw [c] at h4; simp at h4) with c | c
    · exact absurd c h0
    · exact .inr (h1.trans c)
theorem mv_some : ∀ (l : List Bk) (t : St), Ok t → (∀ b ∈ l, mayB b = true) → (mvE l t = 0 ∧ Ok (mvS l t) ∧ (l ≠ [] → (mvS l t).2.2.1 ≠ [])) ∨ mvE l t = 51
  | [], t, h, _ => .inl ⟨rfl, h, fun c => absurd rfl c⟩
  | b :: l, t, h, hm => by
    rcases ptE_some h (hm b (List.mem_cons_self ..)) with ⟨h1, h2, h3⟩ | h1
    · unfold mvE mvS
      rw [if_pos h1, if_pos h1]
      rcases mv_some l (ptS t b) h2 (fun c hc => hm c (List.mem_cons_of_mem _ hc)) with ⟨k1, k2, k3⟩ | k1
      · refine .inl ⟨k1, k2, fun _ => ?_⟩
        by_cases hl : l = []
        · subst hl; exact h3
        · exact k3 hl
      · exact .inr k1
    · right
      unfold mvE
      rw [if_neg (by rw [h1]; decide)]
      exact h1
theorem mov_some {s : St} {p : Sg} {i : Nat} (h : Ok s) (hp : s.1[i]? = some p) : movE (lvs s p.1 p.2) s = 0 ∨ movE (lvs s p.1 p.2) s = 51 := by
  unfold movE
  by_cases c : lvs s p.1 p.2 = []
  · rw [if_pos c]; exact .inl rfl
  · rw [if_neg c]
    rcases mv_some (lvs s p.1 p.2) s h (fun b hb => (live_may h hp hb).1) with ⟨k1, k2, k3⟩ | k1
    · rw [if_pos k1]; exact sE_some k2 (k3 c)
    · rw [if_neg (by rw [k1]; decide)]; exact .inr k1
theorem cl_cases (s : St) (k q : Int) : (¬ Ok s ∧ clE s k q = 9) ∨ (Ok s ∧ clE s k q = 71 ∧ (k < 0 ∨ (s.1.length : Int) ≤ k ∨ ∃ (i : Nat) (p : Sg), k = i ∧ i < s.1.length ∧ s.1[i]? = some p ∧ p.1 = 0)) ∨
    (Ok s ∧ ∃ (i : Nat) (p : Sg), k = i ∧ i < s.1.length ∧ s.1[i]? = some p ∧ p.1 ≠ 0 ∧ ((p.1 ≠ q ∧ clE s k q = 81) ∨ (p.1 = q ∧ (clE s k q = 0 ∨ clE s k q = 51)))) := by
  by_cases h : Ok s
  case neg =>
    left
    refine ⟨h, ?_⟩
    have : uE s k = 9 := by
      unfold uE
      rw [if_pos (by cases hb : okB s with | false => rfl | true => exact absurd (ok_iff.1 hb) h)]
    unfold clE
    rw [if_neg (by rw [this]; decide)]
    exact this
  right
  cases hu : usedB s k
  · left
    have h1 : uE s k = 71 := by unfold uE; rw [if_neg (by rw [ok_iff.2 h]; decide), if_pos hu]
    refine ⟨h, by unfold clE; rw [if_neg (by rw [h1]; decide)]; exact h1, ?_⟩
    by_cases h2 : k < 0
    · exact .inl h2
    · by_cases h3 : (s.1.length : Int) ≤ k
      · exact .inr (.inl h3)
      · obtain ⟨p, hp⟩ := get_lt (l := s.1) (k := k.toNat) (by omega)
        refine .inr (.inr ⟨k.toNat, p, by omega, by omega, hp, ?_⟩)
        unfold usedB at hu
        rw [hp] at hu
        simp only [Option.map_some, Option.getD_some, Bool.and_eq_false_iff, decide_eq_false_iff_not, Bool.not_eq_false'] at hu
        rcases hu with c | c
        · omega
        · exact (free_iff.1 c).1
  · right
    have h1 : uE s k = 0 := by unfold uE; rw [if_neg (by rw [ok_iff.2 h]; decide), if_neg (by rw [hu]; decide)]
    obtain ⟨_, i, p, rfl, hi, hp, e, hf⟩ := uE_zero h1
    have h0 := (h.each p (List.mem_of_getElem? hp) hf).1.1.1
    refine ⟨h, i, p, rfl, hi, hp, by omega, ?_⟩
    unfold clE
    rw [if_pos h1, e]
    by_cases hq : p.1 = q
    · right
      rw [if_pos hq]
      have hl : lL s (i : Int) = lvs s p.1 p.2 := by unfold lL; rw [if_pos h1, e]
      rw [hl]
      exact ⟨hq, mov_some h hp⟩
    · left
      rw [if_neg hq]
      exact ⟨hq, rfl⟩

end Go.Proofs.Ytkpckadicjdieab
