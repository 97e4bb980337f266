/-
  What the document's Join answers: the same as the program's.
-/
import Derived.Test.YthlfgpnabcplnaaGreatDoorTe27
import Derived.Deep.RegionHeld3
import Derived.Deep.DrawnRows
namespace Go.Proofs.YthlfgpnabcplnaaGreatDoor.W
open Go.RowKit

attribute [local go_sem ↓] Go.wp_at_zero Go.wp_at_succ

set_option maxRecDepth 100000 in
set_option maxHeartbeats 4000000 in
theorem rjoin_any (n0 : Nat) (v : Value) (l : List (List Int)) (w : World) (h : textsS.lies n0 w [v] l) :
    Calls Tryz.prog 33 #[v] w fun e w' => (∃ a c, e = .returned (.tuple #[.slice a (joinO l).length c, .int .i64 (joinE l)]) ∧ Own1 w.heap.size w' (.slice a (joinO l).length c) (joinO l)) ∧ Below w.heap.size w w' := by
  obtain ⟨i0, hi, hz0, hz1, hz2⟩ := info_parts Tryz.info5
  obtain ⟨a, c, hv, _, hmx, _⟩ := texts_len h
  obtain rfl : v = _ := by simpa using hv
  unfold maxLen at hmx
  obtain ⟨je, hje⟩ : ∃ y, y = joinE l := ⟨_, rfl⟩
  obtain ⟨JO, hJO⟩ : ∃ y, y = joinO l := ⟨_, rfl⟩
  have HJ : Hid (je = if 4096 < l.length then 3 else if tooLong 65535 l then 5 else 0) := hje
  have HJO : Hid (JO = if je = 0 then laidJ l else []) := by show _ = _; rw [hJO, hje]; rfl
  rw [← hje, ← hJO]
  have HD : Hid (textsS.lies n0 w [.slice a l.length c] l ∧ ∀ t ∈ l, Oc t) := ⟨h, texts_oct h⟩
  obtain ⟨n, hn⟩ : ∃ n, n = l.length := ⟨_, rfl⟩
  have HN : Hid (n = l.length) := hn
  rw [← hn] at HJ HD hmx ⊢
  have hln := run_len Tryz.underlying44 a n c
  clear h hv hn hje hJO
  by_cases h4 : 4096 < n
  · have h4i : (4096 : Int) < (n : Int) := by omega
    have hje : je = 3 := by rw [HJ.out, if_pos h4]
    subst hje
    have HX : Hid (JO = []) := HJO.out
    clear HJ HJO
    go_enter Tryz.func33, Tryz.ntmps33
    go_wp2
    go_ret2
    rw [HX.out]
    exact ⟨⟨none, 0, rfl, .nil _ _⟩, Below.refl _ _⟩
  have h4i : ¬ (4096 : Int) < (n : Int) := by omega
  have HJ2 : Hid (je = if tooLong 65535 l then 5 else 0) := by show _ = _; rw [HJ.out, if_neg h4]
  clear HJ
  go_enter Tryz.func33, Tryz.ntmps33
  go_wp2
  go_loop [4] (fun i => ∃ j : Nat, j ≤ n ∧ i = .int .i64 j ∧ Hid (tooLong 65535 (l.take j) = false)) (fun i => n - (intOf i).toNat)
  case atStart => exact ⟨0, Nat.zero_le _, rfl, by show _ = _; simp [tooLong]⟩
  case round =>
    obtain ⟨j, hj, rfl, HK⟩ := hrel
    by_cases hlt : j < n
    · obtain ⟨t, ht⟩ := get_lt (l := l) (k := j) (by rw [← HN.out]; exact hlt)
      obtain ⟨bb, oo, u, hix, gx, hA⟩ := texts_at HD.out.1 j t ht
      obtain ⟨x1, y1, rfl, _, htm, _⟩ := hA.shape
      unfold maxLen at htm
      have HP : Hid (l[j]? = some t) := ht
      have hji : (j : Int) < (n : Int) := by omega
      obtain ⟨tl, htl⟩ : ∃ y, y = t.length := ⟨_, rfl⟩
      have HTL : Hid (tl = t.length) := htl
      rw [← htl] at gx htm
      have hll := run_len Tryz.underlying22 x1 tl y1
      clear hA ht htl
      by_cases h6 : (65535 : Int) < (tl : Int)
      · have hA : tooLong 65535 l = true := any_true HP.out (by have := HTL.out; simp; omega)
        have HX : Hid (je = 5 ∧ JO = []) := by
          have h5 : je = 5 := by rw [HJ2.out, hA]; rfl
          exact ⟨h5, by rw [HJO.out, h5]; rfl⟩
        clear HJ2 hA HJO
        go_wp2
        go_ret2
        rw [HX.out.1, HX.out.2]
        exact ⟨⟨none, 0, rfl, .nil _ _⟩, Below.refl _ _⟩
      · have HK2 : Hid (tooLong 65535 (l.take (j + 1)) = false) := take_any_false HK.out HP.out (by have := HTL.out; simp; omega)
        go_wp2
        go_round
        case rel => exact ⟨j + 1, by omega, by go_num, HK2⟩
        case measure => simp [intOf]; omega
    · obtain rfl : j = n := by omega
      have hnt : tooLong 65535 l = false := by
        have := HK.out
        rwa [HN.out, List.take_length] at this
      have HX : Hid (je = 0 ∧ JO = laidJ l ∧ ∀ t ∈ l, t.length ≤ 65535) := by
        have h5 : je = 0 := by rw [HJ2.out, hnt]; rfl
        refine ⟨h5, by rw [HJO.out, h5]; rfl, fun t ht => ?_⟩
        unfold tooLong at hnt
        rw [List.any_eq_false] at hnt
        have := hnt t ht
        simpa using this
      clear HK HJ2 HJO hnt
      go_wp2
      go_loopw [5, 6] (fun o i wr => ∃ (q m : Nat) (a' : Option Addr) (c' : Nat), q ≤ j ∧ i = .int .i64 q ∧ o = .slice a' m c' ∧ m ≤ 268439552 ∧ Hid (m = (laidJ (l.take q)).length ∧ Own1 w.heap.size wr (.slice a' m c') (laidJ (l.take q)) ∧ Below w.heap.size w wr)) (fun _ i _ => j - (intOf i).toNat)
      case atStart => exact ⟨0, 0, none, 0, Nat.zero_le _, rfl, rfl, by omega, rfl, .nil _ _, Below.refl _ _⟩
      case round =>
        obtain ⟨q, m, a', c', hq, rfl, rfl, hm, HK⟩ := hrel
        by_cases hlt : q < j
        · obtain ⟨x, hx⟩ := get_lt (l := l) (k := q) (by rw [← HN.out]; exact hlt)
          obtain ⟨b0, o0, u, hix, gx0, hA⟩ := texts_at HD.out.1 q x hx
          have gx : wr.cell? ⟨b0, o0, none⟩ = some u := by rw [HK.out.2.2.cell (cell_lt gx0)]; exact gx0
          have hx6 : x.length ≤ 65535 := HX.out.2.2 x (List.mem_of_getElem? hx)
          have hlen1 : (laidJ (l.take (q + 1))).length ≤ 268439552 := by
            have h1 := laidJ_length (l.take (q + 1)) fun t ht => HX.out.2.2 t (List.mem_of_mem_take ht)
            rw [List.length_take] at h1
            omega
          have HTK : Hid (laidJ (l.take (q + 1)) = (laidJ (l.take q) ++ two x.length) ++ x) := by
            show _ = _
            rw [take_snoc hx, laidJ_snoc]
          have HXO : Hid (Oc x ∧ x.length ≤ 65535) := ⟨HD.out.2 x (List.mem_of_getElem? hx), hx6⟩
          have hm2 : m + 2 + x.length ≤ 268439552 := by
            rw [HTK.out, List.length_append, List.length_append, ← HK.out.1] at hlen1
            simpa [two] using hlen1
          have hji : (q : Int) < (j : Int) := by omega
          have hw := HK.out.2.2.size
          have hb0 : b0 < w.heap.size := cell_lt gx0
          have HGX : Hid (w.cell? ⟨b0, o0, none⟩ = some u) := gx0
          clear hx gx0 hlen1
          obtain ⟨lx, hlx⟩ : ∃ y, y = x.length := ⟨_, rfl⟩
          have HLX : Hid (lx = x.length) := hlx
          have HOW : Hid (wr.ownsRow w.heap.size 5 1 (.slice a' m c') m ((laidJ (l.take q)).map (Value.int .u8))) := by
            have := HK.out.2.1.row
            rwa [← HK.out.1] at this
          obtain ⟨L1, hL1⟩ : ∃ L, L = laidJ (l.take q) ++ two x.length := ⟨_, rfl⟩
          have HL1 : Hid (L1 = laidJ (l.take q) ++ two x.length ∧ L1.length = m + 2) := by
            refine ⟨hL1, ?_⟩
            rw [hL1, List.length_append, ← HK.out.1]
            rfl
          rw [← hL1] at HTK
          clear hL1
          have hnb : some b0 ≠ (Value.slice a' m c').ownBlock := row_ne HOW.out hb0
          obtain ⟨hcl, ⟨rfl, h0⟩ | ⟨ax, capx, rfl, hcx, hmx2, hbx, hcells⟩⟩ := hA.cells
          · have hx0 : x = [] := List.eq_nil_of_length_eq_zero h0
            subst hx0
            have hll := run_len Tryz.underlying22 none 0 0
            have HTW : Hid ((two ([] : List Int).length).map (Value.int .u8) = [.int .u8 0, .int .u8 0]) := rfl
            clear hA hcl h0 hlx HLX
            go_wp2
            go_region_held3 (fun w' => w'.cell? ⟨b0, o0, none⟩ = some (.slice none 0 0))
              (first | go_keep | (rw [hgrow3.cell_far _ (by simp; omega) hnb]; go_keep))
              ((refine step_append_lies _ (by rfl) _ _ _ (by rfl) w.heap.size 5 i0 _ 1 1 Tryz.underlying22 hi hz0 hz1 hz2 rfl (by omega) _ m _ (by rfl) ((HOW.out.alloc _).drew) ⟨wr.heap.size, 0, none⟩ 2 2 [.int .u8 0, .int .u8 0] (by rfl) (by rfl) (World.news_of_block (cs := #[.int .u8 0, .int .u8 0]) (t := 5) (fr := (0, 0)) (heap_alloc_new wr _)) (by simp [Value.oneCell']) (by omega) (by unfold maxLen; omega) (by omega) (by simp; omega) (wr.heap.size + 1) (by simp) ?_; intro gg cap3 w3 hown3 hgrow3 hat hltg))
            all_goals
              try clear h11 h12
              try clear h8 h9 h10
              have HOW3 : Hid (w3.ownsRow w.heap.size 5 1 (.slice (some ⟨gg, 0, none⟩) (m + 2) cap3) (m + 2) (L1.map (Value.int .u8))) := by
                show World.ownsRow _ _ _ _ _ _ _
                rw [HL1.out.1, List.map_append, HTW.out]
                exact hown3
              have HB3 : Hid (Below w.heap.size w w3) := ((HK.out.2.2.alloc (by omega) _).drew).grown hgrow3 (by simp; omega) (fun i hi => (HOW.out.lt i hi).1)
              have gx3 := HGX.out
              rw [← HB3.out.cell (cell_lt HGX.out)] at gx3
              clear hown3 hgrow3 hat hltg
              go_wp2_with (at_builtin; refine wpList_append_own_none rfl _ _ 22 rfl w.heap.size 5 i0 1 Tryz.underlying22 hi (.slice (some ⟨gg, 0, none⟩) (m + 2) cap3) (m + 2) (L1.map (Value.int .u8)) rfl HOW3.out rfl ?_)
              go_roundw
              case rel =>
                have e1 : laidJ (l.take (q + 1)) = L1 := by rw [HTK.out, List.append_nil]
                refine ⟨q + 1, m + 2, _, _, by omega, by go_num, rfl, by simp at hm2; omega, ?_⟩
                rw [e1]
                have hlen2 := HL1.out.2
                have ho : Oc L1 := by rw [HL1.out.1]; exact oc_append.2 ⟨HK.out.2.1.oct, two_oc _ (by simp)⟩
                refine ⟨hlen2.symm, .mk ?_ ho, HB3.out⟩
                rw [hlen2]
                exact HOW3.out
              case measure => simp [intOf]; omega
          · rw [← hlx] at hcl hcx hmx2 gx hm2 HGX
            have hll := run_len Tryz.underlying22 (some ax) lx capx
            have HCE : Hid (∀ (i : Nat) u, (x.map (Value.int .u8))[i]? = some u → w.cell? (ax.add i) = some u) := hcells
            have hlx6 : lx ≤ 65535 := by omega
            obtain ⟨lh, hlh⟩ : ∃ y, y = lx / 256 := ⟨_, rfl⟩
            obtain ⟨lo, hlo⟩ : ∃ y, y = lx % 256 := ⟨_, rfl⟩
            have h8 : (lx : Int) / 256 = (lh : Int) := by omega
            have h9 : (lh : Int) % 256 = (lh : Int) := by omega
            have h10 : (lx : Int) % 256 = (lo : Int) := by omega
            have h11 : IntKind.u8.wrap (lh : Int) = (lh : Int) := by rw [IntKind.wrap_u8']; omega
            have h12 : IntKind.u8.wrap (lx : Int) = (lo : Int) := by rw [IntKind.wrap_u8']; omega
            have HTW : Hid ((two x.length).map (Value.int .u8) = [.int .u8 (lh : Int), .int .u8 (lo : Int)]) := by
              show _ = _
              rw [hlh, hlo, hlx]
              rfl
            clear hA hlx hcells hcl hbx hmx2 hx6 hlh hlo
            go_wp2
            go_region_held3 (fun w' => w'.cell? ⟨b0, o0, none⟩ = some (.slice (some ax) lx capx))
              (first | go_keep | (rw [hgrow3.cell_far _ (by simp; omega) hnb]; go_keep))
              ((refine step_append_lies _ (by rfl) _ _ _ (by rfl) w.heap.size 5 i0 _ 1 1 Tryz.underlying22 hi hz0 hz1 hz2 rfl (by omega) _ m _ (by rfl) ((HOW.out.alloc _).drew) ⟨wr.heap.size, 0, none⟩ 2 2 [.int .u8 (lh : Int), .int .u8 (lo : Int)] (by rfl) (by rfl) (World.news_of_block (cs := #[.int .u8 (lh : Int), .int .u8 (lo : Int)]) (t := 5) (fr := (0, 0)) (heap_alloc_new wr _)) (by simp [Value.oneCell']) (by omega) (by unfold maxLen; omega) (by omega) (by simp; omega) (wr.heap.size + 1) (by simp) ?_; intro gg cap3 w3 hown3 hgrow3 hat hltg))
            all_goals
              try clear h11 h12
              try clear h8 h9 h10
              have HOW3 : Hid (w3.ownsRow w.heap.size 5 1 (.slice (some ⟨gg, 0, none⟩) (m + 2) cap3) (m + 2) (L1.map (Value.int .u8))) := by
                show World.ownsRow _ _ _ _ _ _ _
                rw [HL1.out.1, List.map_append, HTW.out]
                exact hown3
              have HB3 : Hid (Below w.heap.size w w3) := ((HK.out.2.2.alloc (by omega) _).drew).grown hgrow3 (by simp; omega) (fun i hi => (HOW.out.lt i hi).1)
              have gx3 := HGX.out
              rw [← HB3.out.cell (cell_lt HGX.out)] at gx3
              clear hown3 hgrow3 hat hltg
              go_wp2_with (at_builtin; refine wpList_append_own _ rfl _ _ 22 rfl w.heap.size 5 i0 (.int .u8 0) 1 1 Tryz.underlying22 hi hz0 hz1 hz2 rfl (by decide) (.slice (some ⟨gg, 0, none⟩) (m + 2) cap3) (m + 2) (L1.map (Value.int .u8)) rfl HOW3.out ax lx capx (x.map (Value.int .u8)) rfl (by rw [HLX.out]; simp) (fun i u hu => by have g := HCE.out i u hu; rw [HB3.out.cell (cell_lt g)]; exact g) (C.one_cells x) (by unfold maxLen; omega) (by omega) HB3.out.size ?_; intro v4 w4 hown4 hgrow4 _; obtain ⟨a4, c4, rfl⟩ := own_shape hown4)
              have HE : Hid (m + 2 + lx = (laidJ (l.take (q + 1))).length ∧ Own1 w.heap.size w4 (.slice a4 (m + 2 + lx) c4) (laidJ (l.take (q + 1))) ∧ Below w.heap.size w w4) := by
                have hlen2 := HL1.out.2
                have ho : Oc L1 := by rw [HL1.out.1]; exact oc_append.2 ⟨HK.out.2.1.oct, two_oc _ HXO.out.2⟩
                have e3 : (L1 ++ x).length = m + 2 + lx := by rw [List.length_append, hlen2, HLX.out]
                rw [HTK.out, e3]
                refine ⟨rfl, .mk ?_ (oc_append.2 ⟨ho, HXO.out.1⟩), HB3.out.grown hgrow4 HB3.out.size (fun i hi => (HOW3.out.lt i hi).1)⟩
                rw [e3, List.map_append]
                exact hown4
              clear hown4 hgrow4
              go_wp2
              go_roundw
              case rel => exact ⟨q + 1, m + 2 + lx, a4, c4, by omega, by go_num, rfl, by omega, HE⟩
              case measure => simp [intOf]; omega
        · obtain rfl : q = j := by omega
          have hT0 : l.take q = l := by rw [HN.out, List.take_length]
          rw [hT0] at HK
          clear hT0
          go_wp2
          go_ret2
          rw [HX.out.1, HX.out.2.1]
          refine ⟨⟨a', c', ?_, ?_⟩, HK.out.2.2⟩
          · rw [← HK.out.1]
            rfl
          · rw [← HK.out.1]
            exact HK.out.2.1

end Go.Proofs.YthlfgpnabcplnaaGreatDoor.W
