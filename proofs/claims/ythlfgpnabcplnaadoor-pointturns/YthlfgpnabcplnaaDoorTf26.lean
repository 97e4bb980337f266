/-
  What Join answers: the texts one behind the other, each behind its length; or an error.
-/
import Derived.Test.YthlfgpnabcplnaaDoorTf1
import Derived.Test.YthlfgpnabcplnaaDoorTf9
import Derived.Test.YthlfgpnabcplnaaDoorTf18
import Derived.Deep.AppendLies
namespace Go.Proofs.YthlfgpnabcplnaaDoor.W
open Go.RowKit

theorem need_two (n : Nat) (h : n ≤ 65535) : O.need n ≤ 2 := by
  rw [O.need]
  split
  · omega
  · rw [O.need]
    split
    · omega
    · rw [O.need, dif_pos (by omega)]
      omega
theorem oct_two (n : Nat) (h : n ≤ 65535) : O.oct n 2 = two n := by
  have : O.oct n 2 = [((n / 256 ^ 1 % 256 : Nat) : Int), ((n / 256 ^ 0 % 256 : Nat) : Int)] := rfl
  rw [this]
  unfold two
  congr 1
  · simp
    omega
  · simp

theorem put2 (n : Nat) (h : n ≤ 65535) (w : World) : Calls Tryd.prog 38 #[.int .u64 n, .int .i64 2] w fun e w' => e = .returned (.tuple #[.slice (some ⟨w.heap.size, 0, none⟩) 2 2, .int .i64 0]) ∧ Own1 w.heap.size w' (.slice (some ⟨w.heap.size, 0, none⟩) 2 2) (two n) ∧ Below w.heap.size w w' := by
  refine (O.put_ok n 2 w (by omega) (by omega) (need_two n h)).mono ?_
  rintro e w' ⟨h1, h2, h3⟩
  rw [oct_two n h] at h2
  exact ⟨h1, .mk h2 (two_oc n h), h3⟩

set_option maxRecDepth 100000 in
set_option maxHeartbeats 4000000 in
theorem join_ok (n0 : Nat) (v : Value) (l : List (List Int)) (w : World) (h : textsS.lies n0 w [v] l) (he : joinE l = 0) :
    Calls Tryd.prog 19 #[v] w fun e w' => (∃ v', e = .returned (.tuple #[v', .int .i64 0]) ∧ Own1 w.heap.size w' v' (laidJ l)) ∧ Below w.heap.size w w' := by
  obtain ⟨i0, hi, hz0, hz1, hz2⟩ := info_parts Tryd.info5
  obtain ⟨hl1, hl2⟩ := joinE_ok he
  obtain ⟨a, c, hv, _, _, _⟩ := texts_len h
  obtain rfl : v = _ := by simpa using hv
  have HX := lengths_any 65535 n0 (.slice a l.length c) l w h
  have htl : tooLong 65535 l = false := by
    unfold tooLong
    rw [List.any_eq_false]
    intro t ht
    have := hl2 t ht
    simpa using this
  rw [htl] at HX
  have HD : Hid (textsS.lies n0 w [.slice a l.length c] l ∧ (∀ t ∈ l, t.length ≤ 65535) ∧ l.length ≤ 4096 ∧ ∀ t ∈ l, Oc t) := ⟨h, hl2, hl1, texts_oct h⟩
  obtain ⟨n, hn⟩ : ∃ n, n = l.length := ⟨_, rfl⟩
  have HN : Hid (n = l.length) := hn
  rw [← hn] at HX HD hl1 ⊢
  have hln := run_len Tryd.underlying37 a n c
  have hni : ¬ (4096 : Int) < (n : Int) := by omega
  clear h he hl2 hv htl hn
  go_enter Tryd.func19, Tryd.ntmps19
  go_wp2_with fail
  refine HX.mono ?_
  rintro e w1 ⟨rfl, hb1⟩
  have HB1 : Hid (Below w.heap.size w w1) := hb1
  clear hb1 HX
  simp only [Bool.false_eq_true, if_false]
  go_wp2
  go_loopw [5, 20] (fun o i wr => ∃ (j m : Nat) (a' : Option Addr) (c' : Nat), j ≤ n ∧ i = .int .i64 j ∧ o = .slice a' m c' ∧ m ≤ 268439552 ∧ Hid (m = (laidJ (l.take j)).length ∧ Own1 w.heap.size wr (.slice a' m c') (laidJ (l.take j)) ∧ Below w.heap.size w wr)) (fun _ i _ => n - (intOf i).toNat)
  case atStart => exact ⟨0, 0, none, 0, Nat.zero_le _, rfl, rfl, by omega, rfl, .nil _ _, HB1.out⟩
  case round =>
    obtain ⟨j, m, a', c', hj, rfl, rfl, hm, HK⟩ := hrel
    by_cases hlt : j < n
    · obtain ⟨x, hx⟩ := get_lt (l := l) (k := j) (by rw [← HN.out]; exact hlt)
      obtain ⟨b0, o0, u, hix, gx0, hA⟩ := texts_at HD.out.1 j x hx
      have gx : wr.cell? ⟨b0, o0, none⟩ = some u := by rw [HK.out.2.2.cell (cell_lt gx0)]; exact gx0
      have hx6 : x.length ≤ 65535 := HD.out.2.1 x (List.mem_of_getElem? hx)
      have HPT := put2 x.length hx6 wr
      have hlen1 : (laidJ (l.take (j + 1))).length ≤ 268439552 := by
        have h1 := laidJ_length (l.take (j + 1)) fun t ht => HD.out.2.1 t (List.mem_of_mem_take ht)
        rw [List.length_take] at h1
        omega
      have HTK : Hid (laidJ (l.take (j + 1)) = (laidJ (l.take j) ++ two x.length) ++ x) := by
        show _ = _
        rw [take_snoc hx, laidJ_snoc]
      have HXO : Hid (Oc x ∧ x.length ≤ 65535) := ⟨HD.out.2.2.2 x (List.mem_of_getElem? hx), hx6⟩
      have hm2 : m + 2 + x.length ≤ 268439552 := by
        rw [HTK.out, List.length_append, List.length_append, ← HK.out.1] at hlen1
        simpa [two] using hlen1
      have hji : (j : Int) < (n : Int) := by omega
      have hw := HK.out.2.2.size
      clear hx gx0 hlen1
      obtain ⟨lx, hlx⟩ : ∃ y, y = x.length := ⟨_, rfl⟩
      have HLX : Hid (lx = x.length) := hlx
      have HOW : Hid (wr.ownsRow w.heap.size 5 1 (.slice a' m c') m ((laidJ (l.take j)).map (Value.int .u8))) := by
        have := HK.out.2.1.row
        rwa [← HK.out.1] at this
      obtain ⟨L1, hL1⟩ : ∃ L, L = laidJ (l.take j) ++ two x.length := ⟨_, rfl⟩
      have HL1 : Hid (L1 = laidJ (l.take j) ++ two x.length ∧ L1.length = m + 2) := by
        refine ⟨hL1, ?_⟩
        rw [hL1, List.length_append, ← HK.out.1]
        rfl
      rw [← hL1] at HTK
      clear hL1
      obtain ⟨hcl, ⟨rfl, h0⟩ | ⟨ax, capx, rfl, hcx, hmx, hbx, hcells⟩⟩ := hA.cells
      · have hx0 : x = [] := List.eq_nil_of_length_eq_zero h0
        subst hx0
        simp only [List.length_nil] at HPT
        have hll := run_len Tryd.underlying22 none 0 0
        clear hA hcl h0 hlx HLX
        go_wp2_with fail
        refine HPT.mono ?_
        rintro e w2 ⟨rfl, ho2, hb2⟩
        have HO2 : Hid (Own1 wr.heap.size w2 (.slice (some ⟨wr.heap.size, 0, none⟩) 2 2) (two 0) ∧ Below wr.heap.size wr w2) := ⟨ho2, hb2⟩
        have hcell2 := ho2.row.cells (g := wr.heap.size) rfl
        have hlt2 := (ho2.row.lt wr.heap.size rfl).2
        clear ho2 hb2 HPT hix gx
        go_wp2_with (first
          | (at_builtin; refine wpList_append_lies _ (by rfl) _ _ 22 (by rfl) w.heap.size 5 i0 _ 1 1 Tryd.underlying22 hi hz0 hz1 hz2 rfl (by omega) _ m _ (by rfl) (own_below HOW.out HO2.out.2) ⟨wr.heap.size, 0, none⟩ 2 2 ((two 0).map (Value.int .u8)) (by rfl) (by rfl) hcell2 (C.one_cells _) (by omega) (by unfold maxLen; omega) (by omega) (by omega) w2.heap.size rfl ?_; intro gg cap3 w3 hown3 hgrow3 hat hltg
             have HOW3 : Hid (w3.ownsRow w.heap.size 5 1 (.slice (some ⟨gg, 0, none⟩) (m + 2) cap3) (m + 2) (L1.map (Value.int .u8))) := by
               show World.ownsRow _ _ _ _ _ _ _
               rw [HL1.out.1, List.map_append]
               exact hown3
             have HB3 : Hid (Below w.heap.size w w3) := (HK.out.2.2.trans (HO2.out.2.mono hw)).grown hgrow3 (by omega) (fun i hi => (HOW.out.lt i hi).1)
             clear hown3 hgrow3 hat hltg hcell2)
          | (at_builtin; refine wpList_append_own_none rfl _ _ 22 rfl w.heap.size 5 i0 1 Tryd.underlying22 hi (.slice (some ⟨gg, 0, none⟩) (m + 2) cap3) (m + 2) (L1.map (Value.int .u8)) rfl HOW3.out rfl ?_))
        go_roundw
        case rel =>
          have e1 : laidJ (l.take (j + 1)) = L1 := by rw [HTK.out, List.append_nil]
          refine ⟨j + 1, m + 2, _, _, by omega, by go_num, rfl, by simp at hm2; omega, ?_⟩
          rw [e1]
          have hlen2 := HL1.out.2
          have ho : Oc L1 := by rw [HL1.out.1]; exact oc_append.2 ⟨HK.out.2.1.oct, two_oc _ (by simp)⟩
          refine ⟨hlen2.symm, .mk ?_ ho, HB3.out⟩
          rw [hlen2]
          exact HOW3.out
        case measure => simp [intOf]; omega
      · rw [← hlx] at hcl hcx hmx gx HPT hm2
        have hll := run_len Tryd.underlying22 (some ax) lx capx
        have HCE : Hid (∀ (i : Nat) u, (x.map (Value.int .u8))[i]? = some u → w.cell? (ax.add i) = some u) := hcells
        clear hA hlx hcells hcl hbx hmx hx6
        go_wp2_with fail
        refine HPT.mono ?_
        rintro e w2 ⟨rfl, ho2, hb2⟩
        have HO2 : Hid (Own1 wr.heap.size w2 (.slice (some ⟨wr.heap.size, 0, none⟩) 2 2) (two lx) ∧ Below wr.heap.size wr w2) := ⟨ho2, hb2⟩
        have hcell2 := ho2.row.cells (g := wr.heap.size) rfl
        have hlt2 := (ho2.row.lt wr.heap.size rfl).2
        clear ho2 hb2 HPT hix gx
        go_wp2_with (first
          | (at_builtin; refine wpList_append_lies _ (by rfl) _ _ 22 (by rfl) w.heap.size 5 i0 _ 1 1 Tryd.underlying22 hi hz0 hz1 hz2 rfl (by omega) _ m _ (by rfl) (own_below HOW.out HO2.out.2) ⟨wr.heap.size, 0, none⟩ 2 2 ((two lx).map (Value.int .u8)) (by rfl) (by rfl) hcell2 (C.one_cells _) (by omega) (by unfold maxLen; omega) (by omega) (by omega) w2.heap.size rfl ?_; intro gg cap3 w3 hown3 hgrow3 hat hltg
             have HOW3 : Hid (w3.ownsRow w.heap.size 5 1 (.slice (some ⟨gg, 0, none⟩) (m + 2) cap3) (m + 2) (L1.map (Value.int .u8))) := by
               show World.ownsRow _ _ _ _ _ _ _
               rw [HL1.out.1, List.map_append, ← HLX.out]
               exact hown3
             have HB3 : Hid (Below w.heap.size w w3) := (HK.out.2.2.trans (HO2.out.2.mono hw)).grown hgrow3 (by omega) (fun i hi => (HOW.out.lt i hi).1)
             clear hown3 hgrow3 hat hltg hcell2)
          | (at_builtin; refine wpList_append_own _ rfl _ _ 22 rfl w.heap.size 5 i0 (.int .u8 0) 1 1 Tryd.underlying22 hi hz0 hz1 hz2 rfl (by decide) (.slice (some ⟨gg, 0, none⟩) (m + 2) cap3) (m + 2) (L1.map (Value.int .u8)) rfl HOW3.out ax lx capx (x.map (Value.int .u8)) rfl (by rw [HLX.out]; simp) (fun i u hu => by have g := HCE.out i u hu; rw [HB3.out.cell (cell_lt g)]; exact g) (C.one_cells x) (by unfold maxLen; omega) (by omega) HB3.out.size ?_; intro v4 w4 hown4 hgrow4 _; obtain ⟨a4, c4, rfl⟩ := own_shape hown4))
        have HE : Hid (m + 2 + lx = (laidJ (l.take (j + 1))).length ∧ Own1 w.heap.size w4 (.slice a4 (m + 2 + lx) c4) (laidJ (l.take (j + 1))) ∧ Below w.heap.size w w4) := by
          have hlen2 := HL1.out.2
          have ho : Oc L1 := by rw [HL1.out.1]; exact oc_append.2 ⟨HK.out.2.1.oct, two_oc _ HXO.out.2⟩
          have e3 : (L1 ++ x).length = m + 2 + lx := by rw [List.length_append, hlen2, HLX.out]
          rw [HTK.out, e3]
          refine ⟨rfl, .mk ?_ (oc_append.2 ⟨ho, HXO.out.1⟩), HB3.out.grown hgrow4 HB3.out.size (fun i hi => (HOW3.out.lt i hi).1)⟩
          rw [e3, List.map_append]
          exact hown4
        clear hown4 hgrow4
        go_wp2
        go_roundw
        case rel => exact ⟨j + 1, m + 2 + lx, a4, c4, by omega, by go_num, rfl, by omega, HE⟩
        case measure => simp [intOf]; omega
    · obtain rfl : j = n := by omega
      have hT0 : l.take j = l := by rw [HN.out, List.take_length]
      rw [hT0] at HK
      clear hT0
      go_wp2
      go_ret2
      exact ⟨⟨_, rfl, HK.out.2.1⟩, HK.out.2.2⟩

set_option maxRecDepth 100000 in
set_option maxHeartbeats 1000000 in
theorem join_bad (n0 : Nat) (v : Value) (l : List (List Int)) (w : World) (h : textsS.lies n0 w [v] l) (he : joinE l ≠ 0) :
    Calls Tryd.prog 19 #[v] w fun e w' => e = .returned (.tuple #[.slice none 0 0, .int .i64 (joinE l)]) ∧ Below w.heap.size w w' := by
  obtain ⟨a, c, hv, _, _, _⟩ := texts_len h
  obtain rfl : v = _ := by simpa using hv
  have HX := lengths_any 65535 n0 (.slice a l.length c) l w h
  obtain ⟨je, hje⟩ : ∃ y, y = joinE l := ⟨_, rfl⟩
  have HJ : Hid (je = if 4096 < l.length then 3 else if tooLong 65535 l then 5 else 0) := hje
  rw [← hje] at he ⊢
  obtain ⟨n, hn⟩ : ∃ n, n = l.length := ⟨_, rfl⟩
  rw [← hn] at HX HJ ⊢
  have hln := run_len Tryd.underlying37 a n c
  clear h hv hn hje
  by_cases h4 : 4096 < n
  · have h4i : (4096 : Int) < (n : Int) := by omega
    obtain rfl : je = 3 := by rw [HJ.out, if_pos h4]
    clear HX HJ
    go_enter Tryd.func19, Tryd.ntmps19
    go_wp2
    go_ret2
    exact ⟨rfl, Below.refl _ _⟩
  · have h4i : ¬ (4096 : Int) < (n : Int) := by omega
    have hq := HJ.out
    rw [if_neg h4] at hq
    rw [← hq] at HX
    clear HJ hq
    go_enter Tryd.func19, Tryd.ntmps19
    go_wp2_with fail
    refine HX.mono ?_
    rintro e w1 ⟨rfl, hb1⟩
    go_wp2
    go_ret2
    exact ⟨rfl, hb1⟩

theorem join_any (n0 : Nat) (v : Value) (l : List (List Int)) (w : World) (h : textsS.lies n0 w [v] l) :
    Calls Tryd.prog 19 #[v] w fun e w' => (∃ a c, e = .returned (.tuple #[.slice a (joinO l).length c, .int .i64 (joinE l)]) ∧ Own1 w.heap.size w' (.slice a (joinO l).length c) (joinO l)) ∧ Below w.heap.size w w' := by
  by_cases hc : joinE l = 0
  · refine (join_ok n0 v l w h hc).mono ?_
    rintro e w' ⟨⟨v', rfl, ho⟩, hb⟩
    rw [joinO, if_pos hc, hc]
    obtain ⟨a, c, rfl⟩ := ho.shape
    exact ⟨⟨a, c, rfl, ho⟩, hb⟩
  · refine (join_bad n0 v l w h hc).mono ?_
    rintro e w' ⟨rfl, hb⟩
    rw [joinO, if_neg hc]
    exact ⟨⟨none, 0, rfl, .nil _ _⟩, hb⟩

end Go.Proofs.YthlfgpnabcplnaaDoor.W
