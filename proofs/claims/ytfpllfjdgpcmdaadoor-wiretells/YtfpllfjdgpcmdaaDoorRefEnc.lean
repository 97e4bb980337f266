/-
  What the document's Check, folded, groups and Encode answer: the same as the program's.
-/
import Derived.Test.YtfpllfjdgpcmdaaDoorEncode
import Derived.Test.YtfpllfjdgpcmdaaDoorCRef
namespace Go.Proofs.YtfpllfjdgpcmdaaDoor
open Go.RowKit

set_option maxHeartbeats 400000 in
theorem rfolded_any (n : Int) (hn : I64 n) (w : World) : Calls Tryd.prog 32 #[.int .i64 n] w fun e w' => e = .returned (.int .u64 (fold n : Nat)) ∧ w = w' := by
  obtain ⟨h1, h2⟩ := hn
  obtain ⟨f, hf⟩ : ∃ f, f = fold n := ⟨_, rfl⟩
  rw [← hf]
  unfold fold at hf
  have HF : Hid (f = if n < 0 then (-2 * n - 1).toNat else (2 * n).toNat) := hf
  clear hf
  by_cases h : n < 0
  · have HF2 : Hid ((f : Int) = bits .xor .u64 IntKind.u64.max (IntKind.u64.wrap (IntKind.u64.wrap n * 2))) := by show _ = _; rw [fold_neg n h1 h, HF.out, if_pos h]; omega
    clear HF
    go_enter Tryd.func32, Tryd.ntmps32
    go_wp2
    go_ret
    exact ⟨congrArg Ending.returned (congrArg (Value.int .u64) HF2.out.symm), rfl⟩
  · have HF2 : Hid ((f : Int) = n * 2) := by show _ = _; rw [HF.out, if_neg h]; omega
    clear HF
    go_enter Tryd.func32, Tryd.ntmps32
    go_wp2
    go_ret
    exact ⟨congrArg Ending.returned (congrArg (Value.int .u64) HF2.out.symm), rfl⟩

theorem or_more64 : ∀ x : Fin 128, (x.val ||| 128) = x.val + 128 := by decide +kernel
theorem and_or64 (m : Nat) (hm : m < 18446744073709551616) : bits .and .u64 (m : Int) 127 = ((m % 128 : Nat) : Int) ∧ bits .or .u64 ((m % 128 : Nat) : Int) 128 = ((m % 128 + 128 : Nat) : Int) := by
  have h1 := u64_and_nat m 127 hm (by decide)
  rw [show (127 : Nat) = 2 ^ 7 - 1 from rfl, Nat.and_two_pow_sub_one_eq_mod] at h1
  have h2 := u64_or_nat (m % 128) 128 (by omega) (by decide)
  have h3 := or_more64 ⟨m % 128, Nat.mod_lt _ (by omega)⟩
  simp only at h3
  rw [h3] at h2
  exact ⟨h1, h2⟩

set_option maxRecDepth 100000 in
set_option maxHeartbeats 2000000 in
theorem rgroups_any (m : Nat) (hm : m < 18446744073709551616) (w : World) :
    Calls Tryd.prog 31 #[.int .u64 m] w fun e w' => (∃ v', e = .returned v' ∧ Own1 w.heap.size w' v' (grp m)) ∧ Below w.heap.size w w' := by
  obtain ⟨i0, hi, hz0, hz1, hz2⟩ := info_parts Tryd.info5
  have h10 := grp_ten m 10 (by omega) (by omega)
  obtain ⟨G, hG⟩ : ∃ G, G = grp m := ⟨_, rfl⟩
  have HGL : Hid (G.length ≤ 10) := by show _ ≤ _; rw [hG]; exact h10
  rw [← hG]
  have HS : Hid (G = [] ++ grp m) := hG
  clear hG h10
  go_enter Tryd.func31, Tryd.ntmps31
  go_wp2
  go_loopw [0, 3] (fun i o wr => ∃ (l' : List Int) (k n' : Nat) (a : Option Addr) (c : Nat), o = .slice a n' c ∧ i = .int .u64 k ∧ k < 18446744073709551616 ∧ n' ≤ 10 ∧ Hid (n' = l'.length ∧ G = l' ++ grp k ∧ Own1 w.heap.size wr (.slice a n' c) l' ∧ Below w.heap.size w wr)) (fun i _ _ => (intOf i).toNat)
  case atStart => exact ⟨[], m, 0, none, 0, rfl, rfl, hm, by omega, rfl, HS.out, .nil _ _, Below.refl _ _⟩
  case round =>
    obtain ⟨l', k, n', a, c, rfl, rfl, hk, hn10, HK⟩ := hrel
    have hnl : n' + 1 ≤ 10 := by
      have h1 := HGL.out
      rw [HK.out.2.1, List.length_append, ← HK.out.1] at h1
      have := grp_pos k
      omega
    have HOW : Hid (wr.ownsRow w.heap.size 5 1 (.slice a n' c) n' (l'.map (Value.int .u8))) := by
      have := HK.out.2.2.1.row
      rwa [← HK.out.1] at this
    have hws := HK.out.2.2.2.size
    by_cases hlt : 128 ≤ k
    · have hki : (128 : Int) ≤ (k : Int) := by omega
      obtain ⟨k2, hk2⟩ : ∃ x, x = k / 128 := ⟨_, rfl⟩
      have h7 : (k : Int) / 128 = (k2 : Int) := by omega
      obtain ⟨ha, ho⟩ := and_or64 k hk
      obtain ⟨y, hy⟩ : ∃ y, y = k % 128 := ⟨_, rfl⟩
      rw [← hy] at ha ho
      obtain ⟨x, hx⟩ : ∃ x, x = y + 128 := ⟨_, rfl⟩
      rw [← hx] at ho
      have hx8 : (x : Int) % 256 = (x : Int) := by omega
      have HG : Hid (G = (l' ++ [(x : Int)]) ++ grp k2 ∧ 0 ≤ (x : Int) ∧ (x : Int) ≤ 255) := by
        refine ⟨?_, by omega, by omega⟩
        rw [HK.out.2.1, grp_more hlt, hx, hy, hk2, List.append_assoc]
        rfl
      have hk3 : k2 < k := by omega
      clear hx hk2 hy
      go_wp2_with (at_builtin; refine wpList_append_lies _ (by rfl) _ _ 26 (by rfl) w.heap.size 5 i0 _ 1 1 Tryd.underlying26 hi hz0 hz1 hz2 rfl (by omega) _ n' _ (by rfl) (HOW.out.alloc _) ⟨wr.heap.size, 0, none⟩ 1 1 [.int .u8 (x : Int)] (by rfl) (by rfl) (World.news_of_block (cs := #[.int .u8 (x : Int)]) (t := 5) (fr := (0, 0)) (heap_alloc_new wr _)) (by simp [Value.oneCell']) (by omega) (by unfold maxLen; omega) (by omega) (by simp; omega) (wr.heap.size + 1) (by simp) ?_; intro gg cap3 w3 hown3 hgrow3 hat hltg)
      have HW3 : Hid (n' + 1 = (l' ++ [(x : Int)]).length ∧ G = (l' ++ [(x : Int)]) ++ grp k2 ∧ Own1 w.heap.size w3 (.slice (some ⟨gg, 0, none⟩) (n' + 1) cap3) (l' ++ [(x : Int)]) ∧ Below w.heap.size w w3) := by
        refine ⟨by rw [List.length_append, ← HK.out.1]; rfl, HG.out.1, .mk ?_ (oc_append.2 ⟨HK.out.2.2.1.oct, oc_cons.2 ⟨HG.out.2, oc_nil⟩⟩), ?_⟩
        · rw [List.length_append, ← HK.out.1, List.map_append]
          exact hown3
        · exact (HK.out.2.2.2.alloc (by omega) _).grown hgrow3 (by simp; omega) (fun j hj => (HOW.out.lt j hj).1)
      clear hown3 hgrow3 hat hltg
      go_wp2
      go_roundw
      case rel => exact ⟨l' ++ [(x : Int)], k2, n' + 1, _, _, rfl, by go_num, by omega, hnl, HW3⟩
      case measure => simp [intOf]; omega
    · have hki : ¬ (128 : Int) ≤ (k : Int) := by omega
      have h256 : (k : Int) % 256 = (k : Int) := by omega
      have HG : Hid (G = l' ++ [(k : Int)]) := by
        show _ = _
        rw [HK.out.2.1, grp_small (by omega)]
      have hk8 : k < 128 := by omega
      go_wp2_with (at_builtin; refine wpList_append_lies _ (by rfl) _ _ 26 (by rfl) w.heap.size 5 i0 _ 1 1 Tryd.underlying26 hi hz0 hz1 hz2 rfl (by omega) _ n' _ (by rfl) (HOW.out.alloc _) ⟨wr.heap.size, 0, none⟩ 1 1 [.int .u8 (k : Int)] (by rfl) (by rfl) (World.news_of_block (cs := #[.int .u8 (k : Int)]) (t := 5) (fr := (0, 0)) (heap_alloc_new wr _)) (by simp [Value.oneCell']) (by omega) (by unfold maxLen; omega) (by omega) (by simp; omega) (wr.heap.size + 1) (by simp) ?_; intro gg cap3 w3 hown3 hgrow3 hat hltg)
      have HW3 : Hid (Own1 w.heap.size w3 (.slice (some ⟨gg, 0, none⟩) (n' + 1) cap3) G ∧ Below w.heap.size w w3) := by
        refine ⟨?_, ?_⟩
        · rw [HG.out]
          refine .mk ?_ (oc_append.2 ⟨HK.out.2.2.1.oct, oc_cons.2 ⟨by omega, oc_nil⟩⟩)
          rw [List.length_append, ← HK.out.1, List.map_append]
          exact hown3
        · exact (HK.out.2.2.2.alloc (by omega) _).grown hgrow3 (by simp; omega) (fun j hj => (HOW.out.lt j hj).1)
      clear hown3 hgrow3 hat hltg
      go_wp2
      go_ret
      exact ⟨⟨_, rfl, HW3.out.1⟩, HW3.out.2⟩

set_option maxRecDepth 100000 in
set_option maxHeartbeats 2000000 in
theorem rcheck_any (n0 : Nat) (us : List Value) (r : Rc) (w : World) (h : recF.lies n0 w us r) :
    Calls Tryd.prog 19 #[.agg us.toArray] w fun e w' => e = .returned (.int .i64 (chkR r)) ∧ Below w.heap.size w w' := by
  obtain ⟨a, c, b, d, rfl, hI, hT, hk, _, hm2⟩ := rec_view h
  obtain ⟨k, ns, ts⟩ := r
  simp only at hI hT hk hm2
  unfold maxLen at hm2
  obtain ⟨W, hW⟩ : ∃ W, W = w.alloc (.cells #[.int .i64 k, .slice a ns.length c, .slice b ts.length d] 25) := ⟨_, rfl⟩
  have hb : Below w.heap.size w W := by rw [hW]; exact (Below.refl _ w).alloc (Nat.le_refl _) _
  have hP : Box W w.heap.size 25 #[.int .i64 k, .slice a ns.length c, .slice b ts.length d] := by rw [hW]; exact Box.new w 25 _
  have HW : Hid (Below w.heap.size w W) := hb
  have HT : Hid (textsS.lies n0 W [.slice b ts.length d] ts) := textsS.below hT hb
  obtain ⟨ce, hce⟩ : ∃ x, x = chkR (k, ns, ts) := ⟨_, rfl⟩
  have HCE : Hid (ce = if k < 0 ∨ 255 < k then 22 else if 64 < ns.length ∨ 64 < ts.length then 3 else if tooLong 4096 ts then 5 else 0) := hce
  rw [← hce]
  obtain ⟨n, hn⟩ : ∃ n, n = ns.length := ⟨_, rfl⟩
  obtain ⟨m, hm⟩ : ∃ n, n = ts.length := ⟨_, rfl⟩
  have HM : Hid (m = ts.length) := hm
  rw [← hn] at HCE hW hP
  rw [← hm] at HCE HT hW hP hm2
  simp only
  rw [← hn, ← hm]
  have hl1 := run_len Tryd.underlying22 a n c
  have hl2 := run_len Tryd.underlying23 b m d
  obtain ⟨g0, g1, g2, _⟩ := hP.three
  have HG2 : Hid (W.cell? ⟨w.heap.size, 2, none⟩ = some (.slice b m d)) := g2
  rw [hW] at g0 g1 g2
  clear h hI hT hb hce hP hn hm hk
  by_cases h1 : k < 0
  · obtain rfl : ce = 22 := by rw [HCE.out, if_pos (.inl h1)]
    rw [hW] at HW
    clear hW
    go_enter Tryd.func19, Tryd.ntmps19
    go_wp2
    go_ret
    exact ⟨rfl, HW.out⟩
  by_cases h2 : 255 < k
  · obtain rfl : ce = 22 := by rw [HCE.out, if_pos (.inr h2)]
    rw [hW] at HW
    clear hW
    go_enter Tryd.func19, Tryd.ntmps19
    go_wp2
    go_ret
    exact ⟨rfl, HW.out⟩
  by_cases h3 : (64 : Int) < (n : Int)
  · obtain rfl : ce = 3 := by rw [HCE.out, if_neg (by omega), if_pos (.inl (by omega))]
    rw [hW] at HW
    clear hW
    go_enter Tryd.func19, Tryd.ntmps19
    go_wp2
    go_ret
    exact ⟨rfl, HW.out⟩
  by_cases h4 : (64 : Int) < (m : Int)
  · obtain rfl : ce = 3 := by rw [HCE.out, if_neg (by omega), if_pos (.inr (by omega))]
    rw [hW] at HW
    clear hW
    go_enter Tryd.func19, Tryd.ntmps19
    go_wp2
    go_ret
    exact ⟨rfl, HW.out⟩
  have HCE2 : Hid (ce = if tooLong 4096 ts then 5 else 0) := by
    show _ = _
    rw [HCE.out, if_neg (by omega), if_neg (by omega)]
  clear HCE
  go_enter Tryd.func19, Tryd.ntmps19
  go_wp2
  rw [← hW]
  clear hW g0 g1 g2
  go_loop [3] (fun i => ∃ j : Nat, j ≤ m ∧ i = .int .i64 j ∧ Hid (tooLong 4096 (ts.take j) = false)) (fun i => m - (intOf i).toNat)
  case atStart => exact ⟨0, Nat.zero_le _, rfl, by show _ = _; simp [tooLong]⟩
  case round =>
    obtain ⟨j, hj, rfl, HK⟩ := hrel
    have g2 := HG2.out
    by_cases hlt : j < m
    · obtain ⟨t, ht⟩ := get_lt (l := ts) (k := j) (by rw [← HM.out]; exact hlt)
      obtain ⟨bb, oo, u, hix, gx, hA⟩ := texts_at HT.out j t ht
      obtain ⟨x1, y1, rfl, _, htm, _⟩ := hA.shape
      unfold maxLen at htm
      have HP : Hid (ts[j]? = some t) := ht
      have hji : (j : Int) < (m : Int) := by omega
      obtain ⟨tl, htl⟩ : ∃ y, y = t.length := ⟨_, rfl⟩
      have HTL : Hid (tl = t.length) := htl
      rw [← htl] at gx htm
      have hll := run_len Tryd.underlying26 x1 tl y1
      clear hA ht htl
      by_cases h4 : (4096 : Int) < (tl : Int)
      · have hA : tooLong 4096 ts = true := any_true HP.out (by have := HTL.out; simp; omega)
        have HX : Hid (ce = 5) := by show _ = _; rw [HCE2.out, hA]; rfl
        clear HCE2 hA
        go_wp2
        go_ret
        exact ⟨by rw [HX.out]; rfl, HW.out⟩
      · have HK2 : Hid (tooLong 4096 (ts.take (j + 1)) = false) := take_any_false HK.out HP.out (by have := HTL.out; simp; omega)
        go_wp2
        go_round
        case rel => exact ⟨j + 1, by omega, by go_num, HK2⟩
        case measure => simp [intOf]; omega
    · obtain rfl : j = m := by omega
      have HX : Hid (ce = 0) := by
        show _ = _
        have := HK.out
        rw [HM.out, List.take_length] at this
        rw [HCE2.out, this]
        rfl
      clear HK HCE2
      go_wp2
      go_ret
      exact ⟨by rw [HX.out]; rfl, HW.out⟩

end Go.Proofs.YtfpllfjdgpcmdaaDoor
