/-
  What folded, unfolded and appendGroups answer.
-/
import Derived.Test.YtfpllfjdgpcmdaaDoorWire
import Derived.Deep.AppendLies
import Derived.Laws.BitsAllLaws
namespace Go.Proofs.YtfpllfjdgpcmdaaDoor
open Go.RowKit

theorem not64 (x : Nat) (h : x < 18446744073709551616) : bits .xor .u64 IntKind.u64.max (x : Int) = ((18446744073709551615 - x : Nat) : Int) := by
  have h1 : IntKind.u64.max = ((18446744073709551615 : Nat) : Int) := by decide
  rw [h1, u64_xor_nat _ _ (by decide) h]
  congr 1
  have h2 : ((2 ^ 64 - 1) ^^^ x : Nat) = 2 ^ 64 - (x + 1) := Nat.eq_of_testBit_eq fun i => by
    rw [Nat.testBit_xor, Nat.testBit_two_pow_sub_one, Nat.testBit_two_pow_sub_succ (by simpa using h)]
    by_cases hi : i < 64
    · simp [hi]
    · have : x.testBit i = false := Nat.testBit_lt_two_pow (Nat.lt_of_lt_of_le h (show 2 ^ 64 ≤ 2 ^ i from Nat.pow_le_pow_right (by omega) (by omega)))
      simp [hi, this]
  have h3 : (18446744073709551615 : Nat) = 2 ^ 64 - 1 := by decide
  rw [h3, h2]
  omega

theorem fold_neg (n : Int) (h1 : -9223372036854775808 ≤ n) (h : n < 0) : bits .xor .u64 IntKind.u64.max (IntKind.u64.wrap (IntKind.u64.wrap n * 2)) = -2 * n - 1 := by
  have e1 : IntKind.u64.wrap (IntKind.u64.wrap n * 2) = (((2 * n + 18446744073709551616).toNat : Nat) : Int) := by
    rw [IntKind.wrap_u64, IntKind.wrap_u64]
    omega
  rw [e1, not64 _ (by omega)]
  omega

set_option maxHeartbeats 400000 in
theorem folded_any (n : Int) (hn : I64 n) (w : World) : Calls Tryd.prog 29 #[.int .i64 n] w fun e w' => e = .returned (.int .u64 (fold n : Nat)) ∧ w = w' := by
  obtain ⟨h1, h2⟩ := hn
  obtain ⟨f, hf⟩ : ∃ f, f = fold n := ⟨_, rfl⟩
  rw [← hf]
  unfold fold at hf
  have HF : Hid (f = if n < 0 then (-2 * n - 1).toNat else (2 * n).toNat) := hf
  clear hf
  by_cases h : n < 0
  · have HF2 : Hid ((f : Int) = bits .xor .u64 IntKind.u64.max (IntKind.u64.wrap (IntKind.u64.wrap n * 2))) := by show _ = _; rw [fold_neg n h1 h, HF.out, if_pos h]; omega
    clear HF
    go_enter Tryd.func29, Tryd.ntmps29
    go_wp2
    go_ret
    exact ⟨congrArg Ending.returned (congrArg (Value.int .u64) HF2.out.symm), rfl⟩
  · have HF2 : Hid ((f : Int) = n * 2) := by show _ = _; rw [HF.out, if_neg h]; omega
    clear HF
    go_enter Tryd.func29, Tryd.ntmps29
    go_wp2
    go_ret
    exact ⟨congrArg Ending.returned (congrArg (Value.int .u64) HF2.out.symm), rfl⟩

theorem unfold_odd (m : Nat) (hm : m < 18446744073709551616) (k : Nat) (hk : k = m / 2) : wrap64 (bits .xor .u64 IntKind.u64.max (k : Int)) = -((k : Nat) : Int) - 1 := by
  rw [not64 _ (by omega)]
  unfold wrap64
  omega

set_option maxHeartbeats 400000 in
theorem unfolded_any (m : Nat) (hm : m < 18446744073709551616) (w : World) : Calls Tryd.prog 67 #[.int .u64 m] w fun e w' => e = .returned (.int .i64 (unfold m)) ∧ w = w' := by
  obtain ⟨f, hf⟩ : ∃ f, f = unfold m := ⟨_, rfl⟩
  rw [← hf]
  have HF : Hid (f = if m % 2 = 1 then -((m / 2 : Nat) : Int) - 1 else ((m / 2 : Nat) : Int)) := hf
  clear hf
  obtain ⟨k, hk⟩ : ∃ k, k = m / 2 := ⟨_, rfl⟩
  have h2 : (m : Int) / 2 = (k : Int) := by omega
  have h1 : bits .and .u64 (m : Int) 1 = ((m % 2 : Nat) : Int) := by
    have := u64_and_nat m 1 hm (by decide)
    rw [Nat.and_one_is_mod] at this
    exact this
  have hkb : k < 9223372036854775808 := by omega
  rcases Nat.mod_two_eq_zero_or_one m with e | e
  · rw [e] at h1
    have h1' : bits .and .u64 (m : Int) 1 = 0 := h1
    have HF2 : Hid (f = (k : Int)) := by show _ = _; rw [HF.out, if_neg (by omega), hk]
    clear HF hk h1 e
    go_enter Tryd.func67, Tryd.ntmps67
    go_wp2
    go_ret
    exact ⟨congrArg Ending.returned (congrArg (Value.int .i64) HF2.out.symm), rfl⟩
  · rw [e] at h1
    have h1' : bits .and .u64 (m : Int) 1 = 1 := h1
    have HF2 : Hid (f = wrap64 (bits .xor .u64 IntKind.u64.max (k : Int))) := by show _ = _; rw [unfold_odd m hm k hk, HF.out, if_pos e, hk]
    clear HF hk h1 e
    go_enter Tryd.func67, Tryd.ntmps67
    go_wp2
    go_ret
    exact ⟨congrArg Ending.returned (congrArg (Value.int .i64) HF2.out.symm), rfl⟩

theorem or_more : ∀ x : Fin 256, bits .or .u8 (x.val : Int) 128 = ((x.val % 128 + 128 : Nat) : Int) := by decide +kernel
theorem or_more' (m : Nat) : bits .or .u8 ((m : Int) % 256) 128 = ((m % 128 + 128 : Nat) : Int) := by
  have := or_more ⟨m % 256, Nat.mod_lt _ (by omega)⟩
  simp only at this
  rw [show ((m : Int) % 256) = ((m % 256 : Nat) : Int) by omega, this]
  omega

set_option maxRecDepth 100000 in
set_option maxHeartbeats 2000000 in
theorem app_any (base : Nat) (v : Value) (l : List Int) (m : Nat) (hm : m < 18446744073709551616) (w : World) (h : Own1 base w v l) (hb : base ≤ w.heap.size) (hs : l.length ≤ 100000000000000) :
    Calls Tryd.prog 28 #[v, .int .u64 m] w fun e w' => (∃ v', e = .returned v' ∧ Own1 base w' v' (l ++ grp m)) ∧ Below base w w' := by
  obtain ⟨i0, hi, hz0, hz1, hz2⟩ := info_parts Tryd.info5
  have h10 := grp_ten m 10 (by omega) (by omega)
  obtain ⟨G, hG⟩ : ∃ G, G = l ++ grp m := ⟨_, rfl⟩
  have hGl : G.length ≤ l.length + 10 := by rw [hG, List.length_append]; omega
  rw [← hG]
  have HS : Hid (Own1 base w v l ∧ G = l ++ grp m ∧ base ≤ w.heap.size) := ⟨h, hG, hb⟩
  obtain ⟨a0, c0, rfl⟩ := h.shape
  obtain ⟨n, hn⟩ : ∃ n, n = l.length := ⟨_, rfl⟩
  have HN : Hid (n = l.length) := hn
  rw [← hn] at HS ⊢
  have HGL : Hid (G.length ≤ 100000000000010) := by show _ ≤ _; omega
  clear h hG h10 hGl hn hs hb
  go_enter Tryd.func28, Tryd.ntmps28
  go_wp2
  go_loopw [0, 1] (fun o i wr => ∃ (l' : List Int) (k : Nat) (a : Option Addr) (c : Nat), o = .slice a l'.length c ∧ i = .int .u64 k ∧ k < 18446744073709551616 ∧ Hid (G = l' ++ grp k ∧ Own1 base wr (.slice a l'.length c) l' ∧ Below base w wr)) (fun _ i _ => (intOf i).toNat)
  case atStart =>
    exact ⟨l, m, a0, c0, by rw [HN.out], rfl, hm, HS.out.2.1, by rw [← HN.out]; exact HS.out.1, Below.refl _ _⟩
  case round =>
    obtain ⟨l', k, a, c, rfl, rfl, hk, HK⟩ := hrel
    have HLL : Hid (l'.length + 1 ≤ 100000000000010) := by
      show _ ≤ _
      have h1 := HGL.out
      rw [HK.out.1, List.length_append] at h1
      have := grp_pos k
      omega
    obtain ⟨n', hn'⟩ : ∃ n, n = l'.length := ⟨_, rfl⟩
    have HN' : Hid (n' = l'.length) := hn'
    rw [← hn'] at HK HLL ⊢
    have hnl : n' + 1 ≤ 100000000000010 := HLL.out
    clear hn'
    by_cases hlt : 128 ≤ k
    · have hki : (128 : Int) ≤ (k : Int) := by omega
      obtain ⟨k2, hk2⟩ : ∃ x, x = k / 128 := ⟨_, rfl⟩
      have h7 : (k : Int) / 128 = (k2 : Int) := by omega
      have ho := or_more' k
      obtain ⟨x, hx⟩ : ∃ x, x = k % 128 + 128 := ⟨_, rfl⟩
      rw [← hx] at ho
      have HG : Hid (G = (l' ++ [(x : Int)]) ++ grp k2 ∧ 0 ≤ (x : Int) ∧ (x : Int) ≤ 255) := by
        refine ⟨?_, by omega, by omega⟩
        rw [HK.out.1, grp_more hlt, hx, hk2, List.append_assoc]
        rfl
      have hk3 : k2 < k := by omega
      clear hx hk2
      go_wp2_with (at_builtin; refine wpList_append_lies _ (by rfl) _ _ 26 (by rfl) base 5 i0 _ 1 1 Tryd.underlying26 hi hz0 hz1 hz2 rfl (by omega) _ n' _ (by rfl) ((show wr.ownsRow base 5 1 (.slice a n' c) n' (l'.map (Value.int .u8)) from by have := HK.out.2.1.row; rwa [← HN'.out] at this).alloc _) ⟨wr.heap.size, 0, none⟩ 1 1 [.int .u8 (x : Int)] (by rfl) (by rfl) (World.news_of_block (cs := #[.int .u8 (x : Int)]) (t := 5) (fr := (0, 0)) (heap_alloc_new wr _)) (by simp [Value.oneCell']) (by omega) (by unfold maxLen; omega) (by omega) (by have := HK.out.2.2.size; have := HS.out.2.2; simp; omega) (wr.heap.size + 1) (by simp) ?_; intro gg cap3 w3 hown3 hgrow3 hat hltg)
      have HW3 : Hid (G = (l' ++ [(x : Int)]) ++ grp k2 ∧ Own1 base w3 (.slice (some ⟨gg, 0, none⟩) (l' ++ [(x : Int)]).length cap3) (l' ++ [(x : Int)]) ∧ Below base w w3) := by
        refine ⟨HG.out.1, .mk ?_ (oc_append.2 ⟨HK.out.2.1.oct, oc_cons.2 ⟨HG.out.2, oc_nil⟩⟩), ?_⟩
        · rw [List.length_append, ← HN'.out, List.map_append]
          exact hown3
        · have hbs := HS.out.2.2
          have hws := HK.out.2.2.size
          exact (HK.out.2.2.alloc (by omega) _).grown hgrow3 (by simp; omega) (fun j hj => (HK.out.2.1.row.lt j hj).1)
      have HLN : Hid ((l' ++ [(x : Int)]).length = n' + 1) := by show _ = _; rw [List.length_append, ← HN'.out]; rfl
      clear hown3 hgrow3 hat hltg
      go_wp2
      go_roundw
      case rel => exact ⟨l' ++ [(x : Int)], k2, some ⟨gg, 0, none⟩, cap3, by rw [HLN.out], by go_num, by omega, HW3.out⟩
      case measure => simp [intOf]; omega
    · have hki : ¬ (128 : Int) ≤ (k : Int) := by omega
      have h256 : (k : Int) % 256 = (k : Int) := by omega
      have HG : Hid (G = l' ++ [(k : Int)]) := by
        show _ = _
        rw [HK.out.1, grp_small (by omega)]
      have hk8 : k < 128 := by omega
      go_wp2_with (at_builtin; refine wpList_append_lies _ (by rfl) _ _ 26 (by rfl) base 5 i0 _ 1 1 Tryd.underlying26 hi hz0 hz1 hz2 rfl (by omega) _ n' _ (by rfl) ((show wr.ownsRow base 5 1 (.slice a n' c) n' (l'.map (Value.int .u8)) from by have := HK.out.2.1.row; rwa [← HN'.out] at this).alloc _) ⟨wr.heap.size, 0, none⟩ 1 1 [.int .u8 (k : Int)] (by rfl) (by rfl) (World.news_of_block (cs := #[.int .u8 (k : Int)]) (t := 5) (fr := (0, 0)) (heap_alloc_new wr _)) (by simp [Value.oneCell']) (by omega) (by unfold maxLen; omega) (by omega) (by have := HK.out.2.2.size; have := HS.out.2.2; simp; omega) (wr.heap.size + 1) (by simp) ?_; intro gg cap3 w3 hown3 hgrow3 hat hltg)
      have HW3 : Hid (Own1 base w3 (.slice (some ⟨gg, 0, none⟩) (n' + 1) cap3) G ∧ Below base w w3) := by
        refine ⟨?_, ?_⟩
        · rw [HG.out]
          refine .mk ?_ (oc_append.2 ⟨HK.out.2.1.oct, oc_cons.2 ⟨by omega, oc_nil⟩⟩)
          rw [List.length_append, ← HN'.out, List.map_append]
          exact hown3
        · have hbs := HS.out.2.2
          have hws := HK.out.2.2.size
          exact (HK.out.2.2.alloc (by omega) _).grown hgrow3 (by simp; omega) (fun j hj => (HK.out.2.1.row.lt j hj).1)
      clear hown3 hgrow3 hat hltg
      go_wp2
      go_ret
      exact ⟨⟨_, rfl, HW3.out.1⟩, HW3.out.2⟩

end Go.Proofs.YtfpllfjdgpcmdaaDoor
