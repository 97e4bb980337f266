/-
  What CopyLists makes, and what Spoil does to octets that the call owns.
-/
import Derived.Test.YtkeaillmcfnnkaaClone
namespace Go.Proofs.Ytkeaillmcfnnkaa
open Go.RowKit

set_option maxRecDepth 100000 in
set_option maxHeartbeats 2000000 in
theorem copyLists_any (n0 : Nat) (v : Value) (ls : List (List Int)) (w : World) (h : Lists n0 w v ls) (hn : ls.length * 24 ≤ 140737488355328) (hl : ∀ l ∈ ls, l.length ≤ 140737488355328) :
    Calls Try.prog 31 #[v] w fun e w' => ∃ v', e = .returned v' ∧ OwnLists w.heap.size w' v' ls ∧ Below w.heap.size w w' := by
  obtain ⟨a1, c1, rfl, _, hm1, _⟩ := h.shape
  obtain ⟨i2, hi2, hz20, hz21, hz22⟩ := info_parts Try.info26
  have HL : Hid (Lists n0 w (.slice a1 ls.length c1) ls) := h
  obtain ⟨n, hn'⟩ : ∃ n, n = ls.length := ⟨_, rfl⟩
  have HN : Hid (n = ls.length ∧ ∀ l ∈ ls, l.length ≤ 140737488355328) := ⟨hn', hl⟩
  rw [← hn'] at HL hm1 hn ⊢
  unfold maxLen at hm1
  have hl1 := run_len Try.underlying22 a1 n c1
  clear h hn' hl
  go_enter Try.func31, Try.ntmps31
  go_wp2
  go_loopw [3, 4] (fun o i wr => ∃ k : Nat, k ≤ n ∧ i = .int .i64 k ∧ OwnLists w.heap.size wr o (ls.take k) ∧ Below w.heap.size w wr) (fun _ i _ => n - (intOf i).toNat)
  case atStart => exact ⟨0, Nat.zero_le _, rfl, ⟨[], World.ownsRow_nil _ _ _ _, trivial⟩, Below.refl _ _⟩
  case round =>
    obtain ⟨k, hk, rfl, hO, hbel⟩ := hrel
    by_cases hlt : k < n
    · obtain ⟨l, hl⟩ := get_lt (l := ls) (k := k) (by rw [← HN.out.1]; exact hlt)
      obtain ⟨b, o, a, cap, hix, _, hc, hA⟩ := (HL.out.below hbel).at k l hl
      have HTK : Hid (ls.take (k + 1) = ls.take k ++ [l] ∧ (ls.take k).length = k) := ⟨take_snoc hl, by have := HN.out; rw [List.length_take]; omega⟩
      have HLL : Hid (l.length ≤ 140737488355328) := HN.out.2 l (List.mem_of_getElem? hl)
      obtain ⟨us, hown, hE⟩ := hO
      rw [HTK.out.2] at hown
      obtain ⟨a', cap', rfl⟩ := own_shape hown
      have HE : Hid (Each (Own1 w.heap.size wr) us (ls.take k)) := hE
      have HBL : Hid (Below w.heap.size w wr) := hbel
      have HO : Hid (wr.ownsRow w.heap.size 26 1 (.slice a' k cap') k us) := hown
      have HC : Hid (Calls Try.prog 10 #[.slice a l.length cap] wr fun e w' => (∃ v', e = .returned v' ∧ w'.ownsRow wr.heap.size 5 1 v' l.length (l.map (Value.int .u8))) ∧ Below wr.heap.size wr w') := copy_any n0 _ l wr hA HLL.out
      have HAO : Hid (Oct l) := hA.2
      obtain ⟨len, hlen⟩ : ∃ x, x = l.length := ⟨_, rfl⟩
      rw [← hlen] at hc HC
      have HLN : Hid (len = l.length) := hlen
      have hki : (k : Int) < (n : Int) := by omega
      clear hA hl hE hbel hown hlen
      go_wp2_with (first
        | (go_at_call 10; refine HC.out.mono ?_; rintro e w2 ⟨⟨u2, rfl, hu2⟩, hb2⟩; obtain ⟨ux, uc, rfl⟩ := own_shape hu2)
        | (at_builtin; refine wpList_append_lies _ (by rfl) _ _ 22 (by rfl) w.heap.size 26 i2 _ 1 24 Try.underlying22 hi2 hz20 hz21 hz22 rfl (by omega) _ k _ (by rfl) ((own_below HO.out hb2).alloc _) ⟨w2.heap.size, 0, none⟩ 1 1 [.slice ux len uc] (by rfl) (by rfl)
            (World.news_of_block (cs := #[.slice ux len uc]) (t := 26) (fr := (0, 0)) (heap_alloc_new w2 _)) (by simp [Value.oneCell']) (by omega) (by unfold maxLen; omega) (by omega) (by have := hb2.size; have := HBL.out.size; simp; omega) (w2.heap.size + 1) (by simp) ?_; intro gg cap3 w3 hown3 hgrow3 hat hltg
           have hS2 : Same w.heap.size wr (w2.alloc (.cells #[.slice ux len uc] 26)) := Same.trans (.of_below hb2) hb2.size (same_alloc _ _ _)
           have hG3 : OwnLists w.heap.size w3 (.slice (some ⟨gg, 0, none⟩) (k + 1) cap3) (ls.take (k + 1)) := by
            rw [HTK.out.1]
            refine OwnLists.push HTK.out.2 (HE.out.mono fun _ _ h => h.same hS2) (own_same HO.out hS2) ⟨?_, HAO.out⟩ hgrow3 hown3
            rw [← HLN.out]
            exact (own_weaken hu2 HBL.out.size).alloc _
           have hbe3 : Below w.heap.size w w3 := ((below_any HBL.out hb2).alloc (by have := hb2.size; have := HBL.out.size; omega) _).grown hgrow3 (by have := hb2.size; have := HBL.out.size; simp; omega) (fun j hj => (HO.out.lt j hj).1)
           have HG3 : Hid (OwnLists w.heap.size w3 (.slice (some ⟨gg, 0, none⟩) (k + 1) cap3) (ls.take (k + 1)) ∧ Below w.heap.size w w3) := ⟨hG3, hbe3⟩
           clear hown3 hgrow3 hat hltg hS2 hG3 hbe3 hu2))
      go_roundw
      case rel => exact ⟨k + 1, by omega, by go_num, HG3.out⟩
      case measure => simp [intOf]; omega
    · obtain rfl : k = n := by omega
      have hT : ls.take k = ls := by rw [HN.out.1]; simp
      rw [hT] at hO
      clear hT
      go_wp2
      go_ret
      exact ⟨_, rfl, hO, hbel⟩

end Go.Proofs.Ytkeaillmcfnnkaa
