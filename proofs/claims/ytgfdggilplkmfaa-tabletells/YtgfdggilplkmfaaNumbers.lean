/-
  What numbers makes of a table: how many slots there are of each number, as a map.
-/
import Derived.Test.YtgfdggilplkmfaaSMap
namespace Go.Proofs.Ytgfdggilplkmfaa
open Go.RowKit

theorem count_step (l : List Sl) (p : Sl) : updI (fun x => (cnt l x : Int)) p.1 (cnt l p.1 + 1) = fun x => (cnt (l ++ [p]) x : Int) := by
  funext x
  unfold updI
  rw [cnt_snoc]
  by_cases e : x = p.1
  · subst e
    simp
  · have e' : ¬ p.1 = x := fun h => e h.symm
    simp [e, e']

set_option maxRecDepth 100000 in
set_option maxHeartbeats 4000000 in
theorem numbers_any (n0 : Nat) (v : Value) (l : List Sl) (w : World) (h : ArgE n0 w v l) (h64 : l.length ≤ 64) :
    Calls Try.prog 24 #[v] w fun e w' => (∃ b ks, e = .returned (.map (some b)) ∧ IM w' b ks (fun x => (cnt l x : Int)) ∧ w.heap.size ≤ b) ∧ Below w.heap.size w w' := by
  obtain ⟨a, c, rfl, _, hm, _⟩ := h.shape
  obtain ⟨n, hn⟩ : ∃ n, n = l.length := ⟨_, rfl⟩
  rw [← hn] at h hm h64 ⊢
  clear hm
  have hl1 := run_len Try.underlying23 a n c
  have HH : Hid (ArgE n0 w (.slice a n c) l ∧ n = l.length) := ⟨h, hn⟩
  obtain ⟨W, hW⟩ : ∃ W, W = w.alloc (.map #[] 0) := ⟨_, rfl⟩
  have HW : Hid (Below w.heap.size w W ∧ IM W w.heap.size [] (fun _ => 0)) := by
    refine ⟨by rw [hW]; exact (Below.refl _ w).alloc (Nat.le_refl _) _, by rw [hW]; exact IM.made w⟩
  have hmm := @run_makeMap Try.prog
  clear h hn
  go_enter Try.func24, Try.ntmps24
  go_wp2
  rw [← hW]
  clear hW hmm
  go_loopw [9] (fun i wr => ∃ (k : Nat) (ks : List Int), k ≤ n ∧ i = .int .i64 k ∧ Hid (ks.length ≤ k ∧ IM wr w.heap.size ks (fun x => (cnt (l.take k) x : Int)) ∧ Below w.heap.size w wr)) (fun i _ => n - (intOf i).toNat)
  case atStart => exact ⟨0, [], Nat.zero_le _, rfl, Nat.le_refl _, HW.out.2, HW.out.1⟩
  case round =>
    obtain ⟨k, ks, hk, rfl, HF⟩ := hrel
    by_cases hlt : k < n
    · obtain ⟨p, hp⟩ := get_lt (l := l) (k := k) (by rw [← HH.out.2]; exact hlt)
      obtain ⟨b, o, hix, _, c0, c1⟩ := (HH.out.1.below HF.out.2.2).atN k p hp
      have hki : (k : Int) < (n : Int) := by omega
      have hpk := (HH.out.1.2.get hp).1
      have HT : Hid (l.take (k + 1) = l.take k ++ [p]) := take_snoc hp
      obtain ⟨q, x⟩ := p
      simp only at c0 c1 hpk
      obtain ⟨V, hV⟩ : ∃ V, V = wr.alloc (.cells #[.int .i64 q, .int .i64 x] 57) := ⟨_, rfl⟩
      have hbV : Below wr.heap.size wr V := by rw [hV]; exact (Below.refl _ wr).alloc (Nat.le_refl _) _
      have hIV := HF.out.2.1.below hbV
      obtain ⟨hlook, _⟩ := hIV.look hpk
      have hcl : cnt (l.take k) q ≤ 64 := by have := cnt_le (l.take k) q; rw [List.length_take] at this; omega
      obtain ⟨V2, hput, hI2, hg2⟩ := hIV.put (x := (cnt (l.take k) q : Int) + 1) hpk ⟨by omega, by omega⟩ (by have := HF.out.1; omega)
      have HI2 : Hid ((if q ∈ ks then ks else ks ++ [q]).length ≤ k + 1 ∧ IM V2 w.heap.size (if q ∈ ks then ks else ks ++ [q]) (fun x => (cnt (l.take (k + 1)) x : Int)) ∧ Below w.heap.size w V2) := by
        refine ⟨?_, ?_, ?_⟩
        · have := HF.out.1
          split
          · omega
          · rw [List.length_append]; simp; omega
        · rw [HT.out, ← count_step (l.take k) (q, x)]
          exact hI2
        · exact (below_any HF.out.2.2 hbV).grown hg2 (by have := HF.out.2.2.size; have := hbV.size; omega) (fun j hj => by cases hj; exact Nat.le_refl _)
      obtain ⟨cn, hcn⟩ : ∃ cn : Nat, cn = cnt (l.take k) q := ⟨_, rfl⟩
      rw [← hcn] at hlook hput hcl
      rw [hV] at hlook hput
      clear hp hpk hV hbV hIV hI2 hg2 hcn HF HT
      go_wp2
      go_roundw
      case rel => exact ⟨k + 1, _, by omega, by go_num, HI2⟩
      case measure => simp [intOf]; omega
    · obtain rfl : k = n := by omega
      have HI : Hid (IM wr w.heap.size ks (fun x => (cnt l x : Int)) ∧ Below w.heap.size w wr) := by
        have h1 := HF.out
        rw [HH.out.2, List.take_length] at h1
        exact ⟨h1.2.1, h1.2.2⟩
      clear HF
      go_wp2
      go_ret
      exact ⟨⟨_, ks, rfl, HI.out.1, Nat.le_refl _⟩, HI.out.2⟩

end Go.Proofs.Ytgfdggilplkmfaa
