/-
  What SameStrings, slices.Equal and CopyStrings answer; for all lists of texts.
  What follows of the answers: names go through a path; a path's names, or some of the first of them, make a path that is no longer.
-/
import Derived.Test.YtopcefhncildnaaGreatDoorZ39
import Derived.Deep.OwnRows
set_option maxRecDepth 100000
set_option maxHeartbeats 2000000
namespace Go.Proofs.YtopcefhncildnaaGreatDoor.P
open Go.Proofs.YtopcefhncildnaaGreatDoor.D (nameOk nerr two name_any num_any anyL anyL_ren empty_iff)
open Go.RowKit
theorem str_beq (x y : ByteArray) : (x.toList == y.toList) = decide (x = y) := by
 rw [Bool.eq_iff_iff]
 simp only [beq_iff_eq, decide_eq_true_eq]
 constructor
 · intro h
   rw [Lib.toList_data, Lib.toList_data] at h
   rw [← bk_of x, h, bk_of]
 · intro h; rw [h]
theorem take_ne {l m : List ByteArray} {k : Nat} {x y : ByteArray} (hx : l[k]? = some x) (hy : m[k]? = some y) (hne : x ≠ y) : l ≠ m := fun e => hne (by rw [e, hy] at hx; exact (Option.some.inj hx).symm)
theorem same_any (n0 n1 : Nat) (v u : Value) (l m : List ByteArray) (w : World) (h : ArgT n0 w v l) (k : ArgT n1 w u m) :
   Calls Tryz.prog 70 #[v, u] w fun e w' => e = .returned (.bool (decide (l = m))) ∧ ∃ q, w' = w.drewN q := by
 obtain ⟨a, c, rfl, _, hm, _⟩ := h.shape
 obtain ⟨b, d, rfl, _, hm2, _⟩ := k.shape
 unfold maxLen at hm hm2
 obtain ⟨n, hn⟩ := exa (l.length)
 obtain ⟨n2, hn2⟩ := exa (m.length)
 rw [← hn] at h hm ⊢
 rw [← hn2] at k hm2 ⊢
 have hl1 := run_len Tryz.underlying57 a n c
 have hl2 := run_len Tryz.underlying57 b n2 d
 have HH : Hid (ArgT n0 w (.slice a n c) l ∧ n = l.length ∧ ArgT n1 w (.slice b n2 d) m ∧ n2 = m.length) := ⟨h, hn, k, hn2⟩
 obtain ⟨R, hR⟩ := exa (decide (l = m))
 rw [← hR]
 have HR : Hid (R = decide (l = m)) := hR
 clear h k hn hn2 hR
 by_cases hne : n = n2
 · subst hne
   go_enter Tryz.func70, Tryz.ntmps70
   go_wp2
   go_loopw [5] (fun i wr => ∃ k : Nat, k ≤ n ∧ i = .int .i64 k ∧ (∃ q, wr = w.drewN q) ∧ l.take k = m.take k) (fun i _ => n - (intOf i).toNat)
   case atStart => exact ⟨0, Nat.zero_le _, rfl, ⟨0, rfl⟩, rfl⟩
   case round => (
 obtain ⟨k, hk, rfl, ⟨q, hq⟩, htk⟩ := hrel
 have HQ : Hid (∀ r, ∃ q', wr.drewN r = w.drewN q') := fun r => ⟨_, by rw [hq]; exact World.drewN_drewN _ _ _⟩
 have HQ0 : Hid (∃ q', wr = w.drewN q') := ⟨q, hq⟩
 have hb : Below w.heap.size w wr := by rw [hq]; exact below_drewN (Below.refl _ _) q
 clear hq
 by_cases hlt : k < n
 · obtain ⟨x, hx⟩ := get_lt (l := l) (k := k) (by rw [← HH.out.2.1]; exact hlt)
   obtain ⟨y, hy⟩ := get_lt (l := m) (k := k) (by rw [← HH.out.2.2.2]; exact hlt)
   obtain ⟨b1, o1, hix1, _, hc1⟩ := (HH.out.1.below hb).at k x hx
   obtain ⟨b2, o2, hix2, _, hc2⟩ := (HH.out.2.2.1.below hb).at k y hy
   have hki : (k : Int) < (n : Int) := by omega
   have HT : Hid (l.take (k + 1) = l.take k ++ [x] ∧ m.take (k + 1) = m.take k ++ [y] ∧ l.take k = m.take k) := ⟨take_snoc hx, take_snoc hy, htk⟩
   have HX : Hid (l[k]? = some x ∧ m[k]? = some y) := ⟨hx, hy⟩
   have hxy := str_beq x y
   clear hx hy htk hb
   by_cases hex : x = y
   · have hd : (x.toList == y.toList) = true := by rw [hxy]; simp [hex]
     have HT2 : Hid (l.take (k + 1) = m.take (k + 1)) := by show _ = _; rw [HT.out.1, HT.out.2.1, HT.out.2.2, hex]
     clear hxy hex
     go_wp2
     go_quiet (fail)
     go_wp2
     go_roundw
     case rel => exact ⟨k + 1, by omega, by go_num, HQ.out _, HT2.out⟩
     case measure => simp [intOf]; omega
   · have hd : (x.toList == y.toList) = false := by rw [hxy]; simp [hex]
     have HF : Hid (R = false) := by (
 show _ = _
 rw [HR.out]; exact decide_eq_false (take_ne HX.out.1 HX.out.2 hex))
     clear hxy hex
     go_wp2
     go_quiet (fail)
     go_wp2
     go_ret
     exact ⟨by rw [HF.out]; rfl, HQ.out _⟩
 · obtain rfl : k = n := by omega
   have HF : Hid (R = true) := by (
 show _ = _
 rw [HR.out]
 refine decide_eq_true ?_
 have h1 := HH.out.2.1
 have h2 := HH.out.2.2.2
 rw [List.take_of_length_le (by omega), List.take_of_length_le (by omega)] at htk
 exact htk)
   clear htk
   go_wp2
   go_ret
   exact ⟨by rw [HF.out]; rfl, HQ0.out⟩)
 · have hnei : ((n : Int) == (n2 : Int)) = false := by simp; omega
   have HF : Hid (R = false) := by (
 show _ = _
 rw [HR.out]
 exact decide_eq_false fun e => hne (by rw [HH.out.2.1, HH.out.2.2.2, e]))
   go_enter Tryz.func70, Tryz.ntmps70
   go_wp2
   go_ret
   exact ⟨by rw [HF.out]; rfl, 0, rfl⟩
end Go.Proofs.YtopcefhncildnaaGreatDoor.P
namespace Go.Proofs.YtopcefhncildnaaGreatDoor.P
open Go.Proofs.YtopcefhncildnaaGreatDoor.D (nameOk nerr two name_any num_any anyL anyL_ren empty_iff)
open Go.RowKit
theorem serr_zero {s : ByteArray} : serr s = 0 ↔ s.size ≤ 128 ∧ rooted s = true ∧ (pts s).all nameOk = true ∧ (pts s).length ≤ 8 := by
 unfold serr
 constructor
 · intro h
   split at h
   · simp at h
   · split at h
     · simp at h
     · split at h
       · simp at h
       · split at h
         · simp at h
         · rename_i h1 h2 h3 h4
           exact ⟨by omega, by simpa using h2, by simpa using h3, by omega⟩
 · rintro ⟨h1, h2, h3, h4⟩
   simp [h2, h3, show ¬ 128 < s.size by omega, show ¬ 8 < (pts s).length by omega]
theorem sval_zero {s : ByteArray} (h : serr s = 0) : sval s = pts s := by rw [sval, if_pos h]
end Go.Proofs.YtopcefhncildnaaGreatDoor.P
