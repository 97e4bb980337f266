/-
  What spread makes of a file that may be: a map of its blocks, in memory of their own.
-/
import Derived.Test.YtgflfmpoeamnnaaMaps
namespace Go.Proofs.Ytgflfmpoeamnnaa
open Go.RowKit

theorem splice_all {d : List Int} (h : d.length = 32) : splice zs 0 d = d := by
  have : zs.length = 32 := rfl
  simp [splice, h, zs]
theorem bd_snoc_upd {l : List Bk} {j : Nat} {d : List Int} (h : ∀ p ∈ l, p.1 ≠ (j : Int)) : bd (l ++ [((j : Int), d)]) = upd (bd l) j d := by
  funext i
  rw [bd_snoc h]
  unfold upd
  by_cases e : i = j
  · subst e; simp
  · rw [if_neg e, if_neg]
    intro e'
    exact e (Int.ofNat_inj.1 e').symm

set_option maxRecDepth 100000 in
set_option maxHeartbeats 4000000 in
theorem spread_any (n0 : Nat) (us : List Value) (f : Fl) (w : World) (h : flN.lies n0 w us f) (hck : chk f = true) :
    Calls Try.prog 29 #[.agg us.toArray] w fun e w' => (∃ b M c, e = .returned (.map (some b)) ∧ MT w.heap.size c w' b M (bd f.2) ∧ c ≤ 76) ∧ Below w.heap.size w w' := by
  obtain ⟨a, c, rfl, hL, hi, hm⟩ := fl_viewN h
  obtain ⟨s, l⟩ := f
  simp only at hL hi hm ⊢
  have HK : Hid ((∀ b ∈ l, 0 ≤ b.1 ∧ b.1 < 76 ∧ b.2.length = 32) ∧ Rise l ∧ l.length ≤ 76) := by
    refine ⟨fun b hb => chk_key hck hb, (chk_iff.1 hck).2.2, ?_⟩
    have := blocks_mkL hck
    simp only at this
    rw [← this]
    exact mkL_length _ _
  have HL : Hid (bksN.lies n0 w [.slice a l.length c] l) := hL
  obtain ⟨n, hn⟩ : ∃ n, n = l.length := ⟨_, rfl⟩
  have HN : Hid (n = l.length) := hn
  rw [← hn] at HL hm ⊢
  unfold maxLen at hm
  have hl1 := run_len Try.underlying26 a n c
  have hmk := make32
  have hmm := @run_makeMap Try.prog
  clear h hL hi hck hn
  go_enter Try.func29, Try.ntmps29
  go_wp2
  go_loopw [11] (fun i wr => ∃ (k : Nat) (M : Nat → Option Nat), k ≤ n ∧ i = .int .i64 k ∧ MT (w.heap.size + 1) k wr (w.heap.size + 1) M (bd (l.take k)) ∧ Hid (∀ j, (M j).isSome = true → ∃ p ∈ l.take k, p.1 = (j : Int)) ∧ Below w.heap.size w wr ∧ Box wr w.heap.size 28 #[.int .i64 s, .slice a n c]) (fun i _ => n - (intOf i).toNat)
  case atStart =>
    refine ⟨0, fun _ => none, Nat.zero_le _, rfl, ?_, (fun j hj => by cases hj), ((Below.refl _ w).alloc (Nat.le_refl _) _).alloc (by simp) _, (Box.new w 28 _).alloc _⟩
    have := MT.made (w.alloc (.cells #[.int .i64 s, .slice a n c] 28)) (w.heap.size + 1) (by simp)
    rw [World.size_alloc] at this
    have e : bd (l.take 0) = fun _ => zs := by funext j; rfl
    rw [e]
    exact this
  case round =>
    obtain ⟨k, M, hk, rfl, hMT, HM, hbel, hbx⟩ := hrel
    by_cases hlt : k < n
    · obtain ⟨p, hp⟩ := get_lt (l := l) (k := k) (by rw [← HN.out]; exact hlt)
      obtain ⟨bb, bo, x, cap, hix, v0, v1, hA, hpi, _⟩ := bks_atN (bksN.below HL.out hbel) k p hp
      obtain ⟨hk0, hk1, hk2⟩ := HK.out.1 p (List.mem_of_getElem? hp)
      have hnot := rise_take HK.out.2.1 hp
      have hts := take_snoc hp
      obtain ⟨bi, d⟩ := p
      simp only at v0 v1 hA hk0 hk1 hk2 hnot
      obtain ⟨j, rfl⟩ : ∃ j : Nat, bi = j := ⟨bi.toNat, by omega⟩
      have HT : Hid (bd (l.take (k + 1)) = upd (bd (l.take k)) j d ∧ l.take (k + 1) = l.take k ++ [((j : Int), d)]) := ⟨by rw [hts, bd_snoc_upd hnot], hts⟩
      have hMj : M j = none := by
        cases hm' : M j with
        | none => rfl
        | some g =>
          obtain ⟨q, hq, e⟩ := HM.out j (by rw [hm']; rfl)
          exact absurd e (hnot q hq)
      obtain ⟨W2, hW2⟩ : ∃ W2, W2 = (wr.alloc (.cells #[.int .i64 (j : Int), .slice x d.length cap] 60)).alloc (.cells zeros32.toArray 5) := ⟨_, rfl⟩
      have hb2 : Below wr.heap.size wr W2 := by rw [hW2]; exact ((Below.refl _ _).alloc (Nat.le_refl _) _).alloc (by simp) _
      have hP2 : Box W2 wr.heap.size 60 #[.int .i64 (j : Int), .slice x d.length cap] := by rw [hW2]; exact (Box.new _ _ _).alloc _
      have hr2 : Row W2 (wr.heap.size + 1) zs := by
        rw [hW2]
        have := row_new (wr.alloc (.cells #[.int .i64 (j : Int), .slice x d.length cap] 60))
        rwa [World.size_alloc] at this
      obtain ⟨W3, hrun, hg3, hgrow, hsz⟩ := run_copy_into W2 (wr.heap.size + 1) 0 32 32 (.slice x d.length cap) d (zs.map (Value.int .u8)) 5 hr2.1 (hA.below hb2) (by omega) (by simp [zs]; omega)
      rw [splice_map, splice_all hk2] at hg3
      have hr3 : Row W3 (wr.heap.size + 1) d := ⟨hg3, hk2, hA.oct⟩
      have hb3 : Below wr.heap.size wr W3 := hb2.grown hgrow hb2.size (fun i hi => by cases hi; omega)
      have hP3 : Box W3 wr.heap.size 60 #[.int .i64 (j : Int), .slice x d.length cap] := hP2.grown hgrow (by simp)
      have hMT3 := hMT.below hb3
      obtain ⟨W4, hupd, hMT4, hgrow4⟩ := hMT3.update hMj (by omega) hr3 (by have := hMT.lt; omega) (fun i hi => by have := (hMT.row hi).2.2.lt; omega) (by have := HK.out.2.2; have := HN.out; omega)
      unfold rowV at hupd
      have HMT : Hid (MT (w.heap.size + 1) (k + 1) W4 (w.heap.size + 1) (upd M j (some (wr.heap.size + 1))) (bd (l.take (k + 1)))) := by
        show MT _ _ _ _ _ _
        rw [HT.out.1]; exact hMT4
      have HM4 : Hid (∀ i, (upd M j (some (wr.heap.size + 1)) i).isSome = true → ∃ p ∈ l.take (k + 1), p.1 = (i : Int)) := fun i hi => by
        rw [HT.out.2]
        by_cases e : i = j
        · subst e; exact ⟨_, List.mem_append_right _ (List.mem_singleton.2 rfl), rfl⟩
        · rw [upd_other _ _ e] at hi
          obtain ⟨q, hq, e'⟩ := HM.out i hi
          exact ⟨q, List.mem_append_left _ hq, e'⟩
      have hbx3 : Box W3 w.heap.size 28 #[.int .i64 s, .slice a n c] := hbx.below hb3 hbx.lt
      have HB4 : Hid (Below w.heap.size w W4 ∧ Box W4 w.heap.size 28 #[.int .i64 s, .slice a n c]) := ⟨(below_any hbel hb3).grown hgrow4 (by have := hbel.size; have := hb3.size; omega) (fun i hi => by cases hi; omega), hbx3.grown hgrow4 (by simp)⟩
      obtain ⟨q0, q1, _, _⟩ := hP2.two
      obtain ⟨r0, r1, _, _⟩ := hP3.two
      have hki : (k : Int) < (n : Int) := by omega
      obtain ⟨dl, hdl⟩ : ∃ y, y = d.length := ⟨_, rfl⟩
      rw [← hdl] at hW2 v1 hrun q1 r1
      rw [hW2] at hrun q0 q1
      clear hA hp hP2 hP3 hb2 hb3 hr2 hr3 hg3 hgrow hsz hMT hMT3 hMT4 hgrow4 hbx hbx3 hbel hW2 hdl hts hnot HM HT
      go_wp2
      go_roundw
      case rel => exact ⟨k + 1, _, by omega, by go_num, HMT.out, HM4, HB4.out.1, HB4.out.2⟩
      case measure => simp [intOf]; omega
    · obtain rfl : k = n := by omega
      have HMT : Hid (MT w.heap.size k wr (w.heap.size + 1) M (bd l)) := by
        obtain ⟨D, h1, h2⟩ := hMT
        rw [HN.out, List.take_length] at h2
        rw [HN.out] at h1 ⊢
        exact ⟨D, h1, { h2 with base := by have := h2.base; omega, row := fun j g hj => ⟨(h2.row j g hj).1, by have := (h2.row j g hj).2.1; omega, (h2.row j g hj).2.2⟩ }⟩
      have hk76 : k ≤ 76 := by have := HK.out.2.2; have := HN.out; omega
      clear hMT HM
      go_wp2
      go_ret
      exact ⟨⟨_, M, k, rfl, HMT.out, hk76⟩, hbel⟩

end Go.Proofs.Ytgflfmpoeamnnaa
