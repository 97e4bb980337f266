/-
  What Owners answers: the owners of the blocks, rising, each once, in memory of its own.
-/
import Derived.Test.YtmjgamokddedkaaOwnMath
import Derived.Test.YtmjgamokddedkaaSortLaid
import Derived.Test.YtmjgamokddedkaaSmall
import Derived.Sort.OwnSortedInts
import Derived.Lib.OwnBridge
namespace Go.Proofs.Ytmjgamokddedkaa
open Go.RowKit Go.Shelf Go.Sort

/-- Numbers in memory of its own. -/
def OwnI (base : Nat) (w : World) (v : Value) (zs : List Int) : Prop := w.ownsRow base 3 1 v zs.length (zs.map (Value.int .i64))
def owV (s : Sg) : List Int := if chkB s = true then onc (s.2.map fun p => p.1) else []
theorem owV_ok {s : Sg} (h : Chk s) : owV s = onc (s.2.map fun p => p.1) := if_pos (by simp only [chkB, decide_eq_true_eq]; exact h)
theorem owV_bad {s : Sg} (h : ¬ Chk s) : owV s = [] := if_neg (by simp only [chkB, decide_eq_true_eq]; exact h)

/-- What sorting does to a row. -/
theorem sort_row {base n : Nat} {w : World} {v : Value} {zs : List Int} (hz : zs.length = n) (h0 : 0 < n) (h8 : n ≤ 8) (hown : w.ownsRow base 3 1 v n (zs.map (Value.int .i64))) :
    Calls Try.prog 39 #[v] w fun e w' => e = .returned (.tuple #[]) ∧ w'.ownsRow base 3 1 v n ((srt zs).map (Value.int .i64)) ∧ w.grownBy w' v.ownBlock := by
  rcases hown.2 with ⟨_, h1⟩ | ⟨g, cap, cur, rfl, hb, hg, hn, hm, hs, ht⟩
  · omega
  subst hz
  rw [Nat.mul_one] at ht
  have hH := holds_of_blockI hg ht
  have hlt : g < w.heap.size := (Array.getElem?_eq_some_iff.1 hg).1
  have HC := Any.slices_Sort_int sortL g 0 cap zs w hH hlt (by omega)
  change Calls Try.prog 39 _ _ _ at HC
  refine HC.mono ?_
  rintro e w' ⟨rfl, q, os, rfl⟩
  exact ⟨rfl, ownsRow_sortedI (srt_length zs) hb hg hn hm hs, grownBy_sortedI _⟩
/-- What compacting does to it. -/
theorem compact_row {base n : Nat} {w : World} {v : Value} {zs : List Int} (hz : zs.length = n) (h0 : 0 < n) (h8 : n ≤ 8) (hown : w.ownsRow base 3 1 v n (zs.map (Value.int .i64))) :
    Calls Try.prog 40 #[v] w fun e w' => (∃ v', e = .returned v' ∧ OwnI base w' v' (Lib.compact zs)) ∧ Below base w w' := by
  rcases hown.2 with ⟨_, h1⟩ | ⟨g, cap, cur, rfl, hb, hg, hn, hm, hs, ht⟩
  · omega
  subst hz
  rw [Nat.mul_one] at ht
  have hH := holds_of_blockI hg ht
  have hle := Lib.compact_length_le zs
  have HC := Any.slices_Compact_int compactL g 0 cap zs w hH (by omega) hn
  change Calls Try.prog 40 _ _ _ at HC
  refine HC.mono ?_
  rintro e w' ⟨rfl, q, rfl⟩
  refine ⟨⟨_, rfl, ?_⟩, Lib.below_putRow (Below.refl _ _) hb⟩
  have := Lib.ownsRow_putRow (q := q) (k := (Lib.compact zs).length) (ys := Lib.compact zs ++ List.replicate (zs.length - (Lib.compact zs).length) 0) hown (by simp; omega) hle
  rw [List.take_left] at this
  exact this

set_option maxRecDepth 100000 in
set_option maxHeartbeats 4000000 in
theorem owners_any (n0 : Nat) (us : List Value) (s : Sg) (w : World) (h : sgN.lies n0 w us s) :
    Calls Try.prog 15 #[.agg us.toArray] w fun e w' => (∃ v, e = .returned (.tuple #[v, .int .i64 (cerr s)]) ∧ OwnI w.heap.size w' v (owV s)) ∧ Below w.heap.size w w' := by
  obtain ⟨a, c, rfl, hL, hi, hm⟩ := sg_viewN h
  obtain ⟨i0, hi0, hz0, hz1, hz2⟩ := info_parts Try.info3
  obtain ⟨post, hpost⟩ : ∃ post : Ending → World → Prop, post = fun e w' => (∃ v, e = .returned (.tuple #[v, .int .i64 (cerr s)]) ∧ OwnI w.heap.size w' v (owV s)) ∧ Below w.heap.size w w' := ⟨_, rfl⟩
  have HNo : Hid (∀ w', ¬ Chk s → Below w.heap.size w w' → post (.returned (.tuple #[.slice none 0 0, .int .i64 9])) w') := fun w' h1 h2 => by
    rw [hpost, cerr_bad h1, owV_bad h1]
    exact ⟨⟨_, rfl, World.ownsRow_nil _ _ _ _⟩, h2⟩
  have HYes : Hid (∀ v w', Chk s → OwnI w.heap.size w' v (onc (s.2.map fun p => p.1)) → Below w.heap.size w w' → post (.returned (.tuple #[v, .int .i64 0])) w') := fun v w' h1 h2 h3 => by
    rw [hpost, cerr_ok h1, owV_ok h1]
    exact ⟨⟨_, rfl, h2⟩, h3⟩
  rw [← hpost]
  clear hpost
  obtain ⟨W, hW⟩ : ∃ W, W = w.alloc (.cells #[.int .i64 s.1, .slice a s.2.length c] 28) := ⟨_, rfl⟩
  have hbW : Below w.heap.size w W := by rw [hW]; exact (Below.refl _ _).alloc (Nat.le_refl _) _
  have hxW : Box W w.heap.size 28 #[.int .i64 s.1, .slice a s.2.length c] := by rw [hW]; exact Box.new _ _ _
  have HW : Hid (Below w.heap.size w W ∧ Box W w.heap.size 28 #[.int .i64 s.1, .slice a s.2.length c]) := ⟨hbW, hxW⟩
  have HC := check_any _ _ s W (sgN.below h hbW)
  have HL : Hid (bksN.lies n0 w [.slice a s.2.length c] s.2) := hL
  obtain ⟨g0, g1, f0, f1⟩ := hxW.two
  obtain ⟨n, hn⟩ : ∃ n, n = s.2.length := ⟨_, rfl⟩
  obtain ⟨q, hq⟩ : ∃ q, q = s.1 := ⟨_, rfl⟩
  have HN : Hid (n = s.2.length) := hn
  rw [← hn] at HL
  rw [← hn] at g1 HC HW hW ⊢
  rw [← hq] at g0 HC HW hW ⊢
  rw [hW] at g0 g1 f0 f1
  clear h hL hi hm hbW hxW hn hq
  go_enter Try.func15, Try.ntmps15
  go_wp2_with fail
  rw [← hW]
  clear hW g0 g1 f0 f1
  refine HC.mono ?_
  rintro e w1 ⟨rfl, hb1⟩
  have H1 : Hid (Below w.heap.size w w1 ∧ Box w1 w.heap.size 28 #[.int .i64 q, .slice a n c]) := ⟨below_any HW.out.1 hb1, HW.out.2.below hb1 HW.out.2.lt⟩
  clear hb1 HC HW
  by_cases hc : Chk s
  case neg =>
    rw [cerr_bad hc]
    have HE : Hid (post (.returned (.tuple #[.slice none 0 0, .int .i64 9])) w1) := HNo.out w1 hc H1.out.1
    clear hc
    go_wp2
    exact HE.out
  rw [cerr_ok hc]
  have HK : Hid (Chk s) := hc
  have hn8 : 1 ≤ n ∧ n ≤ 8 := by rw [HN.out]; exact hc.2.1
  obtain ⟨g0, g1, f0, f1⟩ := H1.out.2.two
  have hll := run_len Try.underlying26 a n c
  clear hc
  go_wp2
  clear g0 g1 f0 f1
  obtain ⟨hn1, hn2⟩ := hn8
  go_loopw [5, 16] (fun v i wr => ∃ k : Nat, k ≤ n ∧ i = .int .i64 k ∧ Hid (wr.ownsRow w.heap.size 3 1 v k (((s.2.take k).map fun p => p.1).map (Value.int .i64))) ∧ Hid (Below w.heap.size w wr)) (fun _ i _ => n - (intOf i).toNat)
  case atStart => exact ⟨0, Nat.zero_le _, rfl, World.ownsRow_nil _ _ _ _, H1.out.1⟩
  case round =>
    obtain ⟨k, hk, rfl, HO, HB⟩ := hrel
    by_cases hlt : k < n
    · obtain ⟨p, hp⟩ := get_lt (l := s.2) (k := k) (by rw [← HN.out]; exact hlt)
      obtain ⟨b, o, x, cap, hix, p0, p1, p2, -, hpo, hpi, -⟩ := bks_atN (bksN.below HL.out HB.out) k p hp
      have HTK : Hid (s.2.take (k + 1) = s.2.take k ++ [p]) := take_snoc hp
      obtain ⟨po, pi, pd⟩ := p
      simp only at p0 p1 p2
      obtain ⟨m, hm⟩ : ∃ m, m = pd.length := ⟨_, rfl⟩
      rw [← hm] at p2
      obtain ⟨U, hU⟩ : ∃ U, U = wr.alloc (.cells #[.int .i64 po, .int .i64 pi, .slice x m cap] 58) := ⟨_, rfl⟩
      have hbU : Below wr.heap.size wr U := by rw [hU]; exact (Below.refl _ _).alloc (Nat.le_refl _) _
      have hxU : Box U wr.heap.size 58 #[.int .i64 po, .int .i64 pi, .slice x m cap] := by rw [hU]; exact Box.new _ _ _
      obtain ⟨U2, hU2⟩ : ∃ U2, U2 = U.alloc (.cells #[.int .i64 po] 3) := ⟨_, rfl⟩
      have hbU2 : Below U.heap.size U U2 := by rw [hU2]; exact (Below.refl _ _).alloc (Nat.le_refl _) _
      have hUs : U.heap.size = wr.heap.size + 1 := by rw [hU]; simp
      have hxU2 : Box U2 (wr.heap.size + 1) 3 #[.int .i64 po] := by rw [← hUs, hU2]; exact Box.new _ _ _
      have hown2 := own_below (own_below HO.out hbU) hbU2
      obtain ⟨xs, hxs⟩ : ∃ xs, xs = ((s.2.take k).map fun p => p.1).map (Value.int .i64) := ⟨_, rfl⟩
      have HXS : Hid (xs = ((s.2.take k).map fun p => p.1).map (Value.int .i64)) := hxs
      rw [← hxs] at hown2
      clear hxs
      have HB2 : Hid (Below w.heap.size w U2) := below_any (below_any HB.out hbU) hbU2
      have hnews : ∀ (j : Nat) (u : Value), [Value.int .i64 po][j]? = some u → U2.cell? ((⟨wr.heap.size + 1, 0, none⟩ : Addr).add j) = some u := fun j u hu => by
        rw [add_plain, Nat.zero_add]
        exact hxU2.cell j (by simpa using hu)
      obtain ⟨c0, c1, c2, d0, d1, d2⟩ := hxU.three
      have hki : (k : Int) < (n : Int) := by omega
      rw [hU] at c0 c1 c2 d0 d1 d2
      clear hp hm hbU hxU hbU2 hxU2 hpo hpi hUs
      go_wp2_with (at_builtin; rw [← hU, ← hU2]; refine wpList_append_own _ rfl _ _ 40 rfl w.heap.size 3 i0 (.int .i64 0) 1 8 Try.underlying40 hi0 hz0 hz1 hz2 rfl (by decide) u5 k _ rfl hown2 ⟨wr.heap.size + 1, 0, none⟩ 1 1 [.int .i64 po] rfl rfl hnews (by simp [Value.oneCell']) (by unfold maxLen; omega) (by omega) HB2.out.size ?_)
      intro v2 w2 hown3 hgrow _
      rw [← hU, ← hU2] at hgrow
      have HO2 : Hid (w2.ownsRow w.heap.size 3 1 v2 (k + 1) (((s.2.take (k + 1)).map fun p => p.1).map (Value.int .i64))) := by
        show w2.ownsRow _ _ _ _ _ _
        rw [HTK.out, List.map_append, List.map_append, ← HXS.out]
        exact hown3
      have HB3 : Hid (Below w.heap.size w w2) := HB2.out.grown hgrow HB2.out.size (fun j hj => (hown2.lt j hj).1)
      clear hown3 hgrow hown2 hnews hU hU2 c0 c1 c2 d0 d1 d2 p0 p1 p2 hix HO HB HB2
      go_wp2
      go_roundw
      case rel => exact ⟨k + 1, by omega, by go_num, HO2, HB3⟩
      case measure => simp [intOf]; omega
    · obtain rfl : k = n := by omega
      have HZ : Hid (((s.2.take k).map fun p => p.1) = s.2.map fun p => p.1) := by
        show _ = _
        rw [HN.out, List.take_length]
      obtain ⟨zs, hzs⟩ : ∃ zs, zs = (s.2.take k).map fun p => p.1 := ⟨_, rfl⟩
      have hzl : zs.length = k := by rw [hzs, List.length_map, List.length_take]; have := HN.out; omega
      rw [← hzs] at HO HZ
      clear hzs
      have HC := sort_row hzl (by omega) hn2 HO.out
      go_wp2_with fail
      refine HC.mono ?_
      rintro e w3 ⟨rfl, hown3, hgrow3⟩
      have HB3 : Hid (Below w.heap.size w w3) := HB.out.grown hgrow3 HB.out.size (fun j hj => (HO.out.lt j hj).1)
      have HC := compact_row ((srt_length zs).trans hzl) (by omega) hn2 hown3
      clear hown3 hgrow3
      go_wp2_with fail
      refine HC.mono ?_
      rintro e w4 ⟨⟨v4, rfl, hO4⟩, hb4⟩
      have HE : Hid (post (.returned (.tuple #[v4, .int .i64 0])) w4) := HYes.out v4 w4 HK.out (by rw [← HZ.out]; exact hO4) (HB3.out.trans hb4)
      clear hO4 hb4 HC
      go_wp2
      exact HE.out

end Go.Proofs.Ytmjgamokddedkaa
