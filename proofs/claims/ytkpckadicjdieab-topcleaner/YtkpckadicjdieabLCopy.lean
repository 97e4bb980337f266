/-
  Copies of octets and of blocks, in memory of their own.
-/
import Derived.Test.YtkpckadicjdieabLPush
import Derived.Laws.AppendOwnNone
import Derived.Deep.DrawnRows
import Derived.Deep.DeepCutAuto
namespace Go.Proofs.Ytkpckadicjdieab
open Go.RowKit

set_option maxHeartbeats 400000 in
theorem octets_any : Copies 71 := by
  intro n0 v l w h hs
  obtain ⟨i0, hi, hz0, hz1, hz2⟩ := info_parts Try.info5
  have ho := h.oct
  obtain ⟨hl, h | ⟨x, cap, rfl, hcap, hm, _, hc⟩⟩ := h.cells
  · obtain ⟨rfl, h0⟩ := h
    obtain rfl := List.eq_nil_of_length_eq_zero h0
    go_enter Try.func71, Try.ntmps71
    go_wp2_with (at_builtin; refine wpList_append_own_none rfl _ _ 46 rfl w.heap.size 5 i0 1 Try.underlying46 hi (.slice none 0 0) 0 [] rfl (World.ownsRow_nil _ _ _ _) rfl ?_)
    go_ret
    exact ⟨⟨_, rfl, .mk (World.ownsRow_nil _ _ _ _) ho⟩, Below.refl _ _⟩
  · have hone := one_cells l
    go_enter Try.func71, Try.ntmps71
    go_wp2_with (at_builtin; refine wpList_append_own _ rfl _ _ 46 rfl w.heap.size 5 i0 (.int .u8 0) 1 1 Try.underlying46 hi hz0 hz1 hz2 rfl (by decide) (.slice none 0 0) 0 [] rfl (World.ownsRow_nil _ _ _ _) x l.length cap (l.map (Value.int .u8)) rfl (by simp) hc hone (by omega) (by omega) (Nat.le_refl _) ?_)
    intro v' w1 hown hgrow _
    have hb : Below w.heap.size w w1 := (Below.refl _ _).grown hgrow (Nat.le_refl _) (fun _ h => by cases h)
    clear hgrow hc hone
    go_wp2
    go_ret
    exact ⟨⟨v', rfl, .mk (by simpa using hown) ho⟩, hb⟩

/-- Blocks as great as the form reads them. -/
def FitsB (l : List Bk) : Prop := l.length * 40 ≤ 140737488351232 ∧ ∀ p ∈ l, p.2.2.length ≤ 140737488351232

set_option maxRecDepth 100000 in
set_option maxHeartbeats 4000000 in
theorem cblocks_any (n0 : Nat) (v : Value) (l : List Bk) (w : World) (h : bksN.lies n0 w [v] l) (hf : FitsB l) :
    Calls Try.prog 38 #[v] w fun e w' => (∃ v', e = .returned v' ∧ bksN.owns w.heap.size w' [v'] l) ∧ Below w.heap.size w w' := by
  obtain ⟨a, c, e0, _, hm, _⟩ := Shape.list_len (S := bkN) (ht := Try.underlying29) (hc := cells29) h
  obtain rfl : v = _ := by simpa using e0
  have HL : Hid (bksN.lies n0 w [.slice a l.length c] l ∧ ∀ p ∈ l, p.2.2.length ≤ 140737488351232) := ⟨h, hf.2⟩
  obtain ⟨n, hn⟩ : ∃ n, n = l.length := ⟨_, rfl⟩
  have HN : Hid (n = l.length) := hn
  have hnb : n * 40 ≤ 140737488351232 := by rw [hn]; exact hf.1
  rw [← hn] at HL hm ⊢
  unfold maxLen at hm
  have hl1 := run_len Try.underlying29 a n c
  clear h hf hn e0
  go_enter Try.func38, Try.ntmps38
  go_wp2
  go_loopw [3, 8] (fun o i wr => ∃ k : Nat, k ≤ n ∧ i = .int .i64 k ∧ Hid (bksN.owns w.heap.size wr [o] (l.take k) ∧ Below w.heap.size w wr)) (fun _ i _ => n - (intOf i).toNat)
  case atStart => exact ⟨0, Nat.zero_le _, rfl, Shape.list_nil bkN 29 Try.underlying29 cells29 _ _, Below.refl _ _⟩
  case round =>
    obtain ⟨k, hk, rfl, HJ⟩ := hrel
    by_cases hlt : k < n
    · obtain ⟨p, hp⟩ := get_lt (l := l) (k := k) (by rw [← HN.out]; exact hlt)
      obtain ⟨b, o, x, cap, hix, hc0, hc1, hc2, hA, hpo, hpi, _⟩ := bks_atN (bksN.below HL.out.1 HJ.out.2) k p hp
      have HTK : Hid (l.take (k + 1) = l.take k ++ [p] ∧ (l.take k).length = k) := ⟨take_snoc hp, by have := HN.out; rw [List.length_take]; omega⟩
      have HP : Hid (I64 p.1 ∧ I64 p.2.1 ∧ p.2.2.length ≤ 140737488351232 ∧ Arg n0 wr (.slice x p.2.2.length cap) p.2.2) := ⟨hpo, hpi, HL.out.2 p (List.mem_of_getElem? hp), hA⟩
      obtain ⟨po, pi, pd⟩ := p
      simp only at hc0 hc1 hc2 HP
      obtain ⟨m, hm'⟩ : ∃ m, m = pd.length := ⟨_, rfl⟩
      rw [← hm'] at hc2 HP
      obtain ⟨V, hV⟩ : ∃ V, V = wr.alloc (.cells #[.int .i64 po, .int .i64 pi, .slice x m cap] 48) := ⟨_, rfl⟩
      have hbV : Below wr.heap.size wr V := by rw [hV]; exact (Below.refl _ _).alloc (Nat.le_refl _) _
      have hxV : Box V wr.heap.size 48 #[.int .i64 po, .int .i64 pi, .slice x m cap] := by rw [hV]; exact Box.new _ _ _
      have HC := octets_any n0 (.slice x m cap) pd V (HP.out.2.2.2.below hbV) (by have := HP.out.2.2.1; omega)
      have HV : Hid (Below wr.heap.size wr V ∧ Box V wr.heap.size 48 #[.int .i64 po, .int .i64 pi, .slice x m cap]) := ⟨hbV, hxV⟩
      obtain ⟨v0, v1, v2, -⟩ := hxV.three
      have hki : (k : Int) < (n : Int) := by omega
      clear hA hp hpo hpi hm' hbV hxV
      go_upto_region 5 with fail
      rw [← hV]
      clear hV hix hc0 hc1 hc2
      go_wp2_with fail
      refine HC.mono ?_
      rintro e w2 ⟨⟨u2, rfl, hu2⟩, hb2⟩
      obtain ⟨ux, ucap, hu2s⟩ := hu2.shape
      obtain ⟨m2, hm2⟩ : ∃ m2, m2 = pd.length := ⟨_, rfl⟩
      rw [← hm2] at hu2s
      subst hu2s
      clear hm2
      have hx2 := HV.out.2.below hb2 HV.out.2.lt
      obtain ⟨c0, c1, c2, f0, f1, f2⟩ := hx2.three
      obtain ⟨W, hW⟩ : ∃ W, W = w2.setCell ⟨wr.heap.size, 2, none⟩ (.slice ux m2 ucap) := ⟨_, rfl⟩
      have hxW : Box W wr.heap.size 48 #[.int .i64 po, .int .i64 pi, .slice ux m2 ucap] := by rw [hW]; exact hx2.set 2 _
      have hbW : Below wr.heap.size wr W := by rw [hW]; exact (HV.out.1.trans (hb2.mono HV.out.1.size)).setCell (p := ⟨wr.heap.size, 2, none⟩) (Nat.le_refl _) _
      have hsz : W.heap.size = w2.heap.size := by rw [hW]; simp [World.setCell]
      have hoW : Own1 w.heap.size W (.slice ux m2 ucap) pd := by
        rw [hW]
        exact bytesS.oweaken (bytesS.osame hu2 (.set (by exact HV.out.2.lt))) (by have := HV.out.1.size; have := HJ.out.2.size; omega)
      have hbw : w.heap.size ≤ W.heap.size := by have := HJ.out.2.size; have := hbW.size; omega
      obtain ⟨gg, cap3, w4, hrun, hown, hgrow, hsz4⟩ := bkN_append (bksN.obelow HJ.out.1 hbW) hoW HP.out.1 HP.out.2.1 hbw (by rw [HTK.out.2]; omega)
      rw [HTK.out.2] at hrun hown
      rw [← HTK.out.1] at hown
      obtain ⟨_, hrow⟩ := bksN_row (bksN.obelow HJ.out.1 hbW)
      have HF : Hid (bksN.owns w.heap.size w4 [.slice (some ⟨gg, 0, none⟩) (k + 1) cap3] (l.take (k + 1)) ∧ Below w.heap.size w w4) := ⟨hown, below_row (below_any HJ.out.2 hbW) hrow hgrow hbw⟩
      obtain ⟨d0, d1, d2, -⟩ := hxW.three
      clear HC hu2 hb2 hx2 hxW hbW hsz hoW hbw hown hgrow hsz4 hrow HV
      go_upto_region 6 with fail
      rw [← hW]
      clear hW
      go_wp2_with (at_builtin; refine list_app rfl _ _ 29 rfl rfl rfl rfl hrun ?_)
      go_roundw
      case rel => exact ⟨k + 1, by omega, by go_num, HF.out⟩
      case measure => simp [intOf]; omega
    · obtain rfl : k = n := by omega
      have hT : l.take k = l := by rw [HN.out]; simp
      rw [hT] at HJ
      go_wp2
      go_ret
      exact ⟨⟨_, rfl, HJ.out.1⟩, HJ.out.2⟩

end Go.Proofs.Ytkpckadicjdieab
