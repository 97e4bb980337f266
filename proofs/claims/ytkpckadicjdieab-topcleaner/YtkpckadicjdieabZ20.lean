import Derived.Test.YtkpckadicjdieabZ11
import Derived.Test.YtkpckadicjdieabZ15
import Derived.Deep.AppendLies
import Derived.Deep.DrawnRows
import Derived.Laws.AppendOwnNone
/-
  What Of makes of the document's segment: the program's, in memory of its own.
-/
namespace Go.Proofs.Ytkpckadicjdieab
open Go.RowKit

set_option maxRecDepth 100000 in
set_option maxHeartbeats 8000000 in
theorem ofBlocks_any (n0 : Nat) (v : Value) (l : List Bk) (w : World) (h : bksR.lies n0 w [v] l) (hf : l.length * 40 ≤ 140737488351232 ∧ ∀ p ∈ l, p.2.2.length ≤ 140737488351232) :
    Calls Try.prog 27 #[v] w fun e w' => (∃ v', e = .returned v' ∧ bksN.owns w.heap.size w' [v'] l) ∧ Below w.heap.size w w' := by
  obtain ⟨a, c, e0, _, hm, _⟩ := Shape.list_len (S := bkR) (ht := Try.underlying24) (hc := cells24) h
  obtain rfl : v = _ := by simpa using e0
  obtain ⟨i3, hi3, hz30, hz31, hz32⟩ := info_parts Try.info48
  have HL : Hid (bksR.lies n0 w [.slice a l.length c] l ∧ ∀ p ∈ l, p.2.2.length ≤ 140737488351232) := ⟨h, hf.2⟩
  obtain ⟨n, hn⟩ : ∃ n, n = l.length := ⟨_, rfl⟩
  have HN : Hid (n = l.length) := hn
  have hnb : n * 40 ≤ 140737488351232 := by rw [hn]; exact hf.1
  rw [← hn] at HL hm ⊢
  unfold maxLen at hm
  have hl1 := run_len Try.underlying24 a n c
  clear h hf hn e0
  go_enter Try.func27, Try.ntmps27
  go_wp2
  go_loopw [3, 4] (fun o i wr => ∃ k : Nat, k ≤ n ∧ i = .int .i64 k ∧ bksN.owns w.heap.size wr [o] (l.take k) ∧ Below w.heap.size w wr) (fun _ i _ => n - (intOf i).toNat)
  case atStart => exact ⟨0, Nat.zero_le _, rfl, Shape.list_nil bkN 29 Try.underlying29 cells29 _ _, Below.refl _ _⟩
  case round =>
    obtain ⟨k, hk, rfl, hO, hbel⟩ := hrel
    by_cases hlt : k < n
    · obtain ⟨p, hp⟩ := get_lt (l := l) (k := k) (by rw [← HN.out]; exact hlt)
      obtain ⟨b, o, x, cap, hix, hc0, hc1, hc2, hA, hpo, hpi, _⟩ := bks_atR HL.out.1 k p hp
      have HTK : Hid (l.take (k + 1) = l.take k ++ [p] ∧ (l.take k).length = k) := ⟨take_snoc hp, by have := HN.out; rw [List.length_take]; omega⟩
      have HLL : Hid (p.2.2.length ≤ 140737488351232) := HL.out.2 p (List.mem_of_getElem? hp)
      have HC : Hid (Calls Try.prog 62 #[.slice x p.2.2.length cap] wr.drew fun e w' => (∃ v', e = .returned v' ∧ Own1 wr.heap.size w' v' p.2.2) ∧ Below wr.heap.size wr w') :=
        (copy_any n0 (.slice x p.2.2.length cap) p.2.2 wr.drew ((hA.below hbel).below (Below.refl _ _).drew) (by have := HLL.out; omega)).mono fun e w' h => ⟨h.1, ((Below.refl _ wr).drew).trans h.2⟩
      obtain ⟨v', vss, hv, hown0, hE⟩ := hO
      obtain rfl : u3 = v' := by simpa using hv
      have hown : wr.ownsRow w.heap.size 48 3 u3 k vss.flatten := by rw [← HTK.out.2]; exact hown0
      obtain ⟨a', cap', rfl⟩ := own_shape hown
      have HE : Hid (Each (bkN.owns w.heap.size wr) vss (l.take k)) := hE
      have HBL : Hid (Below w.heap.size w wr) := hbel
      have HO : Hid (wr.ownsRow w.heap.size 48 3 (.slice a' k cap') k vss.flatten) := hown
      have hki : (k : Int) < (n : Int) := by omega
      obtain ⟨po, pi, pd⟩ := p
      simp only at hc0 hc1 hc2 HC HLL hpi hpo
      have HPI : Hid (I64 po ∧ I64 pi) := ⟨hpo, hpi⟩
      obtain ⟨m, hm'⟩ : ∃ m, m = pd.length := ⟨_, rfl⟩
      have HM : Hid (m = pd.length) := hm'
      rw [← hm'] at hc2 HC
      have HS : Hid (∀ V, Below w.heap.size w V → V.cell? ⟨b, o, none⟩ = some (.int .i64 po) ∧ V.cell? ⟨b, o + 1, none⟩ = some (.int .i64 pi) ∧ V.cell? ⟨b, o + 2, none⟩ = some (.slice x m cap)) := fun V hb => ⟨by rw [hb.cell (cell_lt hc0)]; exact hc0, by rw [hb.cell (cell_lt hc1)]; exact hc1, by rw [hb.cell (cell_lt hc2)]; exact hc2⟩
      clear hA hp hE hbel hown hown0 hv hpi hpo hm' hc0 hc1 hc2
      go_wp2
      refine AnyBut.begin (fun W => W.cell? ⟨b, o, none⟩ = some (.int .i64 po) ∧ W.cell? ⟨b, o + 1, none⟩ = some (.int .i64 pi) ∧ W.cell? ⟨b, o + 2, none⟩ = some (.slice x m cap)) 1000 (by kernel_rfl) ?_
      have hSS := HS.out wr.drew HBL.out.drew
      refine tx 0 11 hSS ?_
      simp only [Go.Proofs.Ytkpckadicjdieab.ua, Go.Proofs.Ytkpckadicjdieab.ub, Go.Proofs.Ytkpckadicjdieab.uc, Go.Proofs.Ytkpckadicjdieab.ud]
      refine tx 1 12 hSS ?_
      simp only [Go.Proofs.Ytkpckadicjdieab.ua, Go.Proofs.Ytkpckadicjdieab.ub, Go.Proofs.Ytkpckadicjdieab.uc, Go.Proofs.Ytkpckadicjdieab.ud]
      refine tx 2 13 hSS ?_
      simp only [Go.Proofs.Ytkpckadicjdieab.ua, Go.Proofs.Ytkpckadicjdieab.ub, Go.Proofs.Ytkpckadicjdieab.uc, Go.Proofs.Ytkpckadicjdieab.ud]
      refine tx 3 14 hSS ?_
      simp only [Go.Proofs.Ytkpckadicjdieab.ua, Go.Proofs.Ytkpckadicjdieab.ub, Go.Proofs.Ytkpckadicjdieab.uc, Go.Proofs.Ytkpckadicjdieab.ud]
      refine tx 4 15 hSS ?_
      simp only [Go.Proofs.Ytkpckadicjdieab.ua, Go.Proofs.Ytkpckadicjdieab.ub, Go.Proofs.Ytkpckadicjdieab.uc, Go.Proofs.Ytkpckadicjdieab.ud]
      refine tx 5 16 hSS ?_
      simp only [Go.Proofs.Ytkpckadicjdieab.ua, Go.Proofs.Ytkpckadicjdieab.ub, Go.Proofs.Ytkpckadicjdieab.uc, Go.Proofs.Ytkpckadicjdieab.ud]
      refine tx 6 17 hSS ?_
      simp only [Go.Proofs.Ytkpckadicjdieab.ua, Go.Proofs.Ytkpckadicjdieab.ub, Go.Proofs.Ytkpckadicjdieab.uc, Go.Proofs.Ytkpckadicjdieab.ud]
      refine tx 7 18 hSS ?_
      simp only [Go.Proofs.Ytkpckadicjdieab.ua, Go.Proofs.Ytkpckadicjdieab.ub, Go.Proofs.Ytkpckadicjdieab.uc, Go.Proofs.Ytkpckadicjdieab.ud]
      refine tx 8 19 hSS ?_
      simp only [Go.Proofs.Ytkpckadicjdieab.ua, Go.Proofs.Ytkpckadicjdieab.ub, Go.Proofs.Ytkpckadicjdieab.uc, Go.Proofs.Ytkpckadicjdieab.ud]
      refine tx 9 20 hSS ?_
      simp only [Go.Proofs.Ytkpckadicjdieab.ua, Go.Proofs.Ytkpckadicjdieab.ub, Go.Proofs.Ytkpckadicjdieab.uc, Go.Proofs.Ytkpckadicjdieab.ud]
      refine tx 10 21 hSS ?_
      simp only [Go.Proofs.Ytkpckadicjdieab.ua, Go.Proofs.Ytkpckadicjdieab.ub, Go.Proofs.Ytkpckadicjdieab.uc, Go.Proofs.Ytkpckadicjdieab.ud]
      refine tx 11 22 hSS ?_
      simp only [Go.Proofs.Ytkpckadicjdieab.ua, Go.Proofs.Ytkpckadicjdieab.ub, Go.Proofs.Ytkpckadicjdieab.uc, Go.Proofs.Ytkpckadicjdieab.ud]
      refine tx 12 23 hSS ?_
      simp only [Go.Proofs.Ytkpckadicjdieab.ua, Go.Proofs.Ytkpckadicjdieab.ub, Go.Proofs.Ytkpckadicjdieab.uc, Go.Proofs.Ytkpckadicjdieab.ud]
      refine tx 13 24 hSS ?_
      simp only [Go.Proofs.Ytkpckadicjdieab.ua, Go.Proofs.Ytkpckadicjdieab.ub, Go.Proofs.Ytkpckadicjdieab.uc, Go.Proofs.Ytkpckadicjdieab.ud]
      refine tx 14 25 hSS ?_
      simp only [Go.Proofs.Ytkpckadicjdieab.ua, Go.Proofs.Ytkpckadicjdieab.ub, Go.Proofs.Ytkpckadicjdieab.uc, Go.Proofs.Ytkpckadicjdieab.ud]
      refine tx 15 26 hSS ?_
      simp only [Go.Proofs.Ytkpckadicjdieab.ua, Go.Proofs.Ytkpckadicjdieab.ub, Go.Proofs.Ytkpckadicjdieab.uc, Go.Proofs.Ytkpckadicjdieab.ud]
      refine AnyBut.step (i := 16) (by kernel_rfl) rfl (fun K hK => ?_)
      go_simp
      refine Calls.mono HC.out ?_
      rintro e w2 ⟨⟨u2, rfl, hu2⟩, hb2⟩
      obtain ⟨ux, ucap, rfl⟩ := hu2.shape
      rw [← HM.out] at hu2 ⊢
      have hbw2 := below_any HBL.out hb2
      dsimp only
      refine hK.out _ _ (HS.out w2 hbw2) ?_
      clear hK hSS
      have hSS := HS.out w2 hbw2
      refine tx 17 28 hSS ?_
      simp only [Go.Proofs.Ytkpckadicjdieab.ua, Go.Proofs.Ytkpckadicjdieab.ub, Go.Proofs.Ytkpckadicjdieab.uc, Go.Proofs.Ytkpckadicjdieab.ud]
      refine AnyBut.step (i := 18) (by kernel_rfl) rfl (fun K hK => ?_)
      go_simp
      refine hK.out _ _ (HS.out (w2.alloc (.cells #[.int .i64 po, .int .i64 pi, .slice ux m ucap] 48)) (hbw2.alloc hbw2.size _)) ?_
      clear hK hSS
      have hSS := HS.out (w2.alloc (.cells #[.int .i64 po, .int .i64 pi, .slice ux m ucap] 48)) (hbw2.alloc hbw2.size _)
      refine AnyBut.step (i := 19) (by kernel_rfl) rfl (fun K hK => ?_)
      refine step_append_lies _ (by rfl) _ _ _ (by rfl) w.heap.size 48 i3 _ 3 40 Try.underlying29 hi3 hz30 hz31 hz32 rfl (by omega) _ k _ (by rfl) ((own_below HO.out hb2).alloc _) ⟨w2.heap.size, 0, none⟩ 1 1 [.int .i64 po, .int .i64 pi, .slice ux m ucap] (by rfl) (by rfl)
        (World.news_of_block (cs := #[.int .i64 po, .int .i64 pi, .slice ux m ucap]) (t := 48) (fr := (0, 0)) (heap_alloc_new w2 _)) (by simp [Value.oneCell']) (by omega) (by unfold maxLen; omega) (by omega) (by have := hbw2.size; simp; omega) (w2.heap.size + 1) (by simp) ?_
      intro gg cap3 w3 hown3 hgrow3 hat hltg
      have hbe3 : Below w.heap.size w w3 := (hbw2.alloc hbw2.size _).grown hgrow3 (by have := hbw2.size; simp; omega) (fun j hj => (HO.out.lt j hj).1)
      refine hK.out _ _ (HS.out w3 hbe3) ?_
      clear hK hSS
      have hSS := HS.out w3 hbe3
      refine AnyBut.step (i := 20) (by kernel_rfl) rfl (fun K hK => ?_)
      go_simp
      refine hK.out _ _ hSS ?_
      clear hK hSS
      refine AnyBut.done (by kernel_rfl) ?_
      have hS2 : Same w.heap.size wr (w2.alloc (.cells #[.int .i64 po, .int .i64 pi, .slice ux m ucap] 48)) := Same.trans (.of_below hb2) hb2.size (.alloc _ _ _)
      have hG3 : bksN.owns w.heap.size w3 [.slice (some ⟨gg, 0, none⟩) (k + 1) cap3] (l.take (k + 1)) := by
        rw [HTK.out.1]
        refine Shape.list_push (S := bkN) (ht := Try.underlying29) (hc := cells29) (us := [.int .i64 po, .int .i64 pi, .slice ux m ucap]) (by decide) (HE.out.mono fun _ _ h => bkN.osame h hS2) (by rw [HTK.out.2]; exact own_same HO.out hS2) ?_ hgrow3 ?_
        · refine bk_omk (p := (po, pi, pd)) (bytesS.osame (bytesS.oweaken (by rw [HM.out] at hu2; rw [HM.out]; exact hu2) HBL.out.size) (.alloc _ _ _)) HPI.out.1 HPI.out.2
        · rw [HTK.out.2]
          exact hown3
      have HBB : Hid (bksN.owns w.heap.size w3 [.slice (some ⟨gg, 0, none⟩) (k + 1) cap3] (l.take (k + 1)) ∧ Below w.heap.size w w3) := ⟨hG3, hbe3⟩
      clear hown3 hgrow3 hat hltg hG3 hS2 hu2 hbe3 hbw2 hix
      go_wp2
      go_roundw
      case rel => exact ⟨k + 1, by omega, by go_num, HBB.out⟩
      case measure => simp [intOf]; omega
    · obtain rfl : k = n := by omega
      have hT : l.take k = l := by rw [HN.out]; simp
      rw [hT] at hO
      have HO : Hid (bksN.owns w.heap.size wr [u3] l ∧ Below w.heap.size w wr) := ⟨hO, hbel⟩
      clear hO hbel hT
      go_wp2
      go_ret
      exact ⟨⟨_, rfl, HO.out.1⟩, HO.out.2⟩

set_option maxRecDepth 100000 in
set_option maxHeartbeats 4000000 in
theorem of_any (n0 : Nat) (us : List Value) (s : Sg) (w : World) (h : sgR.lies n0 w us s) (hf : Fits s) :
    Calls Try.prog 28 #[.agg us.toArray] w fun e w' => (∃ us', e = .returned (.agg us'.toArray) ∧ sgN.owns w.heap.size w' us' s) ∧ Below w.heap.size w w' := by
  obtain ⟨a, c, rfl, hL, hi, hm⟩ := sg_viewR h
  obtain ⟨q, l⟩ := s
  simp only at hL hi hm hf ⊢
  obtain ⟨W, hW⟩ : ∃ W, W = (w.alloc (.cells #[.int .i64 q, .slice a l.length c] 36)).alloc (.cells #[.int .i64 0, .slice none 0 0] 45) := ⟨_, rfl⟩
  have hb : Below w.heap.size w W := by rw [hW]; exact ((Below.refl _ w).alloc (Nat.le_refl _) _).alloc (by simp) _
  have hB1 : Box W w.heap.size 36 #[.int .i64 q, .slice a l.length c] := by rw [hW]; exact (Box.new _ _ _).alloc _
  have hB2 : Box W (w.heap.size + 1) 45 #[.int .i64 0, .slice none 0 0] := by
    rw [hW]
    have := Box.new (w.alloc (.cells #[.int .i64 q, .slice a l.length c] 36)) 45 #[.int .i64 0, .slice none 0 0]
    rwa [World.size_alloc] at this
  have HW : Hid (Below w.heap.size w W ∧ W.heap.size = w.heap.size + 2 ∧ I64 q) := ⟨hb, by rw [hW]; simp, hi⟩
  have HC := ofBlocks_any n0 (.slice a l.length c) l W.drew (bksR.below (bksR.below hL hb) (Below.refl _ W).drew) hf
  obtain ⟨n, hn⟩ : ∃ n, n = l.length := ⟨_, rfl⟩
  have HN : Hid (n = l.length) := hn
  rw [← hn] at HC hB1 hW ⊢
  have HB : Hid (∀ V, Below W.heap.size W V → V.cell? ⟨w.heap.size, 0, none⟩ = some (.int .i64 q) ∧ V.cell? ⟨w.heap.size, 1, none⟩ = some (.slice a n c)) := fun V hV => by
    obtain ⟨g0, g1, -, -⟩ := (hB1.below hV hB1.lt).two
    exact ⟨g0, g1⟩
  have HB2 : Hid (∀ V, Below W.heap.size W V → Box V (w.heap.size + 1) 45 #[.int .i64 0, .slice none 0 0] ∧ Box V w.heap.size 36 #[.int .i64 q, .slice a n c]) := fun V hV => ⟨hB2.below hV hB2.lt, hB1.below hV hB1.lt⟩
  clear h hL hi hm hf hb hB1 hB2 hn
  go_enter Try.func28, Try.ntmps28
  go_wp2
  rw [← hW]
  clear hW
  refine AnyBut.begin (fun V => V.cell? ⟨w.heap.size, 0, none⟩ = some (.int .i64 q) ∧ V.cell? ⟨w.heap.size, 1, none⟩ = some (.slice a n c)) 1000 (by kernel_rfl) ?_
  have hSS := HB.out W.drew (Below.refl _ W).drew
  refine tx 0 3 hSS ?_
  simp only [ua, ub, uc, ud]
  refine tx 1 4 hSS ?_
  simp only [ua, ub, uc, ud]
  refine tx 2 5 hSS ?_
  simp only [ua, ub, uc, ud]
  refine tx 3 6 hSS ?_
  simp only [ua, ub, uc, ud]
  refine AnyBut.step (i := 4) (by kernel_rfl) rfl (fun K hK => ?_)
  go_simp
  refine Calls.mono HC ?_
  rintro e w2 ⟨⟨v2, rfl, hv2⟩, hb2⟩
  have hb2 : Below W.heap.size W w2 := below_any (Below.refl _ W).drew hb2
  dsimp only
  refine hK.out _ _ (HB.out w2 hb2) ?_
  clear hK hSS
  have hSS := HB.out w2 hb2
  obtain ⟨a2, c2, _, hv, -, -⟩ := Shape.list_own (S := bkN) (ht := Try.underlying29) (hc := cells29) hv2
  obtain rfl : v2 = _ := by simpa using hv
  rw [← HN.out] at hv2 ⊢
  refine tx 5 8 hSS ?_
  simp only [ua, ub, uc, ud]
  obtain ⟨d0, d1, e0, e1⟩ := (HB2.out w2 hb2).1.two
  have HV2 : Hid (bksN.owns W.drew.heap.size w2 [.slice a2 n c2] l ∧ Below W.heap.size W w2) := ⟨hv2, hb2⟩
  have hS3 := (((HB2.out w2 hb2).2.other (B' := w.heap.size + 1) (i := 0) (x := .int .i64 q) (by omega)).other (B' := w.heap.size + 1) (i := 1) (x := .slice a2 n c2) (by omega)).two
  refine AnyBut.step (i := 6) (by kernel_rfl) rfl (fun K hK => ?_)
  go_simp
  refine hK.out _ _ ⟨hS3.1, hS3.2.1⟩ ?_
  clear hK hSS hS3 hv hv2 hb2 HC
  refine AnyBut.done (by kernel_rfl) ?_
  go_wp2
  refine bodyPost_ret (v := .agg #[.int .i64 q, .slice a2 n c2]) (by simp [results, Try.results28, go_sem, *]) rfl ⟨⟨[_, _], rfl, ?_⟩, ?_⟩
  · have h1 := HW.out
    have h2 := HV2.out.1
    rw [HN.out] at h2 ⊢
    exact sgN.oweaken (n := W.drew.heap.size) (sgN.osame (sg_omkN (s := (q, l)) h2 h1.2.2) (.set2 (by have : W.drew.heap.size = W.heap.size := rfl; omega))) (by have : W.drew.heap.size = W.heap.size := rfl; omega)
  · exact below_set2 (below_any HW.out.1 HV2.out.2) (by omega) _ _

end Go.Proofs.Ytkpckadicjdieab

/-
  The document's copies of octets and of blocks.
-/
namespace Go.Proofs.Ytkpckadicjdieab
open Go.RowKit

set_option maxHeartbeats 400000 in
theorem rcopied_any : Copies 78 := by
  intro n0 v l w h hs
  obtain ⟨i0, hi, hz0, hz1, hz2⟩ := info_parts Try.info5
  have ho := h.oct
  obtain ⟨hl, h | ⟨x, cap, rfl, hcap, hm, _, hc⟩⟩ := h.cells
  · obtain ⟨rfl, h0⟩ := h
    obtain rfl := List.eq_nil_of_length_eq_zero h0
    go_enter Try.func78, Try.ntmps78
    go_wp2_with (at_builtin; refine wpList_append_own_none rfl _ _ 46 rfl w.heap.size 5 i0 1 Try.underlying46 hi (.slice none 0 0) 0 [] rfl (World.ownsRow_nil _ _ _ _) rfl ?_)
    go_ret
    exact ⟨⟨_, rfl, .mk (World.ownsRow_nil _ _ _ _) ho⟩, Below.refl _ _⟩
  · have hone := one_cells l
    go_enter Try.func78, Try.ntmps78
    go_wp2_with (at_builtin; refine wpList_append_own _ rfl _ _ 46 rfl w.heap.size 5 i0 (.int .u8 0) 1 1 Try.underlying46 hi hz0 hz1 hz2 rfl (by decide) (.slice none 0 0) 0 [] rfl (World.ownsRow_nil _ _ _ _) x l.length cap (l.map (Value.int .u8)) rfl (by simp) hc hone (by omega) (by omega) (Nat.le_refl _) ?_)
    intro v' w1 hown hgrow _
    have hb : Below w.heap.size w w1 := (Below.refl _ _).grown hgrow (Nat.le_refl _) (fun _ h => by cases h)
    clear hgrow hc hone
    go_wp2
    go_ret
    exact ⟨⟨v', rfl, .mk (by simpa using hown) ho⟩, hb⟩

set_option maxRecDepth 100000 in
set_option maxHeartbeats 8000000 in
theorem rown_any (n0 : Nat) (v : Value) (l : List Bk) (w : World) (h : bksR.lies n0 w [v] l) (hf : l.length * 40 ≤ 140737488351232 ∧ ∀ p ∈ l, p.2.2.length ≤ 140737488351232) :
    Calls Try.prog 77 #[v] w fun e w' => (∃ v', e = .returned v' ∧ bksR.owns w.heap.size w' [v'] l) ∧ Below w.heap.size w w' := by
  obtain ⟨a, c, e0, _, hm, _⟩ := Shape.list_len (S := bkR) (ht := Try.underlying24) (hc := cells24) h
  obtain rfl : v = _ := by simpa using e0
  obtain ⟨i3, hi3, hz30, hz31, hz32⟩ := info_parts Try.info97
  have HL : Hid (bksR.lies n0 w [.slice a l.length c] l ∧ ∀ p ∈ l, p.2.2.length ≤ 140737488351232) := ⟨h, hf.2⟩
  obtain ⟨n, hn⟩ : ∃ n, n = l.length := ⟨_, rfl⟩
  have HN : Hid (n = l.length) := hn
  have hnb : n * 40 ≤ 140737488351232 := by rw [hn]; exact hf.1
  rw [← hn] at HL hm ⊢
  unfold maxLen at hm
  have hl1 := run_len Try.underlying24 a n c
  clear h hf hn e0
  go_enter Try.func77, Try.ntmps77
  go_wp2
  go_loopw [3, 4] (fun o i wr => ∃ k : Nat, k ≤ n ∧ i = .int .i64 k ∧ bksR.owns w.heap.size wr [o] (l.take k) ∧ Below w.heap.size w wr) (fun _ i _ => n - (intOf i).toNat)
  case atStart => exact ⟨0, Nat.zero_le _, rfl, Shape.list_nil bkR 24 Try.underlying24 cells24 _ _, Below.refl _ _⟩
  case round =>
    obtain ⟨k, hk, rfl, hO, hbel⟩ := hrel
    by_cases hlt : k < n
    · obtain ⟨p, hp⟩ := get_lt (l := l) (k := k) (by rw [← HN.out]; exact hlt)
      obtain ⟨b, o, x, cap, hix, hc0, hc1, hc2, hA, hpo, hpi, _⟩ := bks_atR HL.out.1 k p hp
      have HTK : Hid (l.take (k + 1) = l.take k ++ [p] ∧ (l.take k).length = k) := ⟨take_snoc hp, by have := HN.out; rw [List.length_take]; omega⟩
      have HLL : Hid (p.2.2.length ≤ 140737488351232) := HL.out.2 p (List.mem_of_getElem? hp)
      have HC : Hid (Calls Try.prog 78 #[.slice x p.2.2.length cap] wr.drew fun e w' => (∃ v', e = .returned v' ∧ Own1 wr.heap.size w' v' p.2.2) ∧ Below wr.heap.size wr w') :=
        (rcopied_any n0 (.slice x p.2.2.length cap) p.2.2 wr.drew ((hA.below hbel).below (Below.refl _ _).drew) (by have := HLL.out; omega)).mono fun e w' h => ⟨h.1, ((Below.refl _ wr).drew).trans h.2⟩
      obtain ⟨v', vss, hv, hown0, hE⟩ := hO
      obtain rfl : u3 = v' := by simpa using hv
      have hown : wr.ownsRow w.heap.size 97 3 u3 k vss.flatten := by rw [← HTK.out.2]; exact hown0
      obtain ⟨a', cap', rfl⟩ := own_shape hown
      have HE : Hid (Each (bkR.owns w.heap.size wr) vss (l.take k)) := hE
      have HBL : Hid (Below w.heap.size w wr) := hbel
      have HO : Hid (wr.ownsRow w.heap.size 97 3 (.slice a' k cap') k vss.flatten) := hown
      have hki : (k : Int) < (n : Int) := by omega
      obtain ⟨po, pi, pd⟩ := p
      simp only at hc0 hc1 hc2 HC HLL hpi hpo
      have HPI : Hid (I64 po ∧ I64 pi) := ⟨hpo, hpi⟩
      obtain ⟨m, hm'⟩ : ∃ m, m = pd.length := ⟨_, rfl⟩
      have HM : Hid (m = pd.length) := hm'
      rw [← hm'] at hc2 HC
      have HS : Hid (∀ V, Below w.heap.size w V → V.cell? ⟨b, o, none⟩ = some (.int .i64 po) ∧ V.cell? ⟨b, o + 1, none⟩ = some (.int .i64 pi) ∧ V.cell? ⟨b, o + 2, none⟩ = some (.slice x m cap)) := fun V hb => ⟨by rw [hb.cell (cell_lt hc0)]; exact hc0, by rw [hb.cell (cell_lt hc1)]; exact hc1, by rw [hb.cell (cell_lt hc2)]; exact hc2⟩
      clear hA hp hE hbel hown hown0 hv hpi hpo hm' hc0 hc1 hc2
      go_wp2
      refine AnyBut.begin (fun W => W.cell? ⟨b, o, none⟩ = some (.int .i64 po) ∧ W.cell? ⟨b, o + 1, none⟩ = some (.int .i64 pi) ∧ W.cell? ⟨b, o + 2, none⟩ = some (.slice x m cap)) 1000 (by kernel_rfl) ?_
      have hSS := HS.out wr.drew HBL.out.drew
      refine tx 0 11 hSS ?_
      simp only [Go.Proofs.Ytkpckadicjdieab.ua, Go.Proofs.Ytkpckadicjdieab.ub, Go.Proofs.Ytkpckadicjdieab.uc, Go.Proofs.Ytkpckadicjdieab.ud]
      refine tx 1 12 hSS ?_
      simp only [Go.Proofs.Ytkpckadicjdieab.ua, Go.Proofs.Ytkpckadicjdieab.ub, Go.Proofs.Ytkpckadicjdieab.uc, Go.Proofs.Ytkpckadicjdieab.ud]
      refine tx 2 13 hSS ?_
      simp only [Go.Proofs.Ytkpckadicjdieab.ua, Go.Proofs.Ytkpckadicjdieab.ub, Go.Proofs.Ytkpckadicjdieab.uc, Go.Proofs.Ytkpckadicjdieab.ud]
      refine tx 3 14 hSS ?_
      simp only [Go.Proofs.Ytkpckadicjdieab.ua, Go.Proofs.Ytkpckadicjdieab.ub, Go.Proofs.Ytkpckadicjdieab.uc, Go.Proofs.Ytkpckadicjdieab.ud]
      refine tx 4 15 hSS ?_
      simp only [Go.Proofs.Ytkpckadicjdieab.ua, Go.Proofs.Ytkpckadicjdieab.ub, Go.Proofs.Ytkpckadicjdieab.uc, Go.Proofs.Ytkpckadicjdieab.ud]
      refine tx 5 16 hSS ?_
      simp only [Go.Proofs.Ytkpckadicjdieab.ua, Go.Proofs.Ytkpckadicjdieab.ub, Go.Proofs.Ytkpckadicjdieab.uc, Go.Proofs.Ytkpckadicjdieab.ud]
      refine tx 6 17 hSS ?_
      simp only [Go.Proofs.Ytkpckadicjdieab.ua, Go.Proofs.Ytkpckadicjdieab.ub, Go.Proofs.Ytkpckadicjdieab.uc, Go.Proofs.Ytkpckadicjdieab.ud]
      refine tx 7 18 hSS ?_
      simp only [Go.Proofs.Ytkpckadicjdieab.ua, Go.Proofs.Ytkpckadicjdieab.ub, Go.Proofs.Ytkpckadicjdieab.uc, Go.Proofs.Ytkpckadicjdieab.ud]
      refine tx 8 19 hSS ?_
      simp only [Go.Proofs.Ytkpckadicjdieab.ua, Go.Proofs.Ytkpckadicjdieab.ub, Go.Proofs.Ytkpckadicjdieab.uc, Go.Proofs.Ytkpckadicjdieab.ud]
      refine tx 9 20 hSS ?_
      simp only [Go.Proofs.Ytkpckadicjdieab.ua, Go.Proofs.Ytkpckadicjdieab.ub, Go.Proofs.Ytkpckadicjdieab.uc, Go.Proofs.Ytkpckadicjdieab.ud]
      refine tx 10 21 hSS ?_
      simp only [Go.Proofs.Ytkpckadicjdieab.ua, Go.Proofs.Ytkpckadicjdieab.ub, Go.Proofs.Ytkpckadicjdieab.uc, Go.Proofs.Ytkpckadicjdieab.ud]
      refine tx 11 22 hSS ?_
      simp only [Go.Proofs.Ytkpckadicjdieab.ua, Go.Proofs.Ytkpckadicjdieab.ub, Go.Proofs.Ytkpckadicjdieab.uc, Go.Proofs.Ytkpckadicjdieab.ud]
      refine tx 12 23 hSS ?_
      simp only [Go.Proofs.Ytkpckadicjdieab.ua, Go.Proofs.Ytkpckadicjdieab.ub, Go.Proofs.Ytkpckadicjdieab.uc, Go.Proofs.Ytkpckadicjdieab.ud]
      refine tx 13 24 hSS ?_
      simp only [Go.Proofs.Ytkpckadicjdieab.ua, Go.Proofs.Ytkpckadicjdieab.ub, Go.Proofs.Ytkpckadicjdieab.uc, Go.Proofs.Ytkpckadicjdieab.ud]
      refine tx 14 25 hSS ?_
      simp only [Go.Proofs.Ytkpckadicjdieab.ua, Go.Proofs.Ytkpckadicjdieab.ub, Go.Proofs.Ytkpckadicjdieab.uc, Go.Proofs.Ytkpckadicjdieab.ud]
      refine tx 15 26 hSS ?_
      simp only [Go.Proofs.Ytkpckadicjdieab.ua, Go.Proofs.Ytkpckadicjdieab.ub, Go.Proofs.Ytkpckadicjdieab.uc, Go.Proofs.Ytkpckadicjdieab.ud]
      refine AnyBut.step (i := 16) (by kernel_rfl) rfl (fun K hK => ?_)
      go_simp
      refine Calls.mono HC.out ?_
      rintro e w2 ⟨⟨u2, rfl, hu2⟩, hb2⟩
      obtain ⟨ux, ucap, rfl⟩ := hu2.shape
      rw [← HM.out] at hu2 ⊢
      have hbw2 := below_any HBL.out hb2
      dsimp only
      refine hK.out _ _ (HS.out w2 hbw2) ?_
      clear hK hSS
      have hSS := HS.out w2 hbw2
      refine tx 17 28 hSS ?_
      simp only [Go.Proofs.Ytkpckadicjdieab.ua, Go.Proofs.Ytkpckadicjdieab.ub, Go.Proofs.Ytkpckadicjdieab.uc, Go.Proofs.Ytkpckadicjdieab.ud]
      refine AnyBut.step (i := 18) (by kernel_rfl) rfl (fun K hK => ?_)
      go_simp
      refine hK.out _ _ (HS.out (w2.alloc (.cells #[.int .i64 po, .int .i64 pi, .slice ux m ucap] 97)) (hbw2.alloc hbw2.size _)) ?_
      clear hK hSS
      have hSS := HS.out (w2.alloc (.cells #[.int .i64 po, .int .i64 pi, .slice ux m ucap] 97)) (hbw2.alloc hbw2.size _)
      refine AnyBut.step (i := 19) (by kernel_rfl) rfl (fun K hK => ?_)
      refine step_append_lies _ (by rfl) _ _ _ (by rfl) w.heap.size 97 i3 _ 3 40 Try.underlying24 hi3 hz30 hz31 hz32 rfl (by omega) _ k _ (by rfl) ((own_below HO.out hb2).alloc _) ⟨w2.heap.size, 0, none⟩ 1 1 [.int .i64 po, .int .i64 pi, .slice ux m ucap] (by rfl) (by rfl)
        (World.news_of_block (cs := #[.int .i64 po, .int .i64 pi, .slice ux m ucap]) (t := 97) (fr := (0, 0)) (heap_alloc_new w2 _)) (by simp [Value.oneCell']) (by omega) (by unfold maxLen; omega) (by omega) (by have := hbw2.size; simp; omega) (w2.heap.size + 1) (by simp) ?_
      intro gg cap3 w3 hown3 hgrow3 hat hltg
      have hbe3 : Below w.heap.size w w3 := (hbw2.alloc hbw2.size _).grown hgrow3 (by have := hbw2.size; simp; omega) (fun j hj => (HO.out.lt j hj).1)
      refine hK.out _ _ (HS.out w3 hbe3) ?_
      clear hK hSS
      have hSS := HS.out w3 hbe3
      refine AnyBut.step (i := 20) (by kernel_rfl) rfl (fun K hK => ?_)
      go_simp
      refine hK.out _ _ hSS ?_
      clear hK hSS
      refine AnyBut.done (by kernel_rfl) ?_
      have hS2 : Same w.heap.size wr (w2.alloc (.cells #[.int .i64 po, .int .i64 pi, .slice ux m ucap] 97)) := Same.trans (.of_below hb2) hb2.size (.alloc _ _ _)
      have hG3 : bksR.owns w.heap.size w3 [.slice (some ⟨gg, 0, none⟩) (k + 1) cap3] (l.take (k + 1)) := by
        rw [HTK.out.1]
        refine Shape.list_push (S := bkR) (ht := Try.underlying24) (hc := cells24) (us := [.int .i64 po, .int .i64 pi, .slice ux m ucap]) (by decide) (HE.out.mono fun _ _ h => bkR.osame h hS2) (by rw [HTK.out.2]; exact own_same HO.out hS2) ?_ hgrow3 ?_
        · refine bk_omk (p := (po, pi, pd)) (bytesS.osame (bytesS.oweaken (by rw [HM.out] at hu2; rw [HM.out]; exact hu2) HBL.out.size) (.alloc _ _ _)) HPI.out.1 HPI.out.2
        · rw [HTK.out.2]
          exact hown3
      have HBB : Hid (bksR.owns w.heap.size w3 [.slice (some ⟨gg, 0, none⟩) (k + 1) cap3] (l.take (k + 1)) ∧ Below w.heap.size w w3) := ⟨hG3, hbe3⟩
      clear hown3 hgrow3 hat hltg hG3 hS2 hu2 hbe3 hbw2 hix
      go_wp2
      go_roundw
      case rel => exact ⟨k + 1, by omega, by go_num, HBB.out⟩
      case measure => simp [intOf]; omega
    · obtain rfl : k = n := by omega
      have hT : l.take k = l := by rw [HN.out]; simp
      rw [hT] at hO
      have HO : Hid (bksR.owns w.heap.size wr [u3] l ∧ Below w.heap.size w wr) := ⟨hO, hbel⟩
      clear hO hbel hT
      go_wp2
      go_ret
      exact ⟨⟨_, rfl, HO.out.1⟩, HO.out.2⟩


end Go.Proofs.Ytkpckadicjdieab
