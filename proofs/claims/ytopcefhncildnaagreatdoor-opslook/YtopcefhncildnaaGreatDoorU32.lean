/-
  What Of makes of the document's file: the program's, in memory of its own.
  What Alike answers: whether the program's file and the document's are one.
-/
import Derived.Test.YtopcefhncildnaaGreatDoorU12
import Derived.Test.YtopcefhncildnaaGreatDoorU28
import Derived.Deep.DrawnRows
set_option maxRecDepth 100000
set_option maxHeartbeats 4000000
namespace Go.Proofs.YtopcefhncildnaaGreatDoor.F
open Go.RowKit
attribute [local go_sem ↓] Go.wp_at_zero Go.wp_at_succ
theorem made_of (n0 : Nat) (us : List Value) (f : Fl) (w : World) (h : flR.lies n0 w us f) (hf : Fits f) :
   Calls Tryz.prog 47 #[.agg us.toArray] w fun e w' => (∃ us', e = .returned (.agg us'.toArray) ∧ flN.owns w.heap.size w' us' f) ∧ Below w.heap.size w w' := by
 obtain ⟨a, c, rfl, hL, hi, hm⟩ := fl_viewR h
 obtain ⟨s, l⟩ := f
 obtain ⟨i3, hi3, hz30, hz31, hz32⟩ := info_parts Tryz.info51
 simp only at hL hi hm hf
 unfold maxLen at hm
 have HL : Hid (bksR.lies n0 w [.slice a l.length c] l ∧ I64 s ∧ Fits (s, l)) := ⟨hL, hi, hf⟩
 obtain ⟨n, hn⟩ := exa (l.length)
 have HN : Hid (n = l.length) := hn
 have hnb : n * 32 ≤ 140737488351232 := by rw [hn]; exact hf.1
 simp only
 rw [← hn] at HL hm ⊢
 have hl1 := run_len Tryz.underlying97 a n c
 clear h hL hi hf hn
 go_enter Tryz.func47, Tryz.ntmps47
 go_wp2
 go_loopw [4] (fun i wr => ∃ (k : Nat) (v : Value), k ≤ n ∧ i = .int .i64 k ∧ Box wr w.heap.size 99 #[.int .i64 s, .slice a n c] ∧ Box wr (w.heap.size + 1) 45 #[.int .i64 0, .slice none 0 0] ∧ Box wr (w.heap.size + 2) 45 #[.int .i64 s, v] ∧
   bksN.owns (w.heap.size + 3) wr [v] (l.take k) ∧ Below w.heap.size w wr ∧ w.heap.size + 3 ≤ wr.heap.size) (fun i _ => n - (intOf i).toNat)
 case atStart => (
 refine ⟨0, _, Nat.zero_le _, rfl, ?_, ?_, ?_, Shape.list_nil bkN 43 Tryz.underlying43 cells43 _ _, ?_, ?_⟩
 · exact ((Box.new w 99 _).alloc _).alloc _
 · have := (Box.new (w.alloc (.cells #[.int .i64 s, .slice a n c] 99)) 45 #[.int .i64 0, .slice none 0 0]).alloc (.cells #[.int .i64 s, .slice none 0 0] 45)
   simpa using this
 · have := Box.new ((w.alloc (.cells #[.int .i64 s, .slice a n c] 99)).alloc (.cells #[.int .i64 0, .slice none 0 0] 45)) 45 #[.int .i64 s, .slice none 0 0]
   simpa using this
 · exact (((Below.refl _ w).alloc (Nat.le_refl _) _).alloc (by simp) _).alloc (by simp; omega) _
 · simp)
 case round => (
 obtain ⟨k, v, hk, rfl, hB0, hB1, hB2, hO, hbel, hsz⟩ := hrel
 by_cases hlt : k < n
 · obtain ⟨p, hp⟩ := get_lt (l := l) (k := k) (by rw [← HN.out]; exact hlt)
   obtain ⟨b, o, x, cap, hix, hc0, hc1, hA, hpi, _⟩ := bks_atR HL.out.1 k p hp
   have HTK : Hid (l.take (k + 1) = l.take k ++ [p] ∧ (l.take k).length = k) := ⟨take_snoc hp, by have := HN.out; rw [List.length_take]; omega⟩
   have HLL : Hid (p.2.length ≤ 140737488351232) := HL.out.2.2.2 p (List.mem_of_getElem? hp)
   have HC : Hid (Calls Tryz.prog 11 #[.slice x p.2.length cap] wr.drew fun e w' => (∃ v', e = .returned v' ∧ Own1 wr.heap.size w' v' p.2) ∧ Below wr.heap.size wr w') :=
     (copy_any n0 (.slice x p.2.length cap) p.2 wr.drew ((hA.below hbel).below (Below.refl _ _).drew) (by have := HLL.out; omega)).mono fun e w' h => ⟨h.1, ((Below.refl _ wr).drew).trans h.2⟩
   obtain ⟨v', vss, hv, hown0, hE⟩ := hO
   obtain rfl : v = v' := by simpa using hv
   have hown : wr.ownsRow (w.heap.size + 3) 51 2 v k vss.flatten := by rw [← HTK.out.2]; exact hown0
   obtain ⟨a', cap', rfl⟩ := own_shape hown
   have HBX : Hid (Box wr w.heap.size 99 #[.int .i64 s, .slice a n c] ∧ Box wr (w.heap.size + 1) 45 #[.int .i64 0, .slice none 0 0] ∧ Box wr (w.heap.size + 2) 45 #[.int .i64 s, .slice a' k cap']) := ⟨hB0, hB1, hB2⟩
   have HE : Hid (Each (bkN.owns (w.heap.size + 3) wr) vss (l.take k)) := hE
   have HBL : Hid (Below w.heap.size w wr) := hbel
   have HBS : Hid (w.heap.size + 3 ≤ wr.heap.size) := hsz
   have HO : Hid (wr.ownsRow (w.heap.size + 3) 51 2 (.slice a' k cap') k vss.flatten) := hown
   have hki : (k : Int) < (n : Int) := by omega
   obtain ⟨_, g0, _, _⟩ := hB0.two
   obtain ⟨pi, pd⟩ := p
   simp only at hc0 hc1 HC HLL hpi
   have HPI : Hid (I64 pi) := hpi
   obtain ⟨m, hm'⟩ := exa (pd.length)
   have HM : Hid (m = pd.length) := hm'
   rw [← hm'] at hc1 HC
   have HS : Hid (∀ V, Box V w.heap.size 99 #[.int .i64 s, .slice a n c] → Box V (w.heap.size + 2) 45 #[.int .i64 s, .slice a' k cap'] → Below w.heap.size w V → V.cell? ⟨w.heap.size, 1, none⟩ = some (.slice a n c) ∧ V.cell? ⟨w.heap.size + 2, 1, none⟩ = some (.slice a' k cap') ∧ V.cell? ⟨b, o, none⟩ = some (.int .i64 pi) ∧ V.cell? ⟨b, o + 1, none⟩ = some (.slice x m cap)) := fun V h0 h2 hb => ⟨h0.two.2.1, h2.two.2.1, by rw [hb.cell (cell_lt hc0)]; exact hc0, by rw [hb.cell (cell_lt hc1)]; exact hc1⟩
   clear hA hp hB0 hB1 hB2 hE hbel hown hown0 hv hpi hm' hsz hc0 hc1
   go_wp2
   refine AnyBut.begin (fun W => W.cell? ⟨w.heap.size, 1, none⟩ = some (.slice a n c) ∧ W.cell? ⟨w.heap.size + 2, 1, none⟩ = some (.slice a' k cap') ∧ W.cell? ⟨b, o, none⟩ = some (.int .i64 pi) ∧ W.cell? ⟨b, o + 1, none⟩ = some (.slice x m cap)) 19 (by kernel_rfl) ?_
   have hSS := HS.out wr.drew HBX.out.1 HBX.out.2.2 HBL.out.drew
   refine AnyBut.take (i := 0) (some 15) (v := ?_) rfl rfl (by kernel_rfl) rfl (by kernel_rfl) (by kernel_rfl) (by kernel_rfl) (fun _ _ _ h => h) (.inl ⟨by rfl, ?_⟩) hSS ?_
   rotate_left
   · (intro W hSW; (try dsimp only at hSW); go_simp; try with_reducible rfl)
   simp only [Act.put, List.setIfInBounds_toArray, List.set_cons_zero, List.set_cons_succ]
   refine AnyBut.take (i := 1) (some 16) (v := ?_) rfl rfl (by kernel_rfl) rfl (by kernel_rfl) (by kernel_rfl) (by kernel_rfl) (fun _ _ _ h => h) (.inl ⟨by rfl, ?_⟩) hSS ?_
   rotate_left
   · (intro W hSW; (try dsimp only at hSW); go_simp; try with_reducible rfl)
   simp only [Act.put, List.setIfInBounds_toArray, List.set_cons_zero, List.set_cons_succ]
   refine AnyBut.take (i := 2) (some 17) (v := ?_) rfl rfl (by kernel_rfl) rfl (by kernel_rfl) (by kernel_rfl) (by kernel_rfl) (fun _ _ _ h => h) (.inl ⟨by rfl, ?_⟩) hSS ?_
   rotate_left
   · (intro W hSW; (try dsimp only at hSW); go_simp; try with_reducible rfl)
   simp only [Act.put, List.setIfInBounds_toArray, List.set_cons_zero, List.set_cons_succ]
   refine AnyBut.take (i := 3) (some 18) (v := ?_) rfl rfl (by kernel_rfl) rfl (by kernel_rfl) (by kernel_rfl) (by kernel_rfl) (fun _ _ _ h => h) (.inl ⟨by rfl, ?_⟩) hSS ?_
   rotate_left
   · (intro W hSW; (try dsimp only at hSW); go_simp; try with_reducible rfl)
   simp only [Act.put, List.setIfInBounds_toArray, List.set_cons_zero, List.set_cons_succ]
   refine AnyBut.take (i := 4) (some 19) (v := ?_) rfl rfl (by kernel_rfl) rfl (by kernel_rfl) (by kernel_rfl) (by kernel_rfl) (fun _ _ _ h => h) (.inl ⟨by rfl, ?_⟩) hSS ?_
   rotate_left
   · (intro W hSW; (try dsimp only at hSW); go_simp; try with_reducible rfl)
   simp only [Act.put, List.setIfInBounds_toArray, List.set_cons_zero, List.set_cons_succ]
   refine AnyBut.take (i := 5) (some 20) (v := ?_) rfl rfl (by kernel_rfl) rfl (by kernel_rfl) (by kernel_rfl) (by kernel_rfl) (fun _ _ _ h => h) (.inl ⟨by rfl, ?_⟩) hSS ?_
   rotate_left
   · (intro W hSW; (try dsimp only at hSW); go_simp; try with_reducible rfl)
   simp only [Act.put, List.setIfInBounds_toArray, List.set_cons_zero, List.set_cons_succ]
   refine AnyBut.take (i := 6) (some 21) (v := ?_) rfl rfl (by kernel_rfl) rfl (by kernel_rfl) (by kernel_rfl) (by kernel_rfl) (fun _ _ _ h => h) (.inl ⟨by rfl, ?_⟩) hSS ?_
   rotate_left
   · (intro W hSW; (try dsimp only at hSW); go_simp; try with_reducible rfl)
   simp only [Act.put, List.setIfInBounds_toArray, List.set_cons_zero, List.set_cons_succ]
   refine AnyBut.take (i := 7) (some 22) (v := ?_) rfl rfl (by kernel_rfl) rfl (by kernel_rfl) (by kernel_rfl) (by kernel_rfl) (fun _ _ _ h => h) (.inl ⟨by rfl, ?_⟩) hSS ?_
   rotate_left
   · (intro W hSW; (try dsimp only at hSW); go_simp; try with_reducible rfl)
   simp only [Act.put, List.setIfInBounds_toArray, List.set_cons_zero, List.set_cons_succ]
   refine AnyBut.take (i := 8) (some 23) (v := ?_) rfl rfl (by kernel_rfl) rfl (by kernel_rfl) (by kernel_rfl) (by kernel_rfl) (fun _ _ _ h => h) (.inl ⟨by rfl, ?_⟩) hSS ?_
   rotate_left
   · (intro W hSW; (try dsimp only at hSW); go_simp; try with_reducible rfl)
   simp only [Act.put, List.setIfInBounds_toArray, List.set_cons_zero, List.set_cons_succ]
   refine AnyBut.take (i := 9) (some 24) (v := ?_) rfl rfl (by kernel_rfl) rfl (by kernel_rfl) (by kernel_rfl) (by kernel_rfl) (fun _ _ _ h => h) (.inl ⟨by rfl, ?_⟩) hSS ?_
   rotate_left
   · (intro W hSW; (try dsimp only at hSW); go_simp; try with_reducible rfl)
   simp only [Act.put, List.setIfInBounds_toArray, List.set_cons_zero, List.set_cons_succ]
   refine AnyBut.take (i := 10) (some 25) (v := ?_) rfl rfl (by kernel_rfl) rfl (by kernel_rfl) (by kernel_rfl) (by kernel_rfl) (fun _ _ _ h => h) (.inl ⟨by rfl, ?_⟩) hSS ?_
   rotate_left
   · (intro W hSW; (try dsimp only at hSW); go_simp; try with_reducible rfl)
   simp only [Act.put, List.setIfInBounds_toArray, List.set_cons_zero, List.set_cons_succ]
   refine AnyBut.take (i := 11) (some 26) (v := ?_) rfl rfl (by kernel_rfl) rfl (by kernel_rfl) (by kernel_rfl) (by kernel_rfl) (fun _ _ _ h => h) (.inl ⟨by rfl, ?_⟩) hSS ?_
   rotate_left
   · (intro W hSW; (try dsimp only at hSW); go_simp; try with_reducible rfl)
   simp only [Act.put, List.setIfInBounds_toArray, List.set_cons_zero, List.set_cons_succ]
   refine AnyBut.take (i := 12) (some 27) (v := ?_) rfl rfl (by kernel_rfl) rfl (by kernel_rfl) (by kernel_rfl) (by kernel_rfl) (fun _ _ _ h => h) (.inl ⟨by rfl, ?_⟩) hSS ?_
   rotate_left
   · (intro W hSW; (try dsimp only at hSW); go_simp; try with_reducible rfl)
   simp only [Act.put, List.setIfInBounds_toArray, List.set_cons_zero, List.set_cons_succ]
   refine AnyBut.take (i := 13) (some 28) (v := ?_) rfl rfl (by kernel_rfl) rfl (by kernel_rfl) (by kernel_rfl) (by kernel_rfl) (fun _ _ _ h => h) (.inl ⟨by rfl, ?_⟩) hSS ?_
   rotate_left
   · (intro W hSW; (try dsimp only at hSW); go_simp; try with_reducible rfl)
   simp only [Act.put, List.setIfInBounds_toArray, List.set_cons_zero, List.set_cons_succ]
   refine AnyBut.step (i := 14) (by kernel_rfl) rfl (fun K hK => ?_)
   go_simp
   refine Calls.mono HC.out ?_
   rintro e w2 ⟨⟨u2, rfl, hu2⟩, hb2⟩
   obtain ⟨ux, uc, rfl⟩ := hu2.shape
   rw [← HM.out] at hu2 ⊢
   have hx0 := HBX.out.1.below hb2 HBX.out.1.lt
   have hx2 := HBX.out.2.2.below hb2 HBX.out.2.2.lt
   have hbw2 := below_any HBL.out hb2
   dsimp only
   refine hK.out _ _ (HS.out w2 hx0 hx2 hbw2) ?_
   clear hK hSS
   have hSS := (HS.out w2 hx0 hx2 hbw2)
   refine AnyBut.take (i := 15) (some 30) (v := ?_) rfl rfl (by kernel_rfl) rfl (by kernel_rfl) (by kernel_rfl) (by kernel_rfl) (fun _ _ _ h => h) (.inl ⟨by rfl, ?_⟩) hSS ?_
   rotate_left
   · (intro W hSW; (try dsimp only at hSW); go_simp; try with_reducible rfl)
   simp only [Act.put, List.setIfInBounds_toArray, List.set_cons_zero, List.set_cons_succ]
   refine AnyBut.step (i := 16) (by kernel_rfl) rfl (fun K hK => ?_)
   go_simp
   refine hK.out _ _ (HS.out (w2.alloc (.cells #[.int .i64 pi, .slice ux m uc] 51)) (hx0.alloc _) (hx2.alloc _) (hbw2.alloc (by have := hb2.size; have := HBS.out; omega) _)) ?_
   clear hK hSS
   have hSS := (HS.out (w2.alloc (.cells #[.int .i64 pi, .slice ux m uc] 51)) (hx0.alloc _) (hx2.alloc _) (hbw2.alloc (by have := hb2.size; have := HBS.out; omega) _))
   refine AnyBut.step (i := 17) (by kernel_rfl) rfl (fun K hK => ?_)
   refine step_append_lies _ (by rfl) _ _ _ (by rfl) (w.heap.size + 3) 51 i3 _ 2 32 Tryz.underlying43 hi3 hz30 hz31 hz32 rfl (by omega) _ k _ (by rfl) ((own_below HO.out hb2).alloc _) ⟨w2.heap.size, 0, none⟩ 1 1 [.int .i64 pi, .slice ux m uc] (by rfl) (by rfl)
     (World.news_of_block (cs := #[.int .i64 pi, .slice ux m uc]) (t := 51) (fr := (0, 0)) (heap_alloc_new w2 _)) (by simp [Value.oneCell']) (by omega) (by unfold maxLen; omega) (by omega) (by have := hb2.size; have := HBS.out; simp; omega) (w2.heap.size + 1) (by simp) ?_
   intro gg cap3 w3 hown3 hgrow3 hat hltg
   have hbx0 : Box w3 w.heap.size 99 #[.int .i64 s, .slice a n c] := Box.grown (hx0.alloc _) hgrow3 (row_ne HO.out (by omega))
   have hbx1 : Box w3 (w.heap.size + 1) 45 #[.int .i64 0, .slice none 0 0] := Box.grown ((HBX.out.2.1.below hb2 HBX.out.2.1.lt).alloc _) hgrow3 (row_ne HO.out (by omega))
   have hbx2 : Box w3 (w.heap.size + 2) 45 #[.int .i64 s, .slice a' k cap'] := Box.grown (hx2.alloc _) hgrow3 (row_ne HO.out (by omega))
   obtain ⟨_, hcc4, _, hff4⟩ := hbx2.two
   have hbe3 : Below w.heap.size w w3 := ((below_any HBL.out hb2).alloc (by have := hb2.size; have := HBS.out; omega) _).grown hgrow3 (by have := hb2.size; have := HBS.out; simp; omega) (fun j hj => by have := (HO.out.lt j hj).1; omega)
   refine hK.out _ _ (HS.out w3 hbx0 hbx2 hbe3) ?_
   clear hK hSS
   have hSS := (HS.out w3 hbx0 hbx2 hbe3)
   refine AnyBut.take (i := 18) (some 33) (v := ?_) rfl rfl (by kernel_rfl) rfl (by kernel_rfl) (by kernel_rfl) (by kernel_rfl) (fun _ _ _ h => h) (.inl ⟨by rfl, ?_⟩) hSS ?_
   rotate_left
   · (intro W hSW; (try dsimp only at hSW); go_simp; try with_reducible rfl)
   refine AnyBut.last (by kernel_rfl) (by kernel_rfl) rfl (fun K hK => ?_)
   go_simp
   refine hK.out _ _ ?_
   clear hK hSS
   have hS2 : Same (w.heap.size + 3) wr (w2.alloc (.cells #[.int .i64 pi, .slice ux m uc] 51)) := Same.trans (.of_below hb2) hb2.size (.alloc _ _ _)
   have hG3 : bksN.owns (w.heap.size + 3) w3 [.slice (some ⟨gg, 0, none⟩) (k + 1) cap3] (l.take (k + 1)) := by (
 rw [HTK.out.1]
 refine Shape.list_push (S := bkN) (ht := Tryz.underlying43) (hc := cells43) (us := [.int .i64 pi, .slice ux m uc]) (by decide) (HE.out.mono fun _ _ h => bkN.osame h hS2) (by rw [HTK.out.2]; exact own_same HO.out hS2) ?_ hgrow3 ?_
 · refine bk_omk (p := (pi, pd)) (bytesS.osame (bytesS.oweaken hu2 (by have := HBS.out; omega)) (.alloc _ _ _)) HPI.out
 · rw [HTK.out.2]
   exact hown3)
   have HBB : Hid (Box w3 w.heap.size 99 #[.int .i64 s, .slice a n c] ∧ Box w3 (w.heap.size + 1) 45 #[.int .i64 0, .slice none 0 0] ∧ Box w3 (w.heap.size + 2) 45 #[.int .i64 s, .slice a' k cap'] ∧ bksN.owns (w.heap.size + 3) w3 [.slice (some ⟨gg, 0, none⟩) (k + 1) cap3] (l.take (k + 1)) ∧ Below w.heap.size w w3 ∧ w.heap.size + 3 ≤ w3.heap.size) := ⟨hbx0, hbx1, hbx2, hG3, hbe3, by have := hgrow3.size; have := hb2.size; have := HBS.out; simp at *; omega⟩
   clear hown3 hgrow3 hat hltg hG3 hS2 hbx0 hbx1 hbx2 hu2 hbe3 hx0 hx2 hbw2 hcc4 hff4 g0 hix
   go_wp2
   go_roundw
   case rel =>
     exact ⟨k + 1, _, by omega, by go_num, HBB.out.1.other (by omega), HBB.out.2.1.other (by omega), HBB.out.2.2.1.set 1 _, bksN.osame HBB.out.2.2.2.1 (.set (by omega)), HBB.out.2.2.2.2.1.setCell (p := ⟨w.heap.size + 2, 1, none⟩) (by simp) _, by simpa [World.setCell] using HBB.out.2.2.2.2.2⟩
   case measure => simp [intOf]; omega
 · obtain rfl : k = n := by omega
   have hT : l.take k = l := by rw [HN.out]; simp
   rw [hT] at hO
   obtain ⟨a', cap', _, hv, hown, _⟩ := Shape.list_own (S := bkN) (ht := Tryz.underlying43) (hc := cells43) hO
   obtain rfl : v = _ := by simpa using hv
   rw [← HN.out] at hO
   have HO : Hid (bksN.owns (w.heap.size + 3) wr [.slice a' k cap'] l) := hO
   rw [← HN.out] at hB2
   obtain ⟨q0, q1, _, _⟩ := hB2.two
   obtain ⟨d0, d1, e0, e1⟩ := hB1.two
   obtain ⟨r0, r1, _, _⟩ := hB0.two
   have HBL : Hid (Below w.heap.size w wr) := hbel
   clear hown hO hT hbel hB0 hB1 hB2 hv
   go_wp2
   refine bodyPost_ret (v := .agg #[.int .i64 s, .slice a' k cap']) (by simp [results, Tryz.results47, go_sem, *]) rfl ⟨⟨[_, _], rfl, ?_⟩, ?_⟩
   · exact flN.oweaken (n := w.heap.size + 3) (flN.osame (fl_omkN (s := (s, l)) HO.out HL.out.2.1) (.set2 (by omega))) (by omega)
   · exact below_set2 HBL.out (by omega) _ _)
end Go.Proofs.YtopcefhncildnaaGreatDoor.F
namespace Go.Proofs.YtopcefhncildnaaGreatDoor.F
open Go.RowKit
theorem alike_any (n1 n2 : Nat) (u1 u2 : List Value) (f1 f2 : Fl) (w : World) (h1 : flN.lies n1 w u1 f1) (h2 : flR.lies n2 w u2 f2) :
   Calls Tryz.prog 60 #[.agg u1.toArray, .agg u2.toArray] w fun e w' => e = .returned (.int .i64 (if f1 = f2 then 0 else 1)) ∧ Below w.heap.size w w' := by
 obtain ⟨a1, c1, rfl, hL1, hi1, hm1⟩ := fl_viewN h1
 obtain ⟨a2, c2, rfl, hL2, hi2, hm2⟩ := fl_viewR h2
 obtain ⟨s1, l1⟩ := f1
 obtain ⟨s2, l2⟩ := f2
 simp only at hL1 hL2 hm1 hm2 ⊢
 unfold maxLen at hm1 hm2
 have hr1 := run_len Tryz.underlying43 a1 l1.length c1
 have hr2 := run_len Tryz.underlying97 a2 l2.length c2
 obtain ⟨W, hW⟩ := exa ((w.alloc (.cells #[.int .i64 s1, .slice a1 l1.length c1] 45)).alloc (.cells #[.int .i64 s2, .slice a2 l2.length c2] 99))
 have hb : Below w.heap.size w W := by rw [hW]; exact ((Below.refl _ w).alloc (Nat.le_refl _) _).alloc (by simp) _
 have hB1 : Box W w.heap.size 45 #[.int .i64 s1, .slice a1 l1.length c1] := by rw [hW]; exact (Box.new _ _ _).alloc _
 have hB2 : Box W (w.heap.size + 1) 99 #[.int .i64 s2, .slice a2 l2.length c2] := by (
 rw [hW]
 have := Box.new (w.alloc (.cells #[.int .i64 s1, .slice a1 l1.length c1] 45)) 99 #[.int .i64 s2, .slice a2 l2.length c2]
 rwa [World.size_alloc] at this)
 have HW : Hid (Below w.heap.size w W ∧ bksN.lies n1 W [.slice a1 l1.length c1] l1 ∧ bksR.lies n2 W [.slice a2 l2.length c2] l2) := ⟨hb, bksN.below hL1 hb, bksR.below hL2 hb⟩
 obtain ⟨p0, p1, _, _⟩ := hB1.two
 obtain ⟨q0, q1, _, _⟩ := hB2.two
 clear h1 h2 hL1 hL2 hi1 hi2 hb hB1 hB2
 by_cases hs : s1 = s2
 case neg => (
 rw [if_neg (fun e => hs (congrArg Prod.fst e))]
 rw [hW] at HW
 clear p0 p1 q0 q1 hW
 go_enter Tryz.func60, Tryz.ntmps60
 go_wp2
 go_ret
 exact ⟨rfl, HW.out.1⟩)
 subst hs
 by_cases hlen : l1.length = l2.length
 case neg => (
 rw [if_neg (fun e => hlen (by rw [(Prod.mk.inj e).2]))]
 have hne : ¬ (l1.length : Int) = (l2.length : Int) := by omega
 rw [hW] at HW
 clear p0 p1 q0 q1 hW
 go_enter Tryz.func60, Tryz.ntmps60
 go_wp2
 go_ret
 exact ⟨rfl, HW.out.1⟩)
 obtain ⟨n, hn⟩ := exa (l1.length)
 have HN : Hid (n = l1.length ∧ n = l2.length) := ⟨hn, by omega⟩
 rw [← hlen] at HW hr2 hW q1 ⊢
 rw [← hn] at HW hr1 hr2 hm1 hW p1 q1 ⊢
 obtain ⟨d, hd⟩ : ∃ d : Int, d = if (s1, l1) = (s1, l2) then 0 else 1 := ⟨_, rfl⟩
 rw [← hd]
 have HD : Hid (d = if (s1, l1) = (s1, l2) then 0 else 1) := hd
 rw [hW] at p0 p1 q0 q1
 have HP : Hid (∀ r, Below w.heap.size w (W.drewN r)) := fun r => below_drewN HW.out.1 r
 clear hn hlen hd hm2
 go_enter Tryz.func60, Tryz.ntmps60
 go_wp2
 rw [← hW] at p0 p1 q0 q1 ⊢
 clear hW
 go_loopw [5] (fun i wr => ∃ k : Nat, k ≤ n ∧ i = .int .i64 k ∧ Hid (∀ (i : Nat), i < k → l1[i]? = l2[i]?) ∧ ∃ q, wr = W.drewN q) (fun i _ => n - (intOf i).toNat)
 case atStart => exact ⟨0, Nat.zero_le _, rfl, fun i hi => by omega, 0, rfl⟩
 case round => (
 obtain ⟨k, hk, rfl, HK, q, rfl⟩ := hrel
 obtain ⟨W0, hW0⟩ := exa (W.drewN q)
 have hb0 : Below W.heap.size W W0 := by rw [hW0]; exact below_drewN (Below.refl _ _) q
 have p0 : W0.cell? ⟨w.heap.size, 0, none⟩ = some (.int .i64 s1) := by rw [hW0]; exact p0
 have p1 : W0.cell? ⟨w.heap.size, 1, none⟩ = some (.slice a1 n c1) := by rw [hW0]; exact p1
 have q0 : W0.cell? ⟨w.heap.size + 1, 0, none⟩ = some (.int .i64 s1) := by rw [hW0]; exact q0
 have q1 : W0.cell? ⟨w.heap.size + 1, 1, none⟩ = some (.slice a2 n c2) := by rw [hW0]; exact q1
 have HW0 : Hid (W0 = W.drewN q) := hW0
 rw [← hW0]
 by_cases hlt : k < n
 · obtain ⟨x, hx⟩ := get_lt (l := l1) (k := k) (by rw [← HN.out.1]; exact hlt)
   obtain ⟨y, hy⟩ := get_lt (l := l2) (k := k) (by rw [← HN.out.2]; exact hlt)
   obtain ⟨b1, o1, x1, z1, hix1, g1, e1, hA1, _⟩ := bks_atN (bksN.below HW.out.2.1 hb0) k x hx
   obtain ⟨b2, o2, x2, z2, hix2, g2, e2, hA2, _⟩ := bks_atR (bksR.below HW.out.2.2 hb0) k y hy
   have hkn : (k : Int) < (n : Int) := by omega
   have HXY : Hid (l1[k]? = some x ∧ l2[k]? = some y) := ⟨hx, hy⟩
   have HS : Hid (∀ r, Calls Tryz.prog 27 #[.slice x1 x.2.length z1, .slice x2 y.2.length z2] (W0.drewN r) fun e w' => e = .returned (.bool (decide (x.2 = y.2))) ∧ ∃ y, w' = (W0.drewN r).drewN y) := fun r =>
     same_any n1 n2 _ _ x.2 y.2 (W0.drewN r) (hA1.below (below_drewN (Below.refl _ _) r)) (hA2.below (below_drewN (Below.refl _ _) r))
   obtain ⟨xi, xd⟩ := x
   obtain ⟨yi, yd⟩ := y
   simp only at g1 g2 e1 e2 HS
   obtain ⟨m1, hm1'⟩ := exa (xd.length)
   obtain ⟨m2, hm2'⟩ := exa (yd.length)
   rw [← hm1', ← hm2'] at HS
   rw [← hm1'] at e1
   rw [← hm2'] at e2
   clear hx hy hA1 hA2 hm1' hm2' hb0 hW0
   by_cases hxy : xi = yi
   · subst hxy
     by_cases hd' : xd = yd
     · rw [decide_eq_true hd'] at HS
       go_wp2
       go_quiet ((go_at_call 27; exact Calls.quiet_of (HS.out _)))
       go_wp2
       go_roundw
       case rel => (
 refine ⟨k + 1, by omega, by go_num, fun i hi => ?_, _, by rw [HW0.out]; exact World.drewN_drewN _ _ _⟩
 by_cases e : i < k
 · exact HK.out i e
 · obtain rfl : i = k := by omega
   rw [HXY.out.1, HXY.out.2, hd'])
       case measure => simp [intOf]; omega
     · rw [decide_eq_false hd'] at HS
       have hdf : d = 1 := by (
 rw [HD.out]
 refine if_neg fun e => ?_
 have h1 := HXY.out.1
 rw [(Prod.mk.inj e).2, HXY.out.2] at h1
 simp at h1
 exact hd' h1.symm)
       subst hdf
       clear hd'
       go_wp2
       go_quiet ((go_at_call 27; exact Calls.quiet_of (HS.out _)))
       go_wp2
       go_ret
       exact ⟨rfl, by rw [HW0.out, World.drewN_drewN]; exact HP.out _⟩
   · have hdf : d = 1 := by
       rw [HD.out]
       refine if_neg fun e => ?_
       have h1 := HXY.out.1
       rw [(Prod.mk.inj e).2, HXY.out.2] at h1
       simp at h1
       exact hxy h1.1.symm
     subst hdf
     clear HS
     go_wp2
     go_quiet (fail)
     go_wp2
     go_ret
     exact ⟨rfl, by rw [HW0.out, World.drewN_drewN]; exact HP.out _⟩
 · obtain rfl : k = n := by omega
   have hdt : d = 0 := by (
 rw [HD.out]
 refine if_pos ?_
 rw [alike_b (by have := HN.out; omega) (fun i hi => HK.out i (by rw [HN.out.1]; exact hi))])
   subst hdt
   clear hb0 hW0
   go_wp2
   go_ret
   exact ⟨rfl, by rw [HW0.out]; exact HP.out _⟩)
end Go.Proofs.YtopcefhncildnaaGreatDoor.F
