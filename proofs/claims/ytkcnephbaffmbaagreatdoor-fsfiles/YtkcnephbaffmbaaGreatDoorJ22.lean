/-
  What the document's Truncate makes of a file: what the program's does.
-/
import Derived.Test.YtkcnephbaffmbaaGreatDoorJ21
set_option maxRecDepth 100000
set_option maxHeartbeats 4000000
namespace Go.Proofs.YtkcnephbaffmbaaGreatDoor.F
open Go.RowKit
theorem cut_zeros (t : List Int) (z m : Nat) (h : m ≤ t.length + z) : (t ++ List.replicate z 0).take m = cutT t m := by
 refine alike (by rw [List.length_take, List.length_append, List.length_replicate, cutT_length]; omega) fun q hq => ?_
 rw [List.length_take, List.length_append, List.length_replicate] at hq
 have e := cutT_get t m q
 rw [if_pos (by omega)] at e
 unfold oc at e
 rw [e]
 simp only [List.getD_eq_getElem?_getD, List.getElem?_take]
 rw [if_pos (by omega)]
 by_cases h2 : q < t.length
 · rw [List.getElem?_append_left h2]
 · rw [List.getElem?_append_right (by omega), List.getElem?_eq_none (l := t) (by omega), List.getElem?_replicate, if_pos (by omega)]
   rfl
theorem rtrunc_any (n0 : Nat) (us : List Value) (f : Fl) (m : Int) (w : World) (h : flR.lies n0 w us f) (hmI : I64 m) :
   Calls Tryz.prog 90 #[.agg us.toArray, .int .i64 m] w fun e w' => (∃ us', e = .returned (.tuple #[.agg us'.toArray, .int .i64 (trE f m)]) ∧ flR.lies w.heap.size w' us' (trF f m)) ∧ Below w.heap.size w w' := by
 obtain ⟨a, c, rfl, _, hi, hm⟩ := fl_viewR h
 obtain ⟨s, l⟩ := f
 simp only at hi hm ⊢
 unfold I64 at hmI
 obtain ⟨W, hW⟩ := exa ((w.alloc (.cells #[.int .i64 s, .slice a l.length c] 76)).alloc (.cells #[.int .i64 0, .slice none 0 0] 76))
 have hT : TwoR w W s (.slice a l.length c) := by rw [hW]; exact TwoR.start _ _ _
 have HC := rcheck_any n0 [.int .i64 s, .slice a l.length c] (s, l) W (flR.below h hT.1)
 have HT : Hid (TwoR w W s (.slice a l.length c)) := hT
 have HL : Hid (flR.lies n0 w [.int .i64 s, .slice a l.length c] (s, l)) := h
 obtain ⟨g0, g1, _⟩ := hT.cells
 obtain ⟨n, hn⟩ := exa (l.length)
 rw [← hn] at hW HT HL HC g1 ⊢
 rw [hW] at g0 g1
 clear h hi hT hm hn
 cases hck : chk (s, l)
 case false => (
 rw [show cerr (s, l) = 9 by unfold cerr; rw [hck]; rfl] at HC
 have e1 : trE (s, l) m = 9 := by exact if_pos hck
 have e2 : trF (s, l) m = (0, []) := if_neg (by rw [e1]; omega)
 rw [e1, e2]
 clear e1 e2
 go_enter Tryz.func90, Tryz.ntmps90
 go_wp2_with fail
 rw [← hW]
 clear hW g0 g1
 refine HC.mono ?_
 rintro e w1 ⟨rfl, hb1⟩
 have HT1 : Hid (TwoR w w1 s (.slice a n c)) := HT.out.below hb1
 obtain ⟨_, _, t0, t1, f0, f1⟩ := HT1.out.cells
 clear HC hb1
 go_wp2
 refine bodyPost_ret (v := .tuple #[.agg #[.int .i64 0, .slice none 0 0], .int .i64 9]) (by simp [results, Tryz.results90, go_sem, *]) rfl ⟨⟨[_, _], rfl, fl_nilR _ _⟩, below_set2 HT1.out.1 (by omega) _ _⟩)
 rw [show cerr (s, l) = 0 by unfold cerr; rw [hck]; rfl] at HC
 by_cases hm0 : m < 0
 · have e1 : trE (s, l) m = 4 := by unfold trE; rw [if_neg (by rw [hck]; simp), if_pos hm0]
   have e2 : trF (s, l) m = (0, []) := if_neg (by rw [e1]; omega)
   rw [e1, e2]
   clear e1 e2
   go_enter Tryz.func90, Tryz.ntmps90
   go_wp2_with fail
   rw [← hW]
   clear hW g0 g1
   refine HC.mono ?_
   rintro e w1 ⟨rfl, hb1⟩
   have HT1 : Hid (TwoR w w1 s (.slice a n c)) := HT.out.below hb1
   obtain ⟨_, _, t0, t1, f0, f1⟩ := HT1.out.cells
   clear HC hb1
   go_wp2
   refine bodyPost_ret (v := .tuple #[.agg #[.int .i64 0, .slice none 0 0], .int .i64 4]) (by simp [results, Tryz.results90, go_sem, *]) rfl ⟨⟨[_, _], rfl, fl_nilR _ _⟩, below_set2 HT1.out.1 (by omega) _ _⟩
 by_cases hm1 : 2432 < m
 · have e1 : trE (s, l) m = 107 := by unfold trE; rw [if_neg (by rw [hck]; simp), if_neg hm0, if_pos hm1]
   have e2 : trF (s, l) m = (0, []) := if_neg (by rw [e1]; omega)
   rw [e1, e2]
   clear e1 e2
   go_enter Tryz.func90, Tryz.ntmps90
   go_wp2_with fail
   rw [← hW]
   clear hW g0 g1
   refine HC.mono ?_
   rintro e w1 ⟨rfl, hb1⟩
   have HT1 : Hid (TwoR w w1 s (.slice a n c)) := HT.out.below hb1
   obtain ⟨_, _, t0, t1, f0, f1⟩ := HT1.out.cells
   clear HC hb1
   go_wp2
   refine bodyPost_ret (v := .tuple #[.agg #[.int .i64 0, .slice none 0 0], .int .i64 107]) (by simp [results, Tryz.results90, go_sem, *]) rfl ⟨⟨[_, _], rfl, fl_nilR _ _⟩, below_set2 HT1.out.1 (by omega) _ _⟩
 obtain ⟨p, rfl⟩ : ∃ p : Nat, m = p := ⟨m.toNat, by omega⟩
 obtain ⟨hs, _, _⟩ := chk_iff.1 hck
 simp only at hs
 obtain ⟨t, ht⟩ := exa (txt (s, l))
 obtain ⟨S, hS⟩ : ∃ S : Nat, s = S := ⟨s.toNat, by omega⟩
 have HTX : Hid (t.length = S ∧ S ≤ 2432) := ⟨by rw [ht, txt_length]; simp only; omega, by omega⟩
 have HTT : Hid (∀ V, Below w.heap.size w V → Calls Tryz.prog 102 #[.agg #[.int .i64 s, .slice a n c]] V fun e w' => (∃ v, e = .returned v ∧ Own1 V.heap.size w' v t) ∧ Below V.heap.size V w') := fun V hV => by (
 have := rtext_any n0 [.int .i64 s, .slice a n c] (s, l) V (flR.below HL.out hV) hs
 rw [rtext_txt hck, ← ht] at this
 exact this)
 have e1 : trE (s, l) (p : Int) = 0 := by unfold trE; rw [if_neg (by rw [hck]; simp), if_neg hm0, if_neg hm1]
 have e2 : trF (s, l) (p : Int) = mk (cutT t p) := by
   unfold trF
   rw [if_pos e1, Int.toNat_natCast, ht]
 rw [e1, e2]
 have hpb : p ≤ 2432 := by omega
 obtain ⟨R, hR⟩ := exa (cutT t p)
 have HR : Hid (R = cutT t p) := hR
 rw [← hR]
 obtain ⟨i0, hi0, hz0, hz1, hz2⟩ := info_parts Tryz.info5
 have hp0 : ¬ (p : Int) < 0 := by omega
 have hp1 : ¬ (2432 : Int) < (p : Int) := by omega
 clear e1 e2 hck ht hS hR HL hmI hm0 hm1
 go_enter Tryz.func90, Tryz.ntmps90
 go_wp2_with fail
 rw [← hW]
 clear hW g0 g1
 refine HC.mono ?_
 rintro e w1 ⟨rfl, hb1⟩
 have HT1 : Hid (TwoR w w1 s (.slice a n c)) := HT.out.below hb1
 obtain ⟨r0, r1, _⟩ := HT1.out.cells
 clear HC hb1
 go_wp2_with fail
 refine (HTT.out _ HT1.out.1).mono ?_
 rintro e w2 ⟨⟨v2, rfl, hv2⟩, hb2⟩
 have HT2 : Hid (TwoR w w2 s (.slice a n c) ∧ w1.heap.size ≤ w2.heap.size ∧ Own1 w1.heap.size w2 v2 t) := ⟨HT1.out.below hb2, hb2.size, hv2⟩
 clear hv2 hb2 r0 r1
 go_wp2
 go_loopw [6] (fun o wr => ∃ (z : Nat), (z = 0 ∨ S + z ≤ p) ∧ Own1 w1.heap.size wr o (t ++ List.replicate z 0) ∧ TwoR w wr s (.slice a n c) ∧ w1.heap.size ≤ wr.heap.size) (fun o _ => 2432 - lenOf o)
 case atStart => exact ⟨0, .inl rfl, by simpa using HT2.out.2.2, HT2.out.1, HT2.out.2.1⟩
 case round => (
 obtain ⟨z, hz, hown, hTV, hsz⟩ := hrel
 obtain ⟨va, vc, rfl⟩ := hown.shape
 have hlen : (t ++ List.replicate z 0).length = S + z := by rw [List.length_append, List.length_replicate, HTX.out.1]
 obtain ⟨K, hK⟩ := exa (S + z)
 rw [hlen, ← hK] at hown ⊢
 have hl1 := run_len Tryz.underlying47 va K vc
 have hnt := HTX.out.2
 by_cases hlt : K < p
 · have h1 : (K : Int) < (p : Int) := by omega
   have hrow := hown.row
   rw [hlen, ← hK] at hrow
   have HO : Hid (wr.ownsRow w1.heap.size 5 1 (.slice va K vc) K ((t ++ List.replicate z 0).map (Value.int .u8)) ∧ TwoR w wr s (.slice a n c) ∧ w1.heap.size ≤ wr.heap.size ∧ Oct (t ++ List.replicate z 0) ∧ K = S + z) := ⟨hrow, hTV, hsz, hown.oct, hK⟩
   have hKb : K ≤ 2432 := by omega
   clear hown hrow hTV hsz hlen hK hnt hz
   go_wp2_with (at_builtin; refine wpList_append_lies _ (by rfl) _ _ 47 (by rfl) w1.heap.size 5 i0 _ 1 1 Tryz.underlying47 hi0 hz0 hz1 hz2 rfl (by omega) _ K _ (by rfl) (HO.out.1.alloc _) ⟨wr.heap.size, 0, none⟩ 1 1 [.int .u8 0] (by rfl) (by rfl) (World.news_of_block (cs := #[.int .u8 0]) (t := 5) (fr := (0, 0)) (heap_alloc_new wr _)) (by simp [Value.oneCell']) (by omega) (by unfold maxLen; omega) (by omega) (by have := HO.out.2.2.1; simp; omega) (wr.heap.size + 1) (by simp) ?_; intro gg cap3 w3 hown3 hgrow3 hat hltg)
   obtain ⟨h2, h3, h4, h5, h6⟩ := HO.out
   refine ⟨⟨z + 1, .inr (by omega), ?_, ?_, ?_⟩, ?_⟩
   · rw [snoc_zeros]
     refine .mk ?_ ?_
     · rw [List.length_append, List.length_append, List.length_replicate, HTX.out.1, ← h6, List.map_append]
       exact hown3
     · intro y hy
       rcases List.mem_append.1 hy with hy | hy
       · exact h5 y hy
       · rw [List.mem_singleton.1 hy]; decide
   · refine ⟨(h3.1.alloc h3.1.size _).grown hgrow3 (by have := h3.1.size; simp; omega) (fun i hi => by have := (h2.lt i hi).1; have := HT1.out.lt; omega), (h3.2.1.alloc _).grown hgrow3 (row_ne h2 (by have := HT1.out.lt; omega)), (h3.2.2.alloc _).grown hgrow3 (row_ne h2 (by have := HT1.out.lt; omega))⟩
   · have := hgrow3.size
     simp at this
     omega
   · simp only [lenOf]
     omega
 · have h1 : ¬ (K : Int) < (p : Int) := by omega
   obtain ⟨v', hv', hcut⟩ := hown.arg.ahead p (by rw [hlen]; omega)
   rw [cut_zeros t z p (by rw [HTX.out.1]; omega), ← HR.out] at hv'
   have HM := made_any w1.heap.size v' R wr hv' (by rw [HR.out, cutT_length]; exact hpb)
   have HT2' : Hid (TwoR w wr s (.slice a n c) ∧ w1.heap.size ≤ wr.heap.size) := ⟨hTV, hsz⟩
   clear hown hTV hsz hlen hK hnt hz hv'
   go_wp2_with fail
   refine HM.mono ?_
   rintro e w3 ⟨⟨us3, rfl, hu3⟩, hb3⟩
   have HT3 : Hid (TwoR w w3 s (.slice a n c)) := HT2'.out.1.below hb3
   obtain ⟨y0, y1, y2, y3, y4, y5⟩ := HT3.out.cells
   obtain ⟨a3, c3, rfl, _⟩ := fl_viewR hu3
   obtain ⟨s3, hs3⟩ := exa ((mk R).1)
   obtain ⟨l3, hl3⟩ := exa ((mk R).2.length)
   rw [← hs3, ← hl3] at hu3 ⊢
   have HU3 : Hid (flR.lies wr.heap.size w3 [.int .i64 s3, .slice a3 l3 c3] (mk R)) := hu3
   clear hu3 hb3 HM hs3 hl3
   go_wp2
   refine bodyPost_ret (v := .tuple #[.agg #[.int .i64 s3, .slice a3 l3 c3], .int .i64 0]) (by simp [results, Tryz.results90, go_sem, *]) rfl ?_
   obtain ⟨h1, h2⟩ := HT3.out.ends (Nat.le_trans HT1.out.lt HT2'.out.2) HU3.out (.int .i64 s3) (.slice a3 l3 c3)
   exact ⟨⟨_, rfl, h1⟩, h2⟩)
end Go.Proofs.YtkcnephbaffmbaaGreatDoor.F
