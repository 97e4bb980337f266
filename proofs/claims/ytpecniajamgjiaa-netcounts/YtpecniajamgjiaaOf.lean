/-
  What Of makes of the document's network: the program's, in memory of its own.
-/
import Derived.Test.YtpecniajamgjiaaCopy
import Derived.Deep.RegionLaw
import Derived.Deep.AppendLies
import Derived.Deep.DrawnRows
namespace Go.Proofs.Ytpecniajamgjiaa
open Go.RowKit

/-- As great as the form reads a network. -/
def Fits (s : St) : Prop := s.2.length * 40 ≤ 140737488351232 ∧ ∀ p ∈ s.2, p.2.2.length ≤ 140737488351232
theorem fits_of {s : St} (h : stR.fits s) : Fits s := by
  obtain ⟨_, h1, h2⟩ := h
  have b27 : Try.prog.bytesOf 27 = 40 := by kernel_rfl
  have b5 : Try.prog.bytesOf 5 = 1 := by kernel_rfl
  refine ⟨?_, fun p hp => ?_⟩
  · have h3 : s.2.length * Try.prog.bytesOf 27 ≤ 140737488351232 := h1
    rwa [b27] at h3
  · obtain ⟨_, _, h4⟩ := h2 p hp
    have h5 : p.2.2.length * Try.prog.bytesOf 5 ≤ 140737488351232 := h4
    rwa [b5, Nat.mul_one] at h5

attribute [local go_sem ↓] Go.wp_at_zero Go.wp_at_succ

set_option maxRecDepth 100000 in
set_option maxHeartbeats 20000000 in
theorem of_any (n0 : Nat) (us : List Value) (s : St) (w : World) (h : stR.lies n0 w us s) (hf : Fits s) :
    Calls Try.prog 7 #[.agg us.toArray] w fun e w' => (∃ us', e = .returned (.agg us'.toArray) ∧ stN.owns w.heap.size w' us' s) ∧ Below w.heap.size w w' := by
  obtain ⟨a, c, rfl, hL, hi, hm⟩ := st_viewR h
  obtain ⟨lim, l⟩ := s
  obtain ⟨i3, hi3, hz30, hz31, hz32⟩ := info_parts Try.info32
  simp only at hL hi hm hf
  unfold maxLen at hm
  have HL : Hid (pksR.lies n0 w [.slice a l.length c] l ∧ I64 lim ∧ Fits (lim, l)) := ⟨hL, hi, hf⟩
  obtain ⟨n, hn⟩ : ∃ n, n = l.length := ⟨_, rfl⟩
  have HN : Hid (n = l.length) := hn
  have hnb : n * 40 ≤ 140737488351232 := by rw [hn]; exact hf.1
  simp only
  rw [← hn] at HL hm ⊢
  have hl1 := run_len Try.underlying22 a n c
  clear h hL hi hf hn
  go_enter Try.func7, Try.ntmps7
  go_wp2
  go_loopw [4] (fun i wr => ∃ (k : Nat) (v : Value), k ≤ n ∧ i = .int .i64 k ∧ Box wr w.heap.size 24 #[.int .i64 lim, .slice a n c] ∧ Box wr (w.heap.size + 1) 30 #[.int .i64 0, .slice none 0 0] ∧ Box wr (w.heap.size + 2) 30 #[.int .i64 lim, v] ∧
    pksN.owns (w.heap.size + 3) wr [v] (l.take k) ∧ Below w.heap.size w wr ∧ w.heap.size + 3 ≤ wr.heap.size) (fun i _ => n - (intOf i).toNat)
  case atStart =>
    refine ⟨0, _, Nat.zero_le _, rfl, ?_, ?_, ?_, Shape.list_nil pkN 28 Try.underlying28 cells28 _ _, ?_, ?_⟩
    · exact ((Box.new w 24 _).alloc _).alloc _
    · have := (Box.new (w.alloc (.cells #[.int .i64 lim, .slice a n c] 24)) 30 #[.int .i64 0, .slice none 0 0]).alloc (.cells #[.int .i64 lim, .slice none 0 0] 30)
      simpa using this
    · have := Box.new ((w.alloc (.cells #[.int .i64 lim, .slice a n c] 24)).alloc (.cells #[.int .i64 0, .slice none 0 0] 30)) 30 #[.int .i64 lim, .slice none 0 0]
      simpa using this
    · exact (((Below.refl _ w).alloc (Nat.le_refl _) _).alloc (by simp) _).alloc (by simp; omega) _
    · simp
  case round =>
    obtain ⟨k, v, hk, rfl, hB0, hB1, hB2, hO, hbel, hsz⟩ := hrel
    by_cases hlt : k < n
    · obtain ⟨p, hp⟩ := get_lt (l := l) (k := k) (by rw [← HN.out]; exact hlt)
      obtain ⟨b, o, x, cap, hix, g0, g1, g2, hA, hf, ht⟩ := pks_atR (pksR.below HL.out.1 hbel) k p hp
      have HTK : Hid (l.take (k + 1) = l.take k ++ [p] ∧ (l.take k).length = k) := ⟨take_snoc hp, by have := HN.out; rw [List.length_take]; omega⟩
      have HLL : Hid (p.2.2.length ≤ 140737488351232) := HL.out.2.2.2 p (List.mem_of_getElem? hp)
      have HC : Hid (Calls Try.prog 8 #[.agg #[.int .i64 p.1, .int .i64 p.2.1, .slice x p.2.2.length cap]] wr.drew fun e w' => (∃ us', e = .returned (.agg us'.toArray) ∧ pkF.owns wr.heap.size w' us' p) ∧ Below wr.heap.size wr w') :=
        (one_any n0 [.int .i64 p.1, .int .i64 p.2.1, .slice x p.2.2.length cap] p wr.drew (pkF.keep (pk_mk hA hf ht) (.drew _ _)) (by have := HLL.out; omega)).mono fun e w' h => ⟨h.1, ((Below.refl _ wr).drew).trans h.2⟩
      obtain ⟨v', vss, hv, hown0, hE⟩ := hO
      obtain rfl : v = v' := by simpa using hv
      have hown : wr.ownsRow (w.heap.size + 3) 32 3 v k vss.flatten := by rw [← HTK.out.2]; exact hown0
      obtain ⟨a', cap', rfl⟩ := own_shape hown
      have HBX : Hid (Box wr w.heap.size 24 #[.int .i64 lim, .slice a n c] ∧ Box wr (w.heap.size + 1) 30 #[.int .i64 0, .slice none 0 0] ∧ Box wr (w.heap.size + 2) 30 #[.int .i64 lim, .slice a' k cap']) := ⟨hB0, hB1, hB2⟩
      have HE : Hid (Each (pkN.owns (w.heap.size + 3) wr) vss (l.take k)) := hE
      have HBL : Hid (Below w.heap.size w wr) := hbel
      have HO : Hid (wr.ownsRow (w.heap.size + 3) 32 3 (.slice a' k cap') k vss.flatten) := hown
      have hki : (k : Int) < (n : Int) := by omega
      obtain ⟨q0, q1, _, _⟩ := hB0.two
      obtain ⟨q2, q3, _, _⟩ := hB2.two
      obtain ⟨pf, pt, pd⟩ := p
      simp only at g0 g1 g2 HC
      obtain ⟨m, hm'⟩ : ∃ m, m = pd.length := ⟨_, rfl⟩
      have HM : Hid (m = pd.length) := hm'
      rw [← hm'] at g2 HC
      clear hA hp hB0 hB1 hB2 hE hbel hown hown0 hv hf ht hm'
      go_wp2
      go_region_law
        (first
          | (go_simp
             with_reducible refine Calls.mono HC.out ?_
             rintro e w2 ⟨⟨u2, rfl, hu2⟩, hb2⟩
             obtain ⟨ux, uc, hux, _⟩ := pk_own hu2
             simp only at hux
             rw [← HM.out] at hux
             subst hux
             obtain ⟨r0, r1, _, _⟩ := (HBX.out.1.below hb2 HBX.out.1.lt).two
             obtain ⟨r2, r3, _, _⟩ := (HBX.out.2.2.below hb2 HBX.out.2.2.lt).two
             have r4 : ∀ o, (w2.alloc o).cell? ⟨w.heap.size + 2, 1, none⟩ = some (.slice a' k cap') := fun o => ((HBX.out.2.2.below hb2 HBX.out.2.2.lt).alloc o).two.2.1
             try dsimp only)
          | (refine step_append_lies _ (by rfl) _ _ _ (by rfl) (w.heap.size + 3) 32 i3 _ 3 40 Try.underlying28 hi3 hz30 hz31 hz32 rfl (by omega) _ k _ (by rfl) ((own_below HO.out hb2).alloc _) ⟨w2.heap.size, 0, none⟩ 1 1 [.int .i64 pf, .int .i64 pt, .slice ux m uc] (by rfl) (by rfl)
              (World.news_of_block (cs := #[.int .i64 pf, .int .i64 pt, .slice ux m uc]) (t := 32) (fr := (0, 0)) (heap_alloc_new w2 _)) (by simp [Value.oneCell']) (by omega) (by unfold maxLen; omega) (by omega) (by have := hb2.size; simp; omega) (w2.heap.size + 1) (by simp) ?_; intro gg cap3 w3 hown3 hgrow3 hat hltg
             have hbx0 : Box w3 w.heap.size 24 #[.int .i64 lim, .slice a n c] := Box.grown ((HBX.out.1.below hb2 HBX.out.1.lt).alloc _) hgrow3 (row_ne HO.out (by omega))
             have hbx1 : Box w3 (w.heap.size + 1) 30 #[.int .i64 0, .slice none 0 0] := Box.grown ((HBX.out.2.1.below hb2 HBX.out.2.1.lt).alloc _) hgrow3 (row_ne HO.out (by omega))
             have hbx2 : Box w3 (w.heap.size + 2) 30 #[.int .i64 lim, .slice a' k cap'] := Box.grown ((HBX.out.2.2.below hb2 HBX.out.2.2.lt).alloc _) hgrow3 (row_ne HO.out (by omega))
             obtain ⟨s0, s1, s2, s3⟩ := hbx2.two
             have hS2 : Same (w.heap.size + 3) wr (w2.alloc (.cells #[.int .i64 pf, .int .i64 pt, .slice ux m uc] 32)) := Same.trans (.of_below hb2) hb2.size (.alloc _ _ _)
             have hG3 : pksN.owns (w.heap.size + 3) w3 [.slice (some ⟨gg, 0, none⟩) (k + 1) cap3] (l.take (k + 1)) := by
              rw [HTK.out.1]
              refine Shape.list_push (S := pkN) (ht := Try.underlying28) (hc := cells28) (by decide) (HE.out.mono fun _ _ h => pkN.osame h hS2) (by rw [HTK.out.2]; exact own_same HO.out hS2) (pkN.oweaken (pkN.osame hu2 (.alloc _ _ _)) (by omega)) hgrow3 ?_
              rw [HTK.out.2]
              exact hown3
             have hbe3 : Below w.heap.size w w3 := ((below_any HBL.out hb2).alloc (by have := hb2.size; omega) _).grown hgrow3 (by have := hb2.size; simp; omega) (fun j hj => by have := (HO.out.lt j hj).1; omega)
             have HBB : Hid (Box w3 w.heap.size 24 #[.int .i64 lim, .slice a n c] ∧ Box w3 (w.heap.size + 1) 30 #[.int .i64 0, .slice none 0 0] ∧ Box w3 (w.heap.size + 2) 30 #[.int .i64 lim, .slice a' k cap'] ∧ pksN.owns (w.heap.size + 3) w3 [.slice (some ⟨gg, 0, none⟩) (k + 1) cap3] (l.take (k + 1)) ∧ Below w.heap.size w w3 ∧ w.heap.size + 3 ≤ w3.heap.size) := ⟨hbx0, hbx1, hbx2, hG3, hbe3, by have := hgrow3.size; have := hb2.size; simp at *; omega⟩
             clear hown3 hgrow3 hat hltg hG3 hS2 hbx0 hbx1 hbx2 hu2 hbe3))
      all_goals
        clear r0 r1 r2 r3 r4 hix g0 g1 g2 q0 q1 q2 q3
        go_wp2
        go_roundw
        case rel =>
          exact ⟨k + 1, _, by omega, by go_num, HBB.out.1.other (by omega), HBB.out.2.1.other (by omega), HBB.out.2.2.1.set 1 _, pksN.osame HBB.out.2.2.2.1 (.set (by omega)), HBB.out.2.2.2.2.1.setCell (p := ⟨w.heap.size + 2, 1, none⟩) (Nat.le_add_right _ _) _, by simpa [World.setCell] using HBB.out.2.2.2.2.2⟩
        case measure => simp [intOf]; omega
    · obtain rfl : k = n := by omega
      have hT : l.take k = l := by rw [HN.out]; simp
      rw [hT] at hO
      obtain ⟨a', cap', _, hv, hown, _⟩ := Shape.list_own (S := pkN) (ht := Try.underlying28) (hc := cells28) hO
      obtain rfl : v = _ := by simpa using hv
      rw [← HN.out] at hO
      have HO : Hid (pksN.owns (w.heap.size + 3) wr [.slice a' k cap'] l) := hO
      rw [← HN.out] at hB2
      obtain ⟨q0, q1, _, _⟩ := hB2.two
      obtain ⟨d0, d1, e0, e1⟩ := hB1.two
      obtain ⟨r0, r1, _, _⟩ := hB0.two
      have HBL : Hid (Below w.heap.size w wr) := hbel
      clear hown hO hT hbel hB0 hB1 hB2 hv
      go_wp2
      refine bodyPost_ret (v := .agg #[.int .i64 lim, .slice a' k cap']) (by simp [results, Try.results7, go_sem, *]) rfl ⟨⟨[_, _], rfl, ?_⟩, ?_⟩
      · exact stN.oweaken (n := w.heap.size + 3) (stN.osame (st_omkN (s := (lim, l)) HO.out HL.out.2.1) (.set2 (by omega))) (by omega)
      · exact below_set2 HBL.out (by omega) _ _

end Go.Proofs.Ytpecniajamgjiaa
