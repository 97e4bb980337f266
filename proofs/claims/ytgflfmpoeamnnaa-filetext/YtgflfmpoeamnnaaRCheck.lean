/-
  What the document's Check answers: what the program's does.
-/
import Derived.Test.YtgflfmpoeamnnaaRMade
namespace Go.Proofs.Ytgflfmpoeamnnaa
open Go.RowKit

set_option maxRecDepth 100000 in
set_option maxHeartbeats 4000000 in
theorem rcheck_any (n0 : Nat) (us : List Value) (f : Fl) (w : World) (h : flR.lies n0 w us f) :
    Calls Try.prog 22 #[.agg us.toArray] w fun e w' => e = .returned (.int .i64 (cerr f)) ∧ Below w.heap.size w w' := by
  obtain ⟨a, c, rfl, _, hi, hm⟩ := fl_viewR h
  obtain ⟨s, l⟩ := f
  simp only at hi hm ⊢
  unfold I64 at hi
  obtain ⟨W, hW⟩ : ∃ W, W = w.alloc (.cells #[.int .i64 s, .slice a l.length c] 24) := ⟨_, rfl⟩
  have hb : Below w.heap.size w W := by rw [hW]; exact (Below.refl _ w).alloc (Nat.le_refl _) _
  have hB : Box W w.heap.size 24 #[.int .i64 s, .slice a l.length c] := by rw [hW]; exact Box.new _ _ _
  obtain ⟨g0, g1, _, _⟩ := hB.two
  have HB : Hid (∀ r, Below w.heap.size w (W.drewN r)) := fun r => below_drewN hb r
  have HX : Hid (Box W w.heap.size 24 #[.int .i64 s, .slice a l.length c] ∧ flR.lies n0 W [.int .i64 s, .slice a l.length c] (s, l) ∧ Below w.heap.size w W) := ⟨hB, flR.below h hb, hb⟩
  obtain ⟨n, hn⟩ : ∃ n, n = l.length := ⟨_, rfl⟩
  rw [← hn] at hW HX g1 ⊢
  clear h hb hB hm hn
  by_cases h0 : s < 0
  · rw [show cerr (s, l) = 9 by unfold cerr chk; rw [decide_eq_false (show ¬ (0 ≤ (s, l).1 ∧ (s, l).1 ≤ 2432) by simp only; omega)]; rfl]
    clear HX
    go_enter Try.func22, Try.ntmps22
    go_wp2
    rw [← hW]
    clear hW
    go_quiet (fail)
    go_wp2
    go_ret
    exact ⟨rfl, HB.out _⟩
  by_cases h1 : 2432 < s
  · rw [show cerr (s, l) = 9 by unfold cerr chk; rw [decide_eq_false (show ¬ (0 ≤ (s, l).1 ∧ (s, l).1 ≤ 2432) by simp only; omega)]; rfl]
    clear HX
    go_enter Try.func22, Try.ntmps22
    go_wp2
    rw [← hW]
    clear hW
    go_quiet (fail)
    go_wp2
    go_ret
    exact ⟨rfl, HB.out _⟩
  have hin : 0 ≤ s ∧ s ≤ 2432 := by omega
  have HMD : Hid (decide ((s, l) = mk (rtext (s, l))) = chk (s, l) ∧ (rtext (s, l)).length ≤ 2432) := by
    refine ⟨?_, by rw [rtext_length]; simp only; omega⟩
    rw [Bool.eq_iff_iff, decide_eq_true_eq]
    exact chk_made hin
  have HT : Hid (Calls Try.prog 27 #[.agg #[.int .i64 s, .slice a n c]] W.drew fun e w' => (∃ v, e = .returned v ∧ Own1 W.heap.size w' v (rtext (s, l))) ∧ Below W.heap.size W w') :=
    (rtext_any n0 [.int .i64 s, .slice a n c] (s, l) W.drew (flR.keep HX.out.2.1 (.drew _ _)) hin).mono fun e w' h => ⟨h.1, ((Below.refl _ W).drew).trans h.2⟩
  cases hck : chk (s, l)
  all_goals
    rw [hck] at HMD
    first
      | rw [show cerr (s, l) = 9 by unfold cerr; rw [hck]; rfl]
      | rw [show cerr (s, l) = 0 by unfold cerr; rw [hck]; rfl]
    go_enter Try.func22, Try.ntmps22
    go_wp2
    rw [← hW]
    clear hW
    have hd0 : decide (s < 0) = false := decide_eq_false (by omega)
    have hd1 : decide (2432 < s) = false := decide_eq_false (by omega)
    go_region_held3 (fun V => V.cell? ⟨w.heap.size, 0, none⟩ = some (.int .i64 s) ∧ V.cell? ⟨w.heap.size, 1, none⟩ = some (.slice a n c)) (first | exact ⟨g0, g1⟩ | exact ⟨x0, x1⟩ | exact ⟨y0, y1⟩ | exact ⟨z0, z1⟩)
      ((first
        | (go_at_call 27; go_simp; refine Calls.mono HT.out ?_; rintro e w2 ⟨⟨v2, rfl, hv2⟩, hb2⟩; obtain ⟨a2, c2, rfl⟩ := hv2.shape; have HB2 : Hid (Box w2 w.heap.size 24 #[.int .i64 s, .slice a n c] ∧ flR.lies n0 w2 [.int .i64 s, .slice a n c] (s, l) ∧ Below w.heap.size w w2 ∧ Own1 W.heap.size w2 (.slice a2 (rtext (s, l)).length c2) (rtext (s, l))) := ⟨HX.out.1.below hb2 HX.out.1.lt, flR.below HX.out.2.1 hb2, below_any HX.out.2.2 hb2, hv2⟩; obtain ⟨x0, x1, _, _⟩ := HB2.out.1.two; clear hv2 hb2)
        | (go_at_call 31; go_simp; refine Calls.mono (made_any W.heap.size _ _ _ HB2.out.2.2.2.arg HMD.out.2) ?_; rintro e w3 ⟨⟨us3, rfl, hu3⟩, hb3⟩; have HB3 : Hid (Box w3 w.heap.size 24 #[.int .i64 s, .slice a n c] ∧ flR.lies n0 w3 [.int .i64 s, .slice a n c] (s, l) ∧ Below w.heap.size w w3 ∧ flR.lies w2.heap.size w3 us3 (mk (rtext (s, l)))) := ⟨HB2.out.1.below hb3 HB2.out.1.lt, flR.below HB2.out.2.1 hb3, below_any HB2.out.2.2.1 hb3, hu3⟩; obtain ⟨y0, y1, _, _⟩ := HB3.out.1.two; clear hu3 hb3)
        | (go_at_call 35; go_simp; refine Calls.mono (rsame_any n0 w2.heap.size [.int .i64 s, .slice a n c] us3 _ _ _ HB3.out.2.1 HB3.out.2.2.2) ?_; rintro e w4 ⟨rfl, hb4⟩; rw [HMD.out.1]; have HB4 : Hid (Box w4 w.heap.size 24 #[.int .i64 s, .slice a n c] ∧ Below w.heap.size w w4) := ⟨HB3.out.1.below hb4 HB3.out.1.lt, below_any HB3.out.2.2.1 hb4⟩; obtain ⟨z0, z1, _, _⟩ := HB4.out.1.two; clear hb4)))
    go_wp2
    go_ret
    exact ⟨rfl, HB4.out.2⟩

end Go.Proofs.Ytgflfmpoeamnnaa
