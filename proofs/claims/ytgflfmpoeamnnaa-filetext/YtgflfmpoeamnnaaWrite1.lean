/-
  What Write makes of a file where octets go beyond the bound.
-/
import Derived.Test.YtgflfmpoeamnnaaWrite0
namespace Go.Proofs.Ytgflfmpoeamnnaa
open Go.RowKit

set_option maxRecDepth 100000 in
set_option maxHeartbeats 400000 in
theorem write_big (n0 n1 : Nat) (us : List Value) (f : Fl) (off : Int) (v : Value) (d : List Int) (w : World) (h : flN.lies n0 w us f) (hoff : I64 off) (hv : Arg n1 w v d) (hck : chk f = true) (ho0 : ¬ off < 0) (hd0 : ¬ d.length = 0) (hbig : 2432 < off + (d.length : Int)) :
    Calls Try.prog 12 #[.agg us.toArray, .int .i64 off, v] w fun e w' => (∃ us', e = .returned (.tuple #[.agg us'.toArray, .int .i64 (wrE f off d)]) ∧ flN.lies w.heap.size w' us' (wrF f off d)) ∧ Below w.heap.size w w' := by
  obtain ⟨a, c, rfl, hL, hi, hm⟩ := fl_viewN h
  obtain ⟨s, l⟩ := f
  obtain ⟨x, cap, rfl, hcap, hdm, _⟩ := hv.shape
  simp only at hL hi hm ⊢
  unfold maxLen at hm hdm
  have hI := hoff
  unfold I64 at hoff
  have hld := run_len Try.underlying25 x d.length cap
  obtain ⟨W, hW⟩ : ∃ W, W = (w.alloc (.cells #[.int .i64 s, .slice a l.length c] 28)).alloc (.cells #[.int .i64 0, .slice none 0 0] 28) := ⟨_, rfl⟩
  have hT : Two w W s (.slice a l.length c) := by rw [hW]; exact Two.start _ _ _
  have HC := check_any n0 [.int .i64 s, .slice a l.length c] (s, l) W (flN.below h hT.1)
  have HT : Hid (Two w W s (.slice a l.length c)) := hT
  have HL : Hid (flN.lies n0 w [.int .i64 s, .slice a l.length c] (s, l) ∧ Arg n1 w (.slice x d.length cap) d ∧ I64 s) := ⟨h, hv, hi⟩
  obtain ⟨g0, g1, _⟩ := hT.cells
  rw [hW] at g0 g1
  clear h hL hi hT hv

  rw [show cerr (s, l) = 0 by unfold cerr; rw [hck]; rfl] at HC
  obtain ⟨hs, _, _⟩ := chk_iff.1 hck
  simp only at hs
  obtain ⟨dl, hdl⟩ : ∃ x, x = d.length := ⟨_, rfl⟩
  have HSPN := fun V => span_any off (dl : Int) V hI (by unfold I64; omega)
  have e1 : wrE (s, l) off d = 107 := by unfold wrE; rw [if_neg (by rw [hck]; simp), if_neg ho0, if_neg hd0, if_pos hbig]
  have e2 : wrF (s, l) off d = (0, []) := if_neg (by rw [e1]; omega)
  rw [e1, e2]
  obtain ⟨z1, z2, z3⟩ := spn_high (o := off) (n := (dl : Int)) (by omega) (by omega)
  rw [z1, z2, z3] at HSPN
  rw [← hdl] at hd0 hld ⊢
  have hdz : ¬ (dl : Int) = 0 := by omega
  obtain ⟨n, hn⟩ : ∃ n, n = l.length := ⟨_, rfl⟩
  rw [← hn] at hW HT HC g0 g1 ⊢
  clear e1 e2 z1 z2 z3 hck hdl hn HL
  go_enter Try.func12, Try.ntmps12
  go_wp2_with fail
  rw [← hW]
  clear hW g0 g1
  refine HC.mono ?_
  rintro e w1 ⟨rfl, hb1⟩
  have HT1 : Hid (Two w w1 s (.slice a n c)) := HT.out.below hb1
  obtain ⟨_, _, t0, t1, f0, f1⟩ := HT1.out.cells
  clear HC
  go_wp2_with fail
  refine (HSPN _).mono ?_
  rintro e w2 ⟨rfl, rfl⟩
  clear HSPN hbig hs hI ho0 hoff
  go_wp2
  refine bodyPost_ret (v := .tuple #[.agg #[.int .i64 0, .slice none 0 0], .int .i64 107]) (by simp [results, Try.results12, go_sem, *]) rfl ⟨⟨[_, _], rfl, fl_nilN _ _⟩, below_set2 HT1.out.1 (by omega) _ _⟩

end Go.Proofs.Ytgflfmpoeamnnaa
