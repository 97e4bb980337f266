/-
  What Decode answers of octets that are not sealed.
-/
import Derived.Test.YtfpllfjdgpcmdaaDoorWire
namespace Go.Proofs.YtfpllfjdgpcmdaaDoor
open Go.RowKit

set_option maxRecDepth 100000 in
set_option maxHeartbeats 1000000 in
theorem dec_bad (n0 : Nat) (v : Value) (l : List Int) (w : World) (h : Arg n0 w v l) (hs : l.length ≤ 140737488355328) (he : C.oerr l ≠ 0) :
    Calls Tryd.prog 13 #[v] w fun e w' => e = .returned (.tuple #[.agg #[.int .i64 0, .slice none 0 0, .slice none 0 0], .int .i64 (C.oerr l)]) ∧ Below w.heap.size w w' := by
  obtain ⟨W, hW⟩ : ∃ W, W = w.alloc (.cells #[.int .i64 0, .slice none 0 0, .slice none 0 0] 27) := ⟨_, rfl⟩
  have hbW : Below w.heap.size w W := by rw [hW]; exact (Below.refl _ w).alloc (Nat.le_refl _) _
  have hP : Box W w.heap.size 27 #[.int .i64 0, .slice none 0 0, .slice none 0 0] := by rw [hW]; exact Box.new w 27 _
  have HO := C.open_any v l W (h.below hbW).toC hs
  obtain ⟨ce, hce⟩ : ∃ x, x = C.oerr l := ⟨_, rfl⟩
  rw [← hce] at HO he ⊢
  have HW : Hid (Below w.heap.size w W ∧ Box W w.heap.size 27 #[.int .i64 0, .slice none 0 0, .slice none 0 0]) := ⟨hbW, hP⟩
  obtain ⟨a0, c0, rfl, _⟩ := h.shape
  clear h hce hP hbW hs
  go_enter Tryd.func13, Tryd.ntmps13
  go_wp2_with fail
  rw [← hW]
  clear hW
  refine HO.mono ?_
  rintro e w1 ⟨a, cap, rfl, _, hb1⟩
  have hP1 := HW.out.2.below hb1 HW.out.2.lt
  obtain ⟨g0, g1, g2, f0, f1, f2⟩ := hP1.three
  have HB : Hid (Below w.heap.size w w1) := below_any HW.out.1 hb1
  clear hP1 hb1 HO
  go_wp2
  refine bodyPost_ret (v := .tuple #[.agg #[.int .i64 0, .slice none 0 0, .slice none 0 0], .int .i64 ce]) (by simp [results, Tryd.results13, go_sem, *]) rfl ⟨rfl, ?_⟩
  exact below_set3 HB.out (Nat.le_refl _) _ _ _

end Go.Proofs.YtfpllfjdgpcmdaaDoor
