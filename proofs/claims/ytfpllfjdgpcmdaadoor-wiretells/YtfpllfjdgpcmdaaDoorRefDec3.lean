/-
  What the document's Decode answers, of every octets.
-/
import Derived.Test.YtfpllfjdgpcmdaaDoorRefDec2
namespace Go.Proofs.YtfpllfjdgpcmdaaDoor
open Go.RowKit

set_option maxRecDepth 100000 in
set_option maxHeartbeats 1000000 in
theorem rdec_bad (n0 : Nat) (v : Value) (l : List Int) (w : World) (h : Arg n0 w v l) (hs : l.length ≤ 140737488351232) (he : C.oerr l ≠ 0) :
    Calls Tryd.prog 14 #[v] w fun e w' => e = .returned (.tuple #[.agg #[.int .i64 0, .slice none 0 0, .slice none 0 0], .int .i64 (C.oerr l)]) ∧ Below w.heap.size w w' := by
  obtain ⟨W, hW⟩ : ∃ W, W = w.alloc (.cells #[.int .i64 0, .slice none 0 0, .slice none 0 0] 25) := ⟨_, rfl⟩
  have hbW : Below w.heap.size w W := by rw [hW]; exact (Below.refl _ w).alloc (Nat.le_refl _) _
  have hP : Box W w.heap.size 25 #[.int .i64 0, .slice none 0 0, .slice none 0 0] := by rw [hW]; exact Box.new w 25 _
  have HO := C.ropen_any v l W (h.below hbW).toC hs
  obtain ⟨ce, hce⟩ : ∃ x, x = C.oerr l := ⟨_, rfl⟩
  rw [← hce] at HO he ⊢
  have HW : Hid (Below w.heap.size w W ∧ Box W w.heap.size 25 #[.int .i64 0, .slice none 0 0, .slice none 0 0]) := ⟨hbW, hP⟩
  obtain ⟨a0, c0, rfl, _⟩ := h.shape
  clear h hce hP hbW hs
  go_enter Tryd.func14, Tryd.ntmps14
  go_wp2_with fail
  rw [← hW]
  clear hW
  refine HO.mono ?_
  rintro e w1 ⟨a, cap, rfl, _, hb1⟩
  have hP1 := HW.out.2.below hb1 HW.out.2.lt
  obtain ⟨g0, g1, g2, f0, f1, f2⟩ := hP1.three
  have HB : Hid (Below w.heap.size w w1) := below_any HW.out.1 hb1
  clear hP1 hb1 HO
  go_wp2
  refine bodyPost_ret (v := .tuple #[.agg #[.int .i64 0, .slice none 0 0, .slice none 0 0], .int .i64 ce]) (by simp [results, Tryd.results14, go_sem, *]) rfl ⟨rfl, ?_⟩
  exact below_set3 HB.out (Nat.le_refl _) _ _ _

theorem rdec_any (n0 : Nat) (v : Value) (l : List Int) (w : World) (h : Arg n0 w v l) (hs : l.length ≤ 140737488351232) :
    Calls Tryd.prog 14 #[v] w fun e w' => (∃ us : List Value, e = .returned (.tuple #[.agg us.toArray, .int .i64 (decE l)]) ∧ recF.owns w.heap.size w' us (decV l)) ∧ Below w.heap.size w w' := by
  by_cases he : C.oerr l = 0
  · unfold decE decV
    rw [if_pos he, if_pos he]
    exact rdec_ok n0 v l w h hs he
  · unfold decE decV
    rw [if_neg he, if_neg he]
    exact (rdec_bad n0 v l w h hs he).mono fun e w' ⟨h1, h2⟩ => ⟨⟨[_, _, _], h1, rec_zero _ _⟩, h2⟩

end Go.Proofs.YtfpllfjdgpcmdaaDoor
