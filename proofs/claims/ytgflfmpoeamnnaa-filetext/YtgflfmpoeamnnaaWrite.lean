/-
  What Write makes of a file, and Of.
-/
import Derived.Test.YtgflfmpoeamnnaaWrite1
import Derived.Test.YtgflfmpoeamnnaaWrite2
namespace Go.Proofs.Ytgflfmpoeamnnaa
open Go.RowKit

theorem write_any (n0 n1 : Nat) (us : List Value) (f : Fl) (off : Int) (v : Value) (d : List Int) (w : World) (h : flN.lies n0 w us f) (hoff : I64 off) (hv : Arg n1 w v d) :
    Calls Try.prog 12 #[.agg us.toArray, .int .i64 off, v] w fun e w' => (∃ us', e = .returned (.tuple #[.agg us'.toArray, .int .i64 (wrE f off d)]) ∧ flN.lies w.heap.size w' us' (wrF f off d)) ∧ Below w.heap.size w w' := by
  by_cases h1 : chk f = false
  · exact write_less n0 n1 us f off v d w h hoff hv (.inl h1)
  have h1' : chk f = true := by simpa using h1
  by_cases h2 : off < 0
  · exact write_less n0 n1 us f off v d w h hoff hv (.inr (.inl h2))
  by_cases h3 : d.length = 0
  · exact write_less n0 n1 us f off v d w h hoff hv (.inr (.inr h3))
  by_cases h4 : 2432 < off + (d.length : Int)
  · exact write_big n0 n1 us f off v d w h hoff hv h1' h2 h3 h4
  · exact write_some n0 n1 us f off v d w h hoff hv h1' h2 h3 h4

def ofE (d : List Int) : Int := if 2432 < d.length then 107 else 0
def ofF (d : List Int) : Fl := if 2432 < d.length then (0, []) else mk d
theorem of_write (d : List Int) : wrE (0, []) 0 d = ofE d ∧ wrF (0, []) 0 d = ofF d := by
  have hc := chk_nil
  by_cases h0 : d.length = 0
  · have e1 : wrE (0, []) 0 d = 0 := by unfold wrE; rw [if_neg (by rw [hc]; simp), if_neg (by omega), if_pos h0]
    obtain rfl := List.eq_nil_of_length_eq_zero h0
    refine ⟨by rw [e1]; rfl, ?_⟩
    unfold wrF ofF
    rw [if_pos e1, if_neg (by simp), wrT_none _ rfl]
    rfl
  · by_cases h1 : 2432 < d.length
    · have e1 : wrE (0, []) 0 d = 107 := by unfold wrE; rw [if_neg (by rw [hc]; simp), if_neg (by omega), if_neg h0, if_pos (by omega)]
      exact ⟨by rw [e1]; exact (if_pos h1).symm, by unfold wrF ofF; rw [if_neg (by rw [e1]; omega), if_pos h1]⟩
    · have e1 : wrE (0, []) 0 d = 0 := by unfold wrE; rw [if_neg (by rw [hc]; simp), if_neg (by omega), if_neg h0, if_neg (by omega)]
      refine ⟨by rw [e1]; exact (if_neg h1).symm, ?_⟩
      unfold wrF ofF
      rw [if_pos e1, if_neg h1]
      congr 1
      refine alike (by rw [wrT_length h0]; simp [txt_nil]) fun i hi => ?_
      have := wrT_get (t := txt (0, [])) (p := 0) h0 i
      rw [wrT_length h0, txt_nil] at hi
      rw [if_pos (by simp at hi; omega)] at this
      exact this

set_option maxRecDepth 100000 in
set_option maxHeartbeats 1000000 in
theorem of_any (n1 : Nat) (v : Value) (d : List Int) (w : World) (hv : Arg n1 w v d) :
    Calls Try.prog 16 #[v] w fun e w' => (∃ us', e = .returned (.tuple #[.agg us'.toArray, .int .i64 (ofE d)]) ∧ flN.lies w.heap.size w' us' (ofF d)) ∧ Below w.heap.size w w' := by
  obtain ⟨W, hW⟩ : ∃ W, W = w.alloc (.cells #[.int .i64 0, .slice none 0 0] 28) := ⟨_, rfl⟩
  have hb : Below w.heap.size w W := by rw [hW]; exact (Below.refl _ w).alloc (Nat.le_refl _) _
  have hB : Box W w.heap.size 28 #[.int .i64 0, .slice none 0 0] := by rw [hW]; exact Box.new _ _ _
  have HW := write_any W.heap.size n1 [.int .i64 0, .slice none 0 0] (0, []) 0 v d W (fl_nilN _ _) (by unfold I64; omega) (hv.below hb)
  rw [(of_write d).1, (of_write d).2] at HW
  obtain ⟨a, cap, rfl, _⟩ := hv.shape
  have HB : Hid (Below w.heap.size w W ∧ Box W w.heap.size 28 #[.int .i64 0, .slice none 0 0]) := ⟨hb, hB⟩
  obtain ⟨E, hE⟩ : ∃ E, E = ofE d := ⟨_, rfl⟩
  obtain ⟨dl, hdl⟩ : ∃ E, E = d.length := ⟨_, rfl⟩
  rw [← hE, ← hdl] at HW ⊢
  clear hv hb hB hE hdl
  go_enter Try.func16, Try.ntmps16
  go_wp2_with fail
  rw [← hW]
  clear hW
  refine HW.mono ?_
  rintro e w1 ⟨⟨us, rfl, hu⟩, hb1⟩
  obtain ⟨t0, t1, f0, f1⟩ := (HB.out.2.below hb1 HB.out.2.lt).two
  obtain ⟨a1, c1, rfl, _⟩ := fl_viewN hu
  obtain ⟨s1, hs1⟩ : ∃ x, x = (ofF d).1 := ⟨_, rfl⟩
  obtain ⟨l1, hl1⟩ : ∃ x, x = (ofF d).2.length := ⟨_, rfl⟩
  rw [← hs1, ← hl1] at hu ⊢
  have HU : Hid (flN.lies W.heap.size w1 [.int .i64 s1, .slice a1 l1 c1] (ofF d) ∧ Below w.heap.size w w1 ∧ w.heap.size < W.heap.size) := ⟨hu, below_any HB.out.1 hb1, HB.out.2.lt⟩
  clear hu hb1 HW hs1 hl1
  go_wp2
  refine bodyPost_ret (v := .tuple #[.agg #[.int .i64 s1, .slice a1 l1 c1], .int .i64 E]) (by simp [results, Try.results16, go_sem, *]) rfl ⟨⟨_, rfl, flN.weaken (flN.keep HU.out.1 (.set2 HU.out.2.2)) (by have := HU.out.2.2; omega)⟩, below_set2 HU.out.2.1 (Nat.le_refl _) _ _⟩

end Go.Proofs.Ytgflfmpoeamnnaa
