/-
  The statements' helper alive: the page's example.
-/
import Derived.Test.YtgflfmpoeamnnaaAlikeL
import Derived.Lib.SlBytesConst
namespace Go.Proofs.Ytgflfmpoeamnnaa
open Go.RowKit

/-- The block of the example. -/
def exB : List Int := [0, 0, 0, 0, 0, 0, 0, 0, 120, 0, 0, 0, 0, 0, 0, 0, 0, 0, 0, 0, 0, 0, 0, 0, 0, 0, 0, 0, 0, 0, 0, 0]
theorem ex_write : wrE (0, []) 40 [120] = 0 ∧ wrF (0, []) 40 [120] = (41, [(1, exB)]) := by decide +kernel
theorem ex_read : rdE (41, [(1, exB)]) 39 9 = 0 ∧ rdO (41, [(1, exB)]) 39 9 = [0, 120] := by decide +kernel
theorem ex_text : strOfNums [0, 120] = ⟨#[0, 120]⟩ := by decide +kernel

set_option maxRecDepth 100000 in
set_option maxHeartbeats 2000000 in
theorem alive_any (w : World) : Calls Try.prog 23 #[] w fun e w' => e = .returned (.bool true) ∧ Below w.heap.size w w' := by
  obtain ⟨W, hW⟩ : ∃ W, W = w.alloc (.cells #[.int .u8 120] 5 (1, 2)) := ⟨_, rfl⟩
  have hconv := Lib.run_convert_bytes_const (P := Try.prog) w 25 5 #[.int .u8 120] 1 1 Try.underlying25 Try.underlying5
  have hb : Below w.heap.size w W := by rw [hW]; exact (Below.refl _ w).alloc (Nat.le_refl _) _
  have hA : Arg w.heap.size W (.slice (some ⟨w.heap.size, 0, none⟩) 1 1) [120] := by
    have hc : W.cell? ⟨w.heap.size, 0, none⟩ = some (.int .u8 120) := by
      have hh : W.heap[w.heap.size]? = some (.cells #[.int .u8 120] 5 (1, 2)) := by rw [hW]; exact heap_alloc_new w _
      simp [World.cell?, hh]
    refine .mk ⟨rfl, .inr ⟨⟨w.heap.size, 0, none⟩, 1, rfl, Nat.le_refl _, by simp [maxLen], Nat.le_refl _, fun i u hu => ?_⟩⟩ (fun x hx => by rw [List.mem_singleton.1 hx]; decide)
    match i, hu with
    | 0, hu =>
      simp at hu
      subst hu
      rw [add_plain]
      exact hc
  have H1 := write_any 0 w.heap.size [.int .i64 0, .slice none 0 0] (0, []) 40 _ [120] W (fl_nilN _ _) (by unfold I64; omega) hA
  rw [ex_write.1, ex_write.2] at H1
  have HB : Hid (Below w.heap.size w W) := hb
  have hsz1 : (#[Value.int .u8 120] : Array Value).size = 1 := rfl
  rw [hsz1] at hconv
  clear hb hA
  go_enter Try.func23, Try.ntmps23
  go_wp2_with fail
  rw [← hW]
  clear hW
  refine H1.mono ?_
  rintro e w1 ⟨⟨us, rfl, hu⟩, hb1⟩
  obtain ⟨a1, c1, rfl, hbs, _⟩ := fl_viewN hu
  simp only [List.length_cons, List.length_nil, Nat.zero_add] at hbs hu ⊢
  obtain ⟨bb, bo, xa, xc, hix, v0, _⟩ := bks_atN hbs 0 (1, exB) rfl
  obtain ⟨W1, hW1⟩ : ∃ W1, W1 = w1.alloc (.cells #[.int .i64 41, .slice a1 1 c1] 28) := ⟨_, rfl⟩
  have hb2 : Below w1.heap.size w1 W1 := by rw [hW1]; exact (Below.refl _ _).alloc (Nat.le_refl _) _
  have hP1 : Box W1 w1.heap.size 28 #[.int .i64 41, .slice a1 1 c1] := by rw [hW1]; exact Box.new _ _ _
  have H2 := read_any W.heap.size [.int .i64 41, .slice a1 1 c1] (41, [(1, exB)]) 39 9 W1 (flN.below hu hb2) (by unfold I64; omega) (by unfold I64; omega)
  rw [ex_read.1, ex_read.2] at H2
  have HB2 : Hid (Below w.heap.size w W1 ∧ Box W1 w1.heap.size 28 #[.int .i64 41, .slice a1 1 c1] ∧ (∀ V, Below W1.heap.size W1 V → V.cell? ⟨bb, bo, none⟩ = some (.int .i64 1))) := ⟨below_any (below_any HB.out hb1) hb2, hP1, fun V hV => by
    have := below_any hb2 hV
    rw [this.cell (cell_lt v0)]; exact v0⟩
  clear hu hbs hb1 hb2 hP1 v0 H1
  go_wp2_with fail
  rw [← hW1]
  clear hW1
  refine H2.mono ?_
  rintro e w2 ⟨⟨v2, rfl, hv2⟩, hb3⟩
  obtain ⟨r0, r1, _, _⟩ := (HB2.out.2.1.below hb3 HB2.out.2.1.lt).two
  have v0 := HB2.out.2.2 w2 hb3
  have hcv := conv_any hv2
  rw [ex_text] at hcv
  have hl1 := run_len Try.underlying26 a1 1 c1
  have hix0 : ∀ W, (Instr.indexAt 26 (.slice a1 1 c1) (.int .i64 0)).run Try.prog W = .ok (.pointer (some ⟨bb, bo, none⟩)) W := hix
  obtain ⟨a2, c2, rfl, _⟩ := hv2.shape
  simp only [List.length_cons, List.length_nil, Nat.zero_add, Nat.reduceAdd] at hcv ⊢
  have HBF : Hid (Below w.heap.size w w2) := below_any HB2.out.1 hb3
  clear hb3 hv2 H2 hix
  go_wp2_with (go_at_call 19; refine (num_any _ _).mono ?_; rintro e w3 ⟨rfl, rfl⟩)
  go_ret
  exact ⟨rfl, HBF.out⟩

end Go.Proofs.Ytgflfmpoeamnnaa
