/-
  The statements' helper alive: the page's example.
-/
import Derived.Test.YtfpllfjdgpcmdaaDoorEncode
import Derived.Test.YtfpllfjdgpcmdaaDoorSmall
namespace Go.Proofs.YtfpllfjdgpcmdaaDoor
open Go.RowKit

theorem laid_example : laidR (1, [0, -1, 64], []) = [1, 3, 0, 1, 128, 1, 0] := by
  have f1 : fold 0 = 0 := by decide
  have f2 : fold (-1) = 1 := by decide
  have f3 : fold 64 = 128 := by decide
  have g1 : grp 0 = [0] := grp_small (by omega)
  have g2 : grp 1 = [1] := grp_small (by omega)
  have g3 : grp 128 = [128, 1] := by rw [grp_more (by omega), grp_small (by omega)]; rfl
  simp [laidR, laidN, laidT, f1, f2, f3, g1, g2, g3]

theorem sealed_len : (C.sealed (laidR (1, [0, -1, 64], []))).length = 11 := by rw [C.sealed_length, laid_example]; rfl
theorem sealed_take : (C.sealed (laidR (1, [0, -1, 64], []))).take 7 = [1, 3, 0, 1, 128, 1, 0] := by
  unfold C.sealed
  rw [laid_example]
  exact List.take_left' rfl

theorem ints_lit (w : World) (l : List Int) (n0 : Nat) (h0 : n0 ≤ w.heap.size) (hl : l.length ≤ maxLen) (hi : ∀ x ∈ l, I64 x) : intsS.owns n0 (w.alloc (.cells (l.map (Value.int .i64)).toArray 3)) [.slice (some ⟨w.heap.size, 0, none⟩) l.length l.length] l := by
  refine ints_omk ?_ hi
  have := World.ownsRow_lit w (base := n0) (e := 3) (size := 1) (l.map (Value.int .i64)).toArray l.length h0 hl (by simp)
  simpa using this
theorem bytes_lit (w : World) (l : List Int) (n0 : Nat) (h0 : n0 ≤ w.heap.size) (hl : l.length ≤ maxLen) (hi : Oc l) : Own1 n0 (w.alloc (.cells (l.map (Value.int .u8)).toArray 5)) (.slice (some ⟨w.heap.size, 0, none⟩) l.length l.length) l := by
  refine .mk ?_ hi
  have := World.ownsRow_lit w (base := n0) (e := 5) (size := 1) (l.map (Value.int .u8)).toArray l.length h0 hl (by simp)
  simpa using this

theorem Arg.ahead {n0 : Nat} {w : World} {a : Option Addr} {n c : Nat} {l : List Int} (h : Arg n0 w (.slice a n c) l) (j : Nat) (hj : j ≤ l.length) : Arg n0 w (.slice a j c) (l.take j) ∧ l.length ≤ c := by
  have ho := h.oct
  have hlen : (l.take j).length = j := by rw [List.length_take]; omega
  obtain ⟨_, ⟨hv, h0⟩ | ⟨x, cap, hv, h1, h2, h3, h4⟩⟩ := h.cells
  · obtain ⟨rfl, rfl, rfl⟩ := Value.slice.inj hv
    obtain rfl : j = 0 := by omega
    exact ⟨.mk ⟨by simp, .inl ⟨rfl, by simp⟩⟩ (oc_take ho _), by omega⟩
  · obtain ⟨rfl, rfl, rfl⟩ := Value.slice.inj hv
    refine ⟨.mk ⟨by simp, .inr ⟨x, c, by rw [hlen], by omega, by omega, h3, fun i u hu => h4 i u ?_⟩⟩ (oc_take ho _), h1⟩
    rw [List.map_take, List.getElem?_take] at hu
    split at hu
    · exact hu
    · cases hu

set_option maxRecDepth 100000 in
set_option maxHeartbeats 2000000 in
theorem alive_any (w : World) : Calls Tryd.prog 20 #[] w fun e w' => e = .returned (.bool true) ∧ Below w.heap.size w w' := by
  obtain ⟨W, hW⟩ : ∃ W, W = w.alloc (.cells #[.int .i64 0, .int .i64 (-1), .int .i64 64] 3) := ⟨_, rfl⟩
  have hbW : Below w.heap.size w W := by rw [hW]; exact (Below.refl _ w).alloc (Nat.le_refl _) _
  have hI : intsS.owns w.heap.size W [.slice (some ⟨w.heap.size, 0, none⟩) 3 3] [0, -1, 64] := by
    rw [hW]
    exact ints_lit w [0, -1, 64] w.heap.size (Nat.le_refl _) (by decide) (by unfold I64; decide)
  have hchk : chkR (1, [0, -1, 64], []) = 0 := by decide
  have HE := enc_ok 0 _ (1, [0, -1, 64], []) W (rec_mk (intsS.weaken (intsS.olies hI) (Nat.zero_le _)) (textsS.olies (Shape.list_nil bytesS 23 Tryd.underlying23 cells23 0 W)) ⟨by decide, by decide⟩) hchk
  have HW : Hid (Below w.heap.size w W) := hbW
  have e11 := sealed_len
  have e7 := sealed_take
  obtain ⟨L, hL⟩ : ∃ L, L = C.sealed (laidR (1, [0, -1, 64], [])) := ⟨_, rfl⟩
  rw [← hL] at HE e11 e7
  have HEE : Hid (L.length = 11 ∧ L.take 7 = [1, 3, 0, 1, 128, 1, 0]) := ⟨e11, e7⟩
  clear hI hbW hL e11 e7 hchk
  go_enter Tryd.func20, Tryd.ntmps20
  go_wp2_with fail
  rw [← hW]
  clear hW
  refine HE.mono ?_
  rintro e w1 ⟨⟨v1, rfl, ho1⟩, hb1⟩
  obtain ⟨a1, c1, rfl⟩ := ho1.shape
  rw [HEE.out.1] at ho1 ⊢
  obtain ⟨hA2, hc11⟩ := ho1.arg.ahead 7 (by rw [HEE.out.1]; omega)
  rw [HEE.out.1] at hc11
  rw [HEE.out.2] at hA2
  obtain ⟨W2, hW2⟩ : ∃ W, W = w1.alloc (.cells #[.int .u8 1, .int .u8 3, .int .u8 0, .int .u8 1, .int .u8 128, .int .u8 1, .int .u8 0] 5) := ⟨_, rfl⟩
  have hbW2 : Below w1.heap.size w1 W2 := by rw [hW2]; exact (Below.refl _ w1).alloc (Nat.le_refl _) _
  have hB : Own1 w1.heap.size W2 (.slice (some ⟨w1.heap.size, 0, none⟩) 7 7) [1, 3, 0, 1, 128, 1, 0] := by
    rw [hW2]
    exact bytes_lit w1 [1, 3, 0, 1, 128, 1, 0] w1.heap.size (Nat.le_refl _) (by decide) (by unfold Oc; decide)
  have HS := same_any _ w1.heap.size _ _ _ _ W2 (hA2.below hbW2) hB.arg
  rw [show decide (([1, 3, 0, 1, 128, 1, 0] : List Int) = [1, 3, 0, 1, 128, 1, 0]) = true by decide] at HS
  have hll := run_len Tryd.underlying26 a1 11 c1
  have HB : Hid (Below w.heap.size w W2) := below_any (below_any HW.out hb1) hbW2
  clear ho1 hA2 hB hb1 hbW2 HE
  go_wp2_with (go_at_call 16; refine (num_any _ _).mono ?_; rintro e w3 ⟨rfl, rfl⟩)
  rw [← hW2]
  clear hW2
  refine HS.mono ?_
  rintro e w3 ⟨rfl, q, rfl⟩
  go_wp2
  go_ret
  exact ⟨rfl, below_drewN HB.out q⟩

end Go.Proofs.YtfpllfjdgpcmdaaDoor
