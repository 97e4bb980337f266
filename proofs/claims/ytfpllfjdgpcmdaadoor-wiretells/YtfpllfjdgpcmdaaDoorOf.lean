/-
  What of makes of the document's record: the program's, in memory of its own.
-/
import Derived.Test.YtfpllfjdgpcmdaaDoorCopy
namespace Go.Proofs.YtfpllfjdgpcmdaaDoor
open Go.RowKit

/-- As great as the form reads a record. -/
def FitsR (r : Rc) : Prop := r.2.1.length * 8 ≤ 140737488351232 ∧ FitsT r.2.2
theorem fits_of {r : Rc} (h : recF.fits r) : FitsR r := by
  obtain ⟨_, h1, h2, h3⟩ := h
  have b3 : Tryd.prog.bytesOf 3 = 8 := by kernel_rfl
  have b26 : Tryd.prog.bytesOf 26 = 24 := by kernel_rfl
  have b5 : Tryd.prog.bytesOf 5 = 1 := by kernel_rfl
  refine ⟨?_, ?_, fun t ht => ?_⟩
  · have h4 : r.2.1.length * Tryd.prog.bytesOf 3 ≤ 140737488351232 := h1
    rwa [b3] at h4
  · have h4 : r.2.2.length * Tryd.prog.bytesOf 26 ≤ 140737488351232 := h2
    rwa [b26] at h4
  · have h5 : t.length * Tryd.prog.bytesOf 5 ≤ 140737488351232 := h3 t ht
    rwa [b5, Nat.mul_one] at h5

/-- What stays while the two copies are made. -/
def Gd (w : World) (k : Int) (x y : Value) (V : World) : Prop := Below w.heap.size w V ∧ Box V w.heap.size 25 #[.int .i64 k, x, y] ∧ Box V (w.heap.size + 1) 27 #[.int .i64 0, .slice none 0 0, .slice none 0 0] ∧ w.heap.size + 2 ≤ V.heap.size
theorem Gd.drew {w : World} {k : Int} {x y : Value} {V : World} (h : Gd w k x y V) : Gd w k x y V.drew := ⟨h.1.drew, h.2.1.drew, h.2.2.1.drew, h.2.2.2⟩
theorem Gd.below {w : World} {k : Int} {x y : Value} {V V' : World} (h : Gd w k x y V) (hb : Below V.heap.size V V') : Gd w k x y V' :=
  ⟨below_any h.1 hb, h.2.1.below hb h.2.1.lt, h.2.2.1.below hb h.2.2.1.lt, Nat.le_trans h.2.2.2 hb.size⟩
theorem Gd.cells {w : World} {k : Int} {x y : Value} {V : World} (h : Gd w k x y V) : V.cell? ⟨w.heap.size, 0, none⟩ = some (.int .i64 k) ∧ V.cell? ⟨w.heap.size, 1, none⟩ = some x ∧ V.cell? ⟨w.heap.size, 2, none⟩ = some y := ⟨h.2.1.cell 0 rfl, h.2.1.cell 1 rfl, h.2.1.cell 2 rfl⟩
theorem Gd.rcells {w : World} {k : Int} {x y : Value} {V : World} (h : Gd w k x y V) : V.cell? ⟨w.heap.size + 1, 0, none⟩ = some (.int .i64 0) ∧ V.cell? ⟨w.heap.size + 1, 1, none⟩ = some (.slice none 0 0) ∧ V.cell? ⟨w.heap.size + 1, 2, none⟩ = some (.slice none 0 0) ∧ V.frozen? ⟨w.heap.size + 1, 0, none⟩ = false ∧ V.frozen? ⟨w.heap.size + 1, 1, none⟩ = false ∧ V.frozen? ⟨w.heap.size + 1, 2, none⟩ = false := h.2.2.1.three

attribute [local go_sem ↓] Go.wp_at_zero Go.wp_at_succ

set_option maxRecDepth 100000 in
set_option maxHeartbeats 20000000 in
theorem of_any (n0 : Nat) (us : List Value) (r : Rc) (w : World) (h : recF.lies n0 w us r) (hf : FitsR r) :
    Calls Tryd.prog 9 #[.agg us.toArray] w fun e w' => (∃ us', e = .returned (.agg us'.toArray) ∧ recF.owns w.heap.size w' us' r) ∧ Below w.heap.size w w' := by
  obtain ⟨a, c, b, d, rfl, hI, hT, hk, _⟩ := rec_view h
  obtain ⟨k, ns, ts⟩ := r
  simp only at hI hT hk hf
  have HK : Hid (I64 k) := hk
  obtain ⟨x, hx⟩ : ∃ x, x = Value.slice a ns.length c := ⟨_, rfl⟩
  obtain ⟨y, hy⟩ : ∃ x, x = Value.slice b ts.length d := ⟨_, rfl⟩
  simp only
  rw [← hx] at hI ⊢
  rw [← hy] at hT ⊢
  obtain ⟨W, hW⟩ : ∃ W, W = (w.alloc (.cells #[.int .i64 k, x, y] 25)).alloc (.cells #[.int .i64 0, .slice none 0 0, .slice none 0 0] 27) := ⟨_, rfl⟩
  have hG : Gd w k x y W := by
    rw [hW]
    refine ⟨((Below.refl _ w).alloc (Nat.le_refl _) _).alloc (by simp) _, (Box.new w 25 _).alloc _, ?_, by simp⟩
    have := Box.new (w.alloc (.cells #[.int .i64 k, x, y] 25)) 27 #[.int .i64 0, .slice none 0 0, .slice none 0 0]
    rwa [World.size_alloc] at this
  obtain ⟨n, hn⟩ : ∃ n, n = ns.length := ⟨_, rfl⟩
  obtain ⟨m, hm⟩ : ∃ n, n = ts.length := ⟨_, rfl⟩
  have HA : Hid (∀ V, Gd w k x y V → Calls Tryd.prog 27 #[x] V fun e w' => (∃ a' c', e = .returned (.slice a' n c') ∧ Hid (∀ w2, Same (w.heap.size + 2) w' w2 → intsS.owns (w.heap.size + 2) w2 [.slice a' n c'] ns)) ∧ Gd w k x y w' ∧ Hid (Same (w.heap.size + 2) V w' ∧ V.heap.size ≤ w'.heap.size)) := fun V hV =>
    (copyInts_any n0 x ns V (intsS.below hI hV.1) hf.1).mono fun e w' h => by
      obtain ⟨⟨v', he, ho⟩, hb⟩ := h
      obtain ⟨a', c', rfl⟩ := own_shape (ints_own ho)
      rw [← hn] at he ho
      exact ⟨⟨a', c', he, fun w2 hs => intsS.osame (intsS.oweaken ho hV.2.2.2) hs⟩, hV.below hb, .of_below hb, hb.size⟩
  have HB : Hid (∀ V, Gd w k x y V → Calls Tryd.prog 21 #[y] V fun e w' => (∃ a' c', e = .returned (.slice a' m c') ∧ Hid (∀ w2, Same (w.heap.size + 2) w' w2 → textsS.owns (w.heap.size + 2) w2 [.slice a' m c'] ts)) ∧ Gd w k x y w' ∧ Hid (Same (w.heap.size + 2) V w' ∧ V.heap.size ≤ w'.heap.size)) := fun V hV =>
    (copyLists_any n0 y ts V (textsS.below hT hV.1) hf.2).mono fun e w' h => by
      obtain ⟨⟨v', he, ho⟩, hb⟩ := h
      obtain ⟨a', c', _, hv, _⟩ := texts_own ho
      obtain rfl : v' = _ := by simpa using hv
      rw [← hm] at he ho
      exact ⟨⟨a', c', he, fun w2 hs => textsS.osame (textsS.oweaken ho hV.2.2.2) hs⟩, hV.below hb, .of_below hb, hb.size⟩
  clear h hI hT hk hf hx hy hn hm
  go_enter Tryd.func9, Tryd.ntmps9
  go_wp2
  rw [← hW]
  clear hW
  obtain ⟨p0, p1, p2⟩ := hG.cells
  go_region_law
    (first
      | (go_simp
         with_reducible refine Calls.mono (HA.out _ (by first | assumption | exact Gd.drew (by assumption))) ?_
         rintro e w1 ⟨⟨a1, c1, rfl, HV1⟩, hG1, HS1⟩
         obtain ⟨q0, q1, q2⟩ := hG1.cells
         obtain ⟨r0, r1, r2, r3, r4, r5⟩ := hG1.rcells)
      | (go_simp
         with_reducible refine Calls.mono (HB.out _ (by first | assumption | exact Gd.drew (by assumption))) ?_
         rintro e w2 ⟨⟨a2, c2, rfl, HV2⟩, hG2, HS2⟩
         obtain ⟨t0, t1, t2⟩ := hG2.cells
         obtain ⟨s0, s1, s2, s3, s4, s5⟩ := hG2.rcells))
  all_goals
    try clear p0 p1 p2
    try clear q0 q1 q2
    try clear t0 t1 t2
    go_wp2
    refine bodyPost_ret (v := .agg #[.int .i64 k, .slice a1 n c1, .slice a2 m c2]) (by simp [results, Tryd.results9, go_sem, *]) rfl ⟨⟨[_, _, _], rfl, ?_⟩, ?_⟩
    · refine recF.oweaken (rec_omk (n := w.heap.size + 2) (r := (k, ns, ts)) (HV1.out _ ?_) (HV2.out _ ?_) HK.out) (by omega)
      · first
          | exact Same.trans HS2.out.1 HS2.out.2 (.set3 (by omega))
          | exact .set3 (by omega)
      · first
          | exact Same.trans HS1.out.1 HS1.out.2 (.set3 (by omega))
          | exact .set3 (by omega)
    · first
        | exact below_set3 hG2.1 (by omega) _ _ _
        | exact below_set3 hG1.1 (by omega) _ _ _

end Go.Proofs.YtfpllfjdgpcmdaaDoor
