/-
  A block put with room made ahead of it (clean).
-/
import Derived.Test.YtkpckadicjdieabLFree
import Derived.Test.YtkpckadicjdieabLSeal
import Derived.Test.YtkpckadicjdieabLLaw1
import Derived.Test.YtkpckadicjdieabLTool
import Derived.Test.YtkpckadicjdieabXMath
namespace Go.Proofs.Ytkpckadicjdieab
open Go.ChangeShapes Go.WideShapes Go.ChangeAt Go.RowKit
set_option linter.unusedVariables false

set_option maxRecDepth 100000 in
set_option maxHeartbeats 8000000 in
theorem putx_any (n0 n1 : Nat) (us : List Value) (s : St) (ub : List Value) (p : Bk) (w : World) (h : stN.lies n0 w us s) (hp : bkN.lies n1 w ub p) :
    Calls Try.prog 65 #[.agg us.toArray, .agg ub.toArray] w (TellsS (ptE s p) (ptS s p) w) := by
  obtain ⟨a0, n0, c0, b0, m0, d0, e0, k0, f0, q0, rfl, -, hk0, hk1, -⟩ := st_flatNl h
  obtain ⟨pa, pc, rfl, hPA, hpo, hpi⟩ := bk_view hp
  obtain ⟨po, pi, pd⟩ := p
  simp only at hPA hpo hpi ⊢
  obtain ⟨pm, hpm⟩ : ∃ z, z = pd.length := ⟨_, rfl⟩
  simp only [← hpm] at hp hPA ⊢
  obtain ⟨post, hpost⟩ : ∃ post : Ending → World → Prop, post = TellsS (ptE s (po, pi, pd)) (ptS s (po, pi, pd)) w := ⟨_, rfl⟩
  have HPo : Hid (∀ us' k t w', k = ptE s (po, pi, pd) → t = ptS s (po, pi, pd) → stN.owns w.heap.size w' us' t → Below w.heap.size w w' → post (.returned (.tuple #[.agg us'.toArray, .int .i64 k])) w') := fun us' k t w' e1 e2 e3 e4 => by
    rw [hpost, e1]
    rw [e2] at e3
    exact ⟨⟨us', rfl, e3⟩, e4⟩
  rw [← hpost]
  clear hpost
  obtain ⟨W, hW⟩ : ∃ W, W = ((w.alloc (.cells #[.slice a0 n0 c0, .slice b0 m0 d0, .slice e0 k0 f0, .int .i64 q0] 31)).alloc (.cells #[.int .i64 po, .int .i64 pi, .slice pa pm pc] 48)).alloc (.cells #[.slice none 0 0, .slice none 0 0, .slice none 0 0, .int .i64 0] 31) := ⟨_, rfl⟩
  have HB : Hid (Below w.heap.size w W) := by rw [hW]; exact (((Below.refl _ w).alloc (Nat.le_refl _) _).alloc (by simp) _).alloc (by simp; omega) _
  have HX : Hid (Box W w.heap.size 31 #[.slice a0 n0 c0, .slice b0 m0 d0, .slice e0 k0 f0, .int .i64 q0] ∧ Box W (w.heap.size + 1) 48 #[.int .i64 po, .int .i64 pi, .slice pa pm pc] ∧ Box W (w.heap.size + 2) 31 #[.slice none 0 0, .slice none 0 0, .slice none 0 0, .int .i64 0]) := by
    rw [hW]
    refine ⟨((Box.new _ _ _).alloc _).alloc _, ?_, ?_⟩
    · have := Box.new (w.alloc (.cells #[.slice a0 n0 c0, .slice b0 m0 d0, .slice e0 k0 f0, .int .i64 q0] 31)) 48 #[.int .i64 po, .int .i64 pi, .slice pa pm pc]
      rw [World.size_alloc] at this
      exact this.alloc _
    · have := Box.new ((w.alloc (.cells #[.slice a0 n0 c0, .slice b0 m0 d0, .slice e0 k0 f0, .int .i64 q0] 31)).alloc (.cells #[.int .i64 po, .int .i64 pi, .slice pa pm pc] 48)) 31 #[.slice none 0 0, .slice none 0 0, .slice none 0 0, .int .i64 0]
      rwa [World.size_alloc, World.size_alloc] at this
  have HL : Hid (∀ V, Below w.heap.size w V → stN.lies 0 V [.slice a0 n0 c0, .slice b0 m0 d0, .slice e0 k0 f0, .int .i64 q0] s ∧ bkN.lies 0 V [.int .i64 po, .int .i64 pi, .slice pa pm pc] (po, pi, pd)) := fun V hV => ⟨stN.below (stN.weaken h (Nat.zero_le _)) hV, bkN.below (bkN.weaken hp (Nat.zero_le _)) hV⟩
  have HK : Hid (k0 = s.2.2.1.length) := hk0
  have hl0 := run_len Try.underlying29 e0 k0 f0
  clear h hp hPA hpo hpi hpm hk0
  go_enter Try.func65, Try.ntmps65
  go_upto_region 1 with fail
  rw [← hW]
  clear hW
  by_cases h8 : k0 = 8
  · subst h8
    obtain ⟨se, hse⟩ : ∃ z, z = sE s := ⟨_, rfl⟩
    obtain ⟨sp, hsp⟩ : ∃ z, z = sP s := ⟨_, rfl⟩
    have HC := seal_any 0 [.slice a0 n0 c0, .slice b0 m0 d0, .slice e0 8 f0, .int .i64 q0] s W (HL.out W HB.out).1
    rw [← hse, ← hsp] at HC
    have HSE : Hid (se = sE s) := hse
    obtain ⟨x0, x1, x2, x3, -⟩ := HX.out.1.four
    clear hse hsp
    go_wp2_with fail
    clear x0 x1 x2 x3
    refine HC.mono ?_
    rintro e1 w1 ⟨⟨us1, rfl, ho1⟩, hb1⟩
    obtain ⟨a1, n1, c1, b1, m1, d1, e1, k1, f1, q1, rfl⟩ := st_fl ho1
    have hX1 := HX.out.1.below hb1 HX.out.1.lt
    have hX2 := HX.out.2.1.below hb1 HX.out.2.1.lt
    have hX3 := HX.out.2.2.below hb1 HX.out.2.2.lt
    obtain ⟨z0, z1, z2, z3, i0, i1, i2, i3⟩ := hX1.four
    obtain ⟨X, hX⟩ : ∃ X, X = (((w1.setCell ⟨w.heap.size, 0, none⟩ (.slice a1 n1 c1)).setCell ⟨w.heap.size, 1, none⟩ (.slice b1 m1 d1)).setCell ⟨w.heap.size, 2, none⟩ (.slice e1 k1 f1)).setCell ⟨w.heap.size, 3, none⟩ (.int .i64 q1) := ⟨_, rfl⟩
    have HBX : Hid (Below w.heap.size w X) := by rw [hX]; exact below_set4 (below_any HB.out hb1) (Nat.le_refl _) _ _ _ _
    have HXX : Hid (Box X w.heap.size 31 #[.slice a1 n1 c1, .slice b1 m1 d1, .slice e1 k1 f1, .int .i64 q1] ∧ Box X (w.heap.size + 1) 48 #[.int .i64 po, .int .i64 pi, .slice pa pm pc] ∧ Box X (w.heap.size + 2) 31 #[.slice none 0 0, .slice none 0 0, .slice none 0 0, .int .i64 0]) := by
      rw [hX]
      exact ⟨(((hX1.set 0 _).set 1 _).set 2 _).set 3 _, (((hX2.other (by omega)).other (by omega)).other (by omega)).other (by omega), (((hX3.other (by omega)).other (by omega)).other (by omega)).other (by omega)⟩
    have HO : Hid (stN.lies 0 X [.slice a1 n1 c1, .slice b1 m1 d1, .slice e1 k1 f1, .int .i64 q1] (sS s)) := by rw [hX]; exact stN.weaken (stN.olies (own_set4 stN (by decide) ho1 hX1 _ _ _ _)) (Nat.zero_le _)
    go_upto_region 4 with fail
    rw [← hX]
    clear hX HC ho1 hb1 hX1 hX2 hX3 z0 z1 z2 z3 i0 i1 i2 i3
    by_cases hz : se = 0
    · subst hz
      obtain ⟨pe, hpe⟩ : ∃ z, z = pE (sS s) (po, pi, pd) := ⟨_, rfl⟩
      have HC := put_any 0 0 [.slice a1 n1 c1, .slice b1 m1 d1, .slice e1 k1 f1, .int .i64 q1] (sS s) [.int .i64 po, .int .i64 pi, .slice pa pm pc] (po, pi, pd) X HO.out (HL.out X HBX.out).2 (Nat.zero_le _)
      rw [← hpe] at HC
      have HPE : Hid (pe = pE (sS s) (po, pi, pd)) := hpe
      obtain ⟨x0, x1, x2, x3, -⟩ := HXX.out.1.four
      obtain ⟨v0, v1, v2, -⟩ := HXX.out.2.1.three
      clear hpe
      go_wp2_with fail
      clear x0 x1 x2 x3 v0 v1 v2
      refine HC.mono ?_
      rintro e8 w8 ⟨⟨us8, rfl, ho8⟩, hb8⟩
      obtain ⟨a8, n8, c8, b8, m8, d8, e8, k8, f8, q8, rfl⟩ := st_fl ho8
      have hR := HXX.out.2.2.below hb8 HXX.out.2.2.lt
      obtain ⟨y0, y1, y2, y3, j0, j1, j2, j3⟩ := hR.four
      have HE : Hid (post (.returned (.tuple #[.agg #[.slice a8 n8 c8, .slice b8 m8 d8, .slice e8 k8 f8, .int .i64 q8], .int .i64 pe])) ((((w8.setCell ⟨(w.heap.size + 2), 0, none⟩ (.slice a8 n8 c8)).setCell ⟨(w.heap.size + 2), 1, none⟩ (.slice b8 m8 d8)).setCell ⟨(w.heap.size + 2), 2, none⟩ (.slice e8 k8 f8)).setCell ⟨(w.heap.size + 2), 3, none⟩ (.int .i64 q8))) := HPo.out [.slice a8 n8 c8, .slice b8 m8 d8, .slice e8 k8 f8, .int .i64 q8] pe (pS (sS s) (po, pi, pd)) _ (by unfold ptE; rw [if_pos HK.out.symm, if_pos HSE.out.symm]; exact HPE.out) (by unfold ptS; rw [if_pos HK.out.symm, if_pos HSE.out.symm]) (own_set4 stN (by decide) (stN.oweaken ho8 HBX.out.size) hR _ _ _ _) (below_set4 (below_any HBX.out hb8) (by omega) _ _ _ _)
      clear HC ho8 hb8 hR
      go_wp2
      refine bodyPost_ret (v := .tuple #[.agg #[.slice a8 n8 c8, .slice b8 m8 d8, .slice e8 k8 f8, .int .i64 q8], .int .i64 pe]) (by simp [results, Try.results65, go_sem, *]) rfl HE.out
    · have hzb : (se == 0) = false := by simpa using hz
      have hR := HXX.out.2.2
      obtain ⟨y0, y1, y2, y3, j0, j1, j2, j3⟩ := hR.four
      have HE : Hid (post (.returned (.tuple #[.agg #[.slice none 0 0, .slice none 0 0, .slice none 0 0, .int .i64 0], .int .i64 se])) ((((X.setCell ⟨(w.heap.size + 2), 0, none⟩ (.slice none 0 0)).setCell ⟨(w.heap.size + 2), 1, none⟩ (.slice none 0 0)).setCell ⟨(w.heap.size + 2), 2, none⟩ (.slice none 0 0)).setCell ⟨(w.heap.size + 2), 3, none⟩ (.int .i64 0))) := HPo.out [.slice none 0 0, .slice none 0 0, .slice none 0 0, .int .i64 0] se s0 _ (by unfold ptE; rw [if_pos HK.out.symm, if_neg (by rw [← HSE.out]; exact hz)]; exact HSE.out) (by unfold ptS; rw [if_pos HK.out.symm, if_neg (by rw [← HSE.out]; exact hz)]) (s0_owns _ _) (below_set4 HBX.out (by omega) _ _ _ _)
      clear hR
      go_wp2
      refine bodyPost_ret (v := .tuple #[.agg #[.slice none 0 0, .slice none 0 0, .slice none 0 0, .int .i64 0], .int .i64 se]) (by simp [results, Try.results65, go_sem, *]) rfl HE.out
  · have h8i : ((k0 : Int) == 8) = false := by simp; omega
    have h8j : ¬ (k0 : Int) = 8 := by omega
    have HK8 : Hid (¬ s.2.2.1.length = 8) := by rw [← HK.out]; exact h8
    obtain ⟨g0, g1, g2, g3, -⟩ := HX.out.1.four
    obtain ⟨pe, hpe⟩ : ∃ z, z = pE s (po, pi, pd) := ⟨_, rfl⟩
    have HC := put_any 0 0 [.slice a0 n0 c0, .slice b0 m0 d0, .slice e0 k0 f0, .int .i64 q0] s [.int .i64 po, .int .i64 pi, .slice pa pm pc] (po, pi, pd) W (HL.out W HB.out).1 (HL.out W HB.out).2 (Nat.zero_le _)
    rw [← hpe] at HC
    have HPE : Hid (pe = pE s (po, pi, pd)) := hpe
    obtain ⟨x0, x1, x2, x3, -⟩ := HX.out.1.four
    obtain ⟨v0, v1, v2, -⟩ := HX.out.2.1.three
    clear hpe
    go_wp2_with fail
    clear x0 x1 x2 x3 v0 v1 v2
    refine HC.mono ?_
    rintro e8 w8 ⟨⟨us8, rfl, ho8⟩, hb8⟩
    obtain ⟨a8, n8, c8, b8, m8, d8, e8, k8, f8, q8, rfl⟩ := st_fl ho8
    have hR := HX.out.2.2.below hb8 HX.out.2.2.lt
    obtain ⟨y0, y1, y2, y3, j0, j1, j2, j3⟩ := hR.four
    have HE : Hid (post (.returned (.tuple #[.agg #[.slice a8 n8 c8, .slice b8 m8 d8, .slice e8 k8 f8, .int .i64 q8], .int .i64 pe])) ((((w8.setCell ⟨(w.heap.size + 2), 0, none⟩ (.slice a8 n8 c8)).setCell ⟨(w.heap.size + 2), 1, none⟩ (.slice b8 m8 d8)).setCell ⟨(w.heap.size + 2), 2, none⟩ (.slice e8 k8 f8)).setCell ⟨(w.heap.size + 2), 3, none⟩ (.int .i64 q8))) := HPo.out [.slice a8 n8 c8, .slice b8 m8 d8, .slice e8 k8 f8, .int .i64 q8] pe (pS s (po, pi, pd)) _ (by unfold ptE; rw [if_neg HK8.out]; exact HPE.out) (by unfold ptS; rw [if_neg HK8.out]) (own_set4 stN (by decide) (stN.oweaken ho8 HB.out.size) hR _ _ _ _) (below_set4 (below_any HB.out hb8) (by omega) _ _ _ _)
    clear HC ho8 hb8 hR
    go_wp2
    refine bodyPost_ret (v := .tuple #[.agg #[.slice a8 n8 c8, .slice b8 m8 d8, .slice e8 k8 f8, .int .i64 q8], .int .i64 pe]) (by simp [results, Try.results65, go_sem, *]) rfl HE.out

end Go.Proofs.Ytkpckadicjdieab
