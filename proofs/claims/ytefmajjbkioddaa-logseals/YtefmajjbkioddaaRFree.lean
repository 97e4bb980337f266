/-
  What the document's Free answers.
-/
import Derived.Test.YtefmajjbkioddaaRLive
import Derived.Test.YtefmajjbkioddaaRSeal
namespace Go.Proofs.Ytefmajjbkioddaa
open Go.RowKit

set_option maxRecDepth 100000 in
set_option maxHeartbeats 8000000 in
theorem rfreeL_any (n0 : Nat) (us : List Value) (s : St) (k : Int) (w : World) (h : stR.lies n0 w us s) :
    Calls Try.prog 29 #[.agg us.toArray, .int .i64 k] w (TellsR (fE s k) (fS s k) w) := by
  obtain ⟨a, c, b, d, e, f, rfl, hS, hH, hO, hN, m1, m2, m3⟩ := st_viewR h
  obtain ⟨post, hpost⟩ : ∃ post : Ending → World → Prop, post = TellsR (fE s k) (fS s k) w := ⟨_, rfl⟩
  have HNO : Hid (∀ r w', fE s k = r → r ≠ 0 → Below w.heap.size w w' → post (.returned (.tuple #[.agg #[.slice none 0 0, .slice none 0 0, .slice none 0 0, .int .i64 0], .int .i64 r])) w') := fun k w' e1 e2 e3 => by
    rw [hpost]
    refine ⟨⟨_, by rw [e1], ?_⟩, e3⟩
    unfold fS
    rw [if_neg (by rw [e1]; exact e2)]
    exact s0_ownsR _ _
  have HYES : Hid (∀ us' w', fE s k = 0 → stR.owns w.heap.size w' us' (s.1.set k.toNat (0, []), s.2.1, s.2.2.1, s.2.2.2) → Below w.heap.size w w' → post (.returned (.tuple #[.agg us'.toArray, .int .i64 0])) w') := fun us' w' e1 e2 e3 => by
    rw [hpost]
    refine ⟨⟨us', by rw [e1], ?_⟩, e3⟩
    unfold fS
    rw [if_pos e1]
    exact e2
  rw [← hpost]
  clear hpost
  obtain ⟨n, hn⟩ : ∃ n, n = s.1.length := ⟨_, rfl⟩
  obtain ⟨nh, hnh⟩ : ∃ n, n = s.2.1.length := ⟨_, rfl⟩
  obtain ⟨no, hno⟩ : ∃ n, n = s.2.2.1.length := ⟨_, rfl⟩
  obtain ⟨nx, hnx⟩ : ∃ n, n = s.2.2.2 := ⟨_, rfl⟩
  rw [← hn, ← hnh, ← hno, ← hnx] at h ⊢
  obtain ⟨W, hW⟩ : ∃ W, W = (w.alloc (.cells #[.slice a n c, .slice b nh d, .slice e no f, .int .i64 nx] 26)).alloc (.cells #[.slice none 0 0, .slice none 0 0, .slice none 0 0, .int .i64 0] 26) := ⟨_, rfl⟩
  have hbW : Below w.heap.size w W := by rw [hW]; exact ((Below.refl _ w).alloc (Nat.le_refl _) _).alloc (by simp) _
  have hB1 : Box W w.heap.size 26 #[.slice a n c, .slice b nh d, .slice e no f, .int .i64 nx] := by rw [hW]; exact (Box.new _ _ _).alloc _
  have hB2 : Box W (w.heap.size + 1) 26 #[.slice none 0 0, .slice none 0 0, .slice none 0 0, .int .i64 0] := by
    rw [hW]
    have := Box.new (w.alloc (.cells #[.slice a n c, .slice b nh d, .slice e no f, .int .i64 nx] 26)) 26 #[.slice none 0 0, .slice none 0 0, .slice none 0 0, .int .i64 0]
    rwa [World.size_alloc] at this
  have HC := rliveL_any n0 [.slice a n c, .slice b nh d, .slice e no f, .int .i64 nx] s k W (stR.below h hbW)
  have HW : Hid (Below w.heap.size w W ∧ W.heap.size = w.heap.size + 2 ∧ ∀ V, Below W.heap.size W V → Box V w.heap.size 26 #[.slice a n c, .slice b nh d, .slice e no f, .int .i64 nx] ∧ Box V (w.heap.size + 1) 26 #[.slice none 0 0, .slice none 0 0, .slice none 0 0, .int .i64 0]) := ⟨hbW, by rw [hW]; simp, fun V hV => ⟨hB1.below hV hB1.lt, hB2.below hV hB2.lt⟩⟩
  have HA : Hid (stR.lies n0 w [.slice a n c, .slice b nh d, .slice e no f, .int .i64 nx] s) := h
  obtain ⟨g0, g1, g2, g3, -⟩ := hB1.four
  rw [hW] at g0 g1 g2 g3
  clear h hS hH hO hN m1 m2 m3 hbW hB1 hB2 hn hnh hno hnx
  go_enter Try.func29, Try.ntmps29
  go_wp2_with fail
  rw [← hW]
  clear hW g0 g1 g2 g3
  refine HC.mono ?_
  rintro e1 w2 ⟨⟨v2, rfl, ho2⟩, hb2⟩
  obtain ⟨hx1, hx3⟩ := HW.out.2.2 w2 hb2
  have HB2 : Hid (Below W.heap.size W w2) := hb2
  obtain ⟨a2, c2, _, hv2, -⟩ := Shape.list_own (S := bkR) (ht := Try.underlying24) (hc := cells24) ho2
  obtain rfl : v2 = _ := (List.cons.inj hv2).1
  obtain ⟨n2, hn2⟩ : ∃ n2, n2 = (lL s k).length := ⟨_, rfl⟩
  have HN2 : Hid (n2 = (lL s k).length) := hn2
  rw [← hn2]
  have hl2 := run_len Try.underlying24 a2 n2 c2
  clear ho2 hb2 hv2 hn2 HC
  rcases uE_cases s k with ⟨hu, hok, i, p, hki, hil, hip, hsl⟩ | ⟨hu, hv⟩
  case inr =>
    obtain ⟨y0, y1, y2, y3, j0, j1, j2, j3⟩ := hx3.four
    have HE := HNO.out (uE s k) ((((w2.setCell ⟨w.heap.size + 1, 0, none⟩ (.slice none 0 0)).setCell ⟨w.heap.size + 1, 1, none⟩ (.slice none 0 0)).setCell ⟨w.heap.size + 1, 2, none⟩ (.slice none 0 0)).setCell ⟨w.heap.size + 1, 3, none⟩ (.int .i64 0)) (by unfold fE; rw [if_neg hu]) hu (below_set4 (below_any HW.out.1 HB2.out) (by omega) _ _ _ _)
    have HE : Hid _ := HE
    generalize uE s k = r at hu hv HE
    have hri : (r == 0) = false := by simp [hu]
    clear hx1 hx3 hv
    go_wp2
    refine bodyPost_ret (v := .tuple #[.agg #[.slice none 0 0, .slice none 0 0, .slice none 0 0, .int .i64 0], .int .i64 r]) (by simp [results, Try.results29, go_sem, *]) rfl HE.out
  case inl =>
    rw [hu]
    have HU : Hid (uE s k = 0 ∧ Ok s ∧ i < s.1.length ∧ k.toNat = i) := ⟨hu, hok, hil, by omega⟩
    rw [HU.out.2.2.2] at HYES
    subst hki
    clear hu hok hil hip hsl
    by_cases h0 : 0 < n2
    · have h0i : (0 : Int) < (n2 : Int) := by omega
      obtain ⟨y0, y1, y2, y3, j0, j1, j2, j3⟩ := hx3.four
      have HE := HNO.out 91 ((((w2.setCell ⟨w.heap.size + 1, 0, none⟩ (.slice none 0 0)).setCell ⟨w.heap.size + 1, 1, none⟩ (.slice none 0 0)).setCell ⟨w.heap.size + 1, 2, none⟩ (.slice none 0 0)).setCell ⟨w.heap.size + 1, 3, none⟩ (.int .i64 0)) (by unfold fE; rw [if_pos HU.out.1, if_pos (by rw [← HN2.out]; exact h0)]) (by decide) (below_set4 (below_any HW.out.1 HB2.out) (by omega) _ _ _ _)
      have HE : Hid _ := HE
      clear hx1 hx3
      go_wp2
      refine bodyPost_ret (v := .tuple #[.agg #[.slice none 0 0, .slice none 0 0, .slice none 0 0, .int .i64 0], .int .i64 91]) (by simp [results, Try.results29, go_sem, *]) rfl HE.out
    · have h0i : ¬ (0 : Int) < (n2 : Int) := by omega
      have h0d : decide ((0 : Int) < (n2 : Int)) = false := decide_eq_false h0i
      have HFE : Hid (fE s (i : Int) = 0) := show _ = _ by unfold fE; rw [if_pos HU.out.1, if_neg (by rw [← HN2.out]; exact h0)]
      have HCC := rownL_any n0 [.slice a n c, .slice b nh d, .slice e no f, .int .i64 nx] s w2 (stR.below HA.out (below_any HW.out.1 HB2.out)) HU.out.2.1.fits
      obtain ⟨z0, z1, z2, z3, -⟩ := hx1.four
      clear hx1 hx3
      go_wp2_with fail
      refine HCC.mono ?_
      rintro e3 w3 ⟨⟨us3, rfl, ho3⟩, hb3⟩
      replace ho3 := ho3.owns
      obtain ⟨l, hd, op, nx'⟩ := s
      obtain ⟨u1, u2, u3, u4, h5⟩ : ∃ v1 v2 v3, us3 = [v1, v2, v3, .int .i64 nx'] ∧ sgsR.owns (w2.heap.size + 2) w3 [v1] l ∧ boolsS.owns (w2.heap.size + 2) w3 [v2] hd ∧ bksR.owns (w2.heap.size + 2) w3 [v3] op ∧ I64 nx' := by
        obtain ⟨p1, r, rfl, h1, p2, r2, rfl, h2, p3, r3, rfl, h3, rfl, h4⟩ := ho3
        obtain ⟨_, _, _, rfl, _⟩ := Shape.list_own (S := sgR) (ht := Try.underlying22) (hc := cells22) h1
        obtain ⟨_, _, rfl, _⟩ := Leaf.row_len (L := bL) (ht := Try.underlying23) (hc := cells23) (boolsS.olies h2)
        obtain ⟨_, _, _, rfl, _⟩ := Shape.list_own (S := bkR) (ht := Try.underlying24) (hc := cells24) h3
        exact ⟨_, _, _, rfl, h1, h2, h3, bounds_i64 h4⟩
      obtain ⟨hs1, hs2, hs3, hI⟩ := h5
      subst u4
      obtain ⟨a1, c1, _, hv1, -⟩ := Shape.list_own (S := sgR) (ht := Try.underlying22) (hc := cells22) hs1
      obtain ⟨a2', c2', hv2, -⟩ := Leaf.row_len (L := bL) (ht := Try.underlying23) (hc := cells23) (boolsS.olies hs2)
      obtain ⟨a3, c3, _, hv3, -⟩ := Shape.list_own (S := bkR) (ht := Try.underlying24) (hc := cells24) hs3
      obtain rfl : u1 = _ := (List.cons.inj hv1).1
      obtain rfl : u2 = _ := (List.cons.inj hv2).1
      obtain rfl : u3 = _ := (List.cons.inj hv3).1
      have hbw3 : Below W.heap.size W w3 := HB2.out.trans (hb3.mono HB2.out.size)
      obtain ⟨hx1, hx3⟩ := HW.out.2.2 w3 hbw3
      obtain ⟨X, hX⟩ : ∃ X, X = w3.alloc (.cells #[.slice a1 l.length c1, .slice a2' hd.length c2', .slice a3 op.length c3, .int .i64 nx'] 26) := ⟨_, rfl⟩
      have hbX3 : Below w3.heap.size w3 X := by rw [hX]; exact (Below.refl _ _).alloc (Nat.le_refl _) _
      have hxX : Box X w3.heap.size 26 #[.slice a1 l.length c1, .slice a2' hd.length c2', .slice a3 op.length c3, .int .i64 nx'] := by rw [hX]; exact Box.new _ _ _
      have hzX := hx3.below hbX3 hx3.lt
      have hbX : Below w.heap.size w X := below_any HW.out.1 (hbw3.trans (hbX3.mono hbw3.size))
      have hW2 := HW.out.2.1
      have hw2 : w.heap.size + 2 ≤ w2.heap.size := by have := HB2.out.size; omega
      have hw3 := hb3.size
      have hg1 := sgsR.obelow hs1 hbX3
      have hg2 := boolsS.obelow hs2 hbX3
      have hg3 := bksR.obelow hs3 hbX3
      obtain ⟨g, cap', hv, hgB, hgl, hixx, ⟨u0', u1', cc0, cc1⟩, ff0, ff1, hst⟩ := sgs_setR hg1 i HU.out.2.2.1
      have hgg : g < w3.heap.size := by
        obtain ⟨gL, _, hgL0, _, hgL, _⟩ := sgs_setR hs1 i HU.out.2.2.1
        have h9 := hgL0.symm.trans hv
        simp only [Value.slice.injEq, Option.some.injEq, Addr.mk.injEq, and_true, true_and] at h9
        omega
      obtain ⟨rfl, rfl⟩ : a1 = some ⟨g, 0, none⟩ ∧ c1 = cap' := by simpa using hv
      obtain ⟨hY1, hYg, hcl⟩ := hst 0 (.slice none 0 0) [] ⟨by omega, by omega⟩ (Shape.list_nil bkR 24 Try.underlying24 cells24 _ _)
      obtain ⟨Y, hY⟩ : ∃ Y, Y = (X.setCell ⟨g, i * 2, none⟩ (.int .i64 0)).setCell ⟨g, i * 2 + 1, none⟩ (.slice none 0 0) := ⟨_, rfl⟩
      rw [← hY] at hY1 hYg
      have hxY := hxX.grown hYg (by simp; omega)
      have hzY := hzX.grown hYg (by simp; omega)
      have hbY : Below w.heap.size w Y := by rw [hY]; exact (hbX.setCell (p := ⟨g, i * 2, none⟩) (by show w.heap.size ≤ g; omega) _).setCell (p := ⟨g, i * 2 + 1, none⟩) (by show w.heap.size ≤ g; omega) _
      have hY2 := boolsS.ogrown hg2 hYg (hcl.sub (fun x hx => by
        have : x = 4 := List.mem_singleton.1 hx
        rw [this]; simp))
      have hY3 := bksR.ogrown hg3 hYg (hcl.sub (fun x hx => by
        have : x = 29 ∨ x = 5 := by
          rcases List.mem_cons.1 hx with h | h
          · exact .inl h
          · exact .inr (List.mem_singleton.1 h)
        rcases this with rfl | rfl <;> simp))
      have hzown : stR.owns (w.heap.size + 2) Y [.slice (some ⟨g, 0, none⟩) l.length c1, .slice a2' hd.length c2', .slice a3 op.length c3, .int .i64 nx'] (l.set i (0, []), hd, op, nx') := st_omkR (s := (l.set i (0, []), hd, op, nx')) (sgsR.oweaken hY1 (by omega)) (boolsS.oweaken hY2 (by omega)) (bksR.oweaken hY3 (by omega)) hI
      have HEND : Hid (∀ U, Same (w.heap.size + 2) Y U → Below w.heap.size w U → post (.returned (.tuple #[.agg #[.slice (some ⟨g, 0, none⟩) l.length c1, .slice a2' hd.length c2', .slice a3 op.length c3, .int .i64 nx'], .int .i64 0])) U) := fun U h1 h2 => HYES.out [_, _, _, _] U HFE.out (stR.oweaken (stR.osame hzown h1) (by omega)) h2
      have HBZ : Hid (Below w.heap.size w Y) := hbY
      obtain ⟨s0', s1', s2', s3', -⟩ := hxX.four
      obtain ⟨q0, q1, q2, q3, -⟩ := hxY.four
      obtain ⟨y0, y1, y2, y3, f0, f1, f2, f3⟩ := hzY.four
      go_upto_region 7 with fail
      rw [← hX]
      clear hX hxX hzX hbX hW2 hw2 hg1 hg2 hg3 hst hcl hY1 hYg hxY hzY hbY hY2 hY3 hs1 hs2 hs3 hb3 hbw3 hx1 hx3 HCC z0 z1 z2 z3 hzown hgg hbX3 hw3
      go_upto_region 8 with fail
      rw [← hY]
      clear hY cc0 cc1 ff0 ff1 hixx s0' s1' s2' s3'
      go_wp2
      refine bodyPost_ret (v := .tuple #[.agg #[.slice (some ⟨g, 0, none⟩) l.length c1, .slice a2' hd.length c2', .slice a3 op.length c3, .int .i64 nx'], .int .i64 0]) (by simp [results, Try.results29, go_sem, *]) rfl ?_
      exact HEND.out _ (.set4 (by omega)) (below_set4 HBZ.out (by omega) _ _ _ _)

end Go.Proofs.Ytefmajjbkioddaa
