/-
  What the document's Put answers, for every store and block.
-/
import Derived.Test.YtkpckadicjdieaaROwn
import Derived.Test.YtkpckadicjdieaaLPut
namespace Go.Proofs.Ytkpckadicjdieaa
open Go.RowKit

theorem s0_ownsR (n : Nat) (w : World) : stR.owns n w [.slice none 0 0, .slice none 0 0, .slice none 0 0, .int .i64 0] s0 := st_nilR n w
/-- A call that answers a store of the document's and a number. -/
def TellsR (k : Int) (s' : St) (w : World) (e : Ending) (w' : World) : Prop := (∃ us', e = .returned (.tuple #[.agg us'.toArray, .int .i64 k]) ∧ stR.owns w.heap.size w' us' s') ∧ Below w.heap.size w w'

set_option maxRecDepth 100000 in
set_option maxHeartbeats 8000000 in
theorem rput_any (n0 n1 : Nat) (us : List Value) (s : St) (ub : List Value) (p : Bk) (w : World) (h : stR.lies n0 w us s) (hp : bkR.lies n1 w ub p) (h1 : n1 ≤ w.heap.size) :
    Calls Try.prog 12 #[.agg us.toArray, .agg ub.toArray] w (TellsR (pE s p) (pS s p) w) := by
  obtain ⟨a, c, b, d, e, f, rfl, hS, hH, hO, hN, m1, m2, m3⟩ := st_viewR h
  obtain ⟨x, cap, rfl, hA, hpo, hpi⟩ := bk_view hp
  obtain ⟨po, pi, pd⟩ := p
  simp only at hA hpo hpi ⊢
  obtain ⟨post, hpost⟩ : ∃ post : Ending → World → Prop, post = TellsR (pE s (po, pi, pd)) (pS s (po, pi, pd)) w := ⟨_, rfl⟩
  have HNO : Hid (∀ k w', pE s (po, pi, pd) = k → k ≠ 0 → Below w.heap.size w w' → post (.returned (.tuple #[.agg #[.slice none 0 0, .slice none 0 0, .slice none 0 0, .int .i64 0], .int .i64 k])) w') := fun k w' e1 e2 e3 => by
    rw [hpost]
    refine ⟨⟨_, by rw [e1], ?_⟩, e3⟩
    unfold pS
    rw [if_neg (by rw [e1]; exact e2)]
    exact s0_ownsR _ _
  have HYES : Hid (∀ us' w', pE s (po, pi, pd) = 0 → stR.owns w.heap.size w' us' (s.1, s.2.1, s.2.2.1 ++ [(po, pi, pd)], s.2.2.2) → Below w.heap.size w w' → post (.returned (.tuple #[.agg us'.toArray, .int .i64 0])) w') := fun us' w' e1 e2 e3 => by
    rw [hpost]
    refine ⟨⟨us', by rw [e1], ?_⟩, e3⟩
    unfold pS
    rw [if_pos e1]
    exact e2
  rw [← hpost]
  clear hpost
  obtain ⟨m, hm⟩ : ∃ m, m = pd.length := ⟨_, rfl⟩
  rw [← hm] at hA ⊢
  obtain ⟨n, hn⟩ : ∃ n, n = s.1.length := ⟨_, rfl⟩
  obtain ⟨nh, hnh⟩ : ∃ n, n = s.2.1.length := ⟨_, rfl⟩
  obtain ⟨no, hno⟩ : ∃ n, n = s.2.2.1.length := ⟨_, rfl⟩
  obtain ⟨nx, hnx⟩ : ∃ n, n = s.2.2.2 := ⟨_, rfl⟩
  rw [← hn, ← hnh, ← hno, ← hnx] at h ⊢
  obtain ⟨W, hW⟩ : ∃ W, W = ((w.alloc (.cells #[.slice a n c, .slice b nh d, .slice e no f, .int .i64 nx] 26)).alloc (.cells #[.int .i64 po, .int .i64 pi, .slice x m cap] 29)).alloc (.cells #[.slice none 0 0, .slice none 0 0, .slice none 0 0, .int .i64 0] 26) := ⟨_, rfl⟩
  have hbW : Below w.heap.size w W := by rw [hW]; exact (((Below.refl _ w).alloc (Nat.le_refl _) _).alloc (by simp) _).alloc (by simp; omega) _
  have hB1 : Box W w.heap.size 26 #[.slice a n c, .slice b nh d, .slice e no f, .int .i64 nx] := by rw [hW]; exact ((Box.new _ _ _).alloc _).alloc _
  have hB2 : Box W (w.heap.size + 1) 29 #[.int .i64 po, .int .i64 pi, .slice x m cap] := by
    rw [hW]
    have := Box.new (w.alloc (.cells #[.slice a n c, .slice b nh d, .slice e no f, .int .i64 nx] 26)) 29 #[.int .i64 po, .int .i64 pi, .slice x m cap]
    rw [World.size_alloc] at this
    exact this.alloc _
  have hB3 : Box W (w.heap.size + 2) 26 #[.slice none 0 0, .slice none 0 0, .slice none 0 0, .int .i64 0] := by
    rw [hW]
    have := Box.new ((w.alloc (.cells #[.slice a n c, .slice b nh d, .slice e no f, .int .i64 nx] 26)).alloc (.cells #[.int .i64 po, .int .i64 pi, .slice x m cap] 29)) 26 #[.slice none 0 0, .slice none 0 0, .slice none 0 0, .int .i64 0]
    rwa [World.size_alloc, World.size_alloc] at this
  have HC := rcheckL_any n0 [.slice a n c, .slice b nh d, .slice e no f, .int .i64 nx] s W (stR.below h hbW)
  have HW : Hid (Below w.heap.size w W ∧ W.heap.size = w.heap.size + 3 ∧ ∀ V, Below W.heap.size W V → Box V w.heap.size 26 #[.slice a n c, .slice b nh d, .slice e no f, .int .i64 nx] ∧ Box V (w.heap.size + 1) 29 #[.int .i64 po, .int .i64 pi, .slice x m cap] ∧ Box V (w.heap.size + 2) 26 #[.slice none 0 0, .slice none 0 0, .slice none 0 0, .int .i64 0]) := ⟨hbW, by rw [hW]; simp, fun V hV => ⟨hB1.below hV hB1.lt, hB2.below hV hB2.lt, hB3.below hV hB3.lt⟩⟩
  have HA : Hid (stR.lies n0 w [.slice a n c, .slice b nh d, .slice e no f, .int .i64 nx] s ∧ Arg n1 w (.slice x m cap) pd ∧ I64 po ∧ I64 pi ∧ m = pd.length ∧ no = s.2.2.1.length ∧ n1 ≤ w.heap.size) := ⟨h, hA, hpo, hpi, hm, hno, h1⟩
  obtain ⟨g0, g1, g2, g3, -⟩ := hB1.four
  rw [hW] at g0 g1 g2 g3
  clear h hp h1 hS hH hO hN m1 m2 m3 hA hpo hpi hbW hB1 hB2 hB3 hm hn hnh hno hnx
  go_enter Try.func12, Try.ntmps12
  go_wp2_with fail
  rw [← hW]
  clear hW g0 g1 g2 g3
  refine HC.mono ?_
  rintro e1 w1 ⟨rfl, hb1⟩
  obtain ⟨hx1, hx2, hx3⟩ := HW.out.2.2 w1 hb1
  have HB1 : Hid (Below W.heap.size W w1) := hb1
  rcases okE_cases s with ⟨hk, hok⟩ | ⟨hk, hok⟩
  case inr =>
    rw [hk]
    obtain ⟨y0, y1, y2, y3, j0, j1, j2, j3⟩ := hx3.four
    have HE := HNO.out 9 ((((w1.setCell ⟨w.heap.size + 2, 0, none⟩ (.slice none 0 0)).setCell ⟨w.heap.size + 2, 1, none⟩ (.slice none 0 0)).setCell ⟨w.heap.size + 2, 2, none⟩ (.slice none 0 0)).setCell ⟨w.heap.size + 2, 3, none⟩ (.int .i64 0)) (by
      have : okB s = false := by cases hb : okB s with | false => rfl | true => exact absurd (ok_iff.1 hb) hok
      unfold pE; rw [if_pos this]) (by decide) (below_set4 (below_any HW.out.1 hb1) (by omega) _ _ _ _)
    have HE : Hid _ := HE
    clear hb1 hx1 hx2 hx3 hok hk
    go_wp2
    refine bodyPost_ret (v := .tuple #[.agg #[.slice none 0 0, .slice none 0 0, .slice none 0 0, .int .i64 0], .int .i64 9]) (by simp [results, Try.results12, go_sem, *]) rfl HE.out
  case inl =>
    rw [hk]
    obtain ⟨q0, q1, q2, -⟩ := hx2.three
    have HOK : Hid (Ok s ∧ okB s = true) := ⟨hok, ok_iff.2 hok⟩
    have hbw1 := below_any HW.out.1 hb1
    have HM := rmay_any x cap (po, pi, pd) (by obtain ⟨_, _, _, _, h9, _⟩ := HA.out.2.1.shape; exact h9) w1
    simp only at HM
    rw [← HA.out.2.2.2.2.1] at HM
    clear hk hok hx1 hx2 hx3 hb1 hbw1
    cases hmay : mayB (po, pi, pd)
    · rw [hmay] at HM
      go_wp2_with fail
      refine HM.mono ?_
      rintro e2 w2 ⟨rfl, hb2⟩
      have hbw := HB1.out.trans (hb2.mono HB1.out.size)
      obtain ⟨y0, y1, y2, y3, j0, j1, j2, j3⟩ := (HW.out.2.2 w2 hbw).2.2.four
      have HE := HNO.out 1 ((((w2.setCell ⟨w.heap.size + 2, 0, none⟩ (.slice none 0 0)).setCell ⟨w.heap.size + 2, 1, none⟩ (.slice none 0 0)).setCell ⟨w.heap.size + 2, 2, none⟩ (.slice none 0 0)).setCell ⟨w.heap.size + 2, 3, none⟩ (.int .i64 0)) (by unfold pE; rw [if_neg (by rw [HOK.out.2]; simp), if_pos hmay]) (by decide) (below_set4 (below_any HW.out.1 hbw) (by omega) _ _ _ _)
      have HE : Hid _ := HE
      clear hb2 hbw hmay
      go_wp2
      refine bodyPost_ret (v := .tuple #[.agg #[.slice none 0 0, .slice none 0 0, .slice none 0 0, .int .i64 0], .int .i64 1]) (by simp [results, Try.results12, go_sem, *]) rfl HE.out
    · rw [hmay] at HM
      have HMY : Hid (mayB (po, pi, pd) = true) := hmay
      go_wp2_with fail
      clear hmay
      refine HM.mono ?_
      rintro e2 w2 ⟨rfl, hb2⟩
      have hbw := HB1.out.trans (hb2.mono HB1.out.size)
      have HB2 : Hid (Below W.heap.size W w2) := hbw
      obtain ⟨hx1, hx2, hx3⟩ := HW.out.2.2 w2 hbw
      obtain ⟨z0, z1, z2, z3, i0, i1, i2, i3⟩ := hx1.four
      have hl3 := run_len Try.underlying24 e no f
      clear hb2 hbw HM q0 q1 q2
      by_cases h8 : 8 ≤ no
      · have HE := HNO.out 51 ((((w2.setCell ⟨w.heap.size + 2, 0, none⟩ (.slice none 0 0)).setCell ⟨w.heap.size + 2, 1, none⟩ (.slice none 0 0)).setCell ⟨w.heap.size + 2, 2, none⟩ (.slice none 0 0)).setCell ⟨w.heap.size + 2, 3, none⟩ (.int .i64 0)) (by unfold pE; rw [if_neg (by rw [HOK.out.2]; simp), if_neg (by rw [HMY.out]; simp), if_pos (by rw [← HA.out.2.2.2.2.2.1]; omega)]) (by decide) (below_set4 (below_any HW.out.1 HB2.out) (by omega) _ _ _ _)
        have HE : Hid _ := HE
        have h8i : (8 : Int) ≤ (no : Int) := by omega
        obtain ⟨y0, y1, y2, y3, j0, j1, j2, j3⟩ := hx3.four
        clear hx1 hx2 hx3
        go_wp2
        refine bodyPost_ret (v := .tuple #[.agg #[.slice none 0 0, .slice none 0 0, .slice none 0 0, .int .i64 0], .int .i64 51]) (by simp [results, Try.results12, go_sem, *]) rfl HE.out
      · have h8i : ¬ (8 : Int) ≤ (no : Int) := by omega
        have h8d : decide ((8 : Int) ≤ (no : Int)) = false := decide_eq_false h8i
        have HCC := rownL_any n0 [.slice a n c, .slice b nh d, .slice e no f, .int .i64 nx] s w2 (stR.below HA.out.1 (below_any HW.out.1 HB2.out)) HOK.out.1.fits
        have HPE : Hid (pE s (po, pi, pd) = 0) := by
          show pE _ _ = 0
          unfold pE
          rw [if_neg (by rw [HOK.out.2]; simp), if_neg (by rw [HMY.out]; simp), if_neg (by rw [← HA.out.2.2.2.2.2.1]; exact h8)]
        clear hx1 hx2 hx3 h8
        go_wp2_with fail
        refine HCC.mono ?_
        rintro e3 w3 ⟨⟨us3, rfl, ho3⟩, hb3⟩
        obtain ⟨v1, v2, v3, B, rfl, hB0, hB1, hSG, hBO, hOP, hOB, hNX⟩ := ho3
        obtain ⟨a1, c1, _, hv1, -⟩ := Shape.list_own (S := sgR) (ht := Try.underlying22) (hc := cells22) hSG
        obtain ⟨a2, c2, hv2, -⟩ := Leaf.row_len (L := bL) (ht := Try.underlying23) (hc := cells23) (boolsS.olies hBO)
        obtain ⟨a3, c3, _, hv3, -⟩ := Shape.list_own (S := bkR) (ht := Try.underlying24) (hc := cells24) hOP
        obtain rfl : v1 = _ := (List.cons.inj hv1).1
        obtain rfl : v2 = _ := (List.cons.inj hv2).1
        obtain rfl : v3 = _ := (List.cons.inj hv3).1
        have hbw3 : Below W.heap.size W w3 := HB2.out.trans (hb3.mono HB2.out.size)
        obtain ⟨l, hd, op, nx'⟩ := s
        simp only at hSG hBO hOP hOB hNX ⊢
        obtain ⟨X, hX⟩ : ∃ X, X = w3.alloc (.cells #[.slice a1 l.length c1, .slice a2 hd.length c2, .slice a3 op.length c3, .int .i64 nx'] 26) := ⟨_, rfl⟩
        have hbX3 : Below w3.heap.size w3 X := by rw [hX]; exact (Below.refl _ _).alloc (Nat.le_refl _) _
        have hxX : Box X w3.heap.size 26 #[.slice a1 l.length c1, .slice a2 hd.length c2, .slice a3 op.length c3, .int .i64 nx'] := by rw [hX]; exact Box.new _ _ _
        have hbX : Below W.heap.size W X := hbw3.trans (hbX3.mono hbw3.size)
        have hW3 := HW.out.2.1
        have hw2 : w.heap.size + 3 ≤ w2.heap.size := by have := HB2.out.size; omega
        have hw3 := hb3.size
        have HX : Hid (Below W.heap.size W X ∧ w.heap.size + 3 ≤ w2.heap.size ∧ w2.heap.size ≤ w3.heap.size ∧ w3.heap.size < X.heap.size ∧ w2.heap.size + 2 ≤ B ∧ B ≤ w3.heap.size ∧ sgsR.owns B X [.slice a1 l.length c1] l ∧ boolsS.owns B X [.slice a2 hd.length c2] hd ∧ bksR.owns (w2.heap.size + 2) X [.slice a3 op.length c3] op ∧ (∀ g, (Value.slice a3 op.length c3).ownBlock = some g → g < B) ∧ I64 nx') := ⟨hbX, hw2, hw3, hxX.lt, hB0, hB1, sgsR.obelow hSG hbX3, boolsS.obelow hBO hbX3, bksR.obelow hOP hbX3, hOB, hNX⟩
        have HXB : Hid (∀ U, Below X.heap.size X U → Box U w3.heap.size 26 #[.slice a1 l.length c1, .slice a2 hd.length c2, .slice a3 op.length c3, .int .i64 nx'] ∧ Box U (w.heap.size + 1) 29 #[.int .i64 po, .int .i64 pi, .slice x m cap] ∧ Box U (w.heap.size + 2) 26 #[.slice none 0 0, .slice none 0 0, .slice none 0 0, .int .i64 0]) := fun U hU => ⟨hxX.below hU hxX.lt, (HW.out.2.2 U (hbX.trans (hU.mono hbX.size))).2⟩
        have HS : Hid (∀ U, Box U w3.heap.size 26 #[.slice a1 l.length c1, .slice a2 hd.length c2, .slice a3 op.length c3, .int .i64 nx'] → Box U (w.heap.size + 1) 29 #[.int .i64 po, .int .i64 pi, .slice x m cap] → U.cell? ⟨w3.heap.size, 2, none⟩ = some (.slice a3 op.length c3) ∧ U.cell? ⟨w.heap.size + 1, 0, none⟩ = some (.int .i64 po) ∧ U.cell? ⟨w.heap.size + 1, 1, none⟩ = some (.int .i64 pi) ∧ U.cell? ⟨w.heap.size + 1, 2, none⟩ = some (.slice x m cap)) := fun U h1 h2 => ⟨h1.four.2.2.1, h2.three.1, h2.three.2.1, h2.three.2.2.1⟩
        have HFEW : Hid (op.length ≤ 8) := HOK.out.1.few
        have HCP : Hid (Calls Try.prog 46 #[.slice x m cap] X.drew fun e w' => (∃ v', e = .returned v' ∧ Own1 X.heap.size w' v' pd) ∧ Below X.heap.size X w') := (rcopied_any n1 (.slice x m cap) pd X.drew ((HA.out.2.1.below (below_any HW.out.1 hbX)).below (Below.refl _ _).drew) (by have := may_len HMY.out; simp only at this; omega)).mono fun e w' h => ⟨h.1, ((Below.refl _ X).drew).trans h.2⟩
        go_upto_region 8 with fail
        rw [← hX]
        clear hX hxX hbX hbX3 hW3 hw2 hw3 hSG hBO hOP hOB hNX hv1 hv2 hv3 hb3 hbw3 hB0 hB1 z0 z1 z2 z3 i0 i1 i2 i3 HCC h8i h8d
        refine AnyBut.begin (fun U => U.cell? ⟨w3.heap.size, 2, none⟩ = some (.slice a3 op.length c3) ∧ U.cell? ⟨w.heap.size + 1, 0, none⟩ = some (.int .i64 po) ∧ U.cell? ⟨w.heap.size + 1, 1, none⟩ = some (.int .i64 pi) ∧ U.cell? ⟨w.heap.size + 1, 2, none⟩ = some (.slice x m cap)) 13 (by kernel_rfl) ?_
        have hbD : Below X.heap.size X X.drew := (Below.refl _ X).drew
        have hSS := HS.out X.drew (HXB.out X.drew hbD).1 (HXB.out X.drew hbD).2.1
        refine tt 0 25 ?_ hSS ?_ ?_; rotate_left
        · intro W9 hSW; (try dsimp only at hSW); go_simp; try with_reducible rfl
        simp only [ua, ub, uc, ud]
        refine tt 1 26 ?_ hSS ?_ ?_; rotate_left
        · intro W9 hSW; (try dsimp only at hSW); go_simp; try with_reducible rfl
        simp only [ua, ub, uc, ud]
        refine tt 2 27 ?_ hSS ?_ ?_; rotate_left
        · intro W9 hSW; (try dsimp only at hSW); go_simp; try with_reducible rfl
        simp only [ua, ub, uc, ud]
        refine tt 3 28 ?_ hSS ?_ ?_; rotate_left
        · intro W9 hSW; (try dsimp only at hSW); go_simp; try with_reducible rfl
        simp only [ua, ub, uc, ud]
        refine tt 4 29 ?_ hSS ?_ ?_; rotate_left
        · intro W9 hSW; (try dsimp only at hSW); go_simp; try with_reducible rfl
        simp only [ua, ub, uc, ud]
        refine tt 5 30 ?_ hSS ?_ ?_; rotate_left
        · intro W9 hSW; (try dsimp only at hSW); go_simp; try with_reducible rfl
        simp only [ua, ub, uc, ud]
        refine tt 6 31 ?_ hSS ?_ ?_; rotate_left
        · intro W9 hSW; (try dsimp only at hSW); go_simp; try with_reducible rfl
        simp only [ua, ub, uc, ud]
        refine tt 7 32 ?_ hSS ?_ ?_; rotate_left
        · intro W9 hSW; (try dsimp only at hSW); go_simp; try with_reducible rfl
        simp only [ua, ub, uc, ud]
        refine AnyBut.step (i := 8) (by kernel_rfl) rfl (fun K hK => ?_)
        go_simp
        refine Calls.mono HCP.out ?_
        rintro e4 w4 ⟨⟨v4, rfl, ho4⟩, hb4⟩
        dsimp only
        refine hK.out _ _ (HS.out w4 (HXB.out w4 hb4).1 (HXB.out w4 hb4).2.1) ?_
        clear hK hSS
        have hSS := HS.out w4 (HXB.out w4 hb4).1 (HXB.out w4 hb4).2.1
        obtain ⟨a4, c4, hv4⟩ := ho4.shape
        subst hv4
        refine tt 9 34 ?_ hSS ?_ ?_; rotate_left
        · intro W9 hSW; (try dsimp only at hSW); go_simp; try with_reducible rfl
        simp only [ua, ub, uc, ud]
        clear hSS
        refine AnyBut.step (i := 10) (by kernel_rfl) rfl (fun K hK => ?_)
        go_simp
        have hb6 : Below X.heap.size X (w4.alloc (.cells #[.int .i64 po, .int .i64 pi, .slice a4 pd.length c4] 29)) := hb4.alloc hb4.size _
        refine hK.out _ _ (HS.out _ (HXB.out _ hb6).1 (HXB.out _ hb6).2.1) ?_
        clear hK
        obtain ⟨i3, hi3, hz30, hz31, hz32⟩ := info_parts Try.info29
        have hXs := HX.out.2.2.2.1
        have hw23 := HX.out.2.2.1
        have hB3 := HX.out.2.2.2.2.1
        have hB4 := HX.out.2.2.2.2.2.1
        have hw2 := HX.out.2.1
        have hb4s := hb4.size
        obtain ⟨g5, c5, w5, hrun, ho5, hg5, hs5⟩ := list_append bkR 24 Try.underlying24 cells24 hi3 hz30 hz31 hz32 rfl (by decide) (by decide) (bksR.obelow HX.out.2.2.2.2.2.2.2.2.1 hb4) (bk_omk (p := (po, pi, pd)) (bytesS.oweaken ho4 (by omega)) HA.out.2.2.1 HA.out.2.2.2.1) (by omega) (by have := HFEW.out; omega) (by have := HFEW.out; unfold maxLen; omega)
        obtain ⟨_, hrow⟩ : ∃ xs, w4.ownsRow (w2.heap.size + 2) 29 3 (.slice a3 op.length c3) op.length xs := by
          obtain ⟨v9, vss, hv9, hown, _⟩ := bksR.obelow HX.out.2.2.2.2.2.2.2.2.1 hb4
          obtain rfl : Value.slice a3 op.length c3 = v9 := by simpa using hv9
          exact ⟨_, hown⟩
        have hne : ∀ j, B ≤ j → some j ≠ (Value.slice a3 op.length c3).ownBlock := fun j hj he => by
          have := HX.out.2.2.2.2.2.2.2.2.2.1 j he.symm
          omega
        have hx5 := (HXB.out w4 hb4).1.grown hg5 (hne _ (by omega))
        have hy5 := (HXB.out w4 hb4).2.1.grown hg5 (row_ne hrow (by omega))
        have hz5 := (HXB.out w4 hb4).2.2.grown hg5 (row_ne hrow (by omega))
        have hbw5 : Below W.heap.size W w5 := below_row (HX.out.1.trans (hb4.mono HX.out.1.size)) (own_weaken hrow (by have := HW.out.2.1; omega)) hg5 (by have := HX.out.1.size; omega)
        have hs5w : Same B w4 w5 := fun j h1 h2 => hg5.block j h2 (hne j h1)
        have hsg5 := sgsR.osame (sgsR.obelow HX.out.2.2.2.2.2.2.1 hb4) hs5w
        have hbo5 := boolsS.osame (boolsS.obelow HX.out.2.2.2.2.2.2.2.1 hb4) hs5w
        refine AnyBut.step (i := 11) (by kernel_rfl) rfl (fun K hK => ?_)
        refine step_app rfl _ _ 24 rfl rfl rfl rfl hrun ?_
        refine hK.out _ _ (HS.out w5 hx5 hy5) ?_
        clear hK
        have hSS := HS.out w5 hx5 hy5
        refine tt 12 37 ?_ hSS ?_ ?_; rotate_left
        · intro W9 hSW; (try dsimp only at hSW); go_simp; try with_reducible rfl
        obtain ⟨z0, z1, z2, z3, j0, j1, j2, j3⟩ := hx5.four
        obtain ⟨Y, hY⟩ : ∃ Y, Y = w5.setCell ⟨w3.heap.size, 2, none⟩ (.slice (some ⟨g5, 0, none⟩) (op.length + 1) c5) := ⟨_, rfl⟩
        have hxY : Box Y w3.heap.size 26 #[.slice a1 l.length c1, .slice a2 hd.length c2, .slice (some ⟨g5, 0, none⟩) (op.length + 1) c5, .int .i64 nx'] := by rw [hY]; exact hx5.set 2 _
        have hzY : Box Y (w.heap.size + 2) 26 #[.slice none 0 0, .slice none 0 0, .slice none 0 0, .int .i64 0] := by rw [hY]; exact hz5.other (by omega)
        have HY : Hid (stR.owns (w.heap.size + 3) Y [.slice a1 l.length c1, .slice a2 hd.length c2, .slice (some ⟨g5, 0, none⟩) (op.length + 1) c5, .int .i64 nx'] (l, hd, op ++ [(po, pi, pd)], nx') ∧ Below w.heap.size w Y) := ⟨st_omkR (s := (l, hd, op ++ [(po, pi, pd)], nx')) (by rw [hY]; exact sgsR.ogrown (sgsR.oweaken hsg5 (by omega)) (grown_set _ _ _ _) (hx5.clear (by decide))) (by rw [hY]; exact boolsS.ogrown (boolsS.oweaken hbo5 (by omega)) (grown_set _ _ _ _) (hx5.clear (by decide))) (by rw [hY]; exact bksR.ogrown (bksR.oweaken ho5 (by omega)) (grown_set _ _ _ _) (hx5.clear (by decide))) HX.out.2.2.2.2.2.2.2.2.2.2, by rw [hY]; exact (below_any HW.out.1 hbw5).setCell (p := ⟨w3.heap.size, 2, none⟩) (by show w.heap.size ≤ w3.heap.size; omega) _⟩
        refine AnyBut.last (by kernel_rfl) (by kernel_rfl) rfl (fun K hK => ?_)
        go_simp
        rw [← hY]
        refine hK.out _ _ ?_
        clear hK hSS
        obtain ⟨q0, q1, q2, q3, -⟩ := hxY.four
        obtain ⟨y0, y1, y2, y3, f0, f1, f2, f3⟩ := hzY.four
        have HPE2 : Hid (∀ U, Same (w.heap.size + 3) Y U → Below w.heap.size w U → post (.returned (.tuple #[.agg #[.slice a1 l.length c1, .slice a2 hd.length c2, .slice (some ⟨g5, 0, none⟩) (op.length + 1) c5, .int .i64 nx'], .int .i64 0])) U) := fun U h1 h2 => HYES.out [_, _, _, _] U HPE.out (stR.oweaken (stR.osame HY.out.1 h1) (by omega)) h2
        have HYB : Hid (Below w.heap.size w Y) := HY.out.2
        clear hY hxY hzY HY hx5 hy5 hz5 hne hrow hrun ho5 hg5 hs5 ho4 hb4 z0 z1 z2 z3 j0 j1 j2 j3 hi3 hz30 hz31 hz32 hB3 hB4 HX HXB HS hbw5 hs5w hsg5 hbo5 hXs hw23 hw2 hb4s hb6
        go_wp2
        refine bodyPost_ret (v := .tuple #[.agg #[.slice a1 l.length c1, .slice a2 hd.length c2, .slice (some ⟨g5, 0, none⟩) (op.length + 1) c5, .int .i64 nx'], .int .i64 0]) (by simp [results, Try.results12, go_sem, *]) rfl ?_
        exact HPE2.out _ (.set4 (by omega)) (below_set4 HYB.out (by omega) _ _ _ _)

end Go.Proofs.Ytkpckadicjdieaa
