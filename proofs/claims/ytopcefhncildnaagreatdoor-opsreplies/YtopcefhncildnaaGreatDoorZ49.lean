/-
  The document's answer: octets read as a reply.
  OpsReplies: the walk of the law.
-/
import Derived.Test.YtopcefhncildnaaGreatDoorZ36
import Derived.Test.YtopcefhncildnaaGreatDoorZ48
set_option maxRecDepth 100000
set_option maxHeartbeats 32000000
namespace Go.Proofs.YtopcefhncildnaaGreatDoor.K
open Go.RowKit
open P (ArgT OwnT tv)
set_option linter.unusedVariables false
theorem rrpdec_any (n0 : Nat) (v : Value) (b : List Int) (w : World) (h : Arg n0 w v b) (hs : b.length ≤ 140737488351232) :
   Calls Tryz.prog 35 #[v] w fun e w' => (∃ u, e = .returned (.tuple #[u, .int .i64 (rdE b)]) ∧ RpV w.heap.size w' u (rdV b)) ∧ Below w.heap.size w w' := by
 obtain ⟨W1, hW1⟩ := exa (w.alloc (.cells #[.int .i64 0, .int .i64 0, .slice none 0 0, .slice none 0 0] 59))
 have hb1 : Below w.heap.size w W1 := by rw [hW1]; exact (Below.refl _ w).alloc (Nat.le_refl _) _
 have hB1 : Box W1 w.heap.size 59 #[.int .i64 0, .int .i64 0, .slice none 0 0, .slice none 0 0] := by rw [hW1]; exact Box.new _ _ _
 have hoc : W.Oc b := W.Arg.oct (w_arg h)
 have HC := W.rdec_any n0 v b W1 (w_arg (h.below hb1)) hs
 have HB : Hid (Below w.heap.size w W1 ∧ Box W1 w.heap.size 59 #[.int .i64 0, .int .i64 0, .slice none 0 0, .slice none 0 0]) := ⟨hb1, hB1⟩
 obtain ⟨post, hpost⟩ : ∃ post : Ending → World → Prop, post = fun e w' => (∃ u, e = .returned (.tuple #[u, .int .i64 (rdE b)]) ∧ RpV w.heap.size w' u (rdV b)) ∧ Below w.heap.size w w' := ⟨_, rfl⟩
 have HPo : Hid (∀ (k : Int) u w', k = rdE b → RpV w.heap.size w' u (rdV b) → Below w.heap.size w w' → post (.returned (.tuple #[u, .int .i64 k])) w') := fun k u w' h1 h2 h3 => by rw [hpost, h1]; exact ⟨⟨u, rfl, h2⟩, h3⟩
 rw [← hpost]
 clear hpost hb1 hB1 h
 go_enter Tryz.func35, Tryz.ntmps35
 go_wp2_with fail
 rw [← hW1]
 clear hW1
 refine HC.mono ?_
 rintro e w2 ⟨⟨us, rfl, ho⟩, hb2⟩
 obtain ⟨ax, cx, ay, cy, rfl⟩ := W.rec_oview ho
 obtain ⟨r, hr⟩ := exa (W.decV b)
 obtain ⟨de, hde⟩ := exa (W.decE b)
 have HDE : Hid (rdE b = (if de ≠ 0 then de else if r.1 ≠ 0 then 22 else if r.2.1.length ≠ 2 ∨ r.2.2.length = 0 then 3 else rpE (rcP r).1 (rcP r).2.1 (rcP r).2.2.1.length (rcP r).2.2.2) ∧ rdV b = (if rdE b = 0 then rcP r else zP)) := by (
 refine ⟨?_, ?_⟩
 · unfold rdE; rw [hr, hde]
 · unfold rdV; rw [hr])
 have HK : Hid (de = 0 → r.2.2.length ≤ 64) := fun h0 => by
   rw [hr]
   exact (W.chk_ok (W.enc_dec hoc (by rw [← hde]; exact h0)).1).2.2.2.1
 rw [← hr] at ho ⊢
 rw [← hde]
 clear HC hr hde
 clear hoc
 obtain ⟨rk, ns, ts⟩ := r
 simp only at ho ⊢
 obtain ⟨nl, hnl⟩ := exa (ns.length)
 obtain ⟨tl, htl⟩ := exa (ts.length)
 rw [← hnl, ← htl] at ho ⊢
 obtain ⟨xx, yy, heq, hoi, hot, hok⟩ := W.rec_own ho
 simp only [List.cons.injEq, and_true, true_and] at heq
 obtain ⟨rfl, rfl⟩ := heq
 simp only at hoi hot hok
 obtain ⟨V, hV⟩ := exa (w2.alloc (.cells #[.int .i64 rk, .slice ax nl cx, .slice ay tl cy] 129))
 have hbV : Below w2.heap.size w2 V := by rw [hV]; exact (Below.refl _ w2).alloc (Nat.le_refl _) _
 have hBV : Box V w2.heap.size 129 #[.int .i64 rk, .slice ax nl cx, .slice ay tl cy] := by rw [hV]; exact Box.new _ _ _
 have HV : Hid (Below W1.heap.size W1 V ∧ Below w.heap.size w V ∧ Box V w2.heap.size 129 #[.int .i64 rk, .slice ax nl cx, .slice ay tl cy] ∧ (W.intsS.owns W1.heap.size V [.slice ax nl cx] ns ∧ W.textsS.owns W1.heap.size V [.slice ay tl cy] ts ∧ W.I64 rk) ∧ nl = ns.length ∧ tl = ts.length) := ⟨below_any hb2 hbV, HB.out.1.trans ((below_any hb2 hbV).mono HB.out.1.size), hBV, ⟨W.intsS.obelow hoi hbV, W.textsS.obelow hot hbV, hok⟩, hnl, htl⟩
 clear ho hb2 hbV hBV hnl htl hoi hot hok
 have hl1 := run_len Tryz.underlying125 ax nl cx
 have hl2 := run_len Tryz.underlying89 ay tl cy
 go_upto_region 2 with fail
 rw [← hV]
 clear hV
 by_cases hd0 : de = 0
 rotate_left
 · have hk : de = rdE b := by rw [HDE.out.1, if_pos hd0]
   have HP : Hid (∀ u0 u1 u2 u3 U, U = .tuple #[.agg #[.int .i64 0, .int .i64 0, .slice none 0 0, .slice none 0 0], .int .i64 de] → post (.returned U) ((((V.setCell ⟨w.heap.size, 0, none⟩ u0).setCell ⟨w.heap.size, 1, none⟩ u1).setCell ⟨w.heap.size, 2, none⟩ u2).setCell ⟨w.heap.size, 3, none⟩ u3)) := fun u0 u1 u2 u3 Z hZ => by (
 rw [hZ]
 refine HPo.out _ _ _ hk ?_ (below_set4 HV.out.2.1 (Nat.le_refl _) _ _ _ _)
 rw [HDE.out.2, if_neg (by rw [← hk]; exact hd0)]
 exact rpv_zero _ _)
   clear hk
   obtain ⟨⟨d0, d1, d2, d3⟩, e0, e1, e2, e3⟩ := box4 (HB.out.2.below HV.out.1 HB.out.2.lt)
   go_wp2
   refine bodyPost_ret (v := .tuple #[.agg #[.int .i64 0, .int .i64 0, .slice none 0 0, .slice none 0 0], .int .i64 de]) (by simp [results, Tryz.results35, go_sem, *]) rfl (HP.out _ _ _ _ _ rfl)
 subst hd0
 obtain ⟨g0, g1, g2, -⟩ := HV.out.2.2.1.three
 by_cases hr0 : rk = 0
 rotate_left
 · have hk : (22 : Int) = rdE b := by rw [HDE.out.1, if_neg (by simp), if_pos hr0]
   have HP : Hid (∀ u0 u1 u2 u3 U, U = .tuple #[.agg #[.int .i64 0, .int .i64 0, .slice none 0 0, .slice none 0 0], .int .i64 22] → post (.returned U) ((((V.setCell ⟨w.heap.size, 0, none⟩ u0).setCell ⟨w.heap.size, 1, none⟩ u1).setCell ⟨w.heap.size, 2, none⟩ u2).setCell ⟨w.heap.size, 3, none⟩ u3)) := fun u0 u1 u2 u3 Z hZ => by (
 rw [hZ]
 refine HPo.out _ _ _ hk ?_ (below_set4 HV.out.2.1 (Nat.le_refl _) _ _ _ _)
 rw [HDE.out.2, if_neg (by rw [← hk]; decide)]
 exact rpv_zero _ _)
   clear hk
   obtain ⟨⟨d0, d1, d2, d3⟩, e0, e1, e2, e3⟩ := box4 (HB.out.2.below HV.out.1 HB.out.2.lt)
   go_wp2
   refine bodyPost_ret (v := .tuple #[.agg #[.int .i64 0, .int .i64 0, .slice none 0 0, .slice none 0 0], .int .i64 22]) (by simp [results, Tryz.results35, go_sem, *]) rfl (HP.out _ _ _ _ _ rfl)
 subst hr0
 by_cases hln : nl = 2 ∧ 0 < tl
 rotate_left
 · have hk : (3 : Int) = rdE b := by
     rw [HDE.out.1, if_neg (by simp), if_neg (by simp), if_pos]
     have h1 := HV.out.2.2.2.2.1
     have h2 := HV.out.2.2.2.2.2
     simp only
     omega
   have HP : Hid (∀ u0 u1 u2 u3 U, U = .tuple #[.agg #[.int .i64 0, .int .i64 0, .slice none 0 0, .slice none 0 0], .int .i64 3] → post (.returned U) ((((V.setCell ⟨w.heap.size, 0, none⟩ u0).setCell ⟨w.heap.size, 1, none⟩ u1).setCell ⟨w.heap.size, 2, none⟩ u2).setCell ⟨w.heap.size, 3, none⟩ u3)) := fun u0 u1 u2 u3 Z hZ => by (
 rw [hZ]
 refine HPo.out _ _ _ hk ?_ (below_set4 HV.out.2.1 (Nat.le_refl _) _ _ _ _)
 rw [HDE.out.2, if_neg (by rw [← hk]; decide)]
 exact rpv_zero _ _)
   clear hk
   obtain ⟨⟨d0, d1, d2, d3⟩, e0, e1, e2, e3⟩ := box4 (HB.out.2.below HV.out.1 HB.out.2.lt)
   by_cases h2 : (nl : Int) = 2
   · obtain rfl : tl = 0 := by omega
     clear hln
     go_wp2
     refine bodyPost_ret (v := .tuple #[.agg #[.int .i64 0, .int .i64 0, .slice none 0 0, .slice none 0 0], .int .i64 3]) (by simp [results, Tryz.results35, go_sem, *]) rfl (HP.out _ _ _ _ _ rfl)
   · clear hln
     go_wp2
     refine bodyPost_ret (v := .tuple #[.agg #[.int .i64 0, .int .i64 0, .slice none 0 0, .slice none 0 0], .int .i64 3]) (by simp [results, Tryz.results35, go_sem, *]) rfl (HP.out _ _ _ _ _ rfl)
 obtain ⟨rfl, htl0⟩ := hln
 obtain ⟨x0, x1, rfl⟩ := two_of HV.out.2.2.2.2.1.symm
 obtain ⟨t0, t2, rfl⟩ : ∃ t0 t2, ts = t0 :: t2 := by (
 cases ts with
 | nil => have := HV.out.2.2.2.2.2; simp at this; omega
 | cons a c => exact ⟨a, c, rfl⟩)
 obtain ⟨hi, ht, hk⟩ := HV.out.2.2.2.1
 obtain ⟨b0, o0, ix0, c0, i0⟩ := W.ints_at (W.intsS.olies hi) 0 x0 rfl
 obtain ⟨b1, o1, ix1, c1, i1⟩ := W.ints_at (W.intsS.olies hi) 1 x1 rfl
 obtain ⟨b2, o2, v0, iy0, k0, ar0⟩ := W.texts_at (W.textsS.olies ht) 0 t0 rfl
 obtain ⟨y0, z0, rfl, -⟩ := ar0.shape
 obtain ⟨a5, c5, hbe, hsl⟩ := texts_behind (W.textsS.olies ht) 1 (by simp)
 obtain ⟨m, hm⟩ := exa (t2.length)
 rw [show (t0 :: t2).length - 1 = m by rw [hm]; simp] at hbe hsl
 rw [show (t0 :: t2).drop 1 = t2 from rfl] at hbe
 have htm : tl = m + 1 := by have := HV.out.2.2.2.2.2; simp at this; omega
 have ix0 : ∀ W, (Instr.indexAt 125 (.slice ax 2 cx) (.int .i64 0)).run Tryz.prog W = .ok (.pointer (some ⟨b0, o0, none⟩)) W := ix0
 have ix1 : ∀ W, (Instr.indexAt 125 (.slice ax 2 cx) (.int .i64 1)).run Tryz.prog W = .ok (.pointer (some ⟨b1, o1, none⟩)) W := ix1
 have iy0 : ∀ W, (Instr.indexAt 89 (.slice ay tl cy) (.int .i64 0)).run Tryz.prog W = .ok (.pointer (some ⟨b2, o2, none⟩)) W := iy0
 have hsl : ∀ W, (Instr.slice 89 (.slice ay tl cy) (some (.int .i64 1)) none none).run Tryz.prog W = .ok (.slice a5 m c5) W := hsl
 obtain ⟨l0, hl0⟩ := exa (t0.length)
 rw [← hl0] at k0 ar0
 have HT : Hid (W.textsS.lies W1.heap.size V [.slice ay tl cy] (t0 :: t2) ∧ tl = m + 1) := ⟨W.textsS.olies ht, htm⟩
 have HA : Hid (Arg W1.heap.size V (.slice y0 l0 z0) t0 ∧ W.textsS.lies W1.heap.size V [.slice a5 m c5] t2 ∧ l0 = t0.length ∧ m = t2.length ∧ I64 x0 ∧ I64 x1) := ⟨arg_w ar0, hbe, hl0, hm, i0, i1⟩
 have HS : Hid (∀ U, Below V.heap.size V U → (U.cell? ⟨w2.heap.size, 1, none⟩ = some (.slice ax 2 cx) ∧ U.cell? ⟨w2.heap.size, 2, none⟩ = some (.slice ay tl cy) ∧ U.cell? ⟨b0, o0, none⟩ = some (.int .i64 x0) ∧ U.cell? ⟨b1, o1, none⟩ = some (.int .i64 x1) ∧ U.cell? ⟨b2, o2, none⟩ = some (.slice y0 l0 z0))) := fun U hU => by (
 have hcl : ∀ {z : Addr} {u : Value}, V.cell? z = some u → U.cell? z = some u := fun {z u} hz => by rw [hU.cell (cell_lt hz)]; exact hz
 have h1 := HV.out.2.2.1.below hU HV.out.2.2.1.lt
 exact ⟨h1.cell 1 rfl, h1.cell 2 rfl, hcl c0, hcl c1, hcl k0⟩)
 have htp : ¬ ((tl : Int) < 1) := by omega
 clear hl0 hm hi ht hk i0 i1 ar0 c0 c1 k0 hbe htm htl0
 go_upto_region 8 with fail
 clear g0 g1 g2
 obtain ⟨X0, hX0⟩ := exa (V.drew)
 have hbX : Below V.heap.size V X0 := by rw [hX0]; exact (Below.refl _ V).drew
 refine AnyBut.begin (fun U => U.cell? ⟨w2.heap.size, 1, none⟩ = some (.slice ax 2 cx) ∧ U.cell? ⟨w2.heap.size, 2, none⟩ = some (.slice ay tl cy) ∧ U.cell? ⟨b0, o0, none⟩ = some (.int .i64 x0) ∧ U.cell? ⟨b1, o1, none⟩ = some (.int .i64 x1) ∧ U.cell? ⟨b2, o2, none⟩ = some (.slice y0 l0 z0)) 1000 (by kernel_rfl) ?_
 rw [← hX0]
 clear hX0
 have hSS := HS.out X0 hbX
 refine tx 0 36 hSS ?_; simp only [ua,ub,uc,ud]
 refine tx 1 37 hSS ?_; simp only [ua,ub,uc,ud]
 refine tx 2 38 hSS ?_; simp only [ua,ub,uc,ud]
 refine tx 3 39 hSS ?_; simp only [ua,ub,uc,ud]
 refine tx 4 40 hSS ?_; simp only [ua,ub,uc,ud]
 refine tx 5 41 hSS ?_; simp only [ua,ub,uc,ud]
 refine tx 6 42 hSS ?_; simp only [ua,ub,uc,ud]
 refine tx 7 43 hSS ?_; simp only [ua,ub,uc,ud]
 refine tx 8 44 hSS ?_; simp only [ua,ub,uc,ud]
 refine tx 9 45 hSS ?_; simp only [ua,ub,uc,ud]
 refine tx 10 46 hSS ?_; simp only [ua,ub,uc,ud]
 refine tx 11 47 hSS ?_; simp only [ua,ub,uc,ud]
 refine tx 12 48 hSS ?_; simp only [ua,ub,uc,ud]
 refine AnyBut.step (i := 13) (by kernel_rfl) rfl (fun K hK => ?_)
 go_simp
 obtain ⟨X1, hX1⟩ := exa (X0.alloc (.cells #[.int .i64 0, .int .i64 0, .slice none 0 0, .slice none 0 0] 59))
 have hb9 : Below X0.heap.size X0 X1 := by rw [hX1]; exact (Below.refl _ _).alloc (Nat.le_refl _) _
 have hB9 : Box X1 X0.heap.size 59 #[.int .i64 0, .int .i64 0, .slice none 0 0, .slice none 0 0] := by rw [hX1]; exact Box.new _ _ _
 rw [← hX1]
 clear hX1
 have hbX1 := below_any hbX hb9
 refine hK.out _ _ (HS.out X1 hbX1) ?_
 clear hK hSS
 obtain ⟨⟨d0, d1, d2, d3⟩, e0, e1, e2, e3⟩ := box4 hB9
 refine AnyBut.step (i := 14) (by kernel_rfl) rfl (fun K hK => ?_)
 go_simp
 have hbX2 := below_set4 hbX1 hbX.size (.int .i64 x0) (.int .i64 x1) (.slice y0 l0 z0) (.slice none 0 0)
 have hB10 := box_set4 hB9 (.int .i64 x0) (.int .i64 x1) (.slice y0 l0 z0) (.slice none 0 0)
 obtain ⟨X2, hX2⟩ := exa (((((X1.setCell ⟨X0.heap.size, 0, none⟩ (.int .i64 x0)).setCell ⟨X0.heap.size, 1, none⟩ (.int .i64 x1)).setCell ⟨X0.heap.size, 2, none⟩ (.slice y0 l0 z0)).setCell ⟨X0.heap.size, 3, none⟩ (.slice none 0 0)))
 rw [← hX2] at hbX2 hB10 ⊢
 refine hK.out _ _ (HS.out X2 hbX2) ?_
 clear hK hX2 d0 d1 d2 d3 e0 e1 e2 e3
 refine AnyBut.done (by kernel_rfl) ?_
 obtain ⟨R, hR⟩ := exa (X0.heap.size)
 rw [← hR] at hB10 ⊢
 have HX : Hid (Below V.heap.size V X2 ∧ Box X2 R 59 #[.int .i64 x0, .int .i64 x1, .slice y0 l0 z0, .slice none 0 0] ∧ w.heap.size < R ∧ R < X2.heap.size ∧ V.heap.size ≤ R) := ⟨hbX2, hB10, by rw [hR]; exact Nat.lt_of_lt_of_le (Nat.lt_of_lt_of_le HB.out.2.lt HV.out.1.size) hbX.size, hB10.lt, by rw [hR]; exact hbX.size⟩
 clear hb9 hB9 hbX1 hbX2 hB10 ix0 ix1 iy0 hl1 hbX hR htp HS hsl
 go_wp2_with fail
 go_loopw [7] (fun i wr => ∃ (j : Nat), j ≤ m ∧ i = .int .i64 ((j : Int) + 1) ∧ Hid (∃ a c, Box wr R 59 #[.int .i64 x0, .int .i64 x1, .slice y0 l0 z0, .slice a j c] ∧ OwnT X2.heap.size wr (.slice a j c) ((t2.take j).map strOfNums) ∧ Below V.heap.size V wr ∧ X2.heap.size ≤ wr.heap.size)) (fun i _ => m + 1 - (intOf i).toNat)
 case atStart => exact ⟨0, Nat.zero_le _, by go_num, none, 0, HX.out.2.1, OwnT.nil _ _, HX.out.1, Nat.le_refl _⟩
 case round => (
 obtain ⟨j, hj, rfl, HJ⟩ := hrel
 have r2 : wr.cell? ⟨w2.heap.size, 2, none⟩ = some (.slice ay tl cy) := by
   obtain ⟨_, _, _, _, h, _⟩ := HJ.out
   exact (HV.out.2.2.1.below h HV.out.2.2.1.lt).cell 2 rfl
 by_cases hjt : j < m
 · obtain ⟨p, hp⟩ := get_lt (l := t2) (k := j) (by rw [← HA.out.2.2.2.1]; exact hjt)
   obtain ⟨an, cn, hBr, hOr, hbr, hsz⟩ := HJ.out
   obtain ⟨bx, ox, vx, hix, d0, har⟩ := W.texts_at HT.out.1 (j + 1) p hp
   obtain ⟨yp, zp, rfl, -, hpm, -⟩ := har.shape
   have hix : ∀ W, (Instr.indexAt 89 (.slice ay tl cy) (.int .i64 ((j : Int) + 1))).run Tryz.prog W = .ok (.pointer (some ⟨bx, ox, none⟩)) W := hix
   have hji : (j : Int) + 1 < (tl : Int) := by have := HT.out.2; omega
   obtain ⟨s, hs0⟩ := exa (strOfNums p)
   obtain ⟨lp, hlp⟩ := exa (p.length)
   rw [← hlp] at d0
   have hln : ((t2.take j).map strOfNums).length = j := by rw [List.length_map, List.length_take, ← HA.out.2.2.2.1]; omega
   have HP : Hid (t2[j]? = some p ∧ s = strOfNums p ∧ s.size ≤ maxLen ∧ ((t2.take j).map strOfNums).length = j) := ⟨hp, hs0, by rw [hs0, str_size]; exact hpm, hln⟩
   have HR : Hid (Box wr R 59 #[.int .i64 x0, .int .i64 x1, .slice y0 l0 z0, .slice an j cn] ∧ wr.ownsRow X2.heap.size 9 1 (.slice an j cn) j (tv ((t2.take j).map strOfNums)) ∧ P.TOk ((t2.take j).map strOfNums) ∧ Below V.heap.size V wr ∧ X2.heap.size ≤ wr.heap.size) := ⟨hBr, by have := hOr.1; rwa [hln] at this, hOr.2, hbr, hsz⟩
   have HM : m ≤ 64 := by have h1 := HK.out trivial; have h2 := HA.out.2.2.2.1; simp at h1; omega
   have HS : Hid (∀ U, Below V.heap.size V U → Box U R 59 #[.int .i64 x0, .int .i64 x1, .slice y0 l0 z0, .slice an j cn] → (U.cell? ⟨R, 3, none⟩ = some (.slice an j cn) ∧ U.cell? ⟨w2.heap.size, 2, none⟩ = some (.slice ay tl cy) ∧ U.cell? ⟨bx, ox, none⟩ = some (.slice yp lp zp) ∧ (convert 25 9 (.slice yp lp zp)).run Tryz.prog U = .ok (.string s) U)) := fun U hU hB => by (
 refine ⟨hB.cell 3 rfl, (HV.out.2.2.1.below hU HV.out.2.2.1.lt).cell 2 rfl, ?_, ?_⟩
 · rw [hU.cell (cell_lt d0)]; exact d0
 · rw [hs0, hlp]; exact F.conv_any ((arg_w har).below hU))
   obtain ⟨X3, hX3⟩ := exa (wr.drew)
   have hbX3 : Below wr.heap.size wr X3 := by rw [hX3]; exact (Below.refl _ wr).drew
   have hBX3 := HR.out.1.below hbX3 HR.out.1.lt
   have hwX3 := below_any HR.out.2.2.2.1 hbX3
   have hzX3 : X2.heap.size ≤ X3.heap.size := Nat.le_trans HR.out.2.2.2.2 hbX3.size
   have hOX3 := own_below HR.out.2.1 hbX3
   clear hp hBr hOr hbr hsz har hpm hlp hln d0 HJ
   go_upto_region 12 with fail
   refine AnyBut.begin (fun U => U.cell? ⟨R, 3, none⟩ = some (.slice an j cn) ∧ U.cell? ⟨w2.heap.size, 2, none⟩ = some (.slice ay tl cy) ∧ U.cell? ⟨bx, ox, none⟩ = some (.slice yp lp zp) ∧ (convert 25 9 (.slice yp lp zp)).run Tryz.prog U = .ok (.string s) U) 11 (by kernel_rfl) ?_
   rw [← hX3]
   clear hX3 r2 hs0
   have hSS := HS.out X3 hwX3 hBX3
   refine tz 0 56 hSS ?_
   simp only [ua,ub,uc,ud]
   refine tz 1 57 hSS ?_
   simp only [ua,ub,uc,ud]
   refine tz 2 58 hSS ?_
   simp only [ua,ub,uc,ud]
   refine tz 3 59 hSS ?_
   simp only [ua,ub,uc,ud]
   refine tz 4 60 hSS ?_
   simp only [ua,ub,uc,ud]
   refine tz 5 61 hSS ?_
   simp only [ua,ub,uc,ud]
   refine tz 6 62 hSS ?_
   simp only [ua,ub,uc,ud]
   refine tz 7 63 hSS ?_
   simp only [ua,ub,uc,ud]
   clear hSS
   refine AnyBut.step (i := 8) (by kernel_rfl) rfl (fun K hK => ?_)
   go_simp
   refine hK.out _ _ (HS.out _ (hwX3.alloc hwX3.size _) (hBX3.alloc _)) ?_
   clear hK
   refine AnyBut.step (i := 9) (by kernel_rfl) rfl (fun K hK => ?_)
   obtain ⟨i3, hi3, hz30, hz31, hz32⟩ := info_parts Tryz.info9
   refine step_append_lies _ (by rfl) _ _ _ (by rfl) X2.heap.size 9 i3 _ 1 16 Tryz.underlying57 hi3 hz30 hz31 hz32 rfl (by omega) _ j _ (by rfl) (hOX3.alloc _) ⟨X3.heap.size, 0, none⟩ 1 1 [.string s] (by rfl) (by rfl)
     (World.news_of_block (cs := #[.string s]) (t := 9) (fr := (0, 0)) (heap_alloc_new X3 _)) (by simp [Value.oneCell']) (by omega) (by unfold maxLen; omega) (by omega) (by simp; omega) (X3.heap.size + 1) (by simp) ?_
   intro g cap w3 hO3 hg3 hat hlt3
   have hB3 := box_row hBX3 hOX3 hg3 HX.out.2.2.2.1 hzX3
   have hw3 : Below V.heap.size V w3 := below_row hwX3 hOX3 hg3 HX.out.1.size (Nat.le_trans HX.out.1.size hzX3)
   have hvx : X2.heap.size ≤ w3.heap.size := Nat.le_trans hzX3 (Nat.le_trans (by simp) hg3.size)
   have hSS := HS.out w3 hw3 hB3
   refine hK.out _ _ hSS ?_
   clear hK
   refine tz 10 66 hSS ?_
   simp only [Act.put, List.setIfInBounds_toArray]
   clear hSS
   have f3 := hB3.cell 3 rfl
   have g3 := hB3.frozen 3
   have HQ : Hid (Box (w3.setCell ⟨R, 3, none⟩ (.slice (some ⟨g, 0, none⟩) (j + 1) cap)) R 59 #[.int .i64 x0, .int .i64 x1, .slice y0 l0 z0, .slice (some ⟨g, 0, none⟩) (j + 1) cap] ∧ OwnT X2.heap.size (w3.setCell ⟨R, 3, none⟩ (.slice (some ⟨g, 0, none⟩) (j + 1) cap)) (.slice (some ⟨g, 0, none⟩) (j + 1) cap) ((t2.take (j + 1)).map strOfNums) ∧ Below V.heap.size V (w3.setCell ⟨R, 3, none⟩ (.slice (some ⟨g, 0, none⟩) (j + 1) cap)) ∧ X2.heap.size ≤ (w3.setCell ⟨R, 3, none⟩ (.slice (some ⟨g, 0, none⟩) (j + 1) cap)).heap.size) := by (
 refine ⟨hB3.set 3 _, ownT_set ⟨?_, ?_⟩ HX.out.2.2.2.1, hw3.setCell (p := ⟨R, 3, none⟩) HX.out.2.2.2.2 _, by simpa using hvx⟩
 · rw [take_snoc HP.out.1, List.map_append, List.length_append, HP.out.2.2.2]
   have : tv ((t2.take j).map strOfNums ++ [p].map strOfNums) = tv ((t2.take j).map strOfNums) ++ [.string s] := by rw [HP.out.2.1]; simp [tv]
   rw [this]
   exact hO3
 · intro y hy
   rw [take_snoc HP.out.1, List.map_append] at hy
   rcases List.mem_append.1 hy with h | h
   · exact HR.out.2.2.1 y h
   · rw [show y = strOfNums p by simpa using h, ← HP.out.2.1]; exact HP.out.2.2.1)
   clear hO3 hg3 hat hlt3 hB3 hw3 hvx hwX3 hBX3 hbX3 hzX3 hOX3
   refine AnyBut.last (by kernel_rfl) (by kernel_rfl) rfl (fun K hK => ?_)
   go_simp
   refine hK.out _ _ ?_
   clear hK f3 g3 HS
   go_wp2
   go_roundw
   case rel => exact ⟨j + 1, by omega, by go_num, _, _, HQ.out⟩
   case measure => simp [intOf]; omega
 · obtain rfl : j = m := by omega
   have hji : ¬ ((j : Int) + 1 < (tl : Int)) := by have := HT.out.2; omega
   have hfull : t2.take j = t2 := List.take_of_length_le (by rw [HA.out.2.2.2.1]; exact Nat.le_refl _)
   obtain ⟨an, cn, hBr, hOr, hbr, hsz⟩ := HJ.out
   rw [hfull] at hOr
   have HR : Hid (Box wr R 59 #[.int .i64 x0, .int .i64 x1, .slice y0 l0 z0, .slice an j cn] ∧ ArgT X2.heap.size wr (.slice an j cn) (t2.map strOfNums) ∧ Below V.heap.size V wr ∧ X2.heap.size ≤ wr.heap.size) := ⟨hBr, hOr.arg, hbr, hsz⟩
   clear hfull HJ hBr hOr hbr hsz hjt
   have HC := rreply_any x0 x1 y0 l0 z0 _ _ _ wr HR.out.2.1
   obtain ⟨oe, hoe⟩ := exa (rpE x0 x1 l0 (t2.map strOfNums))
   have HOE : Hid (rdE b = oe) := by (
 show _ = _
 rw [HDE.out.1, if_neg (by simp), if_neg (by simp), if_neg (by simp), hoe, HA.out.2.2.1]
 rfl)
   rw [← hoe] at HC
   clear hoe
   obtain ⟨⟨d0, d1, d2, d3⟩, -⟩ := box4 HR.out.1
   go_wp2_with fail
   clear d0 d1 d2 d3
   refine HC.mono ?_
   rintro e w8 ⟨rfl, hb8⟩
   have H8 : Hid (Below V.heap.size V w8 ∧ Box w8 R 59 #[.int .i64 x0, .int .i64 x1, .slice y0 l0 z0, .slice an j cn] ∧ Below w.heap.size w w8 ∧ Box w8 w.heap.size 59 #[.int .i64 0, .int .i64 0, .slice none 0 0, .slice none 0 0] ∧ ArgT X2.heap.size w8 (.slice an j cn) (t2.map strOfNums)) := ⟨below_any HR.out.2.2.1 hb8, HR.out.1.below hb8 HR.out.1.lt, HV.out.2.1.trans ((below_any HR.out.2.2.1 hb8).mono HV.out.2.1.size), (HB.out.2.below HV.out.1 HB.out.2.lt).below (below_any HR.out.2.2.1 hb8) (Nat.lt_of_lt_of_le HB.out.2.lt HV.out.1.size), HR.out.2.1.below hb8⟩
   clear HC hb8
   obtain ⟨⟨d0, d1, d2, d3⟩, e0, e1, e2, e3⟩ := box4 H8.out.2.2.2.1
   by_cases hz : oe = 0
   · subst hz
     have HP : Hid (∀ u0 u1 u2 u3 U, U = .tuple #[.agg #[.int .i64 x0, .int .i64 x1, .slice y0 l0 z0, .slice an j cn], .int .i64 0] → post (.returned U) ((((w8.setCell ⟨w.heap.size, 0, none⟩ u0).setCell ⟨w.heap.size, 1, none⟩ u1).setCell ⟨w.heap.size, 2, none⟩ u2).setCell ⟨w.heap.size, 3, none⟩ u3)) := fun u0 u1 u2 u3 Z hZ => by (
 rw [hZ]
 refine HPo.out _ _ _ HOE.out.symm ?_ (below_set4 H8.out.2.2.1 (Nat.le_refl _) _ _ _ _)
 rw [HDE.out.2, if_pos HOE.out]
 have ha : Arg w.heap.size ((((w8.setCell ⟨w.heap.size, 0, none⟩ u0).setCell ⟨w.heap.size, 1, none⟩ u1).setCell ⟨w.heap.size, 2, none⟩ u2).setCell ⟨w.heap.size, 3, none⟩ u3) (.slice y0 l0 z0) t0 := Arg.weaken (Arg.keep (HA.out.1.below H8.out.1) (same_set4 HB.out.2.lt)) HB.out.1.size
 have hn : ArgT w.heap.size ((((w8.setCell ⟨w.heap.size, 0, none⟩ u0).setCell ⟨w.heap.size, 1, none⟩ u1).setCell ⟨w.heap.size, 2, none⟩ u2).setCell ⟨w.heap.size, 3, none⟩ u3) (.slice an j cn) (t2.map strOfNums) := ArgT.weaken (ArgT.keep H8.out.2.2.2.2 (same_set4 (Nat.lt_trans HX.out.2.2.1 HX.out.2.2.2.1))) (Nat.le_of_lt (Nat.lt_trans HX.out.2.2.1 HX.out.2.2.2.1))
 rw [HA.out.2.2.1] at ha ⊢
 exact ⟨y0, z0, _, rfl, ha, hn⟩)
     obtain ⟨⟨q0, q1, q2, q3⟩, -⟩ := box4 H8.out.2.1
     go_wp2
     refine bodyPost_ret (v := .tuple #[.agg #[.int .i64 x0, .int .i64 x1, .slice y0 l0 z0, .slice an j cn], .int .i64 0]) (by simp [results, Tryz.results35, go_sem, *]) rfl (HP.out _ _ _ _ _ rfl)
   · have hz' : ¬ oe = 0 := hz
     have HP : Hid (∀ u0 u1 u2 u3 U, U = .tuple #[.agg #[.int .i64 0, .int .i64 0, .slice none 0 0, .slice none 0 0], .int .i64 oe] → post (.returned U) ((((w8.setCell ⟨w.heap.size, 0, none⟩ u0).setCell ⟨w.heap.size, 1, none⟩ u1).setCell ⟨w.heap.size, 2, none⟩ u2).setCell ⟨w.heap.size, 3, none⟩ u3)) := fun u0 u1 u2 u3 Z hZ => by (
 rw [hZ]
 refine HPo.out _ _ _ HOE.out.symm ?_ (below_set4 H8.out.2.2.1 (Nat.le_refl _) _ _ _ _)
 rw [HDE.out.2, if_neg (by rw [HOE.out]; exact hz)]
 exact rpv_zero _ _)
     go_wp2
     refine bodyPost_ret (v := .tuple #[.agg #[.int .i64 0, .int .i64 0, .slice none 0 0, .slice none 0 0], .int .i64 oe]) (by simp [results, Tryz.results35, go_sem, *]) rfl (HP.out _ _ _ _ _ rfl))
end Go.Proofs.YtopcefhncildnaaGreatDoor.K
namespace Go.Proofs.YtopcefhncildnaaGreatDoor.opsReplies
open Go.RowKit K
open P (serr sval ArgT OwnT tv)
set_option linter.unusedVariables false
theorem same_t {n1 n2 : Nat} {v1 v2 : Value} {l : List Int} {w : World} (h1 : Arg n1 w v1 l) (h2 : Arg n2 w v2 l) : Calls Tryz.prog 27 #[v1, v2] w fun e w' => e = .returned (.bool true) ∧ Below w.heap.size w w' := by
 refine (F.same_any n1 n2 v1 v2 l l w h1 h2).mono fun e w' h => ?_
 obtain ⟨h3, q, rfl⟩ := h
 exact ⟨by rw [h3]; simp, below_drewN (Below.refl _ _) q⟩
theorem fits_by {l : List Int} (h : bytesS.fits l) : l.length ≤ 140737488351232 := by
 have b5 : Tryz.prog.bytesOf 5 = 1 := by kernel_rfl
 have h5 : l.length * Tryz.prog.bytesOf 5 ≤ 140737488351232 := h
 rwa [b5, Nat.mul_one] at h5
theorem fits_rp {q : Rpd} (h : rpS.fits q) : q.2.2.1.length ≤ 140737488351232 ∧ q.2.2.2.length * 16 ≤ 140737488351232 := by
 obtain ⟨_, _, h3, h4⟩ := h
 refine ⟨fits_by h3, ?_⟩
 have b9 : Tryz.prog.bytesOf 9 = 16 := by kernel_rfl
 have h5 : q.2.2.2.length * Tryz.prog.bytesOf 9 ≤ 140737488351232 := h4
 rwa [b9] at h5
theorem walk (ur : List Value) (qr : Rpd) (xa : Option Addr) (xn xc : Nat) (b : List Int) (w : World) (hR : rpS.lies 0 w ur qr) (hqf : qr.2.2.1.length ≤ 140737488351232 ∧ qr.2.2.2.length * 16 ≤ 140737488351232) (hX : bytesS.lies 0 w [.slice xa xn xc] b) (hbf : b.length ≤ 140737488351232) (hg : Glob w) :
   Calls Tryz.prog 6 #[.agg ur.toArray, .slice xa xn xc] w fun e w' => e = .returned (.bool true) ∧ Below w.heap.size w w' := by
 obtain ⟨ea, ec, nv, rfl, hE, hN, hei, hni⟩ := rp_view hR
 obtain ⟨e, n, d2, l⟩ := qr
 simp only at hE hN hei hni hqf ⊢
 obtain ⟨na, nc, rfl, -⟩ := hN.shape
 have hXA : Arg 0 w (.slice xa xn xc) b := hX
 obtain ⟨el, hel⟩ := exa (d2.length)
 obtain ⟨nl, hnl⟩ := exa (l.length)
 have H0 : Hid (I64 e ∧ I64 n ∧ el = d2.length ∧ b.length ≤ 140737488351232 ∧ d2.length ≤ 140737488355328 ∧ l.length * 16 ≤ 140737488355328 ∧ nl = l.length) := ⟨hei, hni, hel, hbf, by have := hqf.1; omega, by have := hqf.2; omega, hnl⟩
 rw [← hel] at hE ⊢
 rw [← hnl] at hN ⊢
 obtain ⟨V0, hV0⟩ := exa (w.alloc (.cells #[.int .i64 e, .int .i64 n, .slice ea el ec, .slice na nl nc] 59))
 have hb0 : Below w.heap.size w V0 := by rw [hV0]; exact (Below.refl _ w).alloc (Nat.le_refl _) _
 have hB0 : Box V0 w.heap.size 59 #[.int .i64 e, .int .i64 n, .slice ea el ec, .slice na nl nc] := by rw [hV0]; exact Box.new _ _ _
 have HV : Hid (∀ V, Below V0.heap.size V0 V → Glob V ∧ Arg 0 V (.slice ea el ec) d2 ∧ ArgT 0 V (.slice na nl nc) l ∧ Arg 0 V (.slice xa xn xc) b ∧ Box V w.heap.size 59 #[.int .i64 e, .int .i64 n, .slice ea el ec, .slice na nl nc] ∧ Below w.heap.size w V) := fun V hV => by
   have hw : Below w.heap.size w V := hb0.trans (hV.mono hb0.size)
   exact ⟨hg.below hw hg.lt, hE.below hw, hN.below hw, hXA.below hw, hB0.below hV hB0.lt, hw⟩
 have HS : Hid (∀ U, Below V0.heap.size V0 U → (U.cell? ⟨w.heap.size, 0, none⟩ = some (.int .i64 e) ∧ U.cell? ⟨w.heap.size, 1, none⟩ = some (.int .i64 n) ∧ U.cell? ⟨w.heap.size, 2, none⟩ = some (.slice ea el ec) ∧ U.cell? ⟨w.heap.size, 3, none⟩ = some (.slice na nl nc))) := fun U hU => by
   obtain ⟨h, -⟩ := box4 (HV.out U hU).2.2.2.2.1
   exact h
 clear hR hqf hE hN hei hni hX hXA hbf hg hel hnl hb0 hB0
 go_enter Tryz.func6, Tryz.ntmps6
 go_upto_region 1 with fail
 rw [← hV0]
 clear hV0
 obtain ⟨X0, hX0⟩ := exa (V0.drew)
 have hbX : Below V0.heap.size V0 X0 := by rw [hX0]; exact (Below.refl _ V0).drew
 refine AnyBut.begin (fun U => U.cell? ⟨w.heap.size, 0, none⟩ = some (.int .i64 e) ∧ U.cell? ⟨w.heap.size, 1, none⟩ = some (.int .i64 n) ∧ U.cell? ⟨w.heap.size, 2, none⟩ = some (.slice ea el ec) ∧ U.cell? ⟨w.heap.size, 3, none⟩ = some (.slice na nl nc)) 1000 (by kernel_rfl) ?_
 rw [← hX0]
 clear hX0
 have hSS := HS.out X0 hbX
 refine tx 0 15 hSS ?_; simp only [ua,ub,uc,ud]
 refine tx 1 16 hSS ?_; simp only [ua,ub,uc,ud]
 clear hSS
 refine AnyBut.two (i := 2) (j := 3) (by kernel_rfl) rfl rfl (fun K hK => ?_) (fun K hK => ?_)
 · go_simp
   refine (F.copy_any 0 (.slice xa xn xc) b X0 (HV.out X0 hbX).2.2.2.1 (by have := H0.out.2.2.2.1; omega)).mono ?_
   rintro x q0 ⟨⟨v6, rfl, ho6⟩, hq6⟩
   have HQ : Hid (Below V0.heap.size V0 q0 ∧ Arg 0 q0 v6 b) := ⟨below_any hbX hq6, (ho6.arg).weaken (Nat.zero_le _)⟩
   dsimp only
   refine hK.out _ _ (HS.out q0 HQ.out.1) ?_
   clear hK ho6 hq6 hbX
   refine AnyBut.step (i := 3) (by kernel_rfl) rfl (fun K hK => ?_)
   go_simp
   obtain ⟨q1, hq⟩ := exa (q0.alloc (.cells #[.int .i64 0, .int .i64 0, .slice none 0 0, .slice none 0 0] 59))
   have hbq : Below q0.heap.size q0 q1 := by rw [hq]; exact (Below.refl _ _).alloc (Nat.le_refl _) _
   have hBq : Box q1 q0.heap.size 59 #[.int .i64 0, .int .i64 0, .slice none 0 0, .slice none 0 0] := by rw [hq]; exact Box.new _ _ _
   obtain ⟨T5, hT5⟩ := exa (q0.heap.size)
   rw [← hq]
   rw [← hT5] at hBq ⊢
   have HT5 : Hid (T5 = q0.heap.size) := hT5
   have hlt5 : V0.heap.size ≤ T5 := by rw [hT5]; exact (HQ.out.1).size
   clear hq hT5
   refine hK.out _ _ (HS.out q1 (below_any HQ.out.1 hbq)) ?_
   clear hK
   obtain ⟨⟨f0, f1, f2, f3⟩, j0, j1, j2, j3⟩ := box4 hBq
   refine AnyBut.step (i := 4) (by kernel_rfl) rfl (fun K hK => ?_)
   go_simp
   have hbs := below_set4 (below_any HQ.out.1 hbq) hlt5 (.int .i64 e) (.int .i64 n) (.slice ea el ec) (.slice na nl nc)
   have hBs := box_set4 hBq (.int .i64 e) (.int .i64 n) (.slice ea el ec) (.slice na nl nc)
   have hvs : Below T5 q0 ((((q1.setCell ⟨T5, 0, none⟩ (.int .i64 e)).setCell ⟨T5, 1, none⟩ (.int .i64 n)).setCell ⟨T5, 2, none⟩ (.slice ea el ec)).setCell ⟨T5, 3, none⟩ (.slice na nl nc)) := below_set4 (by rw [HT5.out]; exact hbq) (Nat.le_refl _) _ _ _ _
   obtain ⟨Q, hQ⟩ := exa (((((q1.setCell ⟨T5, 0, none⟩ (.int .i64 e)).setCell ⟨T5, 1, none⟩ (.int .i64 n)).setCell ⟨T5, 2, none⟩ (.slice ea el ec)).setCell ⟨T5, 3, none⟩ (.slice na nl nc)))
   rw [← hQ] at hbs hBs hvs ⊢
   have hSS := HS.out Q hbs
   refine hK.out _ _ hSS ?_
   clear hK f0 f1 f2 f3 j0 j1 j2 j3 hQ
   refine tx 5 6 hSS ?_
   simp only [Act.put, List.setIfInBounds_toArray]
   clear hSS
   refine AnyBut.done (by kernel_rfl) ?_
   obtain ⟨Q0, hQ0⟩ := exa (Q.drew)
   have hbQ : Below Q.heap.size Q Q0 := by rw [hQ0]; exact (Below.refl _ Q).drew
   have HQ0 : Hid (Below V0.heap.size V0 Q0 ∧ Box Q0 T5 59 #[.int .i64 e, .int .i64 n, .slice ea el ec, .slice na nl nc] ∧ True ∧ V0.heap.size ≤ T5 ∧ T5 < Q0.heap.size) := ⟨below_any hbs hbQ, hBs.below hbQ hBs.lt, trivial, hlt5, (hBs.below hbQ hBs.lt).lt⟩
   have HQV : Hid (∀ U, Below Q0.heap.size Q0 U → ∀ u u', Arg 0 ((U.setCell ⟨T5, 2, none⟩ u).setCell ⟨T5, 3, none⟩ u') v6 b) := fun U hU u u' => HQ.out.2.below (by
     have h1 : Below T5 q0 Q0 := hvs.trans (hbQ.mono (Nat.le_of_lt hBs.lt))
     have h2 : Below T5 q0 U := h1.trans (hU.mono (Nat.le_of_lt HQ0.out.2.2.2.2))
     have h3 := (h2.setCell (p := ⟨T5, 2, none⟩) (Nat.le_refl _) u).setCell (p := ⟨T5, 3, none⟩) (Nat.le_refl _) u'
     rw [← HT5.out]; exact h3)
   clear hbs hBs hvs hbQ hlt5 HT5 HQ hbq hBq
   go_upto_region 2 with fail
   refine AnyBut.begin (fun U => U.cell? ⟨w.heap.size, 0, none⟩ = some (.int .i64 e) ∧ U.cell? ⟨w.heap.size, 1, none⟩ = some (.int .i64 n) ∧ U.cell? ⟨w.heap.size, 2, none⟩ = some (.slice ea el ec) ∧ U.cell? ⟨w.heap.size, 3, none⟩ = some (.slice na nl nc)) 1000 (by kernel_rfl) ?_
   rw [← hQ0]
   clear hQ0
   have hSS := HS.out Q0 HQ0.out.1
   refine tx 0 18 hSS ?_; simp only [ua,ub,uc,ud]
   refine tx 1 19 hSS ?_; simp only [ua,ub,uc,ud]
   refine tx 3 21 hSS ?_; simp only [ua,ub,uc,ud]
   refine tx 4 22 hSS ?_; simp only [ua,ub,uc,ud]
   clear hSS
   refine AnyBut.step (i := 2) (by kernel_rfl) rfl (fun K hK => ?_)
   go_simp
   refine (F.copy_any 0 (.slice ea el ec) d2 Q0 (HV.out Q0 HQ0.out.1).2.1 H0.out.2.2.2.2.1).mono ?_
   rintro x q1 ⟨⟨v8, rfl, ho8⟩, hq8⟩
   obtain ⟨a8, c8, rfl⟩ := ho8.shape
   rw [← H0.out.2.2.1] at ho8 ⊢
   have HQ1 : Hid (Below V0.heap.size V0 q1 ∧ Below Q0.heap.size Q0 q1 ∧ Arg Q0.heap.size q1 (.slice a8 el c8) d2) := ⟨below_any HQ0.out.1 hq8, hq8, ho8.arg⟩
   dsimp only
   have hSS := HS.out q1 HQ1.out.1
   refine hK.out _ _ hSS ?_
   clear hK ho8 hq8
   refine tx 6 24 hSS ?_
   simp only [Act.put, List.setIfInBounds_toArray]
   clear hSS
   refine AnyBut.step (i := 5) (by kernel_rfl) rfl (fun K hK => ?_)
   go_simp
   refine (copyt_any 0 (.slice na nl nc) l q1 (HV.out q1 HQ1.out.1).2.2.1 H0.out.2.2.2.2.2.1).mono ?_
   rintro x q2 ⟨⟨v9, rfl, ho9⟩, hq9⟩
   obtain ⟨na9, c9, rfl⟩ := ho9.shape
   rw [← H0.out.2.2.2.2.2.2] at ho9 ⊢
   have HQ2 : Hid (Below V0.heap.size V0 q2 ∧ Below Q0.heap.size Q0 q2 ∧ Arg Q0.heap.size q2 (.slice a8 el c8) d2 ∧ ArgT Q0.heap.size q2 (.slice na9 nl c9) l) := ⟨below_any HQ1.out.1 hq9, below_any HQ1.out.2.1 hq9, HQ1.out.2.2.below hq9, (ho9.arg).weaken HQ1.out.2.1.size⟩
   have hSS := HS.out q2 HQ2.out.1
   dsimp only
   refine hK.out _ _ hSS ?_
   clear hK ho9 hq9
   clear hSS
   have hT := HQ0.out.2.1.below HQ2.out.2.1 HQ0.out.2.1.lt
   obtain ⟨⟨f0, f1, f2, f3⟩, j0, j1, j2, j3⟩ := box4 hT
   refine AnyBut.step (i := 7) (by kernel_rfl) rfl (fun K hK => ?_)
   go_simp
   have h7 : Below V0.heap.size V0 (q2.setCell ⟨T5, 2, none⟩ (.slice a8 el c8)) := HQ2.out.1.setCell (p := ⟨T5, 2, none⟩) HQ0.out.2.2.2.1 _
   have hT7 := hT.set 2 (.slice a8 el c8)
   obtain ⟨Y7, hY7⟩ := exa (q2.setCell ⟨T5, 2, none⟩ (.slice a8 el c8))
   rw [← hY7] at h7 hT7 ⊢
   have HY7 : Hid (Y7 = q2.setCell ⟨T5, 2, none⟩ (.slice a8 el c8)) := hY7
   clear hY7
   have hSS := HS.out Y7 h7
   refine hK.out _ _ hSS ?_
   clear hK f0 f1 f2 f3 j0 j1 j2 j3
   refine tx 8 25 hSS ?_
   simp only [Act.put, List.setIfInBounds_toArray]
   clear hSS
   obtain ⟨⟨f0, f1, f2, f3⟩, j0, j1, j2, j3⟩ := box4 hT7
   refine AnyBut.step (i := 9) (by kernel_rfl) rfl (fun K hK => ?_)
   go_simp
   have h9 : Below V0.heap.size V0 (Y7.setCell ⟨T5, 3, none⟩ (.slice na9 nl c9)) := h7.setCell (p := ⟨T5, 3, none⟩) HQ0.out.2.2.2.1 _
   have hT9 := hT7.set 3 (.slice na9 nl c9)
   refine hK.out _ _ (HS.out _ h9) ?_
   clear hK f0 f1 f2 f3 j0 j1 j2 j3
   refine AnyBut.done (by kernel_rfl) ?_
   have hZa : Arg 0 (Y7.setCell ⟨T5, 3, none⟩ (.slice na9 nl c9)) (.slice a8 el c8) d2 := by
     rw [HY7.out]; exact Arg.weaken (Arg.keep (Arg.keep HQ2.out.2.2.1 (.set HQ0.out.2.2.2.2)) (.set HQ0.out.2.2.2.2)) (Nat.zero_le _)
   have hZn : ArgT 0 (Y7.setCell ⟨T5, 3, none⟩ (.slice na9 nl c9)) (.slice na9 nl c9) l := by
     rw [HY7.out]; exact ArgT.weaken (ArgT.keep (ArgT.keep HQ2.out.2.2.2 (.set HQ0.out.2.2.2.2)) (.set HQ0.out.2.2.2.2)) (Nat.zero_le _)
   have hZv : Arg 0 (Y7.setCell ⟨T5, 3, none⟩ (.slice na9 nl c9)) v6 b := by
     rw [HY7.out]; exact HQV.out q2 HQ2.out.2.1 _ _
   obtain ⟨Z, hZ⟩ := exa (Y7.setCell ⟨T5, 3, none⟩ (.slice na9 nl c9))
   rw [← hZ] at h9 hT9 hZa hZn hZv ⊢
   have HZ : Hid (Below V0.heap.size V0 Z ∧ Box Z T5 59 #[.int .i64 e, .int .i64 n, .slice a8 el c8, .slice na9 nl c9] ∧ Arg 0 Z (.slice a8 el c8) d2 ∧ ArgT 0 Z (.slice na9 nl c9) l ∧ Arg 0 Z v6 b) := ⟨h9, hT9, hZa, hZn, hZv⟩
   clear h9 hT9 hZa hZn hZv hZ HY7 h7 hT7 hT HQ1 HQ2
   have HC3 := Go.Proofs.YtopcefhncildnaaGreatDoor.K.rpenc_any (e := e) (n := n) ⟨H0.out.1, H0.out.2.1⟩ H0.out.2.2.1 HZ.out.2.2.1 HZ.out.2.2.2.1
   obtain ⟨⟨f0, f1, f2, f3⟩, -⟩ := box4 HZ.out.2.1
   go_wp2_with fail
   clear f0 f1 f2 f3
   refine HC3.mono ?_
   rintro x w3 ⟨⟨a10, c10, rfl, ho3⟩, hb3⟩
   obtain ⟨O, hO⟩ := exa (rpO e n d2 l)
   obtain ⟨oe, hoe⟩ := exa (rpC e n d2 l)
   rw [← hO] at ho3 ⊢
   rw [← hoe]
   obtain ⟨ol, hol⟩ := exa (O.length)
   rw [← hol] at ho3 ⊢
   have H3 : Hid (Below V0.heap.size V0 w3 ∧ Below Z.heap.size Z w3 ∧ Arg 0 w3 (.slice a10 ol c10) O) := ⟨below_any HZ.out.1 hb3, hb3, (arg_w ho3.arg).weaken (Nat.zero_le _)⟩
   have HO : Hid (O = rpO e n d2 l ∧ oe = rpC e n d2 l ∧ ol = O.length) := ⟨hO, hoe, hol⟩
   clear HC3 ho3 hb3 hO hoe hol
   have HC4 := Go.Proofs.YtopcefhncildnaaGreatDoor.K.rrpenc_any (e := e) (n := n) ⟨H0.out.1, H0.out.2.1⟩ H0.out.2.2.1 (HV.out w3 H3.out.1).2.1 (HV.out w3 H3.out.1).2.2.1
   rw [← HO.out.1, ← HO.out.2.1, ← HO.out.2.2] at HC4
   obtain ⟨⟨f0, f1, f2, f3⟩, -⟩ := box4 (HV.out w3 H3.out.1).2.2.2.2.1
   go_wp2_with fail
   clear f0 f1 f2 f3
   refine HC4.mono ?_
   rintro x w4 ⟨⟨a11, c11, rfl, ho4⟩, hb4⟩
   have H4 : Hid (Below V0.heap.size V0 w4 ∧ Below Z.heap.size Z w4 ∧ Arg 0 w4 (.slice a10 ol c10) O ∧ Arg 0 w4 (.slice a11 ol c11) O) := ⟨below_any H3.out.1 hb4, below_any H3.out.2.1 hb4, H3.out.2.2.below hb4, (arg_w ho4.arg).weaken (Nat.zero_le _)⟩
   clear HC4 ho4 hb4 H3
   have HC5 := Go.Proofs.YtopcefhncildnaaGreatDoor.K.rpdec_any 0 v6 b w4 (HZ.out.2.2.2.2.below H4.out.2.1) H0.out.2.2.2.1 (HV.out w4 H4.out.1).1
   obtain ⟨⟨e4, n4, d4, s4⟩, hq4⟩ : ∃ q, q = rdV b := ⟨_, rfl⟩
   obtain ⟨g4, hg4⟩ := exa (rdE b)
   have HQ4 : Hid ((e4, n4, d4, s4) = rdV b ∧ g4 = rdE b) := ⟨hq4, hg4⟩
   rw [← hq4, ← hg4] at HC5
   clear hq4 hg4
   obtain ⟨l4, hl4⟩ := exa (d4.length)
   obtain ⟨m4, hm4⟩ := exa (s4.length)
   have HL4 : Hid (l4 = d4.length ∧ m4 = s4.length) := ⟨hl4, hm4⟩
   clear hl4 hm4
   go_wp2_with fail
   refine HC5.mono ?_
   rintro x w5 ⟨⟨u5, rfl, a13, c13, nv5, rfl, ho5, hn5⟩, hb5⟩
   simp only at ho5 hn5 ⊢
   obtain ⟨na13, nc13, rfl, -⟩ := hn5.shape
   rw [← HL4.out.1] at ho5 ⊢
   rw [← HL4.out.2] at hn5 ⊢
   obtain ⟨V5, hV5⟩ := exa (w5.alloc (.cells #[.int .i64 e4, .int .i64 n4, .slice a13 l4 c13, .slice na13 m4 nc13] 59))
   have hbV : Below w5.heap.size w5 V5 := by rw [hV5]; exact (Below.refl _ w5).alloc (Nat.le_refl _) _
   have H5 : Hid (Below w4.heap.size w4 V5 ∧ Arg 0 V5 (.slice a13 l4 c13) d4 ∧ ArgT 0 V5 (.slice na13 m4 nc13) s4 ∧ Box V5 w5.heap.size 59 #[.int .i64 e4, .int .i64 n4, .slice a13 l4 c13, .slice na13 m4 nc13]) := ⟨below_any hb5 hbV, (ho5.weaken (Nat.zero_le _)).below hbV, (hn5.weaken (Nat.zero_le _)).below hbV, by rw [hV5]; exact Box.new _ _ _⟩
   clear HC5 ho5 hn5 hb5 hbV
   have HC6 := Go.Proofs.YtopcefhncildnaaGreatDoor.K.rrpdec_any 0 (.slice xa xn xc) b V5 (HV.out V5 (below_any H4.out.1 H5.out.1)).2.2.2.1 H0.out.2.2.2.1
   rw [← HQ4.out.1, ← HQ4.out.2] at HC6
   go_wp2_with fail
   rw [← hV5]
   clear hV5
   refine HC6.mono ?_
   rintro x w6 ⟨⟨u6, rfl, a14, c14, nv6, rfl, ho6, hn6⟩, hb6⟩
   simp only at ho6 hn6 ⊢
   obtain ⟨na14, nc14, rfl, -⟩ := hn6.shape
   rw [← HL4.out.1] at ho6 ⊢
   rw [← HL4.out.2] at hn6 ⊢
   obtain ⟨X, hX⟩ := exa (w6.alloc (.cells #[.int .i64 e4, .int .i64 n4, .slice a14 l4 c14, .slice na14 m4 nc14] 59))
   have hbV : Below w6.heap.size w6 X := by rw [hX]; exact (Below.refl _ w6).alloc (Nat.le_refl _) _
   have b5X : Below V5.heap.size V5 X := below_any hb6 hbV
   have b4X : Below w4.heap.size w4 X := below_any H5.out.1 b5X
   have HX : Hid (Below V0.heap.size V0 X ∧ Arg 0 X (.slice a10 ol c10) O ∧ Arg 0 X (.slice a11 ol c11) O ∧ Arg 0 X (.slice a13 l4 c13) d4 ∧ ArgT 0 X (.slice na13 m4 nc13) s4 ∧ Arg 0 X (.slice a14 l4 c14) d4 ∧ ArgT 0 X (.slice na14 m4 nc14) s4 ∧ Box X w5.heap.size 59 #[.int .i64 e4, .int .i64 n4, .slice a13 l4 c13, .slice na13 m4 nc13] ∧ Box X w6.heap.size 59 #[.int .i64 e4, .int .i64 n4, .slice a14 l4 c14, .slice na14 m4 nc14] ∧ Below Z.heap.size Z X) :=
     ⟨below_any H4.out.1 b4X, H4.out.2.2.1.below b4X, H4.out.2.2.2.below b4X, H5.out.2.1.below b5X, H5.out.2.2.1.below b5X, (ho6.weaken (Nat.zero_le _)).below hbV, (hn6.weaken (Nat.zero_le _)).below hbV, H5.out.2.2.2.below b5X H5.out.2.2.2.lt, by rw [hX]; exact Box.new _ _ _, below_any H4.out.2.1 b4X⟩
   clear HC6 ho6 hn6 hb6 hbV b5X b4X H4 H5
   have HC7 := same_t HX.out.2.1 HX.out.2.2.1
   go_upto_region 7 with fail
   rw [← hX]
   clear hX
   go_wp2_with fail
   refine HC7.mono ?_
   rintro x y1 ⟨rfl, hy1⟩
   have HY1 : Hid (Below X.heap.size X y1) := hy1
   clear HC7 hy1
   have HC8 := Go.Proofs.YtopcefhncildnaaGreatDoor.K.samerp_any (e := e4) (n := n4) (HX.out.2.2.2.1.below HY1.out) (HX.out.2.2.2.2.2.1.below HY1.out) (HX.out.2.2.2.2.1.below HY1.out) (HX.out.2.2.2.2.2.2.1.below HY1.out)
   obtain ⟨⟨f0, f1, f2, f3⟩, -⟩ := box4 (HX.out.2.2.2.2.2.2.2.1.below HY1.out HX.out.2.2.2.2.2.2.2.1.lt)
   obtain ⟨⟨g0, g1, g2, g3⟩, -⟩ := box4 (HX.out.2.2.2.2.2.2.2.2.1.below HY1.out HX.out.2.2.2.2.2.2.2.2.1.lt)
   go_wp2_with (go_at_call 21; refine (num_any _ _).mono ?_; rintro e9 wn ⟨rfl, rfl⟩)
   clear f0 f1 f2 f3 g0 g1 g2 g3
   refine HC8.mono ?_
   rintro x y2 ⟨rfl, hy2⟩
   have HY2 : Hid (Below X.heap.size X y2) := below_any HY1.out hy2
   clear HC8 hy2
   have HZ2 : Hid (Below Z.heap.size Z y2 ∧ Below V0.heap.size V0 y2) := ⟨below_any HX.out.2.2.2.2.2.2.2.2.2 HY2.out, below_any HX.out.1 HY2.out⟩
   have HC9 := Go.Proofs.YtopcefhncildnaaGreatDoor.K.samerp_any (e := e) (n := n) (HZ.out.2.2.1.below HZ2.out.1) (HV.out y2 HZ2.out.2).2.1 (HZ.out.2.2.2.1.below HZ2.out.1) (HV.out y2 HZ2.out.2).2.2.1
   obtain ⟨⟨f0, f1, f2, f3⟩, -⟩ := box4 (HZ.out.2.1.below HZ2.out.1 HZ.out.2.1.lt)
   obtain ⟨⟨g0, g1, g2, g3⟩, -⟩ := box4 (HV.out y2 HZ2.out.2).2.2.2.2.1
   go_wp2_with (go_at_call 21; refine (num_any _ _).mono ?_; rintro e9 wn ⟨rfl, rfl⟩)
   clear f0 f1 f2 f3 g0 g1 g2 g3
   refine HC9.mono ?_
   rintro x y3 ⟨rfl, hy3⟩
   have HZ3 : Hid (Below Z.heap.size Z y3 ∧ Below V0.heap.size V0 y3) := ⟨below_any HZ2.out.1 hy3, below_any HZ2.out.2 hy3⟩
   clear HC9 hy3
   have HC10 := same_t (HZ.out.2.2.2.2.below HZ3.out.1) (HV.out y3 HZ3.out.2).2.2.2.1
   go_wp2_with fail
   refine HC10.mono ?_
   rintro x y4 ⟨rfl, hy4⟩
   have HZ4 : Hid (Below V0.heap.size V0 y4) := below_any HZ3.out.2 hy4
   clear HC10 hy4
   have HC11 := Go.Proofs.YtopcefhncildnaaGreatDoor.K.alive_any y4 (HV.out y4 HZ4.out).1
   go_wp2_with fail
   refine HC11.mono ?_
   rintro x y5 ⟨rfl, hy5⟩
   have HF : Hid (Below w.heap.size w y5) := (HV.out y5 (below_any HZ4.out hy5)).2.2.2.2.2
   clear HC11 hy5
   go_wp2
   go_ret
   exact ⟨by simp, HF.out⟩
 · go_simp
   obtain ⟨q1, hq⟩ := exa (X0.alloc (.cells #[.int .i64 0, .int .i64 0, .slice none 0 0, .slice none 0 0] 59))
   have hbq : Below X0.heap.size X0 q1 := by rw [hq]; exact (Below.refl _ _).alloc (Nat.le_refl _) _
   have hBq : Box q1 X0.heap.size 59 #[.int .i64 0, .int .i64 0, .slice none 0 0, .slice none 0 0] := by rw [hq]; exact Box.new _ _ _
   obtain ⟨T5, hT5⟩ := exa (X0.heap.size)
   rw [← hq]
   rw [← hT5] at hBq ⊢
   have HT5 : Hid (T5 = X0.heap.size) := hT5
   have hlt5 : V0.heap.size ≤ T5 := by rw [hT5]; exact (hbX).size
   clear hq hT5
   refine hK.out _ _ (HS.out q1 (below_any hbX hbq)) ?_
   clear hK
   refine AnyBut.step (i := 2) (by kernel_rfl) rfl (fun K hK => ?_)
   go_simp
   refine (F.copy_any 0 (.slice xa xn xc) b q1 (HV.out q1 (below_any hbX hbq)).2.2.2.1 (by have := H0.out.2.2.2.1; omega)).mono ?_
   rintro x q0 ⟨⟨v6, rfl, ho6⟩, hq6⟩
   have HQ : Hid (Below V0.heap.size V0 q0 ∧ Arg q1.heap.size q0 v6 b) := ⟨below_any (below_any hbX hbq) hq6, ho6.arg⟩
   have hlq : T5 < q1.heap.size := hBq.lt
   replace hBq := hBq.below hq6 hBq.lt
   dsimp only
   refine hK.out _ _ (HS.out q0 HQ.out.1) ?_
   clear hK ho6 hq6
   obtain ⟨⟨f0, f1, f2, f3⟩, j0, j1, j2, j3⟩ := box4 hBq
   refine AnyBut.step (i := 4) (by kernel_rfl) rfl (fun K hK => ?_)
   go_simp
   have hbs := below_set4 (HQ.out.1) hlt5 (.int .i64 e) (.int .i64 n) (.slice ea el ec) (.slice na nl nc)
   have hBs := box_set4 hBq (.int .i64 e) (.int .i64 n) (.slice ea el ec) (.slice na nl nc)
   have hvs : Arg q1.heap.size ((((q0.setCell ⟨T5, 0, none⟩ (.int .i64 e)).setCell ⟨T5, 1, none⟩ (.int .i64 n)).setCell ⟨T5, 2, none⟩ (.slice ea el ec)).setCell ⟨T5, 3, none⟩ (.slice na nl nc)) v6 b := Arg.keep HQ.out.2 (same_set4 hlq)
   obtain ⟨Q, hQ⟩ := exa (((((q0.setCell ⟨T5, 0, none⟩ (.int .i64 e)).setCell ⟨T5, 1, none⟩ (.int .i64 n)).setCell ⟨T5, 2, none⟩ (.slice ea el ec)).setCell ⟨T5, 3, none⟩ (.slice na nl nc)))
   rw [← hQ] at hbs hBs hvs ⊢
   have hSS := HS.out Q hbs
   refine hK.out _ _ hSS ?_
   clear hK f0 f1 f2 f3 j0 j1 j2 j3 hQ
   refine tx 5 6 hSS ?_
   simp only [Act.put, List.setIfInBounds_toArray]
   clear hSS
   refine AnyBut.done (by kernel_rfl) ?_
   obtain ⟨Q0, hQ0⟩ := exa (Q.drew)
   have hbQ : Below Q.heap.size Q Q0 := by rw [hQ0]; exact (Below.refl _ Q).drew
   have HQ0 : Hid (Below V0.heap.size V0 Q0 ∧ Box Q0 T5 59 #[.int .i64 e, .int .i64 n, .slice ea el ec, .slice na nl nc] ∧ True ∧ V0.heap.size ≤ T5 ∧ T5 < Q0.heap.size) := ⟨below_any hbs hbQ, hBs.below hbQ hBs.lt, trivial, hlt5, (hBs.below hbQ hBs.lt).lt⟩
   have HQV : Hid (∀ U, Below Q0.heap.size Q0 U → ∀ u u', Arg 0 ((U.setCell ⟨T5, 2, none⟩ u).setCell ⟨T5, 3, none⟩ u') v6 b) := fun U hU u u' => Arg.weaken (Arg.keep (Arg.keep ((hvs.below hbQ).below hU) (.set hlq)) (.set hlq)) (Nat.zero_le _)
   clear hbs hBs hvs hbQ hlt5 HT5 HQ hbq hBq hbX hlq
   go_upto_region 2 with fail
   refine AnyBut.begin (fun U => U.cell? ⟨w.heap.size, 0, none⟩ = some (.int .i64 e) ∧ U.cell? ⟨w.heap.size, 1, none⟩ = some (.int .i64 n) ∧ U.cell? ⟨w.heap.size, 2, none⟩ = some (.slice ea el ec) ∧ U.cell? ⟨w.heap.size, 3, none⟩ = some (.slice na nl nc)) 1000 (by kernel_rfl) ?_
   rw [← hQ0]
   clear hQ0
   have hSS := HS.out Q0 HQ0.out.1
   refine tx 0 18 hSS ?_; simp only [ua,ub,uc,ud]
   refine tx 1 19 hSS ?_; simp only [ua,ub,uc,ud]
   refine tx 3 21 hSS ?_; simp only [ua,ub,uc,ud]
   refine tx 4 22 hSS ?_; simp only [ua,ub,uc,ud]
   clear hSS
   refine AnyBut.step (i := 2) (by kernel_rfl) rfl (fun K hK => ?_)
   go_simp
   refine (F.copy_any 0 (.slice ea el ec) d2 Q0 (HV.out Q0 HQ0.out.1).2.1 H0.out.2.2.2.2.1).mono ?_
   rintro x q1 ⟨⟨v8, rfl, ho8⟩, hq8⟩
   obtain ⟨a8, c8, rfl⟩ := ho8.shape
   rw [← H0.out.2.2.1] at ho8 ⊢
   have HQ1 : Hid (Below V0.heap.size V0 q1 ∧ Below Q0.heap.size Q0 q1 ∧ Arg Q0.heap.size q1 (.slice a8 el c8) d2) := ⟨below_any HQ0.out.1 hq8, hq8, ho8.arg⟩
   dsimp only
   have hSS := HS.out q1 HQ1.out.1
   refine hK.out _ _ hSS ?_
   clear hK ho8 hq8
   refine tx 6 24 hSS ?_
   simp only [Act.put, List.setIfInBounds_toArray]
   clear hSS
   refine AnyBut.step (i := 5) (by kernel_rfl) rfl (fun K hK => ?_)
   go_simp
   refine (copyt_any 0 (.slice na nl nc) l q1 (HV.out q1 HQ1.out.1).2.2.1 H0.out.2.2.2.2.2.1).mono ?_
   rintro x q2 ⟨⟨v9, rfl, ho9⟩, hq9⟩
   obtain ⟨na9, c9, rfl⟩ := ho9.shape
   rw [← H0.out.2.2.2.2.2.2] at ho9 ⊢
   have HQ2 : Hid (Below V0.heap.size V0 q2 ∧ Below Q0.heap.size Q0 q2 ∧ Arg Q0.heap.size q2 (.slice a8 el c8) d2 ∧ ArgT Q0.heap.size q2 (.slice na9 nl c9) l) := ⟨below_any HQ1.out.1 hq9, below_any HQ1.out.2.1 hq9, HQ1.out.2.2.below hq9, (ho9.arg).weaken HQ1.out.2.1.size⟩
   have hSS := HS.out q2 HQ2.out.1
   dsimp only
   refine hK.out _ _ hSS ?_
   clear hK ho9 hq9
   clear hSS
   have hT := HQ0.out.2.1.below HQ2.out.2.1 HQ0.out.2.1.lt
   obtain ⟨⟨f0, f1, f2, f3⟩, j0, j1, j2, j3⟩ := box4 hT
   refine AnyBut.step (i := 7) (by kernel_rfl) rfl (fun K hK => ?_)
   go_simp
   have h7 : Below V0.heap.size V0 (q2.setCell ⟨T5, 2, none⟩ (.slice a8 el c8)) := HQ2.out.1.setCell (p := ⟨T5, 2, none⟩) HQ0.out.2.2.2.1 _
   have hT7 := hT.set 2 (.slice a8 el c8)
   obtain ⟨Y7, hY7⟩ := exa (q2.setCell ⟨T5, 2, none⟩ (.slice a8 el c8))
   rw [← hY7] at h7 hT7 ⊢
   have HY7 : Hid (Y7 = q2.setCell ⟨T5, 2, none⟩ (.slice a8 el c8)) := hY7
   clear hY7
   have hSS := HS.out Y7 h7
   refine hK.out _ _ hSS ?_
   clear hK f0 f1 f2 f3 j0 j1 j2 j3
   refine tx 8 25 hSS ?_
   simp only [Act.put, List.setIfInBounds_toArray]
   clear hSS
   obtain ⟨⟨f0, f1, f2, f3⟩, j0, j1, j2, j3⟩ := box4 hT7
   refine AnyBut.step (i := 9) (by kernel_rfl) rfl (fun K hK => ?_)
   go_simp
   have h9 : Below V0.heap.size V0 (Y7.setCell ⟨T5, 3, none⟩ (.slice na9 nl c9)) := h7.setCell (p := ⟨T5, 3, none⟩) HQ0.out.2.2.2.1 _
   have hT9 := hT7.set 3 (.slice na9 nl c9)
   refine hK.out _ _ (HS.out _ h9) ?_
   clear hK f0 f1 f2 f3 j0 j1 j2 j3
   refine AnyBut.done (by kernel_rfl) ?_
   have hZa : Arg 0 (Y7.setCell ⟨T5, 3, none⟩ (.slice na9 nl c9)) (.slice a8 el c8) d2 := by
     rw [HY7.out]; exact Arg.weaken (Arg.keep (Arg.keep HQ2.out.2.2.1 (.set HQ0.out.2.2.2.2)) (.set HQ0.out.2.2.2.2)) (Nat.zero_le _)
   have hZn : ArgT 0 (Y7.setCell ⟨T5, 3, none⟩ (.slice na9 nl c9)) (.slice na9 nl c9) l := by
     rw [HY7.out]; exact ArgT.weaken (ArgT.keep (ArgT.keep HQ2.out.2.2.2 (.set HQ0.out.2.2.2.2)) (.set HQ0.out.2.2.2.2)) (Nat.zero_le _)
   have hZv : Arg 0 (Y7.setCell ⟨T5, 3, none⟩ (.slice na9 nl c9)) v6 b := by
     rw [HY7.out]; exact HQV.out q2 HQ2.out.2.1 _ _
   obtain ⟨Z, hZ⟩ := exa (Y7.setCell ⟨T5, 3, none⟩ (.slice na9 nl c9))
   rw [← hZ] at h9 hT9 hZa hZn hZv ⊢
   have HZ : Hid (Below V0.heap.size V0 Z ∧ Box Z T5 59 #[.int .i64 e, .int .i64 n, .slice a8 el c8, .slice na9 nl c9] ∧ Arg 0 Z (.slice a8 el c8) d2 ∧ ArgT 0 Z (.slice na9 nl c9) l ∧ Arg 0 Z v6 b) := ⟨h9, hT9, hZa, hZn, hZv⟩
   clear h9 hT9 hZa hZn hZv hZ HY7 h7 hT7 hT HQ1 HQ2
   have HC3 := Go.Proofs.YtopcefhncildnaaGreatDoor.K.rpenc_any (e := e) (n := n) ⟨H0.out.1, H0.out.2.1⟩ H0.out.2.2.1 HZ.out.2.2.1 HZ.out.2.2.2.1
   obtain ⟨⟨f0, f1, f2, f3⟩, -⟩ := box4 HZ.out.2.1
   go_wp2_with fail
   clear f0 f1 f2 f3
   refine HC3.mono ?_
   rintro x w3 ⟨⟨a10, c10, rfl, ho3⟩, hb3⟩
   obtain ⟨O, hO⟩ := exa (rpO e n d2 l)
   obtain ⟨oe, hoe⟩ := exa (rpC e n d2 l)
   rw [← hO] at ho3 ⊢
   rw [← hoe]
   obtain ⟨ol, hol⟩ := exa (O.length)
   rw [← hol] at ho3 ⊢
   have H3 : Hid (Below V0.heap.size V0 w3 ∧ Below Z.heap.size Z w3 ∧ Arg 0 w3 (.slice a10 ol c10) O) := ⟨below_any HZ.out.1 hb3, hb3, (arg_w ho3.arg).weaken (Nat.zero_le _)⟩
   have HO : Hid (O = rpO e n d2 l ∧ oe = rpC e n d2 l ∧ ol = O.length) := ⟨hO, hoe, hol⟩
   clear HC3 ho3 hb3 hO hoe hol
   have HC4 := Go.Proofs.YtopcefhncildnaaGreatDoor.K.rrpenc_any (e := e) (n := n) ⟨H0.out.1, H0.out.2.1⟩ H0.out.2.2.1 (HV.out w3 H3.out.1).2.1 (HV.out w3 H3.out.1).2.2.1
   rw [← HO.out.1, ← HO.out.2.1, ← HO.out.2.2] at HC4
   obtain ⟨⟨f0, f1, f2, f3⟩, -⟩ := box4 (HV.out w3 H3.out.1).2.2.2.2.1
   go_wp2_with fail
   clear f0 f1 f2 f3
   refine HC4.mono ?_
   rintro x w4 ⟨⟨a11, c11, rfl, ho4⟩, hb4⟩
   have H4 : Hid (Below V0.heap.size V0 w4 ∧ Below Z.heap.size Z w4 ∧ Arg 0 w4 (.slice a10 ol c10) O ∧ Arg 0 w4 (.slice a11 ol c11) O) := ⟨below_any H3.out.1 hb4, below_any H3.out.2.1 hb4, H3.out.2.2.below hb4, (arg_w ho4.arg).weaken (Nat.zero_le _)⟩
   clear HC4 ho4 hb4 H3
   have HC5 := Go.Proofs.YtopcefhncildnaaGreatDoor.K.rpdec_any 0 v6 b w4 (HZ.out.2.2.2.2.below H4.out.2.1) H0.out.2.2.2.1 (HV.out w4 H4.out.1).1
   obtain ⟨⟨e4, n4, d4, s4⟩, hq4⟩ : ∃ q, q = rdV b := ⟨_, rfl⟩
   obtain ⟨g4, hg4⟩ := exa (rdE b)
   have HQ4 : Hid ((e4, n4, d4, s4) = rdV b ∧ g4 = rdE b) := ⟨hq4, hg4⟩
   rw [← hq4, ← hg4] at HC5
   clear hq4 hg4
   obtain ⟨l4, hl4⟩ := exa (d4.length)
   obtain ⟨m4, hm4⟩ := exa (s4.length)
   have HL4 : Hid (l4 = d4.length ∧ m4 = s4.length) := ⟨hl4, hm4⟩
   clear hl4 hm4
   go_wp2_with fail
   refine HC5.mono ?_
   rintro x w5 ⟨⟨u5, rfl, a13, c13, nv5, rfl, ho5, hn5⟩, hb5⟩
   simp only at ho5 hn5 ⊢
   obtain ⟨na13, nc13, rfl, -⟩ := hn5.shape
   rw [← HL4.out.1] at ho5 ⊢
   rw [← HL4.out.2] at hn5 ⊢
   obtain ⟨V5, hV5⟩ := exa (w5.alloc (.cells #[.int .i64 e4, .int .i64 n4, .slice a13 l4 c13, .slice na13 m4 nc13] 59))
   have hbV : Below w5.heap.size w5 V5 := by rw [hV5]; exact (Below.refl _ w5).alloc (Nat.le_refl _) _
   have H5 : Hid (Below w4.heap.size w4 V5 ∧ Arg 0 V5 (.slice a13 l4 c13) d4 ∧ ArgT 0 V5 (.slice na13 m4 nc13) s4 ∧ Box V5 w5.heap.size 59 #[.int .i64 e4, .int .i64 n4, .slice a13 l4 c13, .slice na13 m4 nc13]) := ⟨below_any hb5 hbV, (ho5.weaken (Nat.zero_le _)).below hbV, (hn5.weaken (Nat.zero_le _)).below hbV, by rw [hV5]; exact Box.new _ _ _⟩
   clear HC5 ho5 hn5 hb5 hbV
   have HC6 := Go.Proofs.YtopcefhncildnaaGreatDoor.K.rrpdec_any 0 (.slice xa xn xc) b V5 (HV.out V5 (below_any H4.out.1 H5.out.1)).2.2.2.1 H0.out.2.2.2.1
   rw [← HQ4.out.1, ← HQ4.out.2] at HC6
   go_wp2_with fail
   rw [← hV5]
   clear hV5
   refine HC6.mono ?_
   rintro x w6 ⟨⟨u6, rfl, a14, c14, nv6, rfl, ho6, hn6⟩, hb6⟩
   simp only at ho6 hn6 ⊢
   obtain ⟨na14, nc14, rfl, -⟩ := hn6.shape
   rw [← HL4.out.1] at ho6 ⊢
   rw [← HL4.out.2] at hn6 ⊢
   obtain ⟨X, hX⟩ := exa (w6.alloc (.cells #[.int .i64 e4, .int .i64 n4, .slice a14 l4 c14, .slice na14 m4 nc14] 59))
   have hbV : Below w6.heap.size w6 X := by rw [hX]; exact (Below.refl _ w6).alloc (Nat.le_refl _) _
   have b5X : Below V5.heap.size V5 X := below_any hb6 hbV
   have b4X : Below w4.heap.size w4 X := below_any H5.out.1 b5X
   have HX : Hid (Below V0.heap.size V0 X ∧ Arg 0 X (.slice a10 ol c10) O ∧ Arg 0 X (.slice a11 ol c11) O ∧ Arg 0 X (.slice a13 l4 c13) d4 ∧ ArgT 0 X (.slice na13 m4 nc13) s4 ∧ Arg 0 X (.slice a14 l4 c14) d4 ∧ ArgT 0 X (.slice na14 m4 nc14) s4 ∧ Box X w5.heap.size 59 #[.int .i64 e4, .int .i64 n4, .slice a13 l4 c13, .slice na13 m4 nc13] ∧ Box X w6.heap.size 59 #[.int .i64 e4, .int .i64 n4, .slice a14 l4 c14, .slice na14 m4 nc14] ∧ Below Z.heap.size Z X) :=
     ⟨below_any H4.out.1 b4X, H4.out.2.2.1.below b4X, H4.out.2.2.2.below b4X, H5.out.2.1.below b5X, H5.out.2.2.1.below b5X, (ho6.weaken (Nat.zero_le _)).below hbV, (hn6.weaken (Nat.zero_le _)).below hbV, H5.out.2.2.2.below b5X H5.out.2.2.2.lt, by rw [hX]; exact Box.new _ _ _, below_any H4.out.2.1 b4X⟩
   clear HC6 ho6 hn6 hb6 hbV b5X b4X H4 H5
   have HC7 := same_t HX.out.2.1 HX.out.2.2.1
   go_upto_region 7 with fail
   rw [← hX]
   clear hX
   go_wp2_with fail
   refine HC7.mono ?_
   rintro x y1 ⟨rfl, hy1⟩
   have HY1 : Hid (Below X.heap.size X y1) := hy1
   clear HC7 hy1
   have HC8 := Go.Proofs.YtopcefhncildnaaGreatDoor.K.samerp_any (e := e4) (n := n4) (HX.out.2.2.2.1.below HY1.out) (HX.out.2.2.2.2.2.1.below HY1.out) (HX.out.2.2.2.2.1.below HY1.out) (HX.out.2.2.2.2.2.2.1.below HY1.out)
   obtain ⟨⟨f0, f1, f2, f3⟩, -⟩ := box4 (HX.out.2.2.2.2.2.2.2.1.below HY1.out HX.out.2.2.2.2.2.2.2.1.lt)
   obtain ⟨⟨g0, g1, g2, g3⟩, -⟩ := box4 (HX.out.2.2.2.2.2.2.2.2.1.below HY1.out HX.out.2.2.2.2.2.2.2.2.1.lt)
   go_wp2_with (go_at_call 21; refine (num_any _ _).mono ?_; rintro e9 wn ⟨rfl, rfl⟩)
   clear f0 f1 f2 f3 g0 g1 g2 g3
   refine HC8.mono ?_
   rintro x y2 ⟨rfl, hy2⟩
   have HY2 : Hid (Below X.heap.size X y2) := below_any HY1.out hy2
   clear HC8 hy2
   have HZ2 : Hid (Below Z.heap.size Z y2 ∧ Below V0.heap.size V0 y2) := ⟨below_any HX.out.2.2.2.2.2.2.2.2.2 HY2.out, below_any HX.out.1 HY2.out⟩
   have HC9 := Go.Proofs.YtopcefhncildnaaGreatDoor.K.samerp_any (e := e) (n := n) (HZ.out.2.2.1.below HZ2.out.1) (HV.out y2 HZ2.out.2).2.1 (HZ.out.2.2.2.1.below HZ2.out.1) (HV.out y2 HZ2.out.2).2.2.1
   obtain ⟨⟨f0, f1, f2, f3⟩, -⟩ := box4 (HZ.out.2.1.below HZ2.out.1 HZ.out.2.1.lt)
   obtain ⟨⟨g0, g1, g2, g3⟩, -⟩ := box4 (HV.out y2 HZ2.out.2).2.2.2.2.1
   go_wp2_with (go_at_call 21; refine (num_any _ _).mono ?_; rintro e9 wn ⟨rfl, rfl⟩)
   clear f0 f1 f2 f3 g0 g1 g2 g3
   refine HC9.mono ?_
   rintro x y3 ⟨rfl, hy3⟩
   have HZ3 : Hid (Below Z.heap.size Z y3 ∧ Below V0.heap.size V0 y3) := ⟨below_any HZ2.out.1 hy3, below_any HZ2.out.2 hy3⟩
   clear HC9 hy3
   have HC10 := same_t (HZ.out.2.2.2.2.below HZ3.out.1) (HV.out y3 HZ3.out.2).2.2.2.1
   go_wp2_with fail
   refine HC10.mono ?_
   rintro x y4 ⟨rfl, hy4⟩
   have HZ4 : Hid (Below V0.heap.size V0 y4) := below_any HZ3.out.2 hy4
   clear HC10 hy4
   have HC11 := Go.Proofs.YtopcefhncildnaaGreatDoor.K.alive_any y4 (HV.out y4 HZ4.out).1
   go_wp2_with fail
   refine HC11.mono ?_
   rintro x y5 ⟨rfl, hy5⟩
   have HF : Hid (Below w.heap.size w y5) := (HV.out y5 (below_any HZ4.out hy5)).2.2.2.2.2
   clear HC11 hy5
   go_wp2
   go_ret
   exact ⟨by simp, HF.out⟩
end Go.Proofs.YtopcefhncildnaaGreatDoor.opsReplies
