/-
  The document's answer: octets read as an op.
  OpsTells: the walk of the law.
-/
import Derived.Test.YtopcefhncildnaaGreatDoorV36
import Derived.Test.YtopcefhncildnaaGreatDoorV47
set_option maxRecDepth 100000
set_option maxHeartbeats 32000000
namespace Go.Proofs.YtopcefhncildnaaGreatDoor.K
open Go.RowKit
set_option linter.unusedVariables false
theorem rdec_any (n0 : Nat) (v : Value) (b : List Int) (w : World) (h : Arg n0 w v b) (hs : b.length ≤ 140737488351232) :
   Calls Tryz.prog 26 #[v] w fun e w' => (∃ u, e = .returned (.tuple #[u, .int .i64 (dopE b)]) ∧ OpL w.heap.size w' u (dopV b)) ∧ Below w.heap.size w w' := by
 obtain ⟨W1, hW1⟩ := exa (w.alloc (.cells #[.int .i64 0, .string ⟨#[]⟩, .string ⟨#[]⟩, .int .i64 0, .int .i64 0, .slice none 0 0] 56))
 have hb1 : Below w.heap.size w W1 := by rw [hW1]; exact (Below.refl _ w).alloc (Nat.le_refl _) _
 have hB1 : Box W1 w.heap.size 56 #[.int .i64 0, .string ⟨#[]⟩, .string ⟨#[]⟩, .int .i64 0, .int .i64 0, .slice none 0 0] := by rw [hW1]; exact Box.new _ _ _
 have HC := W.rdec_any n0 v b W1 (w_arg (h.below hb1)) hs
 have HB : Hid (Below w.heap.size w W1 ∧ Box W1 w.heap.size 56 #[.int .i64 0, .string ⟨#[]⟩, .string ⟨#[]⟩, .int .i64 0, .int .i64 0, .slice none 0 0]) := ⟨hb1, hB1⟩
 obtain ⟨post, hpost⟩ : ∃ post : Ending → World → Prop, post = fun e w' => (∃ u, e = .returned (.tuple #[u, .int .i64 (dopE b)]) ∧ OpL w.heap.size w' u (dopV b)) ∧ Below w.heap.size w w' := ⟨_, rfl⟩
 have HPo : Hid (∀ (k : Int) u w', k = dopE b → OpL w.heap.size w' u (dopV b) → Below w.heap.size w w' → post (.returned (.tuple #[u, .int .i64 k])) w') := fun k u w' h1 h2 h3 => by rw [hpost, h1]; exact ⟨⟨u, rfl, h2⟩, h3⟩
 rw [← hpost]
 clear hpost hb1 hB1 h
 go_enter Tryz.func26, Tryz.ntmps26
 go_wp2_with fail
 rw [← hW1]
 clear hW1
 refine HC.mono ?_
 rintro e w2 ⟨⟨us, rfl, ho⟩, hb2⟩
 obtain ⟨ax, cx, ay, cy, rfl⟩ := W.rec_oview ho
 obtain ⟨r, hr⟩ := exa (W.decV b)
 obtain ⟨de, hde⟩ := exa (W.decE b)
 have HDE : Hid (dopE b = (if de ≠ 0 then de else if r.2.1.length ≠ 2 ∨ r.2.2.length ≠ 3 then 3 else opE (rcO r).1 (rcO r).2.1 (rcO r).2.2.1 (rcO r).2.2.2.2.2.length) ∧ dopV b = (if dopE b = 0 then rcO r else zO)) := by (
 refine ⟨?_, ?_⟩
 · unfold dopE; rw [hr, hde]
 · unfold dopV; rw [hr])
 rw [← hr] at ho ⊢
 rw [← hde]
 clear HC hr hde
 obtain ⟨rk, ns, ts⟩ := r
 simp only at ho ⊢
 obtain ⟨nl, hnl⟩ := exa (ns.length)
 obtain ⟨tl, htl⟩ := exa (ts.length)
 rw [← hnl, ← htl] at ho ⊢
 obtain ⟨xx, yy, heq, hoi, hot, hok⟩ := W.rec_own ho
 simp only [List.cons.injEq, and_true, true_and] at heq
 obtain ⟨rfl, rfl⟩ := heq
 simp only at hoi hot hok
 obtain ⟨V, hV⟩ := exa (w2.alloc (.cells #[.int .i64 rk, .slice ax nl cx, .slice ay tl cy] 129))
 have hbV : Below w2.heap.size w2 V := by rw [hV]; exact (Below.refl _ w2).alloc (Nat.le_refl _) _
 have hBV : Box V w2.heap.size 129 #[.int .i64 rk, .slice ax nl cx, .slice ay tl cy] := by rw [hV]; exact Box.new _ _ _
 have HV : Hid (Below W1.heap.size W1 V ∧ Below w.heap.size w V ∧ Box V w2.heap.size 129 #[.int .i64 rk, .slice ax nl cx, .slice ay tl cy] ∧ (W.intsS.owns W1.heap.size V [.slice ax nl cx] ns ∧ W.textsS.owns W1.heap.size V [.slice ay tl cy] ts ∧ W.I64 rk) ∧ nl = ns.length ∧ tl = ts.length) := ⟨below_any hb2 hbV, HB.out.1.trans ((below_any hb2 hbV).mono HB.out.1.size), hBV, ⟨W.intsS.obelow hoi hbV, W.textsS.obelow hot hbV, hok⟩, hnl, htl⟩
 clear ho hb2 hbV hBV hnl htl hoi hot hok
 have hl1 := run_len Tryz.underlying125 ax nl cx
 have hl2 := run_len Tryz.underlying89 ay tl cy
 go_upto_region 2 with fail
 rw [← hV]
 clear hV
 by_cases hd0 : de = 0
 rotate_left
 · have hk : de = dopE b := by rw [HDE.out.1, if_pos hd0]
   have HP : Hid (∀ u0 u1 u2 u3 u4 u5 U, U = .tuple #[.agg #[.int .i64 0, .string ⟨#[]⟩, .string ⟨#[]⟩, .int .i64 0, .int .i64 0, .slice none 0 0], .int .i64 de] → post (.returned U) ((((((V.setCell ⟨w.heap.size, 0, none⟩ u0).setCell ⟨w.heap.size, 1, none⟩ u1).setCell ⟨w.heap.size, 2, none⟩ u2).setCell ⟨w.heap.size, 3, none⟩ u3).setCell ⟨w.heap.size, 4, none⟩ u4).setCell ⟨w.heap.size, 5, none⟩ u5)) := fun u0 u1 u2 u3 u4 u5 Z hZ => by (
 rw [hZ]
 refine HPo.out _ _ _ hk ?_ (below_set6 HV.out.2.1 (Nat.le_refl _) _ _ _ _ _ _)
 rw [HDE.out.2, if_neg (by rw [← hk]; exact hd0)]
 exact opl_zero _ _)
   clear hk
   obtain ⟨⟨d0, d1, d2, d3, d4, d5⟩, e0, e1, e2, e3, e4, e5⟩ := box6 (HB.out.2.below HV.out.1 HB.out.2.lt)
   go_wp2
   refine bodyPost_ret (v := .tuple #[.agg #[.int .i64 0, .string ⟨#[]⟩, .string ⟨#[]⟩, .int .i64 0, .int .i64 0, .slice none 0 0], .int .i64 de]) (by simp [results, Tryz.results26, go_sem, *]) rfl (HP.out _ _ _ _ _ _ _ rfl)
 subst hd0
 obtain ⟨g0, g1, g2, -⟩ := HV.out.2.2.1.three
 by_cases hln : nl = 2 ∧ tl = 3
 rotate_left
 · have hk : (3 : Int) = dopE b := by
     rw [HDE.out.1, if_neg (by simp), if_pos]
     have h1 := HV.out.2.2.2.2.1
     have h2 := HV.out.2.2.2.2.2
     simp only
     omega
   have HP : Hid (∀ u0 u1 u2 u3 u4 u5 U, U = .tuple #[.agg #[.int .i64 0, .string ⟨#[]⟩, .string ⟨#[]⟩, .int .i64 0, .int .i64 0, .slice none 0 0], .int .i64 3] → post (.returned U) ((((((V.setCell ⟨w.heap.size, 0, none⟩ u0).setCell ⟨w.heap.size, 1, none⟩ u1).setCell ⟨w.heap.size, 2, none⟩ u2).setCell ⟨w.heap.size, 3, none⟩ u3).setCell ⟨w.heap.size, 4, none⟩ u4).setCell ⟨w.heap.size, 5, none⟩ u5)) := fun u0 u1 u2 u3 u4 u5 Z hZ => by (
 rw [hZ]
 refine HPo.out _ _ _ hk ?_ (below_set6 HV.out.2.1 (Nat.le_refl _) _ _ _ _ _ _)
 rw [HDE.out.2, if_neg (by rw [← hk]; decide)]
 exact opl_zero _ _)
   clear hk
   obtain ⟨⟨d0, d1, d2, d3, d4, d5⟩, e0, e1, e2, e3, e4, e5⟩ := box6 (HB.out.2.below HV.out.1 HB.out.2.lt)
   by_cases h2 : (nl : Int) = 2
   · have h3 : ¬ (tl : Int) = 3 := by omega
     clear hln
     go_wp2
     refine bodyPost_ret (v := .tuple #[.agg #[.int .i64 0, .string ⟨#[]⟩, .string ⟨#[]⟩, .int .i64 0, .int .i64 0, .slice none 0 0], .int .i64 3]) (by simp [results, Tryz.results26, go_sem, *]) rfl (HP.out _ _ _ _ _ _ _ rfl)
   · clear hln
     go_wp2
     refine bodyPost_ret (v := .tuple #[.agg #[.int .i64 0, .string ⟨#[]⟩, .string ⟨#[]⟩, .int .i64 0, .int .i64 0, .slice none 0 0], .int .i64 3]) (by simp [results, Tryz.results26, go_sem, *]) rfl (HP.out _ _ _ _ _ _ _ rfl)
 obtain ⟨rfl, rfl⟩ := hln
 obtain ⟨x0, x1, rfl⟩ := two_of HV.out.2.2.2.2.1.symm
 obtain ⟨t0, t1, t2, rfl⟩ := three_of HV.out.2.2.2.2.2.symm
 obtain ⟨hi, ht, hk⟩ := HV.out.2.2.2.1
 obtain ⟨b0, o0, ix0, c0, i0⟩ := W.ints_at (W.intsS.olies hi) 0 x0 rfl
 obtain ⟨b1, o1, ix1, c1, i1⟩ := W.ints_at (W.intsS.olies hi) 1 x1 rfl
 obtain ⟨b2, o2, v0, iy0, k0, ar0⟩ := W.texts_at (W.textsS.olies ht) 0 t0 rfl
 obtain ⟨b3, o3, v1, iy1, k1, ar1⟩ := W.texts_at (W.textsS.olies ht) 1 t1 rfl
 obtain ⟨b4, o4, v2, iy2, k2, ar2⟩ := W.texts_at (W.textsS.olies ht) 2 t2 rfl
 obtain ⟨y0, z0, rfl, -⟩ := ar0.shape
 obtain ⟨y1, z1, rfl, -⟩ := ar1.shape
 obtain ⟨y2, z2, rfl, -⟩ := ar2.shape
 have ix0 : ∀ W, (Instr.indexAt 125 (.slice ax 2 cx) (.int .i64 0)).run Tryz.prog W = .ok (.pointer (some ⟨b0, o0, none⟩)) W := ix0
 have ix1 : ∀ W, (Instr.indexAt 125 (.slice ax 2 cx) (.int .i64 1)).run Tryz.prog W = .ok (.pointer (some ⟨b1, o1, none⟩)) W := ix1
 have iy0 : ∀ W, (Instr.indexAt 89 (.slice ay 3 cy) (.int .i64 0)).run Tryz.prog W = .ok (.pointer (some ⟨b2, o2, none⟩)) W := iy0
 have iy1 : ∀ W, (Instr.indexAt 89 (.slice ay 3 cy) (.int .i64 1)).run Tryz.prog W = .ok (.pointer (some ⟨b3, o3, none⟩)) W := iy1
 have iy2 : ∀ W, (Instr.indexAt 89 (.slice ay 3 cy) (.int .i64 2)).run Tryz.prog W = .ok (.pointer (some ⟨b4, o4, none⟩)) W := iy2
 obtain ⟨l0, hl0⟩ := exa (t0.length)
 obtain ⟨l1, hl1'⟩ := exa (t1.length)
 obtain ⟨l2, hl2'⟩ := exa (t2.length)
 obtain ⟨p, hp⟩ := exa (strOfNums t0)
 obtain ⟨t, ht0⟩ := exa (strOfNums t1)
 rw [← hl0] at k0 ar0
 rw [← hl1'] at k1 ar1
 rw [← hl2'] at k2 ar2
 have HA : Hid (Arg W1.heap.size V (.slice y0 l0 z0) t0 ∧ Arg W1.heap.size V (.slice y1 l1 z1) t1 ∧ Arg W1.heap.size V (.slice y2 l2 z2) t2 ∧ l2 = t2.length ∧ p = strOfNums t0 ∧ t = strOfNums t1 ∧ I64 rk ∧ I64 x0 ∧ I64 x1 ∧ l0 = t0.length ∧ l1 = t1.length) := ⟨arg_w ar0, arg_w ar1, arg_w ar2, hl2', hp, ht0, hk, i0, i1, hl0, hl1'⟩
 have HS : Hid (∀ U, Below V.heap.size V U → (U.cell? ⟨w2.heap.size, 0, none⟩ = some (.int .i64 rk) ∧ U.cell? ⟨w2.heap.size, 1, none⟩ = some (.slice ax 2 cx) ∧ U.cell? ⟨w2.heap.size, 2, none⟩ = some (.slice ay 3 cy) ∧ U.cell? ⟨b0, o0, none⟩ = some (.int .i64 x0) ∧ U.cell? ⟨b1, o1, none⟩ = some (.int .i64 x1) ∧ U.cell? ⟨b2, o2, none⟩ = some (.slice y0 l0 z0) ∧ U.cell? ⟨b3, o3, none⟩ = some (.slice y1 l1 z1) ∧ U.cell? ⟨b4, o4, none⟩ = some (.slice y2 l2 z2) ∧ (convert 25 9 (.slice y0 l0 z0)).run Tryz.prog U = .ok (.string p) U ∧ (convert 25 9 (.slice y1 l1 z1)).run Tryz.prog U = .ok (.string t) U)) := fun U hU => by (
 have hcl : ∀ {z : Addr} {u : Value}, V.cell? z = some u → U.cell? z = some u := fun {z u} hz => by rw [hU.cell (cell_lt hz)]; exact hz
 have h1 := HV.out.2.2.1.below hU HV.out.2.2.1.lt
 refine ⟨h1.cell 0 rfl, h1.cell 1 rfl, h1.cell 2 rfl, hcl c0, hcl c1, hcl k0, hcl k1, hcl k2, ?_, ?_⟩
 · rw [HA.out.2.2.2.2.1]; exact F.conv_any (HA.out.1.below hU)
 · rw [HA.out.2.2.2.2.2.1]; exact F.conv_any (HA.out.2.1.below hU))
 clear hl0 hl1' hl2' hp ht0 hi ht hk i0 i1 ar0 ar1 ar2 c0 c1 k0 k1 k2
 go_upto_region 6 with fail
 clear g0 g1 g2
 obtain ⟨X0, hX0⟩ := exa (V.drew)
 have hbX : Below V.heap.size V X0 := by rw [hX0]; exact (Below.refl _ V).drew
 refine AnyBut.begin (fun U => U.cell? ⟨w2.heap.size, 0, none⟩ = some (.int .i64 rk) ∧ U.cell? ⟨w2.heap.size, 1, none⟩ = some (.slice ax 2 cx) ∧ U.cell? ⟨w2.heap.size, 2, none⟩ = some (.slice ay 3 cy) ∧ U.cell? ⟨b0, o0, none⟩ = some (.int .i64 x0) ∧ U.cell? ⟨b1, o1, none⟩ = some (.int .i64 x1) ∧ U.cell? ⟨b2, o2, none⟩ = some (.slice y0 l0 z0) ∧ U.cell? ⟨b3, o3, none⟩ = some (.slice y1 l1 z1) ∧ U.cell? ⟨b4, o4, none⟩ = some (.slice y2 l2 z2) ∧ (convert 25 9 (.slice y0 l0 z0)).run Tryz.prog U = .ok (.string p) U ∧ (convert 25 9 (.slice y1 l1 z1)).run Tryz.prog U = .ok (.string t) U) 1000 (by kernel_rfl) ?_
 rw [← hX0]
 clear hX0
 have hSS := HS.out X0 hbX
 refine tx 0 30 hSS ?_; simp only [ua,ub,uc,ud]
 refine tx 1 31 hSS ?_; simp only [ua,ub,uc,ud]
 refine tx 2 32 hSS ?_; simp only [ua,ub,uc,ud]
 refine tx 3 33 hSS ?_; simp only [ua,ub,uc,ud]
 refine tx 4 34 hSS ?_; simp only [ua,ub,uc,ud]
 refine tx 5 35 hSS ?_; simp only [ua,ub,uc,ud]
 refine tx 6 36 hSS ?_; simp only [ua,ub,uc,ud]
 refine tx 7 37 hSS ?_; simp only [ua,ub,uc,ud]
 refine tx 8 38 hSS ?_; simp only [ua,ub,uc,ud]
 refine tx 9 39 hSS ?_; simp only [ua,ub,uc,ud]
 refine tx 10 40 hSS ?_; simp only [ua,ub,uc,ud]
 refine tx 11 41 hSS ?_; simp only [ua,ub,uc,ud]
 refine tx 12 42 hSS ?_; simp only [ua,ub,uc,ud]
 refine tx 13 43 hSS ?_; simp only [ua,ub,uc,ud]
 refine tx 14 44 hSS ?_; simp only [ua,ub,uc,ud]
 refine tx 15 45 hSS ?_; simp only [ua,ub,uc,ud]
 refine tx 16 46 hSS ?_; simp only [ua,ub,uc,ud]
 refine tx 17 47 hSS ?_; simp only [ua,ub,uc,ud]
 refine tx 18 48 hSS ?_; simp only [ua,ub,uc,ud]
 refine tx 19 49 hSS ?_; simp only [ua,ub,uc,ud]
 refine tx 20 50 hSS ?_; simp only [ua,ub,uc,ud]
 refine tx 21 51 hSS ?_; simp only [ua,ub,uc,ud]
 refine tx 22 52 hSS ?_; simp only [ua,ub,uc,ud]
 refine tx 23 53 hSS ?_; simp only [ua,ub,uc,ud]
 refine tx 24 54 hSS ?_; simp only [ua,ub,uc,ud]
 refine AnyBut.step (i := 25) (by kernel_rfl) rfl (fun K hK => ?_)
 go_simp
 obtain ⟨X1, hX1⟩ := exa (X0.alloc (.cells #[.int .i64 0, .string ⟨#[]⟩, .string ⟨#[]⟩, .int .i64 0, .int .i64 0, .slice none 0 0] 56))
 have hb9 : Below X0.heap.size X0 X1 := by rw [hX1]; exact (Below.refl _ _).alloc (Nat.le_refl _) _
 have hB9 : Box X1 X0.heap.size 56 #[.int .i64 0, .string ⟨#[]⟩, .string ⟨#[]⟩, .int .i64 0, .int .i64 0, .slice none 0 0] := by rw [hX1]; exact Box.new _ _ _
 rw [← hX1]
 clear hX1
 have hbX1 := below_any hbX hb9
 refine hK.out _ _ (HS.out X1 hbX1) ?_
 clear hK hSS
 obtain ⟨⟨d0, d1, d2, d3, d4, d5⟩, e0, e1, e2, e3, e4, e5⟩ := box6 hB9
 refine AnyBut.step (i := 26) (by kernel_rfl) rfl (fun K hK => ?_)
 go_simp
 have hbX2 := below_set6 hbX1 hbX.size (.int .i64 rk) (.string p) (.string t) (.int .i64 x0) (.int .i64 x1) (.slice y2 l2 z2)
 have hB10 := box_set6 hB9 (.int .i64 rk) (.string p) (.string t) (.int .i64 x0) (.int .i64 x1) (.slice y2 l2 z2)
 obtain ⟨X2, hX2⟩ := exa (((((((X1.setCell ⟨X0.heap.size, 0, none⟩ (.int .i64 rk)).setCell ⟨X0.heap.size, 1, none⟩ (.string p)).setCell ⟨X0.heap.size, 2, none⟩ (.string t)).setCell ⟨X0.heap.size, 3, none⟩ (.int .i64 x0)).setCell ⟨X0.heap.size, 4, none⟩ (.int .i64 x1)).setCell ⟨X0.heap.size, 5, none⟩ (.slice y2 l2 z2)))
 rw [← hX2] at hbX2 hB10 ⊢
 refine hK.out _ _ (HS.out X2 hbX2) ?_
 clear hK hX2 d0 d1 d2 d3 d4 d5 e0 e1 e2 e3 e4 e5
 refine AnyBut.done (by kernel_rfl) ?_
 have HX : Hid (Below V.heap.size V X2 ∧ Box X2 X0.heap.size 56 #[.int .i64 rk, .string p, .string t, .int .i64 x0, .int .i64 x1, .slice y2 l2 z2] ∧ w.heap.size < X0.heap.size) := ⟨hbX2, hB10, Nat.lt_of_lt_of_le (Nat.lt_of_lt_of_le HB.out.2.lt HV.out.1.size) hbX.size⟩
 clear hb9 hB9 hbX1 hbX2 hB10 HS ix0 ix1 iy0 iy1 iy2 hl1 hl2 hbX
 have hpz : p.size ≤ maxLen := by rw [HA.out.2.2.2.2.1, str_size, ← HA.out.2.2.2.2.2.2.2.2.2.1]; exact (HA.out.1.shape).elim fun _ h => h.elim fun _ h => by have h3 := h.2.2.1; rw [← HA.out.2.2.2.2.2.2.2.2.2.1] at h3; exact h3
 have htz : t.size ≤ maxLen := by rw [HA.out.2.2.2.2.2.1, str_size, ← HA.out.2.2.2.2.2.2.2.2.2.2]; exact (HA.out.2.1.shape).elim fun _ h => h.elim fun _ h => by have h3 := h.2.2.1; rw [← HA.out.2.2.2.2.2.2.2.2.2.2] at h3; exact h3
 have HC := rcheck_any rk x0 x1 p t hpz htz y2 l2 z2 X2
 obtain ⟨oe, hoe⟩ := exa (opE rk p t l2)
 have HOE : Hid (dopE b = oe) := by (
 show _ = _
 rw [HDE.out.1, if_neg (by simp), if_neg (by simp), hoe, HA.out.2.2.2.2.1, HA.out.2.2.2.2.2.1, HA.out.2.2.2.1]
 rfl)
 rw [← hoe] at HC
 clear hoe hpz htz
 obtain ⟨⟨d0, d1, d2, d3, d4, d5⟩, -⟩ := box6 HX.out.2.1
 go_wp2_with fail
 clear d0 d1 d2 d3 d4 d5
 refine HC.mono ?_
 rintro e w8 ⟨rfl, hb8⟩
 have H8 : Hid (Below V.heap.size V w8 ∧ Box w8 X0.heap.size 56 #[.int .i64 rk, .string p, .string t, .int .i64 x0, .int .i64 x1, .slice y2 l2 z2] ∧ Below w.heap.size w w8 ∧ Box w8 w.heap.size 56 #[.int .i64 0, .string ⟨#[]⟩, .string ⟨#[]⟩, .int .i64 0, .int .i64 0, .slice none 0 0]) := ⟨below_any HX.out.1 hb8, HX.out.2.1.below hb8 HX.out.2.1.lt, HV.out.2.1.trans ((below_any HX.out.1 hb8).mono HV.out.2.1.size), (HB.out.2.below HV.out.1 HB.out.2.lt).below (below_any HX.out.1 hb8) (Nat.lt_of_lt_of_le HB.out.2.lt HV.out.1.size)⟩
 clear HC hb8
 obtain ⟨⟨d0, d1, d2, d3, d4, d5⟩, e0, e1, e2, e3, e4, e5⟩ := box6 H8.out.2.2.2
 by_cases hz : oe = 0
 · subst hz
   have HP : Hid (∀ u0 u1 u2 u3 u4 u5 U, U = .tuple #[.agg #[.int .i64 rk, .string p, .string t, .int .i64 x0, .int .i64 x1, .slice y2 l2 z2], .int .i64 0] → post (.returned U) ((((((w8.setCell ⟨w.heap.size, 0, none⟩ u0).setCell ⟨w.heap.size, 1, none⟩ u1).setCell ⟨w.heap.size, 2, none⟩ u2).setCell ⟨w.heap.size, 3, none⟩ u3).setCell ⟨w.heap.size, 4, none⟩ u4).setCell ⟨w.heap.size, 5, none⟩ u5)) := fun u0 u1 u2 u3 u4 u5 Z hZ => by (
 rw [hZ]
 refine HPo.out _ _ _ HOE.out.symm ?_ (below_set6 H8.out.2.2.1 (Nat.le_refl _) _ _ _ _ _ _)
 rw [HDE.out.2, if_pos HOE.out]
 have ha : Arg w.heap.size ((((((w8.setCell ⟨w.heap.size, 0, none⟩ u0).setCell ⟨w.heap.size, 1, none⟩ u1).setCell ⟨w.heap.size, 2, none⟩ u2).setCell ⟨w.heap.size, 3, none⟩ u3).setCell ⟨w.heap.size, 4, none⟩ u4).setCell ⟨w.heap.size, 5, none⟩ u5) (.slice y2 l2 z2) t2 := Arg.weaken (Arg.keep (HA.out.2.2.1.below H8.out.1) (same_set6 HB.out.2.lt)) HB.out.1.size
 rw [HA.out.2.2.2.1] at ha ⊢
 rw [HA.out.2.2.2.2.1, HA.out.2.2.2.2.2.1]
 exact ⟨y2, z2, rfl, ha⟩)
   obtain ⟨⟨q0, q1, q2, q3, q4, q5⟩, -⟩ := box6 H8.out.2.1
   go_wp2
   refine bodyPost_ret (v := .tuple #[.agg #[.int .i64 rk, .string p, .string t, .int .i64 x0, .int .i64 x1, .slice y2 l2 z2], .int .i64 0]) (by simp [results, Tryz.results26, go_sem, *]) rfl (HP.out _ _ _ _ _ _ _ rfl)
 · have HP : Hid (∀ u0 u1 u2 u3 u4 u5 U, U = .tuple #[.agg #[.int .i64 0, .string ⟨#[]⟩, .string ⟨#[]⟩, .int .i64 0, .int .i64 0, .slice none 0 0], .int .i64 oe] → post (.returned U) ((((((w8.setCell ⟨w.heap.size, 0, none⟩ u0).setCell ⟨w.heap.size, 1, none⟩ u1).setCell ⟨w.heap.size, 2, none⟩ u2).setCell ⟨w.heap.size, 3, none⟩ u3).setCell ⟨w.heap.size, 4, none⟩ u4).setCell ⟨w.heap.size, 5, none⟩ u5)) := fun u0 u1 u2 u3 u4 u5 Z hZ => by
     rw [hZ]
     refine HPo.out _ _ _ HOE.out.symm ?_ (below_set6 H8.out.2.2.1 (Nat.le_refl _) _ _ _ _ _ _)
     rw [HDE.out.2, if_neg (by rw [HOE.out]; exact hz)]
     exact opl_zero _ _
   go_wp2
   refine bodyPost_ret (v := .tuple #[.agg #[.int .i64 0, .string ⟨#[]⟩, .string ⟨#[]⟩, .int .i64 0, .int .i64 0, .slice none 0 0], .int .i64 oe]) (by simp [results, Tryz.results26, go_sem, *]) rfl (HP.out _ _ _ _ _ _ _ rfl)
end Go.Proofs.YtopcefhncildnaaGreatDoor.K
namespace Go.Proofs.YtopcefhncildnaaGreatDoor.opsTells
open Go.RowKit K
open P (serr sval ArgT OwnT)
set_option linter.unusedVariables false
theorem same_t {n1 n2 : Nat} {v1 v2 : Value} {l : List Int} {w : World} (h1 : Arg n1 w v1 l) (h2 : Arg n2 w v2 l) : Calls Tryz.prog 27 #[v1, v2] w fun e w' => e = .returned (.bool true) ∧ Below w.heap.size w w' := by
 refine (F.same_any n1 n2 v1 v2 l l w h1 h2).mono fun e w' h => ?_
 obtain ⟨h3, q, rfl⟩ := h
 exact ⟨by rw [h3]; simp, below_drewN (Below.refl _ _) q⟩
theorem fits_op {q : Opd} (h : opS.fits q) : q.2.2.2.2.2.length ≤ 140737488351232 := by
 obtain ⟨_, _, _, _, _, h6⟩ := h
 have b5 : Tryz.prog.bytesOf 5 = 1 := by kernel_rfl
 have h5 : q.2.2.2.2.2.length * Tryz.prog.bytesOf 5 ≤ 140737488351232 := h6
 rwa [b5, Nat.mul_one] at h5
theorem fits_by {l : List Int} (h : bytesS.fits l) : l.length ≤ 140737488351232 := by
 have b5 : Tryz.prog.bytesOf 5 = 1 := by kernel_rfl
 have h5 : l.length * Tryz.prog.bytesOf 5 ≤ 140737488351232 := h
 rwa [b5, Nat.mul_one] at h5
theorem walk (uo : List Value) (q : Opd) (xa : Option Addr) (xn xc : Nat) (b : List Int) (w : World) (hO : opS.lies 0 w uo q) (hqf : q.2.2.2.2.2.length ≤ 140737488351232) (hX : bytesS.lies 0 w [.slice xa xn xc] b) (hbf : b.length ≤ 140737488351232) (hg : Glob w) :
   Calls Tryz.prog 5 #[.agg uo.toArray, .slice xa xn xc] w fun e w' => e = .returned (.bool true) ∧ Below w.heap.size w w' := by
 obtain ⟨da, dc, rfl, hD, hki, hp, ht, ho, hmI⟩ := op_view hO
 obtain ⟨k, p, t, off, m, d⟩ := q
 simp only at hD hki hp ht ho hmI hqf ⊢
 have hXA : Arg 0 w (.slice xa xn xc) b := hX
 obtain ⟨dl, hdl⟩ := exa (d.length)
 rw [← hdl] at hD ⊢
 have H0 : Hid (p.size ≤ maxLen ∧ t.size ≤ maxLen ∧ I64 off ∧ I64 m ∧ dl = d.length ∧ d.length ≤ 140737488351232 ∧ b.length ≤ 140737488351232 ∧ ∀ V, Below w.heap.size w V → Glob V ∧ Arg 0 V (.slice da dl dc) d ∧ Arg 0 V (.slice xa xn xc) b) := ⟨hp, ht, ho, hmI, hdl, hqf, hbf, fun V hV => ⟨hg.below hV hg.lt, hD.below hV, hXA.below hV⟩⟩
 obtain ⟨V0, hV0⟩ := exa (w.alloc (.cells #[.int .i64 k, .string p, .string t, .int .i64 off, .int .i64 m, .slice da dl dc] 56))
 have HB0 : Hid (Below w.heap.size w V0 ∧ Box V0 w.heap.size 56 #[.int .i64 k, .string p, .string t, .int .i64 off, .int .i64 m, .slice da dl dc]) := ⟨by rw [hV0]; exact (Below.refl _ w).alloc (Nat.le_refl _) _, by rw [hV0]; exact Box.new _ _ _⟩
 clear hO hD hki hp ht ho hmI hqf hX hXA hbf hg hdl
 have HC1 := own_any (k := k) (off := off) (m := m) (p := p) (t := t) H0.out.2.2.2.2.1 (by have := H0.out.2.2.2.2.2.1; omega) (H0.out.2.2.2.2.2.2.2 V0 HB0.out.1).2.1
 obtain ⟨⟨d0, d1, d2, d3, d4, d5⟩, -⟩ := box6 HB0.out.2
 rw [hV0] at d0 d1 d2 d3 d4 d5
 go_enter Tryz.func5, Tryz.ntmps5
 go_wp2_with fail
 rw [← hV0]
 clear hV0 d0 d1 d2 d3 d4 d5
 refine HC1.mono ?_
 rintro e w1 ⟨⟨a5, c5, rfl, ho1⟩, hb1⟩
 have H1 : Hid (Below w.heap.size w w1 ∧ Below V0.heap.size V0 w1 ∧ Arg 0 w1 (.slice a5 dl c5) d) := ⟨below_any HB0.out.1 hb1, hb1, (ho1.arg).weaken (Nat.zero_le _)⟩
 clear HC1 ho1 hb1
 have HC2 := F.copy_any 0 (.slice xa xn xc) b w1 (H0.out.2.2.2.2.2.2.2 w1 H1.out.1).2.2 (by have := H0.out.2.2.2.2.2.2.1; omega)
 go_wp2_with fail
 refine HC2.mono ?_
 rintro e w2 ⟨⟨v6, rfl, ho2⟩, hb2⟩
 obtain ⟨V2, hV2⟩ := exa (w2.alloc (.cells #[.int .i64 k, .string p, .string t, .int .i64 off, .int .i64 m, .slice a5 dl c5] 56))
 have hbV : Below w2.heap.size w2 V2 := by rw [hV2]; exact (Below.refl _ w2).alloc (Nat.le_refl _) _
 have H2 : Hid (Below w.heap.size w V2 ∧ Below V0.heap.size V0 V2 ∧ Arg 0 V2 (.slice a5 dl c5) d ∧ Arg 0 V2 v6 b ∧ Box V2 w2.heap.size 56 #[.int .i64 k, .string p, .string t, .int .i64 off, .int .i64 m, .slice a5 dl c5]) := ⟨below_any (below_any H1.out.1 hb2) hbV, below_any (below_any H1.out.2.1 hb2) hbV, (H1.out.2.2.below hb2).below hbV, ((ho2.arg).weaken (Nat.zero_le _)).below hbV, by rw [hV2]; exact Box.new _ _ _⟩
 clear HC2 ho2 hb2 hbV
 have HC3 := K.enc_any (k := k) H0.out.1 H0.out.2.1 H0.out.2.2.1 H0.out.2.2.2.1 H0.out.2.2.2.2.1 H2.out.2.2.1
 obtain ⟨⟨d0, d1, d2, d3, d4, d5⟩, -⟩ := box6 H2.out.2.2.2.2
 rw [hV2] at d0 d1 d2 d3 d4 d5
 go_wp2_with fail
 rw [← hV2]
 clear hV2 d0 d1 d2 d3 d4 d5
 refine HC3.mono ?_
 rintro e w3 ⟨⟨a7, c7, rfl, ho3⟩, hb3⟩
 obtain ⟨O, hO⟩ := exa (opO k off m p t d)
 obtain ⟨oe, hoe⟩ := exa (opE k p t d.length)
 rw [← hO] at ho3 ⊢
 rw [← hoe]
 obtain ⟨ol, hol⟩ := exa (O.length)
 rw [← hol] at ho3 ⊢
 have H3 : Hid (Below w.heap.size w w3 ∧ Below V0.heap.size V0 w3 ∧ Below V2.heap.size V2 w3 ∧ Arg 0 w3 (.slice a7 ol c7) O) := ⟨below_any H2.out.1 hb3, below_any H2.out.2.1 hb3, hb3, (arg_w ho3.arg).weaken (Nat.zero_le _)⟩
 have HO : Hid (O = opO k off m p t d ∧ oe = opE k p t d.length ∧ ol = O.length) := ⟨hO, hoe, hol⟩
 clear HC3 ho3 hb3 hO hoe hol
 have HC4 := K.renc_any (k := k) H0.out.1 H0.out.2.1 H0.out.2.2.1 H0.out.2.2.2.1 H0.out.2.2.2.2.1 (H0.out.2.2.2.2.2.2.2 w3 H3.out.1).2.1
 rw [← HO.out.1, ← HO.out.2.1, ← HO.out.2.2] at HC4
 obtain ⟨⟨d0, d1, d2, d3, d4, d5⟩, -⟩ := box6 (HB0.out.2.below H3.out.2.1 HB0.out.2.lt)
 go_wp2_with fail
 clear d0 d1 d2 d3 d4 d5
 refine HC4.mono ?_
 rintro e w4 ⟨⟨a9, c9, rfl, ho4⟩, hb4⟩
 have H4 : Hid (Below w.heap.size w w4 ∧ Below V0.heap.size V0 w4 ∧ Below V2.heap.size V2 w4 ∧ Arg 0 w4 (.slice a7 ol c7) O ∧ Arg 0 w4 (.slice a9 ol c9) O) := ⟨below_any H3.out.1 hb4, below_any H3.out.2.1 hb4, below_any H3.out.2.2.1 hb4, H3.out.2.2.2.below hb4, (arg_w ho4.arg).weaken (Nat.zero_le _)⟩
 clear HC4 ho4 hb4 H3
 have HC5 := K.dec_any 0 v6 b w4 (H2.out.2.2.2.1.below H4.out.2.2.1) H0.out.2.2.2.2.2.2.1 (H0.out.2.2.2.2.2.2.2 w4 H4.out.1).1
 obtain ⟨⟨k4, p4, t4, o4, m4, d4⟩, hq4⟩ : ∃ q, q = dopV b := ⟨_, rfl⟩
 obtain ⟨e4, he4⟩ := exa (dopE b)
 have HQ4 : Hid ((k4, p4, t4, o4, m4, d4) = dopV b ∧ e4 = dopE b) := ⟨hq4, he4⟩
 rw [← hq4, ← he4] at HC5
 clear hq4 he4
 obtain ⟨l4, hl4⟩ := exa (d4.length)
 have HL4 : Hid (l4 = d4.length) := hl4
 clear hl4
 go_wp2_with fail
 refine HC5.mono ?_
 rintro e w5 ⟨⟨u5, rfl, a11, c11, rfl, ho5⟩, hb5⟩
 simp only at ho5 ⊢
 rw [← HL4.out] at ho5 ⊢
 obtain ⟨V5, hV5⟩ := exa (w5.alloc (.cells #[.int .i64 k4, .string p4, .string t4, .int .i64 o4, .int .i64 m4, .slice a11 l4 c11] 56))
 have hbV : Below w5.heap.size w5 V5 := by rw [hV5]; exact (Below.refl _ w5).alloc (Nat.le_refl _) _
 have H5 : Hid (Below w4.heap.size w4 V5 ∧ Arg 0 V5 (.slice a11 l4 c11) d4 ∧ Box V5 w5.heap.size 56 #[.int .i64 k4, .string p4, .string t4, .int .i64 o4, .int .i64 m4, .slice a11 l4 c11]) := ⟨below_any hb5 hbV, (ho5.weaken (Nat.zero_le _)).below hbV, by rw [hV5]; exact Box.new _ _ _⟩
 clear HC5 ho5 hb5 hbV
 have HC6 := K.rdec_any 0 (.slice xa xn xc) b V5 (H0.out.2.2.2.2.2.2.2 V5 (below_any H4.out.1 H5.out.1)).2.2 H0.out.2.2.2.2.2.2.1
 rw [← HQ4.out.1, ← HQ4.out.2] at HC6
 go_wp2_with fail
 rw [← hV5]
 clear hV5
 refine HC6.mono ?_
 rintro e w6 ⟨⟨u6, rfl, a13, c13, rfl, ho6⟩, hb6⟩
 simp only at ho6 ⊢
 rw [← HL4.out] at ho6 ⊢
 obtain ⟨X, hX⟩ := exa (w6.alloc (.cells #[.int .i64 k4, .string p4, .string t4, .int .i64 o4, .int .i64 m4, .slice a13 l4 c13] 56))
 have hbV : Below w6.heap.size w6 X := by rw [hX]; exact (Below.refl _ w6).alloc (Nat.le_refl _) _
 have hX13 : Box X w6.heap.size 56 #[.int .i64 k4, .string p4, .string t4, .int .i64 o4, .int .i64 m4, .slice a13 l4 c13] := by rw [hX]; exact Box.new _ _ _
 have b5X : Below V5.heap.size V5 X := below_any hb6 hbV
 have b4X : Below w4.heap.size w4 X := below_any H5.out.1 b5X
 have HX : Hid (Below w.heap.size w X ∧ Arg 0 X (.slice a7 ol c7) O ∧ Arg 0 X (.slice a9 ol c9) O ∧ Arg 0 X (.slice a11 l4 c11) d4 ∧ Arg 0 X (.slice a13 l4 c13) d4 ∧ Arg 0 X (.slice a5 dl c5) d ∧ Arg 0 X v6 b ∧ Box X w5.heap.size 56 #[.int .i64 k4, .string p4, .string t4, .int .i64 o4, .int .i64 m4, .slice a11 l4 c11] ∧ Box X w6.heap.size 56 #[.int .i64 k4, .string p4, .string t4, .int .i64 o4, .int .i64 m4, .slice a13 l4 c13] ∧ Box X w2.heap.size 56 #[.int .i64 k, .string p, .string t, .int .i64 off, .int .i64 m, .slice a5 dl c5] ∧ Box X w.heap.size 56 #[.int .i64 k, .string p, .string t, .int .i64 off, .int .i64 m, .slice da dl dc]) :=
   ⟨below_any H4.out.1 b4X, H4.out.2.2.2.1.below b4X, H4.out.2.2.2.2.below b4X, H5.out.2.1.below b5X, (ho6.weaken (Nat.zero_le _)).below hbV, H2.out.2.2.1.below (below_any H4.out.2.2.1 b4X), H2.out.2.2.2.1.below (below_any H4.out.2.2.1 b4X), H5.out.2.2.below b5X H5.out.2.2.lt, hX13, H2.out.2.2.2.2.below (below_any H4.out.2.2.1 b4X) H2.out.2.2.2.2.lt, HB0.out.2.below (below_any H4.out.2.1 b4X) HB0.out.2.lt⟩
 clear HC6 ho6 hb6 hbV hX13 b5X b4X H1 H2 H4 H5 HB0
 go_upto_region 6 with fail
 rw [← hX]
 clear hX
 have HS : Hid (∀ V, Below X.heap.size X V → (V.cell? ⟨w5.heap.size, 0, none⟩ = some (.int .i64 k4) ∧ V.cell? ⟨w5.heap.size, 1, none⟩ = some (.string p4) ∧ V.cell? ⟨w5.heap.size, 2, none⟩ = some (.string t4) ∧ V.cell? ⟨w5.heap.size, 3, none⟩ = some (.int .i64 o4) ∧ V.cell? ⟨w5.heap.size, 4, none⟩ = some (.int .i64 m4) ∧ V.cell? ⟨w5.heap.size, 5, none⟩ = some (.slice a11 l4 c11) ∧ V.cell? ⟨w6.heap.size, 0, none⟩ = some (.int .i64 k4) ∧ V.cell? ⟨w6.heap.size, 1, none⟩ = some (.string p4) ∧ V.cell? ⟨w6.heap.size, 2, none⟩ = some (.string t4) ∧ V.cell? ⟨w6.heap.size, 3, none⟩ = some (.int .i64 o4) ∧ V.cell? ⟨w6.heap.size, 4, none⟩ = some (.int .i64 m4) ∧ V.cell? ⟨w6.heap.size, 5, none⟩ = some (.slice a13 l4 c13) ∧ V.cell? ⟨w2.heap.size, 0, none⟩ = some (.int .i64 k) ∧ V.cell? ⟨w2.heap.size, 1, none⟩ = some (.string p) ∧ V.cell? ⟨w2.heap.size, 2, none⟩ = some (.string t) ∧ V.cell? ⟨w2.heap.size, 3, none⟩ = some (.int .i64 off) ∧ V.cell? ⟨w2.heap.size, 4, none⟩ = some (.int .i64 m) ∧ V.cell? ⟨w2.heap.size, 5, none⟩ = some (.slice a5 dl c5) ∧ V.cell? ⟨w.heap.size, 0, none⟩ = some (.int .i64 k) ∧ V.cell? ⟨w.heap.size, 1, none⟩ = some (.string p) ∧ V.cell? ⟨w.heap.size, 2, none⟩ = some (.string t) ∧ V.cell? ⟨w.heap.size, 3, none⟩ = some (.int .i64 off) ∧ V.cell? ⟨w.heap.size, 4, none⟩ = some (.int .i64 m) ∧ V.cell? ⟨w.heap.size, 5, none⟩ = some (.slice da dl dc))) := fun V hV => by (
 have h1 := HX.out.2.2.2.2.2.2.2.1.below hV HX.out.2.2.2.2.2.2.2.1.lt
 have h2 := HX.out.2.2.2.2.2.2.2.2.1.below hV HX.out.2.2.2.2.2.2.2.2.1.lt
 have h3 := HX.out.2.2.2.2.2.2.2.2.2.1.below hV HX.out.2.2.2.2.2.2.2.2.2.1.lt
 have h4 := HX.out.2.2.2.2.2.2.2.2.2.2.below hV HX.out.2.2.2.2.2.2.2.2.2.2.lt
 exact ⟨h1.cell 0 rfl, h1.cell 1 rfl, h1.cell 2 rfl, h1.cell 3 rfl, h1.cell 4 rfl, h1.cell 5 rfl, h2.cell 0 rfl, h2.cell 1 rfl, h2.cell 2 rfl, h2.cell 3 rfl, h2.cell 4 rfl, h2.cell 5 rfl, h3.cell 0 rfl, h3.cell 1 rfl, h3.cell 2 rfl, h3.cell 3 rfl, h3.cell 4 rfl, h3.cell 5 rfl, h4.cell 0 rfl, h4.cell 1 rfl, h4.cell 2 rfl, h4.cell 3 rfl, h4.cell 4 rfl, h4.cell 5 rfl⟩)
 have HK1 : Hid (∀ V, Below X.heap.size X V → Calls Tryz.prog 27 #[.slice a7 ol c7, .slice a9 ol c9] V fun e w' => e = .returned (.bool true) ∧ Below V.heap.size V w') := fun V hV => same_t (HX.out.2.1.below hV) (HX.out.2.2.1.below hV)
 have HK2 : Hid (∀ V, Below X.heap.size X V → Calls Tryz.prog 28 #[.agg #[.int .i64 k4, .string p4, .string t4, .int .i64 o4, .int .i64 m4, .slice a11 l4 c11], .agg #[.int .i64 k4, .string p4, .string t4, .int .i64 o4, .int .i64 m4, .slice a13 l4 c13]] V fun e w' => e = .returned (.bool true) ∧ Below V.heap.size V w') := fun V hV => sameop_any (HX.out.2.2.2.1.below hV) (HX.out.2.2.2.2.1.below hV)
 have HK3 : Hid (∀ V, Below X.heap.size X V → Calls Tryz.prog 29 #[.agg #[.int .i64 k, .string p, .string t, .int .i64 off, .int .i64 m, .slice a5 dl c5]] V fun e w' => e = .returned (.int .i64 oe) ∧ Below V.heap.size V w') := fun V hV => by rw [HO.out.2.1, ← H0.out.2.2.2.2.1]; exact K.check_any k off m p t H0.out.1 H0.out.2.1 a5 dl c5 V
 have HK4 : Hid (∀ V, Below X.heap.size X V → Calls Tryz.prog 30 #[.agg #[.int .i64 k, .string p, .string t, .int .i64 off, .int .i64 m, .slice da dl dc]] V fun e w' => e = .returned (.int .i64 oe) ∧ Below V.heap.size V w') := fun V hV => by rw [HO.out.2.1, ← H0.out.2.2.2.2.1]; exact K.rcheck_any k off m p t H0.out.1 H0.out.2.1 da dl dc V
 have HK5 : Hid (∀ V, Below X.heap.size X V → Calls Tryz.prog 28 #[.agg #[.int .i64 k, .string p, .string t, .int .i64 off, .int .i64 m, .slice a5 dl c5], .agg #[.int .i64 k, .string p, .string t, .int .i64 off, .int .i64 m, .slice da dl dc]] V fun e w' => e = .returned (.bool true) ∧ Below V.heap.size V w') := fun V hV => sameop_any (HX.out.2.2.2.2.2.1.below hV) (H0.out.2.2.2.2.2.2.2 V (below_any HX.out.1 hV)).2.1
 have HK6 : Hid (∀ V, Below X.heap.size X V → Calls Tryz.prog 27 #[v6, .slice xa xn xc] V fun e w' => e = .returned (.bool true) ∧ Below V.heap.size V w') := fun V hV => same_t (HX.out.2.2.2.2.2.2.1.below hV) (H0.out.2.2.2.2.2.2.2 V (below_any HX.out.1 hV)).2.2
 have HK7 : Hid (∀ V, Below X.heap.size X V → Calls Tryz.prog 19 #[] V fun e w' => e = .returned (.bool true) ∧ Below V.heap.size V w') := fun V hV => K.alive_any V (H0.out.2.2.2.2.2.2.2 V (below_any HX.out.1 hV)).1
 have HS0 := HS.out X.drew (Below.refl _ X).drew
 have hbx0 : Below X.heap.size X X.drew := (Below.refl _ X).drew
 go_region_held3 (fun V => V.cell? ⟨w5.heap.size, 0, none⟩ = some (.int .i64 k4) ∧ V.cell? ⟨w5.heap.size, 1, none⟩ = some (.string p4) ∧ V.cell? ⟨w5.heap.size, 2, none⟩ = some (.string t4) ∧ V.cell? ⟨w5.heap.size, 3, none⟩ = some (.int .i64 o4) ∧ V.cell? ⟨w5.heap.size, 4, none⟩ = some (.int .i64 m4) ∧ V.cell? ⟨w5.heap.size, 5, none⟩ = some (.slice a11 l4 c11) ∧ V.cell? ⟨w6.heap.size, 0, none⟩ = some (.int .i64 k4) ∧ V.cell? ⟨w6.heap.size, 1, none⟩ = some (.string p4) ∧ V.cell? ⟨w6.heap.size, 2, none⟩ = some (.string t4) ∧ V.cell? ⟨w6.heap.size, 3, none⟩ = some (.int .i64 o4) ∧ V.cell? ⟨w6.heap.size, 4, none⟩ = some (.int .i64 m4) ∧ V.cell? ⟨w6.heap.size, 5, none⟩ = some (.slice a13 l4 c13) ∧ V.cell? ⟨w2.heap.size, 0, none⟩ = some (.int .i64 k) ∧ V.cell? ⟨w2.heap.size, 1, none⟩ = some (.string p) ∧ V.cell? ⟨w2.heap.size, 2, none⟩ = some (.string t) ∧ V.cell? ⟨w2.heap.size, 3, none⟩ = some (.int .i64 off) ∧ V.cell? ⟨w2.heap.size, 4, none⟩ = some (.int .i64 m) ∧ V.cell? ⟨w2.heap.size, 5, none⟩ = some (.slice a5 dl c5) ∧ V.cell? ⟨w.heap.size, 0, none⟩ = some (.int .i64 k) ∧ V.cell? ⟨w.heap.size, 1, none⟩ = some (.string p) ∧ V.cell? ⟨w.heap.size, 2, none⟩ = some (.string t) ∧ V.cell? ⟨w.heap.size, 3, none⟩ = some (.int .i64 off) ∧ V.cell? ⟨w.heap.size, 4, none⟩ = some (.int .i64 m) ∧ V.cell? ⟨w.heap.size, 5, none⟩ = some (.slice da dl dc))
   (first | with_reducible exact HS7 | with_reducible exact HS6 | with_reducible exact HS5 | with_reducible exact HS4 | with_reducible exact HS3 | with_reducible exact HS2 | with_reducible exact HS1 | with_reducible exact HS0)
   ((first
     | (go_at_call 21; refine (num_any _ _).mono ?_; rintro e y9 ⟨rfl, rfl⟩)
     | (go_at_call 27; with_reducible refine Calls.mono (HK1.out _ hbx0) ?_; rintro e y1 ⟨rfl, hy1⟩; have hbx1 := below_any hbx0 hy1; have HS1 := HS.out y1 hbx1)
     | (go_at_call 28; with_reducible refine Calls.mono (HK2.out _ hbx1) ?_; rintro e y2 ⟨rfl, hy2⟩; have hbx2 := below_any hbx1 hy2; have HS2 := HS.out y2 hbx2)
     | (go_at_call 29; with_reducible refine Calls.mono (HK3.out _ hbx2) ?_; rintro e y3 ⟨rfl, hy3⟩; have hbx3 := below_any hbx2 hy3; have HS3 := HS.out y3 hbx3)
     | (go_at_call 30; with_reducible refine Calls.mono (HK4.out _ hbx3) ?_; rintro e y4 ⟨rfl, hy4⟩; have hbx4 := below_any hbx3 hy4; have HS4 := HS.out y4 hbx4)
     | (go_at_call 28; with_reducible refine Calls.mono (HK5.out _ hbx4) ?_; rintro e y5 ⟨rfl, hy5⟩; have hbx5 := below_any hbx4 hy5; have HS5 := HS.out y5 hbx5)
     | (go_at_call 27; with_reducible refine Calls.mono (HK6.out _ hbx5) ?_; rintro e y6 ⟨rfl, hy6⟩; have hbx6 := below_any hbx5 hy6; have HS6 := HS.out y6 hbx6)
     | (go_at_call 19; with_reducible refine Calls.mono (HK7.out _ hbx6) ?_; rintro e y7 ⟨rfl, hy7⟩; have hbx7 := below_any hbx6 hy7; have HS7 := HS.out y7 hbx7)))
 have HZ : Hid (Below w.heap.size w y7) := below_any HX.out.1 hbx7
 clear hy1 hy2 hy3 hy4 hy5 hy6 hy7 hbx0 hbx1 hbx2 hbx3 hbx4 hbx5 hbx6 hbx7
 go_wp2
 go_ret
 exact ⟨by simp, HZ.out⟩
end Go.Proofs.YtopcefhncildnaaGreatDoor.opsTells
