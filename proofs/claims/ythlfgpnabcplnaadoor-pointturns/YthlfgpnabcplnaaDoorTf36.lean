import Derived.Test.YthlfgpnabcplnaaDoorTf35
import Derived.Test.YthlfgpnabcplnaaDoorTf30
import Derived.Test.YthlfgpnabcplnaaDoorTf34
import Derived.Deep.RegionLaw
import Derived.Test.YthlfgpnabcplnaaDoorTf27
/-
  Octets read as a point's record: what point.read answers; whether an octet is not 0.
-/
namespace Go.Proofs.YthlfgpnabcplnaaDoor.W
open Go.RowKit
set_option linter.unusedVariables false

/-- The point that a record tells, if it may be one. -/
def rcP (r : Rc) : Pt := (r.2.1.getD 0 0, r.2.1.getD 1 0, r.2.1.getD 2 0, r.2.1.getD 3 0, r.2.2.getD 0 [])
def zP : Pt := (0, 0, 0, 0, [])
def rdpE (b : List Int) : Int := if decE b ≠ 0 then decE b else if (decV b).1 ≠ 7 then 22 else if (decV b).2.1.length ≠ 4 ∨ (decV b).2.2.length ≠ 1 then 3 else ptQ (rcP (decV b))
def rdpV (b : List Int) : Pt := if decE b = 0 ∧ (decV b).1 = 7 ∧ (decV b).2.1.length = 4 ∧ (decV b).2.2.length = 1 then rcP (decV b) else zP
/-- A point as an answer. -/
def PtL (n : Nat) (w : World) (v : Value) (q : Pt) : Prop := ∃ a c, v = .agg #[.int .i64 q.1, .int .i64 q.2.1, .int .i64 q.2.2.1, .int .i64 q.2.2.2.1, .slice a q.2.2.2.2.length c] ∧ Arg n w (.slice a q.2.2.2.2.length c) q.2.2.2.2
theorem ptl_zero (n : Nat) (w : World) : PtL n w (.agg #[.int .i64 0, .int .i64 0, .int .i64 0, .int .i64 0, .slice none 0 0]) zP := ⟨none, 0, rfl, (Own1.nil n w).arg⟩
theorem PtL.keep {n : Nat} {w w' : World} {v : Value} {q : Pt} (h : PtL n w v q) (hs : Same n w w') : PtL n w' v q := by
  obtain ⟨a, c, h1, h2⟩ := h
  exact ⟨a, c, h1, h2.keep hs⟩
theorem PtL.below {n : Nat} {w w' : World} {v : Value} {q : Pt} (h : PtL n w v q) (hb : Below w.heap.size w w') : PtL n w' v q := h.keep (.of_below hb)
theorem PtL.weaken {n n1 : Nat} {w : World} {v : Value} {q : Pt} (h : PtL n w v q) (hn : n1 ≤ n) : PtL n1 w v q := by
  obtain ⟨a, c, h1, h2⟩ := h
  exact ⟨a, c, h1, h2.weaken hn⟩
theorem four_of {α : Type} {l : List α} (h : l.length = 4) : ∃ a b c d, l = [a, b, c, d] := by
  rcases l with _ | ⟨a, _ | ⟨b, _ | ⟨c, _ | ⟨d, _ | ⟨e, r⟩⟩⟩⟩⟩
  · cases h
  · cases h
  · cases h
  · cases h
  · exact ⟨a, b, c, d, rfl⟩
  · simp at h
theorem one_of {α : Type} {l : List α} (h : l.length = 1) : ∃ a, l = [a] := by
  rcases l with _ | ⟨a, _ | ⟨b, r⟩⟩
  · cases h
  · exact ⟨a, rfl⟩
  · simp at h

set_option maxRecDepth 100000 in
set_option maxHeartbeats 8000000 in
theorem read_any (n0 : Nat) (v : Value) (b : List Int) (w : World) (h : Arg n0 w v b) (hs : b.length ≤ 140737488355328) (hg : Glob w) :
    Calls Tryd.prog 22 #[v] w fun r w' => (∃ u, r = .returned (.tuple #[u, .int .i64 (rdpE b)]) ∧ PtL w.heap.size w' u (rdpV b)) ∧ Below w.heap.size w w' := by
  obtain ⟨W1, hW1⟩ : ∃ W, W = w.alloc (.cells #[.int .i64 0, .int .i64 0, .int .i64 0, .int .i64 0, .slice none 0 0] 29) := ⟨_, rfl⟩
  have hb1 : Below w.heap.size w W1 := by rw [hW1]; exact (Below.refl _ w).alloc (Nat.le_refl _) _
  have hB1 : Box W1 w.heap.size 29 #[.int .i64 0, .int .i64 0, .int .i64 0, .int .i64 0, .slice none 0 0] := by rw [hW1]; exact Box.new _ _ _
  have HC := dec_any n0 v b W1 (h.below hb1) hs (hg.below hb1 hg.lt)
  have HB : Hid (Below w.heap.size w W1 ∧ Box W1 w.heap.size 29 #[.int .i64 0, .int .i64 0, .int .i64 0, .int .i64 0, .slice none 0 0]) := ⟨hb1, hB1⟩
  obtain ⟨post, hpost⟩ : ∃ post : Ending → World → Prop, post = fun r w' => (∃ u, r = .returned (.tuple #[u, .int .i64 (rdpE b)]) ∧ PtL w.heap.size w' u (rdpV b)) ∧ Below w.heap.size w w' := ⟨_, rfl⟩
  have HPo : Hid (∀ (k : Int) u w', k = rdpE b → PtL w.heap.size w' u (rdpV b) → Below w.heap.size w w' → post (.returned (.tuple #[u, .int .i64 k])) w') := fun k u w' h1 h2 h3 => by rw [hpost, h1]; exact ⟨⟨u, rfl, h2⟩, h3⟩
  rw [← hpost]
  clear hpost hb1 hB1 h hg
  go_enter Tryd.func22, Tryd.ntmps22
  go_wp2_with fail
  rw [← hW1]
  clear hW1
  refine HC.mono ?_
  rintro r w2 ⟨⟨us, rfl, ho⟩, hb2⟩
  obtain ⟨ax, cx, ay, cy, rfl⟩ := rec_oview ho
  obtain ⟨r, hr⟩ : ∃ r, r = decV b := ⟨_, rfl⟩
  obtain ⟨de, hde⟩ : ∃ r, r = decE b := ⟨_, rfl⟩
  have HDE : Hid (rdpE b = (if de ≠ 0 then de else if r.1 ≠ 7 then 22 else if r.2.1.length ≠ 4 ∨ r.2.2.length ≠ 1 then 3 else ptQ (rcP r)) ∧ rdpV b = (if de = 0 ∧ r.1 = 7 ∧ r.2.1.length = 4 ∧ r.2.2.length = 1 then rcP r else zP)) := by
    refine ⟨?_, ?_⟩
    · unfold rdpE; rw [hr, hde]
    · unfold rdpV; rw [hr, hde]
  rw [← hr] at ho ⊢
  rw [← hde]
  clear HC hr hde
  obtain ⟨rk, ns, ts⟩ := r
  simp only at ho ⊢
  obtain ⟨nl, hnl⟩ : ∃ z, z = ns.length := ⟨_, rfl⟩
  obtain ⟨tl, htl⟩ : ∃ z, z = ts.length := ⟨_, rfl⟩
  rw [← hnl, ← htl] at ho ⊢
  obtain ⟨xx, yy, heq, hoi, hot, hok⟩ := rec_own ho
  simp only [List.cons.injEq, and_true, true_and] at heq
  obtain ⟨rfl, rfl⟩ := heq
  simp only at hoi hot hok
  obtain ⟨V, hV⟩ : ∃ V, V = w2.alloc (.cells #[.int .i64 rk, .slice ax nl cx, .slice ay tl cy] 53) := ⟨_, rfl⟩
  have hbV : Below w2.heap.size w2 V := by rw [hV]; exact (Below.refl _ w2).alloc (Nat.le_refl _) _
  have hBV : Box V w2.heap.size 53 #[.int .i64 rk, .slice ax nl cx, .slice ay tl cy] := by rw [hV]; exact Box.new _ _ _
  have HV : Hid (Below W1.heap.size W1 V ∧ Below w.heap.size w V ∧ Box V w2.heap.size 53 #[.int .i64 rk, .slice ax nl cx, .slice ay tl cy] ∧ (intsS.owns W1.heap.size V [.slice ax nl cx] ns ∧ textsS.owns W1.heap.size V [.slice ay tl cy] ts ∧ I64 rk) ∧ nl = ns.length ∧ tl = ts.length) := ⟨below_any hb2 hbV, HB.out.1.trans ((below_any hb2 hbV).mono HB.out.1.size), hBV, ⟨intsS.obelow hoi hbV, textsS.obelow hot hbV, hok⟩, hnl, htl⟩
  clear ho hb2 hbV hBV hnl htl hoi hot hok
  have hl1 := run_len Tryd.underlying51 ax nl cx
  have hl2 := run_len Tryd.underlying37 ay tl cy
  go_upto_region 2 with fail
  rw [← hV]
  clear hV
  by_cases hd0 : de = 0
  rotate_left
  · skip
    have hk : (de : Int) = rdpE b := by rw [HDE.out.1, if_pos hd0]
    have hv : rdpV b = zP := by rw [HDE.out.2, if_neg (fun h => hd0 h.1)]
    have HP : Hid (∀ u0 u1 u2 u3 u4 U, U = .tuple #[.agg #[.int .i64 0, .int .i64 0, .int .i64 0, .int .i64 0, .slice none 0 0], .int .i64 de] → post (.returned U) (set5 V w.heap.size u0 u1 u2 u3 u4)) := fun u0 u1 u2 u3 u4 Z hZ => by
      rw [hZ]
      refine HPo.out _ _ _ hk ?_ (below_set5 HV.out.2.1 (Nat.le_refl _) _ _ _ _ _)
      rw [hv]
      exact ptl_zero _ _
    clear hk hv
    obtain ⟨⟨d0, d1, d2, d3, d4⟩, e0, e1, e2, e3, e4⟩ := box5 (HB.out.2.below HV.out.1 HB.out.2.lt)
    go_wp2
    refine bodyPost_ret (v := .tuple #[.agg #[.int .i64 0, .int .i64 0, .int .i64 0, .int .i64 0, .slice none 0 0], .int .i64 de]) (by simp [results, Tryd.results22, go_sem, *]) rfl (HP.out _ _ _ _ _ _ rfl)
  subst hd0
  obtain ⟨g0, g1, g2, -⟩ := HV.out.2.2.1.three
  by_cases hk7 : rk = 7
  rotate_left
  · skip
    have hk : (22 : Int) = rdpE b := by rw [HDE.out.1, if_neg (by simp), if_pos hk7]
    have hv : rdpV b = zP := by rw [HDE.out.2, if_neg (fun h => hk7 h.2.1)]
    have HP : Hid (∀ u0 u1 u2 u3 u4 U, U = .tuple #[.agg #[.int .i64 0, .int .i64 0, .int .i64 0, .int .i64 0, .slice none 0 0], .int .i64 22] → post (.returned U) (set5 V w.heap.size u0 u1 u2 u3 u4)) := fun u0 u1 u2 u3 u4 Z hZ => by
      rw [hZ]
      refine HPo.out _ _ _ hk ?_ (below_set5 HV.out.2.1 (Nat.le_refl _) _ _ _ _ _)
      rw [hv]
      exact ptl_zero _ _
    clear hk hv
    obtain ⟨⟨d0, d1, d2, d3, d4⟩, e0, e1, e2, e3, e4⟩ := box5 (HB.out.2.below HV.out.1 HB.out.2.lt)
    go_wp2
    refine bodyPost_ret (v := .tuple #[.agg #[.int .i64 0, .int .i64 0, .int .i64 0, .int .i64 0, .slice none 0 0], .int .i64 22]) (by simp [results, Tryd.results22, go_sem, *]) rfl (HP.out _ _ _ _ _ _ rfl)
  subst hk7
  by_cases hln : nl = 4 ∧ tl = 1
  rotate_left
  · skip
    have hk : (3 : Int) = rdpE b := by rw [HDE.out.1, if_neg (by simp), if_neg (by simp), if_pos]; have h1 := HV.out.2.2.2.2.1; have h2 := HV.out.2.2.2.2.2; simp only; omega
    have hv : rdpV b = zP := by rw [HDE.out.2, if_neg]; intro h; have h1 := HV.out.2.2.2.2.1; have h2 := HV.out.2.2.2.2.2; have h3 := h.2.2; simp only at h3; omega
    have HP : Hid (∀ u0 u1 u2 u3 u4 U, U = .tuple #[.agg #[.int .i64 0, .int .i64 0, .int .i64 0, .int .i64 0, .slice none 0 0], .int .i64 3] → post (.returned U) (set5 V w.heap.size u0 u1 u2 u3 u4)) := fun u0 u1 u2 u3 u4 Z hZ => by
      rw [hZ]
      refine HPo.out _ _ _ hk ?_ (below_set5 HV.out.2.1 (Nat.le_refl _) _ _ _ _ _)
      rw [hv]
      exact ptl_zero _ _
    clear hk hv
    obtain ⟨⟨d0, d1, d2, d3, d4⟩, e0, e1, e2, e3, e4⟩ := box5 (HB.out.2.below HV.out.1 HB.out.2.lt)
    by_cases h2 : (nl : Int) = 4
    · have h3 : ¬ (tl : Int) = 1 := by omega
      clear hln
      go_wp2
      refine bodyPost_ret (v := .tuple #[.agg #[.int .i64 0, .int .i64 0, .int .i64 0, .int .i64 0, .slice none 0 0], .int .i64 3]) (by simp [results, Tryd.results22, go_sem, *]) rfl (HP.out _ _ _ _ _ _ rfl)
    · clear hln
      go_wp2
      refine bodyPost_ret (v := .tuple #[.agg #[.int .i64 0, .int .i64 0, .int .i64 0, .int .i64 0, .slice none 0 0], .int .i64 3]) (by simp [results, Tryd.results22, go_sem, *]) rfl (HP.out _ _ _ _ _ _ rfl)
  obtain ⟨rfl, rfl⟩ := hln
  obtain ⟨x0, x1, x2, x3, rfl⟩ := four_of HV.out.2.2.2.2.1.symm
  obtain ⟨t0, rfl⟩ := one_of HV.out.2.2.2.2.2.symm
  obtain ⟨hi, ht, hk⟩ := HV.out.2.2.2.1
  obtain ⟨b0, o0, ix0, c0, i0⟩ := ints_at (intsS.olies hi) 0 x0 rfl
  obtain ⟨b1, o1, ix1, c1, i1⟩ := ints_at (intsS.olies hi) 1 x1 rfl
  obtain ⟨b2, o2, ix2, c2, i2⟩ := ints_at (intsS.olies hi) 2 x2 rfl
  obtain ⟨b3, o3, ix3, c3, i3⟩ := ints_at (intsS.olies hi) 3 x3 rfl
  obtain ⟨b4, o4, v0, iy0, k0, ar0⟩ := texts_at (textsS.olies ht) 0 t0 rfl
  obtain ⟨y0, z0, rfl, -⟩ := ar0.shape
  have ix0 : ∀ W, (Instr.indexAt 51 (.slice ax 4 cx) (.int .i64 0)).run Tryd.prog W = .ok (.pointer (some ⟨b0, o0, none⟩)) W := ix0
  have ix1 : ∀ W, (Instr.indexAt 51 (.slice ax 4 cx) (.int .i64 1)).run Tryd.prog W = .ok (.pointer (some ⟨b1, o1, none⟩)) W := ix1
  have ix2 : ∀ W, (Instr.indexAt 51 (.slice ax 4 cx) (.int .i64 2)).run Tryd.prog W = .ok (.pointer (some ⟨b2, o2, none⟩)) W := ix2
  have ix3 : ∀ W, (Instr.indexAt 51 (.slice ax 4 cx) (.int .i64 3)).run Tryd.prog W = .ok (.pointer (some ⟨b3, o3, none⟩)) W := ix3
  have iy0 : ∀ W, (Instr.indexAt 37 (.slice ay 1 cy) (.int .i64 0)).run Tryd.prog W = .ok (.pointer (some ⟨b4, o4, none⟩)) W := iy0
  obtain ⟨l0, hl0⟩ : ∃ z, z = t0.length := ⟨_, rfl⟩
  rw [← hl0] at k0 ar0
  have HA : Hid (Arg W1.heap.size V (.slice y0 l0 z0) t0 ∧ l0 = t0.length) := ⟨ar0, hl0⟩
  have HS : Hid (∀ U, Below V.heap.size V U → (U.cell? ⟨w2.heap.size, 0, none⟩ = some (.int .i64 7) ∧ U.cell? ⟨w2.heap.size, 1, none⟩ = some (.slice ax 4 cx) ∧ U.cell? ⟨w2.heap.size, 2, none⟩ = some (.slice ay 1 cy) ∧ U.cell? ⟨b0, o0, none⟩ = some (.int .i64 x0) ∧ U.cell? ⟨b1, o1, none⟩ = some (.int .i64 x1) ∧ U.cell? ⟨b2, o2, none⟩ = some (.int .i64 x2) ∧ U.cell? ⟨b3, o3, none⟩ = some (.int .i64 x3) ∧ U.cell? ⟨b4, o4, none⟩ = some (.slice y0 l0 z0))) := fun U hU => by
    have hcl : ∀ {z : Addr} {u : Value}, V.cell? z = some u → U.cell? z = some u := fun {z u} hz => by rw [hU.cell (cell_lt hz)]; exact hz
    have h1 := HV.out.2.2.1.below hU HV.out.2.2.1.lt
    exact ⟨h1.cell 0 rfl, h1.cell 1 rfl, h1.cell 2 rfl, hcl c0, hcl c1, hcl c2, hcl c3, hcl k0⟩
  clear hl0 hi ht hk i0 i1 i2 i3 ar0 c0 c1 c2 c3 k0
  go_upto_region 8 with fail
  clear g0 g1 g2
  obtain ⟨X0, hX0⟩ : ∃ Z, Z = V.drew := ⟨_, rfl⟩
  have hbX : Below V.heap.size V X0 := by rw [hX0]; exact (Below.refl _ V).drew
  refine AnyBut.begin (fun U => U.cell? ⟨w2.heap.size, 0, none⟩ = some (.int .i64 7) ∧ U.cell? ⟨w2.heap.size, 1, none⟩ = some (.slice ax 4 cx) ∧ U.cell? ⟨w2.heap.size, 2, none⟩ = some (.slice ay 1 cy) ∧ U.cell? ⟨b0, o0, none⟩ = some (.int .i64 x0) ∧ U.cell? ⟨b1, o1, none⟩ = some (.int .i64 x1) ∧ U.cell? ⟨b2, o2, none⟩ = some (.int .i64 x2) ∧ U.cell? ⟨b3, o3, none⟩ = some (.int .i64 x3) ∧ U.cell? ⟨b4, o4, none⟩ = some (.slice y0 l0 z0)) 1000 (by kernel_rfl) ?_
  rw [← hX0]
  clear hX0
  have hSS := HS.out X0 hbX
  refine tx 0 34 hSS ?_
  simp only [ua, ub, uc, ud]
  refine tx 1 35 hSS ?_
  simp only [ua, ub, uc, ud]
  refine tx 2 36 hSS ?_
  simp only [ua, ub, uc, ud]
  refine tx 3 37 hSS ?_
  simp only [ua, ub, uc, ud]
  refine tx 4 38 hSS ?_
  simp only [ua, ub, uc, ud]
  refine tx 5 39 hSS ?_
  simp only [ua, ub, uc, ud]
  refine tx 6 40 hSS ?_
  simp only [ua, ub, uc, ud]
  refine tx 7 41 hSS ?_
  simp only [ua, ub, uc, ud]
  refine tx 8 42 hSS ?_
  simp only [ua, ub, uc, ud]
  refine tx 9 43 hSS ?_
  simp only [ua, ub, uc, ud]
  refine tx 10 44 hSS ?_
  simp only [ua, ub, uc, ud]
  refine tx 11 45 hSS ?_
  simp only [ua, ub, uc, ud]
  refine tx 12 46 hSS ?_
  simp only [ua, ub, uc, ud]
  refine tx 13 47 hSS ?_
  simp only [ua, ub, uc, ud]
  refine tx 14 48 hSS ?_
  simp only [ua, ub, uc, ud]
  refine tx 15 49 hSS ?_
  simp only [ua, ub, uc, ud]
  refine tx 16 50 hSS ?_
  simp only [ua, ub, uc, ud]
  refine tx 17 51 hSS ?_
  simp only [ua, ub, uc, ud]
  refine tx 18 52 hSS ?_
  simp only [ua, ub, uc, ud]
  refine tx 19 53 hSS ?_
  simp only [ua, ub, uc, ud]
  refine tx 20 54 hSS ?_
  simp only [ua, ub, uc, ud]
  refine AnyBut.step (i := 21) (by kernel_rfl) rfl (fun K hK => ?_)
  go_simp
  obtain ⟨X1, hX1⟩ : ∃ Z, Z = X0.alloc (.cells #[.int .i64 0, .int .i64 0, .int .i64 0, .int .i64 0, .slice none 0 0] 29) := ⟨_, rfl⟩
  have hb9 : Below X0.heap.size X0 X1 := by rw [hX1]; exact (Below.refl _ _).alloc (Nat.le_refl _) _
  have hB9 : Box X1 X0.heap.size 29 #[.int .i64 0, .int .i64 0, .int .i64 0, .int .i64 0, .slice none 0 0] := by rw [hX1]; exact Box.new _ _ _
  rw [← hX1]
  clear hX1
  have hbX1 := below_any hbX hb9
  refine hK.out _ _ (HS.out X1 hbX1) ?_
  clear hK hSS
  obtain ⟨⟨d0, d1, d2, d3, d4⟩, e0, e1, e2, e3, e4⟩ := box5 hB9
  refine AnyBut.step (i := 22) (by kernel_rfl) rfl (fun K hK => ?_)
  go_simp
  have hbX2 := below_set5 hbX1 hbX.size (.int .i64 x0) (.int .i64 x1) (.int .i64 x2) (.int .i64 x3) (.slice y0 l0 z0)
  have hB10 := box_set5 hB9 (.int .i64 x0) (.int .i64 x1) (.int .i64 x2) (.int .i64 x3) (.slice y0 l0 z0)
  obtain ⟨X2, hX2⟩ : ∃ Z, Z = ((((X1.setCell ⟨X0.heap.size, 0, none⟩ (.int .i64 x0)).setCell ⟨X0.heap.size, 1, none⟩ (.int .i64 x1)).setCell ⟨X0.heap.size, 2, none⟩ (.int .i64 x2)).setCell ⟨X0.heap.size, 3, none⟩ (.int .i64 x3)).setCell ⟨X0.heap.size, 4, none⟩ (.slice y0 l0 z0) := ⟨_, rfl⟩
  unfold set5 at hbX2 hB10
  rw [← hX2] at hbX2 hB10 ⊢
  refine hK.out _ _ (HS.out X2 hbX2) ?_
  clear hK hX2 d0 d1 d2 d3 d4 e0 e1 e2 e3 e4
  refine AnyBut.done (by kernel_rfl) ?_
  have HX : Hid (Below V.heap.size V X2 ∧ Box X2 X0.heap.size 29 #[.int .i64 x0, .int .i64 x1, .int .i64 x2, .int .i64 x3, .slice y0 l0 z0] ∧ w.heap.size < X0.heap.size ∧ Below w.heap.size w X2 ∧ Box X2 w.heap.size 29 #[.int .i64 0, .int .i64 0, .int .i64 0, .int .i64 0, .slice none 0 0]) := ⟨hbX2, hB10, Nat.lt_of_lt_of_le (Nat.lt_of_lt_of_le HB.out.2.lt HV.out.1.size) hbX.size, HV.out.2.1.trans (hbX2.mono HV.out.2.1.size), (HB.out.2.below HV.out.1 HB.out.2.lt).below hbX2 (Nat.lt_of_lt_of_le HB.out.2.lt HV.out.1.size)⟩
  clear hb9 hB9 hbX1 hbX2 hB10 HS ix0 ix1 ix2 ix3 iy0 hl1 hl2 hbX
  have hlm : l0 ≤ maxLen := by obtain ⟨_, _, _, _, h, _⟩ := HA.out.1.shape; rw [HA.out.2]; first | exact h | (rw [← HA.out.2]; exact h)
  obtain ⟨oe, hoe⟩ : ∃ z, z = ptE x0 x1 x2 x3 l0 := ⟨_, rfl⟩
  have HOE : Hid (rdpE b = oe ∧ rdpV b = (x0, x1, x2, x3, t0)) := by
    refine ⟨?_, ?_⟩
    · rw [HDE.out.1, if_neg (by simp), if_neg (by simp), if_neg (by simp), hoe, HA.out.2]
      rfl
    · rw [HDE.out.2, if_pos ⟨rfl, rfl, rfl, rfl⟩]
      rfl
  have HCK : Hid (∀ U, Below X2.heap.size X2 U → Calls Tryd.prog 17 #[.agg #[.int .i64 x0, .int .i64 x1, .int .i64 x2, .int .i64 x3, .slice y0 l0 z0]] U fun r w' => r = .returned (.int .i64 oe) ∧ Below X2.heap.size X2 w') := fun U hU => by
    rw [hoe]
    exact (pcheck_any x0 x1 x2 x3 y0 l0 z0 hlm U).mono fun _ _ ⟨h1, h2⟩ => ⟨h1, below_any hU h2⟩
  have hU0 : Below X2.heap.size X2 X2 := Below.refl _ _
  clear hoe hlm
  obtain ⟨⟨d0, d1, d2, d3, d4⟩, e0, e1, e2, e3, e4⟩ := box5 HX.out.2.1
  obtain ⟨⟨q0, q1, q2, q3, q4⟩, f0, f1, f2, f3, f4⟩ := box5 HX.out.2.2.2.2
  go_wp2
  go_region_law
    (first
      | (go_simp
         with_reducible refine Calls.mono (HCK.out _ (by first | assumption | exact Below.drew (by assumption))) ?_
         rintro r w4 ⟨rfl, hU4⟩
         obtain ⟨⟨d0, d1, d2, d3, d4⟩, e0, e1, e2, e3, e4⟩ := box5 (HX.out.2.1.below hU4 HX.out.2.1.lt)
         obtain ⟨⟨q0, q1, q2, q3, q4⟩, f0, f1, f2, f3, f4⟩ := box5 (HX.out.2.2.2.2.below hU4 HX.out.2.2.2.2.lt)))
  all_goals
    clear d0 d1 d2 d3 d4 e0 e1 e2 e3 e4
    go_wp2
    refine bodyPost_ret (v := .tuple #[.agg #[.int .i64 x0, .int .i64 x1, .int .i64 x2, .int .i64 x3, .slice y0 l0 z0], .int .i64 oe]) (by simp [results, Tryd.results22, go_sem, *]) rfl ?_
    refine HPo.out _ _ _ HOE.out.1.symm ?_ (below_set5 (below_any HX.out.2.2.2.1 hU4) (Nat.le_refl _) _ _ _ _ _)
    rw [HOE.out.2]
    have ha : Arg w.heap.size (set5 w4 w.heap.size (.int .i64 x0) (.int .i64 x1) (.int .i64 x2) (.int .i64 x3) (.slice y0 l0 z0)) (.slice y0 l0 z0) t0 := Arg.weaken (Arg.keep ((HA.out.1.below HX.out.1).below hU4) (same_set5 HB.out.2.lt)) HB.out.1.size
    rw [HA.out.2] at ha ⊢
    exact ⟨y0, z0, rfl, ha⟩

set_option maxHeartbeats 400000 in
theorem nonzero_any (x : Int) (w : World) : Calls Tryd.prog 24 #[.int .u8 x] w fun e w' => e = .returned (.bool (!decide (x = 0))) ∧ w = w' := by
  by_cases h : x = 0
  · subst h
    go_enter Tryd.func24, Tryd.ntmps24
    go_wp2
    go_ret
    exact ⟨rfl, rfl⟩
  · have hb : (x == 0) = false := by simpa using h
    rw [decide_eq_false h]
    go_enter Tryd.func24, Tryd.ntmps24
    go_wp2
    go_ret
    exact ⟨congrArg (fun b => Ending.returned (.bool b)) (by simp [h]), rfl⟩

/-- One octet: where it lies, and what it is. -/
theorem Arg.at1 {n0 : Nat} {w : World} {v : Value} {l : List Int} (h : Arg n0 w v l) (i : Nat) (x : Int) (hx : l[i]? = some x) :
    ∃ b o, (∀ W, (Instr.indexAt 22 v (.int .i64 i)).run Tryd.prog W = .ok (.pointer (some ⟨b, o, none⟩)) W) ∧ n0 ≤ b ∧ w.cell? ⟨b, o, none⟩ = some (.int .u8 x) := by
  obtain ⟨i0, hi0, _, hz, _⟩ := info_parts Tryd.info5
  obtain ⟨b, o, h1, h2, h3, _⟩ := Leaf.row_at (L := u8L) (ht := Tryd.underlying22) (hc := cells22) h hi0 hz i x hx
  exact ⟨b, o, h1, h2, h3⟩

set_option maxRecDepth 100000 in
set_option maxHeartbeats 2000000 in
theorem zindex_any (n0 : Nat) (v : Value) (l : List Int) (w : World) (h : Arg n0 w v l) :
    Calls Tryd.prog 41 #[v, .func (.func 24) #[] #[]] w fun e w' => (∃ r : Int, e = .returned (.int .i64 r) ∧ ((r = -1 ∧ l.all (fun x => decide (x = 0)) = true) ∨ (0 ≤ r ∧ l.all (fun x => decide (x = 0)) = false))) ∧ w = w' := by
  obtain ⟨a, c, rfl, _, hm, _⟩ := h.shape
  unfold maxLen at hm
  obtain ⟨n, hn⟩ : ∃ n, n = l.length := ⟨_, rfl⟩
  rw [← hn] at h hm ⊢
  have hl1 := run_len Tryd.underlying22 a n c
  have HH : Hid (Arg n0 w (.slice a n c) l ∧ n = l.length) := ⟨h, hn⟩
  clear h hn
  go_enter Tryd.func41, Tryd.ntmps41
  go_wp2
  go_loopw [8] (fun i wr => ∃ k : Nat, k ≤ n ∧ i = .int .i64 k ∧ Hid ((l.take k).all (fun x => decide (x = 0)) = true) ∧ wr = w) (fun i _ => n - (intOf i).toNat)
  case atStart => exact ⟨0, Nat.zero_le _, rfl, by show _ = _; simp, rfl⟩
  case round =>
    obtain ⟨k, hk, rfl, HK, rfl⟩ := hrel
    by_cases hlt : k < n
    · obtain ⟨x, hx⟩ := get_lt (l := l) (k := k) (by rw [← HH.out.2]; exact hlt)
      obtain ⟨b, o, hix, -, c0⟩ := HH.out.1.at1 k x hx
      have hki : (k : Int) < (n : Int) := by omega
      have HX : Hid (l[k]? = some x) := hx
      have HC := nonzero_any x wr
      clear hx
      by_cases e : x = 0
      · rw [decide_eq_true e] at HC
        have HK2 : Hid ((l.take (k + 1)).all (fun x => decide (x = 0)) = true) := by
          show _ = _
          rw [take_snoc HX.out, List.all_append, HK.out]
          simp [e]
        clear e
        go_wp2_with fail
        refine HC.mono ?_
        rintro e w2 ⟨rfl, rfl⟩
        go_wp2
        go_roundw
        case rel => exact ⟨k + 1, by omega, by go_num, HK2, trivial⟩
        case measure => simp [intOf]; omega
      · rw [decide_eq_false e] at HC
        have HA : Hid (l.all (fun x => decide (x = 0)) = false) := by
          show _ = _
          rw [List.all_eq_false]
          exact ⟨x, List.mem_of_getElem? HX.out, by simp [e]⟩
        clear e
        go_wp2_with fail
        refine HC.mono ?_
        rintro e w2 ⟨rfl, rfl⟩
        go_wp2
        go_ret
        exact ⟨⟨k, rfl, .inr ⟨by omega, HA.out⟩⟩, rfl⟩
    · obtain rfl : k = n := by omega
      have HA : Hid (l.all (fun x => decide (x = 0)) = true) := by
        have := HK.out
        rwa [HH.out.2, List.take_length] at this
      clear HK
      go_wp2
      go_ret
      exact ⟨⟨-1, rfl, .inl ⟨rfl, HA.out⟩⟩, rfl⟩

set_option maxRecDepth 100000 in
set_option maxHeartbeats 1000000 in
theorem zcontains_any (n0 : Nat) (v : Value) (l : List Int) (w : World) (h : Arg n0 w v l) :
    Calls Tryd.prog 23 #[v, .func (.func 24) #[] #[]] w fun e w' => e = .returned (.bool (!l.all (fun x => decide (x = 0)))) ∧ w = w' := by
  have HC := zindex_any n0 v l w h
  clear h
  obtain ⟨al, hal⟩ : ∃ x, x = l.all (fun x => decide (x = 0)) := ⟨_, rfl⟩
  rw [← hal] at HC ⊢
  clear hal
  go_enter Tryd.func23, Tryd.ntmps23
  go_wp2_with fail
  refine HC.mono ?_
  rintro e w2 ⟨⟨r, rfl, hr⟩, rfl⟩
  rcases hr with ⟨rfl, rfl⟩ | ⟨h0, rfl⟩
  · go_wp2
    go_ret
    exact ⟨rfl, rfl⟩
  · go_wp2
    go_ret
    exact ⟨by simp, rfl⟩

end Go.Proofs.YthlfgpnabcplnaaDoor.W
/-
  Octets read as a point: what point.Decode answers, of every octets.
-/
namespace Go.Proofs.YthlfgpnabcplnaaDoor.W
open Go.RowKit
set_option linter.unusedVariables false

/-- How long the record is told to be; the record; what lies behind it. -/
def tlen (b : List Int) : Nat := (b.getD 0 0 * 256 + b.getD 1 0).toNat
def bod (b : List Int) : List Int := (b.drop 2).take (tlen b)
def rst (b : List Int) : List Int := (b.drop 2).drop (tlen b)
def dptE (b : List Int) : Int := if b.length ≠ 512 then 3 else if 510 < tlen b then 5 else if rdpE (bod b) ≠ 0 then rdpE (bod b) else if (rst b).all (fun x => decide (x = 0)) = true then 0 else 23
def dptV (b : List Int) : Pt := if dptE b = 0 then rdpV (bod b) else zP

theorem Arg.ahead_u {w : World} {v : Value} {l : List Int} (h : C.Arg w v l) (j : Nat) (hj : j ≤ l.length) :
    ∃ v', C.Arg w v' (l.take j) ∧ ∀ W, (Instr.slice 22 v none (some (.int .u64 j)) none).run Tryd.prog W = .ok v' W := by
  obtain ⟨a, cap, rfl, hcap, _⟩ := h.shape
  refine ⟨_, by simpa using h.sub 0 j (by omega) hj, fun W => ?_⟩
  rw [run_slice_h W 22 a l.length cap C.elem22 .u64 j (by omega) (by omega), C.size5]
  simp [Result.andThen]
theorem Arg.behind_u {w : World} {v : Value} {l : List Int} (h : C.Arg w v l) (i : Nat) (hi : i ≤ l.length) :
    ∃ v', C.Arg w v' (l.drop i) ∧ ∀ W, (Instr.slice 22 v (some (.int .u64 i)) none none).run Tryd.prog W = .ok v' W := by
  obtain ⟨a, cap, rfl, hcap, _⟩ := h.shape
  refine ⟨_, by simpa using h.sub i l.length hi (Nat.le_refl _), fun W => ?_⟩
  rw [run_slice_l W 22 a l.length cap C.elem22 .u64 i (by omega) (by omega), C.size5]
  simp [Result.andThen]

set_option maxRecDepth 100000 in
set_option maxHeartbeats 8000000 in
theorem pdec_any (n0 : Nat) (v : Value) (b : List Int) (w : World) (h : Arg n0 w v b) (hg : Glob w) :
    Calls Tryd.prog 10 #[v] w fun r w' => (∃ u, r = .returned (.tuple #[u, .int .i64 (dptE b)]) ∧ PtL w.heap.size w' u (dptV b)) ∧ Below w.heap.size w w' := by
  obtain ⟨W1, hW1⟩ : ∃ W, W = w.alloc (.cells #[.int .i64 0, .int .i64 0, .int .i64 0, .int .i64 0, .slice none 0 0] 29) := ⟨_, rfl⟩
  have hb1 : Below w.heap.size w W1 := by rw [hW1]; exact (Below.refl _ w).alloc (Nat.le_refl _) _
  have hB1 : Box W1 w.heap.size 29 #[.int .i64 0, .int .i64 0, .int .i64 0, .int .i64 0, .slice none 0 0] := by rw [hW1]; exact Box.new _ _ _
  have HB : Hid (Below w.heap.size w W1 ∧ Box W1 w.heap.size 29 #[.int .i64 0, .int .i64 0, .int .i64 0, .int .i64 0, .slice none 0 0] ∧ ∀ V, Below w.heap.size w V → Glob V) := ⟨hb1, hB1, fun V hV => hg.below hV hg.lt⟩
  obtain ⟨post, hpost⟩ : ∃ post : Ending → World → Prop, post = fun r w' => (∃ u, r = .returned (.tuple #[u, .int .i64 (dptE b)]) ∧ PtL w.heap.size w' u (dptV b)) ∧ Below w.heap.size w w' := ⟨_, rfl⟩
  have HPo : Hid (∀ (k : Int) u w', k = dptE b → PtL w.heap.size w' u (dptV b) → Below w.heap.size w w' → post (.returned (.tuple #[u, .int .i64 k])) w') := fun k u w' h1 h2 h3 => by rw [hpost, h1]; exact ⟨⟨u, rfl, h2⟩, h3⟩
  have HPz : Hid (∀ (k : Int) V, k ≠ 0 → k = dptE b → Below w.heap.size w V → ∀ u0 u1 u2 u3 u4 U, U = .tuple #[.agg #[.int .i64 0, .int .i64 0, .int .i64 0, .int .i64 0, .slice none 0 0], .int .i64 k] → post (.returned U) (set5 V w.heap.size u0 u1 u2 u3 u4)) := fun k V hk h1 h2 u0 u1 u2 u3 u4 U hU => by
    rw [hU]
    refine HPo.out _ _ _ h1 ?_ (below_set5 h2 (Nat.le_refl _) _ _ _ _ _)
    unfold dptV
    rw [if_neg (by rw [← h1]; exact hk)]
    exact ptl_zero _ _
  rw [← hpost]
  obtain ⟨a0, c0, rfl, _, hm, _⟩ := h.shape
  unfold maxLen at hm
  have hA := h.below hb1
  have HDE : Hid (dptE b = (if b.length ≠ 512 then 3 else if 510 < tlen b then 5 else if rdpE (bod b) ≠ 0 then rdpE (bod b) else if (rst b).all (fun x => decide (x = 0)) = true then 0 else 23)) := rfl
  have hl0 := run_len Tryd.underlying22 a0 b.length c0
  obtain ⟨⟨d0, d1, d2, d3, d4⟩, e0, e1, e2, e3, e4⟩ := box5 hB1
  clear hpost hb1 hB1 h hg
  go_enter Tryd.func10, Tryd.ntmps10
  go_upto_region 1 with fail
  rw [← hW1]
  clear hW1
  by_cases hn : b.length = 512
  rotate_left
  · have HP := HPz.out 3 W1 (by decide) (by rw [HDE.out, if_pos hn]) HB.out.1
    have HPH : Hid (∀ u0 u1 u2 u3 u4 U, U = .tuple #[.agg #[.int .i64 0, .int .i64 0, .int .i64 0, .int .i64 0, .slice none 0 0], .int .i64 3] → post (.returned U) (set5 W1 w.heap.size u0 u1 u2 u3 u4)) := HP
    have hn' : ¬ (b.length : Int) = 512 := by omega
    obtain ⟨nl, hnl⟩ : ∃ z, z = b.length := ⟨_, rfl⟩
    rw [← hnl] at hl0 hn' hm ⊢
    clear HP hA hn hnl
    go_wp2
    refine bodyPost_ret (v := .tuple #[.agg #[.int .i64 0, .int .i64 0, .int .i64 0, .int .i64 0, .slice none 0 0], .int .i64 3]) (by simp [results, Tryd.results10, go_sem, *]) rfl ?_
    exact HPH.out _ _ _ _ _ _ rfl
  rw [hn] at hl0 hA ⊢
  match b, hn, hA, HPo, HDE, HPz with
  | b0 :: b1 :: r, hn, hA, HPo, HDE, HPz =>
  have hr : r.length = 510 := by simpa using hn
  obtain ⟨n, hnn⟩ : ∃ n, n = tlen (b0 :: b1 :: r) := ⟨_, rfl⟩
  have hnn2 : n = (b0 * 256 + b1).toNat := hnn
  obtain ⟨v1, A1, hs1⟩ := C.Arg.ahead hA.toC 2 (by rw [hn]; omega)
  have hs1 : ∀ W, (Instr.slice 22 (.slice a0 512 c0) none (some (.int .i64 2)) none).run Tryd.prog W = .ok v1 W := hs1
  obtain ⟨v2, A2, hs2⟩ := C.Arg.behind hA.toC 2 (by rw [hn]; omega)
  have hs2 : ∀ W, (Instr.slice 22 (.slice a0 512 c0) (some (.int .i64 2)) none none).run Tryd.prog W = .ok v2 W := hs2
  have A2 : C.Arg W1 v2 r := A2
  have HG := get2 v1 b0 b1 W1 (Arg.ofC A1)
  rw [← hnn2] at HG
  obtain ⟨a2, c2, rfl, hc2, _⟩ := A2.shape
  have hl2 := run_len Tryd.underlying22 a2 r.length c2
  rw [hr] at hl2 hs2
  have HR : Hid (r.length = 510 ∧ n = tlen (b0 :: b1 :: r) ∧ C.Arg W1 (.slice a2 r.length c2) r) := ⟨hr, hnn, A2⟩
  clear hA A1 A2 hnn2
  by_cases hbig : 510 < n
  · have HP := HPz.out 5 W1 (by decide) (by rw [HDE.out, if_neg (by rw [hn]; decide), ← hnn, if_pos hbig]) HB.out.1
    have HPH : Hid (∀ u0 u1 u2 u3 u4 U, U = .tuple #[.agg #[.int .i64 0, .int .i64 0, .int .i64 0, .int .i64 0, .slice none 0 0], .int .i64 5] → post (.returned U) (set5 W1 w.heap.size u0 u1 u2 u3 u4)) := HP
    have hbig' : (510 : Int) < (n : Int) := by omega
    clear HP hn hnn hr hbig
    go_wp2_with fail
    refine HG.mono ?_
    rintro e w1 ⟨rfl, rfl⟩
    go_wp2
    refine bodyPost_ret (v := .tuple #[.agg #[.int .i64 0, .int .i64 0, .int .i64 0, .int .i64 0, .slice none 0 0], .int .i64 5]) (by simp [results, Tryd.results10, go_sem, *]) rfl ?_
    exact HPH.out _ _ _ _ _ _ rfl
  have hsm : ¬ (510 : Int) < (n : Int) := by omega
  obtain ⟨v3, A3, hs3⟩ := Arg.ahead_u HR.out.2.2 n (by rw [HR.out.1]; omega)
  obtain ⟨v4, A4, hs4⟩ := Arg.behind_u HR.out.2.2 n (by rw [HR.out.1]; omega)
  rw [hr] at hs3 hs4
  have hbod : bod (b0 :: b1 :: r) = r.take n := by unfold bod; rw [← hnn]; rfl
  have hrst : rst (b0 :: b1 :: r) = r.drop n := by unfold rst; rw [← hnn]; rfl
  have HD2 : Hid (dptE (b0 :: b1 :: r) = (if rdpE (r.take n) ≠ 0 then rdpE (r.take n) else if (r.drop n).all (fun x => decide (x = 0)) = true then 0 else 23) ∧ (dptE (b0 :: b1 :: r) = 0 → dptV (b0 :: b1 :: r) = rdpV (r.take n))) := by
    refine ⟨?_, fun h => ?_⟩
    · rw [HDE.out, if_neg (by rw [hn]; decide), ← hnn, if_neg hbig, hbod, hrst]
    · unfold dptV; rw [if_pos h, hbod]
  have HRD := read_any 0 v3 (r.take n) W1 (Arg.ofC A3) (by rw [List.length_take]; omega) (HB.out.2.2 W1 HB.out.1)
  have HA4 : Hid (Arg 0 W1 v4 (r.drop n)) := Arg.ofC A4
  obtain ⟨re, hre⟩ : ∃ z, z = rdpE (r.take n) := ⟨_, rfl⟩
  obtain ⟨⟨p0, p1, p2, p3, pd⟩, hrv⟩ : ∃ z, z = rdpV (r.take n) := ⟨_, rfl⟩
  rw [← hre, ← hrv] at HRD
  rw [← hre, ← hrv] at HD2
  have HRS : Hid ((r.drop n).all (fun x => decide (x = 0)) = (r.drop n).all (fun x => decide (x = 0))) := rfl
  obtain ⟨L4, hL4⟩ : ∃ z, z = r.drop n := ⟨_, rfl⟩
  rw [← hL4] at HA4 HD2
  clear hn hnn hr hbig A3 A4 hbod hrst HDE hre hrv HRS hL4
  obtain ⟨a4, c4, rfl, _⟩ := HA4.out.shape
  go_wp2_with fail
  refine HG.mono ?_
  rintro e w1 ⟨rfl, rfl⟩
  clear HG d0 d1 d2 d3 d4 e0 e1 e2 e3 e4
  go_wp2_with fail
  refine HRD.mono ?_
  rintro e w2 ⟨⟨u, rfl, ap, cp, rfl, hap⟩, hb2⟩
  simp only at hap ⊢
  obtain ⟨pl, hpl⟩ : ∃ z, z = pd.length := ⟨_, rfl⟩
  rw [← hpl] at hap ⊢
  obtain ⟨V, hV⟩ : ∃ V, V = w2.alloc (.cells #[.int .i64 p0, .int .i64 p1, .int .i64 p2, .int .i64 p3, .slice ap pl cp] 29) := ⟨_, rfl⟩
  have hbV : Below w2.heap.size w2 V := by rw [hV]; exact (Below.refl _ w2).alloc (Nat.le_refl _) _
  have hBV : Box V w2.heap.size 29 #[.int .i64 p0, .int .i64 p1, .int .i64 p2, .int .i64 p3, .slice ap pl cp] := by rw [hV]; exact Box.new _ _ _
  have HV : Hid (Below w.heap.size w V ∧ Below W1.heap.size W1 V ∧ Box V w.heap.size 29 #[.int .i64 0, .int .i64 0, .int .i64 0, .int .i64 0, .slice none 0 0] ∧ Box V w2.heap.size 29 #[.int .i64 p0, .int .i64 p1, .int .i64 p2, .int .i64 p3, .slice ap pl cp] ∧ Arg W1.heap.size V (.slice ap pl cp) pd ∧ pl = pd.length) := ⟨HB.out.1.trans ((below_any hb2 hbV).mono HB.out.1.size), below_any hb2 hbV, (HB.out.2.1.below hb2 HB.out.2.1.lt).below hbV (Nat.lt_of_lt_of_le HB.out.2.1.lt hb2.size), hBV, hap.below hbV, hpl⟩
  clear HRD hb2 hbV hBV hap hpl
  go_upto_region 8 with fail
  rw [← hV]
  clear hV
  obtain ⟨⟨d0, d1, d2, d3, d4⟩, e0, e1, e2, e3, e4⟩ := box5 HV.out.2.2.1
  by_cases hz : re = 0
  rotate_left
  · have HP := HPz.out re V hz (by rw [HD2.out.1, if_pos hz]) HV.out.1
    have HPH : Hid (∀ u0 u1 u2 u3 u4 U, U = .tuple #[.agg #[.int .i64 0, .int .i64 0, .int .i64 0, .int .i64 0, .slice none 0 0], .int .i64 re] → post (.returned U) (set5 V w.heap.size u0 u1 u2 u3 u4)) := HP
    clear HP
    go_wp2
    refine bodyPost_ret (v := .tuple #[.agg #[.int .i64 0, .int .i64 0, .int .i64 0, .int .i64 0, .slice none 0 0], .int .i64 re]) (by simp [results, Tryd.results10, go_sem, *]) rfl ?_
    exact HPH.out _ _ _ _ _ _ rfl
  subst hz
  have HC := zcontains_any 0 (.slice a4 L4.length c4) L4 V (HA4.out.below HV.out.2.1)
  obtain ⟨al, hal⟩ : ∃ z, z = L4.all (fun x => decide (x = 0)) := ⟨_, rfl⟩
  have HAL : Hid (al = L4.all (fun x => decide (x = 0))) := hal
  rw [← hal] at HC
  obtain ⟨l4, hl4⟩ : ∃ z, z = L4.length := ⟨_, rfl⟩
  rw [← hl4] at HC hs4
  clear hal hl4
  cases al
  · have HP := HPz.out 23 V (by decide) (by rw [HD2.out.1, if_neg (by simp), ← HAL.out]; rfl) HV.out.1
    have HPH : Hid (∀ u0 u1 u2 u3 u4 U, U = .tuple #[.agg #[.int .i64 0, .int .i64 0, .int .i64 0, .int .i64 0, .slice none 0 0], .int .i64 23] → post (.returned U) (set5 V w.heap.size u0 u1 u2 u3 u4)) := HP
    clear HP
    go_wp2_with fail
    refine HC.mono ?_
    rintro e w3 ⟨rfl, rfl⟩
    go_wp2
    refine bodyPost_ret (v := .tuple #[.agg #[.int .i64 0, .int .i64 0, .int .i64 0, .int .i64 0, .slice none 0 0], .int .i64 23]) (by simp [results, Tryd.results10, go_sem, *]) rfl ?_
    exact HPH.out _ _ _ _ _ _ rfl
  · have h0 : (0 : Int) = dptE (b0 :: b1 :: r) := by rw [HD2.out.1, if_neg (by simp), ← HAL.out]; rfl
    have HPH : Hid (∀ u0 u1 u2 u3 u4 U, U = .tuple #[.agg #[.int .i64 p0, .int .i64 p1, .int .i64 p2, .int .i64 p3, .slice ap pl cp], .int .i64 0] → post (.returned U) (set5 V w.heap.size u0 u1 u2 u3 u4)) := fun u0 u1 u2 u3 u4 U hU => by
      rw [hU]
      refine HPo.out _ _ _ h0 ?_ (below_set5 HV.out.1 (Nat.le_refl _) _ _ _ _ _)
      rw [HD2.out.2 h0.symm]
      have ha := (Arg.keep HV.out.2.2.2.2.1 (same_set5 (u0 := u0) (u1 := u1) (u2 := u2) (u3 := u3) (u4 := u4) HB.out.2.1.lt)).weaken HB.out.1.size
      have h5 := HV.out.2.2.2.2.2
      rw [h5] at ha ⊢
      exact ⟨ap, cp, rfl, ha⟩
    obtain ⟨⟨q0, q1, q2, q3, q4⟩, -⟩ := box5 HV.out.2.2.2.1
    clear h0
    go_wp2_with fail
    refine HC.mono ?_
    rintro e w3 ⟨rfl, rfl⟩
    go_wp2
    refine bodyPost_ret (v := .tuple #[.agg #[.int .i64 p0, .int .i64 p1, .int .i64 p2, .int .i64 p3, .slice ap pl cp], .int .i64 0]) (by simp [results, Tryd.results10, go_sem, *]) rfl ?_
    exact HPH.out _ _ _ _ _ _ rfl

end Go.Proofs.YthlfgpnabcplnaaDoor.W
/-
  Checkpoints on a disk: what Load answers, the program's.
-/
namespace Go.Proofs.YthlfgpnabcplnaaDoor.W
open Go.RowKit
set_option linter.unusedVariables false

/-- What is loaded of the octets of two regions. -/
def ldN (A B : List Int) : Pt := if dptE A = 0 then (if dptE B = 0 ∧ (dptV A).1 < (dptV B).1 then dptV B else dptV A) else if dptE B = 0 then dptV B else zP
def ldK (A B : List Int) : Int := if dptE A = 0 ∨ dptE B = 0 then 0 else 21
def ldE (S : Dk.St) : Int := if cdE S ≠ 0 then cdE S else ldK (Dk.gout S 0 8) (Dk.gout S 8 8)
def ldV (S : Dk.St) : Pt := if cdE S ≠ 0 then zP else ldN (Dk.gout S 0 8) (Dk.gout S 8 8)
/-- What has been found behind so many regions. -/
def fK (A B : List Int) : Nat → Bool
  | 0 => false
  | 1 => decide (dptE A = 0)
  | _ => decide (dptE A = 0 ∨ dptE B = 0)
def qK (A B : List Int) : Nat → Pt
  | 0 => zP
  | 1 => if dptE A = 0 then dptV A else zP
  | _ => ldN A B
def rK (A B : List Int) : Nat → List Int
  | 0 => A
  | _ => B
theorem k_bad (A B : List Int) (k : Nat) (hk : k < 2) (h : dptE (rK A B k) ≠ 0) : fK A B (k + 1) = fK A B k ∧ qK A B (k + 1) = qK A B k := by
  match k, hk, h with
  | 0, _, h =>
    have h : dptE A ≠ 0 := h
    simp [fK, qK, h]
  | 1, _, h =>
    have h : dptE B ≠ 0 := h
    simp [fK, qK, ldN, h]
theorem k_new (A B : List Int) (k : Nat) (hk : k < 2) (h : dptE (rK A B k) = 0) (hn : fK A B k = false ∨ (qK A B k).1 < (dptV (rK A B k)).1) : fK A B (k + 1) = true ∧ qK A B (k + 1) = dptV (rK A B k) := by
  match k, hk, h, hn with
  | 0, _, h, _ =>
    have h : dptE A = 0 := h
    simp [fK, qK, rK, h]
  | 1, _, h, hn =>
    have h : dptE B = 0 := h
    by_cases hA : dptE A = 0
    · have hn : fK A B 1 = false ∨ (qK A B 1).1 < (dptV B).1 := hn
      simp only [fK, qK, hA, decide_true, if_true] at hn
      have hn : (dptV A).1 < (dptV B).1 := by simpa using hn
      simp [fK, qK, rK, ldN, hA, h, hn]
    · simp [fK, qK, rK, ldN, hA, h]
theorem k_old (A B : List Int) (k : Nat) (hk : k < 2) (h : dptE (rK A B k) = 0) (hf : fK A B k = true) (hn : ¬ (qK A B k).1 < (dptV (rK A B k)).1) : fK A B (k + 1) = true ∧ qK A B (k + 1) = qK A B k := by
  match k, hk, h, hf, hn with
  | 0, _, _, hf, _ => cases hf
  | 1, _, h, hf, hn =>
    have h : dptE B = 0 := h
    have hA : dptE A = 0 := by simpa [fK] using hf
    have hn : ¬ (qK A B 1).1 < (dptV B).1 := hn
    simp only [qK, hA, if_true] at hn
    simp [fK, qK, ldN, hA, hn]
theorem k_end (A B : List Int) : (fK A B 2 = true → ldK A B = 0) ∧ (fK A B 2 = false → ldK A B = 21 ∧ ldN A B = zP) := by
  refine ⟨fun h => ?_, fun h => ?_⟩
  · unfold ldK
    rw [if_pos (by simpa [fK] using h)]
  · have h : ¬ (dptE A = 0 ∨ dptE B = 0) := by simpa [fK] using h
    have h1 : ¬ dptE A = 0 := fun x => h (.inl x)
    have h2 : ¬ dptE B = 0 := fun x => h (.inr x)
    unfold ldK ldN
    rw [if_neg h, if_neg h1, if_neg h2]
    exact ⟨rfl, rfl⟩
theorem gout_oc {n : Nat} {w : World} {v : Value} {S : Dk.St} (h : Dk.Disk n w v S) (s k : Int) : Oc (Dk.gout S s k) := by
  unfold Dk.gout
  split
  · exact Dk.oct_window (Dk.oct_stand h.oct _) _ _
  · exact oc_nil
theorem ptl_view {n : Nat} {w : World} {v : Value} {q : Pt} (h : PtL n w v q) : ∃ a c, v = .agg #[.int .i64 q.1, .int .i64 q.2.1, .int .i64 q.2.2.1, .int .i64 q.2.2.2.1, .slice a q.2.2.2.2.length c] ∧ Arg n w (.slice a q.2.2.2.2.length c) q.2.2.2.2 := h

/-- What lies there ahead of a round. -/
def LdI (w : World) (N nv : Nat) (S : Dk.St) (a1 : Option Addr) (c1 : Nat) (a2 : Option Addr) (c2 n m : Nat) (q : Pt) (W : World) : Prop :=
  Below w.heap.size w W ∧ Box W w.heap.size 40 #[.slice a1 n c1, .slice a2 m c2] ∧ Box W (w.heap.size + 1) 29 #[.int .i64 0, .int .i64 0, .int .i64 0, .int .i64 0, .slice none 0 0] ∧ ∃ xa xc, Box W N 29 #[.int .i64 q.1, .int .i64 q.2.1, .int .i64 q.2.2.1, .int .i64 q.2.2.2.1, .slice xa q.2.2.2.2.length xc] ∧ Arg nv W (.slice xa q.2.2.2.2.length xc) q.2.2.2.2

set_option maxRecDepth 100000 in
set_option maxHeartbeats 16000000 in
theorem load_any (n0 : Nat) (vd : Value) (S : Dk.St) (w : World) (hS : Dk.Disk n0 w vd S) (hg : Glob w) :
    Calls Tryd.prog 15 #[vd] w fun r w' => ∃ u, r = .returned (.tuple #[u, .int .i64 (ldE S)]) ∧ PtL w.heap.size w' u (ldV S) ∧ Below w.heap.size w w' := by
  obtain ⟨a1, c1, a2, c2, rfl, _, _⟩ := hS.shape
  obtain ⟨n, hn⟩ : ∃ z, z = S.secs.length := ⟨_, rfl⟩
  obtain ⟨m, hm⟩ : ∃ z, z = S.cache.length := ⟨_, rfl⟩
  rw [← hn, ← hm] at hS ⊢
  obtain ⟨W1, hW1⟩ : ∃ W, W = (w.alloc (.cells #[.slice a1 n c1, .slice a2 m c2] 40)).alloc (.cells #[.int .i64 0, .int .i64 0, .int .i64 0, .int .i64 0, .slice none 0 0] 29) := ⟨_, rfl⟩
  have hb1 : Below w.heap.size w W1 := by rw [hW1]; exact ((Below.refl _ w).alloc (Nat.le_refl _) _).alloc (by simp) _
  have hBd : Box W1 w.heap.size 40 #[.slice a1 n c1, .slice a2 m c2] := by rw [hW1]; exact (Box.new _ _ _).alloc _
  have hBr : Box W1 (w.heap.size + 1) 29 #[.int .i64 0, .int .i64 0, .int .i64 0, .int .i64 0, .slice none 0 0] := by
    rw [hW1]
    have := Box.new (w.alloc (.cells #[.slice a1 n c1, .slice a2 m c2] 40)) 29 #[.int .i64 0, .int .i64 0, .int .i64 0, .int .i64 0, .slice none 0 0]
    rwa [World.size_alloc] at this
  have HC := cdisk_any n0 _ S W1 (hS.below hb1)
  have HB : Hid (Below w.heap.size w W1 ∧ Box W1 w.heap.size 40 #[.slice a1 n c1, .slice a2 m c2] ∧ Box W1 (w.heap.size + 1) 29 #[.int .i64 0, .int .i64 0, .int .i64 0, .int .i64 0, .slice none 0 0] ∧ w.heap.size + 1 < W1.heap.size ∧ ∀ V, Below w.heap.size w V → Glob V) := ⟨hb1, hBd, hBr, hBr.lt, fun V hV => hg.below hV hg.lt⟩
  have HI : Hid (Dk.Disk n0 w (.agg #[.slice a1 n c1, .slice a2 m c2]) S) := hS
  obtain ⟨post, hpost⟩ : ∃ post : Ending → World → Prop, post = fun r w' => ∃ u, r = .returned (.tuple #[u, .int .i64 (ldE S)]) ∧ PtL w.heap.size w' u (ldV S) ∧ Below w.heap.size w w' := ⟨_, rfl⟩
  have HPo : Hid (∀ (k : Int) u w', k = ldE S → PtL w.heap.size w' u (ldV S) → Below w.heap.size w w' → post (.returned (.tuple #[u, .int .i64 k])) w') := fun k u w' h1 h2 h3 => by rw [hpost, h1]; exact ⟨u, rfl, h2, h3⟩
  have HPz : Hid (∀ (k : Int) V, k = ldE S → ldV S = zP → Below w.heap.size w V → ∀ u0 u1 u2 u3 u4 U, U = .tuple #[.agg #[.int .i64 0, .int .i64 0, .int .i64 0, .int .i64 0, .slice none 0 0], .int .i64 k] → post (.returned U) (set5 V (w.heap.size + 1) u0 u1 u2 u3 u4)) := fun k V h1 h0 h2 u0 u1 u2 u3 u4 U hU => by
    rw [hU]
    refine HPo.out _ _ _ h1 ?_ (below_set5 h2 (by omega) _ _ _ _ _)
    rw [h0]
    exact ptl_zero _ _
  rw [← hpost]
  obtain ⟨oe, hoe⟩ : ∃ z, z = cdE S := ⟨_, rfl⟩
  have HOE : Hid (oe = cdE S) := hoe
  rw [← hoe] at HC
  obtain ⟨y0, y1, -, -⟩ := hBd.two
  rw [hW1] at y0 y1
  clear hpost hoe hb1 hBd hBr hS hn hm hg
  go_enter Tryd.func15, Tryd.ntmps15
  go_wp2_with fail
  rw [← hW1]
  clear hW1 y0 y1
  refine HC.mono ?_
  rintro r w2 ⟨rfl, hb2⟩
  have H2 : Hid (Below w.heap.size w w2 ∧ Box w2 w.heap.size 40 #[.slice a1 n c1, .slice a2 m c2] ∧ Box w2 (w.heap.size + 1) 29 #[.int .i64 0, .int .i64 0, .int .i64 0, .int .i64 0, .slice none 0 0] ∧ w.heap.size + 1 < w2.heap.size) := ⟨below_any HB.out.1 hb2, HB.out.2.1.below hb2 HB.out.2.1.lt, HB.out.2.2.1.below hb2 HB.out.2.2.1.lt, Nat.lt_of_lt_of_le HB.out.2.2.2.1 hb2.size⟩
  clear HC hb2
  by_cases hoz : oe = 0
  rotate_left
  · have HQ : Hid (∀ u0 u1 u2 u3 u4 U, U = .tuple #[.agg #[.int .i64 0, .int .i64 0, .int .i64 0, .int .i64 0, .slice none 0 0], .int .i64 oe] → post (.returned U) (set5 w2 (w.heap.size + 1) u0 u1 u2 u3 u4)) := HPz.out oe w2 (by unfold ldE; rw [if_pos (by rw [← HOE.out]; exact hoz), HOE.out]) (by unfold ldV; rw [if_pos (by rw [← HOE.out]; exact hoz)]) H2.out.1
    obtain ⟨⟨d0, d1, d2, d3, d4⟩, e0, e1, e2, e3, e4⟩ := box5 H2.out.2.2.1
    go_wp2
    refine bodyPost_ret (v := .tuple #[.agg #[.int .i64 0, .int .i64 0, .int .i64 0, .int .i64 0, .slice none 0 0], .int .i64 oe]) (by simp [results, Tryd.results15, go_sem, *]) rfl (HQ.out _ _ _ _ _ _ rfl)
  subst hoz
  obtain ⟨A, hA⟩ : ∃ z, z = Dk.gout S 0 8 := ⟨_, rfl⟩
  obtain ⟨B, hB⟩ : ∃ z, z = Dk.gout S 8 8 := ⟨_, rfl⟩
  have HAB : Hid (A = Dk.gout S 0 8 ∧ B = Dk.gout S 8 8 ∧ ldE S = ldK A B ∧ ldV S = ldN A B) := by
    refine ⟨hA, hB, ?_, ?_⟩
    · unfold ldE; rw [if_neg (by rw [← HOE.out]; simp), hA, hB]
    · unfold ldV; rw [if_neg (by rw [← HOE.out]; simp), hA, hB]
  clear hA hB
  go_upto_region 4 with fail
  obtain ⟨V, hV⟩ : ∃ V, V = w2.alloc (.cells #[.int .i64 0, .int .i64 0, .int .i64 0, .int .i64 0, .slice none 0 0] 29) := ⟨_, rfl⟩
  have hbV : Below w2.heap.size w2 V := by rw [hV]; exact (Below.refl _ w2).alloc (Nat.le_refl _) _
  have hBV : Box V w2.heap.size 29 #[.int .i64 0, .int .i64 0, .int .i64 0, .int .i64 0, .slice none 0 0] := by rw [hV]; exact Box.new _ _ _
  have hsV : V.heap.size = w2.heap.size + 1 := by rw [hV]; exact Array.size_push _
  obtain ⟨N, hN⟩ : ∃ N, N = w2.heap.size := ⟨_, rfl⟩
  rw [← hN] at hBV hsV
  have HV : Hid (Below w.heap.size w V ∧ Box V w.heap.size 40 #[.slice a1 n c1, .slice a2 m c2] ∧ Box V (w.heap.size + 1) 29 #[.int .i64 0, .int .i64 0, .int .i64 0, .int .i64 0, .slice none 0 0] ∧ Box V N 29 #[.int .i64 0, .int .i64 0, .int .i64 0, .int .i64 0, .slice none 0 0] ∧ w.heap.size + 1 < N) := ⟨below_any H2.out.1 hbV, H2.out.2.1.below hbV H2.out.2.1.lt, H2.out.2.2.1.below hbV H2.out.2.2.1.lt, hBV, by rw [hN]; exact H2.out.2.2.2⟩
  clear hbV hBV H2
  obtain ⟨⟨d0, d1, d2, d3, d4⟩, e0, e1, e2, e3, e4⟩ := box5 HV.out.2.2.2.1
  rw [hV] at d0 d1 d2 d3 d4 e0 e1 e2 e3 e4
  rw [hN] at d0 d1 d2 d3 d4 e0 e1 e2 e3 e4
  go_upto_region 5 with fail
  rw [← hN]
  rw [← hV]
  clear hV hN d0 d1 d2 d3 d4 e0 e1 e2 e3 e4
  have HVS : Hid (V.heap.size = N + 1) := hsV
  clear hsV
  have HVN : Hid (w.heap.size + 1 < N ∧ N < V.heap.size ∧ w.heap.size ≤ V.heap.size) := ⟨HV.out.2.2.2.2, HV.out.2.2.2.1.lt, HV.out.1.size⟩
  go_wp2
  go_loopw [6, 19] (fun fo i wr => ∃ k : Nat, k ≤ 2 ∧ fo = .bool (fK A B k) ∧ i = .int .i64 k ∧ Hid (LdI w N V.heap.size S a1 c1 a2 c2 n m (qK A B k) wr)) (fun _ i _ => 2 - (intOf i).toNat)
  case atStart => exact ⟨0, by omega, rfl, rfl, ⟨HV.out.1, HV.out.2.1, HV.out.2.2.1, none, 0, HV.out.2.2.2.1, (Own1.nil _ _).arg⟩⟩
  case round =>
    obtain ⟨k, hk, rfl, rfl, HL⟩ := hrel
    obtain ⟨wl, hwl⟩ : ∃ z, z = wr := ⟨_, rfl⟩
    rw [← hwl] at HL ⊢
    clear hwl
    obtain ⟨hbl, hBd, hBr, xa, xc, hBN, hAx⟩ := HL.out
    obtain ⟨⟨x0, x1, x2, x3, xd⟩, hq⟩ : ∃ z, z = qK A B k := ⟨_, rfl⟩
    obtain ⟨fb, hfb⟩ : ∃ z, z = fK A B k := ⟨_, rfl⟩
    have HQ : Hid ((x0, x1, x2, x3, xd) = qK A B k ∧ fb = fK A B k) := ⟨hq, hfb⟩
    rw [← hq] at hBN hAx
    rw [← hfb]
    simp only at hBN hAx
    obtain ⟨xl, hxl⟩ : ∃ z, z = xd.length := ⟨_, rfl⟩
    rw [← hxl] at hBN hAx
    have HX : Hid (Below w.heap.size w wl ∧ Box wl w.heap.size 40 #[.slice a1 n c1, .slice a2 m c2] ∧ Box wl (w.heap.size + 1) 29 #[.int .i64 0, .int .i64 0, .int .i64 0, .int .i64 0, .slice none 0 0] ∧ Box wl N 29 #[.int .i64 x0, .int .i64 x1, .int .i64 x2, .int .i64 x3, .slice xa xl xc] ∧ Arg V.heap.size wl (.slice xa xl xc) xd ∧ xl = xd.length ∧ N < wl.heap.size) := ⟨hbl, hBd, hBr, hBN, hAx, hxl, hBN.lt⟩
    clear HL hbl hBd hBr hBN hAx hq hfb hxl
    by_cases hlt : k < 2
    · obtain ⟨R, hR⟩ : ∃ z, z = rK A B k := ⟨_, rfl⟩
      have HR : Hid (R = rK A B k ∧ R = Dk.gout S ((k : Int) * 8) 8) := by
        refine ⟨hR, ?_⟩
        rw [hR]
        match k, hlt with
        | 0, _ => exact HAB.out.1
        | 1, _ => exact HAB.out.2.1
      clear hR
      have hki : (k : Int) < 2 := by omega
      have HG : ∀ U, Below wl.heap.size wl U → Calls Tryd.prog 31 #[.agg #[.slice a1 n c1, .slice a2 m c2], .int .i64 ((k : Int) * 8), .int .i64 8] U fun r w' => ∃ v', r = .returned (.tuple #[v', .int .i64 (Dk.gerr S ((k : Int) * 8) 8)]) ∧ Own1 U.heap.size w' v' R ∧ Below U.heap.size U w' := fun U hU => by
        have hd := HI.out.below (HX.out.1.trans (hU.mono HX.out.1.size))
        refine (Dk.getAll_any n0 _ S ((k : Int) * 8) 8 U hd (by omega)).mono ?_
        rintro r w' ⟨v', rfl, h1, h2⟩
        refine ⟨v', rfl, ?_, h2⟩
        rw [HR.out.2]
        exact .mk h1 (gout_oc hd _ _)
      obtain ⟨ge, hge⟩ : ∃ z, z = Dk.gerr S ((k : Int) * 8) 8 := ⟨_, rfl⟩
      rw [← hge] at HG
      have HGH : Hid (∀ U, Below wl.heap.size wl U → Calls Tryd.prog 31 #[.agg #[.slice a1 n c1, .slice a2 m c2], .int .i64 ((k : Int) * 8), .int .i64 8] U fun r w' => ∃ v', r = .returned (.tuple #[v', .int .i64 ge]) ∧ Own1 U.heap.size w' v' R ∧ Below U.heap.size U w') := HG
      clear HG hge
      go_upto_region 8 with fail
      obtain ⟨X0, hX0⟩ : ∃ Z, Z = wl.drew := ⟨_, rfl⟩
      have hbX : Below wl.heap.size wl X0 := by rw [hX0]; exact (Below.refl _ wl).drew
      refine AnyBut.begin (fun U => U.cell? ⟨w.heap.size, 0, none⟩ = some (.slice a1 n c1) ∧ U.cell? ⟨w.heap.size, 1, none⟩ = some (.slice a2 m c2)) 1000 (by kernel_rfl) ?_
      rw [← hX0]
      clear hX0
      have HS : Hid (∀ U, Below wl.heap.size wl U → U.cell? ⟨w.heap.size, 0, none⟩ = some (.slice a1 n c1) ∧ U.cell? ⟨w.heap.size, 1, none⟩ = some (.slice a2 m c2)) := fun U hU => by
        obtain ⟨h0, h1, -, -⟩ := (HX.out.2.1.below hU HX.out.2.1.lt).two
        exact ⟨h0, h1⟩
      have hSS := HS.out X0 hbX
      refine tx 0 23 hSS ?_
      simp only [ua, ub, uc, ud]
      refine tx 1 24 hSS ?_
      simp only [ua, ub, uc, ud]
      refine AnyBut.step (i := 2) (by kernel_rfl) rfl (fun K hK => ?_)
      go_simp
      refine (first_any (k : Int) ⟨by omega, by omega⟩ _).mono ?_
      rintro r w4 ⟨rfl, rfl⟩
      dsimp only
      refine hK.out _ _ hSS ?_
      clear hK
      refine AnyBut.step (i := 3) (by kernel_rfl) rfl (fun K hK => ?_)
      go_simp
      refine (HGH.out X0 hbX).mono ?_
      rintro r w4 ⟨v4, rfl, ho4, hb4⟩
      dsimp only
      have hb4' := below_any hbX hb4
      obtain ⟨ga, gc, rfl⟩ := ho4.shape
      obtain ⟨rl, hrl⟩ : ∃ z, z = R.length := ⟨_, rfl⟩
      rw [← hrl] at ho4 ⊢
      have HRL : Hid (rl = R.length) := hrl
      clear hrl
      have hSS := HS.out w4 hb4'
      refine hK.out _ _ hSS ?_
      clear hK
      refine tx 4 22 hSS ?_
      simp only [ua, ub, uc, ud]
      refine tx 5 27 hSS ?_
      simp only [ua, ub, uc, ud]
      refine tx 6 28 hSS ?_
      simp only [ua, ub, uc, ud]
      refine tx 7 8 hSS ?_
      simp only [ua, ub, uc, ud]
      refine tx 8 9 hSS ?_
      simp only [ua, ub, uc, ud]
      refine AnyBut.done (by kernel_rfl) ?_
      have H4 : Hid (Below wl.heap.size wl w4 ∧ Arg 0 w4 (.slice ga rl gc) R ∧ Below w.heap.size w w4) := ⟨hb4', ho4.arg.weaken (Nat.zero_le _), HX.out.1.trans (hb4'.mono HX.out.1.size)⟩
      have HD := pdec_any 0 (.slice ga rl gc) R w4 H4.out.2.1 (HB.out.2.2.2.2 w4 H4.out.2.2)
      obtain ⟨de, hde⟩ : ∃ z, z = dptE R := ⟨_, rfl⟩
      obtain ⟨⟨p0, p1, p2, p3, pd⟩, hpv⟩ : ∃ z, z = dptV R := ⟨_, rfl⟩
      rw [← hde, ← hpv] at HD
      have HDV : Hid (de = dptE R ∧ (p0, p1, p2, p3, pd) = dptV R) := ⟨hde, hpv⟩
      clear hSS hbX ho4 hb4 hb4' HS HGH hde hpv
      go_wp2_with fail
      refine HD.mono ?_
      rintro r w5 ⟨⟨u, rfl, pa, pc, rfl, hap⟩, hb5⟩
      simp only at hap ⊢
      obtain ⟨pl, hpl⟩ : ∃ z, z = pd.length := ⟨_, rfl⟩
      rw [← hpl] at hap ⊢
      obtain ⟨Y, hY⟩ : ∃ V, V = w5.alloc (.cells #[.int .i64 p0, .int .i64 p1, .int .i64 p2, .int .i64 p3, .slice pa pl pc] 29) := ⟨_, rfl⟩
      have hbY : Below w5.heap.size w5 Y := by rw [hY]; exact (Below.refl _ w5).alloc (Nat.le_refl _) _
      have hBY : Box Y w5.heap.size 29 #[.int .i64 p0, .int .i64 p1, .int .i64 p2, .int .i64 p3, .slice pa pl pc] := by rw [hY]; exact Box.new _ _ _
      have b4Y := below_any hb5 hbY
      have blY := below_any H4.out.1 b4Y
      have HY : Hid (Below w.heap.size w Y ∧ Box Y w.heap.size 40 #[.slice a1 n c1, .slice a2 m c2] ∧ Box Y (w.heap.size + 1) 29 #[.int .i64 0, .int .i64 0, .int .i64 0, .int .i64 0, .slice none 0 0] ∧ Box Y N 29 #[.int .i64 x0, .int .i64 x1, .int .i64 x2, .int .i64 x3, .slice xa xl xc] ∧ Arg V.heap.size Y (.slice xa xl xc) xd ∧ Box Y w5.heap.size 29 #[.int .i64 p0, .int .i64 p1, .int .i64 p2, .int .i64 p3, .slice pa pl pc] ∧ Arg w4.heap.size Y (.slice pa pl pc) pd ∧ pl = pd.length ∧ N < w4.heap.size ∧ V.heap.size ≤ w4.heap.size) :=
        ⟨HX.out.1.trans (blY.mono HX.out.1.size), HX.out.2.1.below blY HX.out.2.1.lt, HX.out.2.2.1.below blY HX.out.2.2.1.lt, HX.out.2.2.2.1.below blY HX.out.2.2.2.1.lt, HX.out.2.2.2.2.1.below blY, hBY, hap.below hbY, hpl, Nat.lt_of_lt_of_le HX.out.2.2.2.2.2.2 H4.out.1.size, Nat.le_trans (show V.heap.size ≤ wl.heap.size by have h1 := HVS.out; have h2 := HX.out.2.2.2.2.2.2; omega) H4.out.1.size⟩
      clear hb5 hbY hBY b4Y blY hap hpl HD
      go_upto_region 10 with fail
      rw [← hY]
      clear hY
      have HKEEP : Hid (fK A B (k + 1) = fb ∧ qK A B (k + 1) = (x0, x1, x2, x3, xd) → (LdI w N V.heap.size S a1 c1 a2 c2 n m (qK A B (k + 1)) Y)) := fun h => by
        unfold LdI
        rw [h.2]
        refine ⟨HY.out.1, HY.out.2.1, HY.out.2.2.1, xa, xc, ?_, ?_⟩
        · simp only; rw [← HX.out.2.2.2.2.2.1]; exact HY.out.2.2.2.1
        · simp only; have := HY.out.2.2.2.2.1; rw [HX.out.2.2.2.2.2.1] at this; exact this
      have HNEW : Hid (qK A B (k + 1) = (p0, p1, p2, p3, pd) → ∀ u0 u1 u2 u3 u4, u0 = .int .i64 p0 → u1 = .int .i64 p1 → u2 = .int .i64 p2 → u3 = .int .i64 p3 → u4 = .slice pa pl pc → (LdI w N V.heap.size S a1 c1 a2 c2 n m (qK A B (k + 1)) (set5 Y N u0 u1 u2 u3 u4))) := fun h u0 u1 u2 u3 u4 h0 h1 h2 h3 h4 => by
        subst h0 h1 h2 h3 h4
        unfold LdI
        rw [h]
        have hne : w.heap.size ≠ N := by have := HVN.out.1; omega
        have hne2 : w.heap.size + 1 ≠ N := by have := HVN.out.1; omega
        refine ⟨below_set5 HY.out.1 (by have := HVN.out.1; omega) _ _ _ _ _, box_oth5 HY.out.2.1 hne _ _ _ _ _, box_oth5 HY.out.2.2.1 hne2 _ _ _ _ _, pa, pc, ?_, ?_⟩
        · simp only; rw [← HY.out.2.2.2.2.2.2.2.1]; exact box_set5 HY.out.2.2.2.1 _ _ _ _ _
        · simp only
          have hh : Arg V.heap.size (set5 Y N (.int .i64 p0) (.int .i64 p1) (.int .i64 p2) (.int .i64 p3) (.slice pa pl pc)) (.slice pa pl pc) pd := (Arg.keep HY.out.2.2.2.2.2.2.1 (same_set5 HY.out.2.2.2.2.2.2.2.2.1)).weaken HY.out.2.2.2.2.2.2.2.2.2
          rw [← HY.out.2.2.2.2.2.2.2.1]
          exact hh
      by_cases hz : de = 0
      rotate_left
      · have hst := k_bad A B k hlt (by rw [← HR.out.1, ← HDV.out.1]; exact hz)
        have HE : Hid (fb = fK A B (k + 1) ∧ (LdI w N V.heap.size S a1 c1 a2 c2 n m (qK A B (k + 1)) Y)) := ⟨by rw [HQ.out.2, hst.1], HKEEP.out ⟨by rw [hst.1, HQ.out.2], by rw [hst.2, HQ.out.1]⟩⟩
        clear hst
        go_wp2
        go_roundw
        case rel => exact ⟨k + 1, by omega, by rw [HE.out.1], by go_num, HE.out.2⟩
        case measure => simp [intOf]; omega
      subst hz
      have hz' : dptE (rK A B k) = 0 := by rw [← HR.out.1]; exact HDV.out.1.symm
      have HPV : Hid (dptV (rK A B k) = (p0, p1, p2, p3, pd)) := by show _ = _; rw [← HR.out.1]; exact HDV.out.2.symm
      obtain ⟨⟨g0, g1, g2, g3, g4⟩, -⟩ := box5 HY.out.2.2.2.2.2.1
      obtain ⟨⟨d0, d1, d2, d3, d4⟩, e0, e1, e2, e3, e4⟩ := box5 HY.out.2.2.2.1
      by_cases hnew : fb = false ∨ x0 < p0
      · have hst := k_new A B k hlt hz' (by rw [← HQ.out.2, ← HQ.out.1, HPV.out]; exact hnew)
        have HE : Hid (fK A B (k + 1) = true ∧ ∀ u0 u1 u2 u3 u4, u0 = .int .i64 p0 → u1 = .int .i64 p1 → u2 = .int .i64 p2 → u3 = .int .i64 p3 → u4 = .slice pa pl pc → (LdI w N V.heap.size S a1 c1 a2 c2 n m (qK A B (k + 1)) (set5 Y N u0 u1 u2 u3 u4))) := ⟨hst.1, HNEW.out (by rw [hst.2]; exact HPV.out)⟩
        clear hst hz'
        cases fb
        · clear hnew
          go_wp2
          go_roundw
          case rel => exact ⟨k + 1, by omega, by rw [HE.out.1], by go_num, HE.out.2 _ _ _ _ _ rfl rfl rfl rfl rfl⟩
          case measure => simp [intOf]; omega
        · have hgt : x0 < p0 := by rcases hnew with h | h; · cases h
                                   · exact h
          clear hnew
          go_wp2
          go_roundw
          case rel => exact ⟨k + 1, by omega, by rw [HE.out.1], by go_num, HE.out.2 _ _ _ _ _ rfl rfl rfl rfl rfl⟩
          case measure => simp [intOf]; omega
      · obtain rfl : fb = true := by cases fb; · exact absurd (.inl rfl) hnew
                                     · rfl
        have hgt : ¬ x0 < p0 := fun h => hnew (.inr h)
        have hst := k_old A B k hlt hz' HQ.out.2.symm (by rw [← HQ.out.1, HPV.out]; exact hgt)
        have HE : Hid (fK A B (k + 1) = true ∧ (LdI w N V.heap.size S a1 c1 a2 c2 n m (qK A B (k + 1)) Y)) := ⟨hst.1, HKEEP.out ⟨hst.1, by rw [hst.2, HQ.out.1]⟩⟩
        clear hst hz' hnew
        go_wp2
        go_roundw
        case rel => exact ⟨k + 1, by omega, by rw [HE.out.1], by go_num, HE.out.2⟩
        case measure => simp [intOf]; omega
    · obtain rfl : k = 2 := by omega
      obtain ⟨⟨d0, d1, d2, d3, d4⟩, e0, e1, e2, e3, e4⟩ := box5 HX.out.2.2.1
      obtain ⟨⟨g0, g1, g2, g3, g4⟩, -⟩ := box5 HX.out.2.2.2.1
      clear hlt hk
      cases fb
      · have hst := (k_end A B).2 HQ.out.2.symm
        have HQ9 : Hid (∀ u0 u1 u2 u3 u4 U, U = .tuple #[.agg #[.int .i64 0, .int .i64 0, .int .i64 0, .int .i64 0, .slice none 0 0], .int .i64 21] → post (.returned U) (set5 wl (w.heap.size + 1) u0 u1 u2 u3 u4)) := HPz.out 21 wl (by rw [HAB.out.2.2.1, hst.1]) (by rw [HAB.out.2.2.2, hst.2]) HX.out.1
        clear hst
        go_wp2
        refine bodyPost_ret (v := .tuple #[.agg #[.int .i64 0, .int .i64 0, .int .i64 0, .int .i64 0, .slice none 0 0], .int .i64 21]) (by simp [results, Tryd.results15, go_sem, *]) rfl (HQ9.out _ _ _ _ _ _ rfl)
      · have hst := (k_end A B).1 HQ.out.2.symm
        have HQ9 : Hid (∀ u0 u1 u2 u3 u4 U, U = .tuple #[.agg #[.int .i64 x0, .int .i64 x1, .int .i64 x2, .int .i64 x3, .slice xa xl xc], .int .i64 0] → post (.returned U) (set5 wl (w.heap.size + 1) u0 u1 u2 u3 u4)) := fun u0 u1 u2 u3 u4 U hU => by
          rw [hU]
          refine HPo.out 0 _ _ (by rw [HAB.out.2.2.1, hst]) ?_ (below_set5 HX.out.1 (by omega) _ _ _ _ _)
          rw [HAB.out.2.2.2, show ldN A B = qK A B 2 from rfl, ← HQ.out.1]
          have ha := (Arg.keep HX.out.2.2.2.2.1 (same_set5 (u0 := u0) (u1 := u1) (u2 := u2) (u3 := u3) (u4 := u4) (B := w.heap.size + 1) (by have := HVN.out; omega))).weaken HVN.out.2.2
          have h5 := HX.out.2.2.2.2.2.1
          rw [h5] at ha ⊢
          exact ⟨xa, xc, rfl, ha⟩
        clear hst
        go_wp2
        refine bodyPost_ret (v := .tuple #[.agg #[.int .i64 x0, .int .i64 x1, .int .i64 x2, .int .i64 x3, .slice xa xl xc], .int .i64 0]) (by simp [results, Tryd.results15, go_sem, *]) rfl (HQ9.out _ _ _ _ _ _ rfl)

end Go.Proofs.YthlfgpnabcplnaaDoor.W