/-
  Octets read as an op: ops.Decode.
  An op in memory of its own; two ops that are one.
-/
import Derived.Test.YtopcefhncildnaaGreatDoorV32
import Derived.Test.YtopcefhncildnaaGreatDoorV45
import Derived.Test.YtopcefhncildnaaGreatDoorV46
set_option maxRecDepth 100000
set_option maxHeartbeats 8000000
namespace Go.Proofs.YtopcefhncildnaaGreatDoor.K
open Go.RowKit
set_option linter.unusedVariables false
theorem box6 {w : World} {B : Nat} {t : TypeId} {u0 u1 u2 u3 u4 u5 : Value} (h : Box w B t #[u0, u1, u2, u3, u4, u5]) : (w.cell? ⟨B, 0, none⟩ = some u0 ∧ w.cell? ⟨B, 1, none⟩ = some u1 ∧ w.cell? ⟨B, 2, none⟩ = some u2 ∧ w.cell? ⟨B, 3, none⟩ = some u3 ∧ w.cell? ⟨B, 4, none⟩ = some u4 ∧ w.cell? ⟨B, 5, none⟩ = some u5) ∧ (w.frozen? ⟨B, 0, none⟩ = false ∧ w.frozen? ⟨B, 1, none⟩ = false ∧ w.frozen? ⟨B, 2, none⟩ = false ∧ w.frozen? ⟨B, 3, none⟩ = false ∧ w.frozen? ⟨B, 4, none⟩ = false ∧ w.frozen? ⟨B, 5, none⟩ = false) :=
 ⟨⟨h.cell 0 rfl, h.cell 1 rfl, h.cell 2 rfl, h.cell 3 rfl, h.cell 4 rfl, h.cell 5 rfl⟩, h.frozen 0, h.frozen 1, h.frozen 2, h.frozen 3, h.frozen 4, h.frozen 5⟩
theorem below_set6 {B n : Nat} {w W : World} (h : Below n w W) (hn : n ≤ B) (u0 u1 u2 u3 u4 u5 : Value) : Below n w ((((((W.setCell ⟨B, 0, none⟩ u0).setCell ⟨B, 1, none⟩ u1).setCell ⟨B, 2, none⟩ u2).setCell ⟨B, 3, none⟩ u3).setCell ⟨B, 4, none⟩ u4).setCell ⟨B, 5, none⟩ u5) := ((below_set4 h hn u0 u1 u2 u3).setCell (p := ⟨B, 4, none⟩) hn u4).setCell (p := ⟨B, 5, none⟩) hn u5
theorem same_set6 {n B : Nat} {w : World} {u0 u1 u2 u3 u4 u5 : Value} (hB : B < n) : Same n w ((((((w.setCell ⟨B, 0, none⟩ u0).setCell ⟨B, 1, none⟩ u1).setCell ⟨B, 2, none⟩ u2).setCell ⟨B, 3, none⟩ u3).setCell ⟨B, 4, none⟩ u4).setCell ⟨B, 5, none⟩ u5) := Same.trans (same_set4 hB) (by simp [World.setCell]) (Same.trans (.set hB) (by simp [World.setCell]) (.set hB))
theorem box_set6 {w : World} {B : Nat} {t : TypeId} {v0 v1 v2 v3 v4 v5 : Value} (h : Box w B t #[v0, v1, v2, v3, v4, v5]) (u0 u1 u2 u3 u4 u5 : Value) : Box ((((((w.setCell ⟨B, 0, none⟩ u0).setCell ⟨B, 1, none⟩ u1).setCell ⟨B, 2, none⟩ u2).setCell ⟨B, 3, none⟩ u3).setCell ⟨B, 4, none⟩ u4).setCell ⟨B, 5, none⟩ u5) B t #[u0, u1, u2, u3, u4, u5] := (((((h.set 0 u0).set 1 u1).set 2 u2).set 3 u3).set 4 u4).set 5 u5
def rcO (r : W.Rc) : Opd := (r.1, strOfNums (r.2.2.getD 0 []), strOfNums (r.2.2.getD 1 []), r.2.1.getD 0 0, r.2.1.getD 1 0, r.2.2.getD 2 [])
def zO : Opd := (0, ⟨#[]⟩, ⟨#[]⟩, 0, 0, [])
def dopE (b : List Int) : Int := if W.decE b ≠ 0 then W.decE b else if (W.decV b).2.1.length ≠ 2 ∨ (W.decV b).2.2.length ≠ 3 then 3 else opE (rcO (W.decV b)).1 (rcO (W.decV b)).2.1 (rcO (W.decV b)).2.2.1 (rcO (W.decV b)).2.2.2.2.2.length
def dopV (b : List Int) : Opd := if dopE b = 0 then rcO (W.decV b) else zO
def OpL (n : Nat) (w : World) (v : Value) (q : Opd) : Prop := ∃ a c, v = .agg #[.int .i64 q.1, .string q.2.1, .string q.2.2.1, .int .i64 q.2.2.2.1, .int .i64 q.2.2.2.2.1, .slice a q.2.2.2.2.2.length c] ∧ Arg n w (.slice a q.2.2.2.2.2.length c) q.2.2.2.2.2
theorem opl_zero (n : Nat) (w : World) : OpL n w (.agg #[.int .i64 0, .string ⟨#[]⟩, .string ⟨#[]⟩, .int .i64 0, .int .i64 0, .slice none 0 0]) zO := ⟨none, 0, rfl, arg_nil _ _⟩
theorem two_of {α : Type} {l : List α} (h : l.length = 2) : ∃ a b, l = [a, b] := by
 rcases l with _ | ⟨a, _ | ⟨b, _ | ⟨c, r⟩⟩⟩
 · cases h
 · cases h
 · exact ⟨a, b, rfl⟩
 · simp at h
theorem three_of {α : Type} {l : List α} (h : l.length = 3) : ∃ a b c, l = [a, b, c] := by
 rcases l with _ | ⟨a, r⟩
 · cases h
 · obtain ⟨b, c, rfl⟩ := two_of (l := r) (by simpa using h)
   exact ⟨a, b, c, rfl⟩
theorem str_size (l : List Int) : (strOfNums l).size = l.length := by
 show ((l.map fun n => UInt8.ofNat n.toNat).toArray).size = _
 simp
theorem dec_any (n0 : Nat) (v : Value) (b : List Int) (w : World) (h : Arg n0 w v b) (hs : b.length ≤ 140737488351232) (hg : Glob w) :
   Calls Tryz.prog 25 #[v] w fun e w' => (∃ u, e = .returned (.tuple #[u, .int .i64 (dopE b)]) ∧ OpL w.heap.size w' u (dopV b)) ∧ Below w.heap.size w w' := by
 obtain ⟨W1, hW1⟩ := exa (w.alloc (.cells #[.int .i64 0, .string ⟨#[]⟩, .string ⟨#[]⟩, .int .i64 0, .int .i64 0, .slice none 0 0] 56))
 have hb1 : Below w.heap.size w W1 := by rw [hW1]; exact (Below.refl _ w).alloc (Nat.le_refl _) _
 have hB1 : Box W1 w.heap.size 56 #[.int .i64 0, .string ⟨#[]⟩, .string ⟨#[]⟩, .int .i64 0, .int .i64 0, .slice none 0 0] := by rw [hW1]; exact Box.new _ _ _
 have HC := W.dec_any n0 v b W1 (w_arg (h.below hb1)) (by omega) (hg.below hb1 hg.lt)
 have HB : Hid (Below w.heap.size w W1 ∧ Box W1 w.heap.size 56 #[.int .i64 0, .string ⟨#[]⟩, .string ⟨#[]⟩, .int .i64 0, .int .i64 0, .slice none 0 0]) := ⟨hb1, hB1⟩
 obtain ⟨post, hpost⟩ : ∃ post : Ending → World → Prop, post = fun e w' => (∃ u, e = .returned (.tuple #[u, .int .i64 (dopE b)]) ∧ OpL w.heap.size w' u (dopV b)) ∧ Below w.heap.size w w' := ⟨_, rfl⟩
 have HPo : Hid (∀ (k : Int) u w', k = dopE b → OpL w.heap.size w' u (dopV b) → Below w.heap.size w w' → post (.returned (.tuple #[u, .int .i64 k])) w') := fun k u w' h1 h2 h3 => by rw [hpost, h1]; exact ⟨⟨u, rfl, h2⟩, h3⟩
 rw [← hpost]
 clear hpost hb1 hB1 h hg
 go_enter Tryz.func25, Tryz.ntmps25
 go_wp2_with fail
 rw [← hW1]
 clear hW1
 refine HC.mono ?_
 rintro e w2 ⟨⟨us, rfl, ho⟩, hb2⟩
 obtain ⟨ax, cx, ay, cy, rfl⟩ := W.rec_oview ho
 obtain ⟨r, hr⟩ := exa (W.decV b)
 obtain ⟨de, hde⟩ := exa (W.decE b)
 have HDE : Hid (dopE b = (if de ≠ 0 then de else if r.2.1.length ≠ 2 ∨ r.2.2.length ≠ 3 then 3 else opE (rcO r).1 (rcO r).2.1 (rcO r).2.2.1 (rcO r).2.2.2.2.2.length) ∧ dopV b = (if dopE b = 0 then rcO r else zO)) := by (
 refine ⟨?_, ?_⟩
 · unfold dopE; rw [hr, hde]
 · unfold dopV; rw [hr])
 rw [← hr] at ho ⊢
 rw [← hde]
 clear HC hr hde
 obtain ⟨rk, ns, ts⟩ := r
 simp only at ho ⊢
 obtain ⟨nl, hnl⟩ := exa (ns.length)
 obtain ⟨tl, htl⟩ := exa (ts.length)
 rw [← hnl, ← htl] at ho ⊢
 obtain ⟨xx, yy, heq, hoi, hot, hok⟩ := W.rec_own ho
 simp only [List.cons.injEq, and_true, true_and] at heq
 obtain ⟨rfl, rfl⟩ := heq
 simp only at hoi hot hok
 obtain ⟨V, hV⟩ := exa (w2.alloc (.cells #[.int .i64 rk, .slice ax nl cx, .slice ay tl cy] 127))
 have hbV : Below w2.heap.size w2 V := by rw [hV]; exact (Below.refl _ w2).alloc (Nat.le_refl _) _
 have hBV : Box V w2.heap.size 127 #[.int .i64 rk, .slice ax nl cx, .slice ay tl cy] := by rw [hV]; exact Box.new _ _ _
 have HV : Hid (Below W1.heap.size W1 V ∧ Below w.heap.size w V ∧ Box V w2.heap.size 127 #[.int .i64 rk, .slice ax nl cx, .slice ay tl cy] ∧ (W.intsS.owns W1.heap.size V [.slice ax nl cx] ns ∧ W.textsS.owns W1.heap.size V [.slice ay tl cy] ts ∧ W.I64 rk) ∧ nl = ns.length ∧ tl = ts.length) := ⟨below_any hb2 hbV, HB.out.1.trans ((below_any hb2 hbV).mono HB.out.1.size), hBV, ⟨W.intsS.obelow hoi hbV, W.textsS.obelow hot hbV, hok⟩, hnl, htl⟩
 clear ho hb2 hbV hBV hnl htl hoi hot hok
 have hl1 := run_len Tryz.underlying125 ax nl cx
 have hl2 := run_len Tryz.underlying89 ay tl cy
 go_upto_region 2 with fail
 rw [← hV]
 clear hV
 by_cases hd0 : de = 0
 rotate_left
 · have hk : de = dopE b := by rw [HDE.out.1, if_pos hd0]
   have HP : Hid (∀ u0 u1 u2 u3 u4 u5 U, U = .tuple #[.agg #[.int .i64 0, .string ⟨#[]⟩, .string ⟨#[]⟩, .int .i64 0, .int .i64 0, .slice none 0 0], .int .i64 de] → post (.returned U) ((((((V.setCell ⟨w.heap.size, 0, none⟩ u0).setCell ⟨w.heap.size, 1, none⟩ u1).setCell ⟨w.heap.size, 2, none⟩ u2).setCell ⟨w.heap.size, 3, none⟩ u3).setCell ⟨w.heap.size, 4, none⟩ u4).setCell ⟨w.heap.size, 5, none⟩ u5)) := fun u0 u1 u2 u3 u4 u5 Z hZ => by (
 rw [hZ]
 refine HPo.out _ _ _ hk ?_ (below_set6 HV.out.2.1 (Nat.le_refl _) _ _ _ _ _ _)
 rw [HDE.out.2, if_neg (by rw [← hk]; exact hd0)]
 exact opl_zero _ _)
   clear hk
   obtain ⟨⟨d0, d1, d2, d3, d4, d5⟩, e0, e1, e2, e3, e4, e5⟩ := box6 (HB.out.2.below HV.out.1 HB.out.2.lt)
   go_wp2
   refine bodyPost_ret (v := .tuple #[.agg #[.int .i64 0, .string ⟨#[]⟩, .string ⟨#[]⟩, .int .i64 0, .int .i64 0, .slice none 0 0], .int .i64 de]) (by simp [results, Tryz.results25, go_sem, *]) rfl (HP.out _ _ _ _ _ _ _ rfl)
 subst hd0
 obtain ⟨g0, g1, g2, -⟩ := HV.out.2.2.1.three
 by_cases hln : nl = 2 ∧ tl = 3
 rotate_left
 · have hk : (3 : Int) = dopE b := by
     rw [HDE.out.1, if_neg (by simp), if_pos]
     have h1 := HV.out.2.2.2.2.1
     have h2 := HV.out.2.2.2.2.2
     simp only
     omega
   have HP : Hid (∀ u0 u1 u2 u3 u4 u5 U, U = .tuple #[.agg #[.int .i64 0, .string ⟨#[]⟩, .string ⟨#[]⟩, .int .i64 0, .int .i64 0, .slice none 0 0], .int .i64 3] → post (.returned U) ((((((V.setCell ⟨w.heap.size, 0, none⟩ u0).setCell ⟨w.heap.size, 1, none⟩ u1).setCell ⟨w.heap.size, 2, none⟩ u2).setCell ⟨w.heap.size, 3, none⟩ u3).setCell ⟨w.heap.size, 4, none⟩ u4).setCell ⟨w.heap.size, 5, none⟩ u5)) := fun u0 u1 u2 u3 u4 u5 Z hZ => by (
 rw [hZ]
 refine HPo.out _ _ _ hk ?_ (below_set6 HV.out.2.1 (Nat.le_refl _) _ _ _ _ _ _)
 rw [HDE.out.2, if_neg (by rw [← hk]; decide)]
 exact opl_zero _ _)
   clear hk
   obtain ⟨⟨d0, d1, d2, d3, d4, d5⟩, e0, e1, e2, e3, e4, e5⟩ := box6 (HB.out.2.below HV.out.1 HB.out.2.lt)
   by_cases h2 : (nl : Int) = 2
   · have h3 : ¬ (tl : Int) = 3 := by omega
     clear hln
     go_wp2
     refine bodyPost_ret (v := .tuple #[.agg #[.int .i64 0, .string ⟨#[]⟩, .string ⟨#[]⟩, .int .i64 0, .int .i64 0, .slice none 0 0], .int .i64 3]) (by simp [results, Tryz.results25, go_sem, *]) rfl (HP.out _ _ _ _ _ _ _ rfl)
   · clear hln
     go_wp2
     refine bodyPost_ret (v := .tuple #[.agg #[.int .i64 0, .string ⟨#[]⟩, .string ⟨#[]⟩, .int .i64 0, .int .i64 0, .slice none 0 0], .int .i64 3]) (by simp [results, Tryz.results25, go_sem, *]) rfl (HP.out _ _ _ _ _ _ _ rfl)
 obtain ⟨rfl, rfl⟩ := hln
 obtain ⟨x0, x1, rfl⟩ := two_of HV.out.2.2.2.2.1.symm
 obtain ⟨t0, t1, t2, rfl⟩ := three_of HV.out.2.2.2.2.2.symm
 obtain ⟨hi, ht, hk⟩ := HV.out.2.2.2.1
 obtain ⟨b0, o0, ix0, c0, i0⟩ := W.ints_at (W.intsS.olies hi) 0 x0 rfl
 obtain ⟨b1, o1, ix1, c1, i1⟩ := W.ints_at (W.intsS.olies hi) 1 x1 rfl
 obtain ⟨b2, o2, v0, iy0, k0, ar0⟩ := W.texts_at (W.textsS.olies ht) 0 t0 rfl
 obtain ⟨b3, o3, v1, iy1, k1, ar1⟩ := W.texts_at (W.textsS.olies ht) 1 t1 rfl
 obtain ⟨b4, o4, v2, iy2, k2, ar2⟩ := W.texts_at (W.textsS.olies ht) 2 t2 rfl
 obtain ⟨y0, z0, rfl, -⟩ := ar0.shape
 obtain ⟨y1, z1, rfl, -⟩ := ar1.shape
 obtain ⟨y2, z2, rfl, -⟩ := ar2.shape
 have ix0 : ∀ W, (Instr.indexAt 125 (.slice ax 2 cx) (.int .i64 0)).run Tryz.prog W = .ok (.pointer (some ⟨b0, o0, none⟩)) W := ix0
 have ix1 : ∀ W, (Instr.indexAt 125 (.slice ax 2 cx) (.int .i64 1)).run Tryz.prog W = .ok (.pointer (some ⟨b1, o1, none⟩)) W := ix1
 have iy0 : ∀ W, (Instr.indexAt 89 (.slice ay 3 cy) (.int .i64 0)).run Tryz.prog W = .ok (.pointer (some ⟨b2, o2, none⟩)) W := iy0
 have iy1 : ∀ W, (Instr.indexAt 89 (.slice ay 3 cy) (.int .i64 1)).run Tryz.prog W = .ok (.pointer (some ⟨b3, o3, none⟩)) W := iy1
 have iy2 : ∀ W, (Instr.indexAt 89 (.slice ay 3 cy) (.int .i64 2)).run Tryz.prog W = .ok (.pointer (some ⟨b4, o4, none⟩)) W := iy2
 obtain ⟨l0, hl0⟩ := exa (t0.length)
 obtain ⟨l1, hl1'⟩ := exa (t1.length)
 obtain ⟨l2, hl2'⟩ := exa (t2.length)
 obtain ⟨p, hp⟩ := exa (strOfNums t0)
 obtain ⟨t, ht0⟩ := exa (strOfNums t1)
 rw [← hl0] at k0 ar0
 rw [← hl1'] at k1 ar1
 rw [← hl2'] at k2 ar2
 have HA : Hid (Arg W1.heap.size V (.slice y0 l0 z0) t0 ∧ Arg W1.heap.size V (.slice y1 l1 z1) t1 ∧ Arg W1.heap.size V (.slice y2 l2 z2) t2 ∧ l2 = t2.length ∧ p = strOfNums t0 ∧ t = strOfNums t1 ∧ I64 rk ∧ I64 x0 ∧ I64 x1 ∧ l0 = t0.length ∧ l1 = t1.length) := ⟨arg_w ar0, arg_w ar1, arg_w ar2, hl2', hp, ht0, hk, i0, i1, hl0, hl1'⟩
 have HS : Hid (∀ U, Below V.heap.size V U → (U.cell? ⟨w2.heap.size, 0, none⟩ = some (.int .i64 rk) ∧ U.cell? ⟨w2.heap.size, 1, none⟩ = some (.slice ax 2 cx) ∧ U.cell? ⟨w2.heap.size, 2, none⟩ = some (.slice ay 3 cy) ∧ U.cell? ⟨b0, o0, none⟩ = some (.int .i64 x0) ∧ U.cell? ⟨b1, o1, none⟩ = some (.int .i64 x1) ∧ U.cell? ⟨b2, o2, none⟩ = some (.slice y0 l0 z0) ∧ U.cell? ⟨b3, o3, none⟩ = some (.slice y1 l1 z1) ∧ U.cell? ⟨b4, o4, none⟩ = some (.slice y2 l2 z2) ∧ (convert 25 9 (.slice y0 l0 z0)).run Tryz.prog U = .ok (.string p) U ∧ (convert 25 9 (.slice y1 l1 z1)).run Tryz.prog U = .ok (.string t) U)) := fun U hU => by (
 have hcl : ∀ {z : Addr} {u : Value}, V.cell? z = some u → U.cell? z = some u := fun {z u} hz => by rw [hU.cell (cell_lt hz)]; exact hz
 have h1 := HV.out.2.2.1.below hU HV.out.2.2.1.lt
 refine ⟨h1.cell 0 rfl, h1.cell 1 rfl, h1.cell 2 rfl, hcl c0, hcl c1, hcl k0, hcl k1, hcl k2, ?_, ?_⟩
 · rw [HA.out.2.2.2.2.1]; exact F.conv_any (HA.out.1.below hU)
 · rw [HA.out.2.2.2.2.2.1]; exact F.conv_any (HA.out.2.1.below hU))
 clear hl0 hl1' hl2' hp ht0 hi ht hk i0 i1 ar0 ar1 ar2 c0 c1 k0 k1 k2
 go_upto_region 6 with fail
 clear g0 g1 g2
 obtain ⟨X0, hX0⟩ := exa (V.drew)
 have hbX : Below V.heap.size V X0 := by rw [hX0]; exact (Below.refl _ V).drew
 refine AnyBut.begin (fun U => U.cell? ⟨w2.heap.size, 0, none⟩ = some (.int .i64 rk) ∧ U.cell? ⟨w2.heap.size, 1, none⟩ = some (.slice ax 2 cx) ∧ U.cell? ⟨w2.heap.size, 2, none⟩ = some (.slice ay 3 cy) ∧ U.cell? ⟨b0, o0, none⟩ = some (.int .i64 x0) ∧ U.cell? ⟨b1, o1, none⟩ = some (.int .i64 x1) ∧ U.cell? ⟨b2, o2, none⟩ = some (.slice y0 l0 z0) ∧ U.cell? ⟨b3, o3, none⟩ = some (.slice y1 l1 z1) ∧ U.cell? ⟨b4, o4, none⟩ = some (.slice y2 l2 z2) ∧ (convert 25 9 (.slice y0 l0 z0)).run Tryz.prog U = .ok (.string p) U ∧ (convert 25 9 (.slice y1 l1 z1)).run Tryz.prog U = .ok (.string t) U) 1000 (by kernel_rfl) ?_
 rw [← hX0]
 clear hX0
 have hSS := HS.out X0 hbX
 refine tx 0 28 hSS ?_; simp only [ua,ub,uc,ud]
 refine tx 1 29 hSS ?_; simp only [ua,ub,uc,ud]
 refine tx 2 30 hSS ?_; simp only [ua,ub,uc,ud]
 refine tx 3 31 hSS ?_; simp only [ua,ub,uc,ud]
 refine tx 4 32 hSS ?_; simp only [ua,ub,uc,ud]
 refine tx 5 33 hSS ?_; simp only [ua,ub,uc,ud]
 refine tx 6 34 hSS ?_; simp only [ua,ub,uc,ud]
 refine tx 7 35 hSS ?_; simp only [ua,ub,uc,ud]
 refine tx 8 36 hSS ?_; simp only [ua,ub,uc,ud]
 refine tx 9 37 hSS ?_; simp only [ua,ub,uc,ud]
 refine tx 10 38 hSS ?_; simp only [ua,ub,uc,ud]
 refine tx 11 39 hSS ?_; simp only [ua,ub,uc,ud]
 refine tx 12 40 hSS ?_; simp only [ua,ub,uc,ud]
 refine tx 13 41 hSS ?_; simp only [ua,ub,uc,ud]
 refine tx 14 42 hSS ?_; simp only [ua,ub,uc,ud]
 refine tx 15 43 hSS ?_; simp only [ua,ub,uc,ud]
 refine tx 16 44 hSS ?_; simp only [ua,ub,uc,ud]
 refine tx 17 45 hSS ?_; simp only [ua,ub,uc,ud]
 refine tx 18 46 hSS ?_; simp only [ua,ub,uc,ud]
 refine tx 19 47 hSS ?_; simp only [ua,ub,uc,ud]
 refine tx 20 48 hSS ?_; simp only [ua,ub,uc,ud]
 refine tx 21 49 hSS ?_; simp only [ua,ub,uc,ud]
 refine tx 22 50 hSS ?_; simp only [ua,ub,uc,ud]
 refine tx 23 51 hSS ?_; simp only [ua,ub,uc,ud]
 refine tx 24 52 hSS ?_; simp only [ua,ub,uc,ud]
 refine AnyBut.step (i := 25) (by kernel_rfl) rfl (fun K hK => ?_)
 go_simp
 obtain ⟨X1, hX1⟩ := exa (X0.alloc (.cells #[.int .i64 0, .string ⟨#[]⟩, .string ⟨#[]⟩, .int .i64 0, .int .i64 0, .slice none 0 0] 56))
 have hb9 : Below X0.heap.size X0 X1 := by rw [hX1]; exact (Below.refl _ _).alloc (Nat.le_refl _) _
 have hB9 : Box X1 X0.heap.size 56 #[.int .i64 0, .string ⟨#[]⟩, .string ⟨#[]⟩, .int .i64 0, .int .i64 0, .slice none 0 0] := by rw [hX1]; exact Box.new _ _ _
 rw [← hX1]
 clear hX1
 have hbX1 := below_any hbX hb9
 refine hK.out _ _ (HS.out X1 hbX1) ?_
 clear hK hSS
 obtain ⟨⟨d0, d1, d2, d3, d4, d5⟩, e0, e1, e2, e3, e4, e5⟩ := box6 hB9
 refine AnyBut.step (i := 26) (by kernel_rfl) rfl (fun K hK => ?_)
 go_simp
 have hbX2 := below_set6 hbX1 hbX.size (.int .i64 rk) (.string p) (.string t) (.int .i64 x0) (.int .i64 x1) (.slice y2 l2 z2)
 have hB10 := box_set6 hB9 (.int .i64 rk) (.string p) (.string t) (.int .i64 x0) (.int .i64 x1) (.slice y2 l2 z2)
 obtain ⟨X2, hX2⟩ := exa (((((((X1.setCell ⟨X0.heap.size, 0, none⟩ (.int .i64 rk)).setCell ⟨X0.heap.size, 1, none⟩ (.string p)).setCell ⟨X0.heap.size, 2, none⟩ (.string t)).setCell ⟨X0.heap.size, 3, none⟩ (.int .i64 x0)).setCell ⟨X0.heap.size, 4, none⟩ (.int .i64 x1)).setCell ⟨X0.heap.size, 5, none⟩ (.slice y2 l2 z2)))
 rw [← hX2] at hbX2 hB10 ⊢
 refine hK.out _ _ (HS.out X2 hbX2) ?_
 clear hK hX2 d0 d1 d2 d3 d4 d5 e0 e1 e2 e3 e4 e5
 refine AnyBut.done (by kernel_rfl) ?_
 have HX : Hid (Below V.heap.size V X2 ∧ Box X2 X0.heap.size 56 #[.int .i64 rk, .string p, .string t, .int .i64 x0, .int .i64 x1, .slice y2 l2 z2] ∧ w.heap.size < X0.heap.size) := ⟨hbX2, hB10, Nat.lt_of_lt_of_le (Nat.lt_of_lt_of_le HB.out.2.lt HV.out.1.size) hbX.size⟩
 clear hb9 hB9 hbX1 hbX2 hB10 HS ix0 ix1 iy0 iy1 iy2 hl1 hl2 hbX
 have hpz : p.size ≤ maxLen := by rw [HA.out.2.2.2.2.1, str_size, ← HA.out.2.2.2.2.2.2.2.2.2.1]; exact (HA.out.1.shape).elim fun _ h => h.elim fun _ h => by have h3 := h.2.2.1; rw [← HA.out.2.2.2.2.2.2.2.2.2.1] at h3; exact h3
 have htz : t.size ≤ maxLen := by rw [HA.out.2.2.2.2.2.1, str_size, ← HA.out.2.2.2.2.2.2.2.2.2.2]; exact (HA.out.2.1.shape).elim fun _ h => h.elim fun _ h => by have h3 := h.2.2.1; rw [← HA.out.2.2.2.2.2.2.2.2.2.2] at h3; exact h3
 have HC := check_any rk x0 x1 p t hpz htz y2 l2 z2 X2
 obtain ⟨oe, hoe⟩ := exa (opE rk p t l2)
 have HOE : Hid (dopE b = oe) := by (
 show _ = _
 rw [HDE.out.1, if_neg (by simp), if_neg (by simp), hoe, HA.out.2.2.2.2.1, HA.out.2.2.2.2.2.1, HA.out.2.2.2.1]
 rfl)
 rw [← hoe] at HC
 clear hoe hpz htz
 obtain ⟨⟨d0, d1, d2, d3, d4, d5⟩, -⟩ := box6 HX.out.2.1
 go_wp2_with fail
 clear d0 d1 d2 d3 d4 d5
 refine HC.mono ?_
 rintro e w8 ⟨rfl, hb8⟩
 have H8 : Hid (Below V.heap.size V w8 ∧ Box w8 X0.heap.size 56 #[.int .i64 rk, .string p, .string t, .int .i64 x0, .int .i64 x1, .slice y2 l2 z2] ∧ Below w.heap.size w w8 ∧ Box w8 w.heap.size 56 #[.int .i64 0, .string ⟨#[]⟩, .string ⟨#[]⟩, .int .i64 0, .int .i64 0, .slice none 0 0]) := ⟨below_any HX.out.1 hb8, HX.out.2.1.below hb8 HX.out.2.1.lt, HV.out.2.1.trans ((below_any HX.out.1 hb8).mono HV.out.2.1.size), (HB.out.2.below HV.out.1 HB.out.2.lt).below (below_any HX.out.1 hb8) (Nat.lt_of_lt_of_le HB.out.2.lt HV.out.1.size)⟩
 clear HC hb8
 obtain ⟨⟨d0, d1, d2, d3, d4, d5⟩, e0, e1, e2, e3, e4, e5⟩ := box6 H8.out.2.2.2
 by_cases hz : oe = 0
 · subst hz
   have HP : Hid (∀ u0 u1 u2 u3 u4 u5 U, U = .tuple #[.agg #[.int .i64 rk, .string p, .string t, .int .i64 x0, .int .i64 x1, .slice y2 l2 z2], .int .i64 0] → post (.returned U) ((((((w8.setCell ⟨w.heap.size, 0, none⟩ u0).setCell ⟨w.heap.size, 1, none⟩ u1).setCell ⟨w.heap.size, 2, none⟩ u2).setCell ⟨w.heap.size, 3, none⟩ u3).setCell ⟨w.heap.size, 4, none⟩ u4).setCell ⟨w.heap.size, 5, none⟩ u5)) := fun u0 u1 u2 u3 u4 u5 Z hZ => by (
 rw [hZ]
 refine HPo.out _ _ _ HOE.out.symm ?_ (below_set6 H8.out.2.2.1 (Nat.le_refl _) _ _ _ _ _ _)
 rw [HDE.out.2, if_pos HOE.out]
 have ha : Arg w.heap.size ((((((w8.setCell ⟨w.heap.size, 0, none⟩ u0).setCell ⟨w.heap.size, 1, none⟩ u1).setCell ⟨w.heap.size, 2, none⟩ u2).setCell ⟨w.heap.size, 3, none⟩ u3).setCell ⟨w.heap.size, 4, none⟩ u4).setCell ⟨w.heap.size, 5, none⟩ u5) (.slice y2 l2 z2) t2 := Arg.weaken (Arg.keep (HA.out.2.2.1.below H8.out.1) (same_set6 HB.out.2.lt)) HB.out.1.size
 rw [HA.out.2.2.2.1] at ha ⊢
 rw [HA.out.2.2.2.2.1, HA.out.2.2.2.2.2.1]
 exact ⟨y2, z2, rfl, ha⟩)
   obtain ⟨⟨q0, q1, q2, q3, q4, q5⟩, -⟩ := box6 H8.out.2.1
   go_wp2
   refine bodyPost_ret (v := .tuple #[.agg #[.int .i64 rk, .string p, .string t, .int .i64 x0, .int .i64 x1, .slice y2 l2 z2], .int .i64 0]) (by simp [results, Tryz.results25, go_sem, *]) rfl (HP.out _ _ _ _ _ _ _ rfl)
 · have HP : Hid (∀ u0 u1 u2 u3 u4 u5 U, U = .tuple #[.agg #[.int .i64 0, .string ⟨#[]⟩, .string ⟨#[]⟩, .int .i64 0, .int .i64 0, .slice none 0 0], .int .i64 oe] → post (.returned U) ((((((w8.setCell ⟨w.heap.size, 0, none⟩ u0).setCell ⟨w.heap.size, 1, none⟩ u1).setCell ⟨w.heap.size, 2, none⟩ u2).setCell ⟨w.heap.size, 3, none⟩ u3).setCell ⟨w.heap.size, 4, none⟩ u4).setCell ⟨w.heap.size, 5, none⟩ u5)) := fun u0 u1 u2 u3 u4 u5 Z hZ => by
     rw [hZ]
     refine HPo.out _ _ _ HOE.out.symm ?_ (below_set6 H8.out.2.2.1 (Nat.le_refl _) _ _ _ _ _ _)
     rw [HDE.out.2, if_neg (by rw [HOE.out]; exact hz)]
     exact opl_zero _ _
   go_wp2
   refine bodyPost_ret (v := .tuple #[.agg #[.int .i64 0, .string ⟨#[]⟩, .string ⟨#[]⟩, .int .i64 0, .int .i64 0, .slice none 0 0], .int .i64 oe]) (by simp [results, Tryz.results25, go_sem, *]) rfl (HP.out _ _ _ _ _ _ _ rfl)
end Go.Proofs.YtopcefhncildnaaGreatDoor.K
namespace Go.Proofs.YtopcefhncildnaaGreatDoor.K
open Go.RowKit
set_option linter.unusedVariables false
theorem own_any {n1 : Nat} {k off m : Int} {p t : ByteArray} {da : Option Addr} {dl dc : Nat} {d : List Int} (hd : dl = d.length) (hf : d.length ≤ 140737488355232) {w : World} (hD : Arg n1 w (.slice da dl dc) d) :
   Calls Tryz.prog 22 #[.agg #[.int .i64 k, .string p, .string t, .int .i64 off, .int .i64 m, .slice da dl dc]] w fun e w' => (∃ a c, e = .returned (.agg #[.int .i64 k, .string p, .string t, .int .i64 off, .int .i64 m, .slice a dl c]) ∧ Own1 w.heap.size w' (.slice a dl c) d) ∧ Below w.heap.size w w' := by
 obtain ⟨W1, hW1⟩ := exa ((w.alloc (.cells #[.int .i64 k, .string p, .string t, .int .i64 off, .int .i64 m, .slice da dl dc] 56)).alloc (.cells #[.int .i64 0, .string ⟨#[]⟩, .string ⟨#[]⟩, .int .i64 0, .int .i64 0, .slice none 0 0] 56))
 have hb1 : Below w.heap.size w W1 := by rw [hW1]; exact ((Below.refl _ w).alloc (Nat.le_refl _) _).alloc (by simp) _
 have hB1 : Box W1 w.heap.size 56 #[.int .i64 k, .string p, .string t, .int .i64 off, .int .i64 m, .slice da dl dc] := by rw [hW1]; exact (Box.new _ _ _).alloc _
 have hB2 : Box W1 (w.heap.size + 1) 56 #[.int .i64 0, .string ⟨#[]⟩, .string ⟨#[]⟩, .int .i64 0, .int .i64 0, .slice none 0 0] := by (
 rw [hW1]
 have := Box.new (w.alloc (.cells #[.int .i64 k, .string p, .string t, .int .i64 off, .int .i64 m, .slice da dl dc] 56)) 56 #[.int .i64 0, .string ⟨#[]⟩, .string ⟨#[]⟩, .int .i64 0, .int .i64 0, .slice none 0 0]
 rwa [World.size_alloc] at this)
 have HC := F.copy_any n1 (.slice da dl dc) d W1 (hD.below hb1) (by omega)
 have HB : Hid (Below w.heap.size w W1 ∧ Box W1 w.heap.size 56 #[.int .i64 k, .string p, .string t, .int .i64 off, .int .i64 m, .slice da dl dc] ∧ Box W1 (w.heap.size + 1) 56 #[.int .i64 0, .string ⟨#[]⟩, .string ⟨#[]⟩, .int .i64 0, .int .i64 0, .slice none 0 0] ∧ dl = d.length) := ⟨hb1, hB1, hB2, hd⟩
 obtain ⟨post, hpost⟩ : ∃ post : Ending → World → Prop, post = fun e w' => (∃ a c, e = .returned (.agg #[.int .i64 k, .string p, .string t, .int .i64 off, .int .i64 m, .slice a dl c]) ∧ Own1 w.heap.size w' (.slice a dl c) d) ∧ Below w.heap.size w w' := ⟨_, rfl⟩
 have HPo : Hid (∀ a c w', Own1 w.heap.size w' (.slice a dl c) d → Below w.heap.size w w' → post (.returned (.agg #[.int .i64 k, .string p, .string t, .int .i64 off, .int .i64 m, .slice a dl c])) w') := fun a c w' h1 h2 => by rw [hpost]; exact ⟨⟨a, c, rfl, h1⟩, h2⟩
 rw [← hpost]
 have y5 := hB1.cell 5 rfl
 rw [hW1] at y5
 clear hpost hb1 hB1 hB2 hD hd hf
 go_enter Tryz.func22, Tryz.ntmps22
 go_wp2_with fail
 rw [← hW1]
 clear hW1 y5
 refine HC.mono ?_
 rintro e w2 ⟨⟨v2, rfl, ho2⟩, hb2⟩
 obtain ⟨a2, c2, rfl⟩ := ho2.shape
 have hdl := HB.out.2.2.2
 rw [← hdl] at ho2 ⊢
 clear hdl
 have h2w : Below w.heap.size w w2 := HB.out.1.trans (hb2.mono HB.out.1.size)
 have x1 := HB.out.2.1.below hb2 HB.out.2.1.lt
 have x2 := HB.out.2.2.1.below hb2 HB.out.2.2.1.lt
 have x1' := x1.set 5 (.slice a2 dl c2)
 have x2' := x2.other (i := 5) (x := .slice a2 dl c2) (show w.heap.size + 1 ≠ w.heap.size by omega)
 have HP : Hid (∀ u0 u1 u2 u3 u4 u5 V, V = .agg #[.int .i64 k, .string p, .string t, .int .i64 off, .int .i64 m, .slice a2 dl c2] → post (.returned V) (((((((w2.setCell ⟨w.heap.size, 5, none⟩ (.slice a2 dl c2)).setCell ⟨w.heap.size + 1, 0, none⟩ u0).setCell ⟨w.heap.size + 1, 1, none⟩ u1).setCell ⟨w.heap.size + 1, 2, none⟩ u2).setCell ⟨w.heap.size + 1, 3, none⟩ u3).setCell ⟨w.heap.size + 1, 4, none⟩ u4).setCell ⟨w.heap.size + 1, 5, none⟩ u5)) := fun u0 u1 u2 u3 u4 u5 V hV => by (
 rw [hV]
 have hlt := HB.out.2.2.1.lt
 have hs1 : Same W1.heap.size w2 (w2.setCell ⟨w.heap.size, 5, none⟩ (.slice a2 dl c2)) := .set (by omega)
 exact HPo.out _ _ _ (bytesS.oweaken (bytesS.osame (bytesS.osame ho2 hs1) (same_set6 hlt)) HB.out.1.size) (below_set6 (h2w.setCell (p := ⟨w.heap.size, 5, none⟩) (Nat.le_refl _) _) (by omega) _ _ _ _ _ _))
 obtain ⟨⟨d0, d1, d2, d3, d4, d5⟩, e0, e1, e2, e3, e4, e5⟩ := box6 x1
 obtain ⟨⟨f0, f1, f2, f3, f4, f5⟩, g0, g1, g2, g3, g4, g5⟩ := box6 x2
 clear HC hb2 ho2 h2w x1 x2 x1' x2'
 go_wp2
 refine bodyPost_ret (v := .agg #[.int .i64 k, .string p, .string t, .int .i64 off, .int .i64 m, .slice a2 dl c2]) (by simp [results, Tryz.results22, go_sem, *]) rfl (HP.out _ _ _ _ _ _ _ rfl)
theorem sameop_any {n1 n2 : Nat} {k off m : Int} {p t : ByteArray} {a1 a2 : Option Addr} {dl c1 c2 : Nat} {d : List Int} {w : World} (h1 : Arg n1 w (.slice a1 dl c1) d) (h2 : Arg n2 w (.slice a2 dl c2) d) :
   Calls Tryz.prog 28 #[.agg #[.int .i64 k, .string p, .string t, .int .i64 off, .int .i64 m, .slice a1 dl c1], .agg #[.int .i64 k, .string p, .string t, .int .i64 off, .int .i64 m, .slice a2 dl c2]] w fun e w' => e = .returned (.bool true) ∧ Below w.heap.size w w' := by
 obtain ⟨W1, hW1⟩ := exa ((w.alloc (.cells #[.int .i64 k, .string p, .string t, .int .i64 off, .int .i64 m, .slice a1 dl c1] 56)).alloc (.cells #[.int .i64 k, .string p, .string t, .int .i64 off, .int .i64 m, .slice a2 dl c2] 56))
 have hb1 : Below w.heap.size w W1 := by rw [hW1]; exact ((Below.refl _ w).alloc (Nat.le_refl _) _).alloc (by simp) _
 have hB1 : Box W1 w.heap.size 56 #[.int .i64 k, .string p, .string t, .int .i64 off, .int .i64 m, .slice a1 dl c1] := by rw [hW1]; exact (Box.new _ _ _).alloc _
 have hB2 : Box W1 (w.heap.size + 1) 56 #[.int .i64 k, .string p, .string t, .int .i64 off, .int .i64 m, .slice a2 dl c2] := by (
 rw [hW1]
 have := Box.new (w.alloc (.cells #[.int .i64 k, .string p, .string t, .int .i64 off, .int .i64 m, .slice a1 dl c1] 56)) 56 #[.int .i64 k, .string p, .string t, .int .i64 off, .int .i64 m, .slice a2 dl c2]
 rwa [World.size_alloc] at this)
 have HC : Calls Tryz.prog 27 #[.slice a1 dl c1, .slice a2 dl c2] W1 fun e w' => e = .returned (.bool true) ∧ Below W1.heap.size W1 w' := by (
 refine (F.same_any n1 n2 _ _ d d W1 (h1.below hb1) (h2.below hb1)).mono fun e w' h => ?_
 obtain ⟨h3, q, rfl⟩ := h
 exact ⟨by rw [h3]; simp, below_drewN (Below.refl _ _) q⟩)
 have HB : Hid (Below w.heap.size w W1) := hb1
 obtain ⟨⟨d0, d1, d2, d3, d4, d5⟩, -⟩ := box6 hB1
 obtain ⟨⟨f0, f1, f2, f3, f4, f5⟩, -⟩ := box6 hB2
 rw [hW1] at d0 d1 d2 d3 d4 d5 f0 f1 f2 f3 f4 f5
 clear hb1 hB1 hB2 h1 h2
 go_enter Tryz.func28, Tryz.ntmps28
 go_wp2_with fail
 rw [← hW1]
 clear hW1 d0 d1 d2 d3 d4 d5 f0 f1 f2 f3 f4 f5
 refine HC.mono ?_
 rintro e w2 ⟨rfl, hb2⟩
 have HQ : Hid (Below w.heap.size w w2) := HB.out.trans (hb2.mono HB.out.size)
 clear hb2 HC
 go_wp2
 go_ret
 exact ⟨by simp, HQ.out⟩
end Go.Proofs.YtopcefhncildnaaGreatDoor.K
