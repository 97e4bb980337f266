/-
  Octets read as an op: ops.Decode.
  Replies as data; the texts of a record behind the first.
  Octets read as a reply: ops.DecodeReply.
  An op in memory of its own; two ops that are one.
  Replies as data; equal ones are the same; what is laid is read back.
  OpsBack: the walk of the law.
-/
import Derived.Test.YtopcefhncildnaaGreatDoorX32
import Derived.Test.YtopcefhncildnaaGreatDoorX44
import Derived.Test.YtopcefhncildnaaGreatDoorX45
set_option maxRecDepth 100000
set_option maxHeartbeats 32000000
namespace Go.Proofs.YtopcefhncildnaaGreatDoor.K
open Go.RowKit
set_option linter.unusedVariables false
theorem box6 {w : World} {B : Nat} {t : TypeId} {u0 u1 u2 u3 u4 u5 : Value} (h : Box w B t #[u0, u1, u2, u3, u4, u5]) : (w.cell? ⟨B, 0, none⟩ = some u0 ∧ w.cell? ⟨B, 1, none⟩ = some u1 ∧ w.cell? ⟨B, 2, none⟩ = some u2 ∧ w.cell? ⟨B, 3, none⟩ = some u3 ∧ w.cell? ⟨B, 4, none⟩ = some u4 ∧ w.cell? ⟨B, 5, none⟩ = some u5) ∧ (w.frozen? ⟨B, 0, none⟩ = false ∧ w.frozen? ⟨B, 1, none⟩ = false ∧ w.frozen? ⟨B, 2, none⟩ = false ∧ w.frozen? ⟨B, 3, none⟩ = false ∧ w.frozen? ⟨B, 4, none⟩ = false ∧ w.frozen? ⟨B, 5, none⟩ = false) :=
 ⟨⟨h.cell 0 rfl, h.cell 1 rfl, h.cell 2 rfl, h.cell 3 rfl, h.cell 4 rfl, h.cell 5 rfl⟩, h.frozen 0, h.frozen 1, h.frozen 2, h.frozen 3, h.frozen 4, h.frozen 5⟩
theorem below_set6 {B n : Nat} {w W : World} (h : Below n w W) (hn : n ≤ B) (u0 u1 u2 u3 u4 u5 : Value) : Below n w ((((((W.setCell ⟨B, 0, none⟩ u0).setCell ⟨B, 1, none⟩ u1).setCell ⟨B, 2, none⟩ u2).setCell ⟨B, 3, none⟩ u3).setCell ⟨B, 4, none⟩ u4).setCell ⟨B, 5, none⟩ u5) := ((below_set4 h hn u0 u1 u2 u3).setCell (p := ⟨B, 4, none⟩) hn u4).setCell (p := ⟨B, 5, none⟩) hn u5
theorem same_set6 {n B : Nat} {w : World} {u0 u1 u2 u3 u4 u5 : Value} (hB : B < n) : Same n w ((((((w.setCell ⟨B, 0, none⟩ u0).setCell ⟨B, 1, none⟩ u1).setCell ⟨B, 2, none⟩ u2).setCell ⟨B, 3, none⟩ u3).setCell ⟨B, 4, none⟩ u4).setCell ⟨B, 5, none⟩ u5) := Same.trans (same_set4 hB) (by simp [World.setCell]) (Same.trans (.set hB) (by simp [World.setCell]) (.set hB))
theorem box_set6 {w : World} {B : Nat} {t : TypeId} {v0 v1 v2 v3 v4 v5 : Value} (h : Box w B t #[v0, v1, v2, v3, v4, v5]) (u0 u1 u2 u3 u4 u5 : Value) : Box ((((((w.setCell ⟨B, 0, none⟩ u0).setCell ⟨B, 1, none⟩ u1).setCell ⟨B, 2, none⟩ u2).setCell ⟨B, 3, none⟩ u3).setCell ⟨B, 4, none⟩ u4).setCell ⟨B, 5, none⟩ u5) B t #[u0, u1, u2, u3, u4, u5] := (((((h.set 0 u0).set 1 u1).set 2 u2).set 3 u3).set 4 u4).set 5 u5
def rcO (r : W.Rc) : Opd := (r.1, strOfNums (r.2.2.getD 0 []), strOfNums (r.2.2.getD 1 []), r.2.1.getD 0 0, r.2.1.getD 1 0, r.2.2.getD 2 [])
def zO : Opd := (0, ⟨#[]⟩, ⟨#[]⟩, 0, 0, [])
def dopE (b : List Int) : Int := if W.decE b ≠ 0 then W.decE b else if (W.decV b).2.1.length ≠ 2 ∨ (W.decV b).2.2.length ≠ 3 then 3 else opE (rcO (W.decV b)).1 (rcO (W.decV b)).2.1 (rcO (W.decV b)).2.2.1 (rcO (W.decV b)).2.2.2.2.2.length
def dopV (b : List Int) : Opd := if dopE b = 0 then rcO (W.decV b) else zO
def OpL (n : Nat) (w : World) (v : Value) (q : Opd) : Prop := ∃ a c, v = .agg #[.int .i64 q.1, .string q.2.1, .string q.2.2.1, .int .i64 q.2.2.2.1, .int .i64 q.2.2.2.2.1, .slice a q.2.2.2.2.2.length c] ∧ Arg n w (.slice a q.2.2.2.2.2.length c) q.2.2.2.2.2
theorem opl_zero (n : Nat) (w : World) : OpL n w (.agg #[.int .i64 0, .string ⟨#[]⟩, .string ⟨#[]⟩, .int .i64 0, .int .i64 0, .slice none 0 0]) zO := ⟨none, 0, rfl, arg_nil _ _⟩
theorem two_of {α : Type} {l : List α} (h : l.length = 2) : ∃ a b, l = [a, b] := by
 rcases l with _ | ⟨a, _ | ⟨b, _ | ⟨c, r⟩⟩⟩
 · cases h
 · cases h
 · exact ⟨a, b, rfl⟩
 · simp at h
theorem three_of {α : Type} {l : List α} (h : l.length = 3) : ∃ a b c, l = [a, b, c] := by
 rcases l with _ | ⟨a, r⟩
 · cases h
 · obtain ⟨b, c, rfl⟩ := two_of (l := r) (by simpa using h)
   exact ⟨a, b, c, rfl⟩
theorem str_size (l : List Int) : (strOfNums l).size = l.length := by
 show ((l.map fun n => UInt8.ofNat n.toNat).toArray).size = _
 simp
theorem dec_any (n0 : Nat) (v : Value) (b : List Int) (w : World) (h : Arg n0 w v b) (hs : b.length ≤ 140737488351232) (hg : Glob w) :
   Calls Tryz.prog 25 #[v] w fun e w' => (∃ u, e = .returned (.tuple #[u, .int .i64 (dopE b)]) ∧ OpL w.heap.size w' u (dopV b)) ∧ Below w.heap.size w w' := by
 obtain ⟨W1, hW1⟩ := exa (w.alloc (.cells #[.int .i64 0, .string ⟨#[]⟩, .string ⟨#[]⟩, .int .i64 0, .int .i64 0, .slice none 0 0] 56))
 have hb1 : Below w.heap.size w W1 := by rw [hW1]; exact (Below.refl _ w).alloc (Nat.le_refl _) _
 have hB1 : Box W1 w.heap.size 56 #[.int .i64 0, .string ⟨#[]⟩, .string ⟨#[]⟩, .int .i64 0, .int .i64 0, .slice none 0 0] := by rw [hW1]; exact Box.new _ _ _
 have HC := W.dec_any n0 v b W1 (w_arg (h.below hb1)) (by omega) (hg.below hb1 hg.lt)
 have HB : Hid (Below w.heap.size w W1 ∧ Box W1 w.heap.size 56 #[.int .i64 0, .string ⟨#[]⟩, .string ⟨#[]⟩, .int .i64 0, .int .i64 0, .slice none 0 0]) := ⟨hb1, hB1⟩
 obtain ⟨post, hpost⟩ : ∃ post : Ending → World → Prop, post = fun e w' => (∃ u, e = .returned (.tuple #[u, .int .i64 (dopE b)]) ∧ OpL w.heap.size w' u (dopV b)) ∧ Below w.heap.size w w' := ⟨_, rfl⟩
 have HPo : Hid (∀ (k : Int) u w', k = dopE b → OpL w.heap.size w' u (dopV b) → Below w.heap.size w w' → post (.returned (.tuple #[u, .int .i64 k])) w') := fun k u w' h1 h2 h3 => by rw [hpost, h1]; exact ⟨⟨u, rfl, h2⟩, h3⟩
 rw [← hpost]
 clear hpost hb1 hB1 h hg
 go_enter Tryz.func25, Tryz.ntmps25
 go_wp2_with fail
 rw [← hW1]
 clear hW1
 refine HC.mono ?_
 rintro e w2 ⟨⟨us, rfl, ho⟩, hb2⟩
 obtain ⟨ax, cx, ay, cy, rfl⟩ := W.rec_oview ho
 obtain ⟨r, hr⟩ := exa (W.decV b)
 obtain ⟨de, hde⟩ := exa (W.decE b)
 have HDE : Hid (dopE b = (if de ≠ 0 then de else if r.2.1.length ≠ 2 ∨ r.2.2.length ≠ 3 then 3 else opE (rcO r).1 (rcO r).2.1 (rcO r).2.2.1 (rcO r).2.2.2.2.2.length) ∧ dopV b = (if dopE b = 0 then rcO r else zO)) := by (
 refine ⟨?_, ?_⟩
 · unfold dopE; rw [hr, hde]
 · unfold dopV; rw [hr])
 rw [← hr] at ho ⊢
 rw [← hde]
 clear HC hr hde
 obtain ⟨rk, ns, ts⟩ := r
 simp only at ho ⊢
 obtain ⟨nl, hnl⟩ := exa (ns.length)
 obtain ⟨tl, htl⟩ := exa (ts.length)
 rw [← hnl, ← htl] at ho ⊢
 obtain ⟨xx, yy, heq, hoi, hot, hok⟩ := W.rec_own ho
 simp only [List.cons.injEq, and_true, true_and] at heq
 obtain ⟨rfl, rfl⟩ := heq
 simp only at hoi hot hok
 obtain ⟨V, hV⟩ := exa (w2.alloc (.cells #[.int .i64 rk, .slice ax nl cx, .slice ay tl cy] 127))
 have hbV : Below w2.heap.size w2 V := by rw [hV]; exact (Below.refl _ w2).alloc (Nat.le_refl _) _
 have hBV : Box V w2.heap.size 127 #[.int .i64 rk, .slice ax nl cx, .slice ay tl cy] := by rw [hV]; exact Box.new _ _ _
 have HV : Hid (Below W1.heap.size W1 V ∧ Below w.heap.size w V ∧ Box V w2.heap.size 127 #[.int .i64 rk, .slice ax nl cx, .slice ay tl cy] ∧ (W.intsS.owns W1.heap.size V [.slice ax nl cx] ns ∧ W.textsS.owns W1.heap.size V [.slice ay tl cy] ts ∧ W.I64 rk) ∧ nl = ns.length ∧ tl = ts.length) := ⟨below_any hb2 hbV, HB.out.1.trans ((below_any hb2 hbV).mono HB.out.1.size), hBV, ⟨W.intsS.obelow hoi hbV, W.textsS.obelow hot hbV, hok⟩, hnl, htl⟩
 clear ho hb2 hbV hBV hnl htl hoi hot hok
 have hl1 := run_len Tryz.underlying125 ax nl cx
 have hl2 := run_len Tryz.underlying89 ay tl cy
 go_upto_region 2 with fail
 rw [← hV]
 clear hV
 by_cases hd0 : de = 0
 rotate_left
 · have hk : de = dopE b := by rw [HDE.out.1, if_pos hd0]
   have HP : Hid (∀ u0 u1 u2 u3 u4 u5 U, U = .tuple #[.agg #[.int .i64 0, .string ⟨#[]⟩, .string ⟨#[]⟩, .int .i64 0, .int .i64 0, .slice none 0 0], .int .i64 de] → post (.returned U) ((((((V.setCell ⟨w.heap.size, 0, none⟩ u0).setCell ⟨w.heap.size, 1, none⟩ u1).setCell ⟨w.heap.size, 2, none⟩ u2).setCell ⟨w.heap.size, 3, none⟩ u3).setCell ⟨w.heap.size, 4, none⟩ u4).setCell ⟨w.heap.size, 5, none⟩ u5)) := fun u0 u1 u2 u3 u4 u5 Z hZ => by (
 rw [hZ]
 refine HPo.out _ _ _ hk ?_ (below_set6 HV.out.2.1 (Nat.le_refl _) _ _ _ _ _ _)
 rw [HDE.out.2, if_neg (by rw [← hk]; exact hd0)]
 exact opl_zero _ _)
   clear hk
   obtain ⟨⟨d0, d1, d2, d3, d4, d5⟩, e0, e1, e2, e3, e4, e5⟩ := box6 (HB.out.2.below HV.out.1 HB.out.2.lt)
   go_wp2
   refine bodyPost_ret (v := .tuple #[.agg #[.int .i64 0, .string ⟨#[]⟩, .string ⟨#[]⟩, .int .i64 0, .int .i64 0, .slice none 0 0], .int .i64 de]) (by simp [results, Tryz.results25, go_sem, *]) rfl (HP.out _ _ _ _ _ _ _ rfl)
 subst hd0
 obtain ⟨g0, g1, g2, -⟩ := HV.out.2.2.1.three
 by_cases hln : nl = 2 ∧ tl = 3
 rotate_left
 · have hk : (3 : Int) = dopE b := by
     rw [HDE.out.1, if_neg (by simp), if_pos]
     have h1 := HV.out.2.2.2.2.1
     have h2 := HV.out.2.2.2.2.2
     simp only
     omega
   have HP : Hid (∀ u0 u1 u2 u3 u4 u5 U, U = .tuple #[.agg #[.int .i64 0, .string ⟨#[]⟩, .string ⟨#[]⟩, .int .i64 0, .int .i64 0, .slice none 0 0], .int .i64 3] → post (.returned U) ((((((V.setCell ⟨w.heap.size, 0, none⟩ u0).setCell ⟨w.heap.size, 1, none⟩ u1).setCell ⟨w.heap.size, 2, none⟩ u2).setCell ⟨w.heap.size, 3, none⟩ u3).setCell ⟨w.heap.size, 4, none⟩ u4).setCell ⟨w.heap.size, 5, none⟩ u5)) := fun u0 u1 u2 u3 u4 u5 Z hZ => by (
 rw [hZ]
 refine HPo.out _ _ _ hk ?_ (below_set6 HV.out.2.1 (Nat.le_refl _) _ _ _ _ _ _)
 rw [HDE.out.2, if_neg (by rw [← hk]; decide)]
 exact opl_zero _ _)
   clear hk
   obtain ⟨⟨d0, d1, d2, d3, d4, d5⟩, e0, e1, e2, e3, e4, e5⟩ := box6 (HB.out.2.below HV.out.1 HB.out.2.lt)
   by_cases h2 : (nl : Int) = 2
   · have h3 : ¬ (tl : Int) = 3 := by omega
     clear hln
     go_wp2
     refine bodyPost_ret (v := .tuple #[.agg #[.int .i64 0, .string ⟨#[]⟩, .string ⟨#[]⟩, .int .i64 0, .int .i64 0, .slice none 0 0], .int .i64 3]) (by simp [results, Tryz.results25, go_sem, *]) rfl (HP.out _ _ _ _ _ _ _ rfl)
   · clear hln
     go_wp2
     refine bodyPost_ret (v := .tuple #[.agg #[.int .i64 0, .string ⟨#[]⟩, .string ⟨#[]⟩, .int .i64 0, .int .i64 0, .slice none 0 0], .int .i64 3]) (by simp [results, Tryz.results25, go_sem, *]) rfl (HP.out _ _ _ _ _ _ _ rfl)
 obtain ⟨rfl, rfl⟩ := hln
 obtain ⟨x0, x1, rfl⟩ := two_of HV.out.2.2.2.2.1.symm
 obtain ⟨t0, t1, t2, rfl⟩ := three_of HV.out.2.2.2.2.2.symm
 obtain ⟨hi, ht, hk⟩ := HV.out.2.2.2.1
 obtain ⟨b0, o0, ix0, c0, i0⟩ := W.ints_at (W.intsS.olies hi) 0 x0 rfl
 obtain ⟨b1, o1, ix1, c1, i1⟩ := W.ints_at (W.intsS.olies hi) 1 x1 rfl
 obtain ⟨b2, o2, v0, iy0, k0, ar0⟩ := W.texts_at (W.textsS.olies ht) 0 t0 rfl
 obtain ⟨b3, o3, v1, iy1, k1, ar1⟩ := W.texts_at (W.textsS.olies ht) 1 t1 rfl
 obtain ⟨b4, o4, v2, iy2, k2, ar2⟩ := W.texts_at (W.textsS.olies ht) 2 t2 rfl
 obtain ⟨y0, z0, rfl, -⟩ := ar0.shape
 obtain ⟨y1, z1, rfl, -⟩ := ar1.shape
 obtain ⟨y2, z2, rfl, -⟩ := ar2.shape
 have ix0 : ∀ W, (Instr.indexAt 125 (.slice ax 2 cx) (.int .i64 0)).run Tryz.prog W = .ok (.pointer (some ⟨b0, o0, none⟩)) W := ix0
 have ix1 : ∀ W, (Instr.indexAt 125 (.slice ax 2 cx) (.int .i64 1)).run Tryz.prog W = .ok (.pointer (some ⟨b1, o1, none⟩)) W := ix1
 have iy0 : ∀ W, (Instr.indexAt 89 (.slice ay 3 cy) (.int .i64 0)).run Tryz.prog W = .ok (.pointer (some ⟨b2, o2, none⟩)) W := iy0
 have iy1 : ∀ W, (Instr.indexAt 89 (.slice ay 3 cy) (.int .i64 1)).run Tryz.prog W = .ok (.pointer (some ⟨b3, o3, none⟩)) W := iy1
 have iy2 : ∀ W, (Instr.indexAt 89 (.slice ay 3 cy) (.int .i64 2)).run Tryz.prog W = .ok (.pointer (some ⟨b4, o4, none⟩)) W := iy2
 obtain ⟨l0, hl0⟩ := exa (t0.length)
 obtain ⟨l1, hl1'⟩ := exa (t1.length)
 obtain ⟨l2, hl2'⟩ := exa (t2.length)
 obtain ⟨p, hp⟩ := exa (strOfNums t0)
 obtain ⟨t, ht0⟩ := exa (strOfNums t1)
 rw [← hl0] at k0 ar0
 rw [← hl1'] at k1 ar1
 rw [← hl2'] at k2 ar2
 have HA : Hid (Arg W1.heap.size V (.slice y0 l0 z0) t0 ∧ Arg W1.heap.size V (.slice y1 l1 z1) t1 ∧ Arg W1.heap.size V (.slice y2 l2 z2) t2 ∧ l2 = t2.length ∧ p = strOfNums t0 ∧ t = strOfNums t1 ∧ I64 rk ∧ I64 x0 ∧ I64 x1 ∧ l0 = t0.length ∧ l1 = t1.length) := ⟨arg_w ar0, arg_w ar1, arg_w ar2, hl2', hp, ht0, hk, i0, i1, hl0, hl1'⟩
 have HS : Hid (∀ U, Below V.heap.size V U → (U.cell? ⟨w2.heap.size, 0, none⟩ = some (.int .i64 rk) ∧ U.cell? ⟨w2.heap.size, 1, none⟩ = some (.slice ax 2 cx) ∧ U.cell? ⟨w2.heap.size, 2, none⟩ = some (.slice ay 3 cy) ∧ U.cell? ⟨b0, o0, none⟩ = some (.int .i64 x0) ∧ U.cell? ⟨b1, o1, none⟩ = some (.int .i64 x1) ∧ U.cell? ⟨b2, o2, none⟩ = some (.slice y0 l0 z0) ∧ U.cell? ⟨b3, o3, none⟩ = some (.slice y1 l1 z1) ∧ U.cell? ⟨b4, o4, none⟩ = some (.slice y2 l2 z2) ∧ (convert 25 9 (.slice y0 l0 z0)).run Tryz.prog U = .ok (.string p) U ∧ (convert 25 9 (.slice y1 l1 z1)).run Tryz.prog U = .ok (.string t) U)) := fun U hU => by (
 have hcl : ∀ {z : Addr} {u : Value}, V.cell? z = some u → U.cell? z = some u := fun {z u} hz => by rw [hU.cell (cell_lt hz)]; exact hz
 have h1 := HV.out.2.2.1.below hU HV.out.2.2.1.lt
 refine ⟨h1.cell 0 rfl, h1.cell 1 rfl, h1.cell 2 rfl, hcl c0, hcl c1, hcl k0, hcl k1, hcl k2, ?_, ?_⟩
 · rw [HA.out.2.2.2.2.1]; exact F.conv_any (HA.out.1.below hU)
 · rw [HA.out.2.2.2.2.2.1]; exact F.conv_any (HA.out.2.1.below hU))
 clear hl0 hl1' hl2' hp ht0 hi ht hk i0 i1 ar0 ar1 ar2 c0 c1 k0 k1 k2
 go_upto_region 6 with fail
 clear g0 g1 g2
 obtain ⟨X0, hX0⟩ := exa (V.drew)
 have hbX : Below V.heap.size V X0 := by rw [hX0]; exact (Below.refl _ V).drew
 refine AnyBut.begin (fun U => U.cell? ⟨w2.heap.size, 0, none⟩ = some (.int .i64 rk) ∧ U.cell? ⟨w2.heap.size, 1, none⟩ = some (.slice ax 2 cx) ∧ U.cell? ⟨w2.heap.size, 2, none⟩ = some (.slice ay 3 cy) ∧ U.cell? ⟨b0, o0, none⟩ = some (.int .i64 x0) ∧ U.cell? ⟨b1, o1, none⟩ = some (.int .i64 x1) ∧ U.cell? ⟨b2, o2, none⟩ = some (.slice y0 l0 z0) ∧ U.cell? ⟨b3, o3, none⟩ = some (.slice y1 l1 z1) ∧ U.cell? ⟨b4, o4, none⟩ = some (.slice y2 l2 z2) ∧ (convert 25 9 (.slice y0 l0 z0)).run Tryz.prog U = .ok (.string p) U ∧ (convert 25 9 (.slice y1 l1 z1)).run Tryz.prog U = .ok (.string t) U) 1000 (by kernel_rfl) ?_
 rw [← hX0]
 clear hX0
 have hSS := HS.out X0 hbX
 refine tx 0 28 hSS ?_; simp only [ua,ub,uc,ud]
 refine tx 1 29 hSS ?_; simp only [ua,ub,uc,ud]
 refine tx 2 30 hSS ?_; simp only [ua,ub,uc,ud]
 refine tx 3 31 hSS ?_; simp only [ua,ub,uc,ud]
 refine tx 4 32 hSS ?_; simp only [ua,ub,uc,ud]
 refine tx 5 33 hSS ?_; simp only [ua,ub,uc,ud]
 refine tx 6 34 hSS ?_; simp only [ua,ub,uc,ud]
 refine tx 7 35 hSS ?_; simp only [ua,ub,uc,ud]
 refine tx 8 36 hSS ?_; simp only [ua,ub,uc,ud]
 refine tx 9 37 hSS ?_; simp only [ua,ub,uc,ud]
 refine tx 10 38 hSS ?_; simp only [ua,ub,uc,ud]
 refine tx 11 39 hSS ?_; simp only [ua,ub,uc,ud]
 refine tx 12 40 hSS ?_; simp only [ua,ub,uc,ud]
 refine tx 13 41 hSS ?_; simp only [ua,ub,uc,ud]
 refine tx 14 42 hSS ?_; simp only [ua,ub,uc,ud]
 refine tx 15 43 hSS ?_; simp only [ua,ub,uc,ud]
 refine tx 16 44 hSS ?_; simp only [ua,ub,uc,ud]
 refine tx 17 45 hSS ?_; simp only [ua,ub,uc,ud]
 refine tx 18 46 hSS ?_; simp only [ua,ub,uc,ud]
 refine tx 19 47 hSS ?_; simp only [ua,ub,uc,ud]
 refine tx 20 48 hSS ?_; simp only [ua,ub,uc,ud]
 refine tx 21 49 hSS ?_; simp only [ua,ub,uc,ud]
 refine tx 22 50 hSS ?_; simp only [ua,ub,uc,ud]
 refine tx 23 51 hSS ?_; simp only [ua,ub,uc,ud]
 refine tx 24 52 hSS ?_; simp only [ua,ub,uc,ud]
 refine AnyBut.step (i := 25) (by kernel_rfl) rfl (fun K hK => ?_)
 go_simp
 obtain ⟨X1, hX1⟩ := exa (X0.alloc (.cells #[.int .i64 0, .string ⟨#[]⟩, .string ⟨#[]⟩, .int .i64 0, .int .i64 0, .slice none 0 0] 56))
 have hb9 : Below X0.heap.size X0 X1 := by rw [hX1]; exact (Below.refl _ _).alloc (Nat.le_refl _) _
 have hB9 : Box X1 X0.heap.size 56 #[.int .i64 0, .string ⟨#[]⟩, .string ⟨#[]⟩, .int .i64 0, .int .i64 0, .slice none 0 0] := by rw [hX1]; exact Box.new _ _ _
 rw [← hX1]
 clear hX1
 have hbX1 := below_any hbX hb9
 refine hK.out _ _ (HS.out X1 hbX1) ?_
 clear hK hSS
 obtain ⟨⟨d0, d1, d2, d3, d4, d5⟩, e0, e1, e2, e3, e4, e5⟩ := box6 hB9
 refine AnyBut.step (i := 26) (by kernel_rfl) rfl (fun K hK => ?_)
 go_simp
 have hbX2 := below_set6 hbX1 hbX.size (.int .i64 rk) (.string p) (.string t) (.int .i64 x0) (.int .i64 x1) (.slice y2 l2 z2)
 have hB10 := box_set6 hB9 (.int .i64 rk) (.string p) (.string t) (.int .i64 x0) (.int .i64 x1) (.slice y2 l2 z2)
 obtain ⟨X2, hX2⟩ := exa (((((((X1.setCell ⟨X0.heap.size, 0, none⟩ (.int .i64 rk)).setCell ⟨X0.heap.size, 1, none⟩ (.string p)).setCell ⟨X0.heap.size, 2, none⟩ (.string t)).setCell ⟨X0.heap.size, 3, none⟩ (.int .i64 x0)).setCell ⟨X0.heap.size, 4, none⟩ (.int .i64 x1)).setCell ⟨X0.heap.size, 5, none⟩ (.slice y2 l2 z2)))
 rw [← hX2] at hbX2 hB10 ⊢
 refine hK.out _ _ (HS.out X2 hbX2) ?_
 clear hK hX2 d0 d1 d2 d3 d4 d5 e0 e1 e2 e3 e4 e5
 refine AnyBut.done (by kernel_rfl) ?_
 have HX : Hid (Below V.heap.size V X2 ∧ Box X2 X0.heap.size 56 #[.int .i64 rk, .string p, .string t, .int .i64 x0, .int .i64 x1, .slice y2 l2 z2] ∧ w.heap.size < X0.heap.size) := ⟨hbX2, hB10, Nat.lt_of_lt_of_le (Nat.lt_of_lt_of_le HB.out.2.lt HV.out.1.size) hbX.size⟩
 clear hb9 hB9 hbX1 hbX2 hB10 HS ix0 ix1 iy0 iy1 iy2 hl1 hl2 hbX
 have hpz : p.size ≤ maxLen := by rw [HA.out.2.2.2.2.1, str_size, ← HA.out.2.2.2.2.2.2.2.2.2.1]; exact (HA.out.1.shape).elim fun _ h => h.elim fun _ h => by have h3 := h.2.2.1; rw [← HA.out.2.2.2.2.2.2.2.2.2.1] at h3; exact h3
 have htz : t.size ≤ maxLen := by rw [HA.out.2.2.2.2.2.1, str_size, ← HA.out.2.2.2.2.2.2.2.2.2.2]; exact (HA.out.2.1.shape).elim fun _ h => h.elim fun _ h => by have h3 := h.2.2.1; rw [← HA.out.2.2.2.2.2.2.2.2.2.2] at h3; exact h3
 have HC := check_any rk x0 x1 p t hpz htz y2 l2 z2 X2
 obtain ⟨oe, hoe⟩ := exa (opE rk p t l2)
 have HOE : Hid (dopE b = oe) := by (
 show _ = _
 rw [HDE.out.1, if_neg (by simp), if_neg (by simp), hoe, HA.out.2.2.2.2.1, HA.out.2.2.2.2.2.1, HA.out.2.2.2.1]
 rfl)
 rw [← hoe] at HC
 clear hoe hpz htz
 obtain ⟨⟨d0, d1, d2, d3, d4, d5⟩, -⟩ := box6 HX.out.2.1
 go_wp2_with fail
 clear d0 d1 d2 d3 d4 d5
 refine HC.mono ?_
 rintro e w8 ⟨rfl, hb8⟩
 have H8 : Hid (Below V.heap.size V w8 ∧ Box w8 X0.heap.size 56 #[.int .i64 rk, .string p, .string t, .int .i64 x0, .int .i64 x1, .slice y2 l2 z2] ∧ Below w.heap.size w w8 ∧ Box w8 w.heap.size 56 #[.int .i64 0, .string ⟨#[]⟩, .string ⟨#[]⟩, .int .i64 0, .int .i64 0, .slice none 0 0]) := ⟨below_any HX.out.1 hb8, HX.out.2.1.below hb8 HX.out.2.1.lt, HV.out.2.1.trans ((below_any HX.out.1 hb8).mono HV.out.2.1.size), (HB.out.2.below HV.out.1 HB.out.2.lt).below (below_any HX.out.1 hb8) (Nat.lt_of_lt_of_le HB.out.2.lt HV.out.1.size)⟩
 clear HC hb8
 obtain ⟨⟨d0, d1, d2, d3, d4, d5⟩, e0, e1, e2, e3, e4, e5⟩ := box6 H8.out.2.2.2
 by_cases hz : oe = 0
 · subst hz
   have HP : Hid (∀ u0 u1 u2 u3 u4 u5 U, U = .tuple #[.agg #[.int .i64 rk, .string p, .string t, .int .i64 x0, .int .i64 x1, .slice y2 l2 z2], .int .i64 0] → post (.returned U) ((((((w8.setCell ⟨w.heap.size, 0, none⟩ u0).setCell ⟨w.heap.size, 1, none⟩ u1).setCell ⟨w.heap.size, 2, none⟩ u2).setCell ⟨w.heap.size, 3, none⟩ u3).setCell ⟨w.heap.size, 4, none⟩ u4).setCell ⟨w.heap.size, 5, none⟩ u5)) := fun u0 u1 u2 u3 u4 u5 Z hZ => by (
 rw [hZ]
 refine HPo.out _ _ _ HOE.out.symm ?_ (below_set6 H8.out.2.2.1 (Nat.le_refl _) _ _ _ _ _ _)
 rw [HDE.out.2, if_pos HOE.out]
 have ha : Arg w.heap.size ((((((w8.setCell ⟨w.heap.size, 0, none⟩ u0).setCell ⟨w.heap.size, 1, none⟩ u1).setCell ⟨w.heap.size, 2, none⟩ u2).setCell ⟨w.heap.size, 3, none⟩ u3).setCell ⟨w.heap.size, 4, none⟩ u4).setCell ⟨w.heap.size, 5, none⟩ u5) (.slice y2 l2 z2) t2 := Arg.weaken (Arg.keep (HA.out.2.2.1.below H8.out.1) (same_set6 HB.out.2.lt)) HB.out.1.size
 rw [HA.out.2.2.2.1] at ha ⊢
 rw [HA.out.2.2.2.2.1, HA.out.2.2.2.2.2.1]
 exact ⟨y2, z2, rfl, ha⟩)
   obtain ⟨⟨q0, q1, q2, q3, q4, q5⟩, -⟩ := box6 H8.out.2.1
   go_wp2
   refine bodyPost_ret (v := .tuple #[.agg #[.int .i64 rk, .string p, .string t, .int .i64 x0, .int .i64 x1, .slice y2 l2 z2], .int .i64 0]) (by simp [results, Tryz.results25, go_sem, *]) rfl (HP.out _ _ _ _ _ _ _ rfl)
 · have HP : Hid (∀ u0 u1 u2 u3 u4 u5 U, U = .tuple #[.agg #[.int .i64 0, .string ⟨#[]⟩, .string ⟨#[]⟩, .int .i64 0, .int .i64 0, .slice none 0 0], .int .i64 oe] → post (.returned U) ((((((w8.setCell ⟨w.heap.size, 0, none⟩ u0).setCell ⟨w.heap.size, 1, none⟩ u1).setCell ⟨w.heap.size, 2, none⟩ u2).setCell ⟨w.heap.size, 3, none⟩ u3).setCell ⟨w.heap.size, 4, none⟩ u4).setCell ⟨w.heap.size, 5, none⟩ u5)) := fun u0 u1 u2 u3 u4 u5 Z hZ => by
     rw [hZ]
     refine HPo.out _ _ _ HOE.out.symm ?_ (below_set6 H8.out.2.2.1 (Nat.le_refl _) _ _ _ _ _ _)
     rw [HDE.out.2, if_neg (by rw [HOE.out]; exact hz)]
     exact opl_zero _ _
   go_wp2
   refine bodyPost_ret (v := .tuple #[.agg #[.int .i64 0, .string ⟨#[]⟩, .string ⟨#[]⟩, .int .i64 0, .int .i64 0, .slice none 0 0], .int .i64 oe]) (by simp [results, Tryz.results25, go_sem, *]) rfl (HP.out _ _ _ _ _ _ _ rfl)
end Go.Proofs.YtopcefhncildnaaGreatDoor.K
namespace Go.Proofs.YtopcefhncildnaaGreatDoor.K
open Go.RowKit
open P (ArgT OwnT tv)
set_option linter.unusedVariables false
abbrev Rpd := Int × Int × List Int × List ByteArray
def rcP (r : W.Rc) : Rpd := (r.2.1.getD 0 0, r.2.1.getD 1 0, r.2.2.getD 0 [], r.2.2.tail.map strOfNums)
def zP : Rpd := (0, 0, [], [])
def rdE (b : List Int) : Int := if W.decE b ≠ 0 then W.decE b else if (W.decV b).1 ≠ 0 then 22 else if (W.decV b).2.1.length ≠ 2 ∨ (W.decV b).2.2.length = 0 then 3 else rpE (rcP (W.decV b)).1 (rcP (W.decV b)).2.1 (rcP (W.decV b)).2.2.1.length (rcP (W.decV b)).2.2.2
def rdV (b : List Int) : Rpd := if rdE b = 0 then rcP (W.decV b) else zP
def RpV (n : Nat) (w : World) (v : Value) (q : Rpd) : Prop := ∃ a c nv, v = .agg #[.int .i64 q.1, .int .i64 q.2.1, .slice a q.2.2.1.length c, nv] ∧ Arg n w (.slice a q.2.2.1.length c) q.2.2.1 ∧ ArgT n w nv q.2.2.2
theorem rpv_zero (n : Nat) (w : World) : RpV n w (.agg #[.int .i64 0, .int .i64 0, .slice none 0 0, .slice none 0 0]) zP := ⟨none, 0, _, rfl, arg_nil _ _, ArgT.nil _ _⟩
theorem box4 {w : World} {B : Nat} {t : TypeId} {u0 u1 u2 u3 : Value} (h : Box w B t #[u0, u1, u2, u3]) : (w.cell? ⟨B, 0, none⟩ = some u0 ∧ w.cell? ⟨B, 1, none⟩ = some u1 ∧ w.cell? ⟨B, 2, none⟩ = some u2 ∧ w.cell? ⟨B, 3, none⟩ = some u3) ∧ (w.frozen? ⟨B, 0, none⟩ = false ∧ w.frozen? ⟨B, 1, none⟩ = false ∧ w.frozen? ⟨B, 2, none⟩ = false ∧ w.frozen? ⟨B, 3, none⟩ = false) :=
 ⟨⟨h.cell 0 rfl, h.cell 1 rfl, h.cell 2 rfl, h.cell 3 rfl⟩, h.frozen 0, h.frozen 1, h.frozen 2, h.frozen 3⟩
theorem box_set4 {w : World} {B : Nat} {t : TypeId} {v0 v1 v2 v3 : Value} (h : Box w B t #[v0, v1, v2, v3]) (u0 u1 u2 u3 : Value) : Box ((((w.setCell ⟨B, 0, none⟩ u0).setCell ⟨B, 1, none⟩ u1).setCell ⟨B, 2, none⟩ u2).setCell ⟨B, 3, none⟩ u3) B t #[u0, u1, u2, u3] := (((h.set 0 u0).set 1 u1).set 2 u2).set 3 u3
theorem elemB : Tryz.prog.underlying 89 = some (.slice (Tryz.prog.elem 89)) := by kernel_rfl
theorem elemB_is : Tryz.prog.elem 89 = 25 := by kernel_rfl
theorem sizeB (W : World) : (sizeOf (Tryz.prog.elem 89)).run Tryz.prog W = .ok 1 W := by
 obtain ⟨i0, hi, hz0, hz1, hz2⟩ := info_parts Tryz.infoB
 rw [elemB_is]
 simp [sizeOf, typeInfo, hi, hz1]
theorem flat_drop1 : ∀ {vss : List (List Value)} (i : Nat), (∀ us ∈ vss, us.length = 1) → vss.flatten.drop i = (vss.drop i).flatten
 | vss, 0, _ => by simp
 | [], i + 1, _ => by simp
 | us :: r, i + 1, h => by (
 have h1 := h us (List.mem_cons_self ..)
 obtain ⟨u, rfl⟩ := List.length_eq_one_iff.1 h1
 rw [List.drop_succ_cons, List.flatten_cons, List.singleton_append, List.drop_succ_cons]
 exact flat_drop1 i fun us hus => h us (List.mem_cons_of_mem _ hus))
theorem each_drop {α β : Type} {R : α → β → Prop} : ∀ {xs : List α} {ys : List β} (i : Nat), Each R xs ys → Each R (xs.drop i) (ys.drop i)
 | _, _, 0, h => by simpa using h
 | [], [], i + 1, _ => by simp; trivial
 | _ :: _, _ :: _, i + 1, h => by
   rw [List.drop_succ_cons, List.drop_succ_cons]
   exact each_drop i h.2
theorem texts_behind {n : Nat} {w : World} {a : Option Addr} {m c : Nat} {l : List (List Int)} (h : W.textsS.lies n w [.slice a m c] l) (i : Nat) (hi : i ≤ l.length) :
   ∃ a' c', W.textsS.lies n w [.slice a' (l.length - i) c'] (l.drop i) ∧ ∀ W, (Instr.slice 89 (.slice a m c) (some (.int .i64 i)) none none).run Tryz.prog W = .ok (.slice a' (l.length - i) c') W := by
 obtain ⟨v', vss, hv, hC, hE⟩ := h
 obtain rfl : v' = .slice a m c := by simpa using hv.symm
 have hC : Cells n w 1 (.slice a m c) l.length vss.flatten := hC
 have hS := hC
 obtain ⟨a0, c0, hv0, hcap, hmx, -⟩ := hS.shape
 obtain ⟨rfl, rfl, rfl⟩ := Value.slice.inj hv0
 have hone : ∀ us ∈ vss, us.length = 1 := fun us hus => by
   obtain ⟨x, _, hx⟩ := hE.left hus
   exact W.bytesS.length hx
 have hsub := hC.sub i l.length hi (Nat.le_refl _)
 have hl : vss.flatten.length = l.length := by have := hC.1; omega
 rw [Nat.mul_one, Nat.mul_one, ← hl, List.take_length, hl, flat_drop1 i hone] at hsub
 have hsub2 := hsub
 obtain ⟨a', c', hv', _⟩ := hsub2.shape
 refine ⟨a', c', ⟨_, vss.drop i, rfl, ?_, each_drop i hE⟩, fun W => ?_⟩
 · rw [← hv', List.length_drop]
   exact hsub
 · rw [run_slice_l W 89 a l.length c elemB .i64 i (by omega) (by omega), sizeB, ← hv']
   simp [Result.andThen]
end Go.Proofs.YtopcefhncildnaaGreatDoor.K
namespace Go.Proofs.YtopcefhncildnaaGreatDoor.K
open Go.RowKit
open P (ArgT OwnT tv)
set_option linter.unusedVariables false
theorem box_row {wr w3 : World} {o : Obj} {R : Nat} {t : TypeId} {cs : Array Value} {E : TypeId} {base size n : Nat} {v : Value} {xs : List Value} (h : Box wr R t cs) (hO : wr.ownsRow base E size v n xs) (hg : (wr.alloc o).grownBy w3 v.ownBlock) (hR : R < base) (hb : base ≤ wr.heap.size) : Box w3 R t cs :=
 h.below (below_row (Below.refl base wr) hO hg (Nat.le_refl _) hb) hR
theorem ownT_set {base R i : Nat} {w : World} {u v : Value} {l : List ByteArray} (h : OwnT base w v l) (hR : R < base) : OwnT base (w.setCell ⟨R, i, none⟩ u) v l := h.same (.set hR)
theorem rpdec_any (n0 : Nat) (v : Value) (b : List Int) (w : World) (h : Arg n0 w v b) (hs : b.length ≤ 140737488351232) (hg : Glob w) :
   Calls Tryz.prog 34 #[v] w fun e w' => (∃ u, e = .returned (.tuple #[u, .int .i64 (rdE b)]) ∧ RpV w.heap.size w' u (rdV b)) ∧ Below w.heap.size w w' := by
 obtain ⟨W1, hW1⟩ := exa (w.alloc (.cells #[.int .i64 0, .int .i64 0, .slice none 0 0, .slice none 0 0] 59))
 have hb1 : Below w.heap.size w W1 := by rw [hW1]; exact (Below.refl _ w).alloc (Nat.le_refl _) _
 have hB1 : Box W1 w.heap.size 59 #[.int .i64 0, .int .i64 0, .slice none 0 0, .slice none 0 0] := by rw [hW1]; exact Box.new _ _ _
 have hoc : W.Oc b := W.Arg.oct (w_arg h)
 have HC := W.dec_any n0 v b W1 (w_arg (h.below hb1)) (by omega) (hg.below hb1 hg.lt)
 have HB : Hid (Below w.heap.size w W1 ∧ Box W1 w.heap.size 59 #[.int .i64 0, .int .i64 0, .slice none 0 0, .slice none 0 0]) := ⟨hb1, hB1⟩
 obtain ⟨post, hpost⟩ : ∃ post : Ending → World → Prop, post = fun e w' => (∃ u, e = .returned (.tuple #[u, .int .i64 (rdE b)]) ∧ RpV w.heap.size w' u (rdV b)) ∧ Below w.heap.size w w' := ⟨_, rfl⟩
 have HPo : Hid (∀ (k : Int) u w', k = rdE b → RpV w.heap.size w' u (rdV b) → Below w.heap.size w w' → post (.returned (.tuple #[u, .int .i64 k])) w') := fun k u w' h1 h2 h3 => by rw [hpost, h1]; exact ⟨⟨u, rfl, h2⟩, h3⟩
 rw [← hpost]
 clear hpost hb1 hB1 h hg
 go_enter Tryz.func34, Tryz.ntmps34
 go_wp2_with fail
 rw [← hW1]
 clear hW1
 refine HC.mono ?_
 rintro e w2 ⟨⟨us, rfl, ho⟩, hb2⟩
 obtain ⟨ax, cx, ay, cy, rfl⟩ := W.rec_oview ho
 obtain ⟨r, hr⟩ := exa (W.decV b)
 obtain ⟨de, hde⟩ := exa (W.decE b)
 have HDE : Hid (rdE b = (if de ≠ 0 then de else if r.1 ≠ 0 then 22 else if r.2.1.length ≠ 2 ∨ r.2.2.length = 0 then 3 else rpE (rcP r).1 (rcP r).2.1 (rcP r).2.2.1.length (rcP r).2.2.2) ∧ rdV b = (if rdE b = 0 then rcP r else zP)) := by (
 refine ⟨?_, ?_⟩
 · unfold rdE; rw [hr, hde]
 · unfold rdV; rw [hr])
 have HK : Hid (de = 0 → r.2.2.length ≤ 64) := fun h0 => by
   rw [hr]
   exact (W.chk_ok (W.enc_dec hoc (by rw [← hde]; exact h0)).1).2.2.2.1
 rw [← hr] at ho ⊢
 rw [← hde]
 clear HC hr hde
 clear hoc
 obtain ⟨rk, ns, ts⟩ := r
 simp only at ho ⊢
 obtain ⟨nl, hnl⟩ := exa (ns.length)
 obtain ⟨tl, htl⟩ := exa (ts.length)
 rw [← hnl, ← htl] at ho ⊢
 obtain ⟨xx, yy, heq, hoi, hot, hok⟩ := W.rec_own ho
 simp only [List.cons.injEq, and_true, true_and] at heq
 obtain ⟨rfl, rfl⟩ := heq
 simp only at hoi hot hok
 obtain ⟨V, hV⟩ := exa (w2.alloc (.cells #[.int .i64 rk, .slice ax nl cx, .slice ay tl cy] 127))
 have hbV : Below w2.heap.size w2 V := by rw [hV]; exact (Below.refl _ w2).alloc (Nat.le_refl _) _
 have hBV : Box V w2.heap.size 127 #[.int .i64 rk, .slice ax nl cx, .slice ay tl cy] := by rw [hV]; exact Box.new _ _ _
 have HV : Hid (Below W1.heap.size W1 V ∧ Below w.heap.size w V ∧ Box V w2.heap.size 127 #[.int .i64 rk, .slice ax nl cx, .slice ay tl cy] ∧ (W.intsS.owns W1.heap.size V [.slice ax nl cx] ns ∧ W.textsS.owns W1.heap.size V [.slice ay tl cy] ts ∧ W.I64 rk) ∧ nl = ns.length ∧ tl = ts.length) := ⟨below_any hb2 hbV, HB.out.1.trans ((below_any hb2 hbV).mono HB.out.1.size), hBV, ⟨W.intsS.obelow hoi hbV, W.textsS.obelow hot hbV, hok⟩, hnl, htl⟩
 clear ho hb2 hbV hBV hnl htl hoi hot hok
 have hl1 := run_len Tryz.underlying125 ax nl cx
 have hl2 := run_len Tryz.underlying89 ay tl cy
 go_upto_region 2 with fail
 rw [← hV]
 clear hV
 by_cases hd0 : de = 0
 rotate_left
 · have hk : de = rdE b := by rw [HDE.out.1, if_pos hd0]
   have HP : Hid (∀ u0 u1 u2 u3 U, U = .tuple #[.agg #[.int .i64 0, .int .i64 0, .slice none 0 0, .slice none 0 0], .int .i64 de] → post (.returned U) ((((V.setCell ⟨w.heap.size, 0, none⟩ u0).setCell ⟨w.heap.size, 1, none⟩ u1).setCell ⟨w.heap.size, 2, none⟩ u2).setCell ⟨w.heap.size, 3, none⟩ u3)) := fun u0 u1 u2 u3 Z hZ => by (
 rw [hZ]
 refine HPo.out _ _ _ hk ?_ (below_set4 HV.out.2.1 (Nat.le_refl _) _ _ _ _)
 rw [HDE.out.2, if_neg (by rw [← hk]; exact hd0)]
 exact rpv_zero _ _)
   clear hk
   obtain ⟨⟨d0, d1, d2, d3⟩, e0, e1, e2, e3⟩ := box4 (HB.out.2.below HV.out.1 HB.out.2.lt)
   go_wp2
   refine bodyPost_ret (v := .tuple #[.agg #[.int .i64 0, .int .i64 0, .slice none 0 0, .slice none 0 0], .int .i64 de]) (by simp [results, Tryz.results34, go_sem, *]) rfl (HP.out _ _ _ _ _ rfl)
 subst hd0
 obtain ⟨g0, g1, g2, -⟩ := HV.out.2.2.1.three
 by_cases hr0 : rk = 0
 rotate_left
 · have hk : (22 : Int) = rdE b := by rw [HDE.out.1, if_neg (by simp), if_pos hr0]
   have HP : Hid (∀ u0 u1 u2 u3 U, U = .tuple #[.agg #[.int .i64 0, .int .i64 0, .slice none 0 0, .slice none 0 0], .int .i64 22] → post (.returned U) ((((V.setCell ⟨w.heap.size, 0, none⟩ u0).setCell ⟨w.heap.size, 1, none⟩ u1).setCell ⟨w.heap.size, 2, none⟩ u2).setCell ⟨w.heap.size, 3, none⟩ u3)) := fun u0 u1 u2 u3 Z hZ => by (
 rw [hZ]
 refine HPo.out _ _ _ hk ?_ (below_set4 HV.out.2.1 (Nat.le_refl _) _ _ _ _)
 rw [HDE.out.2, if_neg (by rw [← hk]; decide)]
 exact rpv_zero _ _)
   clear hk
   obtain ⟨⟨d0, d1, d2, d3⟩, e0, e1, e2, e3⟩ := box4 (HB.out.2.below HV.out.1 HB.out.2.lt)
   go_wp2
   refine bodyPost_ret (v := .tuple #[.agg #[.int .i64 0, .int .i64 0, .slice none 0 0, .slice none 0 0], .int .i64 22]) (by simp [results, Tryz.results34, go_sem, *]) rfl (HP.out _ _ _ _ _ rfl)
 subst hr0
 by_cases hln : nl = 2 ∧ 0 < tl
 rotate_left
 · have hk : (3 : Int) = rdE b := by
     rw [HDE.out.1, if_neg (by simp), if_neg (by simp), if_pos]
     have h1 := HV.out.2.2.2.2.1
     have h2 := HV.out.2.2.2.2.2
     simp only
     omega
   have HP : Hid (∀ u0 u1 u2 u3 U, U = .tuple #[.agg #[.int .i64 0, .int .i64 0, .slice none 0 0, .slice none 0 0], .int .i64 3] → post (.returned U) ((((V.setCell ⟨w.heap.size, 0, none⟩ u0).setCell ⟨w.heap.size, 1, none⟩ u1).setCell ⟨w.heap.size, 2, none⟩ u2).setCell ⟨w.heap.size, 3, none⟩ u3)) := fun u0 u1 u2 u3 Z hZ => by (
 rw [hZ]
 refine HPo.out _ _ _ hk ?_ (below_set4 HV.out.2.1 (Nat.le_refl _) _ _ _ _)
 rw [HDE.out.2, if_neg (by rw [← hk]; decide)]
 exact rpv_zero _ _)
   clear hk
   obtain ⟨⟨d0, d1, d2, d3⟩, e0, e1, e2, e3⟩ := box4 (HB.out.2.below HV.out.1 HB.out.2.lt)
   by_cases h2 : (nl : Int) = 2
   · obtain rfl : tl = 0 := by omega
     clear hln
     go_wp2
     refine bodyPost_ret (v := .tuple #[.agg #[.int .i64 0, .int .i64 0, .slice none 0 0, .slice none 0 0], .int .i64 3]) (by simp [results, Tryz.results34, go_sem, *]) rfl (HP.out _ _ _ _ _ rfl)
   · clear hln
     go_wp2
     refine bodyPost_ret (v := .tuple #[.agg #[.int .i64 0, .int .i64 0, .slice none 0 0, .slice none 0 0], .int .i64 3]) (by simp [results, Tryz.results34, go_sem, *]) rfl (HP.out _ _ _ _ _ rfl)
 obtain ⟨rfl, htl0⟩ := hln
 obtain ⟨x0, x1, rfl⟩ := two_of HV.out.2.2.2.2.1.symm
 obtain ⟨t0, t2, rfl⟩ : ∃ t0 t2, ts = t0 :: t2 := by (
 cases ts with
 | nil => have := HV.out.2.2.2.2.2; simp at this; omega
 | cons a c => exact ⟨a, c, rfl⟩)
 obtain ⟨hi, ht, hk⟩ := HV.out.2.2.2.1
 obtain ⟨b0, o0, ix0, c0, i0⟩ := W.ints_at (W.intsS.olies hi) 0 x0 rfl
 obtain ⟨b1, o1, ix1, c1, i1⟩ := W.ints_at (W.intsS.olies hi) 1 x1 rfl
 obtain ⟨b2, o2, v0, iy0, k0, ar0⟩ := W.texts_at (W.textsS.olies ht) 0 t0 rfl
 obtain ⟨y0, z0, rfl, -⟩ := ar0.shape
 obtain ⟨a5, c5, hbe, hsl⟩ := texts_behind (W.textsS.olies ht) 1 (by simp)
 obtain ⟨m, hm⟩ := exa (t2.length)
 rw [show (t0 :: t2).length - 1 = m by rw [hm]; simp] at hbe hsl
 rw [show (t0 :: t2).drop 1 = t2 from rfl] at hbe
 have htm : tl = m + 1 := by have := HV.out.2.2.2.2.2; simp at this; omega
 have ix0 : ∀ W, (Instr.indexAt 125 (.slice ax 2 cx) (.int .i64 0)).run Tryz.prog W = .ok (.pointer (some ⟨b0, o0, none⟩)) W := ix0
 have ix1 : ∀ W, (Instr.indexAt 125 (.slice ax 2 cx) (.int .i64 1)).run Tryz.prog W = .ok (.pointer (some ⟨b1, o1, none⟩)) W := ix1
 have iy0 : ∀ W, (Instr.indexAt 89 (.slice ay tl cy) (.int .i64 0)).run Tryz.prog W = .ok (.pointer (some ⟨b2, o2, none⟩)) W := iy0
 have hsl : ∀ W, (Instr.slice 89 (.slice ay tl cy) (some (.int .i64 1)) none none).run Tryz.prog W = .ok (.slice a5 m c5) W := hsl
 obtain ⟨l0, hl0⟩ := exa (t0.length)
 rw [← hl0] at k0 ar0
 have HA : Hid (Arg W1.heap.size V (.slice y0 l0 z0) t0 ∧ W.textsS.lies W1.heap.size V [.slice a5 m c5] t2 ∧ l0 = t0.length ∧ m = t2.length ∧ I64 x0 ∧ I64 x1) := ⟨arg_w ar0, hbe, hl0, hm, i0, i1⟩
 have HS : Hid (∀ U, Below V.heap.size V U → (U.cell? ⟨w2.heap.size, 1, none⟩ = some (.slice ax 2 cx) ∧ U.cell? ⟨w2.heap.size, 2, none⟩ = some (.slice ay tl cy) ∧ U.cell? ⟨b0, o0, none⟩ = some (.int .i64 x0) ∧ U.cell? ⟨b1, o1, none⟩ = some (.int .i64 x1) ∧ U.cell? ⟨b2, o2, none⟩ = some (.slice y0 l0 z0))) := fun U hU => by (
 have hcl : ∀ {z : Addr} {u : Value}, V.cell? z = some u → U.cell? z = some u := fun {z u} hz => by rw [hU.cell (cell_lt hz)]; exact hz
 have h1 := HV.out.2.2.1.below hU HV.out.2.2.1.lt
 exact ⟨h1.cell 1 rfl, h1.cell 2 rfl, hcl c0, hcl c1, hcl k0⟩)
 have hl5 := run_len Tryz.underlying89 a5 m c5
 have htp : ¬ ((tl : Int) = 0) := by omega
 clear hl0 hm hi ht hk i0 i1 ar0 c0 c1 k0 hbe htm htl0
 go_upto_region 8 with fail
 clear g0 g1 g2
 obtain ⟨X0, hX0⟩ := exa (V.drew)
 have hbX : Below V.heap.size V X0 := by rw [hX0]; exact (Below.refl _ V).drew
 refine AnyBut.begin (fun U => U.cell? ⟨w2.heap.size, 1, none⟩ = some (.slice ax 2 cx) ∧ U.cell? ⟨w2.heap.size, 2, none⟩ = some (.slice ay tl cy) ∧ U.cell? ⟨b0, o0, none⟩ = some (.int .i64 x0) ∧ U.cell? ⟨b1, o1, none⟩ = some (.int .i64 x1) ∧ U.cell? ⟨b2, o2, none⟩ = some (.slice y0 l0 z0)) 1000 (by kernel_rfl) ?_
 rw [← hX0]
 clear hX0
 have hSS := HS.out X0 hbX
 refine tx 0 34 hSS ?_; simp only [ua,ub,uc,ud]
 refine tx 1 35 hSS ?_; simp only [ua,ub,uc,ud]
 refine tx 2 36 hSS ?_; simp only [ua,ub,uc,ud]
 refine tx 3 37 hSS ?_; simp only [ua,ub,uc,ud]
 refine tx 4 38 hSS ?_; simp only [ua,ub,uc,ud]
 refine tx 5 39 hSS ?_; simp only [ua,ub,uc,ud]
 refine tx 6 40 hSS ?_; simp only [ua,ub,uc,ud]
 refine tx 7 41 hSS ?_; simp only [ua,ub,uc,ud]
 refine tx 8 42 hSS ?_; simp only [ua,ub,uc,ud]
 refine tx 9 43 hSS ?_; simp only [ua,ub,uc,ud]
 refine tx 10 44 hSS ?_; simp only [ua,ub,uc,ud]
 refine tx 11 45 hSS ?_; simp only [ua,ub,uc,ud]
 refine tx 12 46 hSS ?_; simp only [ua,ub,uc,ud]
 refine AnyBut.step (i := 13) (by kernel_rfl) rfl (fun K hK => ?_)
 go_simp
 obtain ⟨X1, hX1⟩ := exa (X0.alloc (.cells #[.int .i64 0, .int .i64 0, .slice none 0 0, .slice none 0 0] 59))
 have hb9 : Below X0.heap.size X0 X1 := by rw [hX1]; exact (Below.refl _ _).alloc (Nat.le_refl _) _
 have hB9 : Box X1 X0.heap.size 59 #[.int .i64 0, .int .i64 0, .slice none 0 0, .slice none 0 0] := by rw [hX1]; exact Box.new _ _ _
 rw [← hX1]
 clear hX1
 have hbX1 := below_any hbX hb9
 refine hK.out _ _ (HS.out X1 hbX1) ?_
 clear hK hSS
 obtain ⟨⟨d0, d1, d2, d3⟩, e0, e1, e2, e3⟩ := box4 hB9
 refine AnyBut.step (i := 14) (by kernel_rfl) rfl (fun K hK => ?_)
 go_simp
 have hbX2 := below_set4 hbX1 hbX.size (.int .i64 x0) (.int .i64 x1) (.slice y0 l0 z0) (.slice none 0 0)
 have hB10 := box_set4 hB9 (.int .i64 x0) (.int .i64 x1) (.slice y0 l0 z0) (.slice none 0 0)
 obtain ⟨X2, hX2⟩ := exa (((((X1.setCell ⟨X0.heap.size, 0, none⟩ (.int .i64 x0)).setCell ⟨X0.heap.size, 1, none⟩ (.int .i64 x1)).setCell ⟨X0.heap.size, 2, none⟩ (.slice y0 l0 z0)).setCell ⟨X0.heap.size, 3, none⟩ (.slice none 0 0)))
 rw [← hX2] at hbX2 hB10 ⊢
 refine hK.out _ _ (HS.out X2 hbX2) ?_
 clear hK hX2 d0 d1 d2 d3 e0 e1 e2 e3
 refine AnyBut.done (by kernel_rfl) ?_
 obtain ⟨R, hR⟩ := exa (X0.heap.size)
 rw [← hR] at hB10 ⊢
 have HX : Hid (Below V.heap.size V X2 ∧ Box X2 R 59 #[.int .i64 x0, .int .i64 x1, .slice y0 l0 z0, .slice none 0 0] ∧ w.heap.size < R ∧ R < X2.heap.size ∧ V.heap.size ≤ R) := ⟨hbX2, hB10, by rw [hR]; exact Nat.lt_of_lt_of_le (Nat.lt_of_lt_of_le HB.out.2.lt HV.out.1.size) hbX.size, hB10.lt, by rw [hR]; exact hbX.size⟩
 have q2 := (HS.out X2 hbX2).2.1
 clear hb9 hB9 hbX1 hbX2 hB10 ix0 ix1 iy0 hl1 hl2 hbX hR htp HS
 go_wp2_with fail
 clear q2 hsl
 go_loopw [51] (fun i wr => ∃ (j : Nat), j ≤ m ∧ i = .int .i64 j ∧ Hid (∃ a c, Box wr R 59 #[.int .i64 x0, .int .i64 x1, .slice y0 l0 z0, .slice a j c] ∧ OwnT X2.heap.size wr (.slice a j c) ((t2.take j).map strOfNums) ∧ Below V.heap.size V wr ∧ X2.heap.size ≤ wr.heap.size)) (fun i _ => m - (intOf i).toNat)
 case atStart => exact ⟨0, Nat.zero_le _, rfl, none, 0, HX.out.2.1, OwnT.nil _ _, HX.out.1, Nat.le_refl _⟩
 case round => (
 obtain ⟨j, hj, rfl, HJ⟩ := hrel
 by_cases hjt : j < m
 · obtain ⟨p, hp⟩ := get_lt (l := t2) (k := j) (by rw [← HA.out.2.2.2.1]; exact hjt)
   obtain ⟨an, cn, hBr, hOr, hbr, hsz⟩ := HJ.out
   obtain ⟨bx, ox, vx, hix, d0, har⟩ := W.texts_at (W.textsS.below HA.out.2.1 hbr) j p hp
   obtain ⟨yp, zp, rfl, -, hpm, -⟩ := har.shape
   have hcv : (convert 25 9 (.slice yp p.length zp)).run Tryz.prog wr = .ok (.string (strOfNums p)) wr := F.conv_any (arg_w har)
   have hji : (j : Int) < (m : Int) := by omega
   obtain ⟨s, hs0⟩ := exa (strOfNums p)
   obtain ⟨lp, hlp⟩ := exa (p.length)
   rw [← hs0, ← hlp] at hcv
   rw [← hlp] at d0
   have hln : ((t2.take j).map strOfNums).length = j := by rw [List.length_map, List.length_take, ← HA.out.2.2.2.1]; omega
   have hml : m ≤ maxLen := by obtain ⟨_, _, h0, _, h1, _⟩ := W.texts_len HA.out.2.1; rw [HA.out.2.2.2.1]; exact h1
   obtain ⟨c0, c1, c2, c3⟩ := (box4 hBr).1
   have HP : Hid (t2[j]? = some p ∧ s = strOfNums p ∧ s.size ≤ maxLen ∧ ((t2.take j).map strOfNums).length = j) := ⟨hp, hs0, by rw [hs0, str_size]; exact hpm, hln⟩
   have HR : Hid (Box wr R 59 #[.int .i64 x0, .int .i64 x1, .slice y0 l0 z0, .slice an j cn] ∧ wr.ownsRow X2.heap.size 9 1 (.slice an j cn) j (tv ((t2.take j).map strOfNums)) ∧ P.TOk ((t2.take j).map strOfNums) ∧ Below V.heap.size V wr ∧ X2.heap.size ≤ wr.heap.size) := ⟨hBr, by have := hOr.1; rwa [hln] at this, hOr.2, hbr, hsz⟩
   have HM : m ≤ 64 := by have h1 := HK.out trivial; have h2 := HA.out.2.2.2.1; simp at h1; omega
   clear hp hBr hOr hbr hsz har hpm hs0 hlp hln hml
   go_wp2_with (at_builtin; refine push_row (by rfl) _ _ 57 9 (by rfl) Tryz.underlying57 Tryz.info9 rfl (by omega) X2.heap.size _ (tv ((t2.take j).map strOfNums)) j [.string s] rfl (by simp [Value.oneCell']) wr (by simp [go_sem, *]) HR.out.2.1 (by simp [go_sem, *]) (by omega) (by omega) HR.out.2.2.2.2 ?_; intro g cap w3 hO3 hg3 hgr3 hlt3; have hB3 := box_row HR.out.1 HR.out.2.1 hg3 HX.out.2.2.2.1 HR.out.2.2.2.2; have f3 := hB3.cell 3 rfl; have g3 := hB3.frozen 3)
   have HQ : Hid (Box (w3.setCell ⟨R, 3, none⟩ (.slice (some ⟨g, 0, none⟩) (j + 1) cap)) R 59 #[.int .i64 x0, .int .i64 x1, .slice y0 l0 z0, .slice (some ⟨g, 0, none⟩) (j + 1) cap] ∧ OwnT X2.heap.size (w3.setCell ⟨R, 3, none⟩ (.slice (some ⟨g, 0, none⟩) (j + 1) cap)) (.slice (some ⟨g, 0, none⟩) (j + 1) cap) ((t2.take (j + 1)).map strOfNums) ∧ Below V.heap.size V (w3.setCell ⟨R, 3, none⟩ (.slice (some ⟨g, 0, none⟩) (j + 1) cap)) ∧ X2.heap.size ≤ (w3.setCell ⟨R, 3, none⟩ (.slice (some ⟨g, 0, none⟩) (j + 1) cap)).heap.size) := by (
 have hvx : X2.heap.size ≤ w3.heap.size := Nat.le_trans HR.out.2.2.2.2 (Nat.le_trans (by simp) hg3.size)
 have hb3 : Below V.heap.size V w3 := below_row HR.out.2.2.2.1 HR.out.2.1 hg3 HX.out.1.size (Nat.le_trans HX.out.1.size HR.out.2.2.2.2)
 refine ⟨hB3.set 3 _, ownT_set ⟨?_, ?_⟩ HX.out.2.2.2.1, hb3.setCell (p := ⟨R, 3, none⟩) HX.out.2.2.2.2 _, by simpa using hvx⟩
 · rw [take_snoc HP.out.1, List.map_append, List.length_append, HP.out.2.2.2]
   have : tv ((t2.take j).map strOfNums ++ [p].map strOfNums) = tv ((t2.take j).map strOfNums) ++ [.string s] := by rw [HP.out.2.1]; simp [tv]
   rw [this]
   exact hO3
 · intro y hy
   rw [take_snoc HP.out.1, List.map_append] at hy
   rcases List.mem_append.1 hy with h | h
   · exact HR.out.2.2.1 y h
   · rw [show y = strOfNums p by simpa using h, ← HP.out.2.1]; exact HP.out.2.2.1)
   clear hO3 hg3 hgr3 hlt3 hB3 f3 g3
   go_wp2
   go_roundw
   case rel => exact ⟨j + 1, by omega, by go_num, _, _, HQ.out⟩
   case measure => simp [intOf]; omega
 · obtain rfl : j = m := by omega
   have hfull : t2.take j = t2 := List.take_of_length_le (by rw [HA.out.2.2.2.1]; exact Nat.le_refl _)
   obtain ⟨an, cn, hBr, hOr, hbr, hsz⟩ := HJ.out
   rw [hfull] at hOr
   have HR : Hid (Box wr R 59 #[.int .i64 x0, .int .i64 x1, .slice y0 l0 z0, .slice an j cn] ∧ ArgT X2.heap.size wr (.slice an j cn) (t2.map strOfNums) ∧ Below V.heap.size V wr ∧ X2.heap.size ≤ wr.heap.size) := ⟨hBr, hOr.arg, hbr, hsz⟩
   clear hfull HJ hBr hOr hbr hsz hl5 hjt
   have HC := rpcheck_any x0 x1 y0 l0 z0 _ _ _ wr HR.out.2.1
   obtain ⟨oe, hoe⟩ := exa (rpE x0 x1 l0 (t2.map strOfNums))
   have HOE : Hid (rdE b = oe) := by (
 show _ = _
 rw [HDE.out.1, if_neg (by simp), if_neg (by simp), if_neg (by simp), hoe, HA.out.2.2.1]
 rfl)
   rw [← hoe] at HC
   clear hoe
   obtain ⟨⟨d0, d1, d2, d3⟩, -⟩ := box4 HR.out.1
   go_wp2_with fail
   clear d0 d1 d2 d3
   refine HC.mono ?_
   rintro e w8 ⟨rfl, hb8⟩
   have H8 : Hid (Below V.heap.size V w8 ∧ Box w8 R 59 #[.int .i64 x0, .int .i64 x1, .slice y0 l0 z0, .slice an j cn] ∧ Below w.heap.size w w8 ∧ Box w8 w.heap.size 59 #[.int .i64 0, .int .i64 0, .slice none 0 0, .slice none 0 0] ∧ ArgT X2.heap.size w8 (.slice an j cn) (t2.map strOfNums)) := ⟨below_any HR.out.2.2.1 hb8, HR.out.1.below hb8 HR.out.1.lt, HV.out.2.1.trans ((below_any HR.out.2.2.1 hb8).mono HV.out.2.1.size), (HB.out.2.below HV.out.1 HB.out.2.lt).below (below_any HR.out.2.2.1 hb8) (Nat.lt_of_lt_of_le HB.out.2.lt HV.out.1.size), HR.out.2.1.below hb8⟩
   clear HC hb8
   obtain ⟨⟨d0, d1, d2, d3⟩, e0, e1, e2, e3⟩ := box4 H8.out.2.2.2.1
   by_cases hz : oe = 0
   · subst hz
     have HP : Hid (∀ u0 u1 u2 u3 U, U = .tuple #[.agg #[.int .i64 x0, .int .i64 x1, .slice y0 l0 z0, .slice an j cn], .int .i64 0] → post (.returned U) ((((w8.setCell ⟨w.heap.size, 0, none⟩ u0).setCell ⟨w.heap.size, 1, none⟩ u1).setCell ⟨w.heap.size, 2, none⟩ u2).setCell ⟨w.heap.size, 3, none⟩ u3)) := fun u0 u1 u2 u3 Z hZ => by (
 rw [hZ]
 refine HPo.out _ _ _ HOE.out.symm ?_ (below_set4 H8.out.2.2.1 (Nat.le_refl _) _ _ _ _)
 rw [HDE.out.2, if_pos HOE.out]
 have ha : Arg w.heap.size ((((w8.setCell ⟨w.heap.size, 0, none⟩ u0).setCell ⟨w.heap.size, 1, none⟩ u1).setCell ⟨w.heap.size, 2, none⟩ u2).setCell ⟨w.heap.size, 3, none⟩ u3) (.slice y0 l0 z0) t0 := Arg.weaken (Arg.keep (HA.out.1.below H8.out.1) (same_set4 HB.out.2.lt)) HB.out.1.size
 have hn : ArgT w.heap.size ((((w8.setCell ⟨w.heap.size, 0, none⟩ u0).setCell ⟨w.heap.size, 1, none⟩ u1).setCell ⟨w.heap.size, 2, none⟩ u2).setCell ⟨w.heap.size, 3, none⟩ u3) (.slice an j cn) (t2.map strOfNums) := ArgT.weaken (ArgT.keep H8.out.2.2.2.2 (same_set4 (Nat.lt_trans HX.out.2.2.1 HX.out.2.2.2.1))) (Nat.le_of_lt (Nat.lt_trans HX.out.2.2.1 HX.out.2.2.2.1))
 rw [HA.out.2.2.1] at ha ⊢
 exact ⟨y0, z0, _, rfl, ha, hn⟩)
     obtain ⟨⟨q0, q1, q2, q3⟩, -⟩ := box4 H8.out.2.1
     go_wp2
     refine bodyPost_ret (v := .tuple #[.agg #[.int .i64 x0, .int .i64 x1, .slice y0 l0 z0, .slice an j cn], .int .i64 0]) (by simp [results, Tryz.results34, go_sem, *]) rfl (HP.out _ _ _ _ _ rfl)
   · have hz' : ¬ oe = 0 := hz
     have HP : Hid (∀ u0 u1 u2 u3 U, U = .tuple #[.agg #[.int .i64 0, .int .i64 0, .slice none 0 0, .slice none 0 0], .int .i64 oe] → post (.returned U) ((((w8.setCell ⟨w.heap.size, 0, none⟩ u0).setCell ⟨w.heap.size, 1, none⟩ u1).setCell ⟨w.heap.size, 2, none⟩ u2).setCell ⟨w.heap.size, 3, none⟩ u3)) := fun u0 u1 u2 u3 Z hZ => by (
 rw [hZ]
 refine HPo.out _ _ _ HOE.out.symm ?_ (below_set4 H8.out.2.2.1 (Nat.le_refl _) _ _ _ _)
 rw [HDE.out.2, if_neg (by rw [HOE.out]; exact hz)]
 exact rpv_zero _ _)
     go_wp2
     refine bodyPost_ret (v := .tuple #[.agg #[.int .i64 0, .int .i64 0, .slice none 0 0, .slice none 0 0], .int .i64 oe]) (by simp [results, Tryz.results34, go_sem, *]) rfl (HP.out _ _ _ _ _ rfl))
end Go.Proofs.YtopcefhncildnaaGreatDoor.K
namespace Go.Proofs.YtopcefhncildnaaGreatDoor.K
open Go.RowKit
set_option linter.unusedVariables false
theorem sameop_any {n1 n2 : Nat} {k off m : Int} {p t : ByteArray} {a1 a2 : Option Addr} {dl c1 c2 : Nat} {d : List Int} {w : World} (h1 : Arg n1 w (.slice a1 dl c1) d) (h2 : Arg n2 w (.slice a2 dl c2) d) :
   Calls Tryz.prog 28 #[.agg #[.int .i64 k, .string p, .string t, .int .i64 off, .int .i64 m, .slice a1 dl c1], .agg #[.int .i64 k, .string p, .string t, .int .i64 off, .int .i64 m, .slice a2 dl c2]] w fun e w' => e = .returned (.bool true) ∧ Below w.heap.size w w' := by
 obtain ⟨W1, hW1⟩ := exa ((w.alloc (.cells #[.int .i64 k, .string p, .string t, .int .i64 off, .int .i64 m, .slice a1 dl c1] 56)).alloc (.cells #[.int .i64 k, .string p, .string t, .int .i64 off, .int .i64 m, .slice a2 dl c2] 56))
 have hb1 : Below w.heap.size w W1 := by rw [hW1]; exact ((Below.refl _ w).alloc (Nat.le_refl _) _).alloc (by simp) _
 have hB1 : Box W1 w.heap.size 56 #[.int .i64 k, .string p, .string t, .int .i64 off, .int .i64 m, .slice a1 dl c1] := by rw [hW1]; exact (Box.new _ _ _).alloc _
 have hB2 : Box W1 (w.heap.size + 1) 56 #[.int .i64 k, .string p, .string t, .int .i64 off, .int .i64 m, .slice a2 dl c2] := by (
 rw [hW1]
 have := Box.new (w.alloc (.cells #[.int .i64 k, .string p, .string t, .int .i64 off, .int .i64 m, .slice a1 dl c1] 56)) 56 #[.int .i64 k, .string p, .string t, .int .i64 off, .int .i64 m, .slice a2 dl c2]
 rwa [World.size_alloc] at this)
 have HC : Calls Tryz.prog 27 #[.slice a1 dl c1, .slice a2 dl c2] W1 fun e w' => e = .returned (.bool true) ∧ Below W1.heap.size W1 w' := by (
 refine (F.same_any n1 n2 _ _ d d W1 (h1.below hb1) (h2.below hb1)).mono fun e w' h => ?_
 obtain ⟨h3, q, rfl⟩ := h
 exact ⟨by rw [h3]; simp, below_drewN (Below.refl _ _) q⟩)
 have HB : Hid (Below w.heap.size w W1) := hb1
 obtain ⟨⟨d0, d1, d2, d3, d4, d5⟩, -⟩ := box6 hB1
 obtain ⟨⟨f0, f1, f2, f3, f4, f5⟩, -⟩ := box6 hB2
 rw [hW1] at d0 d1 d2 d3 d4 d5 f0 f1 f2 f3 f4 f5
 clear hb1 hB1 hB2 h1 h2
 go_enter Tryz.func28, Tryz.ntmps28
 go_wp2_with fail
 rw [← hW1]
 clear hW1 d0 d1 d2 d3 d4 d5 f0 f1 f2 f3 f4 f5
 refine HC.mono ?_
 rintro e w2 ⟨rfl, hb2⟩
 have HQ : Hid (Below w.heap.size w w2) := HB.out.trans (hb2.mono HB.out.size)
 clear hb2 HC
 go_wp2
 go_ret
 exact ⟨by simp, HQ.out⟩
end Go.Proofs.YtopcefhncildnaaGreatDoor.K
namespace Go.Proofs.YtopcefhncildnaaGreatDoor.K
open Go.RowKit
open P (ArgT OwnT tv)
set_option linter.unusedVariables false
def errL : Leaf Int := intL .i64 32 Tryz.underlying32 (by kernel_rfl)
def rpS : Shape Rpd := (errL.shape.and (i64S.and (bytesS.and P.textsS.only))).struct 59 ⟨_, Tryz.underlying59, rfl, rfl⟩ (by kernel_rfl)
theorem rp_view {n : Nat} {w : World} {us : List Value} {q : Rpd} (h : rpS.lies n w us q) : ∃ a c v, us = [.int .i64 q.1, .int .i64 q.2.1, .slice a q.2.2.1.length c, v] ∧ Arg n w (.slice a q.2.2.1.length c) q.2.2.1 ∧ ArgT n w v q.2.2.2 ∧ I64 q.1 ∧ I64 q.2.1 := by
 obtain ⟨u1, r1, rfl, ⟨rfl, h1⟩, u2, r2, rfl, ⟨rfl, h2⟩, u3, r3, rfl, h3, h4⟩ := h
 have h3' := h3
 obtain ⟨v, rfl, hC, ho⟩ := h3
 obtain ⟨a, c, rfl, _⟩ := hC.shape
 have h4' := h4
 obtain ⟨v4, rfl, hC4, ho4⟩ := h4
 exact ⟨a, c, v4, rfl, h3', ⟨hC4, ho4⟩, bounds_i64 h1, bounds_i64 h2⟩
theorem samerp_any {n1 n2 n3 n4 : Nat} {e n : Int} {a1 a2 : Option Addr} {dl c1 c2 : Nat} {d : List Int} {v1 v2 : Value} {l : List ByteArray} {w : World} (h1 : Arg n1 w (.slice a1 dl c1) d) (h2 : Arg n2 w (.slice a2 dl c2) d) (h3 : ArgT n3 w v1 l) (h4 : ArgT n4 w v2 l) :
   Calls Tryz.prog 36 #[.agg #[.int .i64 e, .int .i64 n, .slice a1 dl c1, v1], .agg #[.int .i64 e, .int .i64 n, .slice a2 dl c2, v2]] w fun x w' => x = .returned (.bool true) ∧ Below w.heap.size w w' := by
 obtain ⟨b1, k1, rfl, -⟩ := h3.shape
 obtain ⟨b2, k2, rfl, -⟩ := h4.shape
 obtain ⟨ll, hll⟩ := exa (l.length)
 rw [← hll] at h3 h4 ⊢
 obtain ⟨W1, hW1⟩ := exa ((w.alloc (.cells #[.int .i64 e, .int .i64 n, .slice a1 dl c1, .slice b1 ll k1] 59)).alloc (.cells #[.int .i64 e, .int .i64 n, .slice a2 dl c2, .slice b2 ll k2] 59))
 have hb1 : Below w.heap.size w W1 := by rw [hW1]; exact ((Below.refl _ w).alloc (Nat.le_refl _) _).alloc (by simp) _
 have hB1 : Box W1 w.heap.size 59 #[.int .i64 e, .int .i64 n, .slice a1 dl c1, .slice b1 ll k1] := by rw [hW1]; exact (Box.new _ _ _).alloc _
 have hB2 : Box W1 (w.heap.size + 1) 59 #[.int .i64 e, .int .i64 n, .slice a2 dl c2, .slice b2 ll k2] := by (
 rw [hW1]
 have := Box.new (w.alloc (.cells #[.int .i64 e, .int .i64 n, .slice a1 dl c1, .slice b1 ll k1] 59)) 59 #[.int .i64 e, .int .i64 n, .slice a2 dl c2, .slice b2 ll k2]
 rwa [World.size_alloc] at this)
 have HC : Calls Tryz.prog 27 #[.slice a1 dl c1, .slice a2 dl c2] W1 fun e w' => e = .returned (.bool true) ∧ Below W1.heap.size W1 w' := by (
 refine (F.same_any n1 n2 _ _ d d W1 (h1.below hb1) (h2.below hb1)).mono fun e w' h => ?_
 obtain ⟨h3, q, rfl⟩ := h
 exact ⟨by rw [h3]; simp, below_drewN (Below.refl _ _) q⟩)
 have HC2 : Hid (∀ V, Below W1.heap.size W1 V → Calls Tryz.prog 70 #[.slice b1 ll k1, .slice b2 ll k2] V fun e w' => e = .returned (.bool true) ∧ Below V.heap.size V w') := fun V hV => by (
 refine (P.same_any n3 n4 _ _ l l V ((h3.below hb1).below hV) ((h4.below hb1).below hV)).mono fun e w' h => ?_
 obtain ⟨h3, q, rfl⟩ := h
 exact ⟨by rw [h3]; simp, below_drewN (Below.refl _ _) q⟩)
 have HB : Hid (Below w.heap.size w W1 ∧ Box W1 w.heap.size 59 #[.int .i64 e, .int .i64 n, .slice a1 dl c1, .slice b1 ll k1] ∧ Box W1 (w.heap.size + 1) 59 #[.int .i64 e, .int .i64 n, .slice a2 dl c2, .slice b2 ll k2]) := ⟨hb1, hB1, hB2⟩
 obtain ⟨⟨d0, d1, d2, d3⟩, -⟩ := box4 hB1
 obtain ⟨⟨f0, f1, f2, f3⟩, -⟩ := box4 hB2
 rw [hW1] at d0 d1 d2 d3 f0 f1 f2 f3
 clear hb1 hB1 hB2 h1 h2 h3 h4 hll
 go_enter Tryz.func36, Tryz.ntmps36
 go_wp2_with fail
 rw [← hW1]
 clear hW1 d0 d1 d2 d3 f0 f1 f2 f3
 refine HC.mono ?_
 rintro x w2 ⟨rfl, hb2⟩
 have HD := HC2.out w2 hb2
 have d3 := (HB.out.2.1.below hb2 HB.out.2.1.lt).cell 3 rfl
 have f3 := (HB.out.2.2.below hb2 HB.out.2.2.lt).cell 3 rfl
 have HQ : Hid (Below w.heap.size w w2) := HB.out.1.trans (hb2.mono HB.out.1.size)
 clear hb2 HC
 go_wp2_with fail
 refine HD.mono ?_
 rintro x w3 ⟨rfl, hb3⟩
 have HQ3 : Hid (Below w.heap.size w w3) := HQ.out.trans (hb3.mono HQ.out.size)
 clear hb3 HD
 go_wp2
 go_ret
 exact ⟨by simp, HQ3.out⟩
theorem str_octs (s : ByteArray) : strOfNums (octs s) = s := by
 obtain ⟨⟨l⟩⟩ := s
 show ByteArray.mk (((l.map fun b => (b.toNat : Int)).map fun n => UInt8.ofNat n.toNat).toArray) = _
 congr 1
 congr 1
 rw [List.map_map]
 conv => rhs; rw [← List.map_id l]
 refine List.map_congr_left fun b _ => ?_
 simp
theorem octs_str {l : List Int} (h : W.Oc l) : octs (strOfNums l) = l := by
 show ((l.map fun n => UInt8.ofNat n.toNat).toArray.toList).map (fun b => (b.toNat : Int)) = l
 rw [List.toList_toArray, List.map_map]
 conv => rhs; rw [← List.map_id l]
 refine List.map_congr_left fun n hn => ?_
 have := h n hn
 simp
 omega
theorem op_back {k off m : Int} {p t : ByteArray} {d : List Int} (ho : I64 off) (hm : I64 m) (hd : W.Oc d) (h : opE k p t d.length = 0) : dopE (opO k off m p t d) = 0 ∧ dopV (opO k off m p t d) = (k, p, t, off, m, d) := by
 have hc := chk_op (off := off) (m := m) h
 obtain ⟨h1, h2⟩ := W.dec_enc (r := opR k off m p t d) hc (fun n hn => by
   rcases List.mem_cons.1 hn with rfl | hn
   · exact ho
   · rw [List.mem_singleton.1 hn]; exact hm) (fun x hx => by
   rcases List.mem_cons.1 hx with rfl | hx
   · exact octs_oc _
   rcases List.mem_cons.1 hx with rfl | hx
   · exact octs_oc _
   · rw [List.mem_singleton.1 hx]; exact hd)
 have hO : opO k off m p t d = W.encO (opR k off m p t d) := by unfold opO; rw [if_pos h]
 have hr : rcO (opR k off m p t d) = (k, p, t, off, m, d) := by simp [rcO, opR, str_octs]
 have he : dopE (opO k off m p t d) = 0 := by (
 unfold dopE
 rw [hO, h1, h2, if_neg (by simp), if_neg (by simp [opR]), hr]
 exact h)
 refine ⟨he, ?_⟩
 unfold dopV
 rw [if_pos he, hO, h2, hr]
theorem rp_back {e n : Int} {d : List Int} {l : List ByteArray} (he : I64 e) (hn : I64 n) (hd : W.Oc d) (h : rpC e n d l = 0) : rdE (rpO e n d l) = 0 ∧ rdV (rpO e n d l) = (e, n, d, l) := by
 unfold rpC at h
 by_cases h0 : rpE e n d.length l ≠ 0
 · rw [if_pos h0] at h; exact absurd h h0
 rw [if_neg h0] at h
 have h0' : rpE e n d.length l = 0 := by simpa using h0
 obtain ⟨h1, h2⟩ := W.dec_enc (r := rpR e n d l) h (fun x hx => by
   rcases List.mem_cons.1 hx with rfl | hx
   · exact he
   · rw [List.mem_singleton.1 hx]; exact hn) (fun x hx => by
   rcases List.mem_cons.1 hx with rfl | hx
   · exact hd
   · obtain ⟨s, _, rfl⟩ := List.mem_map.1 hx; exact octs_oc _)
 have hO : rpO e n d l = W.encO (rpR e n d l) := by unfold rpO; rw [if_neg h0]
 have hr : rcP (rpR e n d l) = (e, n, d, l) := by (
 have : (l.map octs).map strOfNums = l := by (
 rw [List.map_map]
 conv => rhs; rw [← List.map_id l]
 exact List.map_congr_left fun s _ => str_octs s)
 simp [rcP, rpR]
 simpa using this)
 have hz : rdE (rpO e n d l) = 0 := by (
 unfold rdE
 rw [hO, h1, h2, if_neg (by simp), if_neg (by simp [rpR]), if_neg (by simp [rpR]), hr]
 exact h0')
 refine ⟨hz, ?_⟩
 unfold rdV
 rw [if_pos hz, hO, h2, hr]
theorem dec_oc {b : List Int} (hb : W.Oc b) (h : W.decE b = 0) : (∀ t ∈ (W.decV b).2.2, W.Oc t) ∧ ∀ x ∈ (W.decV b).2.1, I64 x := by
 unfold W.decE at h
 split at h
 · rename_i he
   cases hx : W.recR (W.C.oout b) with
   | error k => rw [hx] at h; exact absurd h (W.recR_bad _ k hx)
   | ok pp => (
 obtain ⟨r, q⟩ := pp
 obtain ⟨h1, h2, h3⟩ := W.recR_back (W.C.oout b) r q (W.C.oout_oct hb) hx
 have hv : W.decV b = r := by unfold W.decV; rw [if_pos he, hx]; rfl
 rw [hv]
 have hl := W.C.oout_oct hb
 rw [h1] at hl
 refine ⟨fun t ht x hx => hl x ?_, h3⟩
 unfold W.laidR W.laidT
 simp only [List.mem_append, List.mem_cons, List.mem_flatMap]
 exact Or.inr (Or.inr (Or.inr (Or.inr ⟨t, ht, Or.inr hx⟩))))
 · rename_i he
   exact absurd h he
theorem oct_back {b : List Int} (hb : W.Oc b) (h : dopE b = 0) : ∃ k p t off m d, dopV b = (k, p, t, off, m, d) ∧ opE k p t d.length = 0 ∧ opO k off m p t d = b ∧ I64 off ∧ I64 m := by
 have hv : dopV b = rcO (W.decV b) := by unfold dopV; rw [if_pos h]
 unfold dopE at h
 by_cases h0 : W.decE b ≠ 0
 · rw [if_pos h0] at h; exact absurd h h0
 rw [if_neg h0] at h
 by_cases h1 : (W.decV b).2.1.length ≠ 2 ∨ (W.decV b).2.2.length ≠ 3
 · rw [if_pos h1] at h; cases h
 rw [if_neg h1] at h
 obtain ⟨hc, he⟩ := W.enc_dec hb (by simpa using h0)
 rw [hv]
 obtain ⟨r, hr⟩ := exa (W.decV b)
 have hoc : ∀ t ∈ r.2.2, W.Oc t := by rw [hr]; exact (dec_oc hb (by simpa using h0)).1
 have hin : ∀ x ∈ r.2.1, I64 x := by rw [hr]; exact (dec_oc hb (by simpa using h0)).2
 rw [← hr] at h h1 hc he ⊢
 obtain ⟨k, ns, ts⟩ := r
 simp only at h1
 obtain ⟨x0, x1, rfl⟩ := two_of (l := ns) (by omega)
 obtain ⟨t0, t1, t2, rfl⟩ := three_of (l := ts) (by omega)
 refine ⟨_, _, _, _, _, _, rfl, h, ?_, hin x0 (by simp), hin x1 (by simp)⟩
 have hR : opR k x0 x1 (strOfNums t0) (strOfNums t1) t2 = (k, [x0, x1], [t0, t1, t2]) := by
   unfold opR
   rw [octs_str (hoc t0 (by simp)), octs_str (hoc t1 (by simp))]
 show opO k x0 x1 (strOfNums t0) (strOfNums t1) t2 = b
 unfold opO
 rw [hR]
 exact (if_pos h).trans he
end Go.Proofs.YtopcefhncildnaaGreatDoor.K
namespace Go.Proofs.YtopcefhncildnaaGreatDoor.opsBack
open Go.RowKit K
open P (serr sval ArgT OwnT)
set_option linter.unusedVariables false
theorem same_t {n1 n2 : Nat} {v1 v2 : Value} {l : List Int} {w : World} (h1 : Arg n1 w v1 l) (h2 : Arg n2 w v2 l) : Calls Tryz.prog 27 #[v1, v2] w fun e w' => e = .returned (.bool true) ∧ Below w.heap.size w w' := by
 refine (F.same_any n1 n2 v1 v2 l l w h1 h2).mono fun e w' h => ?_
 obtain ⟨h3, q, rfl⟩ := h
 exact ⟨by rw [h3]; simp, below_drewN (Below.refl _ _) q⟩
theorem fits_by {l : List Int} (h : bytesS.fits l) : l.length ≤ 140737488351232 := by
 have b5 : Tryz.prog.bytesOf 5 = 1 := by kernel_rfl
 have h5 : l.length * Tryz.prog.bytesOf 5 ≤ 140737488351232 := h
 rwa [b5, Nat.mul_one] at h5
theorem walk (uo : List Value) (q : Opd) (ur : List Value) (qr : Rpd) (xa : Option Addr) (xn xc : Nat) (b : List Int) (w : World) (hO : opS.lies 0 w uo q) (hR : rpS.lies 0 w ur qr) (hX : bytesS.lies 0 w [.slice xa xn xc] b) (hbf : b.length ≤ 140737488351232) (hg : Glob w) :
   Calls Tryz.prog 7 #[.agg uo.toArray, .agg ur.toArray, .slice xa xn xc] w fun e w' => e = .returned (.bool true) ∧ Below w.heap.size w w' := by
 obtain ⟨da, dc, rfl, hD, hki, hp, ht, ho, hmI⟩ := op_view hO
 obtain ⟨k, p, t, off, m, d⟩ := q
 obtain ⟨ea, ec, nv, rfl, hE, hN, hei, hni⟩ := rp_view hR
 obtain ⟨e, n, d2, l⟩ := qr
 simp only at hD hki hp ht ho hmI hE hN hei hni ⊢
 obtain ⟨na, nc, rfl, -⟩ := hN.shape
 have hXA : Arg 0 w (.slice xa xn xc) b := hX
 have hod : W.Oc d := W.Arg.oct (w_arg hD)
 have hoe : W.Oc d2 := W.Arg.oct (w_arg hE)
 have hob : W.Oc b := W.Arg.oct (w_arg hXA)
 obtain ⟨dl, hdl⟩ := exa (d.length)
 obtain ⟨el, hel⟩ := exa (d2.length)
 obtain ⟨nl, hnl⟩ := exa (l.length)
 rw [← hdl] at hD ⊢
 rw [← hel] at hE ⊢
 rw [← hnl] at hN ⊢
 obtain ⟨V0, hV0⟩ := exa ((w.alloc (.cells #[.int .i64 k, .string p, .string t, .int .i64 off, .int .i64 m, .slice da dl dc] 56)).alloc (.cells #[.int .i64 e, .int .i64 n, .slice ea el ec, .slice na nl nc] 59))
 have hb0 : Below w.heap.size w V0 := by rw [hV0]; exact ((Below.refl _ w).alloc (Nat.le_refl _) _).alloc (by simp) _
 have hB1 : Box V0 w.heap.size 56 #[.int .i64 k, .string p, .string t, .int .i64 off, .int .i64 m, .slice da dl dc] := by rw [hV0]; exact (Box.new _ _ _).alloc _
 have hB2 : Box V0 (w.heap.size + 1) 59 #[.int .i64 e, .int .i64 n, .slice ea el ec, .slice na nl nc] := by (
 rw [hV0]
 have := Box.new (w.alloc (.cells #[.int .i64 k, .string p, .string t, .int .i64 off, .int .i64 m, .slice da dl dc] 56)) 59 #[.int .i64 e, .int .i64 n, .slice ea el ec, .slice na nl nc]
 rwa [World.size_alloc] at this)
 have H0 : Hid (p.size ≤ maxLen ∧ t.size ≤ maxLen ∧ I64 off ∧ I64 m ∧ dl = d.length ∧ I64 e ∧ I64 n ∧ el = d2.length ∧ b.length ≤ 140737488351232 ∧ W.Oc d ∧ W.Oc d2 ∧ W.Oc b) := ⟨hp, ht, ho, hmI, hdl, hei, hni, hel, hbf, hod, hoe, hob⟩
 have HNL : Hid (nl = l.length) := hnl
 have HV : Hid (∀ V, Below V0.heap.size V0 V → Glob V ∧ Arg 0 V (.slice da dl dc) d ∧ Arg 0 V (.slice ea el ec) d2 ∧ ArgT 0 V (.slice na nl nc) l ∧ Arg 0 V (.slice xa xn xc) b ∧ Box V w.heap.size 56 #[.int .i64 k, .string p, .string t, .int .i64 off, .int .i64 m, .slice da dl dc] ∧ Box V (w.heap.size + 1) 59 #[.int .i64 e, .int .i64 n, .slice ea el ec, .slice na nl nc] ∧ Below w.heap.size w V) := fun V hV => by
   have hw : Below w.heap.size w V := hb0.trans (hV.mono hb0.size)
   exact ⟨hg.below hw hg.lt, hD.below hw, hE.below hw, hN.below hw, hXA.below hw, hB1.below hV hB1.lt, hB2.below hV hB2.lt, hw⟩
 clear hO hR hD hki hp ht ho hmI hE hN hei hni hX hXA hod hoe hob hbf hg hdl hel hnl hb0 hB1 hB2
 have HC0 := K.alive_any V0 (HV.out V0 (Below.refl _ _)).1
 go_enter Tryz.func7, Tryz.ntmps7
 go_wp2_with fail
 rw [← hV0]
 clear hV0
 refine HC0.mono ?_
 rintro x w1 ⟨rfl, hb1⟩
 have H1 : Hid (Below V0.heap.size V0 w1) := hb1
 clear HC0 hb1
 have HC1 := K.enc_any (k := k) (p := p) (t := t) (off := off) (m := m) H0.out.1 H0.out.2.1 H0.out.2.2.1 H0.out.2.2.2.1 H0.out.2.2.2.2.1 (HV.out w1 H1.out).2.1
 obtain ⟨⟨f0, f1, f2, f3, f4, f5⟩, -⟩ := box6 (HV.out w1 H1.out).2.2.2.2.2.1
 go_wp2_with fail
 clear f0 f1 f2 f3 f4 f5
 refine HC1.mono ?_
 rintro x w2 ⟨⟨a7, c7, rfl, ho7⟩, hb2⟩
 obtain ⟨O, hO⟩ := exa (opO k off m p t d)
 obtain ⟨oe, hoe⟩ := exa (opE k p t d.length)
 rw [← hO] at ho7 ⊢
 rw [← hoe]
 obtain ⟨ol, hol⟩ := exa (O.length)
 rw [← hol] at ho7 ⊢
 have H2 : Hid (Below V0.heap.size V0 w2 ∧ Arg 0 w2 (.slice a7 ol c7) O) := ⟨below_any H1.out hb2, (arg_w ho7.arg).weaken (Nat.zero_le _)⟩
 have HO : Hid (O = opO k off m p t d ∧ oe = opE k p t d.length) := ⟨hO, hoe⟩
 clear HC1 ho7 hb2 hO hoe hol
 by_cases hz : oe = 0
 · subst hz
   have HBk : Hid (dopE O = 0 ∧ dopV O = (k, p, t, off, m, d) ∧ O.length ≤ 140737488351232) := by (
 have h := HO.out.2.symm
 rw [HO.out.1]
 obtain ⟨h1, h2⟩ := op_back H0.out.2.2.1 H0.out.2.2.2.1 H0.out.2.2.2.2.2.2.2.2.2.1 h
 refine ⟨h1, h2, ?_⟩
 unfold opO
 rw [if_pos h]
 exact Nat.le_trans (W.enc_len fun x hx => by
   rcases List.mem_cons.1 hx with rfl | hx
   · exact H0.out.2.2.1
   · rw [List.mem_singleton.1 hx]; exact H0.out.2.2.2.1) (by omega))
   have HC2 := K.dec_any 0 (.slice a7 ol c7) O w2 H2.out.2 HBk.out.2.2 (HV.out w2 H2.out.1).1
   rw [HBk.out.1, HBk.out.2.1] at HC2
   go_wp2_with (go_at_call 21; refine (num_any _ _).mono ?_; rintro e9 wn ⟨rfl, rfl⟩)
   refine HC2.mono ?_
   rintro x w3 ⟨⟨u3, rfl, a9, c9, rfl, ho9⟩, hb3⟩
   simp only at ho9 ⊢
   rw [← H0.out.2.2.2.2.1] at ho9 ⊢
   obtain ⟨V3, hV3⟩ := exa (w3.alloc (.cells #[.int .i64 k, .string p, .string t, .int .i64 off, .int .i64 m, .slice a9 dl c9] 56))
   have hbV : Below w3.heap.size w3 V3 := by rw [hV3]; exact (Below.refl _ w3).alloc (Nat.le_refl _) _
   have hB3 : Box V3 w3.heap.size 56 #[.int .i64 k, .string p, .string t, .int .i64 off, .int .i64 m, .slice a9 dl c9] := by rw [hV3]; exact Box.new _ _ _
   have H3 : Hid (Below V0.heap.size V0 V3 ∧ Arg 0 V3 (.slice a9 dl c9) d) := ⟨below_any (below_any H2.out.1 hb3) hbV, (ho9.weaken (Nat.zero_le _)).below hbV⟩
   clear HC2 ho9 hb3 hbV
   have HC3 := K.sameop_any (k := k) (p := p) (t := t) (off := off) (m := m) H3.out.2 (HV.out V3 H3.out.1).2.1
   obtain ⟨⟨f0, f1, f2, f3, f4, f5⟩, -⟩ := box6 hB3
   obtain ⟨⟨g0, g1, g2, g3, g4, g5⟩, -⟩ := box6 (HV.out V3 H3.out.1).2.2.2.2.2.1
   clear hB3
   go_upto_region 6 with fail
   rw [← hV3]
   clear hV3
   go_wp2_with (go_at_call 21; refine (num_any _ _).mono ?_; rintro e9 wn ⟨rfl, rfl⟩)
   clear f0 f1 f2 f3 f4 f5 g0 g1 g2 g3 g4 g5
   refine HC3.mono ?_
   rintro x w4 ⟨rfl, hb4⟩
   have H4 : Hid (Below V0.heap.size V0 w4) := below_any H3.out.1 hb4
   clear HC3 hb4
   have HC5 := K.rpenc_any (e := e) (n := n) ⟨H0.out.2.2.2.2.2.1, H0.out.2.2.2.2.2.2.1⟩ H0.out.2.2.2.2.2.2.2.1 (HV.out w4 H4.out).2.2.1 (HV.out w4 H4.out).2.2.2.1
   obtain ⟨⟨f0, f1, f2, f3⟩, -⟩ := box4 (HV.out w4 H4.out).2.2.2.2.2.2.1
   go_wp2_with (go_at_call 21; refine (num_any _ _).mono ?_; rintro e9 wn ⟨rfl, rfl⟩)
   clear f0 f1 f2 f3
   refine HC5.mono ?_
   rintro x w5 ⟨⟨a10, c10, rfl, ho10⟩, hb5⟩
   obtain ⟨P, hP⟩ := exa (rpO e n d2 l)
   obtain ⟨re, hre⟩ := exa (rpC e n d2 l)
   rw [← hP] at ho10 ⊢
   rw [← hre]
   obtain ⟨pl, hpl⟩ := exa (P.length)
   rw [← hpl] at ho10 ⊢
   have H5 : Hid (Below V0.heap.size V0 w5 ∧ Arg 0 w5 (.slice a10 pl c10) P) := ⟨below_any H4.out hb5, (arg_w ho10.arg).weaken (Nat.zero_le _)⟩
   have HP : Hid (P = rpO e n d2 l ∧ re = rpC e n d2 l) := ⟨hP, hre⟩
   clear HC5 ho10 hb5 hP hre hpl
   by_cases hy : re = 0
   · subst hy
     have HBr : Hid (rdE P = 0 ∧ rdV P = (e, n, d2, l) ∧ P.length ≤ 140737488351232) := by (
 have h := HP.out.2.symm
 rw [HP.out.1]
 obtain ⟨h1, h2⟩ := rp_back H0.out.2.2.2.2.2.1 H0.out.2.2.2.2.2.2.1 H0.out.2.2.2.2.2.2.2.2.2.2.1 h
 refine ⟨h1, h2, ?_⟩
 unfold rpO
 split
 · simp
 · exact Nat.le_trans (W.enc_len fun x hx => by
     rcases List.mem_cons.1 hx with rfl | hx
     · exact H0.out.2.2.2.2.2.1
     · rw [List.mem_singleton.1 hx]; exact H0.out.2.2.2.2.2.2.1) (by omega))
     have HC6 := K.rpdec_any 0 (.slice a10 pl c10) P w5 H5.out.2 HBr.out.2.2 (HV.out w5 H5.out.1).1
     rw [HBr.out.1, HBr.out.2.1] at HC6
     go_wp2_with (go_at_call 21; refine (num_any _ _).mono ?_; rintro e9 wn ⟨rfl, rfl⟩)
     refine HC6.mono ?_
     rintro x w6 ⟨⟨u6, rfl, a11, c11, nv6, rfl, ho11, hn11⟩, hb6⟩
     simp only at ho11 hn11 ⊢
     obtain ⟨na6, nc6, rfl, -⟩ := hn11.shape
     rw [← H0.out.2.2.2.2.2.2.2.1] at ho11 ⊢
     rw [← HNL.out] at hn11 ⊢
     obtain ⟨V6, hV6⟩ := exa (w6.alloc (.cells #[.int .i64 e, .int .i64 n, .slice a11 el c11, .slice na6 nl nc6] 59))
     have hbV : Below w6.heap.size w6 V6 := by rw [hV6]; exact (Below.refl _ w6).alloc (Nat.le_refl _) _
     have hB6 : Box V6 w6.heap.size 59 #[.int .i64 e, .int .i64 n, .slice a11 el c11, .slice na6 nl nc6] := by rw [hV6]; exact Box.new _ _ _
     have H6 : Hid (Below V0.heap.size V0 V6 ∧ Arg 0 V6 (.slice a11 el c11) d2 ∧ ArgT 0 V6 (.slice na6 nl nc6) l) := ⟨below_any (below_any H5.out.1 hb6) hbV, (ho11.weaken (Nat.zero_le _)).below hbV, (hn11.weaken (Nat.zero_le _)).below hbV⟩
     clear HC6 ho11 hn11 hb6 hbV
     have HC7 := K.samerp_any (e := e) (n := n) H6.out.2.1 (HV.out V6 H6.out.1).2.2.1 H6.out.2.2 (HV.out V6 H6.out.1).2.2.2.1
     obtain ⟨⟨f0, f1, f2, f3⟩, -⟩ := box4 hB6
     obtain ⟨⟨g0, g1, g2, g3⟩, -⟩ := box4 (HV.out V6 H6.out.1).2.2.2.2.2.2.1
     clear hB6
     go_upto_region 11 with fail
     rw [← hV6]
     clear hV6
     go_wp2_with (go_at_call 21; refine (num_any _ _).mono ?_; rintro e9 wn ⟨rfl, rfl⟩)
     clear f0 f1 f2 f3 g0 g1 g2 g3
     refine HC7.mono ?_
     rintro x w7 ⟨rfl, hb7⟩
     have H7 : Hid (Below V0.heap.size V0 w7) := below_any H6.out.1 hb7
     clear HC7 hb7
     have HC8 := K.dec_any 0 (.slice xa xn xc) b w7 (HV.out w7 H7.out).2.2.2.2.1 H0.out.2.2.2.2.2.2.2.2.1 (HV.out w7 H7.out).1
     obtain ⟨⟨k4, p4, t4, o4, m4, d4⟩, hq4⟩ : ∃ q, q = dopV b := ⟨_, rfl⟩
     obtain ⟨e4, he4⟩ := exa (dopE b)
     have HQ4 : Hid ((k4, p4, t4, o4, m4, d4) = dopV b ∧ e4 = dopE b) := ⟨hq4, he4⟩
     rw [← hq4, ← he4] at HC8
     clear hq4 he4
     obtain ⟨l4, hl4⟩ := exa (d4.length)
     have HL4 : Hid (l4 = d4.length) := hl4
     clear hl4
     go_wp2_with (go_at_call 21; refine (num_any _ _).mono ?_; rintro e9 wn ⟨rfl, rfl⟩)
     refine HC8.mono ?_
     rintro x w8 ⟨⟨u8, rfl, a12, c12, rfl, ho12⟩, hb8⟩
     simp only at ho12 ⊢
     rw [← HL4.out] at ho12 ⊢
     obtain ⟨V8, hV8⟩ := exa (w8.alloc (.cells #[.int .i64 k4, .string p4, .string t4, .int .i64 o4, .int .i64 m4, .slice a12 l4 c12] 56))
     have hbV : Below w8.heap.size w8 V8 := by rw [hV8]; exact (Below.refl _ w8).alloc (Nat.le_refl _) _
     have H8 : Hid (Below V0.heap.size V0 V8 ∧ Arg 0 V8 (.slice a12 l4 c12) d4 ∧ Box V8 w8.heap.size 56 #[.int .i64 k4, .string p4, .string t4, .int .i64 o4, .int .i64 m4, .slice a12 l4 c12]) := ⟨below_any (below_any H7.out hb8) hbV, (ho12.weaken (Nat.zero_le _)).below hbV, by rw [hV8]; exact Box.new _ _ _⟩
     clear HC8 ho12 hb8 hbV
     go_upto_region 14 with fail
     rw [← hV8]
     clear hV8
     obtain ⟨⟨f0, f1, f2, f3, f4, f5⟩, -⟩ := box6 H8.out.2.2
     by_cases hx : e4 = 0
     · subst hx
       obtain ⟨k', p', t', o', m', d', h1, h2, h3, h4, h5⟩ := oct_back H0.out.2.2.2.2.2.2.2.2.2.2.2 HQ4.out.2.symm
       rw [← HQ4.out.1] at h1
       simp only [Prod.mk.injEq] at h1
       obtain ⟨rfl, rfl, rfl, rfl, rfl, rfl⟩ := h1
       have hs := opE_le h2
       have HC9 := K.enc_any (k := k4) (p := p4) (t := t4) (off := o4) (m := m4) (by unfold maxLen; omega) (by unfold maxLen; omega) h4 h5 HL4.out H8.out.2.1
       rw [h2, h3] at HC9
       obtain ⟨bl, hbl⟩ := exa (b.length)
       rw [← hbl] at HC9
       clear h2 h3 h4 h5 hs hbl
       go_wp2_with (go_at_call 21; refine (num_any _ _).mono ?_; rintro e9 wn ⟨rfl, rfl⟩)
       clear f0 f1 f2 f3 f4 f5
       refine HC9.mono ?_
       rintro x w9 ⟨⟨a13, c13, rfl, ho13⟩, hb9⟩
       have H9 : Hid (Below V0.heap.size V0 w9) := below_any H8.out.1 hb9
       have HC10 := same_t (arg_w ho13.arg) (HV.out w9 H9.out).2.2.2.2.1
       clear HC9 ho13 hb9
       go_wp2_with (go_at_call 21; refine (num_any _ _).mono ?_; rintro e9 wn ⟨rfl, rfl⟩)
       refine HC10.mono ?_
       rintro x w10 ⟨rfl, hb10⟩
       have HZ : Hid (Below w.heap.size w w10) := (HV.out w10 (below_any H9.out hb10)).2.2.2.2.2.2.2
       clear HC10 hb10
       go_wp2
       go_ret
       exact ⟨by simp, HZ.out⟩
     · have hk : k4 = 0 := by
         have h1 := HQ4.out.1
         unfold dopV at h1
         rw [if_neg (by rw [← HQ4.out.2]; exact hx)] at h1
         exact congrArg (fun q => q.1) h1
       subst hk
       have HZ : Hid (Below w.heap.size w V8) := (HV.out V8 H8.out.1).2.2.2.2.2.2.2
       go_wp2_with (go_at_call 21; refine (num_any _ _).mono ?_; rintro e9 wn ⟨rfl, rfl⟩)
       go_ret
       exact ⟨by simp, HZ.out⟩
   · have HC8 := K.dec_any 0 (.slice xa xn xc) b w5 (HV.out w5 H5.out.1).2.2.2.2.1 H0.out.2.2.2.2.2.2.2.2.1 (HV.out w5 H5.out.1).1
     obtain ⟨⟨k4, p4, t4, o4, m4, d4⟩, hq4⟩ : ∃ q, q = dopV b := ⟨_, rfl⟩
     obtain ⟨e4, he4⟩ := exa (dopE b)
     have HQ4 : Hid ((k4, p4, t4, o4, m4, d4) = dopV b ∧ e4 = dopE b) := ⟨hq4, he4⟩
     rw [← hq4, ← he4] at HC8
     clear hq4 he4
     obtain ⟨l4, hl4⟩ := exa (d4.length)
     have HL4 : Hid (l4 = d4.length) := hl4
     clear hl4
     go_wp2_with (go_at_call 21; refine (num_any _ _).mono ?_; rintro e9 wn ⟨rfl, rfl⟩)
     refine HC8.mono ?_
     rintro x w8 ⟨⟨u8, rfl, a12, c12, rfl, ho12⟩, hb8⟩
     simp only at ho12 ⊢
     rw [← HL4.out] at ho12 ⊢
     obtain ⟨V8, hV8⟩ := exa (w8.alloc (.cells #[.int .i64 k4, .string p4, .string t4, .int .i64 o4, .int .i64 m4, .slice a12 l4 c12] 56))
     have hbV : Below w8.heap.size w8 V8 := by rw [hV8]; exact (Below.refl _ w8).alloc (Nat.le_refl _) _
     have H8 : Hid (Below V0.heap.size V0 V8 ∧ Arg 0 V8 (.slice a12 l4 c12) d4 ∧ Box V8 w8.heap.size 56 #[.int .i64 k4, .string p4, .string t4, .int .i64 o4, .int .i64 m4, .slice a12 l4 c12]) := ⟨below_any (below_any H5.out.1 hb8) hbV, (ho12.weaken (Nat.zero_le _)).below hbV, by rw [hV8]; exact Box.new _ _ _⟩
     clear HC8 ho12 hb8 hbV
     go_upto_region 14 with fail
     rw [← hV8]
     clear hV8
     obtain ⟨⟨f0, f1, f2, f3, f4, f5⟩, -⟩ := box6 H8.out.2.2
     by_cases hx : e4 = 0
     · subst hx
       obtain ⟨k', p', t', o', m', d', h1, h2, h3, h4, h5⟩ := oct_back H0.out.2.2.2.2.2.2.2.2.2.2.2 HQ4.out.2.symm
       rw [← HQ4.out.1] at h1
       simp only [Prod.mk.injEq] at h1
       obtain ⟨rfl, rfl, rfl, rfl, rfl, rfl⟩ := h1
       have hs := opE_le h2
       have HC9 := K.enc_any (k := k4) (p := p4) (t := t4) (off := o4) (m := m4) (by unfold maxLen; omega) (by unfold maxLen; omega) h4 h5 HL4.out H8.out.2.1
       rw [h2, h3] at HC9
       obtain ⟨bl, hbl⟩ := exa (b.length)
       rw [← hbl] at HC9
       clear h2 h3 h4 h5 hs hbl
       go_wp2_with (go_at_call 21; refine (num_any _ _).mono ?_; rintro e9 wn ⟨rfl, rfl⟩)
       clear f0 f1 f2 f3 f4 f5
       refine HC9.mono ?_
       rintro x w9 ⟨⟨a13, c13, rfl, ho13⟩, hb9⟩
       have H9 : Hid (Below V0.heap.size V0 w9) := below_any H8.out.1 hb9
       have HC10 := same_t (arg_w ho13.arg) (HV.out w9 H9.out).2.2.2.2.1
       clear HC9 ho13 hb9
       go_wp2_with (go_at_call 21; refine (num_any _ _).mono ?_; rintro e9 wn ⟨rfl, rfl⟩)
       refine HC10.mono ?_
       rintro x w10 ⟨rfl, hb10⟩
       have HZ : Hid (Below w.heap.size w w10) := (HV.out w10 (below_any H9.out hb10)).2.2.2.2.2.2.2
       clear HC10 hb10
       go_wp2
       go_ret
       exact ⟨by simp, HZ.out⟩
     · have hk : k4 = 0 := by
         have h1 := HQ4.out.1
         unfold dopV at h1
         rw [if_neg (by rw [← HQ4.out.2]; exact hx)] at h1
         exact congrArg (fun q => q.1) h1
       subst hk
       have HZ : Hid (Below w.heap.size w V8) := (HV.out V8 H8.out.1).2.2.2.2.2.2.2
       go_wp2_with (go_at_call 21; refine (num_any _ _).mono ?_; rintro e9 wn ⟨rfl, rfl⟩)
       go_ret
       exact ⟨by simp, HZ.out⟩
 · have HC5 := K.rpenc_any (e := e) (n := n) ⟨H0.out.2.2.2.2.2.1, H0.out.2.2.2.2.2.2.1⟩ H0.out.2.2.2.2.2.2.2.1 (HV.out w2 H2.out.1).2.2.1 (HV.out w2 H2.out.1).2.2.2.1
   obtain ⟨⟨f0, f1, f2, f3⟩, -⟩ := box4 (HV.out w2 H2.out.1).2.2.2.2.2.2.1
   go_wp2_with (go_at_call 21; refine (num_any _ _).mono ?_; rintro e9 wn ⟨rfl, rfl⟩)
   clear f0 f1 f2 f3
   refine HC5.mono ?_
   rintro x w5 ⟨⟨a10, c10, rfl, ho10⟩, hb5⟩
   obtain ⟨P, hP⟩ := exa (rpO e n d2 l)
   obtain ⟨re, hre⟩ := exa (rpC e n d2 l)
   rw [← hP] at ho10 ⊢
   rw [← hre]
   obtain ⟨pl, hpl⟩ := exa (P.length)
   rw [← hpl] at ho10 ⊢
   have H5 : Hid (Below V0.heap.size V0 w5 ∧ Arg 0 w5 (.slice a10 pl c10) P) := ⟨below_any H2.out.1 hb5, (arg_w ho10.arg).weaken (Nat.zero_le _)⟩
   have HP : Hid (P = rpO e n d2 l ∧ re = rpC e n d2 l) := ⟨hP, hre⟩
   clear HC5 ho10 hb5 hP hre hpl
   by_cases hy : re = 0
   · subst hy
     have HBr : Hid (rdE P = 0 ∧ rdV P = (e, n, d2, l) ∧ P.length ≤ 140737488351232) := by (
 have h := HP.out.2.symm
 rw [HP.out.1]
 obtain ⟨h1, h2⟩ := rp_back H0.out.2.2.2.2.2.1 H0.out.2.2.2.2.2.2.1 H0.out.2.2.2.2.2.2.2.2.2.2.1 h
 refine ⟨h1, h2, ?_⟩
 unfold rpO
 split
 · simp
 · exact Nat.le_trans (W.enc_len fun x hx => by
     rcases List.mem_cons.1 hx with rfl | hx
     · exact H0.out.2.2.2.2.2.1
     · rw [List.mem_singleton.1 hx]; exact H0.out.2.2.2.2.2.2.1) (by omega))
     have HC6 := K.rpdec_any 0 (.slice a10 pl c10) P w5 H5.out.2 HBr.out.2.2 (HV.out w5 H5.out.1).1
     rw [HBr.out.1, HBr.out.2.1] at HC6
     go_wp2_with (go_at_call 21; refine (num_any _ _).mono ?_; rintro e9 wn ⟨rfl, rfl⟩)
     refine HC6.mono ?_
     rintro x w6 ⟨⟨u6, rfl, a11, c11, nv6, rfl, ho11, hn11⟩, hb6⟩
     simp only at ho11 hn11 ⊢
     obtain ⟨na6, nc6, rfl, -⟩ := hn11.shape
     rw [← H0.out.2.2.2.2.2.2.2.1] at ho11 ⊢
     rw [← HNL.out] at hn11 ⊢
     obtain ⟨V6, hV6⟩ := exa (w6.alloc (.cells #[.int .i64 e, .int .i64 n, .slice a11 el c11, .slice na6 nl nc6] 59))
     have hbV : Below w6.heap.size w6 V6 := by rw [hV6]; exact (Below.refl _ w6).alloc (Nat.le_refl _) _
     have hB6 : Box V6 w6.heap.size 59 #[.int .i64 e, .int .i64 n, .slice a11 el c11, .slice na6 nl nc6] := by rw [hV6]; exact Box.new _ _ _
     have H6 : Hid (Below V0.heap.size V0 V6 ∧ Arg 0 V6 (.slice a11 el c11) d2 ∧ ArgT 0 V6 (.slice na6 nl nc6) l) := ⟨below_any (below_any H5.out.1 hb6) hbV, (ho11.weaken (Nat.zero_le _)).below hbV, (hn11.weaken (Nat.zero_le _)).below hbV⟩
     clear HC6 ho11 hn11 hb6 hbV
     have HC7 := K.samerp_any (e := e) (n := n) H6.out.2.1 (HV.out V6 H6.out.1).2.2.1 H6.out.2.2 (HV.out V6 H6.out.1).2.2.2.1
     obtain ⟨⟨f0, f1, f2, f3⟩, -⟩ := box4 hB6
     obtain ⟨⟨g0, g1, g2, g3⟩, -⟩ := box4 (HV.out V6 H6.out.1).2.2.2.2.2.2.1
     clear hB6
     go_upto_region 11 with fail
     rw [← hV6]
     clear hV6
     go_wp2_with (go_at_call 21; refine (num_any _ _).mono ?_; rintro e9 wn ⟨rfl, rfl⟩)
     clear f0 f1 f2 f3 g0 g1 g2 g3
     refine HC7.mono ?_
     rintro x w7 ⟨rfl, hb7⟩
     have H7 : Hid (Below V0.heap.size V0 w7) := below_any H6.out.1 hb7
     clear HC7 hb7
     have HC8 := K.dec_any 0 (.slice xa xn xc) b w7 (HV.out w7 H7.out).2.2.2.2.1 H0.out.2.2.2.2.2.2.2.2.1 (HV.out w7 H7.out).1
     obtain ⟨⟨k4, p4, t4, o4, m4, d4⟩, hq4⟩ : ∃ q, q = dopV b := ⟨_, rfl⟩
     obtain ⟨e4, he4⟩ := exa (dopE b)
     have HQ4 : Hid ((k4, p4, t4, o4, m4, d4) = dopV b ∧ e4 = dopE b) := ⟨hq4, he4⟩
     rw [← hq4, ← he4] at HC8
     clear hq4 he4
     obtain ⟨l4, hl4⟩ := exa (d4.length)
     have HL4 : Hid (l4 = d4.length) := hl4
     clear hl4
     go_wp2_with (go_at_call 21; refine (num_any _ _).mono ?_; rintro e9 wn ⟨rfl, rfl⟩)
     refine HC8.mono ?_
     rintro x w8 ⟨⟨u8, rfl, a12, c12, rfl, ho12⟩, hb8⟩
     simp only at ho12 ⊢
     rw [← HL4.out] at ho12 ⊢
     obtain ⟨V8, hV8⟩ := exa (w8.alloc (.cells #[.int .i64 k4, .string p4, .string t4, .int .i64 o4, .int .i64 m4, .slice a12 l4 c12] 56))
     have hbV : Below w8.heap.size w8 V8 := by rw [hV8]; exact (Below.refl _ w8).alloc (Nat.le_refl _) _
     have H8 : Hid (Below V0.heap.size V0 V8 ∧ Arg 0 V8 (.slice a12 l4 c12) d4 ∧ Box V8 w8.heap.size 56 #[.int .i64 k4, .string p4, .string t4, .int .i64 o4, .int .i64 m4, .slice a12 l4 c12]) := ⟨below_any (below_any H7.out hb8) hbV, (ho12.weaken (Nat.zero_le _)).below hbV, by rw [hV8]; exact Box.new _ _ _⟩
     clear HC8 ho12 hb8 hbV
     go_upto_region 14 with fail
     rw [← hV8]
     clear hV8
     obtain ⟨⟨f0, f1, f2, f3, f4, f5⟩, -⟩ := box6 H8.out.2.2
     by_cases hx : e4 = 0
     · subst hx
       obtain ⟨k', p', t', o', m', d', h1, h2, h3, h4, h5⟩ := oct_back H0.out.2.2.2.2.2.2.2.2.2.2.2 HQ4.out.2.symm
       rw [← HQ4.out.1] at h1
       simp only [Prod.mk.injEq] at h1
       obtain ⟨rfl, rfl, rfl, rfl, rfl, rfl⟩ := h1
       have hs := opE_le h2
       have HC9 := K.enc_any (k := k4) (p := p4) (t := t4) (off := o4) (m := m4) (by unfold maxLen; omega) (by unfold maxLen; omega) h4 h5 HL4.out H8.out.2.1
       rw [h2, h3] at HC9
       obtain ⟨bl, hbl⟩ := exa (b.length)
       rw [← hbl] at HC9
       clear h2 h3 h4 h5 hs hbl
       go_wp2_with (go_at_call 21; refine (num_any _ _).mono ?_; rintro e9 wn ⟨rfl, rfl⟩)
       clear f0 f1 f2 f3 f4 f5
       refine HC9.mono ?_
       rintro x w9 ⟨⟨a13, c13, rfl, ho13⟩, hb9⟩
       have H9 : Hid (Below V0.heap.size V0 w9) := below_any H8.out.1 hb9
       have HC10 := same_t (arg_w ho13.arg) (HV.out w9 H9.out).2.2.2.2.1
       clear HC9 ho13 hb9
       go_wp2_with (go_at_call 21; refine (num_any _ _).mono ?_; rintro e9 wn ⟨rfl, rfl⟩)
       refine HC10.mono ?_
       rintro x w10 ⟨rfl, hb10⟩
       have HZ : Hid (Below w.heap.size w w10) := (HV.out w10 (below_any H9.out hb10)).2.2.2.2.2.2.2
       clear HC10 hb10
       go_wp2
       go_ret
       exact ⟨by simp, HZ.out⟩
     · have hk : k4 = 0 := by
         have h1 := HQ4.out.1
         unfold dopV at h1
         rw [if_neg (by rw [← HQ4.out.2]; exact hx)] at h1
         exact congrArg (fun q => q.1) h1
       subst hk
       have HZ : Hid (Below w.heap.size w V8) := (HV.out V8 H8.out.1).2.2.2.2.2.2.2
       go_wp2_with (go_at_call 21; refine (num_any _ _).mono ?_; rintro e9 wn ⟨rfl, rfl⟩)
       go_ret
       exact ⟨by simp, HZ.out⟩
   · have HC8 := K.dec_any 0 (.slice xa xn xc) b w5 (HV.out w5 H5.out.1).2.2.2.2.1 H0.out.2.2.2.2.2.2.2.2.1 (HV.out w5 H5.out.1).1
     obtain ⟨⟨k4, p4, t4, o4, m4, d4⟩, hq4⟩ : ∃ q, q = dopV b := ⟨_, rfl⟩
     obtain ⟨e4, he4⟩ := exa (dopE b)
     have HQ4 : Hid ((k4, p4, t4, o4, m4, d4) = dopV b ∧ e4 = dopE b) := ⟨hq4, he4⟩
     rw [← hq4, ← he4] at HC8
     clear hq4 he4
     obtain ⟨l4, hl4⟩ := exa (d4.length)
     have HL4 : Hid (l4 = d4.length) := hl4
     clear hl4
     go_wp2_with (go_at_call 21; refine (num_any _ _).mono ?_; rintro e9 wn ⟨rfl, rfl⟩)
     refine HC8.mono ?_
     rintro x w8 ⟨⟨u8, rfl, a12, c12, rfl, ho12⟩, hb8⟩
     simp only at ho12 ⊢
     rw [← HL4.out] at ho12 ⊢
     obtain ⟨V8, hV8⟩ := exa (w8.alloc (.cells #[.int .i64 k4, .string p4, .string t4, .int .i64 o4, .int .i64 m4, .slice a12 l4 c12] 56))
     have hbV : Below w8.heap.size w8 V8 := by rw [hV8]; exact (Below.refl _ w8).alloc (Nat.le_refl _) _
     have H8 : Hid (Below V0.heap.size V0 V8 ∧ Arg 0 V8 (.slice a12 l4 c12) d4 ∧ Box V8 w8.heap.size 56 #[.int .i64 k4, .string p4, .string t4, .int .i64 o4, .int .i64 m4, .slice a12 l4 c12]) := ⟨below_any (below_any H5.out.1 hb8) hbV, (ho12.weaken (Nat.zero_le _)).below hbV, by rw [hV8]; exact Box.new _ _ _⟩
     clear HC8 ho12 hb8 hbV
     go_upto_region 14 with fail
     rw [← hV8]
     clear hV8
     obtain ⟨⟨f0, f1, f2, f3, f4, f5⟩, -⟩ := box6 H8.out.2.2
     by_cases hx : e4 = 0
     · subst hx
       obtain ⟨k', p', t', o', m', d', h1, h2, h3, h4, h5⟩ := oct_back H0.out.2.2.2.2.2.2.2.2.2.2.2 HQ4.out.2.symm
       rw [← HQ4.out.1] at h1
       simp only [Prod.mk.injEq] at h1
       obtain ⟨rfl, rfl, rfl, rfl, rfl, rfl⟩ := h1
       have hs := opE_le h2
       have HC9 := K.enc_any (k := k4) (p := p4) (t := t4) (off := o4) (m := m4) (by unfold maxLen; omega) (by unfold maxLen; omega) h4 h5 HL4.out H8.out.2.1
       rw [h2, h3] at HC9
       obtain ⟨bl, hbl⟩ := exa (b.length)
       rw [← hbl] at HC9
       clear h2 h3 h4 h5 hs hbl
       go_wp2_with (go_at_call 21; refine (num_any _ _).mono ?_; rintro e9 wn ⟨rfl, rfl⟩)
       clear f0 f1 f2 f3 f4 f5
       refine HC9.mono ?_
       rintro x w9 ⟨⟨a13, c13, rfl, ho13⟩, hb9⟩
       have H9 : Hid (Below V0.heap.size V0 w9) := below_any H8.out.1 hb9
       have HC10 := same_t (arg_w ho13.arg) (HV.out w9 H9.out).2.2.2.2.1
       clear HC9 ho13 hb9
       go_wp2_with (go_at_call 21; refine (num_any _ _).mono ?_; rintro e9 wn ⟨rfl, rfl⟩)
       refine HC10.mono ?_
       rintro x w10 ⟨rfl, hb10⟩
       have HZ : Hid (Below w.heap.size w w10) := (HV.out w10 (below_any H9.out hb10)).2.2.2.2.2.2.2
       clear HC10 hb10
       go_wp2
       go_ret
       exact ⟨by simp, HZ.out⟩
     · have hk : k4 = 0 := by
         have h1 := HQ4.out.1
         unfold dopV at h1
         rw [if_neg (by rw [← HQ4.out.2]; exact hx)] at h1
         exact congrArg (fun q => q.1) h1
       subst hk
       have HZ : Hid (Below w.heap.size w V8) := (HV.out V8 H8.out.1).2.2.2.2.2.2.2
       go_wp2_with (go_at_call 21; refine (num_any _ _).mono ?_; rintro e9 wn ⟨rfl, rfl⟩)
       go_ret
       exact ⟨by simp, HZ.out⟩
end Go.Proofs.YtopcefhncildnaaGreatDoor.opsBack
