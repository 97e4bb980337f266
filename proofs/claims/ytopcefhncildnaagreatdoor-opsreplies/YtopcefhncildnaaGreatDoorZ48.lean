/-
  Octets read as an op: ops.Decode.
  Replies as data; the texts of a record behind the first.
  Octets read as a reply: ops.DecodeReply.
  Replies as data; equal ones are the same; what is laid is read back.
  Texts copied: what CopyStrings makes.
  The document's answers: a reply as octets.
-/
import Derived.Test.YtopcefhncildnaaGreatDoorZ32
import Derived.Test.YtopcefhncildnaaGreatDoorZ46
import Derived.Test.YtopcefhncildnaaGreatDoorZ47
set_option maxRecDepth 100000
set_option maxHeartbeats 8000000
namespace Go.Proofs.YtopcefhncildnaaGreatDoor.K
open Go.RowKit
set_option linter.unusedVariables false
theorem box6 {w : World} {B : Nat} {t : TypeId} {u0 u1 u2 u3 u4 u5 : Value} (h : Box w B t #[u0, u1, u2, u3, u4, u5]) : (w.cell? ⟨B, 0, none⟩ = some u0 ∧ w.cell? ⟨B, 1, none⟩ = some u1 ∧ w.cell? ⟨B, 2, none⟩ = some u2 ∧ w.cell? ⟨B, 3, none⟩ = some u3 ∧ w.cell? ⟨B, 4, none⟩ = some u4 ∧ w.cell? ⟨B, 5, none⟩ = some u5) ∧ (w.frozen? ⟨B, 0, none⟩ = false ∧ w.frozen? ⟨B, 1, none⟩ = false ∧ w.frozen? ⟨B, 2, none⟩ = false ∧ w.frozen? ⟨B, 3, none⟩ = false ∧ w.frozen? ⟨B, 4, none⟩ = false ∧ w.frozen? ⟨B, 5, none⟩ = false) :=
 ⟨⟨h.cell 0 rfl, h.cell 1 rfl, h.cell 2 rfl, h.cell 3 rfl, h.cell 4 rfl, h.cell 5 rfl⟩, h.frozen 0, h.frozen 1, h.frozen 2, h.frozen 3, h.frozen 4, h.frozen 5⟩
theorem below_set6 {B n : Nat} {w W : World} (h : Below n w W) (hn : n ≤ B) (u0 u1 u2 u3 u4 u5 : Value) : Below n w ((((((W.setCell ⟨B, 0, none⟩ u0).setCell ⟨B, 1, none⟩ u1).setCell ⟨B, 2, none⟩ u2).setCell ⟨B, 3, none⟩ u3).setCell ⟨B, 4, none⟩ u4).setCell ⟨B, 5, none⟩ u5) := ((below_set4 h hn u0 u1 u2 u3).setCell (p := ⟨B, 4, none⟩) hn u4).setCell (p := ⟨B, 5, none⟩) hn u5
theorem same_set6 {n B : Nat} {w : World} {u0 u1 u2 u3 u4 u5 : Value} (hB : B < n) : Same n w ((((((w.setCell ⟨B, 0, none⟩ u0).setCell ⟨B, 1, none⟩ u1).setCell ⟨B, 2, none⟩ u2).setCell ⟨B, 3, none⟩ u3).setCell ⟨B, 4, none⟩ u4).setCell ⟨B, 5, none⟩ u5) := Same.trans (same_set4 hB) (by simp [World.setCell]) (Same.trans (.set hB) (by simp [World.setCell]) (.set hB))
theorem box_set6 {w : World} {B : Nat} {t : TypeId} {v0 v1 v2 v3 v4 v5 : Value} (h : Box w B t #[v0, v1, v2, v3, v4, v5]) (u0 u1 u2 u3 u4 u5 : Value) : Box ((((((w.setCell ⟨B, 0, none⟩ u0).setCell ⟨B, 1, none⟩ u1).setCell ⟨B, 2, none⟩ u2).setCell ⟨B, 3, none⟩ u3).setCell ⟨B, 4, none⟩ u4).setCell ⟨B, 5, none⟩ u5) B t #[u0, u1, u2, u3, u4, u5] := (((((h.set 0 u0).set 1 u1).set 2 u2).set 3 u3).set 4 u4).set 5 u5
def rcO (r : W.Rc) : Opd := (r.1, strOfNums (r.2.2.getD 0 []), strOfNums (r.2.2.getD 1 []), r.2.1.getD 0 0, r.2.1.getD 1 0, r.2.2.getD 2 [])
def zO : Opd := (0, ⟨#[]⟩, ⟨#[]⟩, 0, 0, [])
def dopE (b : List Int) : Int := if W.decE b ≠ 0 then W.decE b else if (W.decV b).2.1.length ≠ 2 ∨ (W.decV b).2.2.length ≠ 3 then 3 else opE (rcO (W.decV b)).1 (rcO (W.decV b)).2.1 (rcO (W.decV b)).2.2.1 (rcO (W.decV b)).2.2.2.2.2.length
def dopV (b : List Int) : Opd := if dopE b = 0 then rcO (W.decV b) else zO
def OpL (n : Nat) (w : World) (v : Value) (q : Opd) : Prop := ∃ a c, v = .agg #[.int .i64 q.1, .string q.2.1, .string q.2.2.1, .int .i64 q.2.2.2.1, .int .i64 q.2.2.2.2.1, .slice a q.2.2.2.2.2.length c] ∧ Arg n w (.slice a q.2.2.2.2.2.length c) q.2.2.2.2.2
theorem opl_zero (n : Nat) (w : World) : OpL n w (.agg #[.int .i64 0, .string ⟨#[]⟩, .string ⟨#[]⟩, .int .i64 0, .int .i64 0, .slice none 0 0]) zO := ⟨none, 0, rfl, arg_nil _ _⟩
theorem two_of {α : Type} {l : List α} (h : l.length = 2) : ∃ a b, l = [a, b] := by
 rcases l with _ | ⟨a, _ | ⟨b, _ | ⟨c, r⟩⟩⟩
 · cases h
 · cases h
 · exact ⟨a, b, rfl⟩
 · simp at h
theorem three_of {α : Type} {l : List α} (h : l.length = 3) : ∃ a b c, l = [a, b, c] := by
 rcases l with _ | ⟨a, r⟩
 · cases h
 · obtain ⟨b, c, rfl⟩ := two_of (l := r) (by simpa using h)
   exact ⟨a, b, c, rfl⟩
theorem str_size (l : List Int) : (strOfNums l).size = l.length := by
 show ((l.map fun n => UInt8.ofNat n.toNat).toArray).size = _
 simp
theorem dec_any (n0 : Nat) (v : Value) (b : List Int) (w : World) (h : Arg n0 w v b) (hs : b.length ≤ 140737488351232) (hg : Glob w) :
   Calls Tryz.prog 25 #[v] w fun e w' => (∃ u, e = .returned (.tuple #[u, .int .i64 (dopE b)]) ∧ OpL w.heap.size w' u (dopV b)) ∧ Below w.heap.size w w' := by
 obtain ⟨W1, hW1⟩ := exa (w.alloc (.cells #[.int .i64 0, .string ⟨#[]⟩, .string ⟨#[]⟩, .int .i64 0, .int .i64 0, .slice none 0 0] 56))
 have hb1 : Below w.heap.size w W1 := by rw [hW1]; exact (Below.refl _ w).alloc (Nat.le_refl _) _
 have hB1 : Box W1 w.heap.size 56 #[.int .i64 0, .string ⟨#[]⟩, .string ⟨#[]⟩, .int .i64 0, .int .i64 0, .slice none 0 0] := by rw [hW1]; exact Box.new _ _ _
 have HC := W.dec_any n0 v b W1 (w_arg (h.below hb1)) (by omega) (hg.below hb1 hg.lt)
 have HB : Hid (Below w.heap.size w W1 ∧ Box W1 w.heap.size 56 #[.int .i64 0, .string ⟨#[]⟩, .string ⟨#[]⟩, .int .i64 0, .int .i64 0, .slice none 0 0]) := ⟨hb1, hB1⟩
 obtain ⟨post, hpost⟩ : ∃ post : Ending → World → Prop, post = fun e w' => (∃ u, e = .returned (.tuple #[u, .int .i64 (dopE b)]) ∧ OpL w.heap.size w' u (dopV b)) ∧ Below w.heap.size w w' := ⟨_, rfl⟩
 have HPo : Hid (∀ (k : Int) u w', k = dopE b → OpL w.heap.size w' u (dopV b) → Below w.heap.size w w' → post (.returned (.tuple #[u, .int .i64 k])) w') := fun k u w' h1 h2 h3 => by rw [hpost, h1]; exact ⟨⟨u, rfl, h2⟩, h3⟩
 rw [← hpost]
 clear hpost hb1 hB1 h hg
 go_enter Tryz.func25, Tryz.ntmps25
 go_wp2_with fail
 rw [← hW1]
 clear hW1
 refine HC.mono ?_
 rintro e w2 ⟨⟨us, rfl, ho⟩, hb2⟩
 obtain ⟨ax, cx, ay, cy, rfl⟩ := W.rec_oview ho
 obtain ⟨r, hr⟩ := exa (W.decV b)
 obtain ⟨de, hde⟩ := exa (W.decE b)
 have HDE : Hid (dopE b = (if de ≠ 0 then de else if r.2.1.length ≠ 2 ∨ r.2.2.length ≠ 3 then 3 else opE (rcO r).1 (rcO r).2.1 (rcO r).2.2.1 (rcO r).2.2.2.2.2.length) ∧ dopV b = (if dopE b = 0 then rcO r else zO)) := by (
 refine ⟨?_, ?_⟩
 · unfold dopE; rw [hr, hde]
 · unfold dopV; rw [hr])
 rw [← hr] at ho ⊢
 rw [← hde]
 clear HC hr hde
 obtain ⟨rk, ns, ts⟩ := r
 simp only at ho ⊢
 obtain ⟨nl, hnl⟩ := exa (ns.length)
 obtain ⟨tl, htl⟩ := exa (ts.length)
 rw [← hnl, ← htl] at ho ⊢
 obtain ⟨xx, yy, heq, hoi, hot, hok⟩ := W.rec_own ho
 simp only [List.cons.injEq, and_true, true_and] at heq
 obtain ⟨rfl, rfl⟩ := heq
 simp only at hoi hot hok
 obtain ⟨V, hV⟩ := exa (w2.alloc (.cells #[.int .i64 rk, .slice ax nl cx, .slice ay tl cy] 127))
 have hbV : Below w2.heap.size w2 V := by rw [hV]; exact (Below.refl _ w2).alloc (Nat.le_refl _) _
 have hBV : Box V w2.heap.size 127 #[.int .i64 rk, .slice ax nl cx, .slice ay tl cy] := by rw [hV]; exact Box.new _ _ _
 have HV : Hid (Below W1.heap.size W1 V ∧ Below w.heap.size w V ∧ Box V w2.heap.size 127 #[.int .i64 rk, .slice ax nl cx, .slice ay tl cy] ∧ (W.intsS.owns W1.heap.size V [.slice ax nl cx] ns ∧ W.textsS.owns W1.heap.size V [.slice ay tl cy] ts ∧ W.I64 rk) ∧ nl = ns.length ∧ tl = ts.length) := ⟨below_any hb2 hbV, HB.out.1.trans ((below_any hb2 hbV).mono HB.out.1.size), hBV, ⟨W.intsS.obelow hoi hbV, W.textsS.obelow hot hbV, hok⟩, hnl, htl⟩
 clear ho hb2 hbV hBV hnl htl hoi hot hok
 have hl1 := run_len Tryz.underlying125 ax nl cx
 have hl2 := run_len Tryz.underlying89 ay tl cy
 go_upto_region 2 with fail
 rw [← hV]
 clear hV
 by_cases hd0 : de = 0
 rotate_left
 · have hk : de = dopE b := by rw [HDE.out.1, if_pos hd0]
   have HP : Hid (∀ u0 u1 u2 u3 u4 u5 U, U = .tuple #[.agg #[.int .i64 0, .string ⟨#[]⟩, .string ⟨#[]⟩, .int .i64 0, .int .i64 0, .slice none 0 0], .int .i64 de] → post (.returned U) ((((((V.setCell ⟨w.heap.size, 0, none⟩ u0).setCell ⟨w.heap.size, 1, none⟩ u1).setCell ⟨w.heap.size, 2, none⟩ u2).setCell ⟨w.heap.size, 3, none⟩ u3).setCell ⟨w.heap.size, 4, none⟩ u4).setCell ⟨w.heap.size, 5, none⟩ u5)) := fun u0 u1 u2 u3 u4 u5 Z hZ => by (
 rw [hZ]
 refine HPo.out _ _ _ hk ?_ (below_set6 HV.out.2.1 (Nat.le_refl _) _ _ _ _ _ _)
 rw [HDE.out.2, if_neg (by rw [← hk]; exact hd0)]
 exact opl_zero _ _)
   clear hk
   obtain ⟨⟨d0, d1, d2, d3, d4, d5⟩, e0, e1, e2, e3, e4, e5⟩ := box6 (HB.out.2.below HV.out.1 HB.out.2.lt)
   go_wp2
   refine bodyPost_ret (v := .tuple #[.agg #[.int .i64 0, .string ⟨#[]⟩, .string ⟨#[]⟩, .int .i64 0, .int .i64 0, .slice none 0 0], .int .i64 de]) (by simp [results, Tryz.results25, go_sem, *]) rfl (HP.out _ _ _ _ _ _ _ rfl)
 subst hd0
 obtain ⟨g0, g1, g2, -⟩ := HV.out.2.2.1.three
 by_cases hln : nl = 2 ∧ tl = 3
 rotate_left
 · have hk : (3 : Int) = dopE b := by
     rw [HDE.out.1, if_neg (by simp), if_pos]
     have h1 := HV.out.2.2.2.2.1
     have h2 := HV.out.2.2.2.2.2
     simp only
     omega
   have HP : Hid (∀ u0 u1 u2 u3 u4 u5 U, U = .tuple #[.agg #[.int .i64 0, .string ⟨#[]⟩, .string ⟨#[]⟩, .int .i64 0, .int .i64 0, .slice none 0 0], .int .i64 3] → post (.returned U) ((((((V.setCell ⟨w.heap.size, 0, none⟩ u0).setCell ⟨w.heap.size, 1, none⟩ u1).setCell ⟨w.heap.size, 2, none⟩ u2).setCell ⟨w.heap.size, 3, none⟩ u3).setCell ⟨w.heap.size, 4, none⟩ u4).setCell ⟨w.heap.size, 5, none⟩ u5)) := fun u0 u1 u2 u3 u4 u5 Z hZ => by (
 rw [hZ]
 refine HPo.out _ _ _ hk ?_ (below_set6 HV.out.2.1 (Nat.le_refl _) _ _ _ _ _ _)
 rw [HDE.out.2, if_neg (by rw [← hk]; decide)]
 exact opl_zero _ _)
   clear hk
   obtain ⟨⟨d0, d1, d2, d3, d4, d5⟩, e0, e1, e2, e3, e4, e5⟩ := box6 (HB.out.2.below HV.out.1 HB.out.2.lt)
   by_cases h2 : (nl : Int) = 2
   · have h3 : ¬ (tl : Int) = 3 := by omega
     clear hln
     go_wp2
     refine bodyPost_ret (v := .tuple #[.agg #[.int .i64 0, .string ⟨#[]⟩, .string ⟨#[]⟩, .int .i64 0, .int .i64 0, .slice none 0 0], .int .i64 3]) (by simp [results, Tryz.results25, go_sem, *]) rfl (HP.out _ _ _ _ _ _ _ rfl)
   · clear hln
     go_wp2
     refine bodyPost_ret (v := .tuple #[.agg #[.int .i64 0, .string ⟨#[]⟩, .string ⟨#[]⟩, .int .i64 0, .int .i64 0, .slice none 0 0], .int .i64 3]) (by simp [results, Tryz.results25, go_sem, *]) rfl (HP.out _ _ _ _ _ _ _ rfl)
 obtain ⟨rfl, rfl⟩ := hln
 obtain ⟨x0, x1, rfl⟩ := two_of HV.out.2.2.2.2.1.symm
 obtain ⟨t0, t1, t2, rfl⟩ := three_of HV.out.2.2.2.2.2.symm
 obtain ⟨hi, ht, hk⟩ := HV.out.2.2.2.1
 obtain ⟨b0, o0, ix0, c0, i0⟩ := W.ints_at (W.intsS.olies hi) 0 x0 rfl
 obtain ⟨b1, o1, ix1, c1, i1⟩ := W.ints_at (W.intsS.olies hi) 1 x1 rfl
 obtain ⟨b2, o2, v0, iy0, k0, ar0⟩ := W.texts_at (W.textsS.olies ht) 0 t0 rfl
 obtain ⟨b3, o3, v1, iy1, k1, ar1⟩ := W.texts_at (W.textsS.olies ht) 1 t1 rfl
 obtain ⟨b4, o4, v2, iy2, k2, ar2⟩ := W.texts_at (W.textsS.olies ht) 2 t2 rfl
 obtain ⟨y0, z0, rfl, -⟩ := ar0.shape
 obtain ⟨y1, z1, rfl, -⟩ := ar1.shape
 obtain ⟨y2, z2, rfl, -⟩ := ar2.shape
 have ix0 : ∀ W, (Instr.indexAt 125 (.slice ax 2 cx) (.int .i64 0)).run Tryz.prog W = .ok (.pointer (some ⟨b0, o0, none⟩)) W := ix0
 have ix1 : ∀ W, (Instr.indexAt 125 (.slice ax 2 cx) (.int .i64 1)).run Tryz.prog W = .ok (.pointer (some ⟨b1, o1, none⟩)) W := ix1
 have iy0 : ∀ W, (Instr.indexAt 89 (.slice ay 3 cy) (.int .i64 0)).run Tryz.prog W = .ok (.pointer (some ⟨b2, o2, none⟩)) W := iy0
 have iy1 : ∀ W, (Instr.indexAt 89 (.slice ay 3 cy) (.int .i64 1)).run Tryz.prog W = .ok (.pointer (some ⟨b3, o3, none⟩)) W := iy1
 have iy2 : ∀ W, (Instr.indexAt 89 (.slice ay 3 cy) (.int .i64 2)).run Tryz.prog W = .ok (.pointer (some ⟨b4, o4, none⟩)) W := iy2
 obtain ⟨l0, hl0⟩ := exa (t0.length)
 obtain ⟨l1, hl1'⟩ := exa (t1.length)
 obtain ⟨l2, hl2'⟩ := exa (t2.length)
 obtain ⟨p, hp⟩ := exa (strOfNums t0)
 obtain ⟨t, ht0⟩ := exa (strOfNums t1)
 rw [← hl0] at k0 ar0
 rw [← hl1'] at k1 ar1
 rw [← hl2'] at k2 ar2
 have HA : Hid (Arg W1.heap.size V (.slice y0 l0 z0) t0 ∧ Arg W1.heap.size V (.slice y1 l1 z1) t1 ∧ Arg W1.heap.size V (.slice y2 l2 z2) t2 ∧ l2 = t2.length ∧ p = strOfNums t0 ∧ t = strOfNums t1 ∧ I64 rk ∧ I64 x0 ∧ I64 x1 ∧ l0 = t0.length ∧ l1 = t1.length) := ⟨arg_w ar0, arg_w ar1, arg_w ar2, hl2', hp, ht0, hk, i0, i1, hl0, hl1'⟩
 have HS : Hid (∀ U, Below V.heap.size V U → (U.cell? ⟨w2.heap.size, 0, none⟩ = some (.int .i64 rk) ∧ U.cell? ⟨w2.heap.size, 1, none⟩ = some (.slice ax 2 cx) ∧ U.cell? ⟨w2.heap.size, 2, none⟩ = some (.slice ay 3 cy) ∧ U.cell? ⟨b0, o0, none⟩ = some (.int .i64 x0) ∧ U.cell? ⟨b1, o1, none⟩ = some (.int .i64 x1) ∧ U.cell? ⟨b2, o2, none⟩ = some (.slice y0 l0 z0) ∧ U.cell? ⟨b3, o3, none⟩ = some (.slice y1 l1 z1) ∧ U.cell? ⟨b4, o4, none⟩ = some (.slice y2 l2 z2) ∧ (convert 25 9 (.slice y0 l0 z0)).run Tryz.prog U = .ok (.string p) U ∧ (convert 25 9 (.slice y1 l1 z1)).run Tryz.prog U = .ok (.string t) U)) := fun U hU => by (
 have hcl : ∀ {z : Addr} {u : Value}, V.cell? z = some u → U.cell? z = some u := fun {z u} hz => by rw [hU.cell (cell_lt hz)]; exact hz
 have h1 := HV.out.2.2.1.below hU HV.out.2.2.1.lt
 refine ⟨h1.cell 0 rfl, h1.cell 1 rfl, h1.cell 2 rfl, hcl c0, hcl c1, hcl k0, hcl k1, hcl k2, ?_, ?_⟩
 · rw [HA.out.2.2.2.2.1]; exact F.conv_any (HA.out.1.below hU)
 · rw [HA.out.2.2.2.2.2.1]; exact F.conv_any (HA.out.2.1.below hU))
 clear hl0 hl1' hl2' hp ht0 hi ht hk i0 i1 ar0 ar1 ar2 c0 c1 k0 k1 k2
 go_upto_region 6 with fail
 clear g0 g1 g2
 obtain ⟨X0, hX0⟩ := exa (V.drew)
 have hbX : Below V.heap.size V X0 := by rw [hX0]; exact (Below.refl _ V).drew
 refine AnyBut.begin (fun U => U.cell? ⟨w2.heap.size, 0, none⟩ = some (.int .i64 rk) ∧ U.cell? ⟨w2.heap.size, 1, none⟩ = some (.slice ax 2 cx) ∧ U.cell? ⟨w2.heap.size, 2, none⟩ = some (.slice ay 3 cy) ∧ U.cell? ⟨b0, o0, none⟩ = some (.int .i64 x0) ∧ U.cell? ⟨b1, o1, none⟩ = some (.int .i64 x1) ∧ U.cell? ⟨b2, o2, none⟩ = some (.slice y0 l0 z0) ∧ U.cell? ⟨b3, o3, none⟩ = some (.slice y1 l1 z1) ∧ U.cell? ⟨b4, o4, none⟩ = some (.slice y2 l2 z2) ∧ (convert 25 9 (.slice y0 l0 z0)).run Tryz.prog U = .ok (.string p) U ∧ (convert 25 9 (.slice y1 l1 z1)).run Tryz.prog U = .ok (.string t) U) 1000 (by kernel_rfl) ?_
 rw [← hX0]
 clear hX0
 have hSS := HS.out X0 hbX
 refine tx 0 28 hSS ?_; simp only [ua,ub,uc,ud]
 refine tx 1 29 hSS ?_; simp only [ua,ub,uc,ud]
 refine tx 2 30 hSS ?_; simp only [ua,ub,uc,ud]
 refine tx 3 31 hSS ?_; simp only [ua,ub,uc,ud]
 refine tx 4 32 hSS ?_; simp only [ua,ub,uc,ud]
 refine tx 5 33 hSS ?_; simp only [ua,ub,uc,ud]
 refine tx 6 34 hSS ?_; simp only [ua,ub,uc,ud]
 refine tx 7 35 hSS ?_; simp only [ua,ub,uc,ud]
 refine tx 8 36 hSS ?_; simp only [ua,ub,uc,ud]
 refine tx 9 37 hSS ?_; simp only [ua,ub,uc,ud]
 refine tx 10 38 hSS ?_; simp only [ua,ub,uc,ud]
 refine tx 11 39 hSS ?_; simp only [ua,ub,uc,ud]
 refine tx 12 40 hSS ?_; simp only [ua,ub,uc,ud]
 refine tx 13 41 hSS ?_; simp only [ua,ub,uc,ud]
 refine tx 14 42 hSS ?_; simp only [ua,ub,uc,ud]
 refine tx 15 43 hSS ?_; simp only [ua,ub,uc,ud]
 refine tx 16 44 hSS ?_; simp only [ua,ub,uc,ud]
 refine tx 17 45 hSS ?_; simp only [ua,ub,uc,ud]
 refine tx 18 46 hSS ?_; simp only [ua,ub,uc,ud]
 refine tx 19 47 hSS ?_; simp only [ua,ub,uc,ud]
 refine tx 20 48 hSS ?_; simp only [ua,ub,uc,ud]
 refine tx 21 49 hSS ?_; simp only [ua,ub,uc,ud]
 refine tx 22 50 hSS ?_; simp only [ua,ub,uc,ud]
 refine tx 23 51 hSS ?_; simp only [ua,ub,uc,ud]
 refine tx 24 52 hSS ?_; simp only [ua,ub,uc,ud]
 refine AnyBut.step (i := 25) (by kernel_rfl) rfl (fun K hK => ?_)
 go_simp
 obtain ⟨X1, hX1⟩ := exa (X0.alloc (.cells #[.int .i64 0, .string ⟨#[]⟩, .string ⟨#[]⟩, .int .i64 0, .int .i64 0, .slice none 0 0] 56))
 have hb9 : Below X0.heap.size X0 X1 := by rw [hX1]; exact (Below.refl _ _).alloc (Nat.le_refl _) _
 have hB9 : Box X1 X0.heap.size 56 #[.int .i64 0, .string ⟨#[]⟩, .string ⟨#[]⟩, .int .i64 0, .int .i64 0, .slice none 0 0] := by rw [hX1]; exact Box.new _ _ _
 rw [← hX1]
 clear hX1
 have hbX1 := below_any hbX hb9
 refine hK.out _ _ (HS.out X1 hbX1) ?_
 clear hK hSS
 obtain ⟨⟨d0, d1, d2, d3, d4, d5⟩, e0, e1, e2, e3, e4, e5⟩ := box6 hB9
 refine AnyBut.step (i := 26) (by kernel_rfl) rfl (fun K hK => ?_)
 go_simp
 have hbX2 := below_set6 hbX1 hbX.size (.int .i64 rk) (.string p) (.string t) (.int .i64 x0) (.int .i64 x1) (.slice y2 l2 z2)
 have hB10 := box_set6 hB9 (.int .i64 rk) (.string p) (.string t) (.int .i64 x0) (.int .i64 x1) (.slice y2 l2 z2)
 obtain ⟨X2, hX2⟩ := exa (((((((X1.setCell ⟨X0.heap.size, 0, none⟩ (.int .i64 rk)).setCell ⟨X0.heap.size, 1, none⟩ (.string p)).setCell ⟨X0.heap.size, 2, none⟩ (.string t)).setCell ⟨X0.heap.size, 3, none⟩ (.int .i64 x0)).setCell ⟨X0.heap.size, 4, none⟩ (.int .i64 x1)).setCell ⟨X0.heap.size, 5, none⟩ (.slice y2 l2 z2)))
 rw [← hX2] at hbX2 hB10 ⊢
 refine hK.out _ _ (HS.out X2 hbX2) ?_
 clear hK hX2 d0 d1 d2 d3 d4 d5 e0 e1 e2 e3 e4 e5
 refine AnyBut.done (by kernel_rfl) ?_
 have HX : Hid (Below V.heap.size V X2 ∧ Box X2 X0.heap.size 56 #[.int .i64 rk, .string p, .string t, .int .i64 x0, .int .i64 x1, .slice y2 l2 z2] ∧ w.heap.size < X0.heap.size) := ⟨hbX2, hB10, Nat.lt_of_lt_of_le (Nat.lt_of_lt_of_le HB.out.2.lt HV.out.1.size) hbX.size⟩
 clear hb9 hB9 hbX1 hbX2 hB10 HS ix0 ix1 iy0 iy1 iy2 hl1 hl2 hbX
 have hpz : p.size ≤ maxLen := by rw [HA.out.2.2.2.2.1, str_size, ← HA.out.2.2.2.2.2.2.2.2.2.1]; exact (HA.out.1.shape).elim fun _ h => h.elim fun _ h => by have h3 := h.2.2.1; rw [← HA.out.2.2.2.2.2.2.2.2.2.1] at h3; exact h3
 have htz : t.size ≤ maxLen := by rw [HA.out.2.2.2.2.2.1, str_size, ← HA.out.2.2.2.2.2.2.2.2.2.2]; exact (HA.out.2.1.shape).elim fun _ h => h.elim fun _ h => by have h3 := h.2.2.1; rw [← HA.out.2.2.2.2.2.2.2.2.2.2] at h3; exact h3
 have HC := check_any rk x0 x1 p t hpz htz y2 l2 z2 X2
 obtain ⟨oe, hoe⟩ := exa (opE rk p t l2)
 have HOE : Hid (dopE b = oe) := by (
 show _ = _
 rw [HDE.out.1, if_neg (by simp), if_neg (by simp), hoe, HA.out.2.2.2.2.1, HA.out.2.2.2.2.2.1, HA.out.2.2.2.1]
 rfl)
 rw [← hoe] at HC
 clear hoe hpz htz
 obtain ⟨⟨d0, d1, d2, d3, d4, d5⟩, -⟩ := box6 HX.out.2.1
 go_wp2_with fail
 clear d0 d1 d2 d3 d4 d5
 refine HC.mono ?_
 rintro e w8 ⟨rfl, hb8⟩
 have H8 : Hid (Below V.heap.size V w8 ∧ Box w8 X0.heap.size 56 #[.int .i64 rk, .string p, .string t, .int .i64 x0, .int .i64 x1, .slice y2 l2 z2] ∧ Below w.heap.size w w8 ∧ Box w8 w.heap.size 56 #[.int .i64 0, .string ⟨#[]⟩, .string ⟨#[]⟩, .int .i64 0, .int .i64 0, .slice none 0 0]) := ⟨below_any HX.out.1 hb8, HX.out.2.1.below hb8 HX.out.2.1.lt, HV.out.2.1.trans ((below_any HX.out.1 hb8).mono HV.out.2.1.size), (HB.out.2.below HV.out.1 HB.out.2.lt).below (below_any HX.out.1 hb8) (Nat.lt_of_lt_of_le HB.out.2.lt HV.out.1.size)⟩
 clear HC hb8
 obtain ⟨⟨d0, d1, d2, d3, d4, d5⟩, e0, e1, e2, e3, e4, e5⟩ := box6 H8.out.2.2.2
 by_cases hz : oe = 0
 · subst hz
   have HP : Hid (∀ u0 u1 u2 u3 u4 u5 U, U = .tuple #[.agg #[.int .i64 rk, .string p, .string t, .int .i64 x0, .int .i64 x1, .slice y2 l2 z2], .int .i64 0] → post (.returned U) ((((((w8.setCell ⟨w.heap.size, 0, none⟩ u0).setCell ⟨w.heap.size, 1, none⟩ u1).setCell ⟨w.heap.size, 2, none⟩ u2).setCell ⟨w.heap.size, 3, none⟩ u3).setCell ⟨w.heap.size, 4, none⟩ u4).setCell ⟨w.heap.size, 5, none⟩ u5)) := fun u0 u1 u2 u3 u4 u5 Z hZ => by (
 rw [hZ]
 refine HPo.out _ _ _ HOE.out.symm ?_ (below_set6 H8.out.2.2.1 (Nat.le_refl _) _ _ _ _ _ _)
 rw [HDE.out.2, if_pos HOE.out]
 have ha : Arg w.heap.size ((((((w8.setCell ⟨w.heap.size, 0, none⟩ u0).setCell ⟨w.heap.size, 1, none⟩ u1).setCell ⟨w.heap.size, 2, none⟩ u2).setCell ⟨w.heap.size, 3, none⟩ u3).setCell ⟨w.heap.size, 4, none⟩ u4).setCell ⟨w.heap.size, 5, none⟩ u5) (.slice y2 l2 z2) t2 := Arg.weaken (Arg.keep (HA.out.2.2.1.below H8.out.1) (same_set6 HB.out.2.lt)) HB.out.1.size
 rw [HA.out.2.2.2.1] at ha ⊢
 rw [HA.out.2.2.2.2.1, HA.out.2.2.2.2.2.1]
 exact ⟨y2, z2, rfl, ha⟩)
   obtain ⟨⟨q0, q1, q2, q3, q4, q5⟩, -⟩ := box6 H8.out.2.1
   go_wp2
   refine bodyPost_ret (v := .tuple #[.agg #[.int .i64 rk, .string p, .string t, .int .i64 x0, .int .i64 x1, .slice y2 l2 z2], .int .i64 0]) (by simp [results, Tryz.results25, go_sem, *]) rfl (HP.out _ _ _ _ _ _ _ rfl)
 · have HP : Hid (∀ u0 u1 u2 u3 u4 u5 U, U = .tuple #[.agg #[.int .i64 0, .string ⟨#[]⟩, .string ⟨#[]⟩, .int .i64 0, .int .i64 0, .slice none 0 0], .int .i64 oe] → post (.returned U) ((((((w8.setCell ⟨w.heap.size, 0, none⟩ u0).setCell ⟨w.heap.size, 1, none⟩ u1).setCell ⟨w.heap.size, 2, none⟩ u2).setCell ⟨w.heap.size, 3, none⟩ u3).setCell ⟨w.heap.size, 4, none⟩ u4).setCell ⟨w.heap.size, 5, none⟩ u5)) := fun u0 u1 u2 u3 u4 u5 Z hZ => by
     rw [hZ]
     refine HPo.out _ _ _ HOE.out.symm ?_ (below_set6 H8.out.2.2.1 (Nat.le_refl _) _ _ _ _ _ _)
     rw [HDE.out.2, if_neg (by rw [HOE.out]; exact hz)]
     exact opl_zero _ _
   go_wp2
   refine bodyPost_ret (v := .tuple #[.agg #[.int .i64 0, .string ⟨#[]⟩, .string ⟨#[]⟩, .int .i64 0, .int .i64 0, .slice none 0 0], .int .i64 oe]) (by simp [results, Tryz.results25, go_sem, *]) rfl (HP.out _ _ _ _ _ _ _ rfl)
end Go.Proofs.YtopcefhncildnaaGreatDoor.K
namespace Go.Proofs.YtopcefhncildnaaGreatDoor.K
open Go.RowKit
open P (ArgT OwnT tv)
set_option linter.unusedVariables false
abbrev Rpd := Int × Int × List Int × List ByteArray
def rcP (r : W.Rc) : Rpd := (r.2.1.getD 0 0, r.2.1.getD 1 0, r.2.2.getD 0 [], r.2.2.tail.map strOfNums)
def zP : Rpd := (0, 0, [], [])
def rdE (b : List Int) : Int := if W.decE b ≠ 0 then W.decE b else if (W.decV b).1 ≠ 0 then 22 else if (W.decV b).2.1.length ≠ 2 ∨ (W.decV b).2.2.length = 0 then 3 else rpE (rcP (W.decV b)).1 (rcP (W.decV b)).2.1 (rcP (W.decV b)).2.2.1.length (rcP (W.decV b)).2.2.2
def rdV (b : List Int) : Rpd := if rdE b = 0 then rcP (W.decV b) else zP
def RpV (n : Nat) (w : World) (v : Value) (q : Rpd) : Prop := ∃ a c nv, v = .agg #[.int .i64 q.1, .int .i64 q.2.1, .slice a q.2.2.1.length c, nv] ∧ Arg n w (.slice a q.2.2.1.length c) q.2.2.1 ∧ ArgT n w nv q.2.2.2
theorem rpv_zero (n : Nat) (w : World) : RpV n w (.agg #[.int .i64 0, .int .i64 0, .slice none 0 0, .slice none 0 0]) zP := ⟨none, 0, _, rfl, arg_nil _ _, ArgT.nil _ _⟩
theorem box4 {w : World} {B : Nat} {t : TypeId} {u0 u1 u2 u3 : Value} (h : Box w B t #[u0, u1, u2, u3]) : (w.cell? ⟨B, 0, none⟩ = some u0 ∧ w.cell? ⟨B, 1, none⟩ = some u1 ∧ w.cell? ⟨B, 2, none⟩ = some u2 ∧ w.cell? ⟨B, 3, none⟩ = some u3) ∧ (w.frozen? ⟨B, 0, none⟩ = false ∧ w.frozen? ⟨B, 1, none⟩ = false ∧ w.frozen? ⟨B, 2, none⟩ = false ∧ w.frozen? ⟨B, 3, none⟩ = false) :=
 ⟨⟨h.cell 0 rfl, h.cell 1 rfl, h.cell 2 rfl, h.cell 3 rfl⟩, h.frozen 0, h.frozen 1, h.frozen 2, h.frozen 3⟩
theorem box_set4 {w : World} {B : Nat} {t : TypeId} {v0 v1 v2 v3 : Value} (h : Box w B t #[v0, v1, v2, v3]) (u0 u1 u2 u3 : Value) : Box ((((w.setCell ⟨B, 0, none⟩ u0).setCell ⟨B, 1, none⟩ u1).setCell ⟨B, 2, none⟩ u2).setCell ⟨B, 3, none⟩ u3) B t #[u0, u1, u2, u3] := (((h.set 0 u0).set 1 u1).set 2 u2).set 3 u3
theorem elemB : Tryz.prog.underlying 89 = some (.slice (Tryz.prog.elem 89)) := by kernel_rfl
theorem elemB_is : Tryz.prog.elem 89 = 25 := by kernel_rfl
theorem sizeB (W : World) : (sizeOf (Tryz.prog.elem 89)).run Tryz.prog W = .ok 1 W := by
 obtain ⟨i0, hi, hz0, hz1, hz2⟩ := info_parts Tryz.infoB
 rw [elemB_is]
 simp [sizeOf, typeInfo, hi, hz1]
theorem flat_drop1 : ∀ {vss : List (List Value)} (i : Nat), (∀ us ∈ vss, us.length = 1) → vss.flatten.drop i = (vss.drop i).flatten
 | vss, 0, _ => by simp
 | [], i + 1, _ => by simp
 | us :: r, i + 1, h => by (
 have h1 := h us (List.mem_cons_self ..)
 obtain ⟨u, rfl⟩ := List.length_eq_one_iff.1 h1
 rw [List.drop_succ_cons, List.flatten_cons, List.singleton_append, List.drop_succ_cons]
 exact flat_drop1 i fun us hus => h us (List.mem_cons_of_mem _ hus))
theorem each_drop {α β : Type} {R : α → β → Prop} : ∀ {xs : List α} {ys : List β} (i : Nat), Each R xs ys → Each R (xs.drop i) (ys.drop i)
 | _, _, 0, h => by simpa using h
 | [], [], i + 1, _ => by simp; trivial
 | _ :: _, _ :: _, i + 1, h => by
   rw [List.drop_succ_cons, List.drop_succ_cons]
   exact each_drop i h.2
theorem texts_behind {n : Nat} {w : World} {a : Option Addr} {m c : Nat} {l : List (List Int)} (h : W.textsS.lies n w [.slice a m c] l) (i : Nat) (hi : i ≤ l.length) :
   ∃ a' c', W.textsS.lies n w [.slice a' (l.length - i) c'] (l.drop i) ∧ ∀ W, (Instr.slice 89 (.slice a m c) (some (.int .i64 i)) none none).run Tryz.prog W = .ok (.slice a' (l.length - i) c') W := by
 obtain ⟨v', vss, hv, hC, hE⟩ := h
 obtain rfl : v' = .slice a m c := by simpa using hv.symm
 have hC : Cells n w 1 (.slice a m c) l.length vss.flatten := hC
 have hS := hC
 obtain ⟨a0, c0, hv0, hcap, hmx, -⟩ := hS.shape
 obtain ⟨rfl, rfl, rfl⟩ := Value.slice.inj hv0
 have hone : ∀ us ∈ vss, us.length = 1 := fun us hus => by
   obtain ⟨x, _, hx⟩ := hE.left hus
   exact W.bytesS.length hx
 have hsub := hC.sub i l.length hi (Nat.le_refl _)
 have hl : vss.flatten.length = l.length := by have := hC.1; omega
 rw [Nat.mul_one, Nat.mul_one, ← hl, List.take_length, hl, flat_drop1 i hone] at hsub
 have hsub2 := hsub
 obtain ⟨a', c', hv', _⟩ := hsub2.shape
 refine ⟨a', c', ⟨_, vss.drop i, rfl, ?_, each_drop i hE⟩, fun W => ?_⟩
 · rw [← hv', List.length_drop]
   exact hsub
 · rw [run_slice_l W 89 a l.length c elemB .i64 i (by omega) (by omega), sizeB, ← hv']
   simp [Result.andThen]
end Go.Proofs.YtopcefhncildnaaGreatDoor.K
namespace Go.Proofs.YtopcefhncildnaaGreatDoor.K
open Go.RowKit
open P (ArgT OwnT tv)
set_option linter.unusedVariables false
theorem box_row {wr w3 : World} {o : Obj} {R : Nat} {t : TypeId} {cs : Array Value} {E : TypeId} {base size n : Nat} {v : Value} {xs : List Value} (h : Box wr R t cs) (hO : wr.ownsRow base E size v n xs) (hg : (wr.alloc o).grownBy w3 v.ownBlock) (hR : R < base) (hb : base ≤ wr.heap.size) : Box w3 R t cs :=
 h.below (below_row (Below.refl base wr) hO hg (Nat.le_refl _) hb) hR
theorem ownT_set {base R i : Nat} {w : World} {u v : Value} {l : List ByteArray} (h : OwnT base w v l) (hR : R < base) : OwnT base (w.setCell ⟨R, i, none⟩ u) v l := h.same (.set hR)
theorem rpdec_any (n0 : Nat) (v : Value) (b : List Int) (w : World) (h : Arg n0 w v b) (hs : b.length ≤ 140737488351232) (hg : Glob w) :
   Calls Tryz.prog 34 #[v] w fun e w' => (∃ u, e = .returned (.tuple #[u, .int .i64 (rdE b)]) ∧ RpV w.heap.size w' u (rdV b)) ∧ Below w.heap.size w w' := by
 obtain ⟨W1, hW1⟩ := exa (w.alloc (.cells #[.int .i64 0, .int .i64 0, .slice none 0 0, .slice none 0 0] 59))
 have hb1 : Below w.heap.size w W1 := by rw [hW1]; exact (Below.refl _ w).alloc (Nat.le_refl _) _
 have hB1 : Box W1 w.heap.size 59 #[.int .i64 0, .int .i64 0, .slice none 0 0, .slice none 0 0] := by rw [hW1]; exact Box.new _ _ _
 have hoc : W.Oc b := W.Arg.oct (w_arg h)
 have HC := W.dec_any n0 v b W1 (w_arg (h.below hb1)) (by omega) (hg.below hb1 hg.lt)
 have HB : Hid (Below w.heap.size w W1 ∧ Box W1 w.heap.size 59 #[.int .i64 0, .int .i64 0, .slice none 0 0, .slice none 0 0]) := ⟨hb1, hB1⟩
 obtain ⟨post, hpost⟩ : ∃ post : Ending → World → Prop, post = fun e w' => (∃ u, e = .returned (.tuple #[u, .int .i64 (rdE b)]) ∧ RpV w.heap.size w' u (rdV b)) ∧ Below w.heap.size w w' := ⟨_, rfl⟩
 have HPo : Hid (∀ (k : Int) u w', k = rdE b → RpV w.heap.size w' u (rdV b) → Below w.heap.size w w' → post (.returned (.tuple #[u, .int .i64 k])) w') := fun k u w' h1 h2 h3 => by rw [hpost, h1]; exact ⟨⟨u, rfl, h2⟩, h3⟩
 rw [← hpost]
 clear hpost hb1 hB1 h hg
 go_enter Tryz.func34, Tryz.ntmps34
 go_wp2_with fail
 rw [← hW1]
 clear hW1
 refine HC.mono ?_
 rintro e w2 ⟨⟨us, rfl, ho⟩, hb2⟩
 obtain ⟨ax, cx, ay, cy, rfl⟩ := W.rec_oview ho
 obtain ⟨r, hr⟩ := exa (W.decV b)
 obtain ⟨de, hde⟩ := exa (W.decE b)
 have HDE : Hid (rdE b = (if de ≠ 0 then de else if r.1 ≠ 0 then 22 else if r.2.1.length ≠ 2 ∨ r.2.2.length = 0 then 3 else rpE (rcP r).1 (rcP r).2.1 (rcP r).2.2.1.length (rcP r).2.2.2) ∧ rdV b = (if rdE b = 0 then rcP r else zP)) := by (
 refine ⟨?_, ?_⟩
 · unfold rdE; rw [hr, hde]
 · unfold rdV; rw [hr])
 have HK : Hid (de = 0 → r.2.2.length ≤ 64) := fun h0 => by
   rw [hr]
   exact (W.chk_ok (W.enc_dec hoc (by rw [← hde]; exact h0)).1).2.2.2.1
 rw [← hr] at ho ⊢
 rw [← hde]
 clear HC hr hde
 clear hoc
 obtain ⟨rk, ns, ts⟩ := r
 simp only at ho ⊢
 obtain ⟨nl, hnl⟩ := exa (ns.length)
 obtain ⟨tl, htl⟩ := exa (ts.length)
 rw [← hnl, ← htl] at ho ⊢
 obtain ⟨xx, yy, heq, hoi, hot, hok⟩ := W.rec_own ho
 simp only [List.cons.injEq, and_true, true_and] at heq
 obtain ⟨rfl, rfl⟩ := heq
 simp only at hoi hot hok
 obtain ⟨V, hV⟩ := exa (w2.alloc (.cells #[.int .i64 rk, .slice ax nl cx, .slice ay tl cy] 127))
 have hbV : Below w2.heap.size w2 V := by rw [hV]; exact (Below.refl _ w2).alloc (Nat.le_refl _) _
 have hBV : Box V w2.heap.size 127 #[.int .i64 rk, .slice ax nl cx, .slice ay tl cy] := by rw [hV]; exact Box.new _ _ _
 have HV : Hid (Below W1.heap.size W1 V ∧ Below w.heap.size w V ∧ Box V w2.heap.size 127 #[.int .i64 rk, .slice ax nl cx, .slice ay tl cy] ∧ (W.intsS.owns W1.heap.size V [.slice ax nl cx] ns ∧ W.textsS.owns W1.heap.size V [.slice ay tl cy] ts ∧ W.I64 rk) ∧ nl = ns.length ∧ tl = ts.length) := ⟨below_any hb2 hbV, HB.out.1.trans ((below_any hb2 hbV).mono HB.out.1.size), hBV, ⟨W.intsS.obelow hoi hbV, W.textsS.obelow hot hbV, hok⟩, hnl, htl⟩
 clear ho hb2 hbV hBV hnl htl hoi hot hok
 have hl1 := run_len Tryz.underlying125 ax nl cx
 have hl2 := run_len Tryz.underlying89 ay tl cy
 go_upto_region 2 with fail
 rw [← hV]
 clear hV
 by_cases hd0 : de = 0
 rotate_left
 · have hk : de = rdE b := by rw [HDE.out.1, if_pos hd0]
   have HP : Hid (∀ u0 u1 u2 u3 U, U = .tuple #[.agg #[.int .i64 0, .int .i64 0, .slice none 0 0, .slice none 0 0], .int .i64 de] → post (.returned U) ((((V.setCell ⟨w.heap.size, 0, none⟩ u0).setCell ⟨w.heap.size, 1, none⟩ u1).setCell ⟨w.heap.size, 2, none⟩ u2).setCell ⟨w.heap.size, 3, none⟩ u3)) := fun u0 u1 u2 u3 Z hZ => by (
 rw [hZ]
 refine HPo.out _ _ _ hk ?_ (below_set4 HV.out.2.1 (Nat.le_refl _) _ _ _ _)
 rw [HDE.out.2, if_neg (by rw [← hk]; exact hd0)]
 exact rpv_zero _ _)
   clear hk
   obtain ⟨⟨d0, d1, d2, d3⟩, e0, e1, e2, e3⟩ := box4 (HB.out.2.below HV.out.1 HB.out.2.lt)
   go_wp2
   refine bodyPost_ret (v := .tuple #[.agg #[.int .i64 0, .int .i64 0, .slice none 0 0, .slice none 0 0], .int .i64 de]) (by simp [results, Tryz.results34, go_sem, *]) rfl (HP.out _ _ _ _ _ rfl)
 subst hd0
 obtain ⟨g0, g1, g2, -⟩ := HV.out.2.2.1.three
 by_cases hr0 : rk = 0
 rotate_left
 · have hk : (22 : Int) = rdE b := by rw [HDE.out.1, if_neg (by simp), if_pos hr0]
   have HP : Hid (∀ u0 u1 u2 u3 U, U = .tuple #[.agg #[.int .i64 0, .int .i64 0, .slice none 0 0, .slice none 0 0], .int .i64 22] → post (.returned U) ((((V.setCell ⟨w.heap.size, 0, none⟩ u0).setCell ⟨w.heap.size, 1, none⟩ u1).setCell ⟨w.heap.size, 2, none⟩ u2).setCell ⟨w.heap.size, 3, none⟩ u3)) := fun u0 u1 u2 u3 Z hZ => by (
 rw [hZ]
 refine HPo.out _ _ _ hk ?_ (below_set4 HV.out.2.1 (Nat.le_refl _) _ _ _ _)
 rw [HDE.out.2, if_neg (by rw [← hk]; decide)]
 exact rpv_zero _ _)
   clear hk
   obtain ⟨⟨d0, d1, d2, d3⟩, e0, e1, e2, e3⟩ := box4 (HB.out.2.below HV.out.1 HB.out.2.lt)
   go_wp2
   refine bodyPost_ret (v := .tuple #[.agg #[.int .i64 0, .int .i64 0, .slice none 0 0, .slice none 0 0], .int .i64 22]) (by simp [results, Tryz.results34, go_sem, *]) rfl (HP.out _ _ _ _ _ rfl)
 subst hr0
 by_cases hln : nl = 2 ∧ 0 < tl
 rotate_left
 · have hk : (3 : Int) = rdE b := by
     rw [HDE.out.1, if_neg (by simp), if_neg (by simp), if_pos]
     have h1 := HV.out.2.2.2.2.1
     have h2 := HV.out.2.2.2.2.2
     simp only
     omega
   have HP : Hid (∀ u0 u1 u2 u3 U, U = .tuple #[.agg #[.int .i64 0, .int .i64 0, .slice none 0 0, .slice none 0 0], .int .i64 3] → post (.returned U) ((((V.setCell ⟨w.heap.size, 0, none⟩ u0).setCell ⟨w.heap.size, 1, none⟩ u1).setCell ⟨w.heap.size, 2, none⟩ u2).setCell ⟨w.heap.size, 3, none⟩ u3)) := fun u0 u1 u2 u3 Z hZ => by (
 rw [hZ]
 refine HPo.out _ _ _ hk ?_ (below_set4 HV.out.2.1 (Nat.le_refl _) _ _ _ _)
 rw [HDE.out.2, if_neg (by rw [← hk]; decide)]
 exact rpv_zero _ _)
   clear hk
   obtain ⟨⟨d0, d1, d2, d3⟩, e0, e1, e2, e3⟩ := box4 (HB.out.2.below HV.out.1 HB.out.2.lt)
   by_cases h2 : (nl : Int) = 2
   · obtain rfl : tl = 0 := by omega
     clear hln
     go_wp2
     refine bodyPost_ret (v := .tuple #[.agg #[.int .i64 0, .int .i64 0, .slice none 0 0, .slice none 0 0], .int .i64 3]) (by simp [results, Tryz.results34, go_sem, *]) rfl (HP.out _ _ _ _ _ rfl)
   · clear hln
     go_wp2
     refine bodyPost_ret (v := .tuple #[.agg #[.int .i64 0, .int .i64 0, .slice none 0 0, .slice none 0 0], .int .i64 3]) (by simp [results, Tryz.results34, go_sem, *]) rfl (HP.out _ _ _ _ _ rfl)
 obtain ⟨rfl, htl0⟩ := hln
 obtain ⟨x0, x1, rfl⟩ := two_of HV.out.2.2.2.2.1.symm
 obtain ⟨t0, t2, rfl⟩ : ∃ t0 t2, ts = t0 :: t2 := by (
 cases ts with
 | nil => have := HV.out.2.2.2.2.2; simp at this; omega
 | cons a c => exact ⟨a, c, rfl⟩)
 obtain ⟨hi, ht, hk⟩ := HV.out.2.2.2.1
 obtain ⟨b0, o0, ix0, c0, i0⟩ := W.ints_at (W.intsS.olies hi) 0 x0 rfl
 obtain ⟨b1, o1, ix1, c1, i1⟩ := W.ints_at (W.intsS.olies hi) 1 x1 rfl
 obtain ⟨b2, o2, v0, iy0, k0, ar0⟩ := W.texts_at (W.textsS.olies ht) 0 t0 rfl
 obtain ⟨y0, z0, rfl, -⟩ := ar0.shape
 obtain ⟨a5, c5, hbe, hsl⟩ := texts_behind (W.textsS.olies ht) 1 (by simp)
 obtain ⟨m, hm⟩ := exa (t2.length)
 rw [show (t0 :: t2).length - 1 = m by rw [hm]; simp] at hbe hsl
 rw [show (t0 :: t2).drop 1 = t2 from rfl] at hbe
 have htm : tl = m + 1 := by have := HV.out.2.2.2.2.2; simp at this; omega
 have ix0 : ∀ W, (Instr.indexAt 125 (.slice ax 2 cx) (.int .i64 0)).run Tryz.prog W = .ok (.pointer (some ⟨b0, o0, none⟩)) W := ix0
 have ix1 : ∀ W, (Instr.indexAt 125 (.slice ax 2 cx) (.int .i64 1)).run Tryz.prog W = .ok (.pointer (some ⟨b1, o1, none⟩)) W := ix1
 have iy0 : ∀ W, (Instr.indexAt 89 (.slice ay tl cy) (.int .i64 0)).run Tryz.prog W = .ok (.pointer (some ⟨b2, o2, none⟩)) W := iy0
 have hsl : ∀ W, (Instr.slice 89 (.slice ay tl cy) (some (.int .i64 1)) none none).run Tryz.prog W = .ok (.slice a5 m c5) W := hsl
 obtain ⟨l0, hl0⟩ := exa (t0.length)
 rw [← hl0] at k0 ar0
 have HA : Hid (Arg W1.heap.size V (.slice y0 l0 z0) t0 ∧ W.textsS.lies W1.heap.size V [.slice a5 m c5] t2 ∧ l0 = t0.length ∧ m = t2.length ∧ I64 x0 ∧ I64 x1) := ⟨arg_w ar0, hbe, hl0, hm, i0, i1⟩
 have HS : Hid (∀ U, Below V.heap.size V U → (U.cell? ⟨w2.heap.size, 1, none⟩ = some (.slice ax 2 cx) ∧ U.cell? ⟨w2.heap.size, 2, none⟩ = some (.slice ay tl cy) ∧ U.cell? ⟨b0, o0, none⟩ = some (.int .i64 x0) ∧ U.cell? ⟨b1, o1, none⟩ = some (.int .i64 x1) ∧ U.cell? ⟨b2, o2, none⟩ = some (.slice y0 l0 z0))) := fun U hU => by (
 have hcl : ∀ {z : Addr} {u : Value}, V.cell? z = some u → U.cell? z = some u := fun {z u} hz => by rw [hU.cell (cell_lt hz)]; exact hz
 have h1 := HV.out.2.2.1.below hU HV.out.2.2.1.lt
 exact ⟨h1.cell 1 rfl, h1.cell 2 rfl, hcl c0, hcl c1, hcl k0⟩)
 have hl5 := run_len Tryz.underlying89 a5 m c5
 have htp : ¬ ((tl : Int) = 0) := by omega
 clear hl0 hm hi ht hk i0 i1 ar0 c0 c1 k0 hbe htm htl0
 go_upto_region 8 with fail
 clear g0 g1 g2
 obtain ⟨X0, hX0⟩ := exa (V.drew)
 have hbX : Below V.heap.size V X0 := by rw [hX0]; exact (Below.refl _ V).drew
 refine AnyBut.begin (fun U => U.cell? ⟨w2.heap.size, 1, none⟩ = some (.slice ax 2 cx) ∧ U.cell? ⟨w2.heap.size, 2, none⟩ = some (.slice ay tl cy) ∧ U.cell? ⟨b0, o0, none⟩ = some (.int .i64 x0) ∧ U.cell? ⟨b1, o1, none⟩ = some (.int .i64 x1) ∧ U.cell? ⟨b2, o2, none⟩ = some (.slice y0 l0 z0)) 1000 (by kernel_rfl) ?_
 rw [← hX0]
 clear hX0
 have hSS := HS.out X0 hbX
 refine tx 0 34 hSS ?_; simp only [ua,ub,uc,ud]
 refine tx 1 35 hSS ?_; simp only [ua,ub,uc,ud]
 refine tx 2 36 hSS ?_; simp only [ua,ub,uc,ud]
 refine tx 3 37 hSS ?_; simp only [ua,ub,uc,ud]
 refine tx 4 38 hSS ?_; simp only [ua,ub,uc,ud]
 refine tx 5 39 hSS ?_; simp only [ua,ub,uc,ud]
 refine tx 6 40 hSS ?_; simp only [ua,ub,uc,ud]
 refine tx 7 41 hSS ?_; simp only [ua,ub,uc,ud]
 refine tx 8 42 hSS ?_; simp only [ua,ub,uc,ud]
 refine tx 9 43 hSS ?_; simp only [ua,ub,uc,ud]
 refine tx 10 44 hSS ?_; simp only [ua,ub,uc,ud]
 refine tx 11 45 hSS ?_; simp only [ua,ub,uc,ud]
 refine tx 12 46 hSS ?_; simp only [ua,ub,uc,ud]
 refine AnyBut.step (i := 13) (by kernel_rfl) rfl (fun K hK => ?_)
 go_simp
 obtain ⟨X1, hX1⟩ := exa (X0.alloc (.cells #[.int .i64 0, .int .i64 0, .slice none 0 0, .slice none 0 0] 59))
 have hb9 : Below X0.heap.size X0 X1 := by rw [hX1]; exact (Below.refl _ _).alloc (Nat.le_refl _) _
 have hB9 : Box X1 X0.heap.size 59 #[.int .i64 0, .int .i64 0, .slice none 0 0, .slice none 0 0] := by rw [hX1]; exact Box.new _ _ _
 rw [← hX1]
 clear hX1
 have hbX1 := below_any hbX hb9
 refine hK.out _ _ (HS.out X1 hbX1) ?_
 clear hK hSS
 obtain ⟨⟨d0, d1, d2, d3⟩, e0, e1, e2, e3⟩ := box4 hB9
 refine AnyBut.step (i := 14) (by kernel_rfl) rfl (fun K hK => ?_)
 go_simp
 have hbX2 := below_set4 hbX1 hbX.size (.int .i64 x0) (.int .i64 x1) (.slice y0 l0 z0) (.slice none 0 0)
 have hB10 := box_set4 hB9 (.int .i64 x0) (.int .i64 x1) (.slice y0 l0 z0) (.slice none 0 0)
 obtain ⟨X2, hX2⟩ := exa (((((X1.setCell ⟨X0.heap.size, 0, none⟩ (.int .i64 x0)).setCell ⟨X0.heap.size, 1, none⟩ (.int .i64 x1)).setCell ⟨X0.heap.size, 2, none⟩ (.slice y0 l0 z0)).setCell ⟨X0.heap.size, 3, none⟩ (.slice none 0 0)))
 rw [← hX2] at hbX2 hB10 ⊢
 refine hK.out _ _ (HS.out X2 hbX2) ?_
 clear hK hX2 d0 d1 d2 d3 e0 e1 e2 e3
 refine AnyBut.done (by kernel_rfl) ?_
 obtain ⟨R, hR⟩ := exa (X0.heap.size)
 rw [← hR] at hB10 ⊢
 have HX : Hid (Below V.heap.size V X2 ∧ Box X2 R 59 #[.int .i64 x0, .int .i64 x1, .slice y0 l0 z0, .slice none 0 0] ∧ w.heap.size < R ∧ R < X2.heap.size ∧ V.heap.size ≤ R) := ⟨hbX2, hB10, by rw [hR]; exact Nat.lt_of_lt_of_le (Nat.lt_of_lt_of_le HB.out.2.lt HV.out.1.size) hbX.size, hB10.lt, by rw [hR]; exact hbX.size⟩
 have q2 := (HS.out X2 hbX2).2.1
 clear hb9 hB9 hbX1 hbX2 hB10 ix0 ix1 iy0 hl1 hl2 hbX hR htp HS
 go_wp2_with fail
 clear q2 hsl
 go_loopw [51] (fun i wr => ∃ (j : Nat), j ≤ m ∧ i = .int .i64 j ∧ Hid (∃ a c, Box wr R 59 #[.int .i64 x0, .int .i64 x1, .slice y0 l0 z0, .slice a j c] ∧ OwnT X2.heap.size wr (.slice a j c) ((t2.take j).map strOfNums) ∧ Below V.heap.size V wr ∧ X2.heap.size ≤ wr.heap.size)) (fun i _ => m - (intOf i).toNat)
 case atStart => exact ⟨0, Nat.zero_le _, rfl, none, 0, HX.out.2.1, OwnT.nil _ _, HX.out.1, Nat.le_refl _⟩
 case round => (
 obtain ⟨j, hj, rfl, HJ⟩ := hrel
 by_cases hjt : j < m
 · obtain ⟨p, hp⟩ := get_lt (l := t2) (k := j) (by rw [← HA.out.2.2.2.1]; exact hjt)
   obtain ⟨an, cn, hBr, hOr, hbr, hsz⟩ := HJ.out
   obtain ⟨bx, ox, vx, hix, d0, har⟩ := W.texts_at (W.textsS.below HA.out.2.1 hbr) j p hp
   obtain ⟨yp, zp, rfl, -, hpm, -⟩ := har.shape
   have hcv : (convert 25 9 (.slice yp p.length zp)).run Tryz.prog wr = .ok (.string (strOfNums p)) wr := F.conv_any (arg_w har)
   have hji : (j : Int) < (m : Int) := by omega
   obtain ⟨s, hs0⟩ := exa (strOfNums p)
   obtain ⟨lp, hlp⟩ := exa (p.length)
   rw [← hs0, ← hlp] at hcv
   rw [← hlp] at d0
   have hln : ((t2.take j).map strOfNums).length = j := by rw [List.length_map, List.length_take, ← HA.out.2.2.2.1]; omega
   have hml : m ≤ maxLen := by obtain ⟨_, _, h0, _, h1, _⟩ := W.texts_len HA.out.2.1; rw [HA.out.2.2.2.1]; exact h1
   obtain ⟨c0, c1, c2, c3⟩ := (box4 hBr).1
   have HP : Hid (t2[j]? = some p ∧ s = strOfNums p ∧ s.size ≤ maxLen ∧ ((t2.take j).map strOfNums).length = j) := ⟨hp, hs0, by rw [hs0, str_size]; exact hpm, hln⟩
   have HR : Hid (Box wr R 59 #[.int .i64 x0, .int .i64 x1, .slice y0 l0 z0, .slice an j cn] ∧ wr.ownsRow X2.heap.size 9 1 (.slice an j cn) j (tv ((t2.take j).map strOfNums)) ∧ P.TOk ((t2.take j).map strOfNums) ∧ Below V.heap.size V wr ∧ X2.heap.size ≤ wr.heap.size) := ⟨hBr, by have := hOr.1; rwa [hln] at this, hOr.2, hbr, hsz⟩
   have HM : m ≤ 64 := by have h1 := HK.out trivial; have h2 := HA.out.2.2.2.1; simp at h1; omega
   clear hp hBr hOr hbr hsz har hpm hs0 hlp hln hml
   go_wp2_with (at_builtin; refine push_row (by rfl) _ _ 57 9 (by rfl) Tryz.underlying57 Tryz.info9 rfl (by omega) X2.heap.size _ (tv ((t2.take j).map strOfNums)) j [.string s] rfl (by simp [Value.oneCell']) wr (by simp [go_sem, *]) HR.out.2.1 (by simp [go_sem, *]) (by omega) (by omega) HR.out.2.2.2.2 ?_; intro g cap w3 hO3 hg3 hgr3 hlt3; have hB3 := box_row HR.out.1 HR.out.2.1 hg3 HX.out.2.2.2.1 HR.out.2.2.2.2; have f3 := hB3.cell 3 rfl; have g3 := hB3.frozen 3)
   have HQ : Hid (Box (w3.setCell ⟨R, 3, none⟩ (.slice (some ⟨g, 0, none⟩) (j + 1) cap)) R 59 #[.int .i64 x0, .int .i64 x1, .slice y0 l0 z0, .slice (some ⟨g, 0, none⟩) (j + 1) cap] ∧ OwnT X2.heap.size (w3.setCell ⟨R, 3, none⟩ (.slice (some ⟨g, 0, none⟩) (j + 1) cap)) (.slice (some ⟨g, 0, none⟩) (j + 1) cap) ((t2.take (j + 1)).map strOfNums) ∧ Below V.heap.size V (w3.setCell ⟨R, 3, none⟩ (.slice (some ⟨g, 0, none⟩) (j + 1) cap)) ∧ X2.heap.size ≤ (w3.setCell ⟨R, 3, none⟩ (.slice (some ⟨g, 0, none⟩) (j + 1) cap)).heap.size) := by (
 have hvx : X2.heap.size ≤ w3.heap.size := Nat.le_trans HR.out.2.2.2.2 (Nat.le_trans (by simp) hg3.size)
 have hb3 : Below V.heap.size V w3 := below_row HR.out.2.2.2.1 HR.out.2.1 hg3 HX.out.1.size (Nat.le_trans HX.out.1.size HR.out.2.2.2.2)
 refine ⟨hB3.set 3 _, ownT_set ⟨?_, ?_⟩ HX.out.2.2.2.1, hb3.setCell (p := ⟨R, 3, none⟩) HX.out.2.2.2.2 _, by simpa using hvx⟩
 · rw [take_snoc HP.out.1, List.map_append, List.length_append, HP.out.2.2.2]
   have : tv ((t2.take j).map strOfNums ++ [p].map strOfNums) = tv ((t2.take j).map strOfNums) ++ [.string s] := by rw [HP.out.2.1]; simp [tv]
   rw [this]
   exact hO3
 · intro y hy
   rw [take_snoc HP.out.1, List.map_append] at hy
   rcases List.mem_append.1 hy with h | h
   · exact HR.out.2.2.1 y h
   · rw [show y = strOfNums p by simpa using h, ← HP.out.2.1]; exact HP.out.2.2.1)
   clear hO3 hg3 hgr3 hlt3 hB3 f3 g3
   go_wp2
   go_roundw
   case rel => exact ⟨j + 1, by omega, by go_num, _, _, HQ.out⟩
   case measure => simp [intOf]; omega
 · obtain rfl : j = m := by omega
   have hfull : t2.take j = t2 := List.take_of_length_le (by rw [HA.out.2.2.2.1]; exact Nat.le_refl _)
   obtain ⟨an, cn, hBr, hOr, hbr, hsz⟩ := HJ.out
   rw [hfull] at hOr
   have HR : Hid (Box wr R 59 #[.int .i64 x0, .int .i64 x1, .slice y0 l0 z0, .slice an j cn] ∧ ArgT X2.heap.size wr (.slice an j cn) (t2.map strOfNums) ∧ Below V.heap.size V wr ∧ X2.heap.size ≤ wr.heap.size) := ⟨hBr, hOr.arg, hbr, hsz⟩
   clear hfull HJ hBr hOr hbr hsz hl5 hjt
   have HC := rpcheck_any x0 x1 y0 l0 z0 _ _ _ wr HR.out.2.1
   obtain ⟨oe, hoe⟩ := exa (rpE x0 x1 l0 (t2.map strOfNums))
   have HOE : Hid (rdE b = oe) := by (
 show _ = _
 rw [HDE.out.1, if_neg (by simp), if_neg (by simp), if_neg (by simp), hoe, HA.out.2.2.1]
 rfl)
   rw [← hoe] at HC
   clear hoe
   obtain ⟨⟨d0, d1, d2, d3⟩, -⟩ := box4 HR.out.1
   go_wp2_with fail
   clear d0 d1 d2 d3
   refine HC.mono ?_
   rintro e w8 ⟨rfl, hb8⟩
   have H8 : Hid (Below V.heap.size V w8 ∧ Box w8 R 59 #[.int .i64 x0, .int .i64 x1, .slice y0 l0 z0, .slice an j cn] ∧ Below w.heap.size w w8 ∧ Box w8 w.heap.size 59 #[.int .i64 0, .int .i64 0, .slice none 0 0, .slice none 0 0] ∧ ArgT X2.heap.size w8 (.slice an j cn) (t2.map strOfNums)) := ⟨below_any HR.out.2.2.1 hb8, HR.out.1.below hb8 HR.out.1.lt, HV.out.2.1.trans ((below_any HR.out.2.2.1 hb8).mono HV.out.2.1.size), (HB.out.2.below HV.out.1 HB.out.2.lt).below (below_any HR.out.2.2.1 hb8) (Nat.lt_of_lt_of_le HB.out.2.lt HV.out.1.size), HR.out.2.1.below hb8⟩
   clear HC hb8
   obtain ⟨⟨d0, d1, d2, d3⟩, e0, e1, e2, e3⟩ := box4 H8.out.2.2.2.1
   by_cases hz : oe = 0
   · subst hz
     have HP : Hid (∀ u0 u1 u2 u3 U, U = .tuple #[.agg #[.int .i64 x0, .int .i64 x1, .slice y0 l0 z0, .slice an j cn], .int .i64 0] → post (.returned U) ((((w8.setCell ⟨w.heap.size, 0, none⟩ u0).setCell ⟨w.heap.size, 1, none⟩ u1).setCell ⟨w.heap.size, 2, none⟩ u2).setCell ⟨w.heap.size, 3, none⟩ u3)) := fun u0 u1 u2 u3 Z hZ => by (
 rw [hZ]
 refine HPo.out _ _ _ HOE.out.symm ?_ (below_set4 H8.out.2.2.1 (Nat.le_refl _) _ _ _ _)
 rw [HDE.out.2, if_pos HOE.out]
 have ha : Arg w.heap.size ((((w8.setCell ⟨w.heap.size, 0, none⟩ u0).setCell ⟨w.heap.size, 1, none⟩ u1).setCell ⟨w.heap.size, 2, none⟩ u2).setCell ⟨w.heap.size, 3, none⟩ u3) (.slice y0 l0 z0) t0 := Arg.weaken (Arg.keep (HA.out.1.below H8.out.1) (same_set4 HB.out.2.lt)) HB.out.1.size
 have hn : ArgT w.heap.size ((((w8.setCell ⟨w.heap.size, 0, none⟩ u0).setCell ⟨w.heap.size, 1, none⟩ u1).setCell ⟨w.heap.size, 2, none⟩ u2).setCell ⟨w.heap.size, 3, none⟩ u3) (.slice an j cn) (t2.map strOfNums) := ArgT.weaken (ArgT.keep H8.out.2.2.2.2 (same_set4 (Nat.lt_trans HX.out.2.2.1 HX.out.2.2.2.1))) (Nat.le_of_lt (Nat.lt_trans HX.out.2.2.1 HX.out.2.2.2.1))
 rw [HA.out.2.2.1] at ha ⊢
 exact ⟨y0, z0, _, rfl, ha, hn⟩)
     obtain ⟨⟨q0, q1, q2, q3⟩, -⟩ := box4 H8.out.2.1
     go_wp2
     refine bodyPost_ret (v := .tuple #[.agg #[.int .i64 x0, .int .i64 x1, .slice y0 l0 z0, .slice an j cn], .int .i64 0]) (by simp [results, Tryz.results34, go_sem, *]) rfl (HP.out _ _ _ _ _ rfl)
   · have hz' : ¬ oe = 0 := hz
     have HP : Hid (∀ u0 u1 u2 u3 U, U = .tuple #[.agg #[.int .i64 0, .int .i64 0, .slice none 0 0, .slice none 0 0], .int .i64 oe] → post (.returned U) ((((w8.setCell ⟨w.heap.size, 0, none⟩ u0).setCell ⟨w.heap.size, 1, none⟩ u1).setCell ⟨w.heap.size, 2, none⟩ u2).setCell ⟨w.heap.size, 3, none⟩ u3)) := fun u0 u1 u2 u3 Z hZ => by (
 rw [hZ]
 refine HPo.out _ _ _ HOE.out.symm ?_ (below_set4 H8.out.2.2.1 (Nat.le_refl _) _ _ _ _)
 rw [HDE.out.2, if_neg (by rw [HOE.out]; exact hz)]
 exact rpv_zero _ _)
     go_wp2
     refine bodyPost_ret (v := .tuple #[.agg #[.int .i64 0, .int .i64 0, .slice none 0 0, .slice none 0 0], .int .i64 oe]) (by simp [results, Tryz.results34, go_sem, *]) rfl (HP.out _ _ _ _ _ rfl))
end Go.Proofs.YtopcefhncildnaaGreatDoor.K
namespace Go.Proofs.YtopcefhncildnaaGreatDoor.K
open Go.RowKit
open P (ArgT OwnT tv)
set_option linter.unusedVariables false
def errL : Leaf Int := intL .i64 32 Tryz.underlying32 (by kernel_rfl)
def rpS : Shape Rpd := (errL.shape.and (i64S.and (bytesS.and P.textsS.only))).struct 59 ⟨_, Tryz.underlying59, rfl, rfl⟩ (by kernel_rfl)
theorem rp_view {n : Nat} {w : World} {us : List Value} {q : Rpd} (h : rpS.lies n w us q) : ∃ a c v, us = [.int .i64 q.1, .int .i64 q.2.1, .slice a q.2.2.1.length c, v] ∧ Arg n w (.slice a q.2.2.1.length c) q.2.2.1 ∧ ArgT n w v q.2.2.2 ∧ I64 q.1 ∧ I64 q.2.1 := by
 obtain ⟨u1, r1, rfl, ⟨rfl, h1⟩, u2, r2, rfl, ⟨rfl, h2⟩, u3, r3, rfl, h3, h4⟩ := h
 have h3' := h3
 obtain ⟨v, rfl, hC, ho⟩ := h3
 obtain ⟨a, c, rfl, _⟩ := hC.shape
 have h4' := h4
 obtain ⟨v4, rfl, hC4, ho4⟩ := h4
 exact ⟨a, c, v4, rfl, h3', ⟨hC4, ho4⟩, bounds_i64 h1, bounds_i64 h2⟩
theorem samerp_any {n1 n2 n3 n4 : Nat} {e n : Int} {a1 a2 : Option Addr} {dl c1 c2 : Nat} {d : List Int} {v1 v2 : Value} {l : List ByteArray} {w : World} (h1 : Arg n1 w (.slice a1 dl c1) d) (h2 : Arg n2 w (.slice a2 dl c2) d) (h3 : ArgT n3 w v1 l) (h4 : ArgT n4 w v2 l) :
   Calls Tryz.prog 36 #[.agg #[.int .i64 e, .int .i64 n, .slice a1 dl c1, v1], .agg #[.int .i64 e, .int .i64 n, .slice a2 dl c2, v2]] w fun x w' => x = .returned (.bool true) ∧ Below w.heap.size w w' := by
 obtain ⟨b1, k1, rfl, -⟩ := h3.shape
 obtain ⟨b2, k2, rfl, -⟩ := h4.shape
 obtain ⟨ll, hll⟩ := exa (l.length)
 rw [← hll] at h3 h4 ⊢
 obtain ⟨W1, hW1⟩ := exa ((w.alloc (.cells #[.int .i64 e, .int .i64 n, .slice a1 dl c1, .slice b1 ll k1] 59)).alloc (.cells #[.int .i64 e, .int .i64 n, .slice a2 dl c2, .slice b2 ll k2] 59))
 have hb1 : Below w.heap.size w W1 := by rw [hW1]; exact ((Below.refl _ w).alloc (Nat.le_refl _) _).alloc (by simp) _
 have hB1 : Box W1 w.heap.size 59 #[.int .i64 e, .int .i64 n, .slice a1 dl c1, .slice b1 ll k1] := by rw [hW1]; exact (Box.new _ _ _).alloc _
 have hB2 : Box W1 (w.heap.size + 1) 59 #[.int .i64 e, .int .i64 n, .slice a2 dl c2, .slice b2 ll k2] := by (
 rw [hW1]
 have := Box.new (w.alloc (.cells #[.int .i64 e, .int .i64 n, .slice a1 dl c1, .slice b1 ll k1] 59)) 59 #[.int .i64 e, .int .i64 n, .slice a2 dl c2, .slice b2 ll k2]
 rwa [World.size_alloc] at this)
 have HC : Calls Tryz.prog 27 #[.slice a1 dl c1, .slice a2 dl c2] W1 fun e w' => e = .returned (.bool true) ∧ Below W1.heap.size W1 w' := by (
 refine (F.same_any n1 n2 _ _ d d W1 (h1.below hb1) (h2.below hb1)).mono fun e w' h => ?_
 obtain ⟨h3, q, rfl⟩ := h
 exact ⟨by rw [h3]; simp, below_drewN (Below.refl _ _) q⟩)
 have HC2 : Hid (∀ V, Below W1.heap.size W1 V → Calls Tryz.prog 70 #[.slice b1 ll k1, .slice b2 ll k2] V fun e w' => e = .returned (.bool true) ∧ Below V.heap.size V w') := fun V hV => by (
 refine (P.same_any n3 n4 _ _ l l V ((h3.below hb1).below hV) ((h4.below hb1).below hV)).mono fun e w' h => ?_
 obtain ⟨h3, q, rfl⟩ := h
 exact ⟨by rw [h3]; simp, below_drewN (Below.refl _ _) q⟩)
 have HB : Hid (Below w.heap.size w W1 ∧ Box W1 w.heap.size 59 #[.int .i64 e, .int .i64 n, .slice a1 dl c1, .slice b1 ll k1] ∧ Box W1 (w.heap.size + 1) 59 #[.int .i64 e, .int .i64 n, .slice a2 dl c2, .slice b2 ll k2]) := ⟨hb1, hB1, hB2⟩
 obtain ⟨⟨d0, d1, d2, d3⟩, -⟩ := box4 hB1
 obtain ⟨⟨f0, f1, f2, f3⟩, -⟩ := box4 hB2
 rw [hW1] at d0 d1 d2 d3 f0 f1 f2 f3
 clear hb1 hB1 hB2 h1 h2 h3 h4 hll
 go_enter Tryz.func36, Tryz.ntmps36
 go_wp2_with fail
 rw [← hW1]
 clear hW1 d0 d1 d2 d3 f0 f1 f2 f3
 refine HC.mono ?_
 rintro x w2 ⟨rfl, hb2⟩
 have HD := HC2.out w2 hb2
 have d3 := (HB.out.2.1.below hb2 HB.out.2.1.lt).cell 3 rfl
 have f3 := (HB.out.2.2.below hb2 HB.out.2.2.lt).cell 3 rfl
 have HQ : Hid (Below w.heap.size w w2) := HB.out.1.trans (hb2.mono HB.out.1.size)
 clear hb2 HC
 go_wp2_with fail
 refine HD.mono ?_
 rintro x w3 ⟨rfl, hb3⟩
 have HQ3 : Hid (Below w.heap.size w w3) := HQ.out.trans (hb3.mono HQ.out.size)
 clear hb3 HD
 go_wp2
 go_ret
 exact ⟨by simp, HQ3.out⟩
end Go.Proofs.YtopcefhncildnaaGreatDoor.K
namespace Go.Proofs.YtopcefhncildnaaGreatDoor.K
open Go.RowKit
open P (ArgT OwnT tv)
theorem copyt_any (n0 : Nat) (v : Value) (l : List ByteArray) (w : World) (h : ArgT n0 w v l) (hs : l.length * 16 ≤ 140737488355328) :
   Calls Tryz.prog 31 #[v] w fun e w' => (∃ v', e = .returned v' ∧ OwnT w.heap.size w' v' l) ∧ Below w.heap.size w w' := by
 obtain ⟨i0, hi, hz0, hz1, hz2⟩ := info_parts Tryz.info9
 have ho := h.2
 obtain ⟨hl, h | ⟨x, cap, rfl, hcap, hm, _, hc⟩⟩ := h.1
 · obtain ⟨rfl, h0⟩ := h
   obtain rfl := List.eq_nil_of_length_eq_zero h0
   go_enter Tryz.func31, Tryz.ntmps31
   go_wp2_with (at_builtin; refine wpList_append_own_none rfl _ _ 57 rfl w.heap.size 9 i0 1 Tryz.underlying57 hi (.slice none 0 0) 0 [] rfl (World.ownsRow_nil _ _ _ _) rfl ?_)
   go_ret
   exact ⟨⟨_, rfl, World.ownsRow_nil _ _ _ _, ho⟩, Below.refl _ _⟩
 · have hone : ∀ u ∈ tv l, u.oneCell' = true := fun u hu => by
     obtain ⟨s, _, rfl⟩ := List.mem_map.1 hu
     rfl
   go_enter Tryz.func31, Tryz.ntmps31
   go_wp2_with (at_builtin; refine wpList_append_own _ rfl _ _ 57 rfl w.heap.size 9 i0 _ 1 16 Tryz.underlying57 hi hz0 hz1 hz2 rfl (by decide) (.slice none 0 0) 0 [] rfl (World.ownsRow_nil _ _ _ _) x l.length cap (tv l) rfl (by simp [tv]) hc hone (by omega) (by omega) (Nat.le_refl _) ?_)
   intro v' w1 hown hgrow _
   have hb : Below w.heap.size w w1 := (Below.refl _ _).grown hgrow (Nat.le_refl _) (fun _ h => by cases h)
   clear hgrow hc hone
   go_wp2
   go_ret
   exact ⟨⟨v', rfl, by simpa using hown, ho⟩, hb⟩
end Go.Proofs.YtopcefhncildnaaGreatDoor.K
namespace Go.Proofs.YtopcefhncildnaaGreatDoor.K
open Go.RowKit
open P (ArgT OwnT tv)
set_option linter.unusedVariables false
theorem box_ty {w w' : World} {row : Option Nat} {R : Nat} {t : TypeId} {cs : Array Value} (h : Box w R t cs) (hg : w.grownBy w' row) (hc : Clear w row [t]) : Box w' R t cs :=
 (hg.block R h.lt fun e => hc R _ _ _ e.symm h (by simp)).trans h
theorem RpO.grown {n : Nat} {w w' : World} {row : Option Nat} {v u : Value} {l : List ByteArray} (h : RpO n w v u l) (hg : w.grownBy w' row) (hc : Clear w row [5, 25]) : RpO n w' v u l := by
 obtain ⟨us, hO, hE⟩ := h
 exact ⟨us, hO.kept hg (hc.apart hO (by simp)), hE.mono fun _ _ h => h.grown hg (hc.sub (by simp))⟩
theorem tz {P : Program} {ops : Array Oper} {Q : Exit → Act → World → Prop} {md : Region.Mode} {S : World → Prop} {t : Nat} (i : Nat) (d : Tmp) {v : Value} {oi : Oper} {f : Nat} {listed : Array Bool} {a : Act} {w : World} (hS : S w)
   (h : AnyBut P md ops Q S t f (listed.setIfInBounds i true) (a.put (some d) v) w) (hi : ops[i]? = some oi := by rfl) (hd : oi.dst = some d := by rfl) (hy : ∀ w, S w → (execOp a.eval oi).run P w = .ok (.value v) w := by (intro W hSW; (try dsimp only at hSW); go_simp; try with_reducible rfl))
   (hc : (Region.noSelect ops && !(i == t) && Region.waitsFor md ops t i && Region.free md ops listed i && (Region.ready md ops listed).contains i) = true := by kernel_rfl) (hQ : ∀ c a w, Q (.panic c) (a.put (some d) v) w → Q (.panic c) a w := by exact fun _ _ _ h => h) (hw : Region.wanted oi (yielded ops a.tmps) = true := by rfl) : AnyBut P md ops Q S t (f + 1) listed a w :=
 tt i d v hS hy h hi hd hc hQ hw
theorem rrpenc_any {n1 n2 : Nat} {e n : Int} (hok : I64 e ∧ I64 n) {da : Option Addr} {dl dc : Nat} {d : List Int} (hd : dl = d.length) {v : Value} {l : List ByteArray} {w : World} (hD : Arg n1 w (.slice da dl dc) d) (hN : ArgT n2 w v l) :
   Calls Tryz.prog 33 #[.agg #[.int .i64 e, .int .i64 n, .slice da dl dc, v]] w fun x w' => (∃ a c, x = .returned (.tuple #[.slice a (rpO e n d l).length c, .int .i64 (rpC e n d l)]) ∧ W.Own1 w.heap.size w' (.slice a (rpO e n d l).length c) (rpO e n d l)) ∧ Below w.heap.size w w' := by
 obtain ⟨va, vc, rfl, _, hm, _⟩ := hN.shape
 obtain ⟨vl, hvl⟩ := exa (l.length)
 rw [← hvl] at hN hm ⊢
 obtain ⟨W1, hW1⟩ := exa (w.alloc (.cells #[.int .i64 e, .int .i64 n, .slice da dl dc, .slice va vl vc] 59))
 have hb1 : Below w.heap.size w W1 := by rw [hW1]; exact (Below.refl _ w).alloc (Nat.le_refl _) _
 have hB : Box W1 w.heap.size 59 #[.int .i64 e, .int .i64 n, .slice da dl dc, .slice va vl vc] := by rw [hW1]; exact Box.new _ _ _
 have HC := rreply_any e n da dl dc n2 _ l W1 (hN.below hb1)
 have HB : Hid (Below w.heap.size w W1 ∧ Box W1 w.heap.size 59 #[.int .i64 e, .int .i64 n, .slice da dl dc, .slice va vl vc]) := ⟨hb1, hB⟩
 have HI : Hid (I64 e ∧ I64 n ∧ dl = d.length ∧ vl = l.length ∧ Arg n1 w (.slice da dl dc) d ∧ ArgT n2 w (.slice va vl vc) l) := ⟨hok.1, hok.2, hd, hvl, hD, hN⟩
 obtain ⟨post, hpost⟩ : ∃ post : Ending → World → Prop, post = fun x w' => (∃ a c, x = .returned (.tuple #[.slice a (rpO e n d l).length c, .int .i64 (rpC e n d l)]) ∧ W.Own1 w.heap.size w' (.slice a (rpO e n d l).length c) (rpO e n d l)) ∧ Below w.heap.size w w' := ⟨_, rfl⟩
 obtain ⟨oe, hoe⟩ := exa (rpE e n dl l)
 have HOE : Hid (oe = rpE e n d.length l) := by
   show _ = _
   rw [hoe, hd]
 have HPo : Hid (∀ (a : Option Addr) (m c : Nat) (k : Int) (O : List Int) w', k = rpC e n d l → O = rpO e n d l → m = O.length → W.Own1 w.heap.size w' (.slice a m c) O → Below w.heap.size w w' → post (.returned (.tuple #[.slice a m c, .int .i64 k])) w') := fun a m c k O w' h0 h1 h2 h3 h4 => by (
 subst h0 h1 h2
 rw [hpost]
 exact ⟨⟨a, c, rfl, h3⟩, h4⟩)
 rw [← hpost]
 rw [← hoe] at HC
 have y0 := hB.cell 0 rfl
 have y1 := hB.cell 1 rfl
 have y2 := hB.cell 2 rfl
 have y3 := hB.cell 3 rfl
 rw [hW1] at y0 y1 y2 y3
 clear hpost hoe hb1 hB hok hd hD hN hvl
 go_enter Tryz.func33, Tryz.ntmps33
 go_wp2_with fail
 rw [← hW1]
 clear hW1 y0 y1 y2 y3
 refine HC.mono ?_
 rintro x w2 ⟨rfl, hb2⟩
 have H2 : Hid (Below W1.heap.size W1 w2 ∧ Below w.heap.size w w2 ∧ w.heap.size < w2.heap.size) := ⟨hb2, HB.out.1.trans (hb2.mono HB.out.1.size), Nat.lt_of_lt_of_le HB.out.2.lt hb2.size⟩
 clear HC hb2
 by_cases hoz : oe = 0
 rotate_left
 · have HQ : Hid (post (.returned (.tuple #[.slice none 0 0, .int .i64 oe])) w2) := HPo.out none 0 0 _ [] w2 (by unfold rpC; rw [← HOE.out, if_pos hoz]) (by unfold rpO; rw [← HOE.out, if_pos hoz]) rfl (W.Own1.nil _ _) H2.out.2.1
   go_wp2
   exact HQ.out
 subst hoz
 have HO : Hid (rpO e n d l = W.encO (rpR e n d l) ∧ rpC e n d l = W.chkR (rpR e n d l) ∧ l.length ≤ 64) := by (
 have h := HOE.out.symm
 refine ⟨by unfold rpO; rw [if_neg (by simp [h])], by unfold rpC; rw [if_neg (by simp [h])], ?_⟩
 unfold rpE at h
 split at h
 · cases h
 split at h
 · cases h
 split at h
 · cases h
 · omega)
 have hvm : vl ≤ 64 := by have := HO.out.2.2; have := HI.out.2.2.2.1; omega
 obtain ⟨I, hI⟩ := exa (w2.heap.size)
 obtain ⟨W3, hW3⟩ := exa (w2.alloc (.cells #[.int .i64 e, .int .i64 n] 3))
 have hs3 : W3.heap.size = w2.heap.size + 1 := by rw [hW3]; exact Array.size_push _
 obtain ⟨W4, hW4⟩ := exa (W3.alloc (.cells #[.slice da dl dc] 25))
 have hs4 : W4.heap.size = W3.heap.size + 1 := by rw [hW4]; exact Array.size_push _
 obtain ⟨base, hbase⟩ := exa (w2.heap.size + 1)
 obtain ⟨R, hR⟩ := exa (w2.heap.size + 1 + 1)
 obtain ⟨W5, hW5⟩ := exa (W4.alloc (.cells #[.int .i64 0, .slice (some ⟨w2.heap.size, 0, none⟩) 2 2, .slice (some ⟨w2.heap.size + 1, 0, none⟩) 1 1] 129))
 have hb5 : Below w2.heap.size w2 W5 := by rw [hW5]; exact ((by rw [hW4]; exact ((by rw [hW3]; exact (Below.refl _ w2).alloc (Nat.le_refl _) _ : Below w2.heap.size w2 W3)).alloc (by omega) _ : Below w2.heap.size w2 W4)).alloc (by omega) _
 have hB5 : Box W5 R 129 #[.int .i64 0, .slice (some ⟨I, 0, none⟩) 2 2, .slice (some ⟨base, 0, none⟩) 1 1] := by rw [hW5, hR, hI, hbase, ← hs3, ← hs4]; exact Box.new _ _ _
 have hB4 : Box W5 base 25 #[.slice da dl dc] := by rw [hW5, hbase, ← hs3, hW4]; exact (Box.new _ _ _).alloc _
 have hB3 : Box W5 I 3 #[.int .i64 e, .int .i64 n] := by rw [hW5, hW4, hI, hW3]; exact ((Box.new _ _ _).alloc _).alloc _
 have hz5 : base ≤ W5.heap.size := by rw [hW5, World.size_alloc]; omega
 have H3 : Hid (Box W5 R 129 #[.int .i64 0, .slice (some ⟨I, 0, none⟩) 2 2, .slice (some ⟨base, 0, none⟩) 1 1] ∧ RpO base W5 (.slice (some ⟨base, 0, none⟩) 1 1) (.slice da dl dc) [] ∧ Box W5 I 3 #[.int .i64 e, .int .i64 n] ∧ Below w2.heap.size w2 W5 ∧ base ≤ W5.heap.size) := ⟨hB5, ⟨[], own_box hB4 (Nat.le_refl _), trivial⟩, hB3, hb5, hz5⟩
 have HBS : Hid (w2.heap.size ≤ base ∧ w2.heap.size ≤ R ∧ w2.heap.size ≤ I) := ⟨by omega, by omega, by omega⟩
 have hl1 := run_len Tryz.underlying57 va vl vc
 have hx2 := HB.out.2.below H2.out.1 HB.out.2.lt
 have z0 := hx2.cell 0 rfl
 have z1 := hx2.cell 1 rfl
 have z2 := (hx2.alloc (.cells #[.int .i64 e, .int .i64 n] 3)).cell 2 rfl
 clear hB5 hB4 hB3 hb5 hz5 hx2 hs3 hs4
 go_wp2_with fail
 rw [← hW3, ← hW4, ← hW5]
 clear z0 z1 z2 hW3 hW4 hW5
 rw [← hR]
 clear hR hI hbase
 go_loopw [6] (fun i wr => ∃ (j : Nat), j ≤ vl ∧ i = .int .i64 j ∧ Hid (∃ a c, Box wr R 129 #[.int .i64 0, .slice (some ⟨I, 0, none⟩) 2 2, .slice a (j + 1) c] ∧ RpO base wr (.slice a (j + 1) c) (.slice da dl dc) (l.take j) ∧ Box wr I 3 #[.int .i64 e, .int .i64 n] ∧ Below w2.heap.size w2 wr ∧ base ≤ wr.heap.size)) (fun i _ => vl - (intOf i).toNat)
 case atStart => exact ⟨0, Nat.zero_le _, rfl, some ⟨base, 0, none⟩, 1, H3.out⟩
 case round => (
 obtain ⟨j, hj, rfl, HJ⟩ := hrel
 obtain ⟨av, cv, hBR, hOR, hBI, hbr, hbz⟩ := HJ.out
 have HK : Hid (Box wr R 129 #[.int .i64 0, .slice (some ⟨I, 0, none⟩) 2 2, .slice av (j + 1) cv] ∧ RpO base wr (.slice av (j + 1) cv) (.slice da dl dc) (l.take j) ∧ Box wr I 3 #[.int .i64 e, .int .i64 n] ∧ Below w2.heap.size w2 wr ∧ base ≤ wr.heap.size) := ⟨hBR, hOR, hBI, hbr, hbz⟩
 clear HJ hBR hOR hBI hbr hbz
 have c3 := ((HB.out.2.below H2.out.1 HB.out.2.lt).below HK.out.2.2.2.1 H2.out.2.2).cell 3 rfl
 by_cases hjt : j < vl
 · obtain ⟨p, hp⟩ := get_lt (l := l) (k := j) (by rw [← HI.out.2.2.2.1]; exact hjt)
   obtain ⟨bx, ox, hix, -, d0⟩ := (HI.out.2.2.2.2.2.below H2.out.2.1).at j p hp
   have hji : (j : Int) < (vl : Int) := by omega
   have hpm : p.size ≤ maxLen := HI.out.2.2.2.2.2.2 p (List.mem_of_getElem? hp)
   have HP : Hid (l[j]? = some p ∧ (l.take j).length = j) := ⟨hp, by rw [List.length_take, ← HI.out.2.2.2.1]; omega⟩
   obtain ⟨X0, hX0⟩ := exa (wr.drew)
   have hbX : Below wr.heap.size wr X0 := by rw [hX0]; exact (Below.refl _ wr).drew
   have HS : Hid (∀ U, Below w2.heap.size w2 U → Box U R 129 #[.int .i64 0, .slice (some ⟨I, 0, none⟩) 2 2, .slice av (j + 1) cv] → (U.cell? ⟨R, 2, none⟩ = some (.slice av (j + 1) cv) ∧ U.cell? ⟨w.heap.size, 3, none⟩ = some (.slice va vl vc) ∧ U.cell? ⟨bx, ox, none⟩ = some (.string p))) := fun U hU hB => by (
 refine ⟨hB.cell 2 rfl, ((HB.out.2.below H2.out.1 HB.out.2.lt).below hU H2.out.2.2).cell 3 rfl, ?_⟩
 rw [hU.cell (cell_lt d0)]
 exact d0)
   have hBX0 := HK.out.1.below hbX HK.out.1.lt
   have hwX0 := below_any HK.out.2.2.2.1 hbX
   obtain ⟨cp, W6, hr6, hb6, -, ha6⟩ := conv_el p hpm X0 X0.heap.size rfl
   have hBW6 := hBX0.below hb6 hBX0.lt
   have hwW6 := below_any hwX0 hb6
   obtain ⟨us, hO, hE⟩ := HK.out.2.1
   rw [HP.out.2] at hO
   have hOW := own_below (own_below hO hbX) hb6
   have HW6 : Hid (W6.ownsRow base 25 1 (.slice av (j + 1) cv) (j + 1) (.slice da dl dc :: us) ∧ Each (fun u s => EL base W6 u s) us (l.take j) ∧ EL base W6 (.slice (some ⟨X0.heap.size, 0, none⟩) p.size cp) p ∧ Below w2.heap.size w2 W6 ∧ base ≤ W6.heap.size ∧ Box W6 R 129 #[.int .i64 0, .slice (some ⟨I, 0, none⟩) 2 2, .slice av (j + 1) cv] ∧ Box W6 I 3 #[.int .i64 e, .int .i64 n]) := ⟨hOW, hE.mono fun _ _ h => (h.below hbX).below hb6, ha6.weaken (Nat.le_trans HK.out.2.2.2.2 hbX.size), hwW6, Nat.le_trans HK.out.2.2.2.2 (Nat.le_trans hbX.size hb6.size), hBW6, (HK.out.2.2.1.below hbX HK.out.2.2.1.lt).below hb6 (Nat.lt_of_lt_of_le HK.out.2.2.1.lt hbX.size)⟩
   have hbW6 : Below X0.heap.size X0 W6 := hb6
   clear hp d0 hO hE hOW ha6 hpm hb6
   go_upto_region 8 with fail
   refine AnyBut.begin (fun U => U.cell? ⟨R, 2, none⟩ = some (.slice av (j + 1) cv) ∧ U.cell? ⟨w.heap.size, 3, none⟩ = some (.slice va vl vc) ∧ U.cell? ⟨bx, ox, none⟩ = some (.string p)) 11 (by kernel_rfl) ?_
   rw [← hX0]
   clear hX0 c3
   have hSS := HS.out X0 hwX0 hBX0
   refine tz 0 28 hSS ?_
   simp only [ua,ub,uc,ud]
   refine tz 1 29 hSS ?_
   simp only [ua,ub,uc,ud]
   refine tz 2 30 hSS ?_
   simp only [ua,ub,uc,ud]
   refine tz 3 31 hSS ?_
   simp only [ua,ub,uc,ud]
   refine tz 4 32 hSS ?_
   simp only [ua,ub,uc,ud]
   refine tz 5 33 hSS ?_
   simp only [ua,ub,uc,ud]
   refine tz 6 34 hSS ?_
   simp only [ua,ub,uc,ud]
   refine AnyBut.step (i := 7) (by kernel_rfl) rfl (fun K hK => ?_)
   go_simp
   refine hK.out _ _ (HS.out W6 hwW6 hBW6) ?_
   clear hK hSS hr6 hBX0 hwX0
   refine AnyBut.step (i := 8) (by kernel_rfl) rfl (fun K hK => ?_)
   go_simp
   refine hK.out _ _ (HS.out _ (hwW6.alloc hwW6.size _) (hBW6.alloc _)) ?_
   clear hK
   refine AnyBut.step (i := 9) (by kernel_rfl) rfl (fun K hK => ?_)
   obtain ⟨i3, hi3, hz30, hz31, hz32⟩ := info_parts Tryz.infoB
   refine step_append_lies _ (by rfl) _ _ _ (by rfl) base 25 i3 _ 1 24 Tryz.underlying89 hi3 hz30 hz31 hz32 rfl (by omega) _ (j + 1) _ (by rfl) (HW6.out.1.alloc _) ⟨W6.heap.size, 0, none⟩ 1 1 [.slice (some ⟨X0.heap.size, 0, none⟩) p.size cp] (by rfl) (by rfl)
     (World.news_of_block (cs := #[.slice (some ⟨X0.heap.size, 0, none⟩) p.size cp]) (t := 25) (fr := (0, 0)) (heap_alloc_new W6 _)) (by simp [Value.oneCell']) (by omega) (by unfold maxLen; omega) (by omega) (by have := HW6.out.2.2.2.2.1; simp; omega) (W6.heap.size + 1) (by simp) ?_
   intro g cap w3 hO3 hg3 hat hlt3
   have hgW : W6.grownBy w3 (Value.slice av (j + 1) cv).ownBlock := ⟨hg3.os, hg3.tape, hg3.output, Nat.le_trans (by simp) hg3.size, fun k hk hne => (hg3.block k (by simp; omega) hne).trans (Below.heap_alloc W6 _ k hk)⟩
   have hB3 := box_ty hBW6 hgW (Clear.own HW6.out.1 (by decide))
   have hI3 := box_ty HW6.out.2.2.2.2.2.2 hgW (Clear.own HW6.out.1 (by decide))
   have hw3 := below_row hwW6 HW6.out.1 hg3 HBS.out.1 hwW6.size
   have hO4 : RpO base w3 (.slice (some ⟨g, 0, none⟩) (j + 1 + 1) cap) (.slice da dl dc) (l.take (j + 1)) := by (
 have hcl : Clear W6 (Value.slice av (j + 1) cv).ownBlock [5] := Clear.own HW6.out.1 (by decide)
 refine ⟨us ++ [.slice (some ⟨X0.heap.size, 0, none⟩) p.size cp], ?_, ?_⟩
 · rw [take_snoc HP.out.1, List.length_append, HP.out.2]
   exact hO3
 · rw [take_snoc HP.out.1]
   exact (HW6.out.2.1.mono fun _ _ h => h.grown hgW hcl).snoc (HW6.out.2.2.1.grown hgW hcl))
   have hSS := HS.out w3 hw3 hB3
   refine hK.out _ _ hSS ?_
   clear hK
   refine tz 10 38 hSS ?_
   simp only [Act.put, List.setIfInBounds_toArray]
   clear hSS
   have HQ : Hid (Box (w3.setCell ⟨R, 2, none⟩ (.slice (some ⟨g, 0, none⟩) (j + 1 + 1) cap)) R 129 #[.int .i64 0, .slice (some ⟨I, 0, none⟩) 2 2, .slice (some ⟨g, 0, none⟩) (j + 1 + 1) cap] ∧ RpO base (w3.setCell ⟨R, 2, none⟩ (.slice (some ⟨g, 0, none⟩) (j + 1 + 1) cap)) (.slice (some ⟨g, 0, none⟩) (j + 1 + 1) cap) (.slice da dl dc) (l.take (j + 1)) ∧ Box (w3.setCell ⟨R, 2, none⟩ (.slice (some ⟨g, 0, none⟩) (j + 1 + 1) cap)) I 3 #[.int .i64 e, .int .i64 n] ∧ Below w2.heap.size w2 (w3.setCell ⟨R, 2, none⟩ (.slice (some ⟨g, 0, none⟩) (j + 1 + 1) cap)) ∧ base ≤ (w3.setCell ⟨R, 2, none⟩ (.slice (some ⟨g, 0, none⟩) (j + 1 + 1) cap)).heap.size) :=
     ⟨hB3.set 2 _, hO4.grown (grown_set w3 R 2 _) (hB3.clear (by decide)), hI3.other (box_ne hI3 hB3 (by decide)), hw3.setCell (p := ⟨R, 2, none⟩) HBS.out.2.1 _, by have h1 := HW6.out.2.2.2.2.1; have h2 := hgW.size; simp only [World.setCell] at *; simp; omega⟩
   have q2 := hB3.cell 2 rfl
   have q3 := hB3.frozen 2
   clear hO3 hg3 hat hlt3 hgW hI3 hw3 hO4 hwW6 hBW6 hbX hbW6 hB3
   refine AnyBut.last (by kernel_rfl) (by kernel_rfl) rfl (fun K hK => ?_)
   go_simp
   refine hK.out _ _ ?_
   clear hK q2 q3 HS
   go_wp2
   go_roundw
   case rel => exact ⟨j + 1, by omega, by go_num, _, _, HQ.out⟩
   case measure => simp [intOf]; omega
 · obtain rfl : j = vl := by omega
   have hfull : l.take j = l := List.take_of_length_le (by rw [HI.out.2.2.2.1]; exact Nat.le_refl _)
   have HS : Hid (Box wr R 129 #[.int .i64 0, .slice (some ⟨I, 0, none⟩) 2 2, .slice av (j + 1) cv] ∧ RpO base wr (.slice av (j + 1) cv) (.slice da dl dc) l ∧ Box wr I 3 #[.int .i64 e, .int .i64 n] ∧ Below w2.heap.size w2 wr) := by (
 have h1 := HK.out
 rw [hfull] at h1
 exact ⟨h1.1, h1.2.1, h1.2.2.1, h1.2.2.2.1⟩)
   clear hfull HK
   have hbr : Below w.heap.size w wr := H2.out.2.1.trans (HS.out.2.2.2.mono H2.out.2.1.size)
   have HW5 : Hid (Below w.heap.size w wr) := hbr
   have hrec : W.recF.lies 0 wr [.int .i64 0, .slice (some ⟨I, 0, none⟩) 2 2, .slice av (j + 1) cv] (rpR e n d l) := by (
 have hN : W.intsS.lies 0 wr [.slice (some ⟨I, 0, none⟩) 2 2] [e, n] := ⟨_, rfl, cells_box HS.out.2.2.1 rfl (by simp [maxLen]) (Nat.zero_le _), fun x hx => by
   rcases List.mem_cons.1 hx with rfl | hx
   · exact W.I64.wf HI.out.1
   · rw [List.mem_singleton.1 hx]; exact W.I64.wf HI.out.2.1⟩
 have hT : W.textsS.lies 0 wr [.slice av (j + 1) cv] (d :: l.map octs) := rpo_lies HS.out.2.1 (w_arg (HI.out.2.2.2.2.1.below hbr))
 exact W.rec_mk (r := rpR e n d l) hN hT (show W.I64 0 from ⟨by decide, by decide⟩))
   have HE := W.renc_any 0 _ _ wr hrec
   have HE2 : Hid (W.encO (rpR e n d l) = rpO e n d l ∧ W.chkR (rpR e n d l) = rpC e n d l) := ⟨HO.out.1.symm, HO.out.2.1.symm⟩
   obtain ⟨z0, z1, z2, -⟩ := HS.out.1.three
   clear HO hbr hrec
   go_wp2_with fail
   clear z0 z1 z2
   refine HE.mono ?_
   rintro x w7 ⟨⟨a7, c7, rfl, ho7⟩, hb7⟩
   have HQ : Hid (post (.returned (.tuple #[.slice a7 (W.encO (rpR e n d l)).length c7, .int .i64 (W.chkR (rpR e n d l))])) w7) := HPo.out a7 _ c7 _ _ w7 HE2.out.2 HE2.out.1 rfl (W.bytesS.oweaken ho7 HW5.out.size) (HW5.out.trans (hb7.mono HW5.out.size))
   clear ho7 hb7 HE
   go_wp2
   exact HQ.out)
end Go.Proofs.YtopcefhncildnaaGreatDoor.K
