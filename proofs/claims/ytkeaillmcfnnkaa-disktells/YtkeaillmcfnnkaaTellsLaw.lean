/-
  DiskTells, proved: for every disk of the document, number, octets and truths (as great as the form reads them): the call returns true, and changes nothing that was in memory. No condition of its own.
-/
import Derived.Test.YtkeaillmcfnnkaaOpenDisk
import Derived.Test.YtkeaillmcfnnkaaRefPut
import Derived.Test.YtkeaillmcfnnkaaRefFlush
import Derived.Test.YtkeaillmcfnnkaaRefOne
import Derived.Test.YtkeaillmcfnnkaaAlike
namespace Go.Proofs.Ytkeaillmcfnnkaa.diskTells
open Go.ChangeShapes Go.WideShapes Go.ChangeAt Go.RowKit
set_option linter.unusedVariables false

theorem gout_oct {S : St} (h : OctS S) (s k : Int) : Oct (gout S s k) := by
  unfold gout
  split
  · exact oct_window (oct_stand h _) _ _
  · intro x hx; cases hx

theorem disk_parts {base : Nat} {w : World} {v : Value} {S : St} (h : Disk base w v S) : ∃ a1 c1 a2 c2 n m, v = .agg #[.slice a1 n c1, .slice a2 m c2] := by
  obtain ⟨a1, c1, a2, c2, rfl, _⟩ := h.shape
  exact ⟨a1, c1, a2, c2, _, _, rfl⟩

/-- What the last statement reads. -/
abbrev OT (w5 : World) (P B : Nat) (s1 s2 x1 x2 : Value) (V : World) : Prop := V.cell? ⟨P, 0, none⟩ = some s1 ∧ V.cell? ⟨P, 1, none⟩ = some s2 ∧ V.cell? ⟨B, 0, none⟩ = some x1 ∧ V.cell? ⟨B, 1, none⟩ = some x2 ∧ Below w5.heap.size w5 V
theorem OT.drew {w5 : World} {P B : Nat} {s1 s2 x1 x2 : Value} {V : World} (h : OT w5 P B s1 s2 x1 x2 V) : OT w5 P B s1 s2 x1 x2 V.drew := ⟨h.1, h.2.1, h.2.2.1, h.2.2.2.1, h.2.2.2.2.drew⟩
theorem OT.through {w5 : World} {P B : Nat} {s1 s2 x1 x2 : Value} {V V' : World} (h : OT w5 P B s1 s2 x1 x2 V) (hb : Below V.heap.size V V') : OT w5 P B s1 s2 x1 x2 V' :=
  ⟨by rw [hb.cell (cell_lt h.1)]; exact h.1, by rw [hb.cell (cell_lt h.2.1)]; exact h.2.1, by rw [hb.cell (cell_lt h.2.2.1)]; exact h.2.2.1, by rw [hb.cell (cell_lt h.2.2.2.1)]; exact h.2.2.2.1, below_any h.2.2.2.2 hb⟩
theorem OT.below {w5 : World} {P B : Nat} {s1 s2 x1 x2 : Value} {V : World} (h : OT w5 P B s1 s2 x1 x2 V) : Below w5.heap.size w5 V := h.2.2.2.2

attribute [local go_sem ↓] Go.wp_at_zero Go.wp_at_succ

set_option maxRecDepth 100000 in
set_option maxHeartbeats 8000000 in
theorem walk (v vd vk : Value) (S : St) (s : Int) (d : List Int) (bl : List Bool) (w : World) (h : Disk 0 w v S) (hf : Fits S) (hs : -9223372036854775808 ≤ s ∧ s ≤ 9223372036854775807) (hd : Arg 0 w vd d) (hdb : d.length ≤ 140737488351232) (hk : Bools 0 w vk bl) :
    Calls Try.prog 3 #[v, .int .i64 s, vd, vk] w fun e w' => e = .returned (.bool true) ∧ Below w.heap.size w w' := by
  obtain ⟨pa, pc, pb, pd, pn, pm, rfl⟩ := disk_parts h
  obtain ⟨da, dc, rfl, _⟩ := hd.shape
  obtain ⟨ka, kc, rfl, _⟩ := Cells.shape hk
  obtain ⟨dn, hdn⟩ : ∃ n, n = d.length := ⟨_, rfl⟩
  obtain ⟨kn, hkn⟩ : ∃ n, n = bl.length := ⟨_, rfl⟩
  rw [← hdn] at hd ⊢
  rw [← hkn] at hk ⊢
  have HF : Hid (Fits S ∧ (-9223372036854775808 ≤ s ∧ s ≤ 9223372036854775807) ∧ d.length ≤ 140737488351232 ∧ OctS S ∧ Oct d) := ⟨hf, hs, hdb, h.oct, hd.2⟩
  obtain ⟨W0, hW0⟩ : ∃ W, W = w.alloc (.cells #[.slice pa pn pc, .slice pb pm pd] 25) := ⟨_, rfl⟩
  have F0 : Hid (∀ V, Below W0.heap.size W0 V → Box V w.heap.size 25 (.slice pa pn pc) (.slice pb pm pd) ∧ Disk 0 V (.agg #[.slice pa pn pc, .slice pb pm pd]) S ∧ Arg 0 V (.slice da dn dc) d ∧ Bools 0 V (.slice ka kn kc) bl ∧ Below w.heap.size w V) := fun V hV => by
    have hb : Below w.heap.size w W0 := by rw [hW0]; exact (Below.refl _ _).alloc (Nat.le_refl _) _
    have hB : Box W0 w.heap.size 25 (.slice pa pn pc) (.slice pb pm pd) := by rw [hW0]; exact Box.new _ _ _ _
    have e := below_any hb hV
    exact ⟨hB.below hV hB.lt, h.below e, hd.below e, hk.below e, e⟩
  clear h hf hs hd hdb hk hdn hkn
  have e0 := F0.out W0 (Below.refl _ _)
  have b0 := e0.1.cell0
  have b1 := e0.1.cell1
  have H1 := of_any 0 _ S W0 e0.2.1 HF.out.1
  rw [hW0] at b0 b1
  clear e0
  go_enter Try.func3, Try.ntmps3
  go_wp2_with fail
  rw [← hW0]
  refine H1.mono ?_
  rintro e W1 ⟨v1, rfl, ho, hb⟩
  clear H1 b0 b1 hW0
  obtain ⟨xa, xc, xb, xd, xn, xm, rfl⟩ := disk_parts ho.disk
  have F1 : Hid (∀ V, Below W1.heap.size W1 V → Disk 0 V (.agg #[.slice xa xn xc, .slice xb xm xd]) S) := fun V hV => (ho.disk.below hV).weaken (Nat.zero_le _)
  have L0 : Hid (Below W0.heap.size W0 W1) := hb
  have H1 := copy_any 0 _ d W1 (F0.out W1 hb).2.2.1 (by have := HF.out.2.2.1; omega)
  clear ho hb
  go_wp2_with fail
  refine H1.mono ?_
  rintro e w2 ⟨⟨v2, rfl, ho⟩, hb⟩
  clear H1
  obtain ⟨oa, oc, rfl⟩ := own_shape ho
  obtain ⟨on, hon⟩ : ∃ n, n = d.length := ⟨_, rfl⟩
  rw [← hon]
  obtain ⟨W2, hW2⟩ : ∃ W, W = w2.alloc (.cells #[.slice xa xn xc, .slice xb xm xd] 30) := ⟨_, rfl⟩
  obtain ⟨B9, hB9⟩ : ∃ B, B = w2.heap.size := ⟨_, rfl⟩
  have hb' : Below w2.heap.size w2 W2 := by rw [hW2]; exact (Below.refl _ _).alloc (Nat.le_refl _) _
  have L1 : Hid (Below W1.heap.size W1 W2) := below_any hb hb'
  have F2 : Hid (∀ V, Below W2.heap.size W2 V → Arg 0 V (.slice oa on oc) d ∧ Box V B9 30 (.slice xa xn xc) (.slice xb xm xd)) := fun V hV => by
    have hB : Box W2 B9 30 (.slice xa xn xc) (.slice xb xm xd) := by rw [hW2, hB9]; exact Box.new _ _ _ _
    exact ⟨by rw [hon]; exact ((Arg.own ho HF.out.2.2.2.2).below (below_any hb' hV)).weaken (Nat.zero_le _), hB.below hV hB.lt⟩
  clear ho hb hb' hon
  have e0 := F2.out W2 (Below.refl _ _)
  have b0 := e0.2.cell0
  have b1 := e0.2.cell1
  have H1 := put_any 0 0 _ _ S s d W2 (F1.out W2 L1.out) HF.out.2.1 (F2.out W2 (Below.refl _ _)).1
  clear e0
  obtain ⟨pe, hpe⟩ : ∃ x, x = perr S s d := ⟨_, rfl⟩
  rw [← hpe] at H1
  rw [hW2] at b0 b1
  try rw [hB9] at b0 b1
  go_wp2_with fail
  rw [← hW2, ← hB9]
  refine H1.mono ?_
  rintro e w3 ⟨v1, rfl, ho, hb⟩
  clear H1 b0 b1 hW2 hB9
  have hdk := ho.disk
  clear ho
  obtain ⟨qa, qc, qb, qd, qn, qm, rfl⟩ := disk_parts hdk
  obtain ⟨W3, hW3⟩ : ∃ W, W = w3.alloc (.cells #[.slice qa qn qc, .slice qb qm qd] 30) := ⟨_, rfl⟩
  obtain ⟨B11, hB11⟩ : ∃ B, B = w3.heap.size := ⟨_, rfl⟩
  have hb' : Below w3.heap.size w3 W3 := by rw [hW3]; exact (Below.refl _ _).alloc (Nat.le_refl _) _
  have L2 : Hid (Below W2.heap.size W2 W3) := below_any hb hb'
  have F3 : Hid (∀ V, Below W3.heap.size W3 V → Disk 0 V (.agg #[.slice qa qn qc, .slice qb qm qd]) (pst S s d) ∧ Box V B11 30 (.slice qa qn qc) (.slice qb qm qd)) := fun V hV => by
    have hB : Box W3 B11 30 (.slice qa qn qc) (.slice qb qm qd) := by rw [hW3, hB11]; exact Box.new _ _ _ _
    exact ⟨(hdk.below (below_any hb' hV)).weaken (Nat.zero_le _), hB.below hV hB.lt⟩
  clear hdk hb hb'
  have e0 := F0.out W3 (below_any L0.out (below_any L1.out L2.out))
  have b0 := e0.1.cell0
  have b1 := e0.1.cell1
  have H1 := rput_any 0 0 _ _ S s d W3 (F0.out W3 (below_any L0.out (below_any L1.out L2.out))).2.1 HF.out.2.1 (F0.out W3 (below_any L0.out (below_any L1.out L2.out))).2.2.1
  clear e0
  rw [← hpe] at H1
  rw [hW3] at b0 b1
  try rw [hB11] at b0 b1
  go_wp2_with fail
  rw [← hW3, ← hB11]
  refine H1.mono ?_
  rintro e w4 ⟨v1, rfl, ho, hb⟩
  clear H1 b0 b1 hW3 hB11
  have hdk := ho.disk
  clear ho
  obtain ⟨ra, rc, rb, rd, rn, rm, rfl⟩ := disk_parts hdk
  obtain ⟨W4, hW4⟩ : ∃ W, W = w4.alloc (.cells #[.slice ra rn rc, .slice rb rm rd] 25) := ⟨_, rfl⟩
  obtain ⟨B13, hB13⟩ : ∃ B, B = w4.heap.size := ⟨_, rfl⟩
  have hb' : Below w4.heap.size w4 W4 := by rw [hW4]; exact (Below.refl _ _).alloc (Nat.le_refl _) _
  have L3 : Hid (Below W3.heap.size W3 W4) := below_any hb hb'
  have F4 : Hid (∀ V, Below W4.heap.size W4 V → Disk 0 V (.agg #[.slice ra rn rc, .slice rb rm rd]) (pst S s d) ∧ Box V B13 25 (.slice ra rn rc) (.slice rb rm rd)) := fun V hV => by
    have hB : Box W4 B13 25 (.slice ra rn rc) (.slice rb rm rd) := by rw [hW4, hB13]; exact Box.new _ _ _ _
    exact ⟨(hdk.below (below_any hb' hV)).weaken (Nat.zero_le _), hB.below hV hB.lt⟩
  clear hdk hb hb'
  have e0 := F2.out W4 (below_any L2.out L3.out)
  have b0 := e0.2.cell0
  have b1 := e0.2.cell1
  have H1 := get_any 0 _ S s W4 (F1.out W4 (below_any L1.out (below_any L2.out L3.out))) HF.out.2.1
  clear e0
  obtain ⟨ge, hge⟩ : ∃ x, x = gerr S s 1 := ⟨_, rfl⟩
  rw [← hge] at H1
  rw [hW4] at b0 b1
  try rw [hB13] at b0 b1
  go_wp2_with fail
  rw [← hW4, ← hB13]
  refine H1.mono ?_
  rintro e W5 ⟨v1, rfl, ho, hb⟩
  clear H1 b0 b1 hW4 hB13
  obtain ⟨ga, gc, rfl⟩ := own_shape ho
  have L4 : Hid (Below W4.heap.size W4 W5) := hb
  obtain ⟨gn, hgn⟩ : ∃ x, x = (gout S s 1).length := ⟨_, rfl⟩
  have F5 : Hid (∀ V, Below W5.heap.size W5 V → Arg 0 V (.slice ga gn gc) (gout S s 1)) := fun V hV => by
    rw [hgn]; exact ((Arg.own ho (gout_oct HF.out.2.2.2.1 _ _)).below hV).weaken (Nat.zero_le _)
  rw [← hgn]
  clear ho hb hgn
  have e0 := F0.out W5 (below_any L0.out (below_any L1.out (below_any L2.out (below_any L3.out L4.out))))
  have b0 := e0.1.cell0
  have b1 := e0.1.cell1
  have H1 := rget_any 0 _ S s W5 (F0.out W5 (below_any L0.out (below_any L1.out (below_any L2.out (below_any L3.out L4.out))))).2.1 HF.out.2.1
  clear e0
  rw [← hge] at H1
  go_wp2_with fail
  refine H1.mono ?_
  rintro e W6 ⟨v1, rfl, ho, hb⟩
  clear H1 b0 b1
  obtain ⟨ja, jc, rfl⟩ := own_shape ho
  have L5 : Hid (Below W5.heap.size W5 W6) := hb
  obtain ⟨jn, hjn⟩ : ∃ x, x = (gout S s 1).length := ⟨_, rfl⟩
  have F6 : Hid (∀ V, Below W6.heap.size W6 V → Arg 0 V (.slice ja jn jc) (gout S s 1)) := fun V hV => by
    rw [hjn]; exact ((Arg.own ho (gout_oct HF.out.2.2.2.1 _ _)).below hV).weaken (Nat.zero_le _)
  rw [← hjn]
  clear ho hb hjn
  have e0 := F2.out W6 (below_any L2.out (below_any L3.out (below_any L4.out L5.out)))
  have b0 := e0.2.cell0
  have b1 := e0.2.cell1
  have H1 := flush_any 0 _ S W6 (F1.out W6 (below_any L1.out (below_any L2.out (below_any L3.out (below_any L4.out L5.out)))))
  clear e0
  obtain ⟨ce, hce⟩ : ∃ x, x = cerr S := ⟨_, rfl⟩
  rw [← hce] at H1
  go_wp2_with fail
  refine H1.mono ?_
  rintro e w7 ⟨v1, rfl, ho, hb⟩
  clear H1 b0 b1
  have hdk := ho
  clear ho
  obtain ⟨ta, tc, tb, td, tn, tm, rfl⟩ := disk_parts hdk
  obtain ⟨W7, hW7⟩ : ∃ W, W = w7.alloc (.cells #[.slice ta tn tc, .slice tb tm td] 30) := ⟨_, rfl⟩
  obtain ⟨B19, hB19⟩ : ∃ B, B = w7.heap.size := ⟨_, rfl⟩
  have hb' : Below w7.heap.size w7 W7 := by rw [hW7]; exact (Below.refl _ _).alloc (Nat.le_refl _) _
  have L6 : Hid (Below W6.heap.size W6 W7) := below_any hb hb'
  have F7 : Hid (∀ V, Below W7.heap.size W7 V → Disk 0 V (.agg #[.slice ta tn tc, .slice tb tm td]) (stand S fun _ => true) ∧ Box V B19 30 (.slice ta tn tc) (.slice tb tm td)) := fun V hV => by
    have hB : Box W7 B19 30 (.slice ta tn tc) (.slice tb tm td) := by rw [hW7, hB19]; exact Box.new _ _ _ _
    exact ⟨(hdk.below (below_any hb' hV)).weaken (Nat.zero_le _), hB.below hV hB.lt⟩
  clear hdk hb hb'
  have e0 := F0.out W7 (below_any L0.out (below_any L1.out (below_any L2.out (below_any L3.out (below_any L4.out (below_any L5.out L6.out))))))
  have b0 := e0.1.cell0
  have b1 := e0.1.cell1
  have H1 := rflush_any 0 _ S W7 (F0.out W7 (below_any L0.out (below_any L1.out (below_any L2.out (below_any L3.out (below_any L4.out (below_any L5.out L6.out))))))).2.1 (by have := HF.out.1.2.2.1; omega)
  clear e0
  rw [← hce] at H1
  rw [hW7] at b0 b1
  try rw [hB19] at b0 b1
  go_wp2_with fail
  rw [← hW7, ← hB19]
  refine H1.mono ?_
  rintro e w8 ⟨v1, rfl, ho, hb⟩
  clear H1 b0 b1 hW7 hB19
  have hdk := ho.disk
  clear ho
  obtain ⟨ua, uc, ub, ud, un, um, rfl⟩ := disk_parts hdk
  obtain ⟨W8, hW8⟩ : ∃ W, W = w8.alloc (.cells #[.slice ua un uc, .slice ub um ud] 25) := ⟨_, rfl⟩
  obtain ⟨B21, hB21⟩ : ∃ B, B = w8.heap.size := ⟨_, rfl⟩
  have hb' : Below w8.heap.size w8 W8 := by rw [hW8]; exact (Below.refl _ _).alloc (Nat.le_refl _) _
  have L7 : Hid (Below W7.heap.size W7 W8) := below_any hb hb'
  have F8 : Hid (∀ V, Below W8.heap.size W8 V → Disk 0 V (.agg #[.slice ua un uc, .slice ub um ud]) (stand S fun _ => true) ∧ Box V B21 25 (.slice ua un uc) (.slice ub um ud)) := fun V hV => by
    have hB : Box W8 B21 25 (.slice ua un uc) (.slice ub um ud) := by rw [hW8, hB21]; exact Box.new _ _ _ _
    exact ⟨(hdk.below (below_any hb' hV)).weaken (Nat.zero_le _), hB.below hV hB.lt⟩
  clear hdk hb hb'
  have e0 := F2.out W8 (below_any L2.out (below_any L3.out (below_any L4.out (below_any L5.out (below_any L6.out L7.out)))))
  have b0 := e0.2.cell0
  have b1 := e0.2.cell1
  have H1 := crash_any 0 0 _ _ S bl W8 (F1.out W8 (below_any L1.out (below_any L2.out (below_any L3.out (below_any L4.out (below_any L5.out (below_any L6.out L7.out))))))) (F0.out W8 (below_any L0.out (below_any L1.out (below_any L2.out (below_any L3.out (below_any L4.out (below_any L5.out (below_any L6.out L7.out)))))))).2.2.2.1
  clear e0
  rw [← hce] at H1
  rw [hW8] at b0 b1
  try rw [hB21] at b0 b1
  go_wp2_with fail
  rw [← hW8, ← hB21]
  refine H1.mono ?_
  rintro e w9 ⟨v1, rfl, ho, hb⟩
  clear H1 b0 b1 hW8 hB21
  have hdk := ho
  clear ho
  obtain ⟨ya, yc, yb, yd, yn, ym, rfl⟩ := disk_parts hdk
  obtain ⟨W9, hW9⟩ : ∃ W, W = w9.alloc (.cells #[.slice ya yn yc, .slice yb ym yd] 30) := ⟨_, rfl⟩
  obtain ⟨B23, hB23⟩ : ∃ B, B = w9.heap.size := ⟨_, rfl⟩
  have hb' : Below w9.heap.size w9 W9 := by rw [hW9]; exact (Below.refl _ _).alloc (Nat.le_refl _) _
  have L8 : Hid (Below W8.heap.size W8 W9) := below_any hb hb'
  have F9 : Hid (∀ V, Below W9.heap.size W9 V → Disk 0 V (.agg #[.slice ya yn yc, .slice yb ym yd]) (stand S (kept bl)) ∧ Box V B23 30 (.slice ya yn yc) (.slice yb ym yd)) := fun V hV => by
    have hB : Box W9 B23 30 (.slice ya yn yc) (.slice yb ym yd) := by rw [hW9, hB23]; exact Box.new _ _ _ _
    exact ⟨(hdk.below (below_any hb' hV)).weaken (Nat.zero_le _), hB.below hV hB.lt⟩
  clear hdk hb hb'
  have e0 := F0.out W9 (below_any L0.out (below_any L1.out (below_any L2.out (below_any L3.out (below_any L4.out (below_any L5.out (below_any L6.out (below_any L7.out L8.out))))))))
  have b0 := e0.1.cell0
  have b1 := e0.1.cell1
  have H1 := rcrash_any 0 0 _ _ S bl W9 (F0.out W9 (below_any L0.out (below_any L1.out (below_any L2.out (below_any L3.out (below_any L4.out (below_any L5.out (below_any L6.out (below_any L7.out L8.out))))))))).2.1 (F0.out W9 (below_any L0.out (below_any L1.out (below_any L2.out (below_any L3.out (below_any L4.out (below_any L5.out (below_any L6.out (below_any L7.out L8.out))))))))).2.2.2.1
  clear e0
  rw [← hce] at H1
  rw [hW9] at b0 b1
  try rw [hB23] at b0 b1
  go_wp2_with fail
  rw [← hW9, ← hB23]
  refine H1.mono ?_
  rintro e w10 ⟨v1, rfl, ho, hb⟩
  clear H1 b0 b1 hW9 hB23
  have hdk := ho.disk
  clear ho
  obtain ⟨za, zc, zb, zd, zn, zm, rfl⟩ := disk_parts hdk
  obtain ⟨W10, hW10⟩ : ∃ W, W = w10.alloc (.cells #[.slice za zn zc, .slice zb zm zd] 25) := ⟨_, rfl⟩
  obtain ⟨B25, hB25⟩ : ∃ B, B = w10.heap.size := ⟨_, rfl⟩
  have hb' : Below w10.heap.size w10 W10 := by rw [hW10]; exact (Below.refl _ _).alloc (Nat.le_refl _) _
  have L9 : Hid (Below W9.heap.size W9 W10) := below_any hb hb'
  have F10 : Hid (∀ V, Below W10.heap.size W10 V → Disk 0 V (.agg #[.slice za zn zc, .slice zb zm zd]) (stand S (kept bl)) ∧ Box V B25 25 (.slice za zn zc) (.slice zb zm zd)) := fun V hV => by
    have hB : Box W10 B25 25 (.slice za zn zc) (.slice zb zm zd) := by rw [hW10, hB25]; exact Box.new _ _ _ _
    exact ⟨(hdk.below (below_any hb' hV)).weaken (Nat.zero_le _), hB.below hV hB.lt⟩
  clear hdk hb hb'
  obtain ⟨Z0, hZ0⟩ : ∃ Z, Z = W10 := ⟨_, rfl⟩
  have Y0 : Hid (Below W10.heap.size W10 Z0) := by show Below _ _ _; rw [hZ0]; exact Below.refl _ _
  have e0 := (F3.out Z0 (below_any L3.out (below_any L4.out (below_any L5.out (below_any L6.out (below_any L7.out (below_any L8.out (below_any L9.out Y0.out))))))))
  have e1 := (F4.out Z0 (below_any L4.out (below_any L5.out (below_any L6.out (below_any L7.out (below_any L8.out (below_any L9.out Y0.out)))))))
  have b0 := e0.2.cell0
  have b1 := e0.2.cell1
  have b2 := e1.2.cell0
  have b3 := e1.2.cell1
  have H1 := alike_any 0 0 _ _ _ Z0 e0.1 e1.1
  clear e0 e1
  rw [hZ0, hW10] at b0 b1 b2 b3
  try rw [hB25] at b2 b3
  go_wp2_with fail
  rw [← hW10, ← hB25, ← hZ0]
  refine H1.mono ?_
  rintro e Z1 ⟨rfl, hb⟩
  have Y1 : Hid (Below W10.heap.size W10 Z1) := below_any Y0.out hb
  clear H1 b0 b1 b2 b3 hb hZ0 hW10 hB25
  have H1 := same_any 0 0 _ _ _ _ Z1 (F5.out Z1 (below_any L5.out (below_any L6.out (below_any L7.out (below_any L8.out (below_any L9.out Y1.out)))))) (F6.out Z1 (below_any L6.out (below_any L7.out (below_any L8.out (below_any L9.out Y1.out)))))
  rw [show decide (gout S s 1 = gout S s 1) = true by simp] at H1
  go_wp2_with (go_at_call 20; refine (num_any _ _).mono ?_; rintro e w20 ⟨rfl, rfl⟩)
  refine H1.mono ?_
  rintro e Z2 ⟨rfl, q, hq⟩
  have Y2 : Hid (Below W10.heap.size W10 Z2) := by show Below _ _ _; rw [hq]; exact below_drewN Y1.out q
  clear H1 hq
  have e0 := (F7.out Z2 (below_any L7.out (below_any L8.out (below_any L9.out Y2.out))))
  have e1 := (F8.out Z2 (below_any L8.out (below_any L9.out Y2.out)))
  have b0 := e0.2.cell0
  have b1 := e0.2.cell1
  have b2 := e1.2.cell0
  have b3 := e1.2.cell1
  have H1 := alike_any 0 0 _ _ _ Z2 e0.1 e1.1
  clear e0 e1
  go_wp2_with (go_at_call 20; refine (num_any _ _).mono ?_; rintro e w20 ⟨rfl, rfl⟩)
  refine H1.mono ?_
  rintro e Z3 ⟨rfl, hb⟩
  have Y3 : Hid (Below W10.heap.size W10 Z3) := below_any Y2.out hb
  clear H1 b0 b1 b2 b3 hb
  have e0 := (F9.out Z3 (below_any L9.out Y3.out))
  have e1 := (F10.out Z3 Y3.out)
  have b0 := e0.2.cell0
  have b1 := e0.2.cell1
  have b2 := e1.2.cell0
  have b3 := e1.2.cell1
  have H1 := alike_any 0 0 _ _ _ Z3 e0.1 e1.1
  clear e0 e1
  go_wp2_with (go_at_call 20; refine (num_any _ _).mono ?_; rintro e w20 ⟨rfl, rfl⟩)
  refine H1.mono ?_
  rintro e Z4 ⟨rfl, hb⟩
  have Y4 : Hid (Below W10.heap.size W10 Z4) := below_any Y3.out hb
  clear H1 b0 b1 b2 b3 hb
  go_wp2_with (go_at_call 20; refine (num_any _ _).mono ?_; rintro e w20 ⟨rfl, rfl⟩)
  have HOT : OT W10 w.heap.size B9 (.slice pa pn pc) (.slice pb pm pd) (.slice xa xn xc) (.slice xb xm xd) Z4 := by
    have e0 := (F0.out Z4 (below_any L0.out (below_any L1.out (below_any L2.out (below_any L3.out (below_any L4.out (below_any L5.out (below_any L6.out (below_any L7.out (below_any L8.out (below_any L9.out Y4.out))))))))))).1
    have e1 := (F2.out Z4 (below_any L2.out (below_any L3.out (below_any L4.out (below_any L5.out (below_any L6.out (below_any L7.out (below_any L8.out (below_any L9.out Y4.out))))))))).2
    exact ⟨e0.cell0, e0.cell1, e1.cell0, e1.cell1, Y4.out⟩
  have HCK : Hid (∀ V, Below W10.heap.size W10 V → Calls Try.prog 22 #[.agg #[.slice xa xn xc, .slice xb xm xd]] V fun e w' => e = .returned (.int .i64 ce) ∧ Below V.heap.size V w') := fun V hV => by
    have := check_any 0 _ S V (F1.out V (below_any L1.out (below_any L2.out (below_any L3.out (below_any L4.out (below_any L5.out (below_any L6.out (below_any L7.out (below_any L8.out (below_any L9.out hV))))))))))
    rw [← hce] at this
    exact this
  have HCL : Hid (∀ V, Below W10.heap.size W10 V → Calls Try.prog 23 #[.agg #[.slice pa pn pc, .slice pb pm pd]] V fun e w' => e = .returned (.int .i64 ce) ∧ Below V.heap.size V w') := fun V hV => by
    have := rcheck_any 0 _ S V (F0.out V (below_any L0.out (below_any L1.out (below_any L2.out (below_any L3.out (below_any L4.out (below_any L5.out (below_any L6.out (below_any L7.out (below_any L8.out (below_any L9.out hV))))))))))).2.1
    rw [← hce] at this
    exact this
  have HCM : Hid (∀ V, Below W10.heap.size W10 V → Calls Try.prog 19 #[.agg #[.slice xa xn xc, .slice xb xm xd], .agg #[.slice pa pn pc, .slice pb pm pd]] V fun e w' => e = .returned (.int .i64 0) ∧ Below V.heap.size V w') := fun V hV =>
    alike_any 0 0 _ _ S V (F1.out V (below_any L1.out (below_any L2.out (below_any L3.out (below_any L4.out (below_any L5.out (below_any L6.out (below_any L7.out (below_any L8.out (below_any L9.out hV)))))))))) (F0.out V (below_any L0.out (below_any L1.out (below_any L2.out (below_any L3.out (below_any L4.out (below_any L5.out (below_any L6.out (below_any L7.out (below_any L8.out (below_any L9.out hV))))))))))).2.1
  have HCO : Hid (∀ V, Below W10.heap.size W10 V → Calls Try.prog 21 #[.slice oa on oc, .slice da dn dc] V fun e w' => e = .returned (.bool true) ∧ Below V.heap.size V w') := fun V hV => by
    have := same_any 0 0 _ _ d d V (F2.out V (below_any L2.out (below_any L3.out (below_any L4.out (below_any L5.out (below_any L6.out (below_any L7.out (below_any L8.out (below_any L9.out hV))))))))).1 (F0.out V (below_any L0.out (below_any L1.out (below_any L2.out (below_any L3.out (below_any L4.out (below_any L5.out (below_any L6.out (below_any L7.out (below_any L8.out (below_any L9.out hV))))))))))).2.2.1
    rw [show decide (d = d) = true by simp] at this
    exact this.mono fun e w' h => ⟨h.1, by obtain ⟨q, hq⟩ := h.2; rw [hq]; exact below_drewN (Below.refl _ _) q⟩
  have HBW : Hid (Below w.heap.size w W10) := (F0.out W10 (below_any L0.out (below_any L1.out (below_any L2.out (below_any L3.out (below_any L4.out (below_any L5.out (below_any L6.out (below_any L7.out (below_any L8.out L9.out)))))))))).2.2.2.2
  clear F0 F1 F2 F3 F4 F5 F6 F7 F8 F9 F10 L0 L1 L2 L3 L4 L5 L6 L7 L8 L9 Y0 Y1 Y2 Y3 Y4 HF hce hpe hge
  go_region_held3 (fun w' => w'.cell? ⟨w.heap.size, 0, none⟩ = some (.slice pa pn pc) ∧ w'.cell? ⟨w.heap.size, 1, none⟩ = some (.slice pb pm pd) ∧ w'.cell? ⟨B9, 0, none⟩ = some (.slice xa xn xc) ∧ w'.cell? ⟨B9, 1, none⟩ = some (.slice xb xm xd) ∧ Below W10.heap.size W10 w')
    (first | with_reducible exact HOT.drew | with_reducible assumption | with_reducible exact OT.through (by assumption) hbc)
    (first
      | (go_simp
         with_reducible refine Calls.mono (num_any _ _) ?_
         rintro e w20 ⟨rfl, rfl⟩)
      | (go_simp
         with_reducible refine Calls.mono (HCK.out _ ?_) ?_
         · exact OT.below (by assumption)
         rintro e w21 ⟨rfl, hbc⟩)
      | (go_simp
         with_reducible refine Calls.mono (HCL.out _ ?_) ?_
         · exact OT.below (by assumption)
         rintro e w22 ⟨rfl, hbc⟩)
      | (go_simp
         with_reducible refine Calls.mono (HCM.out _ ?_) ?_
         · exact OT.below (by assumption)
         rintro e w23 ⟨rfl, hbc⟩)
      | (go_simp
         with_reducible refine Calls.mono (HCO.out _ ?_) ?_
         · exact OT.below (by assumption)
         rintro e w24 ⟨rfl, hbc⟩)
      | (go_simp
         with_reducible refine Calls.mono (alive_any _) ?_
         rintro e w25 ⟨rfl, hbc⟩))
  all_goals
    have HE := OT.below (by assumption)
    go_wp2
    go_ret
    exact ⟨rfl, below_any HBW.out HE⟩

set_option maxRecDepth 100000 in
theorem lifted (os : Os) (started : os.Started) (H : Type) (enc : TypeId × Value → H) :
    ReturnsInHanded {} Try.checked os 3 .any (Rows.diskTellsSpec.pre6 enc Try.prog Try.f3 Rows.diskTellsRow.domain false) (Rows.diskTellsSpec.post enc Try.prog Try.f3 false true false false) := by
  refine returnsInHanded_of_change_sized (C := Try.checked) own started (by kernel_rfl) Try.func3
    (ChangeSpec.witness6 (enc := enc) (C := Try.checked) false ⟨#[], #[.agg #[.slice none 0 0, .slice none 0 0], .int .i64 0, .slice none 0 0, .slice none 0 0], []⟩ 8 (by kernel_rfl) (by kernel_rfl) (by kernel_rfl) (by kernel_rfl)) ?_
  intro W base args ds gs before hval0 hW hcnd hsz0 _
  have hval : ∀ (j : Nat) t v, Try.f3.params[j]? = some t → args[j]? = some v → Value.okWide Try.prog W .any base t v := hval0
  have hW' := hW
  obtain ⟨p, q, hA0, hV, rfl, hfz, hnd⟩ := hW
  have hA : DataW.TrodAll enc Try.prog W 0 (fun _ => true) true Try.f3.params.toList args.toList ds p := hA0
  have hsz : (DataW.weightsEach Try.prog (Try.f3.params.toList ++ Rows.diskTellsSpec.plain.varTypes Try.prog) (ds ++ gs)).all (· ≤ reachBytes) = true := hsz0
  clear hsz0
  rw [Try.params3] at hA hval hsz
  obtain ⟨v0, vs0, d0, ds0, p0, q0, hargs, rfl, rfl, h0, r0⟩ := trodAll_cons hA
  obtain ⟨v1, vs1, d1, ds1, p1, q1, rfl, rfl, rfl, h1, r1⟩ := trodAll_cons r0
  obtain ⟨v2, vs2, d2, ds2, p2, q2, rfl, rfl, rfl, h2, r2⟩ := trodAll_cons r1
  obtain ⟨v3, vs3, d3, ds3, p3, q3, rfl, rfl, rfl, h3, r3⟩ := trodAll_cons r2
  obtain ⟨rfl, rfl, rfl⟩ := trodAll_nil r3
  obtain rfl : args = #[v0, v1, v2, v3] := by cases args; simp_all
  obtain ⟨rfl, rfl⟩ := trodVars_none hV
  obtain ⟨cs0, rfl, hc0⟩ := okWide_struct Try.underlying25 (hval 0 25 v0 rfl rfl)
  have k0 := h0
  have lt0 : ∀ x ∈ p0, x.block < W.heap.size := by obtain ⟨m, hm⟩ := k0; exact DataW.trod_lt m _ _ _ hm
  obtain ⟨l0, e0, f0, A0, rfl, y0, z0⟩ := disk_of (hc0.trans cells25) h0
  have F0 : Fits l0 := fits_of y0 z0 fun n hn => by have := List.all_eq_true.1 hsz _ (DataW.weights_mem_each (j := 0) rfl rfl n hn); simpa using this
  obtain ⟨a1, rfl, rfl, rfl, w1⟩ := open_int Try.underlying3 (hval 1 3 v1 rfl rfl) h1
  have b1 := bounds_i64 w1
  obtain ⟨a2, len2, cap2, rfl⟩ := okWide_slice Try.underlying26 (hval 2 26 v2 rfl rfl)
  have k2 := h2
  have lt2 : ∀ x ∈ p2, x.block < W.heap.size := by obtain ⟨m, hm⟩ := k2; exact DataW.trod_lt m _ _ _ hm
  obtain ⟨l2, A2, D2⟩ := arg_of h2
  have s2 := arg_len hsz (j := 2) rfl rfl D2
  obtain ⟨a3, len3, cap3, rfl⟩ := okWide_slice Try.underlying27 (hval 3 27 v3 rfl rfl)
  have k3 := h3
  have lt3 : ∀ x ∈ p3, x.block < W.heap.size := by obtain ⟨m, hm⟩ := k3; exact DataW.trod_lt m _ _ _ hm
  obtain ⟨l3, A3⟩ := bools_of h3
  clear hA0 hval0
  refine (walk _ _ _ l0 a1 l2 l3 W A0 F0 b1 A2 s2 A3).mono fun e W' ⟨he, bel⟩ => ?_
  subst he
  exact ⟨_, rfl, _, _, _, [], _, [], hW', trodAll_mk1 (shut_bool Try.underlying4 _), (trodAll_cons_mk (Below.trod laidOut (by kernel_rfl) (of_decide_eq_true (by kernel_rfl)) k0 bel lt0) (trodAll_cons_mk (shut_int Try.underlying3 w1) (trodAll_cons_mk (Below.trod laidOut (by kernel_rfl) (of_decide_eq_true (by kernel_rfl)) k2 bel lt2) (trodAll_cons_mk (Below.trod laidOut (by kernel_rfl) (of_decide_eq_true (by kernel_rfl)) k3 bel lt3) trodAll_mk0)))), rfl, bel.frame _, fun h => by cases h⟩

theorem over : Rows.diskTellsRow.holds Try.pinned (OpenSpec.ofChange Rows.diskTellsSpec) :=
  OpenClaim.holds_of_wide 3 Try.f3 rfl rfl rfl rfl rfl rfl rfl ⟨rfl, rfl, rfl, rfl, rfl⟩ rfl rfl rfl rfl rfl (by kernel_rfl) Try.func3 (by kernel_rfl)
    (of_decide_eq_true (by kernel_rfl)) (by unfold Func.isWrapper; first | (rw [if_pos (by decide +kernel)]; kernel_rfl) | (rw [if_neg (by decide +kernel)]; exact ⟨rfl, rfl⟩))
    (fun os started H enc _ => lifted os started H enc)

end Go.Proofs.Ytkeaillmcfnnkaa.diskTells

namespace Go.Proofs.Ytkeaillmcfnnkaa
theorem diskTells_holds : Rows.DiskTellsSaid := diskTells.over
#print axioms diskTells_holds
end Go.Proofs.Ytkeaillmcfnnkaa
