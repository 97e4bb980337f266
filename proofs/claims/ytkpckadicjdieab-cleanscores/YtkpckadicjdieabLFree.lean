/-
  What the program's Live and Free answer, for every store and slot.
-/
import Derived.Test.YtkpckadicjdieabLLive
namespace Go.Proofs.Ytkpckadicjdieab
open Go.RowKit

def slotOf (s : St) (k : Int) : Sg := (s.1[k.toNat]?).getD (0, [])
def lL (s : St) (k : Int) : List Bk := if uE s k = 0 then lvs s (slotOf s k).1 (slotOf s k).2 else []
def fE (s : St) (k : Int) : Int := if uE s k = 0 then (if 0 < (lL s k).length then 91 else 0) else uE s k
def fS (s : St) (k : Int) : St := if fE s k = 0 then (s.1.set k.toNat (0, []), s.2.1, s.2.2.1, s.2.2.2) else s0
theorem uE_cases (s : St) (k : Int) : (uE s k = 0 ∧ Ok s ∧ ∃ (i : Nat) (p : Sg), k = i ∧ i < s.1.length ∧ s.1[i]? = some p ∧ slotOf s k = p) ∨ (uE s k ≠ 0 ∧ (uE s k = 9 ∨ uE s k = 71)) := by
  unfold uE
  cases h : okB s
  · right; simp
  · cases hu : usedB s k
    · right; simp
    · left
      obtain ⟨i, p, rfl, h1, h2, _⟩ := used_at hu
      exact ⟨by simp, ok_iff.1 h, i, p, rfl, h1, h2, by unfold slotOf; rw [Int.toNat_natCast, h2]; rfl⟩
theorem lvs_mem {s : St} {q : Int} {l : List Bk} {b : Bk} (h : b ∈ lvs s q l) : b ∈ l := by
  unfold lvs plc at h
  obtain ⟨x, hx, rfl⟩ := List.mem_map.1 h
  obtain ⟨y, hy, rfl⟩ := List.mem_map.1 (List.mem_filter.1 hx).1
  obtain ⟨y1, y2⟩ := y
  exact (List.mem_zipIdx hy).2.2 ▸ List.getElem_mem _

set_option maxRecDepth 100000 in
set_option maxHeartbeats 4000000 in
theorem liveL_any (n0 : Nat) (us : List Value) (s : St) (k : Int) (w : World) (h : stN.lies n0 w us s) :
    Calls Try.prog 29 #[.agg us.toArray, .int .i64 k] w fun e w' => (∃ v', e = .returned (.tuple #[v', .int .i64 (uE s k)]) ∧ bksN.owns w.heap.size w' [v'] (lL s k)) ∧ Below w.heap.size w w' := by
  obtain ⟨a, c, b, d, e, f, rfl, hS, hH, hO, hN, m1, m2, m3⟩ := st_viewN h
  obtain ⟨post, hpost⟩ : ∃ post : Ending → World → Prop, post = fun e w' => (∃ v', e = .returned (.tuple #[v', .int .i64 (uE s k)]) ∧ bksN.owns w.heap.size w' [v'] (lL s k)) ∧ Below w.heap.size w w' := ⟨_, rfl⟩
  have HNO : Hid (∀ r w', uE s k = r → r ≠ 0 → Below w.heap.size w w' → post (.returned (.tuple #[.slice none 0 0, .int .i64 r])) w') := fun r w' h1 h2 h3 => by
    rw [hpost]
    refine ⟨⟨_, by rw [h1], ?_⟩, h3⟩
    unfold lL
    rw [if_neg (by rw [h1]; exact h2)]
    exact Shape.list_nil bkN 29 Try.underlying29 cells29 _ _
  have HYES : Hid (∀ v' w', uE s k = 0 → bksN.owns w.heap.size w' [v'] (lL s k) → Below w.heap.size w w' → post (.returned (.tuple #[v', .int .i64 0])) w') := fun v' w' h1 h2 h3 => by
    rw [hpost]
    exact ⟨⟨v', by rw [h1], h2⟩, h3⟩
  rw [← hpost]
  clear hpost
  obtain ⟨n, hn⟩ : ∃ n, n = s.1.length := ⟨_, rfl⟩
  obtain ⟨nh, hnh⟩ : ∃ n, n = s.2.1.length := ⟨_, rfl⟩
  obtain ⟨no, hno⟩ : ∃ n, n = s.2.2.1.length := ⟨_, rfl⟩
  obtain ⟨nx, hnx⟩ : ∃ n, n = s.2.2.2 := ⟨_, rfl⟩
  rw [← hn, ← hnh, ← hno, ← hnx] at h ⊢
  obtain ⟨W, hW⟩ : ∃ W, W = w.alloc (.cells #[.slice a n c, .slice b nh d, .slice e no f, .int .i64 nx] 31) := ⟨_, rfl⟩
  have hbW : Below w.heap.size w W := by rw [hW]; exact (Below.refl _ w).alloc (Nat.le_refl _) _
  have hB1 : Box W w.heap.size 31 #[.slice a n c, .slice b nh d, .slice e no f, .int .i64 nx] := by rw [hW]; exact Box.new _ _ _
  have HC := inUse_any n0 [.slice a n c, .slice b nh d, .slice e no f, .int .i64 nx] s k W (stN.below h hbW)
  have HW : Hid (Below w.heap.size w W ∧ Box W w.heap.size 31 #[.slice a n c, .slice b nh d, .slice e no f, .int .i64 nx] ∧ stN.lies n0 w [.slice a n c, .slice b nh d, .slice e no f, .int .i64 nx] s) := ⟨hbW, hB1, h⟩
  obtain ⟨g0, g1, g2, g3, -⟩ := hB1.four
  rw [hW] at g0 g1 g2 g3
  clear h hS hH hO hN m1 m2 m3 hbW hB1 hn hnh hno hnx
  go_enter Try.func29, Try.ntmps29
  go_wp2_with fail
  rw [← hW]
  clear hW g0 g1 g2 g3
  refine HC.mono ?_
  rintro e1 w1 ⟨rfl, hb1⟩
  have HB1 : Hid (Below w.heap.size w w1) := below_any HW.out.1 hb1
  obtain ⟨q0, q1, q2, q3, -⟩ := (HW.out.2.1.below hb1 HW.out.2.1.lt).four
  clear hb1 HC
  rcases uE_cases s k with ⟨hu, hok, i, p, hki, hil, hip, hsl⟩ | ⟨hu, hv⟩
  · rw [hu]
    have HU : Hid (uE s k = 0 ∧ lL s k = lvs s p.1 p.2) := ⟨hu, by unfold lL; rw [if_pos hu, hsl]⟩
    subst hki
    have HCL := live_any n0 [.slice a n c, .slice b nh d, .slice e no f, .int .i64 nx] s i p w1 (stN.below HW.out.2.2 HB1.out) hok hip
    have HFB : Hid (FitsB (lvs s p.1 p.2)) := ⟨by have := lvs_le s p.1 p.2; have := hok.small p (List.mem_of_getElem? hip); omega, fun t ht => by
      have := may_len (hok.data p (List.mem_of_getElem? hip) t (lvs_mem ht))
      omega⟩
    clear hu hok hil hip hsl
    go_wp2_with fail
    refine HCL.mono ?_
    rintro e2 w2 ⟨⟨v2, rfl, hbx2⟩, hb2⟩
    have HCB := cblocks_any 0 v2 (lvs s p.1 p.2) w2 (hbx2.lies hb2) HFB.out
    obtain ⟨a2, c2, rfl⟩ := hbx2.shape
    have HB2 : Hid (Below w.heap.size w w2) := below_any HB1.out hb2
    clear hbx2 hb2 HCL q0 q1 q2 q3
    generalize (lvs s p.1 p.2).length = n2 at HCB
    go_wp2_with fail
    refine HCB.mono ?_
    rintro e3 w3 ⟨⟨v3, rfl, ho3⟩, hb3⟩
    have HE : Hid (post (.returned (.tuple #[v3, .int .i64 0])) w3) := HYES.out v3 w3 HU.out.1 (by rw [HU.out.2]; exact bksN.oweaken ho3 HB2.out.size) (below_any HB2.out hb3)
    clear ho3 hb3 HCB
    go_wp2
    exact HE.out
  · have HE : Hid (post (.returned (.tuple #[.slice none 0 0, .int .i64 (uE s k)])) w1) := HNO.out _ w1 rfl hu HB1.out
    generalize uE s k = r at hu hv HE
    have hri : (r == 0) = false := by simp [hu]
    clear hv
    go_wp2
    exact HE.out

set_option maxRecDepth 100000 in
set_option maxHeartbeats 8000000 in
theorem free_any (n0 : Nat) (us : List Value) (s : St) (k : Int) (w : World) (h : stN.lies n0 w us s) :
    Calls Try.prog 31 #[.agg us.toArray, .int .i64 k] w (TellsS (fE s k) (fS s k) w) := by
  obtain ⟨a, c, b, d, e, f, rfl, hS, hH, hO, hN, m1, m2, m3⟩ := st_viewN h
  obtain ⟨post, hpost⟩ : ∃ post : Ending → World → Prop, post = TellsS (fE s k) (fS s k) w := ⟨_, rfl⟩
  have HNO : Hid (∀ r w', fE s k = r → r ≠ 0 → Below w.heap.size w w' → post (.returned (.tuple #[.agg #[.slice none 0 0, .slice none 0 0, .slice none 0 0, .int .i64 0], .int .i64 r])) w') := fun k w' e1 e2 e3 => by
    rw [hpost]
    refine ⟨⟨_, by rw [e1], ?_⟩, e3⟩
    unfold fS
    rw [if_neg (by rw [e1]; exact e2)]
    exact s0_owns _ _
  have HYES : Hid (∀ us' w', fE s k = 0 → stN.owns w.heap.size w' us' (s.1.set k.toNat (0, []), s.2.1, s.2.2.1, s.2.2.2) → Below w.heap.size w w' → post (.returned (.tuple #[.agg us'.toArray, .int .i64 0])) w') := fun us' w' e1 e2 e3 => by
    rw [hpost]
    refine ⟨⟨us', by rw [e1], ?_⟩, e3⟩
    unfold fS
    rw [if_pos e1]
    exact e2
  rw [← hpost]
  clear hpost
  obtain ⟨n, hn⟩ : ∃ n, n = s.1.length := ⟨_, rfl⟩
  obtain ⟨nh, hnh⟩ : ∃ n, n = s.2.1.length := ⟨_, rfl⟩
  obtain ⟨no, hno⟩ : ∃ n, n = s.2.2.1.length := ⟨_, rfl⟩
  obtain ⟨nx, hnx⟩ : ∃ n, n = s.2.2.2 := ⟨_, rfl⟩
  rw [← hn, ← hnh, ← hno, ← hnx] at h ⊢
  obtain ⟨W, hW⟩ : ∃ W, W = (w.alloc (.cells #[.slice a n c, .slice b nh d, .slice e no f, .int .i64 nx] 31)).alloc (.cells #[.slice none 0 0, .slice none 0 0, .slice none 0 0, .int .i64 0] 31) := ⟨_, rfl⟩
  have hbW : Below w.heap.size w W := by rw [hW]; exact ((Below.refl _ w).alloc (Nat.le_refl _) _).alloc (by simp) _
  have hB1 : Box W w.heap.size 31 #[.slice a n c, .slice b nh d, .slice e no f, .int .i64 nx] := by rw [hW]; exact (Box.new _ _ _).alloc _
  have hB2 : Box W (w.heap.size + 1) 31 #[.slice none 0 0, .slice none 0 0, .slice none 0 0, .int .i64 0] := by
    rw [hW]
    have := Box.new (w.alloc (.cells #[.slice a n c, .slice b nh d, .slice e no f, .int .i64 nx] 31)) 31 #[.slice none 0 0, .slice none 0 0, .slice none 0 0, .int .i64 0]
    rwa [World.size_alloc] at this
  have HC := inUse_any n0 [.slice a n c, .slice b nh d, .slice e no f, .int .i64 nx] s k W (stN.below h hbW)
  have HW : Hid (Below w.heap.size w W ∧ W.heap.size = w.heap.size + 2 ∧ ∀ V, Below W.heap.size W V → Box V w.heap.size 31 #[.slice a n c, .slice b nh d, .slice e no f, .int .i64 nx] ∧ Box V (w.heap.size + 1) 31 #[.slice none 0 0, .slice none 0 0, .slice none 0 0, .int .i64 0]) := ⟨hbW, by rw [hW]; simp, fun V hV => ⟨hB1.below hV hB1.lt, hB2.below hV hB2.lt⟩⟩
  have HA : Hid (stN.lies n0 w [.slice a n c, .slice b nh d, .slice e no f, .int .i64 nx] s) := h
  obtain ⟨g0, g1, g2, g3, -⟩ := hB1.four
  rw [hW] at g0 g1 g2 g3
  clear h hS hH hO hN m1 m2 m3 hbW hB1 hB2 hn hnh hno hnx
  go_enter Try.func31, Try.ntmps31
  go_wp2_with fail
  rw [← hW]
  clear hW g0 g1 g2 g3
  refine HC.mono ?_
  rintro e1 w1 ⟨rfl, hb1⟩
  obtain ⟨hx1, hx3⟩ := HW.out.2.2 w1 hb1
  have HB1 : Hid (Below W.heap.size W w1) := hb1
  rcases uE_cases s k with ⟨hu, hok, i, p, hki, hil, hip, hsl⟩ | ⟨hu, hv⟩
  case inr =>
    obtain ⟨y0, y1, y2, y3, j0, j1, j2, j3⟩ := hx3.four
    have HE := HNO.out (uE s k) ((((w1.setCell ⟨w.heap.size + 1, 0, none⟩ (.slice none 0 0)).setCell ⟨w.heap.size + 1, 1, none⟩ (.slice none 0 0)).setCell ⟨w.heap.size + 1, 2, none⟩ (.slice none 0 0)).setCell ⟨w.heap.size + 1, 3, none⟩ (.int .i64 0)) (by unfold fE; rw [if_neg hu]) hu (below_set4 (below_any HW.out.1 hb1) (by omega) _ _ _ _)
    have HE : Hid _ := HE
    generalize uE s k = r at hu hv HE
    have hri : (r == 0) = false := by simp [hu]
    clear hb1 hx1 hx3 hv
    go_wp2
    refine bodyPost_ret (v := .tuple #[.agg #[.slice none 0 0, .slice none 0 0, .slice none 0 0, .int .i64 0], .int .i64 r]) (by simp [results, Try.results31, go_sem, *]) rfl HE.out
  case inl =>
    rw [hu]
    have HU : Hid (uE s k = 0 ∧ lL s k = lvs s p.1 p.2 ∧ Ok s ∧ i < s.1.length ∧ k.toNat = i) := ⟨hu, by unfold lL; rw [if_pos hu, hsl], hok, hil, by omega⟩
    have HCL := live_any n0 [.slice a n c, .slice b nh d, .slice e no f, .int .i64 nx] s i p w1 (stN.below HA.out (below_any HW.out.1 HB1.out)) hok hip
    rw [HU.out.2.2.2.2] at HYES
    subst hki
    obtain ⟨q0, q1, q2, q3, -⟩ := hx1.four
    clear hu hok hil hip hsl hx1 hx3 hb1
    go_wp2_with fail
    refine HCL.mono ?_
    rintro e2 w2 ⟨⟨v2, rfl, hbx2⟩, hb2⟩
    obtain ⟨a2, c2, rfl⟩ := hbx2.shape
    have HB2 : Hid (Below W.heap.size W w2) := HB1.out.trans (hb2.mono HB1.out.size)
    obtain ⟨n2, hn2⟩ : ∃ n2, n2 = (lvs s p.1 p.2).length := ⟨_, rfl⟩
    have HN2 : Hid (n2 = (lL s (i : Int)).length) := show _ = _ by rw [HU.out.2.1]; exact hn2
    rw [← hn2]
    have hl2 := run_len Try.underlying29 a2 n2 c2
    obtain ⟨hx1, hx3⟩ := HW.out.2.2 w2 HB2.out
    clear hbx2 hb2 HCL q0 q1 q2 q3 hn2
    by_cases h0 : 0 < n2
    · have h0i : (0 : Int) < (n2 : Int) := by omega
      obtain ⟨y0, y1, y2, y3, j0, j1, j2, j3⟩ := hx3.four
      have HE := HNO.out 91 ((((w2.setCell ⟨w.heap.size + 1, 0, none⟩ (.slice none 0 0)).setCell ⟨w.heap.size + 1, 1, none⟩ (.slice none 0 0)).setCell ⟨w.heap.size + 1, 2, none⟩ (.slice none 0 0)).setCell ⟨w.heap.size + 1, 3, none⟩ (.int .i64 0)) (by unfold fE; rw [if_pos HU.out.1, if_pos (by rw [← HN2.out]; exact h0)]) (by decide) (below_set4 (below_any HW.out.1 HB2.out) (by omega) _ _ _ _)
      have HE : Hid _ := HE
      clear hx1 hx3
      go_wp2
      refine bodyPost_ret (v := .tuple #[.agg #[.slice none 0 0, .slice none 0 0, .slice none 0 0, .int .i64 0], .int .i64 91]) (by simp [results, Try.results31, go_sem, *]) rfl HE.out
    · have h0i : ¬ (0 : Int) < (n2 : Int) := by omega
      have HFE : Hid (fE s (i : Int) = 0) := show _ = _ by unfold fE; rw [if_pos HU.out.1, if_neg (by rw [← HN2.out]; exact h0)]
      have HCC := copied_any n0 [.slice a n c, .slice b nh d, .slice e no f, .int .i64 nx] s w2 (stN.below HA.out (below_any HW.out.1 HB2.out)) HU.out.2.2.1.fits
      obtain ⟨z0, z1, z2, z3, -⟩ := hx1.four
      clear hx1 hx3
      go_wp2_with fail
      refine HCC.mono ?_
      rintro e3 w3 ⟨⟨us3, rfl, ho3⟩, hb3⟩
      replace ho3 := ho3.owns
      obtain ⟨l, hd, op, nx'⟩ := s
      obtain ⟨a1, c1, a2, c2, a3, c3, rfl, hs1, hs2, hs3, hI⟩ := st_ownN ho3
      simp only at hs1 hs2 hs3 hI ⊢
      have hbw3 : Below W.heap.size W w3 := HB2.out.trans (hb3.mono HB2.out.size)
      obtain ⟨hx1, hx3⟩ := HW.out.2.2 w3 hbw3
      obtain ⟨r0, r1, r2, r3, k0, k1, k2, k3⟩ := hx1.four
      obtain ⟨X, hX⟩ : ∃ X, X = (((w3.setCell ⟨w.heap.size, 0, none⟩ (.slice a1 l.length c1)).setCell ⟨w.heap.size, 1, none⟩ (.slice a2 hd.length c2)).setCell ⟨w.heap.size, 2, none⟩ (.slice a3 op.length c3)).setCell ⟨w.heap.size, 3, none⟩ (.int .i64 nx') := ⟨_, rfl⟩
      have hxX : Box X w.heap.size 31 #[.slice a1 l.length c1, .slice a2 hd.length c2, .slice a3 op.length c3, .int .i64 nx'] := by rw [hX]; exact (((hx1.set 0 _).set 1 _).set 2 _).set 3 _
      have hzX : Box X (w.heap.size + 1) 31 #[.slice none 0 0, .slice none 0 0, .slice none 0 0, .int .i64 0] := by rw [hX]; exact (((hx3.other (by omega)).other (by omega)).other (by omega)).other (by omega)
      have hbX : Below w.heap.size w X := by rw [hX]; exact below_set4 (below_any HW.out.1 hbw3) (Nat.le_refl _) _ _ _ _
      have hW2 := HW.out.2.1
      have hw2 : w.heap.size + 2 ≤ w2.heap.size := by have := HB2.out.size; omega
      have hsX : Same (w2.heap.size + 2) w3 X := by rw [hX]; exact .set4 (by omega)
      have hg1 := sgsN.osame hs1 hsX
      have hg2 := boolsS.osame hs2 hsX
      have hg3 := bksN.osame hs3 hsX
      obtain ⟨g, cap, hv, hgB, hgl, hix, ⟨u0, u1, cc0, cc1⟩, ff0, ff1, hst⟩ := sgs_set hg1 i HU.out.2.2.2.1
      obtain ⟨rfl, rfl⟩ : a1 = some ⟨g, 0, none⟩ ∧ c1 = cap := by simpa using hv
      obtain ⟨hY1, hYg, hcl⟩ := hst 0 (.slice none 0 0) [] ⟨by omega, by omega⟩ (Shape.list_nil bkN 29 Try.underlying29 cells29 _ _)
      obtain ⟨Y, hY⟩ : ∃ Y, Y = (X.setCell ⟨g, i * 2, none⟩ (.int .i64 0)).setCell ⟨g, i * 2 + 1, none⟩ (.slice none 0 0) := ⟨_, rfl⟩
      rw [← hY] at hY1 hYg
      have hxY := hxX.grown hYg (by simp; omega)
      have hzY := hzX.grown hYg (by simp; omega)
      have hbY : Below w.heap.size w Y := by rw [hY]; exact (hbX.setCell (p := ⟨g, i * 2, none⟩) (by show w.heap.size ≤ g; omega) _).setCell (p := ⟨g, i * 2 + 1, none⟩) (by show w.heap.size ≤ g; omega) _
      have hY2 := boolsS.ogrown hg2 hYg (hcl.sub (fun x hx => by
        have : x = 4 := List.mem_singleton.1 hx
        rw [this]; simp))
      have hY3 := bksN.ogrown hg3 hYg (hcl.sub (fun x hx => by
        have : x = 48 ∨ x = 5 := by
          rcases List.mem_cons.1 hx with h | h
          · exact .inl h
          · exact .inr (List.mem_singleton.1 h)
        rcases this with rfl | rfl <;> simp))
      have hzown : stN.owns (w.heap.size + 2) Y [.slice (some ⟨g, 0, none⟩) l.length c1, .slice a2 hd.length c2, .slice a3 op.length c3, .int .i64 nx'] (l.set i (0, []), hd, op, nx') := st_omkN (s := (l.set i (0, []), hd, op, nx')) (sgsN.oweaken hY1 (by omega)) (boolsS.oweaken hY2 (by omega)) (bksN.oweaken hY3 (by omega)) hI
      have HEND : Hid (∀ U, Same (w.heap.size + 2) Y U → Below w.heap.size w U → post (.returned (.tuple #[.agg #[.slice (some ⟨g, 0, none⟩) l.length c1, .slice a2 hd.length c2, .slice a3 op.length c3, .int .i64 nx'], .int .i64 0])) U) := fun U h1 h2 => HYES.out [_, _, _, _] U HFE.out (stN.oweaken (stN.osame hzown h1) (by omega)) h2
      have HBZ : Hid (Below w.heap.size w Y) := hbY
      obtain ⟨s0', s1', s2', s3', -⟩ := hxX.four
      obtain ⟨q0, q1, q2, q3, -⟩ := hxY.four
      obtain ⟨y0, y1, y2, y3, f0, f1, f2, f3⟩ := hzY.four
      go_upto_region 7 with fail
      rw [← hX]
      clear hX hxX hzX hbX hW2 hw2 hsX hg1 hg2 hg3 hst hcl hY1 hYg hxY hzY hbY hY2 hY3 hs1 hs2 hs3 ho3 hb3 hbw3 hx1 hx3 HCC r0 r1 r2 r3 k0 k1 k2 k3 z0 z1 z2 z3 hzown
      go_upto_region 8 with fail
      rw [← hY]
      clear hY cc0 cc1 ff0 ff1 hix s0' s1' s2' s3'
      go_wp2
      refine bodyPost_ret (v := .tuple #[.agg #[.slice (some ⟨g, 0, none⟩) l.length c1, .slice a2 hd.length c2, .slice a3 op.length c3, .int .i64 nx'], .int .i64 0]) (by simp [results, Try.results31, go_sem, *]) rfl ?_
      exact HEND.out _ (.set4 (by omega)) (below_set4 HBZ.out (by omega) _ _ _ _)

end Go.Proofs.Ytkpckadicjdieab
