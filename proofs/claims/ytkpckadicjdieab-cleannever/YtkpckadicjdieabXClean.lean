/-
  Clean, the program: for every store and record.
-/
import Derived.Test.YtkpckadicjdieabXMoved
import Derived.Test.YtkpckadicjdieabLFree
namespace Go.Proofs.Ytkpckadicjdieab
open Go.ChangeShapes Go.WideShapes Go.ChangeAt Go.RowKit
set_option linter.unusedVariables false

set_option maxRecDepth 100000 in
set_option maxHeartbeats 8000000 in
theorem clean_any (n0 : Nat) (us : List Value) (s : St) (k q : Int) (w : World) (h : stN.lies n0 w us s) :
    Calls Try.prog 10 #[.agg us.toArray, .agg #[.int .i64 k, .int .i64 q]] w (TellsS (clE s k q) (clS s k q) w) := by
  obtain ⟨a0, n0, c0, b0, m0, d0, e0, k0, f0, q0, rfl, -, -, -, -⟩ := st_flatNl h
  obtain ⟨post, hpost⟩ : ∃ post : Ending → World → Prop, post = TellsS (clE s k q) (clS s k q) w := ⟨_, rfl⟩
  have HPo : Hid (∀ us' z t w', z = clE s k q → t = clS s k q → stN.owns w.heap.size w' us' t → Below w.heap.size w w' → post (.returned (.tuple #[.agg us'.toArray, .int .i64 z])) w') := fun us' z t w' e1 e2 e3 e4 => by
    rw [hpost, e1]
    rw [e2] at e3
    exact ⟨⟨us', rfl, e3⟩, e4⟩
  rw [← hpost]
  clear hpost
  obtain ⟨W, hW⟩ : ∃ W, W = ((w.alloc (.cells #[.slice a0 n0 c0, .slice b0 m0 d0, .slice e0 k0 f0, .int .i64 q0] 31)).alloc (.cells #[.int .i64 k, .int .i64 q] 34)).alloc (.cells #[.slice none 0 0, .slice none 0 0, .slice none 0 0, .int .i64 0] 31) := ⟨_, rfl⟩
  have HB : Hid (Below w.heap.size w W) := by rw [hW]; exact (((Below.refl _ w).alloc (Nat.le_refl _) _).alloc (by simp) _).alloc (by simp; omega) _
  have HX : Hid (Box W w.heap.size 31 #[.slice a0 n0 c0, .slice b0 m0 d0, .slice e0 k0 f0, .int .i64 q0] ∧ Box W (w.heap.size + 1) 34 #[.int .i64 k, .int .i64 q] ∧ Box W (w.heap.size + 2) 31 #[.slice none 0 0, .slice none 0 0, .slice none 0 0, .int .i64 0]) := by
    rw [hW]
    refine ⟨((Box.new _ _ _).alloc _).alloc _, ?_, ?_⟩
    · have := Box.new (w.alloc (.cells #[.slice a0 n0 c0, .slice b0 m0 d0, .slice e0 k0 f0, .int .i64 q0] 31)) 34 #[.int .i64 k, .int .i64 q]
      rw [World.size_alloc] at this
      exact this.alloc _
    · have := Box.new ((w.alloc (.cells #[.slice a0 n0 c0, .slice b0 m0 d0, .slice e0 k0 f0, .int .i64 q0] 31)).alloc (.cells #[.int .i64 k, .int .i64 q] 34)) 31 #[.slice none 0 0, .slice none 0 0, .slice none 0 0, .int .i64 0]
      rwa [World.size_alloc, World.size_alloc] at this
  have HL : Hid (∀ V, Below w.heap.size w V → stN.lies 0 V [.slice a0 n0 c0, .slice b0 m0 d0, .slice e0 k0 f0, .int .i64 q0] s) := fun V hV => stN.below (stN.weaken h (Nat.zero_le _)) hV
  clear h
  obtain ⟨ue, hue⟩ : ∃ z, z = uE s k := ⟨_, rfl⟩
  have HC := liveL_any 0 [.slice a0 n0 c0, .slice b0 m0 d0, .slice e0 k0 f0, .int .i64 q0] s k W (HL.out W HB.out)
  rw [← hue] at HC
  have HUE : Hid (ue = uE s k) := hue
  clear hue
  go_enter Try.func10, Try.ntmps10
  go_upto_region 1 with fail
  rw [← hW]
  clear hW
  obtain ⟨x0, x1, x2, x3, -⟩ := HX.out.1.four
  obtain ⟨r0, r1, -⟩ := HX.out.2.1.two
  go_wp2_with fail
  clear x0 x1 x2 x3 r0 r1
  refine HC.mono ?_
  rintro e1 w1 ⟨⟨v1, rfl, ho1⟩, hb1⟩
  have HB1 : Hid (Below w.heap.size w w1 ∧ w.heap.size + 3 ≤ w1.heap.size) := ⟨below_any HB.out hb1, by have := hb1.size; have := HX.out.2.2.lt; omega⟩
  have HX1 : Hid (Box w1 w.heap.size 31 #[.slice a0 n0 c0, .slice b0 m0 d0, .slice e0 k0 f0, .int .i64 q0] ∧ Box w1 (w.heap.size + 1) 34 #[.int .i64 k, .int .i64 q] ∧ Box w1 (w.heap.size + 2) 31 #[.slice none 0 0, .slice none 0 0, .slice none 0 0, .int .i64 0]) := ⟨HX.out.1.below hb1 HX.out.1.lt, HX.out.2.1.below hb1 HX.out.2.1.lt, HX.out.2.2.below hb1 HX.out.2.2.lt⟩
  have HLV : Hid (bksN.lies 0 w1 [v1] (lL s k)) := bksN.weaken (bksN.olies ho1) (Nat.zero_le _)
  clear HC ho1 hb1
  by_cases hu : ue = 0
  case neg =>
    have hub : (ue == 0) = false := by simpa using hu
    have hun : clE s k q = ue := by unfold clE; rw [if_neg (by rw [← HUE.out]; exact hu)]; exact HUE.out.symm
    have hR := HX1.out.2.2
    obtain ⟨y0, y1, y2, y3, j0, j1, j2, j3⟩ := hR.four
    have HE : Hid (post (.returned (.tuple #[.agg #[.slice none 0 0, .slice none 0 0, .slice none 0 0, .int .i64 0], .int .i64 ue])) ((((w1.setCell ⟨(w.heap.size + 2), 0, none⟩ (.slice none 0 0)).setCell ⟨(w.heap.size + 2), 1, none⟩ (.slice none 0 0)).setCell ⟨(w.heap.size + 2), 2, none⟩ (.slice none 0 0)).setCell ⟨(w.heap.size + 2), 3, none⟩ (.int .i64 0))) := HPo.out [.slice none 0 0, .slice none 0 0, .slice none 0 0, .int .i64 0] ue s0 _ (hun.symm) ((clS_no (by rw [hun]; exact hu)).symm) (s0_owns _ _) (below_set4 HB1.out.1 (by omega) _ _ _ _)
    clear hR
    go_wp2
    refine bodyPost_ret (v := .tuple #[.agg #[.slice none 0 0, .slice none 0 0, .slice none 0 0, .int .i64 0], .int .i64 ue]) (by simp [results, Try.results10, go_sem, *]) rfl HE.out
  subst hu
  obtain ⟨hok, i, p, hki, hil, hp, hsl, hfr⟩ := uE_zero HUE.out.symm
  subst hki
  obtain ⟨gb, go', ga, gc, hix, hc0, hc1, hSG, _⟩ := sgs_atN (st_seg (HL.out w1 HB1.out.1)).1 i p hp
  have HP : Hid (Ok s ∧ s.1[i]? = some p ∧ slotOf s (i : Int) = p) := ⟨hok, hp, hsl⟩
  have HS : Hid (∀ V, Below w1.heap.size w1 V → V.cell? ⟨w.heap.size, 0, none⟩ = some (.slice a0 n0 c0) ∧ V.cell? ⟨w.heap.size + 1, 0, none⟩ = some (.int .i64 i) ∧ V.cell? ⟨w.heap.size + 1, 1, none⟩ = some (.int .i64 q) ∧ V.cell? ⟨gb, go', none⟩ = some (.int .i64 p.1)) := fun V hV => ⟨((HX1.out.1.below hV HX1.out.1.lt).four).1, ((HX1.out.2.1.below hV HX1.out.2.1.lt).two).1, ((HX1.out.2.1.below hV HX1.out.2.1.lt).two).2.1, cell_below hV hc0⟩
  clear hok hil hp hsl hfr hc0 hc1 hSG
  obtain ⟨pq, hpq⟩ : ∃ z, z = p.1 := ⟨_, rfl⟩
  rw [← hpq] at HS
  have HPQ : Hid (pq = p.1) := hpq
  clear hpq
  go_upto_region 4 with fail
  refine AnyBut.begin (fun V => V.cell? ⟨w.heap.size, 0, none⟩ = some (.slice a0 n0 c0) ∧ V.cell? ⟨w.heap.size + 1, 0, none⟩ = some (.int .i64 i) ∧ V.cell? ⟨w.heap.size + 1, 1, none⟩ = some (.int .i64 q) ∧ V.cell? ⟨gb, go', none⟩ = some (.int .i64 pq)) 1000 (by kernel_rfl) ?_
  have hSS := HS.out w1.drew (Below.refl _ w1).drew
  have HZ : Hid (∃ z, z = w1.drew) := ⟨_, rfl⟩
  refine tx 0 19 hSS ?_
  simp only [ua, ub, uc, ud]
  refine tx 1 20 hSS ?_
  simp only [ua, ub, uc, ud]
  refine tx 2 21 hSS ?_
  simp only [ua, ub, uc, ud]
  refine tx 3 22 hSS ?_
  simp only [ua, ub, uc, ud]
  refine tx 4 23 hSS ?_
  simp only [ua, ub, uc, ud]
  refine tx 5 24 hSS ?_
  simp only [ua, ub, uc, ud]
  refine tx 6 25 hSS ?_
  simp only [ua, ub, uc, ud]
  refine tx 7 26 hSS ?_
  simp only [ua, ub, uc, ud]
  refine tx 8 27 hSS ?_
  simp only [ua, ub, uc, ud]
  obtain ⟨D, hD⟩ : ∃ D, D = w1.drew := ⟨_, rfl⟩
  have hbD : Below w1.heap.size w1 D := by rw [hD]; exact (Below.refl _ w1).drew
  have HBD : Hid (Below w.heap.size w D ∧ w.heap.size + 3 ≤ D.heap.size) := ⟨below_any HB1.out.1 hbD, by have := hbD.size; have := HB1.out.2; omega⟩
  have HXD : Hid (Box D w.heap.size 31 #[.slice a0 n0 c0, .slice b0 m0 d0, .slice e0 k0 f0, .int .i64 q0] ∧ Box D (w.heap.size + 1) 34 #[.int .i64 (i : Int), .int .i64 q] ∧ Box D (w.heap.size + 2) 31 #[.slice none 0 0, .slice none 0 0, .slice none 0 0, .int .i64 0]) := ⟨HX1.out.1.below hbD HX1.out.1.lt, HX1.out.2.1.below hbD HX1.out.2.1.lt, HX1.out.2.2.below hbD HX1.out.2.2.lt⟩
  have HLD : Hid (bksN.lies 0 D [v1] (lL s (i : Int))) := bksN.below HLV.out hbD
  rw [← hD] at hSS ⊢
  clear hD hbD HS HZ HX1 HB1 HLV
  by_cases hpe : pq = q
  case neg =>
    have hpb : (pq == q) = false := by simpa using hpe
    have hpn : (pq != q) = true := by simpa using hpe
    refine tx 9 28 hSS ?_
    simp only [ua, ub, uc, ud]
    refine AnyBut.done (by kernel_rfl) ?_
    clear hSS hix
    have hun : clE s (i : Int) q = 81 := by unfold clE; rw [if_pos HUE.out.symm, HP.out.2.2, if_neg (by rw [← HPQ.out]; exact hpe)]
    have hR := HXD.out.2.2
    obtain ⟨y0, y1, y2, y3, j0, j1, j2, j3⟩ := hR.four
    have HE : Hid (post (.returned (.tuple #[.agg #[.slice none 0 0, .slice none 0 0, .slice none 0 0, .int .i64 0], .int .i64 81])) ((((D.setCell ⟨(w.heap.size + 2), 0, none⟩ (.slice none 0 0)).setCell ⟨(w.heap.size + 2), 1, none⟩ (.slice none 0 0)).setCell ⟨(w.heap.size + 2), 2, none⟩ (.slice none 0 0)).setCell ⟨(w.heap.size + 2), 3, none⟩ (.int .i64 0))) := HPo.out [.slice none 0 0, .slice none 0 0, .slice none 0 0, .int .i64 0] 81 s0 _ (hun.symm) ((clS_no (by rw [hun]; decide)).symm) (s0_owns _ _) (below_set4 HBD.out.1 (by omega) _ _ _ _)
    clear hR
    go_wp2
    refine bodyPost_ret (v := .tuple #[.agg #[.slice none 0 0, .slice none 0 0, .slice none 0 0, .int .i64 0], .int .i64 81]) (by simp [results, Try.results10, go_sem, *]) rfl HE.out
  subst hpe
  have hpn : (pq != pq) = false := by simp
  refine tx 9 28 hSS ?_
  simp only [ua, ub, uc, ud]
  refine AnyBut.done (by kernel_rfl) ?_
  clear hSS hix hpn
  obtain ⟨me, hme⟩ : ∃ z, z = movE (lL s (i : Int)) s := ⟨_, rfl⟩
  have HC := moved_any 0 0 [.slice a0 n0 c0, .slice b0 m0 d0, .slice e0 k0 f0, .int .i64 q0] s v1 (lL s (i : Int)) D (HL.out D HBD.out.1) HLD.out
  rw [← hme] at HC
  have HCE : Hid (me = movE (lL s (i : Int)) s ∧ clE s (i : Int) pq = me) := ⟨hme, by unfold clE; rw [if_pos HUE.out.symm, HP.out.2.2, if_pos HPQ.out.symm]; exact hme.symm⟩
  obtain ⟨x0, x1, x2, x3, -⟩ := HXD.out.1.four
  clear hme
  go_wp2_with fail
  clear x0 x1 x2 x3
  refine HC.mono ?_
  rintro e8 w8 ⟨⟨us8, rfl, hsl8⟩, hb8⟩
  have hl8 : ∀ V, Below w.heap.size w V → (∀ u1 u2 u3 u4, V = ((((w8.setCell ⟨w.heap.size, 0, none⟩ u1).setCell ⟨w.heap.size, 1, none⟩ u2).setCell ⟨w.heap.size, 2, none⟩ u3).setCell ⟨w.heap.size, 3, none⟩ u4) → stN.lies 0 V us8 (movS (lL s (i : Int)) s)) := fun V hV u1 u2 u3 u4 e => by
    rcases hsl8 with ⟨e1, e2⟩ | ho
    · rw [e1, e2]; exact HL.out V hV
    · rw [e]; exact stN.weaken (stN.olies (own_set4 stN (by decide) ho (HXD.out.1.below hb8 HXD.out.1.lt) _ _ _ _)) (Nat.zero_le _)
  obtain ⟨a8, n8, c8, b8, m8, d8, e8, k8, f8, q8, hus8⟩ : ∃ a n1 c b n2 d e n3 f q, us8 = [.slice a n1 c, .slice b n2 d, .slice e n3 f, .int .i64 q] := by
    rcases hsl8 with ⟨e1, _⟩ | ho
    · exact ⟨_, _, _, _, _, _, _, _, _, _, e1⟩
    · exact st_fl ho
  subst hus8
  have hY1 := HXD.out.1.below hb8 HXD.out.1.lt
  have hY2 := HXD.out.2.1.below hb8 HXD.out.2.1.lt
  have hY3 := HXD.out.2.2.below hb8 HXD.out.2.2.lt
  obtain ⟨z0, z1, z2, z3, j0, j1, j2, j3⟩ := hY1.four
  obtain ⟨X, hX⟩ : ∃ X, X = (((w8.setCell ⟨w.heap.size, 0, none⟩ (.slice a8 n8 c8)).setCell ⟨w.heap.size, 1, none⟩ (.slice b8 m8 d8)).setCell ⟨w.heap.size, 2, none⟩ (.slice e8 k8 f8)).setCell ⟨w.heap.size, 3, none⟩ (.int .i64 q8) := ⟨_, rfl⟩
  have hbX : Below w.heap.size w X := by rw [hX]; exact below_set4 (below_any HBD.out.1 hb8) (Nat.le_refl _) _ _ _ _
  have HBX : Hid (Below w.heap.size w X) := hbX
  have HXX : Hid (Box X w.heap.size 31 #[.slice a8 n8 c8, .slice b8 m8 d8, .slice e8 k8 f8, .int .i64 q8] ∧ Box X (w.heap.size + 1) 34 #[.int .i64 (i : Int), .int .i64 pq] ∧ Box X (w.heap.size + 2) 31 #[.slice none 0 0, .slice none 0 0, .slice none 0 0, .int .i64 0]) := by
    rw [hX]
    exact ⟨(((hY1.set 0 _).set 1 _).set 2 _).set 3 _, (((hY2.other (by omega)).other (by omega)).other (by omega)).other (by omega), (((hY3.other (by omega)).other (by omega)).other (by omega)).other (by omega)⟩
  have HLX : Hid (stN.lies 0 X [.slice a8 n8 c8, .slice b8 m8 d8, .slice e8 k8 f8, .int .i64 q8] (movS (lL s (i : Int)) s)) := hl8 X hbX _ _ _ _ hX
  go_upto_region 7 with fail
  rw [← hX]
  clear hX HC hsl8 hb8 hl8 hbX hY1 hY2 hY3 z0 z1 z2 z3 j0 j1 j2 j3
  by_cases hm : me = 0
  case neg =>
    have hmb : (me == 0) = false := by simpa using hm
    have hR := HXX.out.2.2
    obtain ⟨y0, y1, y2, y3, j0, j1, j2, j3⟩ := hR.four
    have HE : Hid (post (.returned (.tuple #[.agg #[.slice none 0 0, .slice none 0 0, .slice none 0 0, .int .i64 0], .int .i64 me])) ((((X.setCell ⟨(w.heap.size + 2), 0, none⟩ (.slice none 0 0)).setCell ⟨(w.heap.size + 2), 1, none⟩ (.slice none 0 0)).setCell ⟨(w.heap.size + 2), 2, none⟩ (.slice none 0 0)).setCell ⟨(w.heap.size + 2), 3, none⟩ (.int .i64 0))) := HPo.out [.slice none 0 0, .slice none 0 0, .slice none 0 0, .int .i64 0] me s0 _ (HCE.out.2.symm) ((clS_no (by rw [HCE.out.2]; exact hm)).symm) (s0_owns _ _) (below_set4 HBX.out (by omega) _ _ _ _)
    clear hR
    go_wp2
    refine bodyPost_ret (v := .tuple #[.agg #[.slice none 0 0, .slice none 0 0, .slice none 0 0, .int .i64 0], .int .i64 me]) (by simp [results, Try.results10, go_sem, *]) rfl HE.out
  subst hm
  have hcf := cl_free HCE.out.2
  have HC := free_any 0 [.slice a8 n8 c8, .slice b8 m8 d8, .slice e8 k8 f8, .int .i64 q8] (movS (lL s (i : Int)) s) i X HLX.out
  rw [hcf.1, hcf.2] at HC
  obtain ⟨x0, x1, x2, x3, -⟩ := HXX.out.1.four
  obtain ⟨r0, r1, -⟩ := HXX.out.2.1.two
  clear hcf
  go_wp2_with fail
  clear x0 x1 x2 x3 r0 r1
  refine HC.mono ?_
  rintro e7 w7 ⟨⟨us7, rfl, ho7⟩, hb7⟩
  obtain ⟨a7, n7, c7, b7, m7, d7, e7, k7, f7, q7, rfl⟩ := st_fl ho7
  have hR := HXX.out.2.2.below hb7 HXX.out.2.2.lt
  obtain ⟨y0, y1, y2, y3, j0, j1, j2, j3⟩ := hR.four
  have HE : Hid (post (.returned (.tuple #[.agg #[.slice a7 n7 c7, .slice b7 m7 d7, .slice e7 k7 f7, .int .i64 q7], .int .i64 0])) ((((w7.setCell ⟨(w.heap.size + 2), 0, none⟩ (.slice a7 n7 c7)).setCell ⟨(w.heap.size + 2), 1, none⟩ (.slice b7 m7 d7)).setCell ⟨(w.heap.size + 2), 2, none⟩ (.slice e7 k7 f7)).setCell ⟨(w.heap.size + 2), 3, none⟩ (.int .i64 q7))) := HPo.out [.slice a7 n7 c7, .slice b7 m7 d7, .slice e7 k7 f7, .int .i64 q7] 0 (clS s (i : Int) pq) _ HCE.out.2.symm rfl (own_set4 stN (by decide) (stN.oweaken ho7 HBX.out.size) hR _ _ _ _) (below_set4 (below_any HBX.out hb7) (by omega) _ _ _ _)
  clear HC ho7 hb7 hR
  go_wp2
  refine bodyPost_ret (v := .tuple #[.agg #[.slice a7 n7 c7, .slice b7 m7 d7, .slice e7 k7 f7, .int .i64 q7], .int .i64 0]) (by simp [results, Try.results10, go_sem, *]) rfl HE.out

end Go.Proofs.Ytkpckadicjdieab
