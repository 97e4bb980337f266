/-
  WireTells, proved: for every record of the document and every octets (as great as the form reads them): the call returns true, and changes nothing that was in memory; the one listed variable (the handle of the type of errors) starts as the program's text lays it, which the card ties.
-/
import Derived.Test.YtfpllfjdgpcmdaaDoorOf
import Derived.Test.YtfpllfjdgpcmdaaDoorAlive
import Derived.Test.YtfpllfjdgpcmdaaDoorBackMath
import Derived.Test.YtfpllfjdgpcmdaaDoorFits
import Derived.Test.YtfpllfjdgpcmdaaDoorCards
import Derived.Test.YtfpllfjdgpcmdaaDoorTie
import Derived.Test.YtfpllfjdgpcmdaaDoorRefEnc2
import Derived.Test.YtfpllfjdgpcmdaaDoorRefDec3
import Derived.Deep.DeepHandedRow
namespace Go.Proofs.YtfpllfjdgpcmdaaDoor.wireTells
open Go.ChangeShapes Go.WideShapes Go.ChangeAt Go.RowKit
set_option linter.unusedVariables false

/-- What stays while the record and the octets are copied: the record's variable. -/
def Gt (w : World) (k : Int) (x y : Value) (V : World) : Prop := Below w.heap.size w V ∧ Box V w.heap.size 25 #[.int .i64 k, x, y]
theorem Gt.drew {w : World} {k : Int} {x y : Value} {V : World} (h : Gt w k x y V) : Gt w k x y V.drew := ⟨h.1.drew, h.2.drew⟩
theorem Gt.below {w : World} {k : Int} {x y : Value} {V V' : World} (h : Gt w k x y V) (hb : Below V.heap.size V V') : Gt w k x y V' := ⟨below_any h.1 hb, h.2.below hb h.2.lt⟩

attribute [local go_sem ↓] Go.wp_at_zero Go.wp_at_succ

set_option maxRecDepth 100000 in
set_option maxHeartbeats 8000000 in
theorem walk (us : List Value) (r : Rc) (v : Value) (l : List Int) (w : World) (h : recD.lies 0 w us r) (hf : FitsR r) (hA : Arg 0 w v l) (hs : l.length ≤ 140737488351232) (hg : Glob w) :
    Calls Tryd.prog 3 #[.agg us.toArray, v] w fun e w' => e = .returned (.bool true) ∧ Below w.heap.size w w' := by
  obtain ⟨a, c, b2, d, rfl, _⟩ := rec_view h
  have HR0 : Hid (recF.lies 0 w [.int .i64 r.1, .slice a r.2.1.length c, .slice b2 r.2.2.length d] r ∧ FitsR r) := ⟨h, hf⟩
  have HL0 : Hid (Arg 0 w v l ∧ l.length ≤ 140737488351232 ∧ Glob w ∧ Oc l) := ⟨hA, hs, hg, hA.oct⟩
  obtain ⟨va, vc, rfl, _⟩ := hA.shape
  obtain ⟨n, hn⟩ : ∃ n, n = r.2.1.length := ⟨_, rfl⟩
  obtain ⟨m, hm⟩ : ∃ n, n = r.2.2.length := ⟨_, rfl⟩
  obtain ⟨k, hkk⟩ : ∃ k, k = r.1 := ⟨_, rfl⟩
  obtain ⟨ll, hll⟩ : ∃ n, n = l.length := ⟨_, rfl⟩
  rw [← hn, ← hm, ← hkk] at HR0 ⊢
  rw [← hll] at HL0 ⊢
  have HLL : Hid (ll = l.length ∧ n = r.2.1.length ∧ m = r.2.2.length ∧ k = r.1) := ⟨hll, hn, hm, hkk⟩
  have HR : Hid (∀ w', Below w.heap.size w w' → recF.lies 0 w' [.int .i64 k, .slice a n c, .slice b2 m d] r) := fun w' hb => recF.keep HR0.out.1 (.of_below hb)
  have HL : Hid (∀ w', Below w.heap.size w w' → Arg 0 w' (.slice va ll vc) l) := fun w' hb => HL0.out.1.below hb
  have HGL : Hid (∀ w', Below w.heap.size w w' → Glob w') := fun w' hb => HL0.out.2.2.1.below hb HL0.out.2.2.1.lt
  obtain ⟨W, hW⟩ : ∃ W, W = w.alloc (.cells #[.int .i64 k, .slice a n c, .slice b2 m d] 25) := ⟨_, rfl⟩
  have hG : Gt w k (.slice a n c) (.slice b2 m d) W := by
    rw [hW]
    exact ⟨(Below.refl _ w).alloc (Nat.le_refl _) _, Box.new w 25 _⟩
  have HA : Hid (∀ V, Gt w k (.slice a n c) (.slice b2 m d) V → Calls Tryd.prog 9 #[.agg #[.int .i64 k, .slice a n c, .slice b2 m d]] V fun e w' => ∃ ax cx ay cy, e = .returned (.agg #[.int .i64 k, .slice ax n cx, .slice ay m cy]) ∧ Gt w k (.slice a n c) (.slice b2 m d) w' ∧ Hid (Below V.heap.size V w' ∧ ∀ w2, Below w'.heap.size w' w2 → recF.lies 0 w2 [.int .i64 k, .slice ax n cx, .slice ay m cy] r)) := fun V hV =>
    (of_any 0 [.int .i64 k, .slice a n c, .slice b2 m d] r V (HR.out _ hV.1) HR0.out.2).mono fun e w' h => by
      obtain ⟨⟨us', he, ho⟩, hb⟩ := h
      obtain ⟨ax, cx, ay, cy, rfl⟩ := rec_oview ho
      rw [← hn, ← hm, ← hkk] at he ho
      exact ⟨ax, cx, ay, cy, he, hV.below hb, hb, fun w2 h2 => recF.keep (recF.olies (recF.oweaken ho (Nat.zero_le _))) (.of_below h2)⟩
  have HB : Hid (∀ V, Gt w k (.slice a n c) (.slice b2 m d) V → Calls Tryd.prog 10 #[.slice va ll vc] V fun e w' => ∃ ao co, e = .returned (.slice ao ll co) ∧ Gt w k (.slice a n c) (.slice b2 m d) w' ∧ Hid (Below V.heap.size V w' ∧ ∀ w2, Below w'.heap.size w' w2 → Arg 0 w2 (.slice ao ll co) l)) := fun V hV =>
    (copy_any 0 (.slice va ll vc) l V (HL.out _ hV.1) (by have := HL0.out.2.1; omega)).mono fun e w' h => by
      obtain ⟨⟨v', he, ho⟩, hb⟩ := h
      obtain ⟨ao, co, rfl⟩ := ho.shape
      rw [← hll] at he ho
      exact ⟨ao, co, he, hV.below hb, hb, fun w2 h2 => (ho.arg.weaken (Nat.zero_le _)).below h2⟩
  obtain ⟨p0, p1, p2, _⟩ := hG.2.three
  clear h hf hA hs hg hll hn hm hkk
  go_enter Tryd.func3, Tryd.ntmps3
  go_wp2_with fail
  rw [← hW]
  clear hW
  refine (HA.out _ hG).mono ?_
  rintro e w1 ⟨ax, cx, ay, cy, rfl, hG1, H1⟩
  obtain ⟨q0, q1, q2, _⟩ := hG1.2.three
  clear p0 p1 p2 hG
  go_wp2_with fail
  refine (HB.out _ hG1).mono ?_
  rintro e w2 ⟨ao, co, rfl, hG2, H2⟩
  obtain ⟨W3, hW3⟩ : ∃ W3, W3 = w2.alloc (.cells #[.int .i64 k, .slice ax n cx, .slice ay m cy] 27) := ⟨_, rfl⟩
  have hb3 : Below w2.heap.size w2 W3 := by rw [hW3]; exact (Below.refl _ w2).alloc (Nat.le_refl _) _
  have hB3 : Box W3 w2.heap.size 27 #[.int .i64 k, .slice ax n cx, .slice ay m cy] := by rw [hW3]; exact Box.new w2 27 _
  obtain ⟨X, hX⟩ : ∃ X, X = w2.heap.size := ⟨_, rfl⟩
  rw [← hX] at hB3
  have hG3 : Gt w k (.slice a n c) (.slice b2 m d) W3 := hG2.below hb3
  have HS : Hid (∀ V, Below W3.heap.size W3 V → Below w.heap.size w V ∧ Box V w.heap.size 25 #[.int .i64 k, .slice a n c, .slice b2 m d] ∧ Box V X 27 #[.int .i64 k, .slice ax n cx, .slice ay m cy] ∧ recF.lies 0 V [.int .i64 k, .slice ax n cx, .slice ay m cy] r ∧ Arg 0 V (.slice ao ll co) l ∧ recF.lies 0 V [.int .i64 k, .slice a n c, .slice b2 m d] r ∧ Arg 0 V (.slice va ll vc) l ∧ Glob V) := fun V hV => by
    have h0 := below_any hG3.1 hV
    exact ⟨h0, hG3.2.below hV hG3.2.lt, hB3.below hV hB3.lt, H1.out.2 V (below_any H2.out.1 (below_any hb3 hV)), H2.out.2 V (below_any hb3 hV), HR.out V h0, HL.out V h0, HGL.out V h0⟩
  have HS3 := HS.out W3 (Below.refl _ _)
  have HE := enc_any _ _ r W3 HS3.2.2.2.1
  obtain ⟨s0, s1, s2, _⟩ := HS3.2.2.1.three
  rw [hW3] at s0 s1 s2
  clear hb3 hB3 hG1 hG2 hG3 H1 H2 HA HB HR HL HGL HR0 q0 q1 q2 HS3
  rw [hX] at s0 s1 s2
  have hl0 : ll ≤ 140737488351232 := HL0.out.2.1
  go_wp2_with fail
  rw [← hW3]
  clear hW3 s0 s1 s2
  rw [← hX]
  clear hX
  refine HE.mono ?_
  rintro e w4 ⟨⟨pa, pc, rfl, hop⟩, hb4⟩
  have HS4 := HS.out w4 hb4
  have HF := renc_any _ _ r w4 HS4.2.2.2.2.2.1
  obtain ⟨s0, s1, s2, _⟩ := HS4.2.1.three
  have HP : Hid (∀ V, Below w4.heap.size w4 V → Arg 0 V (.slice pa (encO r).length pc) (encO r)) := fun V hV => (hop.arg.weaken (Nat.zero_le _)).below hV
  have HB4 : Hid (Below W3.heap.size W3 w4) := hb4
  obtain ⟨el, hel⟩ : ∃ n, n = (encO r).length := ⟨_, rfl⟩
  obtain ⟨ce, hce⟩ : ∃ n, n = chkR r := ⟨_, rfl⟩
  rw [← hce] at HF ⊢
  have HCE : Hid (ce = chkR r) := hce
  rw [← hel] at HP HF ⊢
  clear hop hb4 HS4 HE hel hce
  go_wp2_with fail
  clear s0 s1 s2
  refine HF.mono ?_
  rintro e w5 ⟨⟨qa, qc, rfl, hoq⟩, hb5⟩
  have HB5 : Hid (Below W3.heap.size W3 w5) := below_any HB4.out hb5
  have HQ : Hid ((∀ V, Below w5.heap.size w5 V → Arg 0 V (.slice pa el pc) (encO r)) ∧ ∀ V, Below w5.heap.size w5 V → Arg 0 V (.slice qa el qc) (encO r)) := ⟨fun V hV => HP.out V (below_any hb5 hV), fun V hV => (hoq.arg.weaken (Nat.zero_le _)).below hV⟩
  have HS5 := HS.out w5 HB5.out
  have HD := dec_any _ _ l w5 HS5.2.2.2.2.1 (by have := HLL.out.1; omega) HS5.2.2.2.2.2.2.2
  clear hoq hb5 HS5 HF HP HB4
  go_wp2_with fail
  refine HD.mono ?_
  rintro e w6 ⟨⟨us6, rfl, ho6⟩, hb6⟩
  obtain ⟨ax6, cx6, ay6, cy6, rfl⟩ := rec_oview ho6
  obtain ⟨k8, hk8⟩ : ∃ y, y = (decV l).1 := ⟨_, rfl⟩
  obtain ⟨n8, hn8⟩ : ∃ y, y = (decV l).2.1.length := ⟨_, rfl⟩
  obtain ⟨m8, hm8⟩ : ∃ y, y = (decV l).2.2.length := ⟨_, rfl⟩
  obtain ⟨de, hde⟩ : ∃ y, y = decE l := ⟨_, rfl⟩
  rw [← hk8, ← hn8, ← hm8] at ho6 ⊢
  rw [← hde]
  have HDV : Hid (k8 = (decV l).1 ∧ n8 = (decV l).2.1.length ∧ m8 = (decV l).2.2.length ∧ de = decE l) := ⟨hk8, hn8, hm8, hde⟩
  obtain ⟨W7, hW7⟩ : ∃ W7, W7 = w6.alloc (.cells #[.int .i64 k8, .slice ax6 n8 cx6, .slice ay6 m8 cy6] 27) := ⟨_, rfl⟩
  have hb7 : Below w6.heap.size w6 W7 := by rw [hW7]; exact (Below.refl _ w6).alloc (Nat.le_refl _) _
  have hB7 : Box W7 w6.heap.size 27 #[.int .i64 k8, .slice ax6 n8 cx6, .slice ay6 m8 cy6] := by rw [hW7]; exact Box.new w6 27 _
  obtain ⟨U, hU⟩ : ∃ X, X = w6.heap.size := ⟨_, rfl⟩
  rw [← hU] at hB7
  have HB7 : Hid (Below W3.heap.size W3 W7 ∧ Below w5.heap.size w5 W7) := ⟨below_any (below_any HB5.out hb6) hb7, below_any hb6 hb7⟩
  have HU : Hid (∀ V, Below W7.heap.size W7 V → Box V U 27 #[.int .i64 k8, .slice ax6 n8 cx6, .slice ay6 m8 cy6] ∧ recF.lies 0 V [.int .i64 k8, .slice ax6 n8 cx6, .slice ay6 m8 cy6] (decV l)) := fun V hV =>
    ⟨hB7.below hV hB7.lt, recF.keep (recF.olies (recF.oweaken ho6 (Nat.zero_le _))) (.of_below (below_any hb7 hV))⟩
  have HS7 := HS.out W7 HB7.out.1
  have HG := rdec_any _ _ l W7 HS7.2.2.2.2.2.2.1 (by have := HLL.out.1; omega)
  clear ho6 hb6 hb7 hB7 HS7 HD HB5 hk8 hn8 hm8 hde
  go_wp2_with fail
  rw [← hW7]
  clear hW7
  rw [← hU]
  clear hU
  refine HG.mono ?_
  rintro e w8 ⟨⟨us8, rfl, ho8⟩, hb8⟩
  obtain ⟨ax8, cx8, ay8, cy8, rfl⟩ := rec_oview ho8
  rw [← HDV.out.1, ← HDV.out.2.1, ← HDV.out.2.2.1] at ho8 ⊢
  rw [← HDV.out.2.2.2]
  obtain ⟨W9, hW9⟩ : ∃ W9, W9 = w8.alloc (.cells #[.int .i64 k8, .slice ax8 n8 cx8, .slice ay8 m8 cy8] 25) := ⟨_, rfl⟩
  have hb9 : Below w8.heap.size w8 W9 := by rw [hW9]; exact (Below.refl _ w8).alloc (Nat.le_refl _) _
  have hB9 : Box W9 w8.heap.size 25 #[.int .i64 k8, .slice ax8 n8 cx8, .slice ay8 m8 cy8] := by rw [hW9]; exact Box.new w8 25 _
  obtain ⟨Y, hY⟩ : ∃ X, X = w8.heap.size := ⟨_, rfl⟩
  rw [← hY] at hB9
  have hb79 := below_any hb8 hb9
  have HV : Hid (∀ V, Below W9.heap.size W9 V → Below W3.heap.size W3 V ∧ Box V U 27 #[.int .i64 k8, .slice ax6 n8 cx6, .slice ay6 m8 cy6] ∧ recF.lies 0 V [.int .i64 k8, .slice ax6 n8 cx6, .slice ay6 m8 cy6] (decV l) ∧ Box V Y 25 #[.int .i64 k8, .slice ax8 n8 cx8, .slice ay8 m8 cy8] ∧ recF.lies 0 V [.int .i64 k8, .slice ax8 n8 cx8, .slice ay8 m8 cy8] (decV l)) := fun V hV => by
    have h0 := below_any hb79 hV
    exact ⟨below_any HB7.out.1 h0, (HU.out V h0).1, (HU.out V h0).2, hB9.below hV hB9.lt, recF.keep (recF.olies (recF.oweaken ho8 (Nat.zero_le _))) (.of_below (below_any hb9 hV))⟩
  have hb59 := below_any HB7.out.2 hb79
  have HC := same_any _ _ _ _ (encO r) (encO r) W9 (HQ.out.1 _ hb59) (HQ.out.2 _ hb59)
  rw [show decide (encO r = encO r) = true by simp] at HC
  clear ho8 hb8 hb9 hB9 hb79 hb59 HG HU HB7 HQ HDV
  go_wp2_with fail
  rw [← hW9]
  clear hW9
  rw [← hY]
  clear hY
  refine HC.mono ?_
  rintro e w10 ⟨rfl, q, hq⟩
  have hb10 : Below W9.heap.size W9 w10 := by rw [hq]; exact below_drewN (Below.refl _ _) q
  have hV10 := HV.out w10 hb10
  have HT := sameRec_true _ _ _ _ (decV l) w10 hV10.2.2.1 hV10.2.2.2.2
  obtain ⟨u0, u1, u2, _⟩ := hV10.2.1.three
  obtain ⟨y0, y1, y2, _⟩ := hV10.2.2.2.1.three
  have HB10 : Hid (Below W9.heap.size W9 w10) := hb10
  clear hq hb10 hV10 HC
  go_wp2_with (go_at_call 16; refine (num_any _ _).mono ?_; rintro e w11 ⟨rfl, rfl⟩)
  clear u0 u1 u2 y0 y1 y2
  refine HT.mono ?_
  rintro e w12 ⟨rfl, hb12⟩
  have HB12 : Hid (Below W3.heap.size W3 w12) := (HV.out _ (below_any HB10.out hb12)).1
  have hb012 : Below W3.heap.size W3 w12 := HB12.out
  have HK : Hid (∀ V, Below W3.heap.size W3 V → Calls Tryd.prog 18 #[.agg #[.int .i64 k, .slice ax n cx, .slice ay m cy]] V fun e w' => e = .returned (.int .i64 ce) ∧ Below W3.heap.size W3 w') := fun V hV =>
    (check_any _ _ r V (HS.out V hV).2.2.2.1).mono fun e w' ⟨h1, h2⟩ => ⟨by rw [h1, HCE.out], below_any hV h2⟩
  have HM : Hid (∀ V, Below W3.heap.size W3 V → Calls Tryd.prog 19 #[.agg #[.int .i64 k, .slice a n c, .slice b2 m d]] V fun e w' => e = .returned (.int .i64 ce) ∧ Below W3.heap.size W3 w') := fun V hV =>
    (rcheck_any _ _ r V (HS.out V hV).2.2.2.2.2.1).mono fun e w' ⟨h1, h2⟩ => ⟨by rw [h1, HCE.out], below_any hV h2⟩
  have HT2 : Hid (∀ V, Below W3.heap.size W3 V → Calls Tryd.prog 17 #[.agg #[.int .i64 k, .slice ax n cx, .slice ay m cy], .agg #[.int .i64 k, .slice a n c, .slice b2 m d]] V fun e w' => e = .returned (.bool true) ∧ Below W3.heap.size W3 w') := fun V hV =>
    (sameRec_true _ _ _ _ r V (HS.out V hV).2.2.2.1 (HS.out V hV).2.2.2.2.2.1).mono fun e w' ⟨h1, h2⟩ => ⟨h1, below_any hV h2⟩
  have HC2 : Hid (∀ V, Below W3.heap.size W3 V → Calls Tryd.prog 15 #[.slice ao ll co, .slice va ll vc] V fun e w' => e = .returned (.bool true) ∧ Below W3.heap.size W3 w') := fun V hV =>
    (same_any _ _ _ _ l l V (HS.out V hV).2.2.2.2.1 (HS.out V hV).2.2.2.2.2.2.1).mono fun e w' ⟨h1, q, h2⟩ => ⟨by rw [h1, show decide (l = l) = true by simp], by rw [h2]; exact below_drewN hV q⟩
  have HAl : Hid (∀ V, Below W3.heap.size W3 V → Calls Tryd.prog 20 #[] V fun e w' => e = .returned (.bool true) ∧ Below W3.heap.size W3 w') := fun V hV =>
    (alive_any V).mono fun e w' ⟨h1, h2⟩ => ⟨h1, below_any hV h2⟩
  have hS12 := HS.out w12 hb012
  obtain ⟨u0, u1, u2, _⟩ := hS12.2.2.1.three
  obtain ⟨y0, y1, y2, _⟩ := hS12.2.1.three
  clear hb12 hS12 HT HB10 HV HB12
  go_wp2_with (go_at_call 16; refine (num_any _ _).mono ?_; rintro e w13 ⟨rfl, rfl⟩)
  go_region_law
    (first
      | (go_simp
         with_reducible refine Calls.mono (HK.out _ (by first | assumption | exact Below.drew (by assumption))) ?_
         rintro e w14 ⟨rfl, hb14⟩
         obtain ⟨i0, i1, i2, _⟩ := (HS.out w14 hb14).2.2.1.three
         obtain ⟨j0, j1, j2, _⟩ := (HS.out w14 hb14).2.1.three)
      | (go_simp
         with_reducible refine Calls.mono (num_any _ _) ?_
         rintro e w15 ⟨rfl, rfl⟩)
      | (go_simp
         with_reducible refine Calls.mono (HM.out _ (by first | assumption | exact Below.drew (by assumption))) ?_
         rintro e w16 ⟨rfl, hb16⟩
         obtain ⟨m0, m1, m2, _⟩ := (HS.out w16 hb16).2.2.1.three
         obtain ⟨n0, n1, n2, _⟩ := (HS.out w16 hb16).2.1.three)
      | (go_simp
         with_reducible refine Calls.mono (HT2.out _ (by first | assumption | exact Below.drew (by assumption))) ?_
         rintro e w17 ⟨rfl, hb17⟩)
      | (go_simp
         with_reducible refine Calls.mono (HC2.out _ (by first | assumption | exact Below.drew (by assumption))) ?_
         rintro e w18 ⟨rfl, hb18⟩)
      | (go_simp
         with_reducible refine Calls.mono (HAl.out _ (by first | assumption | exact Below.drew (by assumption))) ?_
         rintro e w19 ⟨rfl, hb19⟩))
  all_goals
    go_wp2
    go_ret
    exact ⟨rfl, (HS.out _ (by assumption)).1⟩

set_option maxRecDepth 100000 in
theorem contract (H : Type) (enc : TypeId × Value → H) (W : World) (base : Nat) (args : Array Value) (ds gs : List (DataW H)) (before : List MemPlace)
    (hval0 : ∀ (j : Nat) t v, Tryd.f3.params[j]? = some t → args[j]? = some v → Value.okWide Tryd.prog W .any base t v)
    (hW : DataW.Whole enc Tryd.prog Tryd.f3.params.toList Rows.wireTellsSpec.vars false W args.toList ds gs before) 
    (hsz0 : (DataW.weightsEach Tryd.prog (Tryd.f3.params.toList ++ Rows.wireTellsSpec.plain.varTypes Tryd.prog) (ds ++ gs)).all (· ≤ reachBytes) = true) (hg : Glob W) :
    Calls Tryd.prog 3 args W fun e W' => ∃ v, e = .returned v ∧ Rows.wireTellsSpec.post enc Tryd.prog Tryd.f3 false true false false W args v W' := by
  have hval := hval0
  have hW' := hW
  obtain ⟨p, q, hA0, hV, rfl, hfz, hnd⟩ := hW
  have hA : DataW.TrodAll enc Tryd.prog W 0 (fun _ => true) true Tryd.f3.params.toList args.toList ds p := hA0
  have hsz := hsz0
  clear hsz0
  rw [Tryd.params3] at hA hval hsz
  obtain ⟨v0, vs0, d0, ds0, p0, q0, hargs, rfl, rfl, h0, r0⟩ := trodAll_cons hA
  obtain ⟨v1, vs1, d1, ds1, p1, q1, rfl, rfl, rfl, h1, r1⟩ := trodAll_cons r0
  obtain ⟨rfl, rfl, rfl⟩ := trodAll_nil r1
  obtain rfl : args = #[v0, v1] := by cases args; simp_all
  obtain ⟨rfl, rfl⟩ := trodVars_none hV
  obtain ⟨cs0, rfl, hc0⟩ := okWide_struct Tryd.underlying25 (hval 0 25 v0 rfl rfl)
  obtain ⟨us0, rfl⟩ := as_list cs0
  have k0 := h0
  have lt0 : ∀ x ∈ p0, x.block < W.heap.size := by obtain ⟨m, hm⟩ := k0; exact DataW.trod_lt m _ _ _ hm
  obtain ⟨m0, hm0⟩ := h0
  obtain ⟨s0, A0, F0'⟩ := recD.reads hm0
  have F0 := F0' fun n hn => by have := List.all_eq_true.1 hsz _ (DataW.weights_mem_each (j := 0) rfl rfl n hn); simpa using this
  obtain ⟨x1, len1, cap1, rfl⟩ := okWide_slice Tryd.underlying26 (hval 1 26 v1 rfl rfl)
  have k1 := h1
  have lt1 : ∀ x ∈ p1, x.block < W.heap.size := by obtain ⟨m, hm⟩ := k1; exact DataW.trod_lt m _ _ _ hm
  obtain ⟨m1, hm1⟩ := h1
  obtain ⟨s1, A1, F1'⟩ := bytesS.reads hm1
  have F1 := F1' fun n hn => by have := List.all_eq_true.1 hsz _ (DataW.weights_mem_each (j := 1) rfl rfl n hn); simpa using this
  clear hA0 hval0
  refine (walk us0 s0 (.slice x1 len1 cap1) s1 W A0 (fits_of F0) A1 (fits_b F1) hg).mono fun e W' ⟨he, bel⟩ => ?_
  subst he
  exact ⟨_, rfl, _, _, _, [], _, [], hW', trodAll_mk1 (shut_bool Tryd.underlying4 _), (trodAll_cons_mk (Below.trod laidOut (by kernel_rfl) (of_decide_eq_true (by kernel_rfl)) k0 bel lt0) (trodAll_cons_mk (Below.trod laidOut (by kernel_rfl) (of_decide_eq_true (by kernel_rfl)) k1 bel lt1) trodAll_mk0)), rfl, bel.frame _, fun h => by cases h⟩

theorem reads (os : Os) {H : Type} (enc : TypeId × Value → H) : ∃ places, DataW.whole enc Tryd.prog ((laidOf (World.holding Tryd.prog os ⟨#[], #[], []⟩)).forCall (fun _ _ => 0) ⟨#[], #[.agg #[.int .i64 0, .slice none 0 0, .slice none 0 0], .slice none 0 0], []⟩).memory Tryd.f3.params.toList Rows.wireTellsSpec.vars false (#[.agg #[.int .i64 0, .slice none 0 0, .slice none 0 0], .slice none 0 0] : Array Value).toList 8 = some ([.agg [.lit (.int .i64 0), .nil, .nil], .nil], [], places) :=
  ⟨[], by kernel_rfl⟩

set_option maxRecDepth 100000 in
theorem lifted (os : Os) (started : os.Started) (H : Type) (enc : TypeId × Value → H) (F : Stop.Interp) :
    ReturnsInHanded {} Tryd.checked os 3 .any ((OpenSpec.ofChange Rows.wireTellsSpec).preRow enc Tryd.prog Tryd.f3 Rows.wireTellsRow.domain false Rows.wireTellsRow.laid) (((OpenSpec.ofChange Rows.wireTellsSpec).at F).post enc Tryd.prog Tryd.f3 false true false false) := by
  obtain ⟨places, hx⟩ := reads os enc
  refine returnsInHanded_of_row (C := Tryd.checked) (s := (OpenSpec.ofChange Rows.wireTellsSpec)) own started (by kernel_rfl) Tryd.func3
    (witness_row_at (enc := enc) (C := Tryd.checked) false (laidOf (World.holding Tryd.prog os ⟨#[], #[], []⟩)) #[.agg #[.int .i64 0, .slice none 0 0, .slice none 0 0], .slice none 0 0] rfl (by kernel_rfl) (by kernel_rfl) (by kernel_rfl)
      (OpenSpec.preRow_of_cond 8 hx (by kernel_rfl) (fun k hk => by cases hk) (by kernel_rfl) (laidWorld_met os _))) ?_
  intro W base args ds gs before hval hW _ _ hsz hL _ _
  exact contract H enc W base args ds gs before hval hW hsz (handle_of_laid hL)

theorem said : Rows.WireTellsSaid :=
  OpenClaim.holds_of_cond 3 Tryd.f3 rfl rfl rfl rfl rfl rfl rfl ⟨rfl, rfl, rfl, rfl, rfl⟩ rfl rfl rfl rfl rfl (by kernel_rfl) Tryd.func3 (by kernel_rfl)
    (of_decide_eq_true (by kernel_rfl)) (by unfold Func.isWrapper; first | (rw [if_pos (by decide +kernel)]; kernel_rfl) | (rw [if_neg (by decide +kernel)]; exact ⟨rfl, rfl⟩))
    (fun os started H enc _ F => by rw [OpenClaim.pre_eq_preRow]; exact lifted os started H enc F)

theorem plain (f : FuncId) (fn : Func) (hf : Tryd.pinned.checked.prog.funcNamed Tryd.f3.name = some f) (hfn : Tryd.pinned.checked.prog.funcs[f]? = some fn) :
    true = Tryd.pinned.checked.prog.looks [] ∧ ∀ (j : Nat) t, fn.params[j]? = some t → Tryd.pinned.checked.prog.wantsStandIn t = false := by
  obtain rfl : f = 3 := Option.some.inj ((show Tryd.prog.funcNamed Tryd.f3.name = some 3 by kernel_rfl).symm.trans hf) |>.symm
  obtain rfl : fn = Tryd.f3 := (Option.some.inj (Tryd.func3.symm.trans hfn)).symm
  refine ⟨by kernel_rfl, fun j t ht => ?_⟩
  rw [Tryd.params3] at ht
  have hm := Array.mem_of_getElem? ht
  simp only [List.mem_toArray, List.mem_cons, List.not_mem_nil, or_false] at hm
  rcases hm with rfl | rfl
  · exact (show Tryd.prog.wantsStandIn 25 = false by kernel_rfl)
  · exact (show Tryd.prog.wantsStandIn 26 = false by kernel_rfl)

theorem card : Rows.WireTellsCardSaid :=
  Claim7.holds_tied_plain_at .later [] _ _ _ _ said (fun _ h => by cases h) (by kernel_rfl) (fun _ h => by cases h) wireTells_row_tie rfl ⟨rfl, rfl⟩ (by kernel_rfl) rfl plain (by kernel_rfl)

end Go.Proofs.YtfpllfjdgpcmdaaDoor.wireTells

namespace Go.Proofs.YtfpllfjdgpcmdaaDoor
theorem wireTells_holds : Rows.WireTellsCardSaid := wireTells.card
#print axioms wireTells_holds
end Go.Proofs.YtfpllfjdgpcmdaaDoor
