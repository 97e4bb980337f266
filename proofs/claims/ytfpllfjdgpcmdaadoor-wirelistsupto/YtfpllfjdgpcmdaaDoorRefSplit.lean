/-
  What the document's Split answers: the same as the program's.
-/
import Derived.Test.YtfpllfjdgpcmdaaDoorRefRdr
import Derived.Test.YtfpllfjdgpcmdaaDoorSplit
import Derived.Test.YtfpllfjdgpcmdaaDoorOrI
namespace Go.Proofs.YtfpllfjdgpcmdaaDoor
open Go.RowKit

theorem copied_any : Copies 41 := fun _ v l w h hs => (C.copied_any v l w h.toC hs).mono fun _ _ ⟨⟨v', he, ho⟩, hb⟩ => ⟨⟨v', he, .mk ho h.oct⟩, hb⟩

/-- How long a slice is. -/
def lenOf : Value → Nat
  | .slice _ m _ => m
  | _ => 0

/-- Where the loop of Split stands. -/
def Stands (w0 w : World) (R : Nat) (l : List Int) (N : Nat) (j : Nat) (p : Nat) (k : Int) (v : Value) (wr : World) : Prop :=
  ∃ ts : List (List Int), ts.length = j ∧ textsS.owns w.heap.size wr [v] ts ∧ RR w0 R l p k wr ∧ w.grownBy wr (some R) ∧ 2 * j ≤ N + 2 ∧
    ((k = 0 ∧ 2 * j + (l.drop p).length ≤ N ∧ ∃ f, splR l = (splF f (l.drop p)).map (ts ++ ·) ∧ (l.drop p).length ≤ f) ∨ (k ≠ 0 ∧ splR l = .error k))

set_option maxRecDepth 100000 in
set_option maxHeartbeats 4000000 in
theorem rsplit_any (n0 : Nat) (v : Value) (l : List Int) (w : World) (h : Arg n0 w v l) (hs : l.length ≤ 1048576) :
    Calls Tryd.prog 25 #[v] w fun e w' => (∃ a c, e = .returned (.tuple #[.slice a (rsV (splitR l)).length c, .int .i64 (rsE (splitR l))]) ∧ textsS.owns w.heap.size w' [.slice a (rsV (splitR l)).length c] (rsV (splitR l))) ∧ Below w.heap.size w w' := by
  obtain ⟨i0, hi, hz0, hz1, hz2⟩ := info_parts info26
  obtain ⟨a0, c0, rfl, _⟩ := h.shape
  obtain ⟨V, hV⟩ : ∃ V, V = w.alloc (.cells #[.slice a0 l.length c0, .int .i64 0, .int .i64 0] 74) := ⟨_, rfl⟩
  have hbV : Below w.heap.size w V := by rw [hV]; exact (Below.refl _ w).alloc (Nat.le_refl _) _
  have hRR : RR w w.heap.size l 0 0 V := ⟨⟨a0, c0, by rw [hV]; exact Box.new w 74 _, h.weaken (Nat.zero_le _)⟩, hbV, Nat.le_refl _, Nat.zero_le _⟩
  have HOL : Hid (Oc l) := h.oct
  obtain ⟨X, hX⟩ : ∃ X, X = splitR l := ⟨_, rfl⟩
  rw [← hX]
  have HX0 : Hid (X = (splR l).then fun ts _ => if 4096 < ts.length then .error 3 else .ok (ts, [])) := hX
  obtain ⟨N, hN⟩ : ∃ y, y = l.length := ⟨_, rfl⟩
  have HN : Hid (N = l.length) := hN
  rw [← hN] at hV hs ⊢
  have HW : Hid (Below w.heap.size w V ∧ V.heap.size = w.heap.size + 1 ∧ RR w w.heap.size l 0 0 V) := ⟨hbV, by rw [hV]; simp, hRR⟩
  have hlen := run_len Tryd.underlying26 a0 N c0
  have HST : Hid (Stands w V w.heap.size l N 0 0 0 (.slice none 0 0) V) := by
    refine ⟨[], rfl, Shape.list_nil bytesS 23 Tryd.underlying23 cells23 _ _, hRR, grown_refl _ _, by omega, .inl ⟨rfl, by simp; omega, l.length, ?_, by simp⟩⟩
    show splF l.length l = _
    rw [List.drop_zero]
    cases splF l.length l <;> rfl
  clear h hbV hRR hX hN
  go_enter Tryd.func25, Tryd.ntmps25
  go_wp2
  rw [← hV]
  clear hV
  go_loopw [4] (fun o wr => ∃ (j p m : Nat) (k : Int) (a : Option Addr) (c : Nat), o = .slice a m c ∧ m = j ∧ 2 * j ≤ N + 2 ∧ Hid (Stands w V w.heap.size l N j p k (.slice a m c) wr)) (fun o _ => N + 3 - lenOf o)
  case atStart => exact ⟨0, 0, 0, 0, none, 0, rfl, rfl, by omega, HST⟩
  case round =>
    obtain ⟨j, p, m, k, a, c, rfl, rfl, hj, HK⟩ := hrel
    obtain ⟨ts, htl, hT, hR, hgr, _, hcase⟩ := HK.out
    obtain ⟨ar, cr, hBR, _⟩ := hR.ex
    obtain ⟨g0, g1, g2, _⟩ := hBR.three
    have hple := hR.at_le
    rw [← HN.out] at hple
    have HTL : Hid (ts.length = m) := htl
    have hsame : ∀ {x y : World}, x.grownBy y (some w.heap.size) → Same V.heap.size x y := fun h q hq hl => h.block q hl (fun e => by have := Option.some.inj e; have := HW.out.2.1; omega)
    by_cases hk : k = 0
    case neg =>
      have hS : splR l = .error k := by
        rcases hcase with ⟨h0, _⟩ | ⟨_, h1⟩
        · exact absurd h0 hk
        · exact h1
      have HX : Hid (X = .error k) := by show _ = _; rw [HX0.out, hS]; rfl
      have HB : Hid (Below w.heap.size w wr) := HW.out.1.grown hgr HW.out.1.size (fun q hq => by have := Option.some.inj hq; omega)
      have hlm := run_len Tryd.underlying23 a m c
      clear hcase hS hT hR hgr hBR htl HX0
      by_cases hp : (p : Int) < (N : Int)
      · go_wp2
        go_quiet (fail)
        go_wp2
        go_ret2
        rw [HX.out]
        exact ⟨⟨none, 0, rfl, Shape.list_nil bytesS 23 Tryd.underlying23 cells23 _ _⟩, below_drewN HB.out _⟩
      · go_wp2
        go_quiet (fail)
        go_wp2
        go_ret2
        rw [HX.out]
        exact ⟨⟨none, 0, rfl, Shape.list_nil bytesS 23 Tryd.underlying23 cells23 _ _⟩, below_drewN HB.out _⟩
    subst hk
    obtain ⟨hle2, f, hSf, hff⟩ : 2 * m + (l.drop p).length ≤ N ∧ ∃ f, splR l = (splF f (l.drop p)).map (ts ++ ·) ∧ (l.drop p).length ≤ f := by
      rcases hcase with ⟨_, h1⟩ | ⟨h0, _⟩
      · exact h1
      · exact absurd rfl h0
    have HQ : Hid (splR l = (splF f (l.drop p)).map (ts ++ ·) ∧ (l.drop p).length ≤ f) := ⟨hSf, hff⟩
    have hdl : (l.drop p).length = N - p := by rw [List.length_drop, HN.out]
    by_cases hp : p < N
    case neg =>
      have hp' : ¬ (p : Int) < (N : Int) := by omega
      have hq0 : l.drop p = [] := List.eq_nil_of_length_eq_zero (by omega)
      have HS : Hid (X = if 4096 < m then .error 3 else .ok (ts, [])) := by
        show _ = _
        rw [HX0.out, hSf, hq0, splF_nil]
        simp only [Rd.map, Rd.then, List.append_nil, HTL.out]
      have HB : Hid (Below w.heap.size w wr ∧ textsS.owns w.heap.size wr [.slice a m c] ts) := ⟨HW.out.1.grown hgr HW.out.1.size (fun q hq => by have := Option.some.inj hq; omega), textsS.oweaken hT (by have := HW.out.2.1; omega)⟩
      have hlm := run_len Tryd.underlying23 a m c
      clear hcase hSf hff HQ hT hR hgr hBR htl HX0 hq0 hdl hle2
      by_cases h4 : 4096 < m
      · have h4i : (4096 : Int) < (m : Int) := by omega
        have HX : Hid (X = .error 3) := by show _ = _; rw [HS.out, if_pos h4]
        clear HS
        go_wp2
        go_ret2
        rw [HX.out]
        exact ⟨⟨none, 0, rfl, Shape.list_nil bytesS 23 Tryd.underlying23 cells23 _ _⟩, HB.out.1⟩
      · have h4i : ¬ (4096 : Int) < (m : Int) := by omega
        have HX : Hid (X = .ok (ts, [])) := by show _ = _; rw [HS.out, if_neg h4]
        clear HS
        go_wp2
        go_ret2
        rw [HX.out]
        refine ⟨⟨a, c, ?_, ?_⟩, HB.out.1⟩
        · show _ = Ending.returned (Value.tuple #[.slice a ts.length c, .int .i64 0])
          rw [HTL.out]
          rfl
        · show textsS.owns _ _ [.slice a ts.length c] ts
          rw [HTL.out]
          exact HB.out.2
    have hpi : (p : Int) < (N : Int) := by omega
    obtain ⟨x, q1, hq⟩ : ∃ x q1, l.drop p = x :: q1 := by
      cases hq : l.drop p with
      | nil => rw [hq] at hdl; simp at hdl; omega
      | cons x q1 => exact ⟨x, q1, rfl⟩
    have hO1 := oc_drop HOL.out p
    rw [hq] at hO1
    have hx := (oc_cons.1 hO1).1
    have hq1l : q1.length + 1 = N - p := by
      rw [hq] at hdl
      simpa using hdl
    have HO1 := roctet_any w w.heap.size l p wr hR
    rw [hq, show octR (x :: q1) = .ok (x, q1) from rfl] at HO1
    have HST : Hid (textsS.owns V.heap.size wr [.slice a m c] ts ∧ V.grownBy wr (some w.heap.size)) := ⟨hT, hgr⟩
    have hj2 : 2 * (m + 1) ≤ N + 2 := by omega
    rw [hq] at HQ
    clear hT hR hgr hBR htl hcase hSf hff hdl
    go_wp2_with fail
    refine HO1.mono ?_
    rintro e w1 ⟨hg1, v1, p1, rfl, ⟨rfl, _⟩, hR1, hd1⟩
    have H1 : Hid (wr.grownBy w1 (some w.heap.size) ∧ RR w w.heap.size l p1 0 w1 ∧ l.drop p1 = q1) := ⟨hg1, hR1, hd1⟩
    have HO2 := roctet_any w w.heap.size l p1 w1 hR1
    rw [hd1] at HO2
    clear hg1 hR1 hd1 HO1 g0 g1 g2
    cases q1 with
    | nil =>
      rw [show octR [] = .error 8 from rfl] at HO2
      have hbad : joinR [x] = .error 8 := rfl
      have HS8 : Hid (splR l = .error 8) := by
        show _ = _
        rw [HQ.out.1, spl_bad ts (by simp) HQ.out.2 hbad]
      have h00 : bits .or .i64 (x * 256) 0 = (((x * 256 + 0).toNat : Nat) : Int) := or_two x 0 hx (by omega)
      obtain ⟨nn, hnn⟩ : ∃ y, y = (x * 256 + 0).toNat := ⟨_, rfl⟩
      rw [← hnn] at h00
      clear hnn HQ hbad hO1
      go_wp2_with fail
      refine HO2.mono ?_
      rintro e w2 ⟨hg2, z2, p3, rfl, rfl, hR2⟩
      have HTK := rtake_err w w.heap.size l p3 8 (nn : Int) (by decide) w2 hR2
      have H2 : Hid (V.grownBy w2 (some w.heap.size) ∧ RR w w.heap.size l p3 8 w2) := ⟨grown_trans HST.out.2 (grown_trans H1.out.1 hg2), hR2⟩
      have HO2T : Hid (textsS.owns V.heap.size w2 [.slice a m c] ts) := textsS.osame (textsS.osame HST.out.1 (hsame H1.out.1)) (hsame hg2)
      clear hg2 hR2 HO2
      go_wp2_with fail
      refine HTK.mono ?_
      rintro e w3 ⟨rfl, rfl⟩
      obtain ⟨w3, hw3e⟩ : ∃ y, y = w2 := ⟨_, rfl⟩
      rw [← hw3e] at H2 HO2T ⊢
      have HT3 : Hid (Arg 0 w3 (.slice none 0 0) [] ∧ RR w w.heap.size l p3 8 w3 ∧ V.grownBy w3 (some w.heap.size) ∧ (((8 : Int) = 0 ∧ 2 * (m + 1) + (l.drop p3).length ≤ N ∧ ∃ f, splR l = (splF f (l.drop p3)).map ((ts ++ [([] : List Int)]) ++ ·) ∧ (l.drop p3).length ≤ f) ∨ ((8 : Int) ≠ 0 ∧ splR l = .error 8)) ∧ textsS.owns V.heap.size w3 [.slice a m c] ts) := by
        exact ⟨(Own1.nil 0 w3).arg, H2.out.2, H2.out.1, .inr ⟨by decide, HS8.out⟩, HO2T.out⟩
      clear hw3e H2 HO2T HTK h00 H1
      have HC := copied_any 0 (.slice none 0 0) [] w3 HT3.out.1 (by simp)
      go_wp2_with fail
      refine HC.mono ?_
      rintro e w4 ⟨⟨v4, rfl, ho4⟩, hb4⟩
      obtain ⟨ux, uc, rfl⟩ := ho4.shape
      obtain ⟨ln, hln⟩ : ∃ y, y = ([] : List Int).length := ⟨_, rfl⟩
      rw [← hln] at ho4 ⊢
      obtain ⟨v', vss, hv, hown0, hE0⟩ := textsS.obelow HT3.out.2.2.2.2 hb4
      have hvv : Value.slice a m c = v' := by simpa using hv
      subst hvv
      have HE0 : Hid (Each (bytesS.owns V.heap.size w4) vss ts) := hE0
      have HOW : Hid (w4.ownsRow V.heap.size 26 1 (.slice a m c) m vss.flatten) := by
        have h1 : w4.ownsRow V.heap.size 26 1 (.slice a m c) ts.length vss.flatten := hown0
        rwa [HTL.out] at h1
      have HO4 : Hid (RR w w.heap.size l p3 8 w4 ∧ V.grownBy w4 (some w.heap.size) ∧ Own1 w3.heap.size w4 (.slice ux ln uc) []) := ⟨HT3.out.2.1.below hb4 HT3.out.2.1.lt, grown_trans HT3.out.2.2.1 (grown_below hb4), ho4⟩
      have hws := HO4.out.2.1.size
      have hw3 := HT3.out.2.2.1.size
      clear hv hown0 hE0 hb4 ho4 hln HC
      go_wp2_with (at_builtin; refine wpList_append_lies _ (by rfl) _ _ 23 (by rfl) V.heap.size 26 i0 _ 1 24 Tryd.underlying23 hi hz0 hz1 hz2 rfl (by omega) _ m _ (by rfl) (HOW.out.alloc _) ⟨w4.heap.size, 0, none⟩ 1 1 [.slice ux ln uc] (by rfl) (by rfl) (World.news_of_block (cs := #[.slice ux ln uc]) (t := 26) (fr := (0, 0)) (heap_alloc_new w4 _)) (by simp [Value.oneCell']) (by omega) (by unfold maxLen; omega) (by omega) (by simp; omega) (w4.heap.size + 1) (by simp) ?_; intro gg cap5 w5 hown5 hgrow5 hat hltg)
      have hb5 : Below V.heap.size w4 w5 := ((Below.refl _ w4).alloc hws _).grown hgrow5 (by simp; omega) (fun i hi => (HOW.out.lt i hi).1)
      have HE : Hid (Stands w V w.heap.size l N (m + 1) p3 8 (.slice (some ⟨gg, 0, none⟩) (m + 1) cap5) w5) := by
        refine ⟨ts ++ [([] : List Int)], by rw [List.length_append, HTL.out]; rfl, ?_, HO4.out.1.below hb5 (by have := HW.out.2.1; omega), grown_append HO4.out.2.1 hb5, hj2, HT3.out.2.2.2.1⟩
        refine Shape.list_push (S := bytesS) (ht := Tryd.underlying23) (hc := cells23) (by decide) (HE0.out.mono fun _ _ h => bytesS.osame h (.alloc _ _ _)) (by rw [HTL.out]; exact HOW.out.alloc _) (bytesS.oweaken (bytesS.osame HO4.out.2.2 (.alloc _ _ _)) hw3) hgrow5 ?_
        rw [HTL.out]
        exact hown5
      clear hown5 hgrow5 hat hltg hb5
      go_wp2
      go_roundw
      case rel => exact ⟨m + 1, p3, m + 1, 8, _, _, rfl, rfl, hj2, HE⟩
      case measure => simp [lenOf]; omega
    | cons y r =>
      rw [show octR (y :: r) = .ok (y, r) from rfl] at HO2
      have hy := (oc_cons.1 (oc_cons.1 hO1).2).1
      have hor := or_two x y hx hy
      obtain ⟨nn, hnn⟩ : ∃ z, z = (x * 256 + y).toNat := ⟨_, rfl⟩
      rw [← hnn] at hor
      have HJ : Hid (joinR (x :: y :: r) = takeR nn r) := by
        show _ = _
        rw [hnn]
        rfl
      have hnn6 : nn ≤ 100000 := by omega
      clear hnn hO1
      go_wp2_with fail
      refine HO2.mono ?_
      rintro e w2 ⟨hg2, v2, p2, rfl, ⟨rfl, _⟩, hR2, hd2⟩
      have HTK := rtake_any w w.heap.size l p2 nn hnn6 w2 hR2
      rw [hd2, ← HJ.out] at HTK
      have H2 : Hid (V.grownBy w2 (some w.heap.size)) := grown_trans HST.out.2 (grown_trans H1.out.1 hg2)
      have HO2T : Hid (textsS.owns V.heap.size w2 [.slice a m c] ts) := textsS.osame (textsS.osame HST.out.1 (hsame H1.out.1)) (hsame hg2)
      clear hg2 hR2 HO2 hd2
      cases hjr : joinR (x :: y :: r) with
      | error kk =>
        rw [hjr] at HTK
        have hkk := joinR_bad _ kk hjr
        have HS8 : Hid (splR l = .error kk) := by
          show _ = _
          rw [HQ.out.1, spl_bad ts (by simp) HQ.out.2 hjr]
        clear HQ hjr
        go_wp2_with fail
        refine HTK.mono ?_
        rintro e w3 ⟨hg3, z3, p3, rfl, rfl, hR3⟩
        have HT3 : Hid (Arg 0 w3 (.slice none 0 0) [] ∧ RR w w.heap.size l p3 kk w3 ∧ V.grownBy w3 (some w.heap.size) ∧ ((kk = 0 ∧ 2 * (m + 1) + (l.drop p3).length ≤ N ∧ ∃ f, splR l = (splF f (l.drop p3)).map ((ts ++ [([] : List Int)]) ++ ·) ∧ (l.drop p3).length ≤ f) ∨ (kk ≠ 0 ∧ splR l = .error kk)) ∧ textsS.owns V.heap.size w3 [.slice a m c] ts) := by
          exact ⟨(Own1.nil 0 w3).arg, hR3, grown_trans H2.out hg3, .inr ⟨by rw [hkk]; decide, HS8.out⟩, textsS.osame HO2T.out (hsame hg3)⟩
        clear H2 HO2T HTK hor H1 hg3 hR3 hkk
        have HC := copied_any 0 (.slice none 0 0) [] w3 HT3.out.1 (by simp)
        go_wp2_with fail
        refine HC.mono ?_
        rintro e w4 ⟨⟨v4, rfl, ho4⟩, hb4⟩
        obtain ⟨ux, uc, rfl⟩ := ho4.shape
        obtain ⟨ln, hln⟩ : ∃ y, y = ([] : List Int).length := ⟨_, rfl⟩
        rw [← hln] at ho4 ⊢
        obtain ⟨v', vss, hv, hown0, hE0⟩ := textsS.obelow HT3.out.2.2.2.2 hb4
        have hvv : Value.slice a m c = v' := by simpa using hv
        subst hvv
        have HE0 : Hid (Each (bytesS.owns V.heap.size w4) vss ts) := hE0
        have HOW : Hid (w4.ownsRow V.heap.size 26 1 (.slice a m c) m vss.flatten) := by
          have h1 : w4.ownsRow V.heap.size 26 1 (.slice a m c) ts.length vss.flatten := hown0
          rwa [HTL.out] at h1
        have HO4 : Hid (RR w w.heap.size l p3 kk w4 ∧ V.grownBy w4 (some w.heap.size) ∧ Own1 w3.heap.size w4 (.slice ux ln uc) []) := ⟨HT3.out.2.1.below hb4 HT3.out.2.1.lt, grown_trans HT3.out.2.2.1 (grown_below hb4), ho4⟩
        have hws := HO4.out.2.1.size
        have hw3 := HT3.out.2.2.1.size
        clear hv hown0 hE0 hb4 ho4 hln HC
        go_wp2_with (at_builtin; refine wpList_append_lies _ (by rfl) _ _ 23 (by rfl) V.heap.size 26 i0 _ 1 24 Tryd.underlying23 hi hz0 hz1 hz2 rfl (by omega) _ m _ (by rfl) (HOW.out.alloc _) ⟨w4.heap.size, 0, none⟩ 1 1 [.slice ux ln uc] (by rfl) (by rfl) (World.news_of_block (cs := #[.slice ux ln uc]) (t := 26) (fr := (0, 0)) (heap_alloc_new w4 _)) (by simp [Value.oneCell']) (by omega) (by unfold maxLen; omega) (by omega) (by simp; omega) (w4.heap.size + 1) (by simp) ?_; intro gg cap5 w5 hown5 hgrow5 hat hltg)
        have hb5 : Below V.heap.size w4 w5 := ((Below.refl _ w4).alloc hws _).grown hgrow5 (by simp; omega) (fun i hi => (HOW.out.lt i hi).1)
        have HE : Hid (Stands w V w.heap.size l N (m + 1) p3 kk (.slice (some ⟨gg, 0, none⟩) (m + 1) cap5) w5) := by
          refine ⟨ts ++ [([] : List Int)], by rw [List.length_append, HTL.out]; rfl, ?_, HO4.out.1.below hb5 (by have := HW.out.2.1; omega), grown_append HO4.out.2.1 hb5, hj2, HT3.out.2.2.2.1⟩
          refine Shape.list_push (S := bytesS) (ht := Tryd.underlying23) (hc := cells23) (by decide) (HE0.out.mono fun _ _ h => bytesS.osame h (.alloc _ _ _)) (by rw [HTL.out]; exact HOW.out.alloc _) (bytesS.oweaken (bytesS.osame HO4.out.2.2 (.alloc _ _ _)) hw3) hgrow5 ?_
          rw [HTL.out]
          exact hown5
        clear hown5 hgrow5 hat hltg hb5
        go_wp2
        go_roundw
        case rel => exact ⟨m + 1, p3, m + 1, kk, _, _, rfl, rfl, hj2, HE⟩
        case measure => simp [lenOf]; omega
      | ok pp =>
        obtain ⟨t3, q3⟩ := pp
        rw [hjr] at HTK
        obtain ⟨g, hS1, hS2⟩ := spl_got ts (by simp) HQ.out.2 hjr
        have hjl := joinR_len hjr
        have HS8 : Hid (splR l = (splF g q3).map ((ts ++ [t3]) ++ ·) ∧ q3.length ≤ g) := ⟨by rw [HQ.out.1, hS1], hS2⟩
        have htl3 : t3.length ≤ 1048576 := by
          simp only [List.length_cons] at hjl hq1l
          omega
        have hq3 : 2 * (m + 1) + q3.length ≤ N := by
          simp only [List.length_cons] at hjl hq1l
          have := hle2
          rw [hq] at this
          simp only [List.length_cons] at this
          omega
        clear HQ hjr hS1 hS2 hjl
        go_wp2_with fail
        refine HTK.mono ?_
        rintro e w3 ⟨hg3, v3, p3, rfl, hA3, hR3, hd3⟩
        obtain ⟨a3, c3, rfl, _⟩ := hA3.shape
        obtain ⟨k3, hk3⟩ : ∃ y : Int, y = 0 := ⟨_, rfl⟩
        have HT3 : Hid (Arg 0 w3 (.slice a3 t3.length c3) t3 ∧ RR w w.heap.size l p3 k3 w3 ∧ V.grownBy w3 (some w.heap.size) ∧ ((k3 = 0 ∧ 2 * (m + 1) + (l.drop p3).length ≤ N ∧ ∃ f, splR l = (splF f (l.drop p3)).map ((ts ++ [t3]) ++ ·) ∧ (l.drop p3).length ≤ f) ∨ (k3 ≠ 0 ∧ splR l = .error k3)) ∧ textsS.owns V.heap.size w3 [.slice a m c] ts) := by
          subst hk3
          rw [hd3]
          exact ⟨hA3, hR3, grown_trans H2.out hg3, .inl ⟨rfl, hq3, g, HS8.out⟩, textsS.osame HO2T.out (hsame hg3)⟩
        clear hk3 H2 HO2T HTK hor H1 hg3 hR3 hA3 hd3 hq3
        have HC := copied_any 0 (.slice a3 t3.length c3) t3 w3 HT3.out.1 (by have := htl3; omega)
        obtain ⟨l3, hl3⟩ : ∃ y, y = t3.length := ⟨_, rfl⟩
        rw [← hl3] at HC ⊢
        clear hl3
        go_wp2_with fail
        refine HC.mono ?_
        rintro e w4 ⟨⟨v4, rfl, ho4⟩, hb4⟩
        obtain ⟨ux, uc, rfl⟩ := ho4.shape
        obtain ⟨ln, hln⟩ : ∃ y, y = t3.length := ⟨_, rfl⟩
        rw [← hln] at ho4 ⊢
        obtain ⟨v', vss, hv, hown0, hE0⟩ := textsS.obelow HT3.out.2.2.2.2 hb4
        have hvv : Value.slice a m c = v' := by simpa using hv
        subst hvv
        have HE0 : Hid (Each (bytesS.owns V.heap.size w4) vss ts) := hE0
        have HOW : Hid (w4.ownsRow V.heap.size 26 1 (.slice a m c) m vss.flatten) := by
          have h1 : w4.ownsRow V.heap.size 26 1 (.slice a m c) ts.length vss.flatten := hown0
          rwa [HTL.out] at h1
        have HO4 : Hid (RR w w.heap.size l p3 k3 w4 ∧ V.grownBy w4 (some w.heap.size) ∧ Own1 w3.heap.size w4 (.slice ux ln uc) t3) := ⟨HT3.out.2.1.below hb4 HT3.out.2.1.lt, grown_trans HT3.out.2.2.1 (grown_below hb4), ho4⟩
        have hws := HO4.out.2.1.size
        have hw3 := HT3.out.2.2.1.size
        clear hv hown0 hE0 hb4 ho4 hln HC
        go_wp2_with (at_builtin; refine wpList_append_lies _ (by rfl) _ _ 23 (by rfl) V.heap.size 26 i0 _ 1 24 Tryd.underlying23 hi hz0 hz1 hz2 rfl (by omega) _ m _ (by rfl) (HOW.out.alloc _) ⟨w4.heap.size, 0, none⟩ 1 1 [.slice ux ln uc] (by rfl) (by rfl) (World.news_of_block (cs := #[.slice ux ln uc]) (t := 26) (fr := (0, 0)) (heap_alloc_new w4 _)) (by simp [Value.oneCell']) (by omega) (by unfold maxLen; omega) (by omega) (by simp; omega) (w4.heap.size + 1) (by simp) ?_; intro gg cap5 w5 hown5 hgrow5 hat hltg)
        have hb5 : Below V.heap.size w4 w5 := ((Below.refl _ w4).alloc hws _).grown hgrow5 (by simp; omega) (fun i hi => (HOW.out.lt i hi).1)
        have HE : Hid (Stands w V w.heap.size l N (m + 1) p3 k3 (.slice (some ⟨gg, 0, none⟩) (m + 1) cap5) w5) := by
          refine ⟨ts ++ [t3], by rw [List.length_append, HTL.out]; rfl, ?_, HO4.out.1.below hb5 (by have := HW.out.2.1; omega), grown_append HO4.out.2.1 hb5, hj2, HT3.out.2.2.2.1⟩
          refine Shape.list_push (S := bytesS) (ht := Tryd.underlying23) (hc := cells23) (by decide) (HE0.out.mono fun _ _ h => bytesS.osame h (.alloc _ _ _)) (by rw [HTL.out]; exact HOW.out.alloc _) (bytesS.oweaken (bytesS.osame HO4.out.2.2 (.alloc _ _ _)) hw3) hgrow5 ?_
          rw [HTL.out]
          exact hown5
        clear hown5 hgrow5 hat hltg hb5
        go_wp2
        go_roundw
        case rel => exact ⟨m + 1, p3, m + 1, k3, _, _, rfl, rfl, hj2, HE⟩
        case measure => simp [lenOf]; omega

end Go.Proofs.YtfpllfjdgpcmdaaDoor
