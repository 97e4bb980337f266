/-
  What the document's Send answers: the same as the program's.
-/
import Derived.Test.YtpecniajamgjiaaSend
import Derived.Test.YtpecniajamgjiaaBut
namespace Go.Proofs.Ytpecniajamgjiaa
open Go.RowKit

attribute [local go_sem ↓] Go.wp_at_zero Go.wp_at_succ

set_option maxRecDepth 100000 in
set_option maxHeartbeats 8000000 in
theorem rsend_any (n0 n1 : Nat) (us ups : List Value) (s : St) (p : Pk) (w : World) (h : stR.lies n0 w us s) (hp : pkF.lies n1 w ups p) :
    Calls Try.prog 10 #[.agg us.toArray, .agg ups.toArray] w fun e w' => (∃ us', e = .returned (.tuple #[.agg us'.toArray, .bool (sis s p), .int .i64 (serr s p)]) ∧ stR.owns w.heap.size w' us' (sst s p)) ∧ Below w.heap.size w w' := by
  obtain ⟨a, c, rfl, hL, hi, hm⟩ := st_viewR h
  obtain ⟨ax, cx, rfl, hA, hf, ht⟩ := pk_view hp
  obtain ⟨i3, hi3, hz30, hz31, hz32⟩ := info_parts Try.info27
  obtain ⟨lim, l⟩ := s
  obtain ⟨pf, pt, pd⟩ := p
  simp only at hL hi hm hA hf ht
  obtain ⟨n, hn⟩ : ∃ n, n = l.length := ⟨_, rfl⟩
  obtain ⟨m, hm'⟩ : ∃ m, m = pd.length := ⟨_, rfl⟩
  obtain ⟨W, hW⟩ : ∃ W, W = ((w.alloc (.cells #[.int .i64 lim, .slice a n c] 24)).alloc (.cells #[.int .i64 pf, .int .i64 pt, .slice ax m cx] 27)).alloc (.cells #[.int .i64 0, .slice none 0 0] 24) := ⟨_, rfl⟩
  have hb : Below w.heap.size w W := by
    rw [hW]; exact (((Below.refl _ w).alloc (Nat.le_refl _) _).alloc (by simp) _).alloc (by simp; omega) _
  have hB0 : Box W w.heap.size 24 #[.int .i64 lim, .slice a n c] := by
    rw [hW]; exact ((Box.new w 24 _).alloc _).alloc _
  have hB1 : Box W (w.heap.size + 1) 27 #[.int .i64 pf, .int .i64 pt, .slice ax m cx] := by
    rw [hW]
    have := (Box.new (w.alloc (.cells #[.int .i64 lim, .slice a n c] 24)) 27 #[.int .i64 pf, .int .i64 pt, .slice ax m cx]).alloc (.cells #[.int .i64 0, .slice none 0 0] 24)
    simpa using this
  have hB2 : Box W (w.heap.size + 2) 24 #[.int .i64 0, .slice none 0 0] := by
    rw [hW]
    have := Box.new ((w.alloc (.cells #[.int .i64 lim, .slice a n c] 24)).alloc (.cells #[.int .i64 pf, .int .i64 pt, .slice ax m cx] 27)) 24 #[.int .i64 0, .slice none 0 0]
    simpa using this
  have HW : Hid (Below w.heap.size w W ∧ Box W w.heap.size 24 #[.int .i64 lim, .slice a n c] ∧ Box W (w.heap.size + 1) 27 #[.int .i64 pf, .int .i64 pt, .slice ax m cx] ∧ Box W (w.heap.size + 2) 24 #[.int .i64 0, .slice none 0 0]) := ⟨hb, hB0, hB1, hB2⟩
  have HD : Hid (stR.lies n0 W [.int .i64 lim, .slice a n c] (lim, l) ∧ pkF.lies n1 W [.int .i64 pf, .int .i64 pt, .slice ax m cx] (pf, pt, pd)) := by
    rw [hn, hm']
    exact ⟨stR.below h hb, pkF.keep hp (.of_below hb)⟩
  have HN : Hid (n = l.length ∧ m = pd.length) := ⟨hn, hm'⟩
  have HC := rcheck_any n0 _ (lim, l) W HD.out.1
  obtain ⟨se, hse⟩ : ∃ x, x = serr (lim, l) (pf, pt, pd) := ⟨_, rfl⟩
  obtain ⟨si, hsi⟩ : ∃ x, x = sis (lim, l) (pf, pt, pd) := ⟨_, rfl⟩
  obtain ⟨S', hS'⟩ : ∃ x, x = sst (lim, l) (pf, pt, pd) := ⟨_, rfl⟩
  obtain ⟨fe, hfe⟩ : ∃ x, x = ferr (pf, pt, pd) := ⟨_, rfl⟩
  rw [← hse, ← hsi, ← hS']
  have HSE : Hid (se = (if chk (lim, l) = false then 9 else fe) ∧ si = (if se = 0 then decide ((n : Int) < lim) else false) ∧ S' = (if se = 0 then (if (n : Int) < lim then (lim, l ++ [(pf, pt, pd)]) else (lim, l)) else zst)) := by
    refine ⟨?_, ?_, ?_⟩
    · rw [hse, hfe]; rfl
    · rw [hse, hsi, hn]; rfl
    · rw [hse, hS', hn]; rfl
  have HFE : Hid (fe = ferr (pf, pt, pd) ∧ fe = (if (node pf && node pt) = false then 4 else if 4096 < m then 5 else 0)) := ⟨hfe, by rw [hfe, hm']; rfl⟩
  simp only
  rw [← hn, ← hm']
  unfold cerr at HC
  clear h hL hi hm hA hf ht hp hb hB0 hB1 hB2 hn hm' hse hsi hS' hfe
  go_enter Try.func10, Try.ntmps10
  go_wp2_with fail
  rw [← hW]
  clear hW
  cases hc : chk (lim, l)
  · obtain rfl : se = 9 := by rw [HSE.out.1, hc]; rfl
    obtain rfl : si = false := HSE.out.2.1
    obtain rfl : S' = zst := HSE.out.2.2
    rw [hc] at HC
    refine HC.mono ?_
    rintro e w1 ⟨rfl, hb1⟩
    obtain ⟨d0, d1, d2, d3⟩ := (HW.out.2.2.2.below hb1 HW.out.2.2.2.lt).two
    have HB : Hid (Below w.heap.size w w1) := below_any HW.out.1 hb1
    clear hb1 HC
    go_wp2
    refine bodyPost_ret (v := .tuple #[.agg #[.int .i64 0, .slice none 0 0], .bool false, .int .i64 9]) (by simp [results, Try.results10, go_sem, *]) rfl ⟨⟨[_, _], rfl, zst_ownR _ _⟩, ?_⟩
    exact below_set2 HB.out (by omega) _ _
  rw [hc] at HC
  refine HC.mono ?_
  rintro e w2 ⟨rfl, hb2⟩
  have HB2 : Hid (Below W.heap.size W w2 ∧ Below w.heap.size w w2) := ⟨hb2, below_any HW.out.1 hb2⟩
  obtain ⟨g0, g1, g2, _⟩ := (HW.out.2.2.1.below hb2 HW.out.2.2.1.lt).three
  obtain ⟨d0, d1, d2, d3⟩ := (HW.out.2.2.2.below hb2 HW.out.2.2.2.lt).two
  clear HC hb2
  have hlp := run_len Try.underlying25 ax m cx
  cases hf : node pf
  case false =>
    have e1 : fe = 4 := by rw [HFE.out.2, hf]; rfl
    obtain rfl : se = 4 := by rw [HSE.out.1, hc, e1]; rfl
    obtain rfl : si = false := HSE.out.2.1
    obtain rfl : S' = zst := HSE.out.2.2
    go_wp2_with (go_at_call 32; refine (node32 _ _).mono ?_; rintro e w6 ⟨rfl, rfl⟩; try rw [hf])
    refine bodyPost_ret (v := .tuple #[.agg #[.int .i64 0, .slice none 0 0], .bool false, .int .i64 4]) (by simp [results, Try.results10, go_sem, *]) rfl ⟨⟨[_, _], rfl, zst_ownR _ _⟩, ?_⟩
    exact below_set2 HB2.out.2 (by omega) _ _
  cases ht : node pt
  case false =>
    have e1 : fe = 4 := by rw [HFE.out.2, hf, ht]; rfl
    obtain rfl : se = 4 := by rw [HSE.out.1, hc, e1]; rfl
    obtain rfl : si = false := HSE.out.2.1
    obtain rfl : S' = zst := HSE.out.2.2
    go_wp2_with (go_at_call 32; refine (node32 _ _).mono ?_; rintro e w6 ⟨rfl, rfl⟩; first | rw [hf] | rw [ht])
    refine bodyPost_ret (v := .tuple #[.agg #[.int .i64 0, .slice none 0 0], .bool false, .int .i64 4]) (by simp [results, Try.results10, go_sem, *]) rfl ⟨⟨[_, _], rfl, zst_ownR _ _⟩, ?_⟩
    exact below_set2 HB2.out.2 (by omega) _ _
  by_cases hd : (4096 : Int) < m
  case pos =>
    have e1 : fe = 5 := by rw [HFE.out.2, hf, ht, if_neg (by simp), if_pos (by omega)]
    obtain rfl : se = 5 := by rw [HSE.out.1, hc, e1]; rfl
    obtain rfl : si = false := HSE.out.2.1
    obtain rfl : S' = zst := HSE.out.2.2
    go_wp2_with (go_at_call 32; refine (node32 _ _).mono ?_; rintro e w6 ⟨rfl, rfl⟩; first | rw [hf] | rw [ht])
    refine bodyPost_ret (v := .tuple #[.agg #[.int .i64 0, .slice none 0 0], .bool false, .int .i64 5]) (by simp [results, Try.results10, go_sem, *]) rfl ⟨⟨[_, _], rfl, zst_ownR _ _⟩, ?_⟩
    exact below_set2 HB2.out.2 (by omega) _ _
  have hfe : fe = 0 := by rw [HFE.out.2, hf, ht, if_neg (by simp), if_neg (by omega)]
  have HNP : Hid (node pf = true ∧ node pt = true) := ⟨hf, ht⟩
  subst hfe
  obtain rfl : se = 0 := by rw [HSE.out.1, hc]; rfl
  have HFT := chk_fits hc
  simp only at HFT
  have HFI : Hid (Fits (lim, l) ∧ n ≤ 4096 ∧ I64 lim ∧ (n : Int) ≤ lim) := ⟨HFT.1, by rw [HN.out.1]; exact HFT.2, chk_i64 hc, by rw [HN.out.1]; exact (chk_facts hc).2.2.1⟩
  obtain ⟨g3, g4, _, _⟩ := (HW.out.2.1.below HB2.out.1 HW.out.2.1.lt).two
  clear HFT
  have HCL := but_any n0 _ (lim, l) (-1) w2 (stR.below HD.out.1 HB2.out.1) HFI.out.1
  simp only at HCL
  rw [but_none (-1) l 0 (by omega)] at HCL
  go_wp2_with (go_at_call 32; refine (node32 _ _).mono ?_; rintro e w6 ⟨rfl, rfl⟩; first | rw [hf] | rw [ht])
  refine HCL.mono ?_
  rintro e w3 ⟨⟨u3, rfl, hO3⟩, hb3⟩
  obtain ⟨a3, c3, rfl, hO4, _⟩ := st_ownR hO3
  simp only at hO4
  rw [← HN.out.1] at hO4
  simp only
  rw [← HN.out.1]
  obtain ⟨W3, hW3⟩ : ∃ W, W = w3.alloc (.cells #[.int .i64 lim, .slice a3 n c3] 24) := ⟨_, rfl⟩
  have hbW3 : Below w3.heap.size w3 W3 := by rw [hW3]; exact (Below.refl _ _).alloc (Nat.le_refl _) _
  have hT3 : Box W3 w3.heap.size 24 #[.int .i64 lim, .slice a3 n c3] := by rw [hW3]; exact Box.new _ _ _
  have HB3 : Hid (Below W.heap.size W W3 ∧ Below w.heap.size w W3 ∧ Box W3 w3.heap.size 24 #[.int .i64 lim, .slice a3 n c3] ∧ pksR.owns w2.heap.size W3 [.slice a3 n c3] l ∧ W.heap.size ≤ w2.heap.size ∧ w2.heap.size ≤ w3.heap.size ∧ W3.heap.size = w3.heap.size + 1) :=
    ⟨below_any (below_any HB2.out.1 hb3) hbW3, below_any (below_any HB2.out.2 hb3) hbW3, hT3, pksR.obelow hO4 hbW3, HB2.out.1.size, hb3.size, by rw [hW3]; simp⟩
  obtain ⟨q0, q1, _, _⟩ := hT3.two
  have hlen3 := run_len Try.underlying22 a3 n c3
  rw [hW3] at q0 q1
  clear hO3 hO4 hb3 hbW3 hT3 g0 g1 g2 g3 g4 d0 d1 d2 d3 HCL HB2 hlp
  by_cases hfull : (n : Int) = lim
  · have hnl : ¬ (n : Int) < lim := by omega
    obtain rfl : si = false := by rw [HSE.out.2.1]; simp [hnl]
    obtain rfl : S' = (lim, l) := by rw [HSE.out.2.2]; simp [hnl]
    obtain ⟨d0, d1, d2, d3⟩ := (HW.out.2.2.2.below HB3.out.1 HW.out.2.2.2.lt).two
    rw [hW3] at d0 d1 d2 d3
    have HLT : Hid (w.heap.size + 2 < w2.heap.size) := by have := HW.out.2.2.2.lt; have := HB3.out.2.2.2.2.1; show _ < _; omega
    have HOO : Hid (pksR.owns w2.heap.size W3 [.slice a3 n c3] l ∧ Below w.heap.size w W3) := ⟨HB3.out.2.2.2.1, HB3.out.2.1⟩
    rw [hW3] at HOO
    clear hW3 HB3
    go_wp2
    refine bodyPost_ret (v := .tuple #[.agg #[.int .i64 lim, .slice a3 n c3], .bool false, .int .i64 0]) (by simp [results, Try.results10, go_sem, *]) rfl ⟨⟨[_, _], rfl, ?_⟩, ?_⟩
    · exact stR.oweaken (n := w2.heap.size) (stR.osame (st_omkR (s := (lim, l)) HOO.out.1 HFI.out.2.2.1) (.set2 HLT.out)) (by have := HLT.out; omega)
    · exact below_set2 HOO.out.2 (by omega) _ _
  · have hlt : (n : Int) < lim := by have := HFI.out.2.2.2; omega
    obtain rfl : si = true := by rw [HSE.out.2.1]; simp [hlt]
    obtain rfl : S' = (lim, l ++ [(pf, pt, pd)]) := by rw [HSE.out.2.2]; simp [hlt]
    have hpl : m ≤ 4096 := by
      rw [HN.out.2]
      exact okP_len (p := (pf, pt, pd)) ((ferr_ok _).1 HFE.out.1.symm)
    have HC : Hid (Calls Try.prog 34 #[.agg #[.int .i64 pf, .int .i64 pt, .slice ax m cx]] W3.drew fun e w' => (∃ us', e = .returned (.agg us'.toArray) ∧ pkF.owns W3.heap.size w' us' (pf, pt, pd)) ∧ Below W3.heap.size W3 w') :=
      (copied34 n1 [.int .i64 pf, .int .i64 pt, .slice ax m cx] (pf, pt, pd) W3.drew (pkF.keep (pkF.keep HD.out.2 (.of_below HB3.out.1)) (.drew _ _)) (by rw [← HN.out.2]; omega)).mono fun e w' h => ⟨h.1, ((Below.refl _ W3).drew).trans h.2⟩
    obtain ⟨v', vss, hv, hown0, hE⟩ := HB3.out.2.2.2.1
    obtain rfl : _ = v' := by simpa using hv
    have hown : W3.ownsRow w2.heap.size 27 3 (.slice a3 n c3) n vss.flatten := by
      rw [← HN.out.1] at hown0; exact hown0
    have HO : Hid (W3.ownsRow w2.heap.size 27 3 (.slice a3 n c3) n vss.flatten ∧ Each (pkR.owns w2.heap.size W3) vss l) := ⟨hown, hE⟩
    have HBX : Hid (Box W3 w3.heap.size 24 #[.int .i64 lim, .slice a3 n c3] ∧ Box W3 (w.heap.size + 1) 27 #[.int .i64 pf, .int .i64 pt, .slice ax m cx] ∧ Box W3 (w.heap.size + 2) 24 #[.int .i64 0, .slice none 0 0]) := ⟨HB3.out.2.2.1, HW.out.2.2.1.below HB3.out.1 HW.out.2.2.1.lt, HW.out.2.2.2.below HB3.out.1 HW.out.2.2.2.lt⟩
    have HLT : Hid (w.heap.size + 2 < w2.heap.size ∧ w2.heap.size ≤ w3.heap.size ∧ W3.heap.size = w3.heap.size + 1) := ⟨by have := HW.out.2.2.2.lt; have := HB3.out.2.2.2.2.1; omega, HB3.out.2.2.2.2.2⟩
    have HBL : Hid (Below w.heap.size w W3) := HB3.out.2.1
    clear hv hown0 hown hE HB3
    go_wp2
    rw [← hW3]
    rw [← hW3] at q0 q1
    clear hW3
    obtain ⟨g0, g1, g2, _⟩ := HBX.out.2.1.three
    have hn4 : n ≤ 4096 := HFI.out.2.1
    go_region_law
      (first
        | (go_simp
           with_reducible refine Calls.mono HC.out ?_
           rintro e w4 ⟨⟨u2, rfl, hu2⟩, hb4⟩
           obtain ⟨ux, uc, hux, _⟩ := pk_own hu2
           simp only at hux
           rw [← HN.out.2] at hux
           subst hux
           obtain ⟨r2, r3, _, _⟩ := (HBX.out.1.below hb4 HBX.out.1.lt).two
           have r4 : ∀ o, (w4.alloc o).cell? ⟨w3.heap.size, 1, none⟩ = some (.slice a3 n c3) := fun o => ((HBX.out.1.below hb4 HBX.out.1.lt).alloc o).two.2.1
           try dsimp only)
        | (refine step_append_lies _ (by rfl) _ _ _ (by rfl) w2.heap.size 27 i3 _ 3 40 Try.underlying22 hi3 hz30 hz31 hz32 rfl (by omega) _ n _ (by rfl) ((own_below HO.out.1 hb4).alloc _) ⟨w4.heap.size, 0, none⟩ 1 1 [.int .i64 pf, .int .i64 pt, .slice ux m uc] (by rfl) (by rfl)
            (World.news_of_block (cs := #[.int .i64 pf, .int .i64 pt, .slice ux m uc]) (t := 27) (fr := (0, 0)) (heap_alloc_new w4 _)) (by simp [Value.oneCell']) (by omega) (by unfold maxLen; omega) (by omega) (by have := hb4.size; have := HLT.out; simp; omega) (w4.heap.size + 1) (by simp) ?_; intro gg cap3 w5 hown5 hgrow5 hat hltg
           have hbx0 : Box w5 w3.heap.size 24 #[.int .i64 lim, .slice a3 n c3] := Box.grown ((HBX.out.1.below hb4 HBX.out.1.lt).alloc _) hgrow5 (HBX.out.1.apart HO.out.1 (by decide))
           have hbx2 : Box w5 (w.heap.size + 2) 24 #[.int .i64 0, .slice none 0 0] := Box.grown ((HBX.out.2.2.below hb4 HBX.out.2.2.lt).alloc _) hgrow5 (row_ne HO.out.1 (by have := HLT.out; omega))
           obtain ⟨s0, s1, s2, s3⟩ := hbx0.two
           obtain ⟨d0, d1, d2, d3⟩ := hbx2.two
           have hS2 : Same w2.heap.size W3 (w4.alloc (.cells #[.int .i64 pf, .int .i64 pt, .slice ux m uc] 27)) := Same.trans (.of_below hb4) hb4.size (.alloc _ _ _)
           have hG3 : pksR.owns w2.heap.size w5 [.slice (some ⟨gg, 0, none⟩) (n + 1) cap3] (l ++ [(pf, pt, pd)]) := by
            refine Shape.list_push (S := pkR) (ht := Try.underlying22) (hc := cells22) (by decide) (HO.out.2.mono fun _ _ h => pkR.osame h hS2) (by rw [← HN.out.1]; exact own_same HO.out.1 hS2) (pkR.oweaken (pkR.osame hu2 (.alloc _ _ _)) (by have := HLT.out; omega)) hgrow5 ?_
            rw [← HN.out.1]
            exact hown5
           have hbe3 : Below w.heap.size w w5 := ((below_any HBL.out hb4).alloc (by have := hb4.size; have := HLT.out; omega) _).grown hgrow5 (by have := hb4.size; have := HLT.out; simp; omega) (fun j hj => by have := (HO.out.1.lt j hj).1; have := HLT.out; omega)
           have HBB : Hid (Box w5 w3.heap.size 24 #[.int .i64 lim, .slice a3 n c3] ∧ pksR.owns w2.heap.size w5 [.slice (some ⟨gg, 0, none⟩) (n + 1) cap3] (l ++ [(pf, pt, pd)]) ∧ Below w.heap.size w w5) := ⟨hbx0, hG3, hbe3⟩
           clear hown5 hgrow5 hat hltg hG3 hS2 hbx0 hbx2 hu2 hbe3))
    all_goals
      have q6 : w.heap.size + 2 < w3.heap.size := by have := HLT.out; omega
      clear r2 r3 r4 q0 q1 g0 g1 g2
      go_wp2
      refine bodyPost_ret (v := .tuple #[.agg #[.int .i64 lim, .slice (some ⟨gg, 0, none⟩) (n + 1) cap3], .bool true, .int .i64 0]) (by simp [results, Try.results10, go_sem, *]) rfl ⟨⟨[_, _], rfl, ?_⟩, ?_⟩
      · have h1 := pksR.ogrown HBB.out.2.1 (grown_set w5 w3.heap.size 1 (.slice (some ⟨gg, 0, none⟩) (n + 1) cap3)) (HBB.out.1.clear (by decide))
        exact stR.oweaken (n := w2.heap.size) (stR.osame (st_omkR (s := (lim, l ++ [(pf, pt, pd)])) h1 HFI.out.2.2.1) (.set2 (by have := HLT.out; omega))) (by have := HLT.out; omega)
      · exact below_set2 (HBB.out.2.2.setCell (p := ⟨w3.heap.size, 1, none⟩) (by have := HLT.out; simp; omega) _) (by omega) _ _

end Go.Proofs.Ytpecniajamgjiaa
