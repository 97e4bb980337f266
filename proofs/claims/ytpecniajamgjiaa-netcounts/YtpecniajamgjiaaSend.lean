/-
  What Send answers: the error, whether the packet is on its way, and the network behind it.
-/
import Derived.Test.YtpecniajamgjiaaClone
import Derived.Test.YtpecniajamgjiaaRefCheck
namespace Go.Proofs.Ytpecniajamgjiaa
open Go.RowKit

def zst : St := (0, [])
def zpk : Pk := (0, 0, [])
def serr (s : St) (p : Pk) : Int := if chk s = false then 9 else ferr p
def sis (s : St) (p : Pk) : Bool := if serr s p = 0 then decide ((s.2.length : Int) < s.1) else false
def sst (s : St) (p : Pk) : St := if serr s p = 0 then (if (s.2.length : Int) < s.1 then (s.1, s.2 ++ [p]) else s) else zst

theorem zero_i64 : I64 0 := ⟨by omega, by omega⟩
theorem zst_ownN (n : Nat) (w : World) : stN.owns n w [.int .i64 0, .slice none 0 0] zst := st_omkN (s := zst) (Shape.list_nil pkN 28 Try.underlying28 cells28 n w) zero_i64
theorem zst_ownR (n : Nat) (w : World) : stR.owns n w [.int .i64 0, .slice none 0 0] zst := st_omkR (s := zst) (Shape.list_nil pkR 22 Try.underlying22 cells22 n w) zero_i64
theorem zpk_own (n : Nat) (w : World) : pkF.owns n w [.int .i64 0, .int .i64 0, .slice none 0 0] zpk := pk_omk (p := zpk) (.mk (World.ownsRow_nil _ _ _ _) (fun _ h => by cases h)) zero_i64 zero_i64

theorem okP_len {p : Pk} (h : okP p = true) : p.2.2.length ≤ 4096 := by
  simp only [okP, Bool.and_eq_true, decide_eq_true_eq] at h
  exact h.2
theorem chk_fits {s : St} (h : chk s = true) : Fits s ∧ s.2.length ≤ 4096 := by
  obtain ⟨h1, h2, h3, h4⟩ := chk_facts h
  exact ⟨⟨by omega, fun p hp => by have := okP_len (h4 p hp); omega⟩, by omega⟩
theorem chk_i64 {s : St} (h : chk s = true) : I64 s.1 := by
  obtain ⟨h1, h2, _⟩ := chk_facts h
  exact ⟨by omega, by omega⟩

attribute [local go_sem ↓] Go.wp_at_zero Go.wp_at_succ

set_option maxRecDepth 100000 in
set_option maxHeartbeats 8000000 in
theorem send_any (n0 n1 : Nat) (us ups : List Value) (s : St) (p : Pk) (w : World) (h : stN.lies n0 w us s) (hp : pkF.lies n1 w ups p) :
    Calls Try.prog 9 #[.agg us.toArray, .agg ups.toArray] w fun e w' => (∃ us', e = .returned (.tuple #[.agg us'.toArray, .bool (sis s p), .int .i64 (serr s p)]) ∧ stN.owns w.heap.size w' us' (sst s p)) ∧ Below w.heap.size w w' := by
  obtain ⟨a, c, rfl, hL, hi, hm⟩ := st_viewN h
  obtain ⟨ax, cx, rfl, hA, hf, ht⟩ := pk_view hp
  obtain ⟨i3, hi3, hz30, hz31, hz32⟩ := info_parts Try.info32
  obtain ⟨lim, l⟩ := s
  obtain ⟨pf, pt, pd⟩ := p
  simp only at hL hi hm hA hf ht
  obtain ⟨n, hn⟩ : ∃ n, n = l.length := ⟨_, rfl⟩
  obtain ⟨m, hm'⟩ : ∃ m, m = pd.length := ⟨_, rfl⟩
  obtain ⟨W, hW⟩ : ∃ W, W = ((w.alloc (.cells #[.int .i64 lim, .slice a n c] 30)).alloc (.cells #[.int .i64 pf, .int .i64 pt, .slice ax m cx] 32)).alloc (.cells #[.int .i64 0, .slice none 0 0] 30) := ⟨_, rfl⟩
  have hb : Below w.heap.size w W := by
    rw [hW]; exact (((Below.refl _ w).alloc (Nat.le_refl _) _).alloc (by simp) _).alloc (by simp; omega) _
  have hB0 : Box W w.heap.size 30 #[.int .i64 lim, .slice a n c] := by
    rw [hW]; exact ((Box.new w 30 _).alloc _).alloc _
  have hB1 : Box W (w.heap.size + 1) 32 #[.int .i64 pf, .int .i64 pt, .slice ax m cx] := by
    rw [hW]
    have := (Box.new (w.alloc (.cells #[.int .i64 lim, .slice a n c] 30)) 32 #[.int .i64 pf, .int .i64 pt, .slice ax m cx]).alloc (.cells #[.int .i64 0, .slice none 0 0] 30)
    simpa using this
  have hB2 : Box W (w.heap.size + 2) 30 #[.int .i64 0, .slice none 0 0] := by
    rw [hW]
    have := Box.new ((w.alloc (.cells #[.int .i64 lim, .slice a n c] 30)).alloc (.cells #[.int .i64 pf, .int .i64 pt, .slice ax m cx] 32)) 30 #[.int .i64 0, .slice none 0 0]
    simpa using this
  have HW : Hid (Below w.heap.size w W ∧ Box W w.heap.size 30 #[.int .i64 lim, .slice a n c] ∧ Box W (w.heap.size + 1) 32 #[.int .i64 pf, .int .i64 pt, .slice ax m cx] ∧ Box W (w.heap.size + 2) 30 #[.int .i64 0, .slice none 0 0]) := ⟨hb, hB0, hB1, hB2⟩
  have HD : Hid (stN.lies n0 W [.int .i64 lim, .slice a n c] (lim, l) ∧ pkF.lies n1 W [.int .i64 pf, .int .i64 pt, .slice ax m cx] (pf, pt, pd)) := by
    rw [hn, hm']
    exact ⟨stN.below h hb, pkF.keep hp (.of_below hb)⟩
  have HN : Hid (n = l.length ∧ m = pd.length) := ⟨hn, hm'⟩
  have HC := check_any n0 _ (lim, l) W HD.out.1
  have HF : Hid (∀ w', Calls Try.prog 29 #[.agg #[.int .i64 pf, .int .i64 pt, .slice ax m cx]] w' fun e w'' => e = .returned (.int .i64 (ferr (pf, pt, pd))) ∧ Below w'.heap.size w' w'') := fun w' => by
    have := fault_any ax cx (pf, pt, pd) w'
    simp only at this
    rw [← hm'] at this
    exact this
  obtain ⟨se, hse⟩ : ∃ x, x = serr (lim, l) (pf, pt, pd) := ⟨_, rfl⟩
  obtain ⟨si, hsi⟩ : ∃ x, x = sis (lim, l) (pf, pt, pd) := ⟨_, rfl⟩
  obtain ⟨S', hS'⟩ : ∃ x, x = sst (lim, l) (pf, pt, pd) := ⟨_, rfl⟩
  obtain ⟨fe, hfe⟩ : ∃ x, x = ferr (pf, pt, pd) := ⟨_, rfl⟩
  rw [← hse, ← hsi, ← hS']
  have HSE : Hid (se = (if chk (lim, l) = false then 9 else fe) ∧ si = (if se = 0 then decide ((n : Int) < lim) else false) ∧ S' = (if se = 0 then (if (n : Int) < lim then (lim, l ++ [(pf, pt, pd)]) else (lim, l)) else zst)) := by
    refine ⟨?_, ?_, ?_⟩
    · rw [hse, hfe]; rfl
    · rw [hse, hsi, hn]; rfl
    · rw [hse, hS', hn]; rfl
  have HFE : Hid (fe = ferr (pf, pt, pd)) := hfe
  rw [← hfe] at HF
  simp only
  rw [← hn, ← hm']
  unfold cerr at HC
  clear h hL hi hm hA hf ht hp hb hB0 hB1 hB2 hn hm' hse hsi hS' hfe
  go_enter Try.func9, Try.ntmps9
  go_wp2_with fail
  rw [← hW]
  clear hW
  cases hc : chk (lim, l)
  · obtain rfl : se = 9 := by rw [HSE.out.1, hc]; rfl
    obtain rfl : si = false := HSE.out.2.1
    obtain rfl : S' = zst := HSE.out.2.2
    rw [hc] at HC
    refine HC.mono ?_
    rintro e w1 ⟨rfl, hb1⟩
    obtain ⟨d0, d1, d2, d3⟩ := (HW.out.2.2.2.below hb1 HW.out.2.2.2.lt).two
    have HB : Hid (Below w.heap.size w w1) := below_any HW.out.1 hb1
    clear hb1 HC
    go_wp2
    refine bodyPost_ret (v := .tuple #[.agg #[.int .i64 0, .slice none 0 0], .bool false, .int .i64 9]) (by simp [results, Try.results9, go_sem, *]) rfl ⟨⟨[_, _], rfl, zst_ownN _ _⟩, ?_⟩
    exact below_set2 HB.out (by omega) _ _
  rw [hc] at HC
  refine HC.mono ?_
  rintro e w1 ⟨rfl, hb1⟩
  have HB1 : Hid (Below W.heap.size W w1 ∧ Below w.heap.size w w1) := ⟨hb1, below_any HW.out.1 hb1⟩
  obtain ⟨g0, g1, g2, _⟩ := (HW.out.2.2.1.below hb1 HW.out.2.2.1.lt).three
  clear HC hb1
  go_wp2_with fail
  refine (HF.out w1).mono ?_
  rintro e w2 ⟨rfl, hb2⟩
  have HB2 : Hid (Below W.heap.size W w2 ∧ Below w.heap.size w w2) := ⟨below_any HB1.out.1 hb2, below_any HB1.out.2 hb2⟩
  clear hb2 g0 g1 g2 HB1
  by_cases hfe : fe = 0
  case neg =>
    have e1 : se = fe := by rw [HSE.out.1, hc]; rfl
    subst e1
    obtain rfl : si = false := by rw [HSE.out.2.1, if_neg hfe]
    obtain rfl : S' = zst := by rw [HSE.out.2.2, if_neg hfe]
    obtain ⟨d0, d1, d2, d3⟩ := (HW.out.2.2.2.below HB2.out.1 HW.out.2.2.2.lt).two
    go_wp2
    refine bodyPost_ret (v := .tuple #[.agg #[.int .i64 0, .slice none 0 0], .bool false, .int .i64 se]) (by simp [results, Try.results9, go_sem, *]) rfl ⟨⟨[_, _], rfl, zst_ownN _ _⟩, ?_⟩
    exact below_set2 HB2.out.2 (by omega) _ _
  subst hfe
  obtain rfl : se = 0 := by rw [HSE.out.1, hc]; rfl
  have HFT := chk_fits hc
  simp only at HFT
  have HFI : Hid (Fits (lim, l) ∧ n ≤ 4096 ∧ I64 lim ∧ (n : Int) ≤ lim) := ⟨HFT.1, by rw [HN.out.1]; exact HFT.2, chk_i64 hc, by rw [HN.out.1]; exact (chk_facts hc).2.2.1⟩
  obtain ⟨g0, g1, _, _⟩ := (HW.out.2.1.below HB2.out.1 HW.out.2.1.lt).two
  clear HFT
  have HCL := clone_any n0 _ (lim, l) w2 (stN.below HD.out.1 HB2.out.1) HFI.out.1
  go_wp2_with fail
  refine HCL.mono ?_
  rintro e w3 ⟨⟨u3, rfl, hO3⟩, hb3⟩
  obtain ⟨a3, c3, rfl, hO4, _⟩ := st_ownN hO3
  simp only at hO4
  rw [← HN.out.1] at hO4
  simp only
  rw [← HN.out.1]
  obtain ⟨W3, hW3⟩ : ∃ W, W = w3.alloc (.cells #[.int .i64 lim, .slice a3 n c3] 30) := ⟨_, rfl⟩
  have hbW3 : Below w3.heap.size w3 W3 := by rw [hW3]; exact (Below.refl _ _).alloc (Nat.le_refl _) _
  have hT3 : Box W3 w3.heap.size 30 #[.int .i64 lim, .slice a3 n c3] := by rw [hW3]; exact Box.new _ _ _
  have HB3 : Hid (Below W.heap.size W W3 ∧ Below w.heap.size w W3 ∧ Box W3 w3.heap.size 30 #[.int .i64 lim, .slice a3 n c3] ∧ pksN.owns w2.heap.size W3 [.slice a3 n c3] l ∧ W.heap.size ≤ w2.heap.size ∧ w2.heap.size ≤ w3.heap.size ∧ W3.heap.size = w3.heap.size + 1) :=
    ⟨below_any (below_any HB2.out.1 hb3) hbW3, below_any (below_any HB2.out.2 hb3) hbW3, hT3, pksN.obelow hO4 hbW3, HB2.out.1.size, hb3.size, by rw [hW3]; simp⟩
  obtain ⟨q0, q1, _, _⟩ := hT3.two
  have hlen3 := run_len Try.underlying28 a3 n c3
  rw [hW3] at q0 q1
  clear hO3 hO4 hb3 hbW3 hT3 g0 g1 HCL HB2
  by_cases hfull : (n : Int) = lim
  · have hnl : ¬ (n : Int) < lim := by omega
    obtain rfl : si = false := by rw [HSE.out.2.1]; simp [hnl]
    obtain rfl : S' = (lim, l) := by rw [HSE.out.2.2]; simp [hnl]
    obtain ⟨d0, d1, d2, d3⟩ := (HW.out.2.2.2.below HB3.out.1 HW.out.2.2.2.lt).two
    rw [hW3] at d0 d1 d2 d3
    have HLT : Hid (w.heap.size + 2 < w2.heap.size) := by have := HW.out.2.2.2.lt; have := HB3.out.2.2.2.2.1; show _ < _; omega
    have HOO : Hid (pksN.owns w2.heap.size W3 [.slice a3 n c3] l ∧ Below w.heap.size w W3) := ⟨HB3.out.2.2.2.1, HB3.out.2.1⟩
    rw [hW3] at HOO
    clear hW3 HB3
    go_wp2
    refine bodyPost_ret (v := .tuple #[.agg #[.int .i64 lim, .slice a3 n c3], .bool false, .int .i64 0]) (by simp [results, Try.results9, go_sem, *]) rfl ⟨⟨[_, _], rfl, ?_⟩, ?_⟩
    · exact stN.oweaken (n := w2.heap.size) (stN.osame (st_omkN (s := (lim, l)) HOO.out.1 HFI.out.2.2.1) (.set2 HLT.out)) (by have := HLT.out; omega)
    · exact below_set2 HOO.out.2 (by omega) _ _
  · have hlt : (n : Int) < lim := by have := HFI.out.2.2.2; omega
    obtain rfl : si = true := by rw [HSE.out.2.1]; simp [hlt]
    obtain rfl : S' = (lim, l ++ [(pf, pt, pd)]) := by rw [HSE.out.2.2]; simp [hlt]
    have hpl : m ≤ 4096 := by
      rw [HN.out.2]
      exact okP_len (p := (pf, pt, pd)) ((ferr_ok _).1 HFE.out.symm)
    have HC : Hid (Calls Try.prog 31 #[.agg #[.int .i64 pf, .int .i64 pt, .slice ax m cx]] W3.drew fun e w' => (∃ us', e = .returned (.agg us'.toArray) ∧ pkF.owns W3.heap.size w' us' (pf, pt, pd)) ∧ Below W3.heap.size W3 w') :=
      (clonePacket_any n1 [.int .i64 pf, .int .i64 pt, .slice ax m cx] (pf, pt, pd) W3.drew (pkF.keep (pkF.keep HD.out.2 (.of_below HB3.out.1)) (.drew _ _)) (by rw [← HN.out.2]; omega)).mono fun e w' h => ⟨h.1, ((Below.refl _ W3).drew).trans h.2⟩
    obtain ⟨v', vss, hv, hown0, hE⟩ := HB3.out.2.2.2.1
    obtain rfl : _ = v' := by simpa using hv
    have hown : W3.ownsRow w2.heap.size 32 3 (.slice a3 n c3) n vss.flatten := by
      rw [← HN.out.1] at hown0; exact hown0
    have HO : Hid (W3.ownsRow w2.heap.size 32 3 (.slice a3 n c3) n vss.flatten ∧ Each (pkN.owns w2.heap.size W3) vss l) := ⟨hown, hE⟩
    have HBX : Hid (Box W3 w3.heap.size 30 #[.int .i64 lim, .slice a3 n c3] ∧ Box W3 (w.heap.size + 1) 32 #[.int .i64 pf, .int .i64 pt, .slice ax m cx] ∧ Box W3 (w.heap.size + 2) 30 #[.int .i64 0, .slice none 0 0]) := ⟨HB3.out.2.2.1, HW.out.2.2.1.below HB3.out.1 HW.out.2.2.1.lt, HW.out.2.2.2.below HB3.out.1 HW.out.2.2.2.lt⟩
    have HLT : Hid (w.heap.size + 2 < w2.heap.size ∧ w2.heap.size ≤ w3.heap.size ∧ W3.heap.size = w3.heap.size + 1) := ⟨by have := HW.out.2.2.2.lt; have := HB3.out.2.2.2.2.1; omega, HB3.out.2.2.2.2.2⟩
    have HBL : Hid (Below w.heap.size w W3) := HB3.out.2.1
    clear hv hown0 hown hE HB3
    go_wp2
    rw [← hW3]
    rw [← hW3] at q0 q1
    clear hW3
    obtain ⟨g0, g1, g2, _⟩ := HBX.out.2.1.three
    have hn4 : n ≤ 4096 := HFI.out.2.1
    go_region_law
      (first
        | (go_simp
           with_reducible refine Calls.mono HC.out ?_
           rintro e w4 ⟨⟨u2, rfl, hu2⟩, hb4⟩
           obtain ⟨ux, uc, hux, _⟩ := pk_own hu2
           simp only at hux
           rw [← HN.out.2] at hux
           subst hux
           obtain ⟨r2, r3, _, _⟩ := (HBX.out.1.below hb4 HBX.out.1.lt).two
           have r4 : ∀ o, (w4.alloc o).cell? ⟨w3.heap.size, 1, none⟩ = some (.slice a3 n c3) := fun o => ((HBX.out.1.below hb4 HBX.out.1.lt).alloc o).two.2.1
           try dsimp only)
        | (refine step_append_lies _ (by rfl) _ _ _ (by rfl) w2.heap.size 32 i3 _ 3 40 Try.underlying28 hi3 hz30 hz31 hz32 rfl (by omega) _ n _ (by rfl) ((own_below HO.out.1 hb4).alloc _) ⟨w4.heap.size, 0, none⟩ 1 1 [.int .i64 pf, .int .i64 pt, .slice ux m uc] (by rfl) (by rfl)
            (World.news_of_block (cs := #[.int .i64 pf, .int .i64 pt, .slice ux m uc]) (t := 32) (fr := (0, 0)) (heap_alloc_new w4 _)) (by simp [Value.oneCell']) (by omega) (by unfold maxLen; omega) (by omega) (by have := hb4.size; have := HLT.out; simp; omega) (w4.heap.size + 1) (by simp) ?_; intro gg cap3 w5 hown5 hgrow5 hat hltg
           have hbx0 : Box w5 w3.heap.size 30 #[.int .i64 lim, .slice a3 n c3] := Box.grown ((HBX.out.1.below hb4 HBX.out.1.lt).alloc _) hgrow5 (HBX.out.1.apart HO.out.1 (by decide))
           have hbx2 : Box w5 (w.heap.size + 2) 30 #[.int .i64 0, .slice none 0 0] := Box.grown ((HBX.out.2.2.below hb4 HBX.out.2.2.lt).alloc _) hgrow5 (row_ne HO.out.1 (by have := HLT.out; omega))
           obtain ⟨s0, s1, s2, s3⟩ := hbx0.two
           obtain ⟨d0, d1, d2, d3⟩ := hbx2.two
           have hS2 : Same w2.heap.size W3 (w4.alloc (.cells #[.int .i64 pf, .int .i64 pt, .slice ux m uc] 32)) := Same.trans (.of_below hb4) hb4.size (.alloc _ _ _)
           have hG3 : pksN.owns w2.heap.size w5 [.slice (some ⟨gg, 0, none⟩) (n + 1) cap3] (l ++ [(pf, pt, pd)]) := by
            refine Shape.list_push (S := pkN) (ht := Try.underlying28) (hc := cells28) (by decide) (HO.out.2.mono fun _ _ h => pkN.osame h hS2) (by rw [← HN.out.1]; exact own_same HO.out.1 hS2) (pkN.oweaken (pkN.osame hu2 (.alloc _ _ _)) (by have := HLT.out; omega)) hgrow5 ?_
            rw [← HN.out.1]
            exact hown5
           have hbe3 : Below w.heap.size w w5 := ((below_any HBL.out hb4).alloc (by have := hb4.size; have := HLT.out; omega) _).grown hgrow5 (by have := hb4.size; have := HLT.out; simp; omega) (fun j hj => by have := (HO.out.1.lt j hj).1; have := HLT.out; omega)
           have HBB : Hid (Box w5 w3.heap.size 30 #[.int .i64 lim, .slice a3 n c3] ∧ pksN.owns w2.heap.size w5 [.slice (some ⟨gg, 0, none⟩) (n + 1) cap3] (l ++ [(pf, pt, pd)]) ∧ Below w.heap.size w w5) := ⟨hbx0, hG3, hbe3⟩
           clear hown5 hgrow5 hat hltg hG3 hS2 hbx0 hbx2 hu2 hbe3))
    all_goals
      have q6 : w.heap.size + 2 < w3.heap.size := by have := HLT.out; omega
      clear r2 r3 r4 q0 q1 g0 g1 g2
      go_wp2
      refine bodyPost_ret (v := .tuple #[.agg #[.int .i64 lim, .slice (some ⟨gg, 0, none⟩) (n + 1) cap3], .bool true, .int .i64 0]) (by simp [results, Try.results9, go_sem, *]) rfl ⟨⟨[_, _], rfl, ?_⟩, ?_⟩
      · have h1 := pksN.ogrown HBB.out.2.1 (grown_set w5 w3.heap.size 1 (.slice (some ⟨gg, 0, none⟩) (n + 1) cap3)) (HBB.out.1.clear (by decide))
        exact stN.oweaken (n := w2.heap.size) (stN.osame (st_omkN (s := (lim, l ++ [(pf, pt, pd)])) h1 HFI.out.2.2.1) (.set2 (by have := HLT.out; omega))) (by have := HLT.out; omega)
      · exact below_set2 (HBB.out.2.2.setCell (p := ⟨w3.heap.size, 1, none⟩) (by have := HLT.out; simp; omega) _) (by omega) _ _

end Go.Proofs.Ytpecniajamgjiaa
