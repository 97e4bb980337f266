/-
  All blocks that are there, as the document tells them.
-/
import Derived.Test.YtkpckadicjdieaaRNext
import Derived.Test.YtkpckadicjdieaaRGet
namespace Go.Proofs.Ytkpckadicjdieaa
open Go.RowKit

theorem there_mem {s : St} {b : Bk} (h : isThere s b) : ∃ t ∈ s.2.2.1 ++ blks s.1, t.1 = b.1 ∧ t.2.1 = b.2.1 := by
  obtain ⟨h1, h2⟩ := h
  unfold last kn at h1
  rcases kn_mem ((vers s).filter (isK b.1 b.2.1)) kn0 with e | ⟨y, hy, e⟩
  · rw [e] at h1
    exact absurd h1 h2
  · obtain ⟨hv, hk⟩ := List.mem_filter.1 hy
    have hk' : y.2.2.1 = b.1 ∧ y.2.2.2.1 = b.2.1 := by simpa [isK] using hk
    refine ⟨y.2.2, ?_, hk'⟩
    rcases vers_mem hv with ⟨p, hp, hb, _⟩ | ⟨hb, _⟩
    · refine List.mem_append_right _ ?_
      unfold blks
      exact List.mem_flatten.2 ⟨p.2, List.mem_map.2 ⟨p, hp, rfl⟩, hb⟩
    · exact List.mem_append_left _ hb
theorem all_may {s : St} (h : Ok s) {t : Bk} (ht : t ∈ s.2.2.1 ++ blks s.1) : mayB t = true := by
  rcases List.mem_append.1 ht with ht | ht
  · exact List.all_eq_true.1 h.may t ht
  · unfold blks at ht
    obtain ⟨l, hl, hx⟩ := List.mem_flatten.1 ht
    obtain ⟨p, hp, rfl⟩ := List.mem_map.1 hl
    exact h.data p hp t hx
theorem cand_kind {ow ix : Int} {a b : Bk} (h1 : a.1 = b.1) (h2 : a.2.1 = b.2.1) : cand ow ix a = cand ow ix b := by unfold cand; rw [h1, h2]
theorem cand_false {ow ix : Int} {b : Bk} : cand ow ix b = false ↔ b.1 < ow ∨ (b.1 = ow ∧ b.2.1 ≤ ix ∧ 0 < ow) := by
  unfold cand
  simp only [Bool.not_eq_false', Bool.or_eq_true, Bool.and_eq_true, decide_eq_true_eq]
  constructor
  · rintro (h | ⟨⟨h, h'⟩, h''⟩)
    · exact .inl h
    · exact .inr ⟨h, h', h''⟩
  · rintro (h | ⟨h, h', h''⟩)
    · exact .inl h
    · exact .inr ⟨⟨h, h'⟩, h''⟩
/-- What has been told up to a kind. -/
structure Upto (s : St) (ow ix : Int) (L : List Bk) : Prop where
  up : L.Pairwise kLt
  mem : ∀ b, b ∈ L ↔ isThere s b ∧ cand ow ix b = false
theorem Upto.start {s : St} (h : Ok s) : Upto s 0 0 [] := by
  refine ⟨List.Pairwise.nil, fun b => ⟨(fun hb => by cases hb), fun ⟨h1, h2⟩ => ?_⟩⟩
  obtain ⟨t, ht, e1, _⟩ := there_mem h1
  have := (may_iff.1 (all_may h ht)).1.1
  rcases cand_false.1 h2 with h | h <;> omega
theorem Upto.done {s : St} {ow ix : Int} {L : List Bk} (h : Upto s ow ix L) (hn : ∀ b ∈ s.2.2.1 ++ blks s.1, cand ow ix b = false) : AllOf s L := by
  refine ⟨h.up, fun b => (h.mem b).trans ⟨fun h => h.1, fun hb => ⟨hb, ?_⟩⟩⟩
  obtain ⟨t, ht, e1, e2⟩ := there_mem hb
  rw [← cand_kind e1 e2]
  exact hn t ht
theorem Upto.next {s : St} {ow ix o x : Int} {L : List Bk} (h : Upto s ow ix L) (ho : 1 ≤ o) (hs : ∃ b ∈ s.2.2.1 ++ blks s.1, cand ow ix b = true ∧ b.1 = o ∧ b.2.1 = x) (hm : ∀ b ∈ s.2.2.1 ++ blks s.1, cand ow ix b = true → o < b.1 ∨ (o = b.1 ∧ x ≤ b.2.1)) :
    Upto s o x (if (last s o x).1.2.2 = [] then L else L ++ [(o, x, (last s o x).1.2.2)]) := by
  obtain ⟨b0, hb0, hc0, e1, e2⟩ := hs
  have hc0' : ¬ (o < ow ∨ (o = ow ∧ x ≤ ix ∧ 0 < ow)) := fun c => by
    have := cand_false.2 (by rw [e1, e2]; exact c : b0.1 < ow ∨ (b0.1 = ow ∧ b0.2.1 ≤ ix ∧ 0 < ow))
    rw [hc0] at this
    cases this
  have key : ∀ b, isThere s b ∧ cand o x b = false ↔ b ∈ L ∨ ((last s o x).1.2.2 ≠ [] ∧ b = (o, x, (last s o x).1.2.2)) := fun b => by
    constructor
    · rintro ⟨h1, h2⟩
      cases hc : cand ow ix b
      · exact .inl ((h.mem b).2 ⟨h1, hc⟩)
      · right
        obtain ⟨t, ht, k1, k2⟩ := there_mem h1
        have h3 := hm t ht (by rw [cand_kind k1 k2]; exact hc)
        have h4 := cand_false.1 h2
        have g1 : b.1 = o := by omega
        have g2 : b.2.1 = x := by omega
        obtain ⟨h5, h6⟩ := h1
        rw [g1, g2] at h5
        refine ⟨by rw [← h5]; exact h6, ?_⟩
        obtain ⟨b1, b2, b3⟩ := b
        simp only at g1 g2 h5
        rw [g1, g2, h5]
    · rintro (hb | ⟨hne, rfl⟩)
      · obtain ⟨h1, h2⟩ := (h.mem b).1 hb
        refine ⟨h1, cand_false.2 ?_⟩
        have := cand_false.1 h2
        omega
      · exact ⟨⟨rfl, hne⟩, cand_false.2 (.inr ⟨rfl, Int.le_refl _, by omega⟩)⟩
  by_cases hd : (last s o x).1.2.2 = []
  · rw [if_pos hd]
    exact ⟨h.up, fun b => by rw [key b]; simp [hd]⟩
  · rw [if_neg hd]
    refine ⟨List.pairwise_append.2 ⟨h.up, List.pairwise_singleton _ _, fun b hb c hc => ?_⟩, fun b => by rw [key b]; simp [hd]⟩
    rw [List.mem_singleton.1 hc]
    have := cand_false.1 ((h.mem b).1 hb).2
    unfold kLt
    simp only
    omega
theorem filter_less {α : Type} {p q : α → Bool} : ∀ {l : List α}, (∀ a ∈ l, q a = true → p a = true) → (∃ a ∈ l, p a = true ∧ q a = false) → (l.filter q).length < (l.filter p).length
  | [], _, ⟨a, ha, _⟩ => by cases ha
  | x :: l, h1, ⟨a, ha, hp, hq⟩ => by
    have hle : ∀ {m : List α}, (∀ a ∈ m, q a = true → p a = true) → (m.filter q).length ≤ (m.filter p).length := fun {m} hm => by
      induction m with
      | nil => simp
      | cons y m ih =>
        have := ih fun a ha => hm a (List.mem_cons_of_mem _ ha)
        have hy := hm y (List.mem_cons_self ..)
        cases hqy : q y
        · cases hpy : p y <;> simp [hqy, hpy] <;> omega
        · simp [hqy, hy hqy]; omega
    have hl := hle fun a ha => h1 a (List.mem_cons_of_mem _ ha)
    rcases List.mem_cons.1 ha with rfl | ha
    · simp [hp, hq]; omega
    · have := filter_less (fun a ha => h1 a (List.mem_cons_of_mem _ ha)) ⟨a, ha, hp, hq⟩
      have hx := h1 x (List.mem_cons_self ..)
      cases hqx : q x
      · cases hpx : p x <;> simp [hqx, hpx] <;> omega
      · simp [hqx, hx hqx]; omega

set_option maxRecDepth 100000 in
set_option maxHeartbeats 8000000 in
theorem rall_any (n0 : Nat) (us : List Value) (s : St) (w : World) (h : stR.lies n0 w us s) :
    Calls Try.prog 16 #[.agg us.toArray] w fun e w' => (∃ v' L, e = .returned (.tuple #[v', .int .i64 (okE s)]) ∧ bksR.owns w.heap.size w' [v'] L ∧ (Ok s → AllOf s L) ∧ (¬ Ok s → L = [])) ∧ Below w.heap.size w w' := by
  obtain ⟨a, c, b, d, e, f, rfl, hS, hH, hO, hN, m1, m2, m3⟩ := st_viewR h
  obtain ⟨post, hpost⟩ : ∃ post : Ending → World → Prop, post = fun e w' => (∃ v' L, e = .returned (.tuple #[v', .int .i64 (okE s)]) ∧ bksR.owns w.heap.size w' [v'] L ∧ (Ok s → AllOf s L) ∧ (¬ Ok s → L = [])) ∧ Below w.heap.size w w' := ⟨_, rfl⟩
  have HNO : Hid (∀ w', ¬ Ok s → Below w.heap.size w w' → post (.returned (.tuple #[.slice none 0 0, .int .i64 9])) w') := fun w' h1 h3 => by
    rw [hpost]
    exact ⟨⟨_, [], by rw [okE_bad h1], Shape.list_nil bkR 24 Try.underlying24 cells24 _ _, fun h => absurd h h1, fun _ => rfl⟩, h3⟩
  have HYES : Hid (∀ v' L w', Ok s → bksR.owns w.heap.size w' [v'] L → AllOf s L → Below w.heap.size w w' → post (.returned (.tuple #[v', .int .i64 0])) w') := fun v' L w' h1 h2 h4 h3 => by
    rw [hpost]
    exact ⟨⟨v', L, by rw [okE_ok h1], h2, fun _ => h4, fun h => absurd h1 h⟩, h3⟩
  rw [← hpost]
  clear hpost
  obtain ⟨n, hn⟩ : ∃ n, n = s.1.length := ⟨_, rfl⟩
  obtain ⟨nh, hnh⟩ : ∃ n, n = s.2.1.length := ⟨_, rfl⟩
  obtain ⟨no, hno⟩ : ∃ n, n = s.2.2.1.length := ⟨_, rfl⟩
  obtain ⟨nx, hnx⟩ : ∃ n, n = s.2.2.2 := ⟨_, rfl⟩
  rw [← hn, ← hnh, ← hno, ← hnx] at h ⊢
  obtain ⟨W, hW⟩ : ∃ W, W = w.alloc (.cells #[.slice a n c, .slice b nh d, .slice e no f, .int .i64 nx] 26) := ⟨_, rfl⟩
  have hbW : Below w.heap.size w W := by rw [hW]; exact (Below.refl _ w).alloc (Nat.le_refl _) _
  have hB1 : Box W w.heap.size 26 #[.slice a n c, .slice b nh d, .slice e no f, .int .i64 nx] := by rw [hW]; exact Box.new _ _ _
  have HC := rcheckL_any n0 [.slice a n c, .slice b nh d, .slice e no f, .int .i64 nx] s W (stR.below h hbW)
  have HW : Hid (Below w.heap.size w W ∧ Box W w.heap.size 26 #[.slice a n c, .slice b nh d, .slice e no f, .int .i64 nx] ∧ stR.lies n0 w [.slice a n c, .slice b nh d, .slice e no f, .int .i64 nx] s) := ⟨hbW, hB1, h⟩
  obtain ⟨g0, g1, g2, g3, -⟩ := hB1.four
  rw [hW] at g0 g1 g2 g3
  clear h hS hH hO hN m1 m2 m3 hbW hB1 hn hnh hno hnx
  go_enter Try.func16, Try.ntmps16
  go_wp2_with fail
  rw [← hW]
  clear hW g0 g1 g2 g3
  refine HC.mono ?_
  rintro e1 w1 ⟨rfl, hb1⟩
  have HB1 : Hid (Below W.heap.size W w1) := hb1
  clear hb1 HC
  rcases okE_cases s with ⟨hk, hok⟩ | ⟨hk, hok⟩
  case inr =>
    rw [hk]
    have HE : Hid (post (.returned (.tuple #[.slice none 0 0, .int .i64 9])) w1) := HNO.out w1 hok (below_any HW.out.1 HB1.out)
    clear hk hok
    go_wp2
    exact HE.out
  case inl =>
    rw [hk]
    have HOK : Hid (Ok s ∧ (s.2.2.1 ++ blks s.1).length ≤ 1000) := ⟨hok, by
      have h1 := blks_length (l := s.1) fun q hq => hok.small q hq
      have h3 := hok.few
      have h4 := hok.slots.2
      rw [List.length_append]
      omega⟩
    obtain ⟨AL, hAL⟩ : ∃ AL, AL = s.2.2.1 ++ blks s.1 := ⟨_, rfl⟩
    have HAL : Hid (AL = s.2.2.1 ++ blks s.1) := hAL
    clear hk hok hAL
    go_wp2
    go_loopw [4, 5, 6] (fun v o x wr => ∃ (ow ix : Int) (L : List Bk), o = .int .i64 ow ∧ x = .int .i64 ix ∧ Hid (Upto s ow ix L ∧ bksR.owns W.heap.size wr [v] L ∧ Below W.heap.size W wr ∧ L.length + (AL.filter (cand ow ix)).length ≤ 2000 ∧ I64 ow ∧ I64 ix)) (fun _ o x _ => (AL.filter (cand (intOf o) (intOf x))).length)
    case atStart => exact ⟨0, 0, [], rfl, rfl, Upto.start HOK.out.1, Shape.list_nil bkR 24 Try.underlying24 cells24 _ _, HB1.out, by have h1 := List.length_filter_le (cand 0 0) AL; have h2 := HOK.out.2; rw [← HAL.out] at h2; simp only [List.length_nil]; omega, ⟨by omega, by omega⟩, ⟨by omega, by omega⟩⟩
    case round =>
      obtain ⟨ow, ix, L, rfl, rfl, HJ⟩ := hrel
      obtain ⟨z0, z1, z2, z3, -⟩ := (HW.out.2.1.below HJ.out.2.2.1 HW.out.2.1.lt).four
      have hbr := below_any HW.out.1 HJ.out.2.2.1
      have HC := rnext_any n0 [.slice a n c, .slice b nh d, .slice e no f, .int .i64 nx] s ow ix wr (stR.below HW.out.2.2 hbr) HOK.out.1
      rw [← HAL.out] at HC
      have HT : Hid (Sought ow ix AL (bst ow ix AL)) := bst_told ow ix AL
      obtain ⟨⟨ro, rx, rs⟩, hr⟩ : ∃ r, r = bst ow ix AL := ⟨_, rfl⟩
      rw [← hr] at HC HT
      simp only at HC
      obtain ⟨av, cv, _, hvv, -⟩ := Shape.list_own (S := bkR) (ht := Try.underlying24) (hc := cells24) HJ.out.2.1
      obtain rfl : u4 = .slice av L.length cv := (List.cons.inj hvv).1
      obtain ⟨lm, hlm⟩ : ∃ z, z = L.length := ⟨_, rfl⟩
      have HLM : Hid (lm = L.length) := hlm
      rw [← hlm] at HJ ⊢
      clear hr hbr hvv hlm
      go_wp2_with fail
      clear z0 z1 z2 z3
      refine HC.mono ?_
      rintro e2 w2 ⟨rfl, hb2⟩
      have HB2 : Hid (Below wr.heap.size wr w2) := hb2
      clear HC hb2
      cases rs with
      | false =>
        have HE : Hid (post (.returned (.tuple #[.slice av lm cv, .int .i64 0])) w2) := by
          rcases HT.out with ⟨_, _, h3⟩ | ⟨h1, _⟩
          · exact HYES.out _ L w2 HOK.out.1 (bksR.obelow (bksR.oweaken HJ.out.2.1 HW.out.1.size) HB2.out) (HJ.out.1.done (by rw [← HAL.out]; exact h3)) (below_any (below_any HW.out.1 HJ.out.2.2.1) HB2.out)
          · cases h1
        go_wp2
        exact HE.out
      | true =>
        have HSO : Hid ((∃ b ∈ AL, cand ow ix b = true ∧ b.1 = ro ∧ b.2.1 = rx) ∧ (∀ b ∈ AL, cand ow ix b = true → ro < b.1 ∨ (ro = b.1 ∧ rx ≤ b.2.1)) ∧ 1 ≤ ro ∧ I64 ro ∧ I64 rx) := by
          rcases HT.out with ⟨h1, _⟩ | ⟨_, h2, h3⟩
          · cases h1
          · refine ⟨h2, h3, ?_⟩
            obtain ⟨b0, hb0, _, e1, e2⟩ := h2
            have hmb := may_iff.1 (all_may HOK.out.1 (by rw [← HAL.out]; exact hb0))
            simp only at e1 e2
            exact ⟨by omega, ⟨by omega, by omega⟩, ⟨by omega, by omega⟩⟩
        have hb2w : Below W.heap.size W w2 := HJ.out.2.2.1.trans (HB2.out.mono HJ.out.2.2.1.size)
        have HCL := rlast_any n0 [.slice a n c, .slice b nh d, .slice e no f, .int .i64 nx] s ro rx w2 (stR.below HW.out.2.2 (below_any HW.out.1 hb2w)) HOK.out.1
        obtain ⟨z0, z1, z2, z3, -⟩ := (HW.out.2.1.below hb2w HW.out.2.1.lt).four
        have HBW : Hid (Below W.heap.size W w2) := hb2w
        have HNX : Hid (Upto s ro rx (if (last s ro rx).1.2.2 = [] then L else L ++ [(ro, rx, (last s ro rx).1.2.2)])) := HJ.out.1.next HSO.out.2.2.1 (by rw [← HAL.out]; exact HSO.out.1) (by rw [← HAL.out]; exact HSO.out.2.1)
        have HLS : Hid ((AL.filter (cand ro rx)).length < (AL.filter (cand ow ix)).length) := filter_less (fun t _ hq => by
            cases hc : cand ow ix t
            · have h5 := cand_false.1 hc
              obtain ⟨b0, hb0, hc0, e1, e2⟩ := HSO.out.1
              have h6 : ¬ (b0.1 < ow ∨ (b0.1 = ow ∧ b0.2.1 ≤ ix ∧ 0 < ow)) := fun c => by have := cand_false.2 c; rw [hc0] at this; cases this
              have h7 : cand ro rx t = false := cand_false.2 (by have := HSO.out.2.2.1; omega)
              rw [h7] at hq
              cases hq
            · rfl) (by
            obtain ⟨b0, hb0, hc0, e1, e2⟩ := HSO.out.1
            exact ⟨b0, hb0, hc0, cand_false.2 (.inr ⟨e1, by omega, by have := HSO.out.2.2.1; omega⟩)⟩)
        clear hb2w
        go_wp2_with fail
        clear z0 z1 z2 z3
        refine HCL.mono ?_
        rintro e3 w3 ⟨⟨sq, pl, ct, v3, rfl, hkx⟩, hb3⟩
        obtain ⟨kb, hkn, hka, -, -⟩ := hkx
        obtain ⟨ka, kc, rfl, -⟩ := hka.shape
        unfold last at HNX
        have HLMY : Hid (kb.2.2.length ≤ 32) := by
          have h1 := last_may HOK.out.1 ro rx
          unfold last at h1
          rw [hkn] at h1
          exact h1
        rw [hkn] at HNX
        simp only at HNX
        obtain ⟨km, hkm⟩ : ∃ z, z = kb.2.2.length := ⟨_, rfl⟩
        have HKM : Hid (km = kb.2.2.length) := hkm
        have HKA : Hid (Arg 0 w3 (.slice ka km kc) kb.2.2) := by rw [hkm]; exact hka.below hb3
        have hl5 := run_len Try.underlying27 ka km kc
        have hb3w : Below W.heap.size W w3 := HBW.out.trans (hb3.mono HBW.out.size)
        have HB3 : Hid (Below W.heap.size W w3 ∧ bksR.owns W.heap.size w3 [.slice av lm cv] L) := ⟨hb3w, bksR.obelow (bksR.obelow HJ.out.2.1 HB2.out) hb3⟩
        rw [← hkm]
        clear hkn hka hb3 hb3w HCL hkm
        by_cases h0 : km = 0
        · have HF : Hid (Upto s ro rx L ∧ bksR.owns W.heap.size w3 [.slice av lm cv] L ∧ Below W.heap.size W w3 ∧ L.length + (AL.filter (cand ro rx)).length ≤ 2000 ∧ I64 ro ∧ I64 rx) := ⟨by
            have := HNX.out
            rw [if_pos (List.eq_nil_of_length_eq_zero (by rw [← HKM.out]; exact h0))] at this
            exact this, HB3.out.2, HB3.out.1, by have := HLS.out; have := HJ.out.2.2.2.1; have := HLM.out; omega, HSO.out.2.2.2⟩
          subst h0
          go_wp2
          go_roundw
          case rel => exact ⟨ro, rx, L, rfl, rfl, HF.out⟩
          case measure => exact HLS.out
        · have h0i : (0 : Int) < (km : Int) := by omega
          have HCP := rcopied_any 0 (.slice ka km kc) kb.2.2 w3 HKA.out (by have := HLMY.out; omega)
          go_wp2_with fail
          refine HCP.mono ?_
          rintro e4 w4 ⟨⟨v4, rfl, ho4⟩, hb4⟩
          obtain ⟨i3, hi3, hz30, hz31, hz32⟩ := info_parts Try.info29
          have hb4w : Below W.heap.size W w4 := HB3.out.1.trans (hb4.mono HB3.out.1.size)
          obtain ⟨g5, c5, w5, hrun, ho5, hg5, hs5⟩ := list_append bkR 24 Try.underlying24 cells24 hi3 hz30 hz31 hz32 rfl (by decide) (by decide) (bksR.obelow HB3.out.2 hb4) (bk_omk (p := (ro, rx, kb.2.2)) (bytesS.oweaken ho4 HB3.out.1.size) HSO.out.2.2.2.1 HSO.out.2.2.2.2) hb4w.size (by have := HJ.out.2.2.2.1; have := HLM.out; omega) (by have := HJ.out.2.2.2.1; have := HLM.out; unfold maxLen; omega)
          rw [← HLM.out] at hrun ho5
          obtain ⟨_, hrow⟩ : ∃ xs, w4.ownsRow W.heap.size 29 3 (.slice av lm cv) L.length xs := by
            obtain ⟨v9, vss, hv9, hown, _⟩ := bksR.obelow HB3.out.2 hb4
            obtain rfl : Value.slice av lm cv = v9 := by simpa using hv9
            exact ⟨_, hown⟩
          have HF : Hid (Upto s ro rx (L ++ [(ro, rx, kb.2.2)]) ∧ bksR.owns W.heap.size w5 [.slice (some ⟨g5, 0, none⟩) (lm + 1) c5] (L ++ [(ro, rx, kb.2.2)]) ∧ Below W.heap.size W w5 ∧ (L ++ [(ro, rx, kb.2.2)]).length + (AL.filter (cand ro rx)).length ≤ 2000 ∧ I64 ro ∧ I64 rx) := ⟨by
            have := HNX.out
            rw [if_neg (fun c => h0 (by rw [HKM.out, c]; rfl))] at this
            exact this, ho5, below_row hb4w hrow hg5 hb4w.size, by have := HLS.out; have := HJ.out.2.2.2.1; have := HLM.out; rw [List.length_append]; simp only [List.length_cons, List.length_nil]; omega, HSO.out.2.2.2⟩
          obtain ⟨a4, c4, hv4⟩ := ho4.shape
          subst hv4
          clear HCP ho4 hb4 hb4w ho5 hg5 hs5 hrow hi3 hz30 hz31 hz32
          go_wp2_with (at_builtin; refine list_app rfl _ _ 24 rfl rfl rfl rfl hrun ?_)
          go_roundw
          case rel => exact ⟨ro, rx, _, rfl, rfl, HF.out⟩
          case measure => exact HLS.out

end Go.Proofs.Ytkpckadicjdieaa
