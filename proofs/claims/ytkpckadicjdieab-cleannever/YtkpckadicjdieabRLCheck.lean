/-
  What the document's Check answers, for every store.
-/
import Derived.Test.YtkpckadicjdieabLCheck2
import Derived.Test.YtkpckadicjdieabRCheck
namespace Go.Proofs.Ytkpckadicjdieab
open Go.RowKit

set_option maxHeartbeats 400000 in
theorem rfree_any (q : Int) (a : Option Addr) (n c : Nat) (w : World) : Calls Try.prog 44 #[.agg #[.int .i64 q, .slice a n c]] w fun e w' => e = .returned (.bool (decide (q = 0) && decide (n = 0))) ∧ Below w.heap.size w w' := by
  have hl1 := run_len Try.underlying24 a n c
  have HB : Hid (Below w.heap.size w (w.alloc (.cells #[.int .i64 q, .slice a n c] 36))) := (Below.refl _ w).alloc (Nat.le_refl _) _
  by_cases h1 : q = 0
  · subst h1
    by_cases h2 : n = 0
    · subst h2
      go_enter Try.func44, Try.ntmps44
      go_wp2
      go_ret
      exact ⟨rfl, HB.out⟩
    · have h2i : ((n : Int) == 0) = false := by simp; omega
      have e2 : decide (n = 0) = false := decide_eq_false h2
      rw [e2]
      clear h2 e2
      go_enter Try.func44, Try.ntmps44
      go_wp2
      go_ret
      exact ⟨by simp, HB.out⟩
  · have h1i : (q == 0) = false := by simp [h1]
    have e1 : decide (q = 0) = false := decide_eq_false h1
    rw [e1]
    clear h1 e1
    go_enter Try.func44, Try.ntmps44
    go_wp2
    go_ret
    exact ⟨by simp, HB.out⟩


theorem seqs_mem {l : List Sg} {q : Int} (h : q ∈ seqs l) : ∃ (i : Nat) (p : Sg), l[i]? = some p ∧ p.1 = q := by
  unfold seqs at h
  obtain ⟨p, hp, rfl⟩ := List.mem_map.1 h
  obtain ⟨i, hi⟩ := List.mem_iff_getElem?.1 (List.mem_filter.1 hp).1
  exact ⟨i, p, hi, rfl⟩
theorem mem_seqs {l : List Sg} {p : Sg} (h : p ∈ l) (h0 : 1 ≤ p.1) : p.1 ∈ seqs l := by
  unfold seqs
  refine List.mem_map.2 ⟨p, List.mem_filter.2 ⟨h, ?_⟩, rfl⟩
  cases hf : freeB p
  · rfl
  · have := (free_iff.1 hf).1
    omega

set_option maxRecDepth 100000 in
set_option maxHeartbeats 8000000 in
theorem rcheckL_any (n0 : Nat) (us : List Value) (s : St) (w : World) (h : stR.lies n0 w us s) :
    Calls Try.prog 15 #[.agg us.toArray] w fun e w' => e = .returned (.int .i64 (okE s)) ∧ Below w.heap.size w w' := by
  obtain ⟨a, c, b, d, e, f, rfl, hS, hH, hO, hN, m1, m2, m3⟩ := st_viewR h
  obtain ⟨l, hd, op, nx⟩ := s
  simp only at hS hH hO hN m1 m2 m3 ⊢
  unfold maxLen at m1 m2 m3
  obtain ⟨post, hpost⟩ : ∃ post : Ending → World → Prop, post = fun e w' => e = .returned (.int .i64 (okE (l, hd, op, nx))) ∧ Below w.heap.size w w' := ⟨_, rfl⟩
  have HP9 : Hid (∀ w', ¬ Ok (l, hd, op, nx) → Below w.heap.size w w' → post (.returned (.int .i64 9)) w') := fun w' h1 h2 => by rw [hpost]; exact ⟨by rw [okE_bad h1], h2⟩
  have HP0 : Hid (∀ w', Ok (l, hd, op, nx) → Below w.heap.size w w' → post (.returned (.int .i64 0)) w') := fun w' h1 h2 => by rw [hpost]; exact ⟨by rw [okE_ok h1], h2⟩
  rw [← hpost]
  clear hpost
  obtain ⟨n, hn⟩ : ∃ n, n = l.length := ⟨_, rfl⟩
  obtain ⟨nh, hnh⟩ : ∃ n, n = hd.length := ⟨_, rfl⟩
  obtain ⟨no, hno⟩ : ∃ n, n = op.length := ⟨_, rfl⟩
  have HN : Hid (n = l.length ∧ nh = hd.length ∧ no = op.length) := ⟨hn, hnh, hno⟩
  have hl1 := run_len Try.underlying22 a n c
  have hl2 := run_len Try.underlying23 b nh d
  have hl3 := run_len Try.underlying24 e no f
  obtain ⟨W, hW⟩ : ∃ W, W = w.alloc (.cells #[.slice a n c, .slice b nh d, .slice e no f, .int .i64 nx] 26) := ⟨_, rfl⟩
  have hbW : Below w.heap.size w W := by rw [hW]; exact (Below.refl _ w).alloc (Nat.le_refl _) _
  have hB1 : Box W w.heap.size 26 #[.slice a n c, .slice b nh d, .slice e no f, .int .i64 nx] := by rw [hW]; exact Box.new _ _ _
  have HA : Hid (sgsR.lies n0 w [.slice a n c] l ∧ bksR.lies n0 w [.slice e no f] op) := ⟨by rw [hn]; exact hS, by rw [hno]; exact hO⟩
  rw [← hn] at m1 ⊢
  rw [← hnh] at m2 ⊢
  rw [← hno] at m3 ⊢
  have HB : Hid (Below w.heap.size w W ∧ Box W w.heap.size 26 #[.slice a n c, .slice b nh d, .slice e no f, .int .i64 nx]) := ⟨hbW, hB1⟩
  obtain ⟨g0, g1, g2, g3, -⟩ := hB1.four
  clear h hS hH hO hN hbW hB1 hn hnh hno
  by_cases h1 : n < 1
  · have h1i : (n : Int) < 1 := by omega
    have HE := HP9.out W (fun h => by have h9 := h.slots.1; have := HN.out.1; simp only at h9; omega) HB.out.1
    rw [hW] at HE
    have HE : Hid _ := HE
    clear g0 g1 g2 g3 hW
    go_enter Try.func15, Try.ntmps15
    go_wp2
    exact HE.out
  have h1i : ¬ (n : Int) < 1 := by omega
  by_cases h2 : 64 < n
  · have h2i : (64 : Int) < (n : Int) := by omega
    have HE := HP9.out W (fun h => by have h9 := h.slots.2; have := HN.out.1; simp only at h9; omega) HB.out.1
    rw [hW] at HE
    have HE : Hid _ := HE
    clear g0 g1 g2 g3 hW
    go_enter Try.func15, Try.ntmps15
    go_wp2
    exact HE.out
  have h2i : ¬ (64 : Int) < (n : Int) := by omega
  by_cases h3 : nh ≠ n
  · have h3i : ((nh : Int) == (n : Int)) = false := by simp; omega
    have h3j : ¬ (nh : Int) = (n : Int) := by omega
    have HE := HP9.out W (fun h => by have h9 := h.held; have := HN.out; simp only at h9; omega) HB.out.1
    rw [hW] at HE
    have HE : Hid _ := HE
    clear g0 g1 g2 g3 hW
    go_enter Try.func15, Try.ntmps15
    go_wp2
    exact HE.out
  obtain rfl : nh = n := by omega
  clear h3
  by_cases h4 : nx < 1
  · have h4' := h4
    have HE := HP9.out W (fun h => by have h9 := h.next.1; simp only at h9; omega) HB.out.1
    rw [hW] at HE
    have HE : Hid _ := HE
    clear g0 g1 g2 g3 hW
    go_enter Try.func15, Try.ntmps15
    go_wp2
    exact HE.out
  by_cases h5 : 1099511627776 < nx
  · have h5' := h5
    have HE := HP9.out W (fun h => by have h9 := h.next.2; simp only at h9; omega) HB.out.1
    rw [hW] at HE
    have HE : Hid _ := HE
    clear g0 g1 g2 g3 hW
    go_enter Try.func15, Try.ntmps15
    go_wp2
    exact HE.out
  by_cases h6 : 8 < no
  · have h6i : (8 : Int) < (no : Int) := by omega
    have HE := HP9.out W (fun h => by have h9 := h.few; have := HN.out; simp only at h9; omega) HB.out.1
    rw [hW] at HE
    have HE : Hid _ := HE
    clear g0 g1 g2 g3 hW
    go_enter Try.func15, Try.ntmps15
    go_wp2
    exact HE.out
  have h6i : ¬ (8 : Int) < (no : Int) := by omega
  rw [hW] at g0 g1 g2 g3
  go_enter Try.func15, Try.ntmps15
  go_wp2
  rw [← hW]
  clear hW g0 g1 g2 g3
  go_loopw [4] (fun i wr => ∃ k : Nat, k ≤ nh ∧ i = .int .i64 k ∧ Hid (AG nx (l.take k) ∧ Below W.heap.size W wr)) (fun i _ => nh - (intOf i).toNat)
  case atStart => exact ⟨0, Nat.zero_le _, rfl, by simpa using AG.nil nx, Below.refl _ _⟩
  case round =>
    obtain ⟨k, hk, rfl, HJ⟩ := hrel
    have hxr := HB.out.2.below HJ.out.2 HB.out.2.lt
    by_cases hlt : k < nh
    · obtain ⟨p, hp⟩ := get_lt (l := l) (k := k) (by rw [← HN.out.1]; exact hlt)
      have hbr := below_any HB.out.1 HJ.out.2
      obtain ⟨pb, po, x, cap, hix, c0, c1, hL, _⟩ := sgs_atR (sgsR.below HA.out.1 hbr) k p hp
      have hki : (k : Int) < (nh : Int) := by omega
      have HST : Hid (AG nx (l.take (k + 1)) ↔ (freeB p = false → p.1 ∉ seqs (l.take k) ∧ Chk p ∧ p.1 < nx)) := by
        show _ ↔ _
        rw [AG.step hp]
        exact ⟨fun h => h.2, fun h => ⟨HJ.out.1, h⟩⟩
      have HBAD : Hid (∀ w', ¬ (freeB p = false → p.1 ∉ seqs (l.take k) ∧ Chk p ∧ p.1 < nx) → Below W.heap.size W w' → post (.returned (.int .i64 9)) w') := fun w' h1 h2 => HP9.out w' (fun hok => h1 (HST.out.1 (AG.take ⟨hok.each, hok.apart⟩ _))) (below_any HB.out.1 h2)
      obtain ⟨V, hV⟩ : ∃ V, V = wr.alloc (.cells #[.int .i64 p.1, .slice x p.2.length cap] 36) := ⟨_, rfl⟩
      have hbV : Below wr.heap.size wr V := by rw [hV]; exact (Below.refl _ _).alloc (Nat.le_refl _) _
      have hxV : Box V wr.heap.size 36 #[.int .i64 p.1, .slice x p.2.length cap] := by rw [hV]; exact Box.new _ _ _
      have HC := rfree_any p.1 x p.2.length cap V
      have HCK : Hid (∀ U, Below V.heap.size V U → Calls Try.prog 45 #[.agg #[.int .i64 p.1, .slice x p.2.length cap]] U fun e w' => e = .returned (.int .i64 (cerr p)) ∧ Below U.heap.size U w') := fun U hU => rcheck_any n0 [.int .i64 p.1, .slice x p.2.length cap] p U (sgR.below hL (hbV.trans (hU.mono hbV.size)))
      have HV : Hid (Below W.heap.size W V ∧ ∀ U, Below V.heap.size V U → (U.cell? ⟨wr.heap.size, 0, none⟩ = some (.int .i64 p.1) ∧ U.cell? ⟨wr.heap.size, 1, none⟩ = some (.slice x p.2.length cap)) ∧ Box U w.heap.size 26 #[.slice a nh c, .slice b nh d, .slice e no f, .int .i64 nx]) := ⟨HJ.out.2.trans (hbV.mono HJ.out.2.size), fun U hU => by
        have h1 := (hxV.below hU hxV.lt).two
        exact ⟨⟨h1.1, h1.2.1⟩, hxr.below (hbV.trans (hU.mono hbV.size)) hxr.lt⟩⟩
      obtain ⟨x0, x1, x2, x3, -⟩ := hxr.four
      obtain ⟨fr, hfr⟩ : ∃ fr, fr = freeB p := ⟨_, rfl⟩
      have HFR : Hid (fr = freeB p) := hfr
      have hfe : (decide (p.1 = 0) && decide (p.2.length = 0)) = fr := hfr.symm
      rw [hfe] at HC
      have HPK : Hid (l[k]? = some p) := hp
      obtain ⟨v0, v1, -⟩ := hxV.two
      obtain ⟨q, pl⟩ := p
      simp only at v0 v1 HC HCK HV hV c0 c1
      obtain ⟨m, hm⟩ : ∃ m, m = pl.length := ⟨_, rfl⟩
      rw [← hm] at v1 HC HCK HV hV c1
      clear hp hbr hL hbV hxV hxr hfr hfe hm
      go_upto_region 8 with fail
      rw [← hV]
      clear hV hix c0 c1 x0 x1 x2 x3
      cases fr with
      | true =>
        go_wp2_with fail
        refine HC.mono ?_
        rintro e2 w2 ⟨rfl, hb2⟩
        have HJ2 : Hid (AG nx (l.take (k + 1)) ∧ Below W.heap.size W w2) := ⟨HST.out.2 (fun h => by rw [← HFR.out] at h; cases h), HV.out.1.trans (hb2.mono HV.out.1.size)⟩
        clear hb2 v0 v1 HC
        go_wp2
        go_roundw
        case rel => exact ⟨k + 1, by omega, by go_num, HJ2.out⟩
        case measure => simp [intOf]; omega
      | false =>
        go_wp2_with fail
        refine HC.mono ?_
        rintro e2 w2 ⟨rfl, hb2⟩
        have HB2 : Hid (Below V.heap.size V w2) := hb2
        have HC3 := HCK.out w2 hb2
        obtain ⟨⟨y0, y1⟩, -⟩ := HV.out.2 w2 hb2
        obtain ⟨ck, hck⟩ : ∃ ck, ck = cerr (q, pl) := ⟨_, rfl⟩
        rw [← hck] at HC3
        have HCE : Hid (ck = cerr (q, pl)) := hck
        clear hb2 v0 v1 HC hck
        by_cases hc0 : ck = 0
        · subst hc0
          have HCHK : Hid (Chk (q, pl)) := cerr_zero.1 HCE.out.symm
          go_wp2_with fail
          refine HC3.mono ?_
          rintro e3 w3 ⟨rfl, hb3⟩
          have HB3 : Hid (Below V.heap.size V w3) := HB2.out.trans (hb3.mono HB2.out.size)
          clear hb3 HC3 y0 y1
          obtain ⟨⟨y0, y1⟩, hx3⟩ := HV.out.2 w3 HB3.out
          obtain ⟨z0, z1, z2, z3, -⟩ := hx3.four
          by_cases hge : nx ≤ q
          · have HE : Hid (post (.returned (.int .i64 9)) w3) := HBAD.out w3 (fun h => by have h9 : q < nx := (h HFR.out.symm).2.2; omega) (HV.out.1.trans (HB3.out.mono HV.out.1.size))
            clear hx3
            go_wp2
            exact HE.out
          · have hged : decide (nx ≤ q) = false := decide_eq_false hge
            clear hx3
            go_wp2
            clear z0 z1 z2 z3
            go_loopw [6] (fun i wi => ∃ j : Nat, j ≤ k ∧ i = .int .i64 j ∧ Hid (∀ i p', i < j → l[i]? = some p' → p'.1 ≠ q) ∧ ∃ r, wi = w3.drewN r) (fun i _ => k - (intOf i).toNat)
            case atStart => exact ⟨0, Nat.zero_le _, rfl, fun i p' h => by omega, 0, rfl⟩
            case round =>
              obtain ⟨j, hj, rfl, HD, r, rfl⟩ := hrel
              by_cases hjk : j < k
              · obtain ⟨p2, hp2⟩ := get_lt (l := l) (k := j) (by rw [← HN.out.1]; omega)
                have hbw3 : Below w.heap.size w w3 := below_any HB.out.1 (HV.out.1.trans (HB3.out.mono HV.out.1.size))
                obtain ⟨qb, qo, x', cap', hix2, d0, d1, _, _⟩ := sgs_atR (sgsR.below HA.out.1 hbw3) j p2 hp2
                obtain ⟨⟨y0, y1⟩, hx3⟩ := HV.out.2 w3 HB3.out
                obtain ⟨z0, -⟩ := hx3.four
                have hjki : (j : Int) < (k : Int) := by omega
                have HP2 : Hid (l[j]? = some p2) := hp2
                obtain ⟨q2, pl2⟩ := p2
                simp only at d0
                clear hx3 hbw3 hp2 d1
                by_cases heq : q2 = q
                · subst heq
                  have HE : Hid (∀ r, post (.returned (.int .i64 9)) (w3.drewN r)) := fun r => HBAD.out _ (fun h => (h HFR.out.symm).1 (by
                    have hm : (q2, pl2) ∈ l.take k := List.mem_of_getElem? (i := j) (by rw [List.getElem?_take, if_pos hjk]; exact HP2.out)
                    exact mem_seqs (p := (q2, pl2)) hm HCHK.out.1.1)) (below_drewN (HV.out.1.trans (HB3.out.mono HV.out.1.size)) r)
                  go_wp2
                  go_quiet (fail)
                  go_wp2
                  rw [World.drewN_drewN]
                  exact HE.out _
                · have hne : (q2 == q) = false := by simp [heq]
                  have HD2 : Hid (∀ i p', i < j + 1 → l[i]? = some p' → p'.1 ≠ q) := fun i p' h h' => by
                    by_cases e' : i = j
                    · subst e'
                      rw [HP2.out] at h'
                      rw [← Option.some.inj h']
                      exact heq
                    · exact HD.out i p' (by omega) h'
                  clear heq
                  go_wp2
                  go_quiet (fail)
                  go_wp2
                  go_roundw
                  case rel => exact ⟨j + 1, by omega, by go_num, HD2, _, rfl⟩
                  case measure => simp [intOf]; omega
              · obtain rfl : j = k := by omega
                have HJ2 : Hid (AG nx (l.take (j + 1)) ∧ Below W.heap.size W (w3.drewN r)) := ⟨HST.out.2 (fun _ => ⟨(fun hm => by
                  obtain ⟨i, p', hi, e'⟩ := seqs_mem hm
                  rw [List.getElem?_take] at hi
                  by_cases hij : i < j
                  · rw [if_pos hij] at hi
                    exact HD.out i p' hij hi e'
                  · rw [if_neg hij] at hi; cases hi), HCHK.out, by show q < nx; omega⟩), below_drewN (HV.out.1.trans (HB3.out.mono HV.out.1.size)) r⟩
                go_wp2
                go_roundw
                case rel => exact ⟨j + 1, by omega, by go_num, HJ2.out⟩
                case measure => simp [intOf]; omega
        · have hc0i : (ck == 0) = false := by simp [hc0]
          have HE0 : Hid (∀ w3, Below V.heap.size V w3 → post (.returned (.int .i64 9)) w3) := fun w3 h3 => HBAD.out w3 (fun h => hc0 (by rw [HCE.out]; exact cerr_ok (h HFR.out.symm).2.1)) (HV.out.1.trans (h3.mono HV.out.1.size))
          go_wp2_with fail
          refine HC3.mono ?_
          rintro e3 w3 ⟨rfl, hb3⟩
          have HE : Hid (post (.returned (.int .i64 9)) w3) := HE0.out w3 (HB2.out.trans (hb3.mono HB2.out.size))
          clear hb3 HC3 y0 y1
          go_wp2
          exact HE.out
    · obtain rfl : k = nh := by omega
      have HAG : Hid (AG nx l ∧ Below W.heap.size W wr) := by
        show _ ∧ _
        have := HJ.out
        rwa [HN.out.1, List.take_length] at this
      clear HJ hxr
      go_wp2
      go_loopw [7] (fun i wi => ∃ j : Nat, j ≤ no ∧ i = .int .i64 j ∧ Hid ((op.take j).all mayB = true ∧ Below W.heap.size W wi)) (fun i _ => no - (intOf i).toNat)
      case atStart => exact ⟨0, Nat.zero_le _, rfl, by simp, HAG.out.2⟩
      case round =>
        obtain ⟨j, hj, rfl, HJ⟩ := hrel
        obtain ⟨z0, z1, z2, z3, -⟩ := (HB.out.2.below HJ.out.2 HB.out.2.lt).four
        by_cases hjo : j < no
        · obtain ⟨t, ht⟩ := get_lt (l := op) (k := j) (by rw [← HN.out.2.2]; exact hjo)
          obtain ⟨tb, tof, tx', tcap, hix, k0, k1, k2, hA, hto, hti, _⟩ := bks_atR (bksR.below HA.out.2 (below_any HB.out.1 HJ.out.2)) j t ht
          have HC := rmay_any tx' tcap t (by obtain ⟨_, _, _, _, h1, _⟩ := hA.shape; exact h1) wr
          have hji : (j : Int) < (no : Int) := by omega
          have HT : Hid (op[j]? = some t) := ht
          obtain ⟨mb, hmb⟩ : ∃ mb, mb = mayB t := ⟨_, rfl⟩
          rw [← hmb] at HC
          have HMB : Hid (mb = mayB t) := hmb
          clear ht hA hto hti hmb
          cases mb with
          | true =>
            go_wp2_with fail
            refine HC.mono ?_
            rintro e2 w2 ⟨rfl, hb2⟩
            have HJ2 : Hid ((op.take (j + 1)).all mayB = true ∧ Below W.heap.size W w2) := ⟨take_step HJ.out.1 HT.out HMB.out.symm, HJ.out.2.trans (hb2.mono HJ.out.2.size)⟩
            clear hb2 z0 z1 z2 z3 k0 k1 k2 hix HC
            go_wp2
            go_roundw
            case rel => exact ⟨j + 1, by omega, by go_num, HJ2.out⟩
            case measure => simp [intOf]; omega
          | false =>
            go_wp2_with fail
            refine HC.mono ?_
            rintro e2 w2 ⟨rfl, hb2⟩
            have HE : Hid (post (.returned (.int .i64 9)) w2) := HP9.out w2 (fun hok => by
              have h1 := hok.may
              rw [all_not HT.out HMB.out.symm] at h1
              cases h1) (below_any HB.out.1 (HJ.out.2.trans (hb2.mono HJ.out.2.size)))
            clear hb2 z0 z1 z2 z3 k0 k1 k2 hix HC
            go_wp2
            exact HE.out
        · obtain rfl : j = no := by omega
          have HE : Hid (post (.returned (.int .i64 0)) wr) := HP0.out wr ⟨⟨by have := HN.out.1; simp only; omega, by have := HN.out.1; simp only; omega⟩, by have := HN.out; simp only; omega, ⟨by simp only; omega, by simp only; omega⟩, by have := HN.out.2.2; simp only; omega, by have h1 := HJ.out.1; rwa [HN.out.2.2, List.take_length] at h1, HAG.out.1.1, HAG.out.1.2⟩ (below_any HB.out.1 HJ.out.2)
          go_wp2
          exact HE.out

end Go.Proofs.Ytkpckadicjdieab
