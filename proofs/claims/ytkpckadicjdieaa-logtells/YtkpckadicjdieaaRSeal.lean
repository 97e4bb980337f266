/-
  What the document's Seal answers, for every store.
-/
import Derived.Test.YtkpckadicjdieaaRPut
import Derived.Test.YtkpckadicjdieaaLSeal
namespace Go.Proofs.Ytkpckadicjdieaa
open Go.RowKit

/-- A segment in a row of its own: where it lies, and what a store makes of the row. -/
theorem sgs_setR {n : Nat} {w : World} {v : Value} {l : List Sg} (h : sgsR.owns n w [v] l) (i : Nat) (hi : i < l.length) :
    ∃ g cap, v = .slice (some ⟨g, 0, none⟩) l.length cap ∧ n ≤ g ∧ g < w.heap.size ∧ (∀ W, (Instr.indexAt 22 v (.int .i64 i)).run Try.prog W = .ok (.pointer (some ⟨g, i * 2, none⟩)) W) ∧ (∃ u0 u1, w.cell? ⟨g, i * 2, none⟩ = some u0 ∧ w.cell? ⟨g, i * 2 + 1, none⟩ = some u1) ∧ w.frozen? ⟨g, i * 2, none⟩ = false ∧ w.frozen? ⟨g, i * 2 + 1, none⟩ = false ∧
      ∀ q u bl, I64 q → bksR.owns n w [u] bl → sgsR.owns n ((w.setCell ⟨g, i * 2, none⟩ (.int .i64 q)).setCell ⟨g, i * 2 + 1, none⟩ u) [v] (l.set i (q, bl)) ∧ w.grownBy ((w.setCell ⟨g, i * 2, none⟩ (.int .i64 q)).setCell ⟨g, i * 2 + 1, none⟩ u) (some g) ∧ Clear w (some g) [4, 29, 5] := by
  obtain ⟨i0, hi0, _, hz, _⟩ := info_parts Try.info91
  obtain ⟨v', vss, hv, hC, hE⟩ := h
  obtain rfl : v = v' := by simpa using hv
  obtain ⟨g, cap, rfl⟩ : ∃ g cap, v = .slice (some ⟨g, 0, none⟩) l.length cap := by
    rcases hC.2 with ⟨_, h0⟩ | ⟨g, cap, cur, h', _⟩
    · omega
    · exact ⟨g, cap, h'⟩
  have hob : (Value.slice (some ⟨g, 0, none⟩) l.length cap).ownBlock = some g := rfl
  have hlt := hC.lt g hob
  have hsz : ∀ us ∈ vss, us.length = 2 := fun us h => by
    obtain ⟨q, _, hq⟩ := hE.left h
    exact sgR.length (sgR.olies hq)
  obtain ⟨p, hp⟩ := get_lt (l := l) (k := i) hi
  obtain ⟨us, hu, hO⟩ := hE.get hp
  obtain ⟨a, c, rfl, _⟩ := sg_ownR hO
  refine ⟨g, cap, rfl, hlt.1, hlt.2, fun W => ?_, ⟨.int .i64 p.1, .slice a p.2.length c, ?_, ?_⟩, hC.frozenAt _, hC.frozenAt _, fun q u bl hq hb => ?_⟩
  · have := run_index (size := 2) Try.underlying22 hi0 hz g 0 l.length cap i hi W
    simpa using this
  · have hc := hC.cells hob (i * 2 + 0) (.int .i64 p.1) (flat_get hsz hu rfl)
    rwa [add_plain, Nat.zero_add] at hc
  · have hc := hC.cells hob (i * 2 + 1) (.slice a p.2.length c) (flat_get hsz hu rfl)
    rwa [add_plain, Nat.zero_add] at hc
  · obtain ⟨h1, h2⟩ := hC.stored (i * 2 + 0) (.int .i64 q)
    rw [flat_set hsz hu (by omega)] at h1
    obtain ⟨h3, h4⟩ := h1.stored (i * 2 + 1) u
    rw [flat_set (us := [.int .i64 q, .slice a p.2.length c]) (fun x hx => by
      rcases List.mem_or_eq_of_mem_set hx with hx | hx
      · exact hsz x hx
      · rw [hx]; rfl) (by rw [List.getElem?_set_self (by rw [hE.length]; exact hi)]; rfl) (by omega), List.set_set] at h3
    have hg : w.grownBy ((w.setCell ⟨g, i * 2, none⟩ (.int .i64 q)).setCell ⟨g, i * 2 + 1, none⟩ u) (some g) := grown_trans h2 h4
    have hcl : ∀ ids, 91 ∉ ids → Clear w (some g) ids := fun ids h => by rw [← hob]; exact .own hC h
    have kp : ∀ x y, sgR.owns n w x y → sgR.owns n ((w.setCell ⟨g, i * 2, none⟩ (.int .i64 q)).setCell ⟨g, i * 2 + 1, none⟩ u) x y := fun x y h => sgR.ogrown h hg (hcl _ (by decide))
    refine ⟨⟨_, vss.set i [.int .i64 q, u], rfl, by rw [List.length_set]; exact h3, ?_⟩, hg, hcl _ (by decide)⟩
    refine each_of (by rw [List.length_set, List.length_set, hE.length]) fun j x y hx hy => ?_
    by_cases ej : j = i
    · subst ej
      rw [List.getElem?_set_self (by rw [hE.length]; exact hi)] at hx
      rw [List.getElem?_set_self hi] at hy
      obtain rfl := Option.some.inj hx
      obtain rfl := Option.some.inj hy
      exact kp _ _ (sg_omkR (s := (q, bl)) hb hq)
    · rw [List.getElem?_set_ne (by omega)] at hx hy
      obtain ⟨us', h5, h6⟩ := hE.get hy
      rw [hx] at h5
      obtain rfl := Option.some.inj h5
      exact kp _ _ h6

def TellsPR (k : Int) (p : Nat) (s' : St) (w : World) (e : Ending) (w' : World) : Prop := (∃ us', e = .returned (.tuple #[.agg us'.toArray, .int .i64 p, .int .i64 k]) ∧ stR.owns w.heap.size w' us' s') ∧ Below w.heap.size w w'

set_option maxRecDepth 100000 in
set_option maxHeartbeats 8000000 in
theorem rseal_any (n0 : Nat) (us : List Value) (s : St) (w : World) (h : stR.lies n0 w us s) :
    Calls Try.prog 70 #[.agg us.toArray] w (TellsPR (sE s) (sP s) (sS s) w) := by
  obtain ⟨a, c, b, d, e, f, rfl, hS, hH, hO, hN, m1, m2, m3⟩ := st_viewR h
  obtain ⟨post, hpost⟩ : ∃ post : Ending → World → Prop, post = TellsPR (sE s) (sP s) (sS s) w := ⟨_, rfl⟩
  have HNO : Hid (∀ k w', sE s = k → k ≠ 0 → Below w.heap.size w w' → post (.returned (.tuple #[.agg #[.slice none 0 0, .slice none 0 0, .slice none 0 0, .int .i64 0], .int .i64 0, .int .i64 k])) w') := fun k w' e1 e2 e3 => by
    rw [hpost]
    refine ⟨⟨_, by unfold sP; rw [e1, if_neg e2]; rfl, ?_⟩, e3⟩
    unfold sS
    rw [if_neg (by rw [e1]; exact e2)]
    exact s0_ownsR _ _
  have HYES : Hid (∀ (lo : Nat) us' w', sE s = 0 → lowAt s.1 s.2.1 = lo → stR.owns w.heap.size w' us' (s.1.set lo (s.2.2.2, s.2.2.1), s.2.1, [], s.2.2.2 + 1) → Below w.heap.size w w' → post (.returned (.tuple #[.agg us'.toArray, .int .i64 lo, .int .i64 0])) w') := fun lo us' w' e1 e0 e2 e3 => by
    rw [hpost]
    refine ⟨⟨us', by unfold sP; rw [e1, if_pos rfl, e0], ?_⟩, e3⟩
    unfold sS
    rw [if_pos e1, e0]
    exact e2
  rw [← hpost]
  clear hpost
  unfold maxLen at m1
  obtain ⟨n, hn⟩ : ∃ n, n = s.1.length := ⟨_, rfl⟩
  obtain ⟨nh, hnh⟩ : ∃ n, n = s.2.1.length := ⟨_, rfl⟩
  obtain ⟨no, hno⟩ : ∃ n, n = s.2.2.1.length := ⟨_, rfl⟩
  obtain ⟨nx, hnx⟩ : ∃ n, n = s.2.2.2 := ⟨_, rfl⟩
  rw [← hn, ← hnh, ← hno, ← hnx] at h ⊢
  rw [← hn] at hS m1
  rw [← hnh] at hH
  obtain ⟨W, hW⟩ : ∃ W, W = (w.alloc (.cells #[.slice a n c, .slice b nh d, .slice e no f, .int .i64 nx] 26)).alloc (.cells #[.slice none 0 0, .slice none 0 0, .slice none 0 0, .int .i64 0] 26) := ⟨_, rfl⟩
  have hbW : Below w.heap.size w W := by rw [hW]; exact ((Below.refl _ w).alloc (Nat.le_refl _) _).alloc (by simp) _
  have hB1 : Box W w.heap.size 26 #[.slice a n c, .slice b nh d, .slice e no f, .int .i64 nx] := by rw [hW]; exact (Box.new _ _ _).alloc _
  have hB2 : Box W (w.heap.size + 1) 26 #[.slice none 0 0, .slice none 0 0, .slice none 0 0, .int .i64 0] := by
    rw [hW]
    have := Box.new (w.alloc (.cells #[.slice a n c, .slice b nh d, .slice e no f, .int .i64 nx] 26)) 26 #[.slice none 0 0, .slice none 0 0, .slice none 0 0, .int .i64 0]
    rwa [World.size_alloc] at this
  have HC := rcheckL_any n0 [.slice a n c, .slice b nh d, .slice e no f, .int .i64 nx] s W (stR.below h hbW)
  have HW : Hid (Below w.heap.size w W ∧ W.heap.size = w.heap.size + 2 ∧ ∀ V, Below W.heap.size W V → Box V w.heap.size 26 #[.slice a n c, .slice b nh d, .slice e no f, .int .i64 nx] ∧ Box V (w.heap.size + 1) 26 #[.slice none 0 0, .slice none 0 0, .slice none 0 0, .int .i64 0]) := ⟨hbW, by rw [hW]; simp, fun V hV => ⟨hB1.below hV hB1.lt, hB2.below hV hB2.lt⟩⟩
  have HA : Hid (stR.lies n0 w [.slice a n c, .slice b nh d, .slice e no f, .int .i64 nx] s ∧ no = s.2.2.1.length ∧ nx = s.2.2.2 ∧ I64 nx ∧ sgsR.lies n0 w [.slice a n c] s.1 ∧ boolsS.lies n0 w [.slice b nh d] s.2.1 ∧ n = s.1.length ∧ nh = s.2.1.length) := ⟨h, hno, hnx, by rw [hnx]; exact hN, hS, hH, hn, hnh⟩
  have hl1 := run_len Try.underlying22 a n c
  have hl3 := run_len Try.underlying24 e no f
  obtain ⟨g0, g1, g2, g3, -⟩ := hB1.four
  rw [hW] at g0 g1 g2 g3
  clear h hS hH hO hN m2 m3 hbW hB1 hB2 hn hnh hno hnx
  go_enter Try.func70, Try.ntmps70
  go_wp2_with fail
  rw [← hW]
  clear hW g0 g1 g2 g3
  refine HC.mono ?_
  rintro e1 w1 ⟨rfl, hb1⟩
  obtain ⟨hx1, hx3⟩ := HW.out.2.2 w1 hb1
  have HB1 : Hid (Below W.heap.size W w1) := hb1
  obtain ⟨y0, y1, y2, y3, j0, j1, j2, j3⟩ := hx3.four
  obtain ⟨q0, q1, q2, q3, -⟩ := hx1.four
  rcases okE_cases s with ⟨hk, hok⟩ | ⟨hk, hok⟩
  case inr =>
    rw [hk]
    have HE := HNO.out 9 ((((w1.setCell ⟨w.heap.size + 1, 0, none⟩ (.slice none 0 0)).setCell ⟨w.heap.size + 1, 1, none⟩ (.slice none 0 0)).setCell ⟨w.heap.size + 1, 2, none⟩ (.slice none 0 0)).setCell ⟨w.heap.size + 1, 3, none⟩ (.int .i64 0)) (by
      have : okB s = false := by cases hb : okB s with | false => rfl | true => exact absurd (ok_iff.1 hb) hok
      unfold sE; rw [if_pos this]) (by decide) (below_set4 (below_any HW.out.1 hb1) (by omega) _ _ _ _)
    have HE : Hid _ := HE
    clear hb1 hx1 hx3 hok hk
    go_wp2
    refine bodyPost_ret (v := .tuple #[.agg #[.slice none 0 0, .slice none 0 0, .slice none 0 0, .int .i64 0], .int .i64 0, .int .i64 9]) (by simp [results, Try.results70, go_sem, *]) rfl HE.out
  case inl =>
    rw [hk]
    have HOK : Hid (Ok s ∧ okB s = true) := ⟨hok, ok_iff.2 hok⟩
    clear hk hok hx1 hb1 hx3
    by_cases h0 : no = 0
    · have HE := HNO.out 71 ((((w1.setCell ⟨w.heap.size + 1, 0, none⟩ (.slice none 0 0)).setCell ⟨w.heap.size + 1, 1, none⟩ (.slice none 0 0)).setCell ⟨w.heap.size + 1, 2, none⟩ (.slice none 0 0)).setCell ⟨w.heap.size + 1, 3, none⟩ (.int .i64 0)) (by unfold sE; rw [if_neg (by rw [HOK.out.2]; simp), if_pos (by rw [← HA.out.2.1]; exact h0)]) (by decide) (below_set4 (below_any HW.out.1 HB1.out) (by omega) _ _ _ _)
      have HE : Hid _ := HE
      subst h0
      go_wp2
      refine bodyPost_ret (v := .tuple #[.agg #[.slice none 0 0, .slice none 0 0, .slice none 0 0, .int .i64 0], .int .i64 0, .int .i64 71]) (by simp [results, Try.results70, go_sem, *]) rfl HE.out
    · have h0i : ((no : Int) == 0) = false := by simp; omega
      have h0j : ¬ (no : Int) = 0 := by omega
      have H0 : Hid (¬ s.2.2.1.length = 0) := show ¬ _ by rw [← HA.out.2.1]; exact h0
      clear h0
      by_cases hmx : 1099511627776 ≤ nx
      · have HE := HNO.out 51 ((((w1.setCell ⟨w.heap.size + 1, 0, none⟩ (.slice none 0 0)).setCell ⟨w.heap.size + 1, 1, none⟩ (.slice none 0 0)).setCell ⟨w.heap.size + 1, 2, none⟩ (.slice none 0 0)).setCell ⟨w.heap.size + 1, 3, none⟩ (.int .i64 0)) (by unfold sE; rw [if_neg (by rw [HOK.out.2]; simp), if_neg H0.out, if_pos (.inr (by rw [← HA.out.2.2.1]; exact hmx))]) (by decide) (below_set4 (below_any HW.out.1 HB1.out) (by omega) _ _ _ _)
        have HE : Hid _ := HE
        go_wp2
        refine bodyPost_ret (v := .tuple #[.agg #[.slice none 0 0, .slice none 0 0, .slice none 0 0, .int .i64 0], .int .i64 0, .int .i64 51]) (by simp [results, Try.results70, go_sem, *]) rfl HE.out
      · have hmd : decide ((1099511627776 : Int) ≤ nx) = false := decide_eq_false hmx
        have HNX : Hid (nx < 1099511627776 ∧ 1 ≤ nx) := ⟨by omega, by have := HOK.out.1.next.1; have := HA.out.2.2.1; omega⟩
        go_wp2
        clear y0 y1 y2 y3 j0 j1 j2 j3 q0 q1 q2 q3 hmd h0i h0j
        go_loopw [5] (fun i wr => ∃ k : Nat, k ≤ n ∧ i = .int .i64 k ∧ Hid ((∀ j, j < k → tst s.1 s.2.1 j = false) ∧ Below W.heap.size W wr)) (fun i _ => n - (intOf i).toNat)
        case atStart => exact ⟨0, Nat.zero_le _, rfl, fun j hj => by omega, HB1.out⟩
        case round =>
          obtain ⟨k, hk, rfl, HJ⟩ := hrel
          obtain ⟨q0, q1, q2, q3, -⟩ := ((HW.out.2.2 wr HJ.out.2).1).four
          by_cases hlt : k < n
          · obtain ⟨p, hp⟩ := get_lt (l := s.1) (k := k) (by rw [← HA.out.2.2.2.2.2.2.1]; exact hlt)
            obtain ⟨x, hx⟩ := get_lt (l := s.2.1) (k := k) (by have := HOK.out.1.held; have := HA.out.2.2.2.2.2.2.1; omega)
            have hbr := below_any HW.out.1 HJ.out.2
            obtain ⟨pb, po, xx, cap, hix, c0, c1, hL, _⟩ := sgs_atR (sgsR.below HA.out.2.2.2.2.1 hbr) k p hp
            obtain ⟨hb, ho, hix2, _, hc⟩ := bools_at HA.out.2.2.2.2.2.1 k x hx
            have hki : (k : Int) < (n : Int) := by omega
            have HT : Hid (tst s.1 s.2.1 k = (freeB p && !x)) := tst_at hp hx
            obtain ⟨q, pl⟩ := p
            simp only at c0 c1
            obtain ⟨m, hm⟩ : ∃ m, m = pl.length := ⟨_, rfl⟩
            rw [← hm] at c1
            have HCF := rfree_any q xx m cap wr
            have HFR : Hid (freeB (q, pl) = (decide (q = 0) && decide (m = 0))) := by show freeB _ = _; rw [hm]; rfl
            obtain ⟨fr, hfr⟩ : ∃ fr, fr = freeB (q, pl) := ⟨_, rfl⟩
            rw [← HFR.out, ← hfr] at HCF
            rw [← hfr] at HT
            have HV : Hid (∀ U, Below W.heap.size W U → (U.cell? ⟨w.heap.size, 0, none⟩ = some (.slice a n c) ∧ U.cell? ⟨w.heap.size, 1, none⟩ = some (.slice b nh d) ∧ U.cell? ⟨w.heap.size, 2, none⟩ = some (.slice e no f) ∧ U.cell? ⟨w.heap.size, 3, none⟩ = some (.int .i64 nx)) ∧ U.cell? ⟨hb, ho, none⟩ = some (.bool x)) := fun U hU => by
              have h1 := (HW.out.2.2 U hU).1.four
              exact ⟨⟨h1.1, h1.2.1, h1.2.2.1, h1.2.2.2.1⟩, by rw [(below_any HW.out.1 hU).cell (cell_lt hc)]; exact hc⟩
            clear hp hx hL hbr hm hfr HFR hc
            cases fr with
            | false =>
              go_wp2_with fail
              refine HCF.mono ?_
              rintro e2 w2 ⟨rfl, hb2⟩
              have HJ2 : Hid ((∀ j, j < k + 1 → tst s.1 s.2.1 j = false) ∧ Below W.heap.size W w2) := ⟨fun j hj => by
                by_cases ej : j = k
                · rw [ej, HT.out]; rfl
                · exact HJ.out.1 j (by omega), HJ.out.2.trans (hb2.mono HJ.out.2.size)⟩
              clear hb2 q0 q1 q2 q3 hix2 hix c0 c1
              go_wp2
              go_roundw
              case rel => exact ⟨k + 1, by omega, by go_num, HJ2.out⟩
              case measure => simp [intOf]; omega
            | true =>
              cases x with
              | true =>
                go_wp2_with fail
                refine HCF.mono ?_
                rintro e2 w2 ⟨rfl, hb2⟩
                have hbw := HJ.out.2.trans (hb2.mono HJ.out.2.size)
                obtain ⟨⟨z0, z1, z2', z3⟩, z4⟩ := HV.out w2 hbw
                have HJ2 : Hid ((∀ j, j < k + 1 → tst s.1 s.2.1 j = false) ∧ Below W.heap.size W w2) := ⟨fun j hj => by
                  by_cases ej : j = k
                  · rw [ej, HT.out]; rfl
                  · exact HJ.out.1 j (by omega), hbw⟩
                clear hb2 q0 q1 q2 q3 hbw hix c0 c1
                go_wp2
                go_roundw
                case rel => exact ⟨k + 1, by omega, by go_num, HJ2.out⟩
                case measure => simp [intOf]; omega
              | false =>
                go_wp2_with fail
                refine HCF.mono ?_
                rintro e2 w2 ⟨rfl, hb2⟩
                have hbw := HJ.out.2.trans (hb2.mono HJ.out.2.size)
                obtain ⟨⟨z0, z1, z2', z3⟩, z4⟩ := HV.out w2 hbw
                have HB2 : Hid (Below W.heap.size W w2) := hbw
                have HLO : Hid (lowAt s.1 s.2.1 = k ∧ k < s.1.length) := ⟨low_at HJ.out.1 (by rw [HT.out]; rfl), by have := HA.out.2.2.2.2.2.2.1; omega⟩
                have HSE : Hid (sE s = 0) := by
                  show sE s = 0
                  unfold sE
                  rw [if_neg (by rw [HOK.out.2]; simp), if_neg H0.out, if_neg (by have := HNX.out; have := HLO.out; have := HA.out.2.2.1; omega)]
                have HCC := rownL_any n0 [.slice a n c, .slice b nh d, .slice e no f, .int .i64 nx] s w2 (stR.below HA.out.1 (below_any HW.out.1 hbw)) HOK.out.1.fits
                clear hb2 q0 q1 q2 q3 hbw hix c0 c1
                go_wp2_with fail
                refine HCC.mono ?_
                rintro e3 w3 ⟨⟨us3, rfl, ho3⟩, hb3⟩
                replace ho3 := ho3.owns
                obtain ⟨l, hd, op, nx'⟩ := s
                obtain ⟨u1, u2, u3, u4, h5⟩ : ∃ v1 v2 v3, us3 = [v1, v2, v3, .int .i64 nx'] ∧ sgsR.owns (w2.heap.size + 2) w3 [v1] l ∧ boolsS.owns (w2.heap.size + 2) w3 [v2] hd ∧ bksR.owns (w2.heap.size + 2) w3 [v3] op ∧ I64 nx' := by
                  obtain ⟨p1, r, rfl, h1, p2, r2, rfl, h2, p3, r3, rfl, h3, rfl, h4⟩ := ho3
                  obtain ⟨_, _, _, rfl, _⟩ := Shape.list_own (S := sgR) (ht := Try.underlying22) (hc := cells22) h1
                  obtain ⟨_, _, rfl, _⟩ := Leaf.row_len (L := bL) (ht := Try.underlying23) (hc := cells23) (boolsS.olies h2)
                  obtain ⟨_, _, _, rfl, _⟩ := Shape.list_own (S := bkR) (ht := Try.underlying24) (hc := cells24) h3
                  exact ⟨_, _, _, rfl, h1, h2, h3, bounds_i64 h4⟩
                obtain ⟨hs1, hs2, hs3, hI⟩ := h5
                subst u4
                obtain ⟨a1, c1, _, hv1, -⟩ := Shape.list_own (S := sgR) (ht := Try.underlying22) (hc := cells22) hs1
                obtain ⟨a2, c2, hv2, -⟩ := Leaf.row_len (L := bL) (ht := Try.underlying23) (hc := cells23) (boolsS.olies hs2)
                obtain ⟨a3, c3, _, hv3, -⟩ := Shape.list_own (S := bkR) (ht := Try.underlying24) (hc := cells24) hs3
                obtain rfl : u1 = _ := (List.cons.inj hv1).1
                obtain rfl : u2 = _ := (List.cons.inj hv2).1
                obtain rfl : u3 = _ := (List.cons.inj hv3).1
                have hbw3 : Below W.heap.size W w3 := HB2.out.trans (hb3.mono HB2.out.size)
                obtain ⟨hx1, hx3⟩ := HW.out.2.2 w3 hbw3
                obtain ⟨X, hX⟩ : ∃ X, X = w3.alloc (.cells #[.slice a1 l.length c1, .slice a2 hd.length c2, .slice a3 op.length c3, .int .i64 nx'] 26) := ⟨_, rfl⟩
                have hbX3 : Below w3.heap.size w3 X := by rw [hX]; exact (Below.refl _ _).alloc (Nat.le_refl _) _
                have hxX : Box X w3.heap.size 26 #[.slice a1 l.length c1, .slice a2 hd.length c2, .slice a3 op.length c3, .int .i64 nx'] := by rw [hX]; exact Box.new _ _ _
                have hsX := hx1.below hbX3 hx1.lt
                have hzX := hx3.below hbX3 hx3.lt
                have hbX : Below w.heap.size w X := below_any HW.out.1 (hbw3.trans (hbX3.mono hbw3.size))
                have hW2 := HW.out.2.1
                have hw2 : w.heap.size + 2 ≤ w2.heap.size := by have := HB2.out.size; omega
                have hw3 := hb3.size
                have hg1 := sgsR.obelow hs1 hbX3
                have hg2 := boolsS.obelow hs2 hbX3
                have hg3 := bksR.obelow hs3 hbX3
                obtain ⟨g, cap', hv, hgB, hgl, hixx, ⟨u0', u1', cc0, cc1⟩, ff0, ff1, hst⟩ := sgs_setR hg1 k HLO.out.2
                have hgg : g < w3.heap.size := by
                  obtain ⟨gL, _, hgL0, _, hgL, _⟩ := sgs_setR hs1 k HLO.out.2
                  have h9 := hgL0.symm.trans hv
                  simp only [Value.slice.injEq, Option.some.injEq, Addr.mk.injEq, and_true, true_and] at h9
                  omega
                obtain ⟨rfl, rfl⟩ : a1 = some ⟨g, 0, none⟩ ∧ c1 = cap' := by simpa using hv
                obtain ⟨hY1, hYg, hcl⟩ := hst nx' (.slice a3 op.length c3) op hI hg3
                obtain ⟨Y, hY⟩ : ∃ Y, Y = (X.setCell ⟨g, k * 2, none⟩ (.int .i64 nx')).setCell ⟨g, k * 2 + 1, none⟩ (.slice a3 op.length c3) := ⟨_, rfl⟩
                rw [← hY] at hY1 hYg
                have hxY := hxX.grown hYg (by simp; omega)
                have hzY := hzX.grown hYg (by simp; omega)
                have hbY : Below w.heap.size w Y := by rw [hY]; exact (hbX.setCell (p := ⟨g, k * 2, none⟩) (by show w.heap.size ≤ g; omega) _).setCell (p := ⟨g, k * 2 + 1, none⟩) (by show w.heap.size ≤ g; omega) _
                have hY2 := boolsS.ogrown hg2 hYg (hcl.sub (fun x hx => by
                  have : x = 4 := List.mem_singleton.1 hx
                  rw [this]; simp))
                have HY : Hid (sgsR.owns (w2.heap.size + 2) Y [.slice (some ⟨g, 0, none⟩) l.length c1] (l.set k (nx', op)) ∧ boolsS.owns (w2.heap.size + 2) Y [.slice a2 hd.length c2] hd ∧ Below w.heap.size w Y ∧ Box Y w3.heap.size 26 #[.slice (some ⟨g, 0, none⟩) l.length c1, .slice a2 hd.length c2, .slice a3 op.length c3, .int .i64 nx'] ∧ Box Y (w.heap.size + 1) 26 #[.slice none 0 0, .slice none 0 0, .slice none 0 0, .int .i64 0] ∧ w.heap.size + 2 ≤ w2.heap.size ∧ w2.heap.size ≤ w3.heap.size) := ⟨hY1, hY2, hbY, hxY, hzY, hw2, hw3⟩
                obtain ⟨s0', s1', s2', s3', -⟩ := hxX.four
                obtain ⟨t0', t1', t2', t3', -⟩ := hsX.four
                have hnx1 : nx = nx' := HA.out.2.2.1
                subst hnx1
                go_upto_region 12 with fail
                rw [← hX]
                clear hX hxX hsX hzX hbX hW2 hw2 hg1 hg2 hg3 hst hcl hY1 hYg hxY hzY hbY hY2 hs1 hs2 hs3 hb3 hbw3 hx1 hx3 HCC z0 z1 z2' z3 z4 hgg hbX3 hw3
                go_upto_region 13 with fail
                rw [← hY]
                clear hY cc0 cc1 ff0 ff1 hixx s0' s1' s2' s3' t0' t1' t2' t3'
                obtain ⟨x0, x1, x2, x3, p0, p1, p2, p3⟩ := HY.out.2.2.2.1.four
                obtain ⟨Y2, hY2⟩ : ∃ Y2, Y2 = Y.setCell ⟨w3.heap.size, 2, none⟩ (.slice none 0 0) := ⟨_, rfl⟩
                obtain ⟨Z, hZ⟩ : ∃ Z, Z = Y2.setCell ⟨w3.heap.size, 3, none⟩ (.int .i64 (nx + 1)) := ⟨_, rfl⟩
                have hw9 := HY.out.2.2.2.2.2
                have hxY2 : Box Y2 w3.heap.size 26 #[.slice (some ⟨g, 0, none⟩) l.length c1, .slice a2 hd.length c2, .slice none 0 0, .int .i64 nx] := by rw [hY2]; exact HY.out.2.2.2.1.set 2 _
                have hxZ : Box Z w3.heap.size 26 #[.slice (some ⟨g, 0, none⟩) l.length c1, .slice a2 hd.length c2, .slice none 0 0, .int .i64 (nx + 1)] := by rw [hZ]; exact hxY2.set 3 _
                have hzZ : Box Z (w.heap.size + 1) 26 #[.slice none 0 0, .slice none 0 0, .slice none 0 0, .int .i64 0] := by rw [hZ, hY2]; exact (HY.out.2.2.2.2.1.other (by omega)).other (by omega)
                have hbZ : Below w.heap.size w Z := by rw [hZ, hY2]; exact (HY.out.2.2.1.setCell (p := ⟨w3.heap.size, 2, none⟩) (by show w.heap.size ≤ w3.heap.size; omega) _).setCell (p := ⟨w3.heap.size, 3, none⟩) (by show w.heap.size ≤ w3.heap.size; omega) _
                have hzown : stR.owns (w.heap.size + 2) Z [.slice (some ⟨g, 0, none⟩) l.length c1, .slice a2 hd.length c2, .slice none 0 0, .int .i64 (nx + 1)] (l.set k (nx, op), hd, [], nx + 1) := st_omkR (s := (l.set k (nx, op), hd, [], nx + 1)) (sgsR.oweaken (by rw [hZ]; exact sgsR.ogrown (by rw [hY2]; exact sgsR.ogrown HY.out.1 (grown_set _ _ _ _) (HY.out.2.2.2.1.clear (by decide))) (grown_set _ _ _ _) (hxY2.clear (by decide))) (by omega)) (boolsS.oweaken (by rw [hZ]; exact boolsS.ogrown (by rw [hY2]; exact boolsS.ogrown HY.out.2.1 (grown_set _ _ _ _) (HY.out.2.2.2.1.clear (by decide))) (grown_set _ _ _ _) (hxY2.clear (by decide))) (by omega)) (Shape.list_nil bkR 24 Try.underlying24 cells24 _ _) ⟨by have := HNX.out; show _ ≤ nx + 1; omega, by have := HNX.out; show nx + 1 ≤ _; omega⟩
                have HEND : Hid (∀ U, Same (w.heap.size + 2) Z U → Below w.heap.size w U → post (.returned (.tuple #[.agg #[.slice (some ⟨g, 0, none⟩) l.length c1, .slice a2 hd.length c2, .slice none 0 0, .int .i64 (nx + 1)], .int .i64 k, .int .i64 0])) U) := fun U h1 h2 => HYES.out k [_, _, _, _] U HSE.out HLO.out.1 (stR.oweaken (stR.osame hzown h1) (by omega)) h2
                have HBZ : Hid (Below w.heap.size w Z) := hbZ
                obtain ⟨q0, q1, q2, q3, -⟩ := hxZ.four
                obtain ⟨y0, y1, y2, y3, f0, f1, f2, f3⟩ := hzZ.four
                have hn1 := HNX.out
                go_upto_region 14 with fail
                rw [← hY2]
                clear hY2 x0 x1 x2 x3 p0 p1 p2 p3
                obtain ⟨x0, x1, x2, x3, p0, p1, p2, p3⟩ := hxY2.four
                go_upto_region 15 with fail
                rw [← hZ]
                clear hZ hxZ hzZ hbZ hzown hxY2 x0 x1 x2 x3 p0 p1 p2 p3 HY
                go_wp2
                refine bodyPost_ret (v := .tuple #[.agg #[.slice (some ⟨g, 0, none⟩) l.length c1, .slice a2 hd.length c2, .slice none 0 0, .int .i64 (nx + 1)], .int .i64 k, .int .i64 0]) (by simp [results, Try.results70, go_sem, *]) rfl ?_
                exact HEND.out _ (.set4 (by omega)) (below_set4 HBZ.out (by omega) _ _ _ _)
          · obtain rfl : k = n := by omega
            have HE := HNO.out 51 ((((wr.setCell ⟨w.heap.size + 1, 0, none⟩ (.slice none 0 0)).setCell ⟨w.heap.size + 1, 1, none⟩ (.slice none 0 0)).setCell ⟨w.heap.size + 1, 2, none⟩ (.slice none 0 0)).setCell ⟨w.heap.size + 1, 3, none⟩ (.int .i64 0)) (by unfold sE; rw [if_neg (by rw [HOK.out.2]; simp), if_neg H0.out, if_pos (.inl (by rw [low_none HOK.out.1.held (by rw [← HA.out.2.2.2.2.2.2.1]; exact HJ.out.1)]; exact Nat.le_refl _))]) (by decide) (below_set4 (below_any HW.out.1 HJ.out.2) (by omega) _ _ _ _)
            have HE : Hid _ := HE
            obtain ⟨y0, y1, y2, y3, j0, j1, j2, j3⟩ := ((HW.out.2.2 wr HJ.out.2).2).four
            go_wp2
            refine bodyPost_ret (v := .tuple #[.agg #[.slice none 0 0, .slice none 0 0, .slice none 0 0, .int .i64 0], .int .i64 0, .int .i64 51]) (by simp [results, Try.results70, go_sem, *]) rfl HE.out

end Go.Proofs.Ytkpckadicjdieaa
