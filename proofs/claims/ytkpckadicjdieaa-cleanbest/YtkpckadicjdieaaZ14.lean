import Derived.Test.YtkpckadicjdieaaZ13
import Derived.Test.YtkpckadicjdieaaZ11
import Derived.Test.YtkpckadicjdieaaZ12
import Derived.Test.YtkpckadicjdieaaZ4
/-
  What the document's Seal answers, for every store.
-/
namespace Go.Proofs.Ytkpckadicjdieaa
open Go.RowKit

/-- A segment in a row of its own: where it lies, and what a store makes of the row. -/
theorem sgs_setR {n : Nat} {w : World} {v : Value} {l : List Sg} (h : sgsR.owns n w [v] l) (i : Nat) (hi : i < l.length) :
    ∃ g cap, v = .slice (some ⟨g, 0, none⟩) l.length cap ∧ n ≤ g ∧ g < w.heap.size ∧ (∀ W, (Instr.indexAt 22 v (.int .i64 i)).run Try.prog W = .ok (.pointer (some ⟨g, i * 2, none⟩)) W) ∧ (∃ u0 u1, w.cell? ⟨g, i * 2, none⟩ = some u0 ∧ w.cell? ⟨g, i * 2 + 1, none⟩ = some u1) ∧ w.frozen? ⟨g, i * 2, none⟩ = false ∧ w.frozen? ⟨g, i * 2 + 1, none⟩ = false ∧
      ∀ q u bl, I64 q → bksR.owns n w [u] bl → sgsR.owns n ((w.setCell ⟨g, i * 2, none⟩ (.int .i64 q)).setCell ⟨g, i * 2 + 1, none⟩ u) [v] (l.set i (q, bl)) ∧ w.grownBy ((w.setCell ⟨g, i * 2, none⟩ (.int .i64 q)).setCell ⟨g, i * 2 + 1, none⟩ u) (some g) ∧ Clear w (some g) [4, 29, 5] := by
  obtain ⟨i0, hi0, _, hz, _⟩ := info_parts Try.info91
  obtain ⟨v', vss, hv, hC, hE⟩ := h
  obtain rfl : v = v' := by simpa using hv
  obtain ⟨g, cap, rfl⟩ : ∃ g cap, v = .slice (some ⟨g, 0, none⟩) l.length cap := by
    rcases hC.2 with ⟨_, h0⟩ | ⟨g, cap, cur, h', _⟩
    · omega
    · exact ⟨g, cap, h'⟩
  have hob : (Value.slice (some ⟨g, 0, none⟩) l.length cap).ownBlock = some g := rfl
  have hlt := hC.lt g hob
  have hsz : ∀ us ∈ vss, us.length = 2 := fun us h => by
    obtain ⟨q, _, hq⟩ := hE.left h
    exact sgR.length (sgR.olies hq)
  obtain ⟨p, hp⟩ := get_lt (l := l) (k := i) hi
  obtain ⟨us, hu, hO⟩ := hE.get hp
  obtain ⟨a, c, rfl, _⟩ := sg_ownR hO
  refine ⟨g, cap, rfl, hlt.1, hlt.2, fun W => ?_, ⟨.int .i64 p.1, .slice a p.2.length c, ?_, ?_⟩, hC.frozenAt _, hC.frozenAt _, fun q u bl hq hb => ?_⟩
  · have := run_index (size := 2) Try.underlying22 hi0 hz g 0 l.length cap i hi W
    simpa using this
  · have hc := hC.cells hob (i * 2 + 0) (.int .i64 p.1) (flat_get hsz hu rfl)
    rwa [add_plain, Nat.zero_add] at hc
  · have hc := hC.cells hob (i * 2 + 1) (.slice a p.2.length c) (flat_get hsz hu rfl)
    rwa [add_plain, Nat.zero_add] at hc
  · obtain ⟨h1, h2⟩ := hC.stored (i * 2 + 0) (.int .i64 q)
    rw [flat_set hsz hu (by omega)] at h1
    obtain ⟨h3, h4⟩ := h1.stored (i * 2 + 1) u
    rw [flat_set (us := [.int .i64 q, .slice a p.2.length c]) (fun x hx => by
      rcases List.mem_or_eq_of_mem_set hx with hx | hx
      · exact hsz x hx
      · rw [hx]; rfl) (by rw [List.getElem?_set_self (by rw [hE.length]; exact hi)]; rfl) (by omega), List.set_set] at h3
    have hg : w.grownBy ((w.setCell ⟨g, i * 2, none⟩ (.int .i64 q)).setCell ⟨g, i * 2 + 1, none⟩ u) (some g) := grown_trans h2 h4
    have hcl : ∀ ids, 91 ∉ ids → Clear w (some g) ids := fun ids h => by rw [← hob]; exact .own hC h
    have kp : ∀ x y, sgR.owns n w x y → sgR.owns n ((w.setCell ⟨g, i * 2, none⟩ (.int .i64 q)).setCell ⟨g, i * 2 + 1, none⟩ u) x y := fun x y h => sgR.ogrown h hg (hcl _ (by decide))
    refine ⟨⟨_, vss.set i [.int .i64 q, u], rfl, by rw [List.length_set]; exact h3, ?_⟩, hg, hcl _ (by decide)⟩
    refine each_of (by rw [List.length_set, List.length_set, hE.length]) fun j x y hx hy => ?_
    by_cases ej : j = i
    · subst ej
      rw [List.getElem?_set_self (by rw [hE.length]; exact hi)] at hx
      rw [List.getElem?_set_self hi] at hy
      obtain rfl := Option.some.inj hx
      obtain rfl := Option.some.inj hy
      exact kp _ _ (sg_omkR (s := (q, bl)) hb hq)
    · rw [List.getElem?_set_ne (by omega)] at hx hy
      obtain ⟨us', h5, h6⟩ := hE.get hy
      rw [hx] at h5
      obtain rfl := Option.some.inj h5
      exact kp _ _ h6

def TellsPR (k : Int) (p : Nat) (s' : St) (w : World) (e : Ending) (w' : World) : Prop := (∃ us', e = .returned (.tuple #[.agg us'.toArray, .int .i64 p, .int .i64 k]) ∧ stR.owns w.heap.size w' us' s') ∧ Below w.heap.size w w'

set_option maxRecDepth 100000 in
set_option maxHeartbeats 8000000 in
theorem rseal_any (n0 : Nat) (us : List Value) (s : St) (w : World) (h : stR.lies n0 w us s) :
    Calls Try.prog 70 #[.agg us.toArray] w (TellsPR (sE s) (sP s) (sS s) w) := by
  obtain ⟨a, c, b, d, e, f, rfl, hS, hH, hO, hN, m1, m2, m3⟩ := st_viewR h
  obtain ⟨post, hpost⟩ : ∃ post : Ending → World → Prop, post = TellsPR (sE s) (sP s) (sS s) w := ⟨_, rfl⟩
  have HNO : Hid (∀ k w', sE s = k → k ≠ 0 → Below w.heap.size w w' → post (.returned (.tuple #[.agg #[.slice none 0 0, .slice none 0 0, .slice none 0 0, .int .i64 0], .int .i64 0, .int .i64 k])) w') := fun k w' e1 e2 e3 => by
    rw [hpost]
    refine ⟨⟨_, by unfold sP; rw [e1, if_neg e2]; rfl, ?_⟩, e3⟩
    unfold sS
    rw [if_neg (by rw [e1]; exact e2)]
    exact s0_ownsR _ _
  have HYES : Hid (∀ (lo : Nat) us' w', sE s = 0 → lowAt s.1 s.2.1 = lo → stR.owns w.heap.size w' us' (s.1.set lo (s.2.2.2, s.2.2.1), s.2.1, [], s.2.2.2 + 1) → Below w.heap.size w w' → post (.returned (.tuple #[.agg us'.toArray, .int .i64 lo, .int .i64 0])) w') := fun lo us' w' e1 e0 e2 e3 => by
    rw [hpost]
    refine ⟨⟨us', by unfold sP; rw [e1, if_pos rfl, e0], ?_⟩, e3⟩
    unfold sS
    rw [if_pos e1, e0]
    exact e2
  rw [← hpost]
  clear hpost
  unfold maxLen at m1
  obtain ⟨n, hn⟩ : ∃ n, n = s.1.length := ⟨_, rfl⟩
  obtain ⟨nh, hnh⟩ : ∃ n, n = s.2.1.length := ⟨_, rfl⟩
  obtain ⟨no, hno⟩ : ∃ n, n = s.2.2.1.length := ⟨_, rfl⟩
  obtain ⟨nx, hnx⟩ : ∃ n, n = s.2.2.2 := ⟨_, rfl⟩
  rw [← hn, ← hnh, ← hno, ← hnx] at h ⊢
  rw [← hn] at hS m1
  rw [← hnh] at hH
  obtain ⟨W, hW⟩ : ∃ W, W = (w.alloc (.cells #[.slice a n c, .slice b nh d, .slice e no f, .int .i64 nx] 26)).alloc (.cells #[.slice none 0 0, .slice none 0 0, .slice none 0 0, .int .i64 0] 26) := ⟨_, rfl⟩
  have hbW : Below w.heap.size w W := by rw [hW]; exact ((Below.refl _ w).alloc (Nat.le_refl _) _).alloc (by simp) _
  have hB1 : Box W w.heap.size 26 #[.slice a n c, .slice b nh d, .slice e no f, .int .i64 nx] := by rw [hW]; exact (Box.new _ _ _).alloc _
  have hB2 : Box W (w.heap.size + 1) 26 #[.slice none 0 0, .slice none 0 0, .slice none 0 0, .int .i64 0] := by
    rw [hW]
    have := Box.new (w.alloc (.cells #[.slice a n c, .slice b nh d, .slice e no f, .int .i64 nx] 26)) 26 #[.slice none 0 0, .slice none 0 0, .slice none 0 0, .int .i64 0]
    rwa [World.size_alloc] at this
  have HC := rcheckL_any n0 [.slice a n c, .slice b nh d, .slice e no f, .int .i64 nx] s W (stR.below h hbW)
  have HW : Hid (Below w.heap.size w W ∧ W.heap.size = w.heap.size + 2 ∧ ∀ V, Below W.heap.size W V → Box V w.heap.size 26 #[.slice a n c, .slice b nh d, .slice e no f, .int .i64 nx] ∧ Box V (w.heap.size + 1) 26 #[.slice none 0 0, .slice none 0 0, .slice none 0 0, .int .i64 0]) := ⟨hbW, by rw [hW]; simp, fun V hV => ⟨hB1.below hV hB1.lt, hB2.below hV hB2.lt⟩⟩
  have HA : Hid (stR.lies n0 w [.slice a n c, .slice b nh d, .slice e no f, .int .i64 nx] s ∧ no = s.2.2.1.length ∧ nx = s.2.2.2 ∧ I64 nx ∧ sgsR.lies n0 w [.slice a n c] s.1 ∧ boolsS.lies n0 w [.slice b nh d] s.2.1 ∧ n = s.1.length ∧ nh = s.2.1.length) := ⟨h, hno, hnx, by rw [hnx]; exact hN, hS, hH, hn, hnh⟩
  have hl1 := run_len Try.underlying22 a n c
  have hl3 := run_len Try.underlying24 e no f
  obtain ⟨g0, g1, g2, g3, -⟩ := hB1.four
  rw [hW] at g0 g1 g2 g3
  clear h hS hH hO hN m2 m3 hbW hB1 hB2 hn hnh hno hnx
  go_enter Try.func70, Try.ntmps70
  go_wp2_with fail
  rw [← hW]
  clear hW g0 g1 g2 g3
  refine HC.mono ?_
  rintro e1 w1 ⟨rfl, hb1⟩
  obtain ⟨hx1, hx3⟩ := HW.out.2.2 w1 hb1
  have HB1 : Hid (Below W.heap.size W w1) := hb1
  obtain ⟨y0, y1, y2, y3, j0, j1, j2, j3⟩ := hx3.four
  obtain ⟨q0, q1, q2, q3, -⟩ := hx1.four
  rcases okE_cases s with ⟨hk, hok⟩ | ⟨hk, hok⟩
  case inr =>
    rw [hk]
    have HE := HNO.out 9 ((((w1.setCell ⟨w.heap.size + 1, 0, none⟩ (.slice none 0 0)).setCell ⟨w.heap.size + 1, 1, none⟩ (.slice none 0 0)).setCell ⟨w.heap.size + 1, 2, none⟩ (.slice none 0 0)).setCell ⟨w.heap.size + 1, 3, none⟩ (.int .i64 0)) (by
      have : okB s = false := by cases hb : okB s with | false => rfl | true => exact absurd (ok_iff.1 hb) hok
      unfold sE; rw [if_pos this]) (by decide) (below_set4 (below_any HW.out.1 hb1) (by omega) _ _ _ _)
    have HE : Hid _ := HE
    clear hb1 hx1 hx3 hok hk
    go_wp2
    refine bodyPost_ret (v := .tuple #[.agg #[.slice none 0 0, .slice none 0 0, .slice none 0 0, .int .i64 0], .int .i64 0, .int .i64 9]) (by simp [results, Try.results70, go_sem, *]) rfl HE.out
  case inl =>
    rw [hk]
    have HOK : Hid (Ok s ∧ okB s = true) := ⟨hok, ok_iff.2 hok⟩
    clear hk hok hx1 hb1 hx3
    by_cases h0 : no = 0
    · have HE := HNO.out 71 ((((w1.setCell ⟨w.heap.size + 1, 0, none⟩ (.slice none 0 0)).setCell ⟨w.heap.size + 1, 1, none⟩ (.slice none 0 0)).setCell ⟨w.heap.size + 1, 2, none⟩ (.slice none 0 0)).setCell ⟨w.heap.size + 1, 3, none⟩ (.int .i64 0)) (by unfold sE; rw [if_neg (by rw [HOK.out.2]; simp), if_pos (by rw [← HA.out.2.1]; exact h0)]) (by decide) (below_set4 (below_any HW.out.1 HB1.out) (by omega) _ _ _ _)
      have HE : Hid _ := HE
      subst h0
      go_wp2
      refine bodyPost_ret (v := .tuple #[.agg #[.slice none 0 0, .slice none 0 0, .slice none 0 0, .int .i64 0], .int .i64 0, .int .i64 71]) (by simp [results, Try.results70, go_sem, *]) rfl HE.out
    · have h0i : ((no : Int) == 0) = false := by simp; omega
      have h0j : ¬ (no : Int) = 0 := by omega
      have H0 : Hid (¬ s.2.2.1.length = 0) := show ¬ _ by rw [← HA.out.2.1]; exact h0
      clear h0
      by_cases hmx : 1099511627776 ≤ nx
      · have HE := HNO.out 51 ((((w1.setCell ⟨w.heap.size + 1, 0, none⟩ (.slice none 0 0)).setCell ⟨w.heap.size + 1, 1, none⟩ (.slice none 0 0)).setCell ⟨w.heap.size + 1, 2, none⟩ (.slice none 0 0)).setCell ⟨w.heap.size + 1, 3, none⟩ (.int .i64 0)) (by unfold sE; rw [if_neg (by rw [HOK.out.2]; simp), if_neg H0.out, if_pos (.inr (by rw [← HA.out.2.2.1]; exact hmx))]) (by decide) (below_set4 (below_any HW.out.1 HB1.out) (by omega) _ _ _ _)
        have HE : Hid _ := HE
        go_wp2
        refine bodyPost_ret (v := .tuple #[.agg #[.slice none 0 0, .slice none 0 0, .slice none 0 0, .int .i64 0], .int .i64 0, .int .i64 51]) (by simp [results, Try.results70, go_sem, *]) rfl HE.out
      · have hmd : decide ((1099511627776 : Int) ≤ nx) = false := decide_eq_false hmx
        have HNX : Hid (nx < 1099511627776 ∧ 1 ≤ nx) := ⟨by omega, by have := HOK.out.1.next.1; have := HA.out.2.2.1; omega⟩
        go_wp2
        clear y0 y1 y2 y3 j0 j1 j2 j3 q0 q1 q2 q3 hmd h0i h0j
        go_loopw [5] (fun i wr => ∃ k : Nat, k ≤ n ∧ i = .int .i64 k ∧ Hid ((∀ j, j < k → tst s.1 s.2.1 j = false) ∧ Below W.heap.size W wr)) (fun i _ => n - (intOf i).toNat)
        case atStart => exact ⟨0, Nat.zero_le _, rfl, fun j hj => by omega, HB1.out⟩
        case round =>
          obtain ⟨k, hk, rfl, HJ⟩ := hrel
          obtain ⟨q0, q1, q2, q3, -⟩ := ((HW.out.2.2 wr HJ.out.2).1).four
          by_cases hlt : k < n
          · obtain ⟨p, hp⟩ := get_lt (l := s.1) (k := k) (by rw [← HA.out.2.2.2.2.2.2.1]; exact hlt)
            obtain ⟨x, hx⟩ := get_lt (l := s.2.1) (k := k) (by have := HOK.out.1.held; have := HA.out.2.2.2.2.2.2.1; omega)
            have hbr := below_any HW.out.1 HJ.out.2
            obtain ⟨pb, po, xx, cap, hix, c0, c1, hL, _⟩ := sgs_atR (sgsR.below HA.out.2.2.2.2.1 hbr) k p hp
            obtain ⟨hb, ho, hix2, _, hc⟩ := bools_at HA.out.2.2.2.2.2.1 k x hx
            have hki : (k : Int) < (n : Int) := by omega
            have HT : Hid (tst s.1 s.2.1 k = (freeB p && !x)) := tst_at hp hx
            obtain ⟨q, pl⟩ := p
            simp only at c0 c1
            obtain ⟨m, hm⟩ : ∃ m, m = pl.length := ⟨_, rfl⟩
            rw [← hm] at c1
            have HCF := rfree_any q xx m cap wr
            have HFR : Hid (freeB (q, pl) = (decide (q = 0) && decide (m = 0))) := by show freeB _ = _; rw [hm]; rfl
            obtain ⟨fr, hfr⟩ : ∃ fr, fr = freeB (q, pl) := ⟨_, rfl⟩
            rw [← HFR.out, ← hfr] at HCF
            rw [← hfr] at HT
            have HV : Hid (∀ U, Below W.heap.size W U → (U.cell? ⟨w.heap.size, 0, none⟩ = some (.slice a n c) ∧ U.cell? ⟨w.heap.size, 1, none⟩ = some (.slice b nh d) ∧ U.cell? ⟨w.heap.size, 2, none⟩ = some (.slice e no f) ∧ U.cell? ⟨w.heap.size, 3, none⟩ = some (.int .i64 nx)) ∧ U.cell? ⟨hb, ho, none⟩ = some (.bool x)) := fun U hU => by
              have h1 := (HW.out.2.2 U hU).1.four
              exact ⟨⟨h1.1, h1.2.1, h1.2.2.1, h1.2.2.2.1⟩, by rw [(below_any HW.out.1 hU).cell (cell_lt hc)]; exact hc⟩
            clear hp hx hL hbr hm hfr HFR hc
            cases fr with
            | false =>
              go_wp2_with fail
              refine HCF.mono ?_
              rintro e2 w2 ⟨rfl, hb2⟩
              have HJ2 : Hid ((∀ j, j < k + 1 → tst s.1 s.2.1 j = false) ∧ Below W.heap.size W w2) := ⟨fun j hj => by
                by_cases ej : j = k
                · rw [ej, HT.out]; rfl
                · exact HJ.out.1 j (by omega), HJ.out.2.trans (hb2.mono HJ.out.2.size)⟩
              clear hb2 q0 q1 q2 q3 hix2 hix c0 c1
              go_wp2
              go_roundw
              case rel => exact ⟨k + 1, by omega, by go_num, HJ2.out⟩
              case measure => simp [intOf]; omega
            | true =>
              cases x with
              | true =>
                go_wp2_with fail
                refine HCF.mono ?_
                rintro e2 w2 ⟨rfl, hb2⟩
                have hbw := HJ.out.2.trans (hb2.mono HJ.out.2.size)
                obtain ⟨⟨z0, z1, z2', z3⟩, z4⟩ := HV.out w2 hbw
                have HJ2 : Hid ((∀ j, j < k + 1 → tst s.1 s.2.1 j = false) ∧ Below W.heap.size W w2) := ⟨fun j hj => by
                  by_cases ej : j = k
                  · rw [ej, HT.out]; rfl
                  · exact HJ.out.1 j (by omega), hbw⟩
                clear hb2 q0 q1 q2 q3 hbw hix c0 c1
                go_wp2
                go_roundw
                case rel => exact ⟨k + 1, by omega, by go_num, HJ2.out⟩
                case measure => simp [intOf]; omega
              | false =>
                go_wp2_with fail
                refine HCF.mono ?_
                rintro e2 w2 ⟨rfl, hb2⟩
                have hbw := HJ.out.2.trans (hb2.mono HJ.out.2.size)
                obtain ⟨⟨z0, z1, z2', z3⟩, z4⟩ := HV.out w2 hbw
                have HB2 : Hid (Below W.heap.size W w2) := hbw
                have HLO : Hid (lowAt s.1 s.2.1 = k ∧ k < s.1.length) := ⟨low_at HJ.out.1 (by rw [HT.out]; rfl), by have := HA.out.2.2.2.2.2.2.1; omega⟩
                have HSE : Hid (sE s = 0) := by
                  show sE s = 0
                  unfold sE
                  rw [if_neg (by rw [HOK.out.2]; simp), if_neg H0.out, if_neg (by have := HNX.out; have := HLO.out; have := HA.out.2.2.1; omega)]
                have HCC := rownL_any n0 [.slice a n c, .slice b nh d, .slice e no f, .int .i64 nx] s w2 (stR.below HA.out.1 (below_any HW.out.1 hbw)) HOK.out.1.fits
                clear hb2 q0 q1 q2 q3 hbw hix c0 c1
                go_wp2_with fail
                refine HCC.mono ?_
                rintro e3 w3 ⟨⟨us3, rfl, ho3⟩, hb3⟩
                replace ho3 := ho3.owns
                obtain ⟨l, hd, op, nx'⟩ := s
                obtain ⟨u1, u2, u3, u4, h5⟩ : ∃ v1 v2 v3, us3 = [v1, v2, v3, .int .i64 nx'] ∧ sgsR.owns (w2.heap.size + 2) w3 [v1] l ∧ boolsS.owns (w2.heap.size + 2) w3 [v2] hd ∧ bksR.owns (w2.heap.size + 2) w3 [v3] op ∧ I64 nx' := by
                  obtain ⟨p1, r, rfl, h1, p2, r2, rfl, h2, p3, r3, rfl, h3, rfl, h4⟩ := ho3
                  obtain ⟨_, _, _, rfl, _⟩ := Shape.list_own (S := sgR) (ht := Try.underlying22) (hc := cells22) h1
                  obtain ⟨_, _, rfl, _⟩ := Leaf.row_len (L := bL) (ht := Try.underlying23) (hc := cells23) (boolsS.olies h2)
                  obtain ⟨_, _, _, rfl, _⟩ := Shape.list_own (S := bkR) (ht := Try.underlying24) (hc := cells24) h3
                  exact ⟨_, _, _, rfl, h1, h2, h3, bounds_i64 h4⟩
                obtain ⟨hs1, hs2, hs3, hI⟩ := h5
                subst u4
                obtain ⟨a1, c1, _, hv1, -⟩ := Shape.list_own (S := sgR) (ht := Try.underlying22) (hc := cells22) hs1
                obtain ⟨a2, c2, hv2, -⟩ := Leaf.row_len (L := bL) (ht := Try.underlying23) (hc := cells23) (boolsS.olies hs2)
                obtain ⟨a3, c3, _, hv3, -⟩ := Shape.list_own (S := bkR) (ht := Try.underlying24) (hc := cells24) hs3
                obtain rfl : u1 = _ := (List.cons.inj hv1).1
                obtain rfl : u2 = _ := (List.cons.inj hv2).1
                obtain rfl : u3 = _ := (List.cons.inj hv3).1
                have hbw3 : Below W.heap.size W w3 := HB2.out.trans (hb3.mono HB2.out.size)
                obtain ⟨hx1, hx3⟩ := HW.out.2.2 w3 hbw3
                obtain ⟨X, hX⟩ : ∃ X, X = w3.alloc (.cells #[.slice a1 l.length c1, .slice a2 hd.length c2, .slice a3 op.length c3, .int .i64 nx'] 26) := ⟨_, rfl⟩
                have hbX3 : Below w3.heap.size w3 X := by rw [hX]; exact (Below.refl _ _).alloc (Nat.le_refl _) _
                have hxX : Box X w3.heap.size 26 #[.slice a1 l.length c1, .slice a2 hd.length c2, .slice a3 op.length c3, .int .i64 nx'] := by rw [hX]; exact Box.new _ _ _
                have hsX := hx1.below hbX3 hx1.lt
                have hzX := hx3.below hbX3 hx3.lt
                have hbX : Below w.heap.size w X := below_any HW.out.1 (hbw3.trans (hbX3.mono hbw3.size))
                have hW2 := HW.out.2.1
                have hw2 : w.heap.size + 2 ≤ w2.heap.size := by have := HB2.out.size; omega
                have hw3 := hb3.size
                have hg1 := sgsR.obelow hs1 hbX3
                have hg2 := boolsS.obelow hs2 hbX3
                have hg3 := bksR.obelow hs3 hbX3
                obtain ⟨g, cap', hv, hgB, hgl, hixx, ⟨u0', u1', cc0, cc1⟩, ff0, ff1, hst⟩ := sgs_setR hg1 k HLO.out.2
                have hgg : g < w3.heap.size := by
                  obtain ⟨gL, _, hgL0, _, hgL, _⟩ := sgs_setR hs1 k HLO.out.2
                  have h9 := hgL0.symm.trans hv
                  simp only [Value.slice.injEq, Option.some.injEq, Addr.mk.injEq, and_true, true_and] at h9
                  omega
                obtain ⟨rfl, rfl⟩ : a1 = some ⟨g, 0, none⟩ ∧ c1 = cap' := by simpa using hv
                obtain ⟨hY1, hYg, hcl⟩ := hst nx' (.slice a3 op.length c3) op hI hg3
                obtain ⟨Y, hY⟩ : ∃ Y, Y = (X.setCell ⟨g, k * 2, none⟩ (.int .i64 nx')).setCell ⟨g, k * 2 + 1, none⟩ (.slice a3 op.length c3) := ⟨_, rfl⟩
                rw [← hY] at hY1 hYg
                have hxY := hxX.grown hYg (by simp; omega)
                have hzY := hzX.grown hYg (by simp; omega)
                have hbY : Below w.heap.size w Y := by rw [hY]; exact (hbX.setCell (p := ⟨g, k * 2, none⟩) (by show w.heap.size ≤ g; omega) _).setCell (p := ⟨g, k * 2 + 1, none⟩) (by show w.heap.size ≤ g; omega) _
                have hY2 := boolsS.ogrown hg2 hYg (hcl.sub (fun x hx => by
                  have : x = 4 := List.mem_singleton.1 hx
                  rw [this]; simp))
                have HY : Hid (sgsR.owns (w2.heap.size + 2) Y [.slice (some ⟨g, 0, none⟩) l.length c1] (l.set k (nx', op)) ∧ boolsS.owns (w2.heap.size + 2) Y [.slice a2 hd.length c2] hd ∧ Below w.heap.size w Y ∧ Box Y w3.heap.size 26 #[.slice (some ⟨g, 0, none⟩) l.length c1, .slice a2 hd.length c2, .slice a3 op.length c3, .int .i64 nx'] ∧ Box Y (w.heap.size + 1) 26 #[.slice none 0 0, .slice none 0 0, .slice none 0 0, .int .i64 0] ∧ w.heap.size + 2 ≤ w2.heap.size ∧ w2.heap.size ≤ w3.heap.size) := ⟨hY1, hY2, hbY, hxY, hzY, hw2, hw3⟩
                obtain ⟨s0', s1', s2', s3', -⟩ := hxX.four
                obtain ⟨t0', t1', t2', t3', -⟩ := hsX.four
                have hnx1 : nx = nx' := HA.out.2.2.1
                subst hnx1
                go_upto_region 12 with fail
                rw [← hX]
                clear hX hxX hsX hzX hbX hW2 hw2 hg1 hg2 hg3 hst hcl hY1 hYg hxY hzY hbY hY2 hs1 hs2 hs3 hb3 hbw3 hx1 hx3 HCC z0 z1 z2' z3 z4 hgg hbX3 hw3
                go_upto_region 13 with fail
                rw [← hY]
                clear hY cc0 cc1 ff0 ff1 hixx s0' s1' s2' s3' t0' t1' t2' t3'
                obtain ⟨x0, x1, x2, x3, p0, p1, p2, p3⟩ := HY.out.2.2.2.1.four
                obtain ⟨Y2, hY2⟩ : ∃ Y2, Y2 = Y.setCell ⟨w3.heap.size, 2, none⟩ (.slice none 0 0) := ⟨_, rfl⟩
                obtain ⟨Z, hZ⟩ : ∃ Z, Z = Y2.setCell ⟨w3.heap.size, 3, none⟩ (.int .i64 (nx + 1)) := ⟨_, rfl⟩
                have hw9 := HY.out.2.2.2.2.2
                have hxY2 : Box Y2 w3.heap.size 26 #[.slice (some ⟨g, 0, none⟩) l.length c1, .slice a2 hd.length c2, .slice none 0 0, .int .i64 nx] := by rw [hY2]; exact HY.out.2.2.2.1.set 2 _
                have hxZ : Box Z w3.heap.size 26 #[.slice (some ⟨g, 0, none⟩) l.length c1, .slice a2 hd.length c2, .slice none 0 0, .int .i64 (nx + 1)] := by rw [hZ]; exact hxY2.set 3 _
                have hzZ : Box Z (w.heap.size + 1) 26 #[.slice none 0 0, .slice none 0 0, .slice none 0 0, .int .i64 0] := by rw [hZ, hY2]; exact (HY.out.2.2.2.2.1.other (by omega)).other (by omega)
                have hbZ : Below w.heap.size w Z := by rw [hZ, hY2]; exact (HY.out.2.2.1.setCell (p := ⟨w3.heap.size, 2, none⟩) (by show w.heap.size ≤ w3.heap.size; omega) _).setCell (p := ⟨w3.heap.size, 3, none⟩) (by show w.heap.size ≤ w3.heap.size; omega) _
                have hzown : stR.owns (w.heap.size + 2) Z [.slice (some ⟨g, 0, none⟩) l.length c1, .slice a2 hd.length c2, .slice none 0 0, .int .i64 (nx + 1)] (l.set k (nx, op), hd, [], nx + 1) := st_omkR (s := (l.set k (nx, op), hd, [], nx + 1)) (sgsR.oweaken (by rw [hZ]; exact sgsR.ogrown (by rw [hY2]; exact sgsR.ogrown HY.out.1 (grown_set _ _ _ _) (HY.out.2.2.2.1.clear (by decide))) (grown_set _ _ _ _) (hxY2.clear (by decide))) (by omega)) (boolsS.oweaken (by rw [hZ]; exact boolsS.ogrown (by rw [hY2]; exact boolsS.ogrown HY.out.2.1 (grown_set _ _ _ _) (HY.out.2.2.2.1.clear (by decide))) (grown_set _ _ _ _) (hxY2.clear (by decide))) (by omega)) (Shape.list_nil bkR 24 Try.underlying24 cells24 _ _) ⟨by have := HNX.out; show _ ≤ nx + 1; omega, by have := HNX.out; show nx + 1 ≤ _; omega⟩
                have HEND : Hid (∀ U, Same (w.heap.size + 2) Z U → Below w.heap.size w U → post (.returned (.tuple #[.agg #[.slice (some ⟨g, 0, none⟩) l.length c1, .slice a2 hd.length c2, .slice none 0 0, .int .i64 (nx + 1)], .int .i64 k, .int .i64 0])) U) := fun U h1 h2 => HYES.out k [_, _, _, _] U HSE.out HLO.out.1 (stR.oweaken (stR.osame hzown h1) (by omega)) h2
                have HBZ : Hid (Below w.heap.size w Z) := hbZ
                obtain ⟨q0, q1, q2, q3, -⟩ := hxZ.four
                obtain ⟨y0, y1, y2, y3, f0, f1, f2, f3⟩ := hzZ.four
                have hn1 := HNX.out
                go_upto_region 14 with fail
                rw [← hY2]
                clear hY2 x0 x1 x2 x3 p0 p1 p2 p3
                obtain ⟨x0, x1, x2, x3, p0, p1, p2, p3⟩ := hxY2.four
                go_upto_region 15 with fail
                rw [← hZ]
                clear hZ hxZ hzZ hbZ hzown hxY2 x0 x1 x2 x3 p0 p1 p2 p3 HY
                go_wp2
                refine bodyPost_ret (v := .tuple #[.agg #[.slice (some ⟨g, 0, none⟩) l.length c1, .slice a2 hd.length c2, .slice none 0 0, .int .i64 (nx + 1)], .int .i64 k, .int .i64 0]) (by simp [results, Try.results70, go_sem, *]) rfl ?_
                exact HEND.out _ (.set4 (by omega)) (below_set4 HBZ.out (by omega) _ _ _ _)
          · obtain rfl : k = n := by omega
            have HE := HNO.out 51 ((((wr.setCell ⟨w.heap.size + 1, 0, none⟩ (.slice none 0 0)).setCell ⟨w.heap.size + 1, 1, none⟩ (.slice none 0 0)).setCell ⟨w.heap.size + 1, 2, none⟩ (.slice none 0 0)).setCell ⟨w.heap.size + 1, 3, none⟩ (.int .i64 0)) (by unfold sE; rw [if_neg (by rw [HOK.out.2]; simp), if_neg H0.out, if_pos (.inl (by rw [low_none HOK.out.1.held (by rw [← HA.out.2.2.2.2.2.2.1]; exact HJ.out.1)]; exact Nat.le_refl _))]) (by decide) (below_set4 (below_any HW.out.1 HJ.out.2) (by omega) _ _ _ _)
            have HE : Hid _ := HE
            obtain ⟨y0, y1, y2, y3, j0, j1, j2, j3⟩ := ((HW.out.2.2 wr HJ.out.2).2).four
            go_wp2
            refine bodyPost_ret (v := .tuple #[.agg #[.slice none 0 0, .slice none 0 0, .slice none 0 0, .int .i64 0], .int .i64 0, .int .i64 51]) (by simp [results, Try.results70, go_sem, *]) rfl HE.out

end Go.Proofs.Ytkpckadicjdieaa

/-
  What the document's Free answers.
-/
namespace Go.Proofs.Ytkpckadicjdieaa
open Go.RowKit


end Go.Proofs.Ytkpckadicjdieaa

/-
  Clean, the document's: for every store and record.
-/
namespace Go.Proofs.Ytkpckadicjdieaa
open Go.ChangeShapes Go.WideShapes Go.ChangeAt Go.RowKit
set_option linter.unusedVariables false

theorem rc_ok {s : St} {i : Nat} {p : Sg} (h : Ok s) (hp : s.1[i]? = some p) (k : Nat) (hm : mvE ((lvs s p.1 p.2).take k) s = 0) : Ok (mvS ((lvs s p.1 p.2).take k) s) := by
  rcases mv_some ((lvs s p.1 p.2).take k) s h (fun b hb => (live_may h hp (List.mem_of_mem_take hb)).1) with h1 | h1
  · exact h1.2.1
  · rw [h1] at hm; exact absurd hm (by decide)
theorem st_ownR {n : Nat} {w : World} {us : List Value} {s : St} (h : stR.owns n w us s) : ∃ a c b d e f, us = [.slice a s.1.length c, .slice b s.2.1.length d, .slice e s.2.2.1.length f, .int .i64 s.2.2.2] ∧ sgsR.owns n w [.slice a s.1.length c] s.1 ∧ boolsS.owns n w [.slice b s.2.1.length d] s.2.1 ∧ bksR.owns n w [.slice e s.2.2.1.length f] s.2.2.1 ∧ I64 s.2.2.2 := by
  obtain ⟨u1, r, rfl, h1, u2, r2, rfl, h2, u3, r3, rfl, h3, rfl, h4⟩ := h
  obtain ⟨a, c, _, rfl, _⟩ := Shape.list_own (S := sgR) (ht := Try.underlying22) (hc := cells22) h1
  obtain ⟨b, d, rfl, _⟩ := Leaf.row_len (L := bL) (ht := Try.underlying23) (hc := cells23) (boolsS.olies h2)
  obtain ⟨e, f, _, rfl, _⟩ := Shape.list_own (S := bkR) (ht := Try.underlying24) (hc := cells24) h3
  exact ⟨a, c, b, d, e, f, rfl, h1, h2, h3, bounds_i64 h4⟩
theorem st_osegR {n : Nat} {w : World} {a b e : Option Addr} {n1 c m d k f : Nat} {q : Int} {s : St} (h : stR.owns n w [.slice a n1 c, .slice b m d, .slice e k f, .int .i64 q] s) : sgsR.owns n w [.slice a n1 c] s.1 ∧ boolsS.owns n w [.slice b m d] s.2.1 ∧ bksR.owns n w [.slice e k f] s.2.2.1 ∧ q = s.2.2.2 ∧ I64 s.2.2.2 := by
  obtain ⟨a9, c9, b9, d9, e9, f9, hu9, h1, h2, h3, h4⟩ := st_ownR h
  simp only [List.cons.injEq, Value.slice.injEq, Value.int.injEq, and_true, true_and] at hu9
  obtain ⟨⟨rfl, rfl, rfl⟩, ⟨rfl, rfl, rfl⟩, ⟨rfl, rfl, rfl⟩, rfl⟩ := hu9
  exact ⟨h1, h2, h3, rfl, h4⟩
/-- One segment's slot made free. -/
theorem st_freeR {n : Nat} {w : World} {a b e : Option Addr} {n1 c m d k f : Nat} {q : Int} {s : St} (h : stR.owns n w [.slice a n1 c, .slice b m d, .slice e k f, .int .i64 q] s) (i : Nat) (hi : i < s.1.length) :
    ∃ g, a = some ⟨g, 0, none⟩ ∧ n ≤ g ∧ g < w.heap.size ∧ (∀ W, (Instr.indexAt 22 (.slice a n1 c) (.int .i64 i)).run Try.prog W = .ok (.pointer (some ⟨g, i * 2, none⟩)) W) ∧ (∃ u0 u1, w.cell? ⟨g, i * 2, none⟩ = some u0 ∧ w.cell? ⟨g, i * 2 + 1, none⟩ = some u1) ∧ w.frozen? ⟨g, i * 2, none⟩ = false ∧ w.frozen? ⟨g, i * 2 + 1, none⟩ = false ∧
      w.grownBy ((w.setCell ⟨g, i * 2, none⟩ (.int .i64 0)).setCell ⟨g, i * 2 + 1, none⟩ (.slice none 0 0)) (some g) ∧ stR.owns n ((w.setCell ⟨g, i * 2, none⟩ (.int .i64 0)).setCell ⟨g, i * 2 + 1, none⟩ (.slice none 0 0)) [.slice a n1 c, .slice b m d, .slice e k f, .int .i64 q] (unS s i) := by
  obtain ⟨h1, h2, h3, hq, hI⟩ := st_osegR h
  rw [hq]
  obtain ⟨g, cap, hv, hgB, hgl, hixx, hcc, ff0, ff1, hst⟩ := sgs_setR h1 i hi
  obtain ⟨hY1, hYg, hcl⟩ := hst 0 (.slice none 0 0) [] ⟨by omega, by omega⟩ (Shape.list_nil bkR 24 Try.underlying24 cells24 _ _)
  have hY2 := boolsS.ogrown h2 hYg (hcl.sub (fun x hx => by
    have : x = 4 := List.mem_singleton.1 hx
    rw [this]; simp))
  have hY3 := bksR.ogrown h3 hYg (hcl.sub (fun x hx => by
    have : x = 29 ∨ x = 5 := by
      rcases List.mem_cons.1 hx with h | h
      · exact .inl h
      · exact .inr (List.mem_singleton.1 h)
    rcases this with rfl | rfl <;> simp))
  have ha : a = some ⟨g, 0, none⟩ := by
    simp only [Value.slice.injEq] at hv
    exact hv.1
  exact ⟨g, ha, hgB, hgl, hixx, hcc, ff0, ff1, hYg, st_omkR (s := unS s i) hY1 hY2 hY3 hI⟩

theorem seg_box {n : Nat} {w : World} {a : Option Addr} {n1 c : Nat} {l : List Sg} {B : Nat} {cs : Array Value} (h : sgsR.owns n w [.slice a n1 c] l) (hB : Box w B 26 cs) {g : Nat} (e : a = some ⟨g, 0, none⟩) : g ≠ B := by
  obtain ⟨v', vss, hv, hC, -⟩ := h
  obtain rfl : Value.slice a n1 c = v' := (List.cons.inj hv).1
  have h1 := hB.apart hC (by decide)
  rw [e] at h1
  rintro rfl
  exact h1 rfl


set_option maxRecDepth 100000 in
set_option maxHeartbeats 8000000 in
theorem rclean_any (n0 : Nat) (us : List Value) (s : St) (k q : Int) (w : World) (h : stR.lies n0 w us s) :
    Calls Try.prog 33 #[.agg us.toArray, .agg #[.int .i64 k, .int .i64 q]] w (TellsR (clE s k q) (clS s k q) w) := by
  obtain ⟨a0, n0, c0, b0, m0, d0, e0, k0, f0, q0, rfl, -⟩ := st_flatRl h
  obtain ⟨post, hpost⟩ : ∃ post : Ending → World → Prop, post = TellsR (clE s k q) (clS s k q) w := ⟨_, rfl⟩
  have HPo : Hid (∀ us' z t w', z = clE s k q → t = clS s k q → stR.owns w.heap.size w' us' t → Below w.heap.size w w' → post (.returned (.tuple #[.agg us'.toArray, .int .i64 z])) w') := fun us' z t w' e1 e2 e3 e4 => by
    rw [hpost, e1]
    rw [e2] at e3
    exact ⟨⟨us', rfl, e3⟩, e4⟩
  rw [← hpost]
  clear hpost
  obtain ⟨W, hW⟩ : ∃ W, W = ((w.alloc (.cells #[.slice a0 n0 c0, .slice b0 m0 d0, .slice e0 k0 f0, .int .i64 q0] 26)).alloc (.cells #[.int .i64 k, .int .i64 q] 69)).alloc (.cells #[.slice none 0 0, .slice none 0 0, .slice none 0 0, .int .i64 0] 26) := ⟨_, rfl⟩
  have HB : Hid (Below w.heap.size w W) := by rw [hW]; exact (((Below.refl _ w).alloc (Nat.le_refl _) _).alloc (by simp) _).alloc (by simp; omega) _
  have HX : Hid (Box W w.heap.size 26 #[.slice a0 n0 c0, .slice b0 m0 d0, .slice e0 k0 f0, .int .i64 q0] ∧ Box W (w.heap.size + 1) 69 #[.int .i64 k, .int .i64 q] ∧ Box W (w.heap.size + 2) 26 #[.slice none 0 0, .slice none 0 0, .slice none 0 0, .int .i64 0]) := by
    rw [hW]
    refine ⟨((Box.new _ _ _).alloc _).alloc _, ?_, ?_⟩
    · have := Box.new (w.alloc (.cells #[.slice a0 n0 c0, .slice b0 m0 d0, .slice e0 k0 f0, .int .i64 q0] 26)) 69 #[.int .i64 k, .int .i64 q]
      rw [World.size_alloc] at this
      exact this.alloc _
    · have := Box.new ((w.alloc (.cells #[.slice a0 n0 c0, .slice b0 m0 d0, .slice e0 k0 f0, .int .i64 q0] 26)).alloc (.cells #[.int .i64 k, .int .i64 q] 69)) 26 #[.slice none 0 0, .slice none 0 0, .slice none 0 0, .int .i64 0]
      rwa [World.size_alloc, World.size_alloc] at this
  have HL : Hid (∀ V, Below w.heap.size w V → stR.lies 0 V [.slice a0 n0 c0, .slice b0 m0 d0, .slice e0 k0 f0, .int .i64 q0] s) := fun V hV => stR.below (stR.weaken h (Nat.zero_le _)) hV
  clear h
  obtain ⟨ue, hue⟩ : ∃ z, z = uE s k := ⟨_, rfl⟩
  have HC := rliveL_any 0 [.slice a0 n0 c0, .slice b0 m0 d0, .slice e0 k0 f0, .int .i64 q0] s k W (HL.out W HB.out)
  rw [← hue] at HC
  have HUE : Hid (ue = uE s k) := hue
  clear hue
  go_enter Try.func33, Try.ntmps33
  go_upto_region 1 with fail
  rw [← hW]
  clear hW
  obtain ⟨x0, x1, x2, x3, -⟩ := HX.out.1.four
  obtain ⟨r0, r1, -⟩ := HX.out.2.1.two
  go_wp2_with fail
  clear x0 x1 x2 x3 r0 r1
  refine HC.mono ?_
  rintro e1 w1 ⟨⟨v1, rfl, ho1⟩, hb1⟩
  obtain ⟨va, vc, _, hv1, -⟩ := Shape.list_own (S := bkR) (ht := Try.underlying24) (hc := cells24) ho1
  obtain rfl : v1 = _ := (List.cons.inj hv1).1
  obtain ⟨n, hn⟩ : ∃ n, n = (lL s k).length := ⟨_, rfl⟩
  have hm : (lL s k).length ≤ maxLen := by
    obtain ⟨_, _, _, _, hm, _⟩ := Shape.list_len (S := bkR) (ht := Try.underlying24) (hc := cells24) (bksR.olies ho1)
    exact hm
  unfold maxLen at hm
  rw [← hn] at ho1 hm ⊢
  have HN : Hid (n = (lL s k).length) := hn
  have hl1 := run_len Try.underlying24 va n vc
  have HB1 : Hid (Below w.heap.size w w1 ∧ w.heap.size + 3 ≤ w1.heap.size) := ⟨below_any HB.out hb1, by have := hb1.size; have := HX.out.2.2.lt; omega⟩
  have HX1 : Hid (Box w1 w.heap.size 26 #[.slice a0 n0 c0, .slice b0 m0 d0, .slice e0 k0 f0, .int .i64 q0] ∧ Box w1 (w.heap.size + 1) 69 #[.int .i64 k, .int .i64 q] ∧ Box w1 (w.heap.size + 2) 26 #[.slice none 0 0, .slice none 0 0, .slice none 0 0, .int .i64 0]) := ⟨HX.out.1.below hb1 HX.out.1.lt, HX.out.2.1.below hb1 HX.out.2.1.lt, HX.out.2.2.below hb1 HX.out.2.2.lt⟩
  have HLV : Hid (bksR.owns w.heap.size w1 [(.slice va n vc)] (lL s k)) := bksR.oweaken ho1 HB.out.size
  clear HC ho1 hb1 hv1 hn
  by_cases hu : ue = 0
  case neg =>
    have hub : (ue == 0) = false := by simpa using hu
    have hun : clE s k q = ue := by unfold clE; rw [if_neg (by rw [← HUE.out]; exact hu)]; exact HUE.out.symm
    have hR := HX1.out.2.2
    obtain ⟨y0, y1, y2, y3, j0, j1, j2, j3⟩ := hR.four
    have HE : Hid (post (.returned (.tuple #[.agg #[.slice none 0 0, .slice none 0 0, .slice none 0 0, .int .i64 0], .int .i64 ue])) ((((w1.setCell ⟨(w.heap.size + 2), 0, none⟩ (.slice none 0 0)).setCell ⟨(w.heap.size + 2), 1, none⟩ (.slice none 0 0)).setCell ⟨(w.heap.size + 2), 2, none⟩ (.slice none 0 0)).setCell ⟨(w.heap.size + 2), 3, none⟩ (.int .i64 0))) := HPo.out [.slice none 0 0, .slice none 0 0, .slice none 0 0, .int .i64 0] ue s0 _ (hun).symm (clS_no (by rw [hun]; assumption)).symm (s0_ownsR _ _) (below_set4 HB1.out.1 (by omega) _ _ _ _)
    clear hR
    go_wp2
    refine bodyPost_ret (v := .tuple #[.agg #[.slice none 0 0, .slice none 0 0, .slice none 0 0, .int .i64 0], .int .i64 ue]) (by simp [results, Try.results33, go_sem, *]) rfl HE.out
  subst hu
  obtain ⟨hok, i, p, hki, hil, hp, hsl, hfr⟩ := uE_zero HUE.out.symm
  subst hki
  obtain ⟨gb, go', ga, gc, hix, hc0, hc1, hSG, _⟩ := sgs_atR (st_segR (HL.out w1 HB1.out.1)).1 i p hp
  have HP : Hid (Ok s ∧ s.1[i]? = some p ∧ slotOf s (i : Int) = p ∧ (lL s (i : Int)) = lvs s p.1 p.2) := ⟨hok, hp, hsl, by unfold lL; rw [if_pos HUE.out.symm, hsl]⟩
  have HS : Hid (∀ V, Below w1.heap.size w1 V → V.cell? ⟨w.heap.size, 0, none⟩ = some (.slice a0 n0 c0) ∧ V.cell? ⟨w.heap.size + 1, 0, none⟩ = some (.int .i64 i) ∧ V.cell? ⟨w.heap.size + 1, 1, none⟩ = some (.int .i64 q) ∧ V.cell? ⟨gb, go', none⟩ = some (.int .i64 p.1)) := fun V hV => ⟨((HX1.out.1.below hV HX1.out.1.lt).four).1, ((HX1.out.2.1.below hV HX1.out.2.1.lt).two).1, ((HX1.out.2.1.below hV HX1.out.2.1.lt).two).2.1, cell_below hV hc0⟩
  clear hok hil hp hsl hfr hc0 hc1 hSG
  obtain ⟨pq, hpq⟩ : ∃ z, z = p.1 := ⟨_, rfl⟩
  rw [← hpq] at HS
  have HPQ : Hid (pq = p.1) := hpq
  clear hpq
  go_upto_region 4 with fail
  refine AnyBut.begin (fun V => V.cell? ⟨w.heap.size, 0, none⟩ = some (.slice a0 n0 c0) ∧ V.cell? ⟨w.heap.size + 1, 0, none⟩ = some (.int .i64 i) ∧ V.cell? ⟨w.heap.size + 1, 1, none⟩ = some (.int .i64 q) ∧ V.cell? ⟨gb, go', none⟩ = some (.int .i64 pq)) 1000 (by kernel_rfl) ?_
  have hSS := HS.out w1.drew (Below.refl _ w1).drew
  refine tx 0 29 hSS ?_
  simp only [ua, ub, uc, ud]
  refine tx 1 30 hSS ?_
  simp only [ua, ub, uc, ud]
  refine tx 2 31 hSS ?_
  simp only [ua, ub, uc, ud]
  refine tx 3 32 hSS ?_
  simp only [ua, ub, uc, ud]
  refine tx 4 33 hSS ?_
  simp only [ua, ub, uc, ud]
  refine tx 5 34 hSS ?_
  simp only [ua, ub, uc, ud]
  refine tx 6 35 hSS ?_
  simp only [ua, ub, uc, ud]
  refine tx 7 36 hSS ?_
  simp only [ua, ub, uc, ud]
  refine tx 8 37 hSS ?_
  simp only [ua, ub, uc, ud]
  obtain ⟨D, hD⟩ : ∃ D, D = w1.drew := ⟨_, rfl⟩
  have hbD : Below w1.heap.size w1 D := by rw [hD]; exact (Below.refl _ w1).drew
  have HBD : Hid (Below w.heap.size w D ∧ w.heap.size + 3 ≤ D.heap.size) := ⟨below_any HB1.out.1 hbD, by have := hbD.size; have := HB1.out.2; omega⟩
  have HXD : Hid (Box D w.heap.size 26 #[.slice a0 n0 c0, .slice b0 m0 d0, .slice e0 k0 f0, .int .i64 q0] ∧ Box D (w.heap.size + 1) 69 #[.int .i64 (i : Int), .int .i64 q] ∧ Box D (w.heap.size + 2) 26 #[.slice none 0 0, .slice none 0 0, .slice none 0 0, .int .i64 0]) := ⟨HX1.out.1.below hbD HX1.out.1.lt, HX1.out.2.1.below hbD HX1.out.2.1.lt, HX1.out.2.2.below hbD HX1.out.2.2.lt⟩
  have HLD : Hid (bksR.owns w.heap.size D [(.slice va n vc)] (lL s (i : Int))) := bksR.obelow HLV.out hbD
  rw [← hD] at hSS ⊢
  clear hD hbD HS HX1 HB1 HLV
  by_cases hpe : pq = q
  case neg =>
    have hpb : (pq == q) = false := by simpa using hpe
    have hpn : (pq != q) = true := by simpa using hpe
    have h81 : ¬ (81 : Int) = 0 := by decide
    refine tx 9 38 hSS ?_
    simp only [ua, ub, uc, ud]
    refine tx 10 28 hSS ?_
    simp only [ua, ub, uc, ud]
    refine AnyBut.done (by kernel_rfl) ?_
    clear hSS hix
    have hun : clE s (i : Int) q = 81 := by unfold clE; rw [if_pos HUE.out.symm, HP.out.2.2.1, if_neg (by rw [← HPQ.out]; exact hpe)]
    have hR := HXD.out.2.2
    obtain ⟨y0, y1, y2, y3, j0, j1, j2, j3⟩ := hR.four
    have HE : Hid (post (.returned (.tuple #[.agg #[.slice none 0 0, .slice none 0 0, .slice none 0 0, .int .i64 0], .int .i64 81])) ((((D.setCell ⟨(w.heap.size + 2), 0, none⟩ (.slice none 0 0)).setCell ⟨(w.heap.size + 2), 1, none⟩ (.slice none 0 0)).setCell ⟨(w.heap.size + 2), 2, none⟩ (.slice none 0 0)).setCell ⟨(w.heap.size + 2), 3, none⟩ (.int .i64 0))) := HPo.out [.slice none 0 0, .slice none 0 0, .slice none 0 0, .int .i64 0] 81 s0 _ (hun).symm (clS_no (by rw [hun]; assumption)).symm (s0_ownsR _ _) (below_set4 HBD.out.1 (by omega) _ _ _ _)
    clear hR
    go_wp2
    refine bodyPost_ret (v := .tuple #[.agg #[.slice none 0 0, .slice none 0 0, .slice none 0 0, .int .i64 0], .int .i64 81]) (by simp [results, Try.results33, go_sem, *]) rfl HE.out
  subst hpe
  have hpn : (pq != pq) = false := by simp
  refine tx 9 38 hSS ?_
  simp only [ua, ub, uc, ud]
  refine tx 10 28 hSS ?_
  simp only [ua, ub, uc, ud]
  refine AnyBut.done (by kernel_rfl) ?_
  clear hSS hix hpn
  have HCE : Hid (clE s (i : Int) pq = movE (lL s (i : Int)) s) := show _ = _ by unfold clE; rw [if_pos HUE.out.symm, HP.out.2.2.1, if_pos HPQ.out.symm]
  have HC := rownL_any 0 [.slice a0 n0 c0, .slice b0 m0 d0, .slice e0 k0 f0, .int .i64 q0] s D (HL.out D HBD.out.1) HP.out.1.fits
  obtain ⟨x0, x1, x2, x3, -⟩ := HXD.out.1.four
  go_wp2_with fail
  clear x0 x1 x2 x3
  refine HC.mono ?_
  rintro e8' w8 ⟨⟨us8, rfl, ho8⟩, hb8⟩
  replace ho8 := ho8.owns
  obtain ⟨a8, n8, c8, b8, m8, d8, e8, k8, f8, q8, rfl, -⟩ := st_flatRl (stR.olies ho8)
  have HB8 : Hid (w.heap.size + 3 ≤ w8.heap.size) := Nat.le_trans HBD.out.2 hb8.size
  obtain ⟨X, hX⟩ : ∃ X, X = w8.alloc (.cells #[.slice a8 n8 c8, .slice b8 m8 d8, .slice e8 k8 f8, .int .i64 q8] 26) := ⟨_, rfl⟩
  have hbX : Below w8.heap.size w8 X := by rw [hX]; exact (Below.refl _ _).alloc (Nat.le_refl _) _
  have hbDX := below_any hb8 hbX
  have HX8 : Hid (Below w.heap.size w X ∧ Box X (w.heap.size + 1) 69 #[.int .i64 (i : Int), .int .i64 pq] ∧ Box X (w.heap.size + 2) 26 #[.slice none 0 0, .slice none 0 0, .slice none 0 0, .int .i64 0] ∧ Box X w8.heap.size 26 #[.slice a8 n8 c8, .slice b8 m8 d8, .slice e8 k8 f8, .int .i64 q8] ∧ stR.owns (w.heap.size + 3) X [.slice a8 n8 c8, .slice b8 m8 d8, .slice e8 k8 f8, .int .i64 q8] s ∧ bksR.owns w.heap.size X [(.slice va n vc)] (lL s (i : Int))) := ⟨below_any HBD.out.1 hbDX, HXD.out.2.1.below hbDX HXD.out.2.1.lt, HXD.out.2.2.below hbDX HXD.out.2.2.lt, by rw [hX]; exact Box.new _ _ _, stR.oweaken (stR.obelow ho8 hbX) (by have := HBD.out.2; omega), bksR.obelow HLD.out hbDX⟩
  go_upto_region 7 with fail
  rw [← hX]
  clear hX HC ho8 hb8 hbX hbDX
  go_wp2
  go_loopw [9] (fun z wr => ∃ k : Nat, k ≤ n ∧ z = .int .i64 k ∧ Hid (Below w.heap.size w wr ∧ Box wr (w.heap.size + 1) 69 #[.int .i64 (i : Int), .int .i64 pq] ∧ Box wr (w.heap.size + 2) 26 #[.slice none 0 0, .slice none 0 0, .slice none 0 0, .int .i64 0] ∧ mvE ((lL s (i : Int)).take k) s = 0 ∧ bksR.owns w.heap.size wr [(.slice va n vc)] (lL s (i : Int)) ∧ ∃ us9 : List Value, Box wr w8.heap.size 26 us9.toArray ∧ stR.owns (w.heap.size + 3) wr us9 (mvS ((lL s (i : Int)).take k) s))) (fun z _ => n - (intOf z).toNat)
  case atStart => exact ⟨0, Nat.zero_le _, rfl, HX8.out.1, HX8.out.2.1, HX8.out.2.2.1, rfl, HX8.out.2.2.2.2.2, [.slice a8 n8 c8, .slice b8 m8 d8, .slice e8 k8 f8, .int .i64 q8], HX8.out.2.2.2.1, HX8.out.2.2.2.2.1⟩
  case round =>
    obtain ⟨k, hk, rfl, HR⟩ := hrel
    obtain ⟨hbr, hr2, hr3, hmv, how, us9, hX9, hs9⟩ := HR.out
    obtain ⟨t, ht⟩ : ∃ t, t = mvS ((lL s (i : Int)).take k) s := ⟨_, rfl⟩
    rw [← ht] at hs9
    have hl9 : stR.lies 0 wr us9 t := stR.weaken (stR.olies hs9) (Nat.zero_le _)
    obtain ⟨a9, n9, c9, b9, m9, d9, e9, k9, f9, q9, rfl, -⟩ := st_flatRl hl9
    have HTE : Hid (t = mvS ((lL s (i : Int)).take k) s) := ht
    have HT : Hid (stR.owns (w.heap.size + 3) wr [.slice a9 n9 c9, .slice b9 m9 d9, .slice e9 k9 f9, .int .i64 q9] t ∧ Below w.heap.size w wr ∧ Box wr (w.heap.size + 1) 69 #[.int .i64 (i : Int), .int .i64 pq] ∧ Box wr (w.heap.size + 2) 26 #[.slice none 0 0, .slice none 0 0, .slice none 0 0, .int .i64 0] ∧ bksR.owns w.heap.size wr [(.slice va n vc)] (lL s (i : Int)) ∧ Box wr w8.heap.size 26 #[.slice a9 n9 c9, .slice b9 m9 d9, .slice e9 k9 f9, .int .i64 q9] ∧ stR.lies 0 wr [.slice a9 n9 c9, .slice b9 m9 d9, .slice e9 k9 f9, .int .i64 q9] t ∧ mvE ((lL s (i : Int)).take k) s = 0) := ⟨hs9, hbr, hr2, hr3, how, hX9, hl9, hmv⟩
    have HK9 : Hid (k9 = t.2.2.1.length) := (st_lenR hl9).2.2.1
    have hok : Ok t := by
      rw [ht]
      rw [HP.out.2.2.2] at hmv ⊢
      exact rc_ok HP.out.1 HP.out.2.1 k hmv
    have HOK : Hid (Ok t) := hok
    clear HR hbr hr2 hr3 hmv how hX9 hs9 ht hl9 hok
    have hl0 := run_len Try.underlying24 e9 k9 f9
    by_cases hlt : k < n
    · obtain ⟨x, hx⟩ := get_lt (l := (lL s (i : Int))) (k := k) (by rw [← HN.out]; exact hlt)
      have hki : (k : Int) < (n : Int) := by omega
      have HLT : Hid (k < n) := hlt
      have hmay : mayB x = true := by
        have hm := List.mem_of_getElem? hx
        rw [HP.out.2.2.2] at hm
        exact (live_may HP.out.1 HP.out.2.1 hm).1
      obtain ⟨xo, xi, xd⟩ := x
      have HTK : Hid ((lL s (i : Int)).take (k + 1) = (lL s (i : Int)).take k ++ [(xo, xi, xd)] ∧ (lL s (i : Int)) = (lL s (i : Int)).take (k + 1) ++ (lL s (i : Int)).drop (k + 1) ∧ (lL s (i : Int))[k]? = some (xo, xi, xd)) := ⟨take_snoc hx, (List.take_append_drop _ _).symm, hx⟩
      obtain ⟨g0, g1, g2, g3, -⟩ := HT.out.2.2.2.2.2.1.four
      clear hx
      rcases ptE_is HOK.out hmay with ⟨h8, h1, h2, h3⟩ | ⟨h8, h1, h2, h3, h4⟩ | ⟨h8, h1, h2, h3⟩
      · have HPT : Hid (ptE t (xo, xi, xd) = 0 ∧ ptS t (xo, xi, xd) = pS t (xo, xi, xd)) := ⟨h1, h3⟩
        rw [← HK9.out] at h8
        have h8a : (k9 : Int) < 8 := by omega
        have h8b : ¬ (8 : Int) ≤ (k9 : Int) := by omega
        have h8c : ¬ 8 ≤ k9 := by omega
        have h8d : decide ((8 : Int) ≤ (k9 : Int)) = false := decide_eq_false h8b
        have h8f : decide (8 ≤ k9) = false := decide_eq_false h8c
        clear h1 h2 h3 hmay
        obtain ⟨gb, go', gx, gz, hix, p0, p1, p2, hA1, i1, i2, _⟩ := bks_atR (bksR.olies HT.out.2.2.2.2.1) k (xo, xi, xd) HTK.out.2.2
        simp only at p0 p1 p2 hA1 i1 i2
        obtain ⟨xl, hxl⟩ : ∃ m, m = xd.length := ⟨_, rfl⟩
        rw [← hxl] at p2 hA1
        obtain ⟨pe, hpe⟩ : ∃ z, z = pE t (xo, xi, xd) := ⟨_, rfl⟩
        have hb8' := HT.out.2.2.2.2.2.1
        have HCp : Hid (∀ V', Below wr.heap.size wr V' → Calls Try.prog 12 #[.agg #[.slice a9 n9 c9, .slice b9 m9 d9, .slice e9 k9 f9, .int .i64 q9], .agg #[.int .i64 xo, .int .i64 xi, .slice gx xl gz]] V' (TellsR pe (pS t (xo, xi, xd)) V')) := fun V' hV' => by
          rw [hpe]
          exact rput_any 0 w.heap.size [.slice a9 n9 c9, .slice b9 m9 d9, .slice e9 k9 f9, .int .i64 q9] t [.int .i64 xo, .int .i64 xi, .slice gx xl gz] (xo, xi, xd) V' (stR.below HT.out.2.2.2.2.2.2.1 hV') (bkR.below (bk_mk (p := (xo, xi, xd)) hA1 i1 i2) hV') (Nat.le_trans HT.out.2.1.size hV'.size)
        have HS : Hid (∀ V', Below wr.heap.size wr V' → V'.cell? ⟨w8.heap.size, 0, none⟩ = some (.slice a9 n9 c9) ∧ V'.cell? ⟨w8.heap.size, 1, none⟩ = some (.slice b9 m9 d9) ∧ V'.cell? ⟨w8.heap.size, 2, none⟩ = some (.slice e9 k9 f9) ∧ V'.cell? ⟨w8.heap.size, 3, none⟩ = some (.int .i64 q9) ∧ V'.cell? ⟨gb, go', none⟩ = some (.int .i64 xo) ∧ V'.cell? ⟨gb, go' + 1, none⟩ = some (.int .i64 xi) ∧ V'.cell? ⟨gb, go' + 2, none⟩ = some (.slice gx xl gz)) := fun V' hV' => ⟨(hb8'.below hV' hb8'.lt).four.1, (hb8'.below hV' hb8'.lt).four.2.1, (hb8'.below hV' hb8'.lt).four.2.2.1, (hb8'.below hV' hb8'.lt).four.2.2.2.1, cell_below hV' p0, cell_below hV' p1, cell_below hV' p2⟩
        clear hA1 i1 i2 hxl hpe p0 p1 p2 hb8'
        (go_upto_region 15 with fail); clear g0 g1 g2 g3
        refine AnyTo.begin (fun V' => V'.cell? ⟨w8.heap.size, 0, none⟩ = some (.slice a9 n9 c9) ∧ V'.cell? ⟨w8.heap.size, 1, none⟩ = some (.slice b9 m9 d9) ∧ V'.cell? ⟨w8.heap.size, 2, none⟩ = some (.slice e9 k9 f9) ∧ V'.cell? ⟨w8.heap.size, 3, none⟩ = some (.int .i64 q9) ∧ V'.cell? ⟨gb, go', none⟩ = some (.int .i64 xo) ∧ V'.cell? ⟨gb, go' + 1, none⟩ = some (.int .i64 xi) ∧ V'.cell? ⟨gb, go' + 2, none⟩ = some (.slice gx xl gz)) 9 (by kernel_rfl) ?_
        have hSS := HS.out wr.drew (Below.refl _ wr).drew
        have hbV : Below wr.heap.size wr wr.drew := (Below.refl _ wr).drew
        refine ty9 0 64 hSS ?_
        simp only [ua, ub, uc, ud]
        refine ty9 1 65 hSS ?_
        simp only [ua, ub, uc, ud]
        refine ty9 2 66 hSS ?_
        simp only [ua, ub, uc, ud]
        refine ty9 3 67 hSS ?_
        simp only [ua, ub, uc, ud]
        refine ty9 4 68 hSS ?_
        simp only [ua, ub, uc, ud]
        refine AnyTo.step (i := 5) (by kernel_rfl) rfl (fun K hK => ?_)
        go_simp
        refine Calls.mono (HCp.out _ hbV) ?_
        rintro e9' w7 ⟨⟨us7, rfl, ho7⟩, hb7⟩
        obtain ⟨a7, n7, c7, b7, m7, d7, e7, k7, f7, q7, rfl, -⟩ := st_flatRl (stR.olies ho7)
        dsimp only
        have hbV7 : Below wr.heap.size wr w7 := below_any hbV hb7
        refine hK.out _ _ (HS.out w7 hbV7) ?_
        clear hK hSS
        have hSS := HS.out w7 hbV7
        refine ty9 6 63 hSS ?_
        simp only [ua, ub, uc, ud]
        refine ty9 7 70 hSS ?_
        simp only [ua, ub, uc, ud]
        refine tp9 8 71 hSS ?_
        simp only [ua, ub, uc, ud]
        have h8X := HT.out.2.2.2.2.2.1.below hbV7 HT.out.2.2.2.2.2.1.lt
        have h2X := HT.out.2.2.1.below hbV7 HT.out.2.2.1.lt
        have h3X := HT.out.2.2.2.1.below hbV7 HT.out.2.2.2.1.lt
        have hB8 := HB8.out
        have h8lt := HT.out.2.2.2.2.2.1.lt
        have hsz := hbV.size
        obtain ⟨X, hX⟩ : ∃ X, X = (((w7.setCell ⟨w8.heap.size, 0, none⟩ (.slice a7 n7 c7)).setCell ⟨w8.heap.size, 1, none⟩ (.slice b7 m7 d7)).setCell ⟨w8.heap.size, 2, none⟩ (.slice e7 k7 f7)).setCell ⟨w8.heap.size, 3, none⟩ (.int .i64 q7) := ⟨_, rfl⟩
        have hmvs := mv_snoc (b := (xo, xi, xd)) HT.out.2.2.2.2.2.2.2
        rw [← HTK.out.1, ← HTE.out] at hmvs
        have HI : Hid (Below w.heap.size w X ∧ Box X (w.heap.size + 1) 69 #[.int .i64 (i : Int), .int .i64 pq] ∧ Box X (w.heap.size + 2) 26 #[.slice none 0 0, .slice none 0 0, .slice none 0 0, .int .i64 0] ∧ mvE ((lL s (i : Int)).take (k + 1)) s = 0 ∧ bksR.owns w.heap.size X [(.slice va n vc)] (lL s (i : Int)) ∧ ∃ us9 : List Value, Box X w8.heap.size 26 us9.toArray ∧ stR.owns (w.heap.size + 3) X us9 (mvS ((lL s (i : Int)).take (k + 1)) s)) := by
          rw [hX]
          refine ⟨below_set4 (below_any HT.out.2.1 hbV7) (by omega) _ _ _ _, (((h2X.other (by omega)).other (by omega)).other (by omega)).other (by omega), (((h3X.other (by omega)).other (by omega)).other (by omega)).other (by omega), hmvs.1.trans HPT.out.1, rown_set4 bksR (by decide) (bksR.obelow HT.out.2.2.2.2.1 hbV7) h8X _ _ _ _, [.slice a7 n7 c7, .slice b7 m7 d7, .slice e7 k7 f7, .int .i64 q7], (((h8X.set 0 _).set 1 _).set 2 _).set 3 _, ?_⟩
          rw [hmvs.2 HPT.out.1, HPT.out.2]
          exact stR.oweaken (rown_set4 stR (by decide) ho7 h8X _ _ _ _) (by omega)
        obtain ⟨z0, z1, z2, z3, j0, j1, j2, j3⟩ := h8X.four
        clear hmvs h2X h3X hB8 h8lt hsz ho7 hb7 h8X hSS HCp HS hbV hbV7
        refine AnyTo.last (by kernel_rfl) (by kernel_rfl) rfl (fun K hK => ?_)
        go_simp
        refine hK.out _ _ ?_
        clear hK
        rw [← hX]
        clear hX z0 z1 z2 z3 j0 j1 j2 j3 hix
        go_wp2
        go_roundw
        case rel => exact ⟨k + 1, HLT.out, by go_num, HI.out⟩
        case measure => (have := HLT.out; simp [intOf]; omega)
      · have HPT : Hid (ptE t (xo, xi, xd) = 0 ∧ ptS t (xo, xi, xd) = pS (sS t) (xo, xi, xd)) := ⟨h2, h4⟩
        rw [← HK9.out] at h8
        subst h8
        clear h2 h3 h4 hmay
        have HC := rseal_any 0 [.slice a9 n9 c9, .slice b9 m9 d9, .slice e9 8 f9, .int .i64 q9] t wr HT.out.2.2.2.2.2.2.1
        rw [h1] at HC
        obtain ⟨x0, x1, x2, x3, -⟩ := HT.out.2.2.2.2.2.1.four
        go_wp2_with fail
        clear x0 x1 x2 x3
        refine HC.mono ?_
        rintro e6' w6 ⟨⟨us6, rfl, ho6⟩, hb6⟩
        obtain ⟨a6, n6, c6, b6, m6, d6, e6, k6, f6, q6, rfl, -⟩ := st_flatRl (stR.olies ho6)
        obtain ⟨X6, hX6⟩ : ∃ X, X = w6.alloc (.cells #[.slice a6 n6 c6, .slice b6 m6 d6, .slice e6 k6 f6, .int .i64 q6] 26) := ⟨_, rfl⟩
        have hb66 : Below w6.heap.size w6 X6 := by rw [hX6]; exact (Below.refl _ _).alloc (Nat.le_refl _) _
        have hbr6 : Below wr.heap.size wr X6 := below_any hb6 hb66
        have HX6 : Hid (Below wr.heap.size wr X6 ∧ Box X6 w6.heap.size 26 #[.slice a6 n6 c6, .slice b6 m6 d6, .slice e6 k6 f6, .int .i64 q6] ∧ stR.owns wr.heap.size X6 [.slice a6 n6 c6, .slice b6 m6 d6, .slice e6 k6 f6, .int .i64 q6] (sS t) ∧ wr.heap.size ≤ w6.heap.size) := ⟨hbr6, by rw [hX6]; exact Box.new _ _ _, stR.obelow ho6 hb66, hb6.size⟩
        clear HC ho6 hb6 hb66 hbr6
        go_upto_region 12 with fail
        rw [← hX6]
        clear hX6 g0 g1 g2 g3 h1
        have hbr6 := HX6.out.1
        have h8X := HT.out.2.2.2.2.2.1.below hbr6 HT.out.2.2.2.2.2.1.lt
        have h2X := HT.out.2.2.1.below hbr6 HT.out.2.2.1.lt
        have h3X := HT.out.2.2.2.1.below hbr6 HT.out.2.2.2.1.lt
        have h8lt := HT.out.2.2.2.2.2.1.lt
        have hB8 := HB8.out
        obtain ⟨X7, hX7⟩ : ∃ X, X = (((X6.setCell ⟨w8.heap.size, 0, none⟩ (.slice a6 n6 c6)).setCell ⟨w8.heap.size, 1, none⟩ (.slice b6 m6 d6)).setCell ⟨w8.heap.size, 2, none⟩ (.slice e6 k6 f6)).setCell ⟨w8.heap.size, 3, none⟩ (.int .i64 q6) := ⟨_, rfl⟩
        have HX7 : Hid (Below w.heap.size w X7 ∧ Box X7 (w.heap.size + 1) 69 #[.int .i64 (i : Int), .int .i64 pq] ∧ Box X7 (w.heap.size + 2) 26 #[.slice none 0 0, .slice none 0 0, .slice none 0 0, .int .i64 0] ∧ Box X7 w8.heap.size 26 #[.slice a6 n6 c6, .slice b6 m6 d6, .slice e6 k6 f6, .int .i64 q6] ∧ stR.owns wr.heap.size X7 [.slice a6 n6 c6, .slice b6 m6 d6, .slice e6 k6 f6, .int .i64 q6] (sS t) ∧ bksR.owns w.heap.size X7 [(.slice va n vc)] (lL s (i : Int))) := by
          rw [hX7]
          exact ⟨below_set4 (below_any HT.out.2.1 hbr6) (by omega) _ _ _ _, (((h2X.other (by omega)).other (by omega)).other (by omega)).other (by omega), (((h3X.other (by omega)).other (by omega)).other (by omega)).other (by omega), (((h8X.set 0 _).set 1 _).set 2 _).set 3 _, rown_set4 stR (by decide) HX6.out.2.2.1 h8X _ _ _ _, rown_set4 bksR (by decide) (bksR.obelow HT.out.2.2.2.2.1 hbr6) h8X _ _ _ _⟩
        have HWS : Hid (w8.heap.size < wr.heap.size) := h8lt
        obtain ⟨z0, z1, z2, z3, j0, j1, j2, j3⟩ := h8X.four
        obtain ⟨x0, x1, x2, x3, -⟩ := HX6.out.2.1.four
        clear hbr6 h2X h3X h8lt hB8 h8X
        go_upto_region 15 with fail
        rw [← hX7]
        clear hX7 z0 z1 z2 z3 j0 j1 j2 j3 x0 x1 x2 x3
        obtain ⟨gb, go', gx, gz, hix, p0, p1, p2, hA1, i1, i2, _⟩ := bks_atR (bksR.olies HX7.out.2.2.2.2.2) k (xo, xi, xd) HTK.out.2.2
        simp only at p0 p1 p2 hA1 i1 i2
        obtain ⟨xl, hxl⟩ : ∃ m, m = xd.length := ⟨_, rfl⟩
        rw [← hxl] at p2 hA1
        obtain ⟨pe, hpe⟩ : ∃ z, z = pE (sS t) (xo, xi, xd) := ⟨_, rfl⟩
        have hb8' := HX7.out.2.2.2.1
        have HCp : Hid (∀ V', Below X7.heap.size X7 V' → Calls Try.prog 12 #[.agg #[.slice a6 n6 c6, .slice b6 m6 d6, .slice e6 k6 f6, .int .i64 q6], .agg #[.int .i64 xo, .int .i64 xi, .slice gx xl gz]] V' (TellsR pe (pS (sS t) (xo, xi, xd)) V')) := fun V' hV' => by
          rw [hpe]
          exact rput_any 0 w.heap.size [.slice a6 n6 c6, .slice b6 m6 d6, .slice e6 k6 f6, .int .i64 q6] (sS t) [.int .i64 xo, .int .i64 xi, .slice gx xl gz] (xo, xi, xd) V' (stR.below (stR.weaken (stR.olies HX7.out.2.2.2.2.1) (Nat.zero_le _)) hV') (bkR.below (bk_mk (p := (xo, xi, xd)) hA1 i1 i2) hV') (Nat.le_trans HX7.out.1.size hV'.size)
        have HS : Hid (∀ V', Below X7.heap.size X7 V' → V'.cell? ⟨w8.heap.size, 0, none⟩ = some (.slice a6 n6 c6) ∧ V'.cell? ⟨w8.heap.size, 1, none⟩ = some (.slice b6 m6 d6) ∧ V'.cell? ⟨w8.heap.size, 2, none⟩ = some (.slice e6 k6 f6) ∧ V'.cell? ⟨w8.heap.size, 3, none⟩ = some (.int .i64 q6) ∧ V'.cell? ⟨gb, go', none⟩ = some (.int .i64 xo) ∧ V'.cell? ⟨gb, go' + 1, none⟩ = some (.int .i64 xi) ∧ V'.cell? ⟨gb, go' + 2, none⟩ = some (.slice gx xl gz)) := fun V' hV' => ⟨(hb8'.below hV' hb8'.lt).four.1, (hb8'.below hV' hb8'.lt).four.2.1, (hb8'.below hV' hb8'.lt).four.2.2.1, (hb8'.below hV' hb8'.lt).four.2.2.2.1, cell_below hV' p0, cell_below hV' p1, cell_below hV' p2⟩
        clear hA1 i1 i2 hxl hpe p0 p1 p2 hb8'
        skip
        refine AnyTo.begin (fun V' => V'.cell? ⟨w8.heap.size, 0, none⟩ = some (.slice a6 n6 c6) ∧ V'.cell? ⟨w8.heap.size, 1, none⟩ = some (.slice b6 m6 d6) ∧ V'.cell? ⟨w8.heap.size, 2, none⟩ = some (.slice e6 k6 f6) ∧ V'.cell? ⟨w8.heap.size, 3, none⟩ = some (.int .i64 q6) ∧ V'.cell? ⟨gb, go', none⟩ = some (.int .i64 xo) ∧ V'.cell? ⟨gb, go' + 1, none⟩ = some (.int .i64 xi) ∧ V'.cell? ⟨gb, go' + 2, none⟩ = some (.slice gx xl gz)) 9 (by kernel_rfl) ?_
        have hSS := HS.out X7.drew (Below.refl _ X7).drew
        have hbV : Below X7.heap.size X7 X7.drew := (Below.refl _ X7).drew
        refine ty9 0 64 hSS ?_
        simp only [ua, ub, uc, ud]
        refine ty9 1 65 hSS ?_
        simp only [ua, ub, uc, ud]
        refine ty9 2 66 hSS ?_
        simp only [ua, ub, uc, ud]
        refine ty9 3 67 hSS ?_
        simp only [ua, ub, uc, ud]
        refine ty9 4 68 hSS ?_
        simp only [ua, ub, uc, ud]
        refine AnyTo.step (i := 5) (by kernel_rfl) rfl (fun K hK => ?_)
        go_simp
        refine Calls.mono (HCp.out _ hbV) ?_
        rintro e9' w7 ⟨⟨us7, rfl, ho7⟩, hb7⟩
        obtain ⟨a7, n7, c7, b7, m7, d7, e7, k7, f7, q7, rfl, -⟩ := st_flatRl (stR.olies ho7)
        dsimp only
        have hbV7 : Below X7.heap.size X7 w7 := below_any hbV hb7
        refine hK.out _ _ (HS.out w7 hbV7) ?_
        clear hK hSS
        have hSS := HS.out w7 hbV7
        refine ty9 6 63 hSS ?_
        simp only [ua, ub, uc, ud]
        refine ty9 7 70 hSS ?_
        simp only [ua, ub, uc, ud]
        refine tp9 8 71 hSS ?_
        simp only [ua, ub, uc, ud]
        have h8X := HX7.out.2.2.2.1.below hbV7 HX7.out.2.2.2.1.lt
        have h2X := HX7.out.2.1.below hbV7 HX7.out.2.1.lt
        have h3X := HX7.out.2.2.1.below hbV7 HX7.out.2.2.1.lt
        have hB8 := HB8.out
        have h8lt := HX7.out.2.2.2.1.lt
        have hsz := hbV.size
        obtain ⟨X, hX⟩ : ∃ X, X = (((w7.setCell ⟨w8.heap.size, 0, none⟩ (.slice a7 n7 c7)).setCell ⟨w8.heap.size, 1, none⟩ (.slice b7 m7 d7)).setCell ⟨w8.heap.size, 2, none⟩ (.slice e7 k7 f7)).setCell ⟨w8.heap.size, 3, none⟩ (.int .i64 q7) := ⟨_, rfl⟩
        have hmvs := mv_snoc (b := (xo, xi, xd)) HT.out.2.2.2.2.2.2.2
        rw [← HTK.out.1, ← HTE.out] at hmvs
        have HI : Hid (Below w.heap.size w X ∧ Box X (w.heap.size + 1) 69 #[.int .i64 (i : Int), .int .i64 pq] ∧ Box X (w.heap.size + 2) 26 #[.slice none 0 0, .slice none 0 0, .slice none 0 0, .int .i64 0] ∧ mvE ((lL s (i : Int)).take (k + 1)) s = 0 ∧ bksR.owns w.heap.size X [(.slice va n vc)] (lL s (i : Int)) ∧ ∃ us9 : List Value, Box X w8.heap.size 26 us9.toArray ∧ stR.owns (w.heap.size + 3) X us9 (mvS ((lL s (i : Int)).take (k + 1)) s)) := by
          rw [hX]
          refine ⟨below_set4 (below_any HX7.out.1 hbV7) (by omega) _ _ _ _, (((h2X.other (by omega)).other (by omega)).other (by omega)).other (by omega), (((h3X.other (by omega)).other (by omega)).other (by omega)).other (by omega), hmvs.1.trans HPT.out.1, rown_set4 bksR (by decide) (bksR.obelow HX7.out.2.2.2.2.2 hbV7) h8X _ _ _ _, [.slice a7 n7 c7, .slice b7 m7 d7, .slice e7 k7 f7, .int .i64 q7], (((h8X.set 0 _).set 1 _).set 2 _).set 3 _, ?_⟩
          rw [hmvs.2 HPT.out.1, HPT.out.2]
          exact stR.oweaken (rown_set4 stR (by decide) ho7 h8X _ _ _ _) (by omega)
        obtain ⟨z0, z1, z2, z3, j0, j1, j2, j3⟩ := h8X.four
        clear hmvs h2X h3X hB8 h8lt hsz ho7 hb7 h8X hSS HCp HS hbV hbV7
        refine AnyTo.last (by kernel_rfl) (by kernel_rfl) rfl (fun K hK => ?_)
        go_simp
        refine hK.out _ _ ?_
        clear hK
        rw [← hX]
        clear hX z0 z1 z2 z3 j0 j1 j2 j3 hix
        go_wp2
        go_roundw
        case rel => exact ⟨k + 1, HLT.out, by go_num, HI.out⟩
        case measure => (have := HLT.out; simp [intOf]; omega)
      · rw [← HK9.out] at h8
        subst h8
        have hst : mvE (lL s (i : Int)) s = sE t := by
          rw [HTK.out.2.1]
          refine mv_stop ?_ h1
          rw [HTK.out.1, (mv_snoc HT.out.2.2.2.2.2.2.2).1, ← HTE.out]
          exact h2
        have hun' : clE s (i : Int) pq = sE t := by
          rw [HCE.out]
          unfold movE
          rw [if_neg (fun c => by rw [c] at HTK; cases HTK.out.2.2), hst, if_neg h1]
        have HUN : Hid (clE s (i : Int) pq = sE t) := hun'
        have HSN : Hid (¬ sE t = 0) := h1
        clear h1 h2 h3 hmay hst hun'
        obtain ⟨se, hse⟩ : ∃ z, z = sE t := ⟨_, rfl⟩
        obtain ⟨sp, hsp⟩ : ∃ z, z = sP t := ⟨_, rfl⟩
        have HC := rseal_any 0 [.slice a9 n9 c9, .slice b9 m9 d9, .slice e9 8 f9, .int .i64 q9] t wr HT.out.2.2.2.2.2.2.1
        rw [← hse, ← hsp] at HC
        obtain ⟨x0, x1, x2, x3, -⟩ := HT.out.2.2.2.2.2.1.four
        go_wp2_with fail
        clear x0 x1 x2 x3
        refine HC.mono ?_
        rintro e6' w6 ⟨⟨us6, rfl, ho6⟩, hb6⟩
        obtain ⟨a6, n6, c6, b6, m6, d6, e6, k6, f6, q6, rfl, -⟩ := st_flatRl (stR.olies ho6)
        obtain ⟨X6, hX6⟩ : ∃ X, X = w6.alloc (.cells #[.slice a6 n6 c6, .slice b6 m6 d6, .slice e6 k6 f6, .int .i64 q6] 26) := ⟨_, rfl⟩
        have hb66 : Below w6.heap.size w6 X6 := by rw [hX6]; exact (Below.refl _ _).alloc (Nat.le_refl _) _
        have hbr6 : Below wr.heap.size wr X6 := below_any hb6 hb66
        have HX6 : Hid (Below wr.heap.size wr X6 ∧ Box X6 w6.heap.size 26 #[.slice a6 n6 c6, .slice b6 m6 d6, .slice e6 k6 f6, .int .i64 q6] ∧ stR.owns wr.heap.size X6 [.slice a6 n6 c6, .slice b6 m6 d6, .slice e6 k6 f6, .int .i64 q6] (sS t) ∧ wr.heap.size ≤ w6.heap.size) := ⟨hbr6, by rw [hX6]; exact Box.new _ _ _, stR.obelow ho6 hb66, hb6.size⟩
        clear HC ho6 hb6 hb66 hbr6
        have hun : clE s (i : Int) pq = se := HUN.out.trans hse.symm
        have hsn : ¬ se = 0 := by rw [hse]; exact HSN.out
        have HUS : Hid (clE s (i : Int) pq = se) := hun
        have hsb : (se == 0) = false := by simpa using hsn
        clear hun hse hsp
        go_upto_region 12 with fail
        rw [← hX6]
        clear hX6 g0 g1 g2 g3
        have hR := (HT.out.2.2.2.1.below HX6.out.1 HT.out.2.2.2.1.lt)
        obtain ⟨y0, y1, y2, y3, j0, j1, j2, j3⟩ := hR.four
        have HE : Hid (post (.returned (.tuple #[.agg #[.slice none 0 0, .slice none 0 0, .slice none 0 0, .int .i64 0], .int .i64 se])) ((((X6.setCell ⟨(w.heap.size + 2), 0, none⟩ (.slice none 0 0)).setCell ⟨(w.heap.size + 2), 1, none⟩ (.slice none 0 0)).setCell ⟨(w.heap.size + 2), 2, none⟩ (.slice none 0 0)).setCell ⟨(w.heap.size + 2), 3, none⟩ (.int .i64 0))) := HPo.out [.slice none 0 0, .slice none 0 0, .slice none 0 0, .int .i64 0] se s0 _ (HUS.out).symm (clS_no (by rw [HUS.out]; assumption)).symm (s0_ownsR _ _) (below_set4 (below_any HT.out.2.1 HX6.out.1) (by omega) _ _ _ _)
        clear hR
        go_wp2
        refine bodyPost_ret (v := .tuple #[.agg #[.slice none 0 0, .slice none 0 0, .slice none 0 0, .int .i64 0], .int .i64 se]) (by simp [results, Try.results33, go_sem, *]) rfl HE.out
    · obtain rfl : n = k := by omega
      have htl : t = mvS (lL s (i : Int)) s ∧ mvE (lL s (i : Int)) s = 0 := by
        have h1 := HTE.out
        have h2 := HT.out.2.2.2.2.2.2.2
        rw [HN.out, List.take_length] at h1 h2
        exact ⟨h1, h2⟩
      have HTL : Hid (t = mvS (lL s (i : Int)) s ∧ mvE (lL s (i : Int)) s = 0) := htl
      clear htl hk hlt
      by_cases h0 : 0 < n
      · have h0i : (0 : Int) < (n : Int) := by omega
        have HNE : Hid ((lL s (i : Int)) ≠ []) := fun c => by
          have h1 := HN.out
          rw [c] at h1
          simp at h1
          omega
        obtain ⟨se, hse⟩ : ∃ z, z = sE t := ⟨_, rfl⟩
        obtain ⟨sp, hsp⟩ : ∃ z, z = sP t := ⟨_, rfl⟩
        have HC := rseal_any 0 [.slice a9 n9 c9, .slice b9 m9 d9, .slice e9 k9 f9, .int .i64 q9] t wr HT.out.2.2.2.2.2.2.1
        rw [← hse, ← hsp] at HC
        obtain ⟨x0, x1, x2, x3, -⟩ := HT.out.2.2.2.2.2.1.four
        go_wp2_with fail
        clear x0 x1 x2 x3
        refine HC.mono ?_
        rintro e6' w6 ⟨⟨us6, rfl, ho6⟩, hb6⟩
        obtain ⟨a6, n6, c6, b6, m6, d6, e6, k6, f6, q6, rfl, -⟩ := st_flatRl (stR.olies ho6)
        obtain ⟨X6, hX6⟩ : ∃ X, X = w6.alloc (.cells #[.slice a6 n6 c6, .slice b6 m6 d6, .slice e6 k6 f6, .int .i64 q6] 26) := ⟨_, rfl⟩
        have hb66 : Below w6.heap.size w6 X6 := by rw [hX6]; exact (Below.refl _ _).alloc (Nat.le_refl _) _
        have hbr6 : Below wr.heap.size wr X6 := below_any hb6 hb66
        have HX6 : Hid (Below wr.heap.size wr X6 ∧ Box X6 w6.heap.size 26 #[.slice a6 n6 c6, .slice b6 m6 d6, .slice e6 k6 f6, .int .i64 q6] ∧ stR.owns wr.heap.size X6 [.slice a6 n6 c6, .slice b6 m6 d6, .slice e6 k6 f6, .int .i64 q6] (sS t) ∧ wr.heap.size ≤ w6.heap.size) := ⟨hbr6, by rw [hX6]; exact Box.new _ _ _, stR.obelow ho6 hb66, hb6.size⟩
        clear HC ho6 hb6 hb66 hbr6
        have HMV : Hid (movE (lL s (i : Int)) s = se) := show _ = _ by unfold movE; rw [if_neg HNE.out, if_pos HTL.out.2, ← HTL.out.1]; exact hse.symm
        have HMS : Hid (movS (lL s (i : Int)) s = sS t) := show _ = _ by unfold movS; rw [if_neg HNE.out, if_pos HTL.out.2, ← HTL.out.1]
        clear hse hsp
        go_upto_region 18 with fail
        rw [← hX6]
        clear hX6
        by_cases hs0 : se = 0
        · subst hs0
          have hbr6 := HX6.out.1
          have h8X := HT.out.2.2.2.2.2.1.below hbr6 HT.out.2.2.2.2.2.1.lt
          have h2X := HT.out.2.2.1.below hbr6 HT.out.2.2.1.lt
          have h3X := HT.out.2.2.2.1.below hbr6 HT.out.2.2.2.1.lt
          have h8lt := HT.out.2.2.2.2.2.1.lt
          have hB8 := HB8.out
          obtain ⟨X7, hX7⟩ : ∃ X, X = (((X6.setCell ⟨w8.heap.size, 0, none⟩ (.slice a6 n6 c6)).setCell ⟨w8.heap.size, 1, none⟩ (.slice b6 m6 d6)).setCell ⟨w8.heap.size, 2, none⟩ (.slice e6 k6 f6)).setCell ⟨w8.heap.size, 3, none⟩ (.int .i64 q6) := ⟨_, rfl⟩
          have HX7 : Hid (Below w.heap.size w X7 ∧ Box X7 (w.heap.size + 1) 69 #[.int .i64 (i : Int), .int .i64 pq] ∧ Box X7 (w.heap.size + 2) 26 #[.slice none 0 0, .slice none 0 0, .slice none 0 0, .int .i64 0] ∧ Box X7 w8.heap.size 26 #[.slice a6 n6 c6, .slice b6 m6 d6, .slice e6 k6 f6, .int .i64 q6] ∧ stR.owns wr.heap.size X7 [.slice a6 n6 c6, .slice b6 m6 d6, .slice e6 k6 f6, .int .i64 q6] (sS t) ∧ bksR.owns w.heap.size X7 [(.slice va n vc)] (lL s (i : Int))) := by
            rw [hX7]
            exact ⟨below_set4 (below_any HT.out.2.1 hbr6) (by omega) _ _ _ _, (((h2X.other (by omega)).other (by omega)).other (by omega)).other (by omega), (((h3X.other (by omega)).other (by omega)).other (by omega)).other (by omega), (((h8X.set 0 _).set 1 _).set 2 _).set 3 _, rown_set4 stR (by decide) HX6.out.2.2.1 h8X _ _ _ _, rown_set4 bksR (by decide) (bksR.obelow HT.out.2.2.2.2.1 hbr6) h8X _ _ _ _⟩
          have HWS : Hid (w8.heap.size < wr.heap.size) := h8lt
          obtain ⟨z0, z1, z2, z3, j0, j1, j2, j3⟩ := h8X.four
          obtain ⟨x0, x1, x2, x3, -⟩ := HX6.out.2.1.four
          clear hbr6 h2X h3X h8lt hB8 h8X
          go_upto_region 21 with fail
          rw [← hX7]
          clear hX7 z0 z1 z2 z3 j0 j1 j2 j3 x0 x1 x2 x3
          have HM : Hid (movE (lL s (i : Int)) s = 0) := HMV.out
          have HF : Hid (Below w.heap.size w X7 ∧ Box X7 (w.heap.size + 1) 69 #[.int .i64 (i : Int), .int .i64 pq] ∧ Box X7 (w.heap.size + 2) 26 #[.slice none 0 0, .slice none 0 0, .slice none 0 0, .int .i64 0] ∧ Box X7 w8.heap.size 26 #[.slice a6 n6 c6, .slice b6 m6 d6, .slice e6 k6 f6, .int .i64 q6] ∧ stR.owns (w.heap.size + 3) X7 [.slice a6 n6 c6, .slice b6 m6 d6, .slice e6 k6 f6, .int .i64 q6] (movS (lL s (i : Int)) s)) := ⟨HX7.out.1, HX7.out.2.1, HX7.out.2.2.1, HX7.out.2.2.2.1, by rw [HMS.out]; exact stR.oweaken HX7.out.2.2.2.2.1 (by have := HWS.out; have := HB8.out; omega)⟩
          have hcl : clE s (i : Int) pq = 0 := HCE.out.trans HM.out
          obtain ⟨i', p', hii, -, -, -, -, hMv, -⟩ := cl_parts hcl
          obtain rfl : i = i' := by omega
          have hil : i < (movS (lL s (i : Int)) s).1.length := (List.getElem?_eq_some_iff.1 hMv.slot).1
          have hce : clS s (i : Int) pq = unS (movS (lL s (i : Int)) s) i := by unfold clS; rw [if_pos hcl]; simp
          obtain ⟨g, hga, hgB, hgl, hixx, ⟨u0', u1', cc0, cc1⟩, ff0, ff1, hYg, hYo⟩ := st_freeR HF.out.2.2.2.2 i hil
          have hgn := seg_box (st_osegR HF.out.2.2.2.2).1 HF.out.2.2.2.1 hga
          have hB8 := HB8.out
          obtain ⟨Y, hY⟩ : ∃ Y, Y = (X7.setCell ⟨g, i * 2, none⟩ (.int .i64 0)).setCell ⟨g, i * 2 + 1, none⟩ (.slice none 0 0) := ⟨_, rfl⟩
          rw [← hY] at hYg hYo
          have hxY := HF.out.2.2.2.1.grown hYg (by simp; omega)
          have hzY := HF.out.2.2.1.grown hYg (by simp; omega)
          have hbY : Below w.heap.size w Y := by rw [hY]; exact (HF.out.1.setCell (p := ⟨g, i * 2, none⟩) (by show w.heap.size ≤ g; omega) _).setCell (p := ⟨g, i * 2 + 1, none⟩) (by show w.heap.size ≤ g; omega) _
          have HE : Hid (post (.returned (.tuple #[.agg #[.slice a6 n6 c6, .slice b6 m6 d6, .slice e6 k6 f6, .int .i64 q6], .int .i64 0])) ((((Y.setCell ⟨(w.heap.size + 2), 0, none⟩ (.slice a6 n6 c6)).setCell ⟨(w.heap.size + 2), 1, none⟩ (.slice b6 m6 d6)).setCell ⟨(w.heap.size + 2), 2, none⟩ (.slice e6 k6 f6)).setCell ⟨(w.heap.size + 2), 3, none⟩ (.int .i64 q6))) := HPo.out [.slice a6 n6 c6, .slice b6 m6 d6, .slice e6 k6 f6, .int .i64 q6] 0 _ _ hcl.symm hce.symm (stR.oweaken (rown_set4 stR (by decide) hYo hzY _ _ _ _) (by omega)) (below_set4 hbY (by omega) _ _ _ _)
          obtain ⟨s0', s1', s2', s3', -⟩ := HF.out.2.2.2.1.four
          obtain ⟨r0, r1, -⟩ := HF.out.2.1.two
          obtain ⟨q0', q1', q2', q3', -⟩ := hxY.four
          obtain ⟨y0, y1, y2, y3, f0', f1', f2', f3'⟩ := hzY.four
          clear hcl hii hMv hil hce hga hgB hgl hYg hYo hgn hxY hzY hbY hB8
          go_upto_region 22 with fail
          rw [← hY]
          clear hY cc0 cc1 ff0 ff1 hixx s0' s1' s2' s3' r0 r1
          go_wp2
          refine bodyPost_ret (v := .tuple #[.agg #[.slice a6 n6 c6, .slice b6 m6 d6, .slice e6 k6 f6, .int .i64 q6], .int .i64 0]) (by simp [results, Try.results33, go_sem, *]) rfl HE.out
        · have hsb : (se == 0) = false := by simpa using hs0
          have HUS : Hid (clE s (i : Int) pq = se) := HCE.out.trans HMV.out
          have hR := (HT.out.2.2.2.1.below HX6.out.1 HT.out.2.2.2.1.lt)
          obtain ⟨y0, y1, y2, y3, j0, j1, j2, j3⟩ := hR.four
          have HE : Hid (post (.returned (.tuple #[.agg #[.slice none 0 0, .slice none 0 0, .slice none 0 0, .int .i64 0], .int .i64 se])) ((((X6.setCell ⟨(w.heap.size + 2), 0, none⟩ (.slice none 0 0)).setCell ⟨(w.heap.size + 2), 1, none⟩ (.slice none 0 0)).setCell ⟨(w.heap.size + 2), 2, none⟩ (.slice none 0 0)).setCell ⟨(w.heap.size + 2), 3, none⟩ (.int .i64 0))) := HPo.out [.slice none 0 0, .slice none 0 0, .slice none 0 0, .int .i64 0] se s0 _ (HUS.out).symm (clS_no (by rw [HUS.out]; assumption)).symm (s0_ownsR _ _) (below_set4 (below_any HT.out.2.1 HX6.out.1) (by omega) _ _ _ _)
          clear hR
          go_wp2
          refine bodyPost_ret (v := .tuple #[.agg #[.slice none 0 0, .slice none 0 0, .slice none 0 0, .int .i64 0], .int .i64 se]) (by simp [results, Try.results33, go_sem, *]) rfl HE.out
      · have h0i : ¬ (0 : Int) < (n : Int) := by omega
        have h0d : decide ((0 : Int) < (n : Int)) = false := decide_eq_false h0i
        have hnil : (lL s (i : Int)) = [] := List.eq_nil_of_length_eq_zero (by rw [← HN.out]; omega)
        have HM : Hid (movE (lL s (i : Int)) s = 0) := show _ = _ by unfold movE; rw [if_pos hnil]
        have HF : Hid (Below w.heap.size w wr ∧ Box wr (w.heap.size + 1) 69 #[.int .i64 (i : Int), .int .i64 pq] ∧ Box wr (w.heap.size + 2) 26 #[.slice none 0 0, .slice none 0 0, .slice none 0 0, .int .i64 0] ∧ Box wr w8.heap.size 26 #[.slice a9 n9 c9, .slice b9 m9 d9, .slice e9 k9 f9, .int .i64 q9] ∧ stR.owns (w.heap.size + 3) wr [.slice a9 n9 c9, .slice b9 m9 d9, .slice e9 k9 f9, .int .i64 q9] (movS (lL s (i : Int)) s)) := ⟨HT.out.2.1, HT.out.2.2.1, HT.out.2.2.2.1, HT.out.2.2.2.2.2.1, by
          have e : t = s := by rw [HTL.out.1, hnil]; rfl
          unfold movS
          rw [if_pos hnil, ← e]
          exact HT.out.1⟩
        clear hnil
        go_upto_region 21 with fail
        have hcl : clE s (i : Int) pq = 0 := HCE.out.trans HM.out
        obtain ⟨i', p', hii, -, -, -, -, hMv, -⟩ := cl_parts hcl
        obtain rfl : i = i' := by omega
        have hil : i < (movS (lL s (i : Int)) s).1.length := (List.getElem?_eq_some_iff.1 hMv.slot).1
        have hce : clS s (i : Int) pq = unS (movS (lL s (i : Int)) s) i := by unfold clS; rw [if_pos hcl]; simp
        obtain ⟨g, hga, hgB, hgl, hixx, ⟨u0', u1', cc0, cc1⟩, ff0, ff1, hYg, hYo⟩ := st_freeR HF.out.2.2.2.2 i hil
        have hgn := seg_box (st_osegR HF.out.2.2.2.2).1 HF.out.2.2.2.1 hga
        have hB8 := HB8.out
        obtain ⟨Y, hY⟩ : ∃ Y, Y = (wr.setCell ⟨g, i * 2, none⟩ (.int .i64 0)).setCell ⟨g, i * 2 + 1, none⟩ (.slice none 0 0) := ⟨_, rfl⟩
        rw [← hY] at hYg hYo
        have hxY := HF.out.2.2.2.1.grown hYg (by simp; omega)
        have hzY := HF.out.2.2.1.grown hYg (by simp; omega)
        have hbY : Below w.heap.size w Y := by rw [hY]; exact (HF.out.1.setCell (p := ⟨g, i * 2, none⟩) (by show w.heap.size ≤ g; omega) _).setCell (p := ⟨g, i * 2 + 1, none⟩) (by show w.heap.size ≤ g; omega) _
        have HE : Hid (post (.returned (.tuple #[.agg #[.slice a9 n9 c9, .slice b9 m9 d9, .slice e9 k9 f9, .int .i64 q9], .int .i64 0])) ((((Y.setCell ⟨(w.heap.size + 2), 0, none⟩ (.slice a9 n9 c9)).setCell ⟨(w.heap.size + 2), 1, none⟩ (.slice b9 m9 d9)).setCell ⟨(w.heap.size + 2), 2, none⟩ (.slice e9 k9 f9)).setCell ⟨(w.heap.size + 2), 3, none⟩ (.int .i64 q9))) := HPo.out [.slice a9 n9 c9, .slice b9 m9 d9, .slice e9 k9 f9, .int .i64 q9] 0 _ _ hcl.symm hce.symm (stR.oweaken (rown_set4 stR (by decide) hYo hzY _ _ _ _) (by omega)) (below_set4 hbY (by omega) _ _ _ _)
        obtain ⟨s0', s1', s2', s3', -⟩ := HF.out.2.2.2.1.four
        obtain ⟨r0, r1, -⟩ := HF.out.2.1.two
        obtain ⟨q0', q1', q2', q3', -⟩ := hxY.four
        obtain ⟨y0, y1, y2, y3, f0', f1', f2', f3'⟩ := hzY.four
        clear hcl hii hMv hil hce hga hgB hgl hYg hYo hgn hxY hzY hbY hB8
        go_upto_region 22 with fail
        rw [← hY]
        clear hY cc0 cc1 ff0 ff1 hixx s0' s1' s2' s3' r0 r1
        go_wp2
        refine bodyPost_ret (v := .tuple #[.agg #[.slice a9 n9 c9, .slice b9 m9 d9, .slice e9 k9 f9, .int .i64 q9], .int .i64 0]) (by simp [results, Try.results33, go_sem, *]) rfl HE.out

end Go.Proofs.Ytkpckadicjdieaa

/-
  The statements' helpers of layer 16: num, alive; scores as mathematics.
-/
namespace Go.Proofs.Ytkpckadicjdieaa
open Go.RowKit

theorem num16_any (k : Int) (w : World) : Calls Try.prog 36 #[.int .i64 k] w fun e w' => e = .returned (.int .i64 k) ∧ w = w' := by
  go_enter Try.func36, Try.ntmps36
  go_wp2
  go_ret
  exact ⟨rfl, rfl⟩
theorem sc_example : scV 1 2 9 = 307 ∧ scE 1 2 9 = 0 := ⟨by kernel_rfl, by kernel_rfl⟩
set_option maxRecDepth 100000 in
theorem alive16_any (w : World) : Calls Try.prog 37 #[] w fun e w' => e = .returned (.bool true) ∧ w = w' := by
  have HC := score_any 1 2 9 w ⟨by decide, by decide⟩ ⟨by decide, by decide⟩ ⟨by decide, by decide⟩
  rw [sc_example.1, sc_example.2] at HC
  go_enter Try.func37, Try.ntmps37
  go_wp2_with fail
  refine HC.mono ?_
  rintro e9 w9 ⟨rfl, rfl⟩
  clear HC
  go_wp2_with (go_at_call 36; refine (num16_any _ _).mono ?_; rintro e9 wn ⟨rfl, rfl⟩)
  go_ret
  exact ⟨rfl, rfl⟩
theorem sc_less {q l n : Int} (h : scOk q l n) : scE q (max (l - 1) 0) n = 0 ∧ scV q l n ≤ scV q (max (l - 1) 0) n := by
  obtain ⟨h1, h2, h3, h4, h5, h6⟩ := h
  have k : scOk q (max (l - 1) 0) n := ⟨h1, h2, by omega, by omega, h5, h6⟩
  refine ⟨sc_yes2 k, ?_⟩
  rw [sc_yes k, sc_yes ⟨h1, h2, h3, h4, h5, h6⟩]
  have hl : l = 0 ∨ l = 1 ∨ l = 2 ∨ l = 3 ∨ l = 4 ∨ l = 5 ∨ l = 6 ∨ l = 7 ∨ l = 8 := by omega
  rcases hl with rfl | rfl | rfl | rfl | rfl | rfl | rfl | rfl | rfl
  · show 64 * (8 - 0) * (n - q) / (8 + 0) ≤ 64 * (8 - 0) * (n - q) / (8 + 0); omega
  · show 64 * (8 - 1) * (n - q) / (8 + 1) ≤ 64 * (8 - 0) * (n - q) / (8 + 0); omega
  · show 64 * (8 - 2) * (n - q) / (8 + 2) ≤ 64 * (8 - 1) * (n - q) / (8 + 1); omega
  · show 64 * (8 - 3) * (n - q) / (8 + 3) ≤ 64 * (8 - 2) * (n - q) / (8 + 2); omega
  · show 64 * (8 - 4) * (n - q) / (8 + 4) ≤ 64 * (8 - 3) * (n - q) / (8 + 3); omega
  · show 64 * (8 - 5) * (n - q) / (8 + 5) ≤ 64 * (8 - 4) * (n - q) / (8 + 4); omega
  · show 64 * (8 - 6) * (n - q) / (8 + 6) ≤ 64 * (8 - 5) * (n - q) / (8 + 5); omega
  · show 64 * (8 - 7) * (n - q) / (8 + 7) ≤ 64 * (8 - 6) * (n - q) / (8 + 6); omega
  · show 64 * (8 - 8) * (n - q) / (8 + 8) ≤ 64 * (8 - 7) * (n - q) / (8 + 7); omega
theorem sc_young {q l n : Int} (h : scOk q l n) : scE (min (q + 1) n) l n = 0 ∧ scV (min (q + 1) n) l n ≤ scV q l n := by
  obtain ⟨h1, h2, h3, h4, h5, h6⟩ := h
  have k : scOk (min (q + 1) n) l n := ⟨by omega, by omega, h3, h4, by omega, h6⟩
  refine ⟨sc_yes2 k, ?_⟩
  rw [sc_yes k, sc_yes ⟨h1, h2, h3, h4, h5, h6⟩]
  have hm : n - min (q + 1) n ≤ n - q := by omega
  generalize n - min (q + 1) n = d1 at hm ⊢
  generalize n - q = d2 at hm ⊢
  have hl : l = 0 ∨ l = 1 ∨ l = 2 ∨ l = 3 ∨ l = 4 ∨ l = 5 ∨ l = 6 ∨ l = 7 ∨ l = 8 := by omega
  rcases hl with rfl | rfl | rfl | rfl | rfl | rfl | rfl | rfl | rfl <;> omega
theorem sc_eight {q n : Int} : scV q 8 n = 0 := by
  unfold scV
  split
  · omega
  · rfl
theorem sc_bound {q l n : Int} : 0 ≤ scV q l n ∧ scV q l n ≤ 9223372036854775807 := by
  unfold scV
  split
  · rename_i h
    obtain ⟨h1, h2, h3, h4, h5, h6⟩ := scB_iff.1 h
    have hl : l = 0 ∨ l = 1 ∨ l = 2 ∨ l = 3 ∨ l = 4 ∨ l = 5 ∨ l = 6 ∨ l = 7 ∨ l = 8 := by omega
    rcases hl with rfl | rfl | rfl | rfl | rfl | rfl | rfl | rfl | rfl <;> omega
  · omega

end Go.Proofs.Ytkpckadicjdieaa

/-
  A store of the document's for the program, in memory of its own.
-/
namespace Go.Proofs.Ytkpckadicjdieaa
open Go.RowKit

set_option maxRecDepth 100000 in
set_option maxHeartbeats 8000000 in
theorem ofL_any (n0 : Nat) (us : List Value) (s : St) (w : World) (h : stR.lies n0 w us s) (hf : FitsL s) :
    Calls Try.prog 9 #[.agg us.toArray] w fun e w' => (∃ us', e = .returned (.agg us'.toArray) ∧ stN.owns w.heap.size w' us' s) ∧ Below w.heap.size w w' := by
  obtain ⟨a, c, b, d, e, f, rfl, hS, hH, hO, hN, m1, m2, m3⟩ := st_viewR h
  obtain ⟨l, hd, op, nx⟩ := s
  simp only at hS hH hO hN m1 m2 m3 hf ⊢
  obtain ⟨⟨f1, f2⟩, f3, f4, f5⟩ := hf
  simp only at f1 f2 f3 f4 f5
  obtain ⟨post, hpost⟩ : ∃ post : Ending → World → Prop, post = fun e w' => (∃ us', e = .returned (.agg us'.toArray) ∧ stN.owns w.heap.size w' us' (l, hd, op, nx)) ∧ Below w.heap.size w w' := ⟨_, rfl⟩
  have HPo : Hid (∀ us' w', stN.owns w.heap.size w' us' (l, hd, op, nx) → Below w.heap.size w w' → post (.returned (.agg us'.toArray)) w') := fun v' w' h1 h2 => by rw [hpost]; exact ⟨⟨v', rfl, h1⟩, h2⟩
  rw [← hpost]
  clear hpost
  obtain ⟨n, hn⟩ : ∃ n, n = l.length := ⟨_, rfl⟩
  obtain ⟨nh, hnh⟩ : ∃ n, n = hd.length := ⟨_, rfl⟩
  obtain ⟨no, hno⟩ : ∃ n, n = op.length := ⟨_, rfl⟩
  rw [← hn, ← hnh, ← hno]
  have hnb : n * 32 ≤ 140737488351232 := by rw [hn]; exact f1
  obtain ⟨W, hW⟩ : ∃ W, W = (w.alloc (.cells #[.slice a n c, .slice b nh d, .slice e no f, .int .i64 nx] 26)).alloc (.cells #[.slice none 0 0, .slice none 0 0, .slice none 0 0, .int .i64 0] 33) := ⟨_, rfl⟩
  have hbW : Below w.heap.size w W := by rw [hW]; exact ((Below.refl _ w).alloc (Nat.le_refl _) _).alloc (by simp) _
  have hB1 : Box W w.heap.size 26 #[.slice a n c, .slice b nh d, .slice e no f, .int .i64 nx] := by rw [hW]; exact (Box.new _ _ _).alloc _
  have hB2 : Box W (w.heap.size + 1) 33 #[.slice none 0 0, .slice none 0 0, .slice none 0 0, .int .i64 0] := by
    rw [hW]
    have := Box.new (w.alloc (.cells #[.slice a n c, .slice b nh d, .slice e no f, .int .i64 nx] 26)) 33 #[.slice none 0 0, .slice none 0 0, .slice none 0 0, .int .i64 0]
    rwa [World.size_alloc] at this
  have HN : Hid (n = l.length ∧ nh = hd.length ∧ no = op.length) := ⟨hn, hnh, hno⟩
  have HW : Hid (Below w.heap.size w W ∧ W.heap.size = w.heap.size + 2 ∧ ∀ V, Below W.heap.size W V → Box V w.heap.size 26 #[.slice a n c, .slice b nh d, .slice e no f, .int .i64 nx] ∧ Box V (w.heap.size + 1) 33 #[.slice none 0 0, .slice none 0 0, .slice none 0 0, .int .i64 0]) := ⟨hbW, by rw [hW]; simp, fun V hV => ⟨hB1.below hV hB1.lt, hB2.below hV hB2.lt⟩⟩
  have HA : Hid (sgsR.lies n0 w [.slice a n c] l ∧ (∀ p ∈ l, Fits p) ∧ I64 nx) := ⟨by rw [hn]; exact hS, f2, hN⟩
  have HC1 : Hid (∀ V, Below W.heap.size W V → Calls Try.prog 38 #[.slice b nh d] V fun e w' => (∃ v', e = .returned v' ∧ boolsS.owns V.heap.size w' [v'] hd) ∧ Below V.heap.size V w') := fun V hV => cbools_any n0 (.slice b nh d) hd V (boolsS.below (by rw [hnh]; exact hH) (below_any hbW hV)) (by omega)
  have HC2 : Hid (∀ V, Below W.heap.size W V → Calls Try.prog 39 #[.slice e no f] V fun e w' => (∃ v', e = .returned v' ∧ bksN.owns V.heap.size w' [v'] op) ∧ Below V.heap.size V w') := fun V hV => ofBlocks_any n0 (.slice e no f) op V (bksR.below (by rw [hno]; exact hO) (below_any hbW hV)) ⟨f4, f5⟩
  have HS : Hid (∀ V, Below W.heap.size W V → V.cell? ⟨w.heap.size, 1, none⟩ = some (.slice b nh d) ∧ V.cell? ⟨w.heap.size, 2, none⟩ = some (.slice e no f) ∧ V.cell? ⟨w.heap.size, 3, none⟩ = some (.int .i64 nx)) := fun V hV => by
    have h1 := (hB1.below hV hB1.lt).four
    exact ⟨h1.2.1, h1.2.2.1, h1.2.2.2.1⟩
  clear h hS hH hO hN m1 m2 m3 hbW hB1 hB2 hn hnh hno f1 f2 f3 f4 f5
  go_enter Try.func9, Try.ntmps9
  go_upto_region 1 with fail
  rw [← hW]
  clear hW
  go_cut [3] (fun u wx => ∃ dd, u = .pointer (some ⟨dd, 0, none⟩) ∧ Hid (W.heap.size ≤ dd ∧ Below W.heap.size W wx ∧ ∃ a2 c2 a3 c3, Box wx dd 33 #[.slice none 0 0, .slice a2 nh c2, .slice a3 no c3, .int .i64 nx] ∧ boolsS.owns W.heap.size wx [.slice a2 nh c2] hd ∧ bksN.owns W.heap.size wx [.slice a3 no c3] op))
  case first =>
    rename_i J K1 hJ hMt
    have HREL : Hid (∀ dd a2 c2 a3 c3 (w2 : World), Below W.heap.size W w2 → W.heap.size ≤ dd → Box w2 dd 33 #[.slice none 0 0, .slice none 0 0, .slice none 0 0, .int .i64 0] → boolsS.owns W.heap.size w2 [.slice a2 nh c2] hd → bksN.owns W.heap.size w2 [.slice a3 no c3] op → Below W.heap.size W ((((w2.setCell ⟨dd, 0, none⟩ (.slice none 0 0)).setCell ⟨dd, 1, none⟩ (.slice a2 nh c2)).setCell ⟨dd, 2, none⟩ (.slice a3 no c3)).setCell ⟨dd, 3, none⟩ (.int .i64 nx)) ∧ Hid (W.heap.size ≤ dd ∧ Below W.heap.size W ((((w2.setCell ⟨dd, 0, none⟩ (.slice none 0 0)).setCell ⟨dd, 1, none⟩ (.slice a2 nh c2)).setCell ⟨dd, 2, none⟩ (.slice a3 no c3)).setCell ⟨dd, 3, none⟩ (.int .i64 nx)) ∧ ∃ a2' c2' a3' c3', Box ((((w2.setCell ⟨dd, 0, none⟩ (.slice none 0 0)).setCell ⟨dd, 1, none⟩ (.slice a2 nh c2)).setCell ⟨dd, 2, none⟩ (.slice a3 no c3)).setCell ⟨dd, 3, none⟩ (.int .i64 nx)) dd 33 #[.slice none 0 0, .slice a2' nh c2', .slice a3' no c3', .int .i64 nx] ∧ boolsS.owns W.heap.size ((((w2.setCell ⟨dd, 0, none⟩ (.slice none 0 0)).setCell ⟨dd, 1, none⟩ (.slice a2 nh c2)).setCell ⟨dd, 2, none⟩ (.slice a3 no c3)).setCell ⟨dd, 3, none⟩ (.int .i64 nx)) [.slice a2' nh c2'] hd ∧ bksN.owns W.heap.size ((((w2.setCell ⟨dd, 0, none⟩ (.slice none 0 0)).setCell ⟨dd, 1, none⟩ (.slice a2 nh c2)).setCell ⟨dd, 2, none⟩ (.slice a3 no c3)).setCell ⟨dd, 3, none⟩ (.int .i64 nx)) [.slice a3' no c3'] op)) := fun dd a2 c2 a3 c3 w2 h1 h2 h3 h4 h5 => ⟨below_set4 h1 h2 _ _ _ _, h2, below_set4 h1 h2 _ _ _ _, a2, c2, a3, c3, (((h3.set 0 _).set 1 _).set 2 _).set 3 _, own_set4 boolsS (by decide) h4 h3 _ _ _ _, own_set4 bksN (by decide) h5 h3 _ _ _ _⟩
    refine AnyBut.begin (fun V => V.cell? ⟨w.heap.size, 1, none⟩ = some (.slice b nh d) ∧ V.cell? ⟨w.heap.size, 2, none⟩ = some (.slice e no f) ∧ V.cell? ⟨w.heap.size, 3, none⟩ = some (.int .i64 nx)) 1000 (by kernel_rfl) ?_
    have hSS := HS.out W.drew (Below.refl _ W).drew
    refine tx 0 5 hSS ?_
    simp only [ua, ub, uc, ud]
    refine tx 1 6 hSS ?_
    simp only [ua, ub, uc, ud]
    refine tx 3 8 hSS ?_
    simp only [ua, ub, uc, ud]
    refine tx 4 9 hSS ?_
    simp only [ua, ub, uc, ud]
    refine tx 6 11 hSS ?_
    simp only [ua, ub, uc, ud]
    refine tx 7 12 hSS ?_
    simp only [ua, ub, uc, ud]
    clear hSS
    refine AnyBut.two (i := 2) (j := 9) (by kernel_rfl) rfl rfl (fun K hK => ?_) (fun K hK => ?_)
    · go_simp
      refine Calls.mono (HC1.out W.drew (Below.refl _ W).drew) ?_
      rintro e1 w1 ⟨⟨v1, rfl, ho1⟩, hb1⟩
      dsimp only
      have hb1o := hb1
      have hb1 : Below W.heap.size W w1 := ((Below.refl W.heap.size W).drew).trans (hb1.mono (Nat.le_refl _))
      refine hK.out _ _ (HS.out w1 hb1) ?_
      clear hK
      obtain ⟨a2, c2, hv1, -⟩ := Leaf.row_len (L := bL) (ht := Try.underlying23) (hc := cells23) (boolsS.olies ho1)
      obtain rfl : v1 = _ := by simpa using hv1
      rw [← HN.out.2.1] at ho1 ⊢
      refine AnyBut.two (i := 5) (j := 9) (by kernel_rfl) rfl rfl (fun K hK => ?_) (fun K hK => ?_)
      · go_simp
        refine Calls.mono (HC2.out w1 hb1) ?_
        rintro e2 w2 ⟨⟨v2, rfl, ho2⟩, hb2⟩
        dsimp only
        have hb2o := hb2
        have hb2 : Below W.heap.size W w2 := (hb1).trans (hb2.mono (hb1).size)
        refine hK.out _ _ (HS.out w2 hb2) ?_
        clear hK
        obtain ⟨a3, c3, _, hv2, -⟩ := Shape.list_own (S := bkN) (ht := Try.underlying31) (hc := cells31) ho2
        obtain rfl : v2 = _ := by simpa using hv2
        rw [← HN.out.2.2] at ho2 ⊢
        refine tx 8 13 (HS.out w2 hb2) ?_
        simp only [ua, ub, uc, ud]
        refine AnyBut.step (i := 9) (by kernel_rfl) rfl (fun K hK => ?_)
        go_simp
        refine hK.out _ _ (HS.out _ (hb2.alloc hb2.size _)) ?_
        clear hK
        refine AnyBut.step (i := 10) (by kernel_rfl) rfl (fun K hK => ?_)
        go_simp
        refine hK.out _ _ (HS.out _ (hb2.alloc hb2.size _)) ?_
        clear hK
        refine AnyBut.done (by kernel_rfl) ?_
        refine hMt _ _ (Go.Met.intro (hJ _ _ ?_))
        (repeat (refine Exists.intro ?_ ?_; rotate_left 1))
        refine ⟨?rel1, ?fr1⟩
        case fr1 => rfl
        case rel1 => exact ⟨_, rfl, hb2.size, hb2.alloc hb2.size _, _, _, _, _, Box.new _ _ _, boolsS.obelow (boolsS.obelow ho1 hb2o) ((Below.refl _ _).alloc (Nat.le_refl _) _), bksN.obelow (bksN.oweaken ho2 hb1.size) ((Below.refl _ _).alloc (Nat.le_refl _) _)⟩
      · go_simp
        obtain ⟨Z, hZ⟩ : ∃ Z, Z = w1.alloc (.cells #[.slice none 0 0, .slice none 0 0, .slice none 0 0, .int .i64 0] 33) := ⟨_, rfl⟩
        have hbz : Below W.heap.size W Z := by rw [hZ]; exact hb1.alloc hb1.size _
        have hBz : Box Z w1.heap.size 33 #[.slice none 0 0, .slice none 0 0, .slice none 0 0, .int .i64 0] := by rw [hZ]; exact Box.new _ _ _
        rw [← hZ]
        refine hK.out _ _ (HS.out Z hbz) ?_
        clear hK
        have hoz := boolsS.obelow ho1 (show Below w1.heap.size w1 Z by rw [hZ]; exact (Below.refl _ _).alloc (Nat.le_refl _) _)
        clear hZ
        refine AnyBut.step (i := 5) (by kernel_rfl) rfl (fun K hK => ?_)
        go_simp
        refine Calls.mono (HC2.out Z hbz) ?_
        rintro e2 w2 ⟨⟨v2, rfl, ho2⟩, hb2⟩
        dsimp only
        have hb2o := hb2
        have hb2 : Below W.heap.size W w2 := (hbz).trans (hb2.mono (hbz).size)
        refine hK.out _ _ (HS.out w2 hb2) ?_
        clear hK
        obtain ⟨a3, c3, _, hv2, -⟩ := Shape.list_own (S := bkN) (ht := Try.underlying31) (hc := cells31) ho2
        obtain rfl : v2 = _ := by simpa using hv2
        rw [← HN.out.2.2] at ho2 ⊢
        have hSS := HS.out w2 hb2
        refine tx 8 13 hSS ?_
        simp only [ua, ub, uc, ud]
        obtain ⟨z0, z1, z2, z3, y0, y1, y2, y3⟩ := (hBz.below hb2o hBz.lt).four
        have HQ : Hid _ := HREL.out w1.heap.size a2 c2 a3 c3 w2 hb2 (hb1.size) (hBz.below hb2o hBz.lt) (boolsS.obelow hoz hb2o) (bksN.oweaken ho2 hbz.size)
        refine AnyBut.step (i := 10) (by kernel_rfl) rfl (fun K hK => ?_)
        go_simp
        refine hK.out _ _ (HS.out _ HQ.out.1) ?_
        clear hK
        refine AnyBut.done (by kernel_rfl) ?_
        refine hMt _ _ (Go.Met.intro (hJ _ _ ?_))
        (repeat (refine Exists.intro ?_ ?_; rotate_left 1))
        refine ⟨?rel11, ?fr11⟩
        case fr11 => rfl
        case rel11 => exact ⟨_, rfl, HQ.out.2⟩
    · go_simp
      obtain ⟨Z, hZ⟩ : ∃ Z, Z = (W.alloc (.cells #[.slice none 0 0, .slice none 0 0, .slice none 0 0, .int .i64 0] 33)).drew := ⟨_, rfl⟩
      have hbz : Below W.heap.size W Z := by rw [hZ]; exact ((Below.refl _ W).alloc (Nat.le_refl _) _).drew
      have hBz : Box Z W.heap.size 33 #[.slice none 0 0, .slice none 0 0, .slice none 0 0, .int .i64 0] := by rw [hZ]; exact Box.drew (Box.new _ _ _)
      rw [← hZ]
      refine hK.out _ _ (HS.out Z hbz) ?_
      clear hK
      clear hZ
      refine AnyBut.step (i := 2) (by kernel_rfl) rfl (fun K hK => ?_)
      go_simp
      refine Calls.mono (HC1.out Z hbz) ?_
      rintro e1 w1 ⟨⟨v1, rfl, ho1⟩, hb1⟩
      dsimp only
      have hb1o := hb1
      have hb1 : Below W.heap.size W w1 := (hbz).trans (hb1.mono (hbz).size)
      refine hK.out _ _ (HS.out w1 hb1) ?_
      clear hK
      obtain ⟨a2, c2, hv1, -⟩ := Leaf.row_len (L := bL) (ht := Try.underlying23) (hc := cells23) (boolsS.olies ho1)
      obtain rfl : v1 = _ := by simpa using hv1
      rw [← HN.out.2.1] at ho1 ⊢
      refine AnyBut.step (i := 5) (by kernel_rfl) rfl (fun K hK => ?_)
      go_simp
      refine Calls.mono (HC2.out w1 hb1) ?_
      rintro e2 w2 ⟨⟨v2, rfl, ho2⟩, hb2⟩
      dsimp only
      have hb2o := hb2
      have hb2 : Below W.heap.size W w2 := (hb1).trans (hb2.mono (hb1).size)
      refine hK.out _ _ (HS.out w2 hb2) ?_
      clear hK
      obtain ⟨a3, c3, _, hv2, -⟩ := Shape.list_own (S := bkN) (ht := Try.underlying31) (hc := cells31) ho2
      obtain rfl : v2 = _ := by simpa using hv2
      rw [← HN.out.2.2] at ho2 ⊢
      have hSS := HS.out w2 hb2
      refine tx 8 13 hSS ?_
      simp only [ua, ub, uc, ud]
      obtain ⟨z0, z1, z2, z3, y0, y1, y2, y3⟩ := ((hBz.below hb1o hBz.lt).below hb2o (by have := hBz.lt; have := hb1o.size; omega)).four
      have HQ : Hid _ := HREL.out W.heap.size a2 c2 a3 c3 w2 hb2 (Nat.le_refl _) ((hBz.below hb1o hBz.lt).below hb2o (by have := hBz.lt; have := hb1o.size; omega)) (boolsS.oweaken (boolsS.obelow ho1 hb2o) hbz.size) (bksN.oweaken ho2 hb1.size)
      refine AnyBut.step (i := 10) (by kernel_rfl) rfl (fun K hK => ?_)
      go_simp
      refine hK.out _ _ (HS.out _ HQ.out.1) ?_
      clear hK
      refine AnyBut.done (by kernel_rfl) ?_
      refine hMt _ _ (Go.Met.intro (hJ _ _ ?_))
      (repeat (refine Exists.intro ?_ ?_; rotate_left 1))
      refine ⟨?rel12, ?fr12⟩
      case fr12 => rfl
      case rel12 => exact ⟨_, rfl, HQ.out.2⟩
  case rest =>
    obtain ⟨dd, rfl, HXX⟩ := hcut
    obtain ⟨wx, hwx⟩ : ∃ U, U = wc := ⟨_, rfl⟩
    rw [← hwx] at HXX ⊢
    clear hwx
    obtain ⟨hdd, hbx, a2, c2, a3, c3, hBx, ho1, ho2⟩ := HXX.out
    have HDD : Hid (W.heap.size ≤ dd) := hdd
    have HJ0 : Hid (Below W.heap.size W wx ∧ Box wx dd 33 #[.slice none 0 0, .slice a2 nh c2, .slice a3 no c3, .int .i64 nx] ∧ boolsS.owns W.heap.size wx [.slice a2 nh c2] hd ∧ bksN.owns W.heap.size wx [.slice a3 no c3] op) := ⟨hbx, hBx, ho1, ho2⟩
    clear HXX hdd hbx hBx ho1 ho2 HC1 HC2 HS
    have hl1 := run_len Try.underlying22 a n c
    go_wp2
    go_loopw [4] (fun i wr => ∃ k : Nat, k ≤ n ∧ i = .int .i64 k ∧ Hid (Below W.heap.size W wr ∧ ∃ v, sgsN.owns W.heap.size wr [v] (l.take k) ∧ Box wr dd 33 #[v, .slice a2 nh c2, .slice a3 no c3, .int .i64 nx] ∧ boolsS.owns W.heap.size wr [.slice a2 nh c2] hd ∧ bksN.owns W.heap.size wr [.slice a3 no c3] op)) (fun i _ => n - (intOf i).toNat)
    case atStart => exact ⟨0, Nat.zero_le _, rfl, HJ0.out.1, _, Shape.list_nil sgN 30 Try.underlying30 cells30 _ _, HJ0.out.2⟩
    case round =>
      obtain ⟨k, hk, rfl, HJ⟩ := hrel
      obtain ⟨hbr, v, hv, hBr, hb1, hb2⟩ := HJ.out
      obtain ⟨av, cv, _, hvv, -⟩ := Shape.list_own (S := sgN) (ht := Try.underlying30) (hc := cells30) hv
      obtain rfl : v = .slice av (l.take k).length cv := (List.cons.inj hvv).1
      have hW2 := HW.out.2.1
      have hTL : (l.take k).length = k := by have := HN.out.1; rw [List.length_take]; omega
      rw [hTL] at hv hBr
      by_cases hlt : k < n
      · obtain ⟨p, hp⟩ := get_lt (l := l) (k := k) (by rw [← HN.out.1]; exact hlt)
        have HTK : Hid (l.take (k + 1) = l.take k ++ [p] ∧ (l.take k).length = k) := ⟨take_snoc hp, hTL⟩
        obtain ⟨pb, po, x, cap, hix, c0, c1, hL, _⟩ := sgs_atR HA.out.1 k p hp
        have HS : Hid (∀ V, Below wr.heap.size wr V → V.cell? ⟨dd, 0, none⟩ = some (.slice av k cv) ∧ V.cell? ⟨w.heap.size, 0, none⟩ = some (.slice a n c) ∧ V.cell? ⟨pb, po, none⟩ = some (.int .i64 p.1) ∧ V.cell? ⟨pb, po + 1, none⟩ = some (.slice x p.2.length cap)) := fun V hV => by
          have h1 := below_any hbr hV
          have h2 := below_any HW.out.1 h1
          exact ⟨(hBr.below hV hBr.lt).four.1, ((HW.out.2.2 V h1).1).four.1, by rw [h2.cell (cell_lt c0)]; exact c0, by rw [h2.cell (cell_lt c1)]; exact c1⟩
        have HC : Hid (Calls Try.prog 40 #[.agg #[.int .i64 p.1, .slice x p.2.length cap]] wr.drew fun e w' => (∃ us', e = .returned (.agg us'.toArray) ∧ sgN.owns wr.heap.size w' us' p) ∧ Below wr.heap.size wr w') := (of_any n0 [.int .i64 p.1, .slice x p.2.length cap] p wr.drew (sgR.below (sgR.below hL (below_any HW.out.1 hbr)) (Below.refl _ _).drew) (HA.out.2.1 p (List.mem_of_getElem? hp))).mono fun e w' h => ⟨h.1, ((Below.refl _ wr).drew).trans h.2⟩
        have HJ2 : Hid (Below W.heap.size W wr ∧ sgsN.owns W.heap.size wr [.slice av k cv] (l.take k) ∧ Box wr dd 33 #[.slice av k cv, .slice a2 nh c2, .slice a3 no c3, .int .i64 nx] ∧ boolsS.owns W.heap.size wr [.slice a2 nh c2] hd ∧ bksN.owns W.heap.size wr [.slice a3 no c3] op) := ⟨hbr, hv, hBr, hb1, hb2⟩
        obtain ⟨m, hm⟩ : ∃ m, m = p.2.length := ⟨_, rfl⟩
        rw [← hm] at HS HC
        have hki : (k : Int) < (n : Int) := by omega
        obtain ⟨t0, -⟩ := ((HW.out.2.2 wr hbr).1).four
        have HSW : Hid (∀ V, Below w.heap.size w V → V.cell? ⟨pb, po, none⟩ = some (.int .i64 p.1) ∧ V.cell? ⟨pb, po + 1, none⟩ = some (.slice x m cap)) := fun V h2 => ⟨by rw [h2.cell (cell_lt c0)]; exact c0, by rw [h2.cell (cell_lt c1)]; rw [hm]; exact c1⟩
        clear hp c0 c1 hL hbr hv hBr hb1 hb2 HJ hm hTL
        go_upto_region 5 with fail
        clear t0
        refine AnyBut.begin (fun V => V.cell? ⟨dd, 0, none⟩ = some (.slice av k cv) ∧ V.cell? ⟨w.heap.size, 0, none⟩ = some (.slice a n c) ∧ V.cell? ⟨pb, po, none⟩ = some (.int .i64 p.1) ∧ V.cell? ⟨pb, po + 1, none⟩ = some (.slice x m cap)) 11 (by kernel_rfl) ?_
        have hSS := HS.out wr.drew (Below.refl _ wr).drew
        refine tt 0 21 ?_ hSS ?_ ?_; rotate_left
        · intro W9 hSW; (try dsimp only at hSW); go_simp; try with_reducible rfl
        simp only [ua, ub, uc, ud]
        refine tt 1 22 ?_ hSS ?_ ?_; rotate_left
        · intro W9 hSW; (try dsimp only at hSW); go_simp; try with_reducible rfl
        simp only [ua, ub, uc, ud]
        refine tt 2 23 ?_ hSS ?_ ?_; rotate_left
        · intro W9 hSW; (try dsimp only at hSW); go_simp; try with_reducible rfl
        simp only [ua, ub, uc, ud]
        refine tt 3 24 ?_ hSS ?_ ?_; rotate_left
        · intro W9 hSW; (try dsimp only at hSW); go_simp; try with_reducible rfl
        simp only [ua, ub, uc, ud]
        refine tt 4 25 ?_ hSS ?_ ?_; rotate_left
        · intro W9 hSW; (try dsimp only at hSW); go_simp; try with_reducible rfl
        simp only [ua, ub, uc, ud]
        refine tt 5 26 ?_ hSS ?_ ?_; rotate_left
        · intro W9 hSW; (try dsimp only at hSW); go_simp; try with_reducible rfl
        simp only [ua, ub, uc, ud]
        refine tt 6 27 ?_ hSS ?_ ?_; rotate_left
        · intro W9 hSW; (try dsimp only at hSW); go_simp; try with_reducible rfl
        simp only [ua, ub, uc, ud]
        refine AnyBut.step (i := 7) (by kernel_rfl) rfl (fun K hK => ?_)
        go_simp
        refine Calls.mono HC.out ?_
        rintro e5 w5 ⟨⟨us5, rfl, ho5⟩, hb5⟩
        dsimp only
        refine hK.out _ _ (HS.out w5 hb5) ?_
        clear hK hSS
        obtain ⟨a5, c5, rfl, ho5b, hI5⟩ := sg_ownN ho5
        refine AnyBut.step (i := 8) (by kernel_rfl) rfl (fun K hK => ?_)
        go_simp
        have hb6 : Below wr.heap.size wr (w5.alloc (.cells #[.int .i64 p.1, .slice a5 p.2.length c5] 88)) := hb5.alloc hb5.size _
        refine hK.out _ _ (HS.out _ hb6) ?_
        clear hK
        obtain ⟨i3, hi3, hz30, hz31, hz32⟩ := info_parts Try.info88
        have hbw5 := HJ2.out.1.trans (hb5.mono HJ2.out.1.size)
        obtain ⟨g7, c7, w7, hrun, ho7, hg7, hs7⟩ := list_append sgN 30 Try.underlying30 cells30 hi3 hz30 hz31 hz32 rfl (by decide) (by decide) (sgsN.obelow HJ2.out.2.1 hb5) (sgN.oweaken ho5 HJ2.out.1.size) hbw5.size (by rw [HTK.out.2]; omega) (by rw [HTK.out.2]; unfold maxLen; omega)
        rw [HTK.out.2] at hrun ho7
        rw [← HTK.out.1] at ho7
        obtain ⟨_, hrow⟩ : ∃ xs, w5.ownsRow W.heap.size 88 2 (.slice av k cv) (l.take k).length xs := by
          obtain ⟨v9, vss, hv9, hown, _⟩ := sgsN.obelow HJ2.out.2.1 hb5
          obtain rfl : Value.slice av k cv = v9 := by simpa using hv9
          exact ⟨_, hown⟩
        have hx7 : Box w7 dd 33 #[.slice av k cv, .slice a2 nh c2, .slice a3 no c3, .int .i64 nx] := (HJ2.out.2.2.1.below hb5 HJ2.out.2.2.1.lt).grown hg7 ((HJ2.out.2.2.1.below hb5 HJ2.out.2.2.1.lt).apart hrow (by decide))
        have hbw7 : Below W.heap.size W w7 := below_row hbw5 hrow hg7 hbw5.size
        have hb17 := boolsS.ogrown (boolsS.obelow HJ2.out.2.2.2.1 hb5) hg7 (.own hrow (by decide))
        have hb27 := bksN.ogrown (bksN.obelow HJ2.out.2.2.2.2 hb5) hg7 (.own hrow (by decide))
        have hS7 : w7.cell? ⟨dd, 0, none⟩ = some (.slice av k cv) ∧ w7.cell? ⟨w.heap.size, 0, none⟩ = some (.slice a n c) ∧ w7.cell? ⟨pb, po, none⟩ = some (.int .i64 p.1) ∧ w7.cell? ⟨pb, po + 1, none⟩ = some (.slice x m cap) := by
          exact ⟨hx7.four.1, ((HW.out.2.2 w7 hbw7).1).four.1, (HSW.out w7 (below_any HW.out.1 hbw7)).1, (HSW.out w7 (below_any HW.out.1 hbw7)).2⟩
        refine AnyBut.step (i := 9) (by kernel_rfl) rfl (fun K hK => ?_)
        refine step_app rfl _ _ 30 rfl rfl rfl rfl hrun ?_
        refine hK.out _ _ hS7 ?_
        clear hK
        have hSS := hS7
        refine tt 10 31 ?_ hSS ?_ ?_; rotate_left
        · intro W9 hSW; (try dsimp only at hSW); go_simp; try with_reducible rfl
        obtain ⟨z0, z1, z2, z3, j0, j1, j2, j3⟩ := hx7.four
        obtain ⟨Y, hY⟩ : ∃ Y, Y = w7.setCell ⟨dd, 0, none⟩ (.slice (some ⟨g7, 0, none⟩) (k + 1) c7) := ⟨_, rfl⟩
        have HF : Hid (Below W.heap.size W Y ∧ ∃ v, sgsN.owns W.heap.size Y [v] (l.take (k + 1)) ∧ Box Y dd 33 #[v, .slice a2 nh c2, .slice a3 no c3, .int .i64 nx] ∧ boolsS.owns W.heap.size Y [.slice a2 nh c2] hd ∧ bksN.owns W.heap.size Y [.slice a3 no c3] op) := by
          rw [hY]
          exact ⟨hbw7.setCell (p := ⟨dd, 0, none⟩) HDD.out _, _, sgsN.ogrown ho7 (grown_set _ _ _ _) (hx7.clear (by decide)), hx7.set 0 _, boolsS.ogrown hb17 (grown_set _ _ _ _) (hx7.clear (by decide)), bksN.ogrown hb27 (grown_set _ _ _ _) (hx7.clear (by decide))⟩
        refine AnyBut.last (by kernel_rfl) (by kernel_rfl) rfl (fun K hK => ?_)
        go_simp
        rw [← hY]
        refine hK.out _ _ ?_
        clear hK hSS hS7 hx7 hbw7 hb17 hb27 hrow ho7 hg7 hs7 hrun hbw5 hi3 hz30 hz31 hz32 hb6 ho5 ho5b hI5 hb5 hY z0 z1 z2 z3 j0 j1 j2 j3 hix
        go_wp2
        go_roundw
        case rel => exact ⟨k + 1, by omega, by go_num, HF.out⟩
        case measure => simp [intOf]; omega
      · obtain rfl : k = n := by omega
        have hT : l.take k = l := by rw [HN.out.1]; simp
        rw [hT] at hv
        have HE : Hid (stN.owns W.heap.size wr [.slice av k cv, .slice a2 nh c2, .slice a3 no c3, .int .i64 nx] (l, hd, op, nx) ∧ Below w.heap.size w wr) := ⟨st_omkN (s := (l, hd, op, nx)) hv hb1 hb2 HA.out.2.2, below_any HW.out.1 hbr⟩
        obtain ⟨t0, -⟩ := ((HW.out.2.2 wr hbr).1).four
        obtain ⟨y0, y1, y2, y3, j0, j1, j2, j3⟩ := ((HW.out.2.2 wr hbr).2).four
        obtain ⟨z0, z1, z2, z3, -⟩ := hBr.four
        have HSZ : Hid (W.heap.size = w.heap.size + 2) := hW2
        clear hv hBr hb1 hb2 HJ hbr hW2 hT hTL
        go_wp2
        refine bodyPost_ret (v := .agg #[.slice av k cv, .slice a2 nh c2, .slice a3 no c3, .int .i64 nx]) (by simp [results, Try.results9, go_sem, *]) rfl ?_
        exact HPo.out [_, _, _, _] _ (stN.oweaken (n := W.heap.size) (stN.osame HE.out.1 (.set4 (by have := HSZ.out; omega))) HW.out.1.size) (below_set4 HE.out.2 (by omega) _ _ _ _)

end Go.Proofs.Ytkpckadicjdieaa

/-
  Two stores of the same data are alike.
-/
namespace Go.Proofs.Ytkpckadicjdieaa
open Go.RowKit

set_option maxRecDepth 100000 in
set_option maxHeartbeats 8000000 in
theorem alikeL_same (n1 n2 : Nat) (u1 u2 : List Value) (s : St) (w : World) (h1 : stN.lies n1 w u1 s) (h2 : stR.lies n2 w u2 s) :
    Calls Try.prog 17 #[.agg u1.toArray, .agg u2.toArray] w fun e w' => e = .returned (.int .i64 0) ∧ Below w.heap.size w w' := by
  obtain ⟨a1, c1, a2, c2, a3, c3, rfl, hS1, hH1, hO1, hN, m1, m2, m3⟩ := st_viewN h1
  obtain ⟨b1, d1, b2, d2, b3, d3, rfl, hS2, hH2, hO2, _, _, _, _⟩ := st_viewR h2
  obtain ⟨l, hd, op, nx⟩ := s
  simp only at hS1 hH1 hO1 hS2 hH2 hO2 hN m1 m2 m3 ⊢
  unfold maxLen at m1 m2 m3
  obtain ⟨n, hn⟩ : ∃ n, n = l.length := ⟨_, rfl⟩
  obtain ⟨nh, hnh⟩ : ∃ n, n = hd.length := ⟨_, rfl⟩
  obtain ⟨no, hno⟩ : ∃ n, n = op.length := ⟨_, rfl⟩
  rw [← hn] at hS1 hS2 m1 ⊢
  rw [← hnh] at hH1 hH2 ⊢
  rw [← hno] at hO1 hO2 ⊢
  obtain ⟨W, hW⟩ : ∃ W, W = (w.alloc (.cells #[.slice a1 n c1, .slice a2 nh c2, .slice a3 no c3, .int .i64 nx] 33)).alloc (.cells #[.slice b1 n d1, .slice b2 nh d2, .slice b3 no d3, .int .i64 nx] 26) := ⟨_, rfl⟩
  have hbW : Below w.heap.size w W := by rw [hW]; exact ((Below.refl _ w).alloc (Nat.le_refl _) _).alloc (by simp) _
  have hB1 : Box W w.heap.size 33 #[.slice a1 n c1, .slice a2 nh c2, .slice a3 no c3, .int .i64 nx] := by rw [hW]; exact (Box.new _ _ _).alloc _
  have hB2 : Box W (w.heap.size + 1) 26 #[.slice b1 n d1, .slice b2 nh d2, .slice b3 no d3, .int .i64 nx] := by
    rw [hW]
    have := Box.new (w.alloc (.cells #[.slice a1 n c1, .slice a2 nh c2, .slice a3 no c3, .int .i64 nx] 33)) 26 #[.slice b1 n d1, .slice b2 nh d2, .slice b3 no d3, .int .i64 nx]
    rwa [World.size_alloc] at this
  have HW : Hid (Below w.heap.size w W ∧ ∀ V, Below W.heap.size W V → Box V w.heap.size 33 #[.slice a1 n c1, .slice a2 nh c2, .slice a3 no c3, .int .i64 nx] ∧ Box V (w.heap.size + 1) 26 #[.slice b1 n d1, .slice b2 nh d2, .slice b3 no d3, .int .i64 nx]) := ⟨hbW, fun V hV => ⟨hB1.below hV hB1.lt, hB2.below hV hB2.lt⟩⟩
  have HA : Hid (sgsN.lies n1 w [.slice a1 n c1] l ∧ sgsR.lies n2 w [.slice b1 n d1] l ∧ n = l.length) := ⟨hS1, hS2, hn⟩
  have HC1 := sbools_true n1 n2 (.slice a2 nh c2) (.slice b2 nh d2) hd W (boolsS.below hH1 hbW) (boolsS.below hH2 hbW)
  have HC2 : Hid (∀ V, Below W.heap.size W V → Calls Try.prog 20 #[.slice a3 no c3, .slice b3 no d3] V fun e w' => e = .returned (.int .i64 0) ∧ Below V.heap.size V w') := fun V hV => (alikeBlocks_any n1 n2 (.slice a3 no c3) (.slice b3 no d3) op op V (bksN.below hO1 (below_any hbW hV)) (bksR.below hO2 (below_any hbW hV))).mono fun e w' h => ⟨by rw [h.1, if_pos rfl], h.2⟩
  have hl1 := run_len Try.underlying30 a1 n c1
  have hl2 := run_len Try.underlying22 b1 n d1
  obtain ⟨x0, x1, x2, x3, -⟩ := hB1.four
  obtain ⟨y0, y1, y2, y3, -⟩ := hB2.four
  clear h1 h2 hS1 hS2 hH1 hH2 hO1 hO2 hN m2 m3 hbW hB1 hB2 hn hnh hno
  go_enter Try.func17, Try.ntmps17
  go_upto_region 1 with fail
  rw [← hW]
  clear hW
  go_wp2_with fail
  refine HC1.mono ?_
  rintro e1 w1 ⟨rfl, q, rfl⟩
  have hb1 : Below W.heap.size W (W.drewN q) := below_drewN (Below.refl _ _) q
  obtain ⟨V1, hV1⟩ : ∃ V, V = W.drewN q := ⟨_, rfl⟩
  rw [← hV1] at hb1 ⊢
  have HB1 : Hid (Below W.heap.size W V1) := hb1
  have HC2' := HC2.out V1 hb1
  clear x0 x1 x2 x3 y0 y1 y2 y3 hV1 HC1
  obtain ⟨x0, x1, x2, x3, -⟩ := (HW.out.2 V1 hb1).1.four
  obtain ⟨y0, y1, y2, y3, -⟩ := (HW.out.2 V1 hb1).2.four
  clear hb1
  go_wp2_with fail
  refine HC2'.mono ?_
  rintro e2 w2 ⟨rfl, hb2⟩
  have HB2 : Hid (Below W.heap.size W w2) := HB1.out.trans (hb2.mono HB1.out.size)
  clear x0 x1 x2 x3 y0 y1 y2 y3 hb2 HC2' HC2
  obtain ⟨x0, x1, x2, x3, -⟩ := (HW.out.2 w2 HB2.out).1.four
  obtain ⟨y0, y1, y2, y3, -⟩ := (HW.out.2 w2 HB2.out).2.four
  go_wp2
  clear x0 x1 x2 x3 y0 y1 y2 y3
  go_loopw [5] (fun i wr => ∃ k : Nat, k ≤ n ∧ i = .int .i64 k ∧ Hid (Below W.heap.size W wr)) (fun i _ => n - (intOf i).toNat)
  case atStart => exact ⟨0, Nat.zero_le _, rfl, HB2.out⟩
  case round =>
    obtain ⟨k, hk, rfl, HJ⟩ := hrel
    obtain ⟨x0, x1, x2, x3, -⟩ := (HW.out.2 wr HJ.out).1.four
    by_cases hlt : k < n
    · obtain ⟨p, hp⟩ := get_lt (l := l) (k := k) (by rw [← HA.out.2.2]; exact hlt)
      obtain ⟨pb, po, x, cap, hix, k0, k1, hL, _⟩ := sgs_atN HA.out.1 k p hp
      obtain ⟨qb, qo, y, cap2, hix2, j0, j1, hL2, _⟩ := sgs_atR HA.out.2.1 k p hp
      have hki : (k : Int) < (n : Int) := by omega
      have HS : Hid (∀ V, Below wr.heap.size wr V → V.cell? ⟨w.heap.size, 0, none⟩ = some (.slice a1 n c1) ∧ V.cell? ⟨w.heap.size + 1, 0, none⟩ = some (.slice b1 n d1) ∧ (V.cell? ⟨pb, po, none⟩ = some (.int .i64 p.1) ∧ V.cell? ⟨pb, po + 1, none⟩ = some (.slice x p.2.length cap)) ∧ V.cell? ⟨qb, qo, none⟩ = some (.int .i64 p.1) ∧ V.cell? ⟨qb, qo + 1, none⟩ = some (.slice y p.2.length cap2)) := fun V hV => by
        have h1 := HJ.out.trans (hV.mono HJ.out.size)
        have h2 := below_any HW.out.1 h1
        exact ⟨((HW.out.2 V h1).1).four.1, ((HW.out.2 V h1).2).four.1, ⟨by rw [h2.cell (cell_lt k0)]; exact k0, by rw [h2.cell (cell_lt k1)]; exact k1⟩, by rw [h2.cell (cell_lt j0)]; exact j0, by rw [h2.cell (cell_lt j1)]; exact j1⟩
      have HC : Hid (Calls Try.prog 57 #[.agg #[.int .i64 p.1, .slice x p.2.length cap], .agg #[.int .i64 p.1, .slice y p.2.length cap2]] wr.drew fun e w' => e = .returned (.int .i64 0) ∧ Below wr.heap.size wr w') := (alike_any n1 n2 [.int .i64 p.1, .slice x p.2.length cap] [.int .i64 p.1, .slice y p.2.length cap2] p p wr.drew (sgN.below (sgN.below hL (below_any HW.out.1 HJ.out)) (Below.refl _ _).drew) (sgR.below (sgR.below hL2 (below_any HW.out.1 HJ.out)) (Below.refl _ _).drew)).mono fun e w' h => ⟨by rw [h.1, if_pos rfl], ((Below.refl _ wr).drew).trans h.2⟩
      obtain ⟨m, hm⟩ : ∃ m, m = p.2.length := ⟨_, rfl⟩
      rw [← hm] at HS HC
      clear hp k0 k1 j0 j1 hL hL2 hm
      go_upto_region 6 with fail
      clear x0 x1 x2 x3
      refine AnyBut.begin (fun V => V.cell? ⟨w.heap.size, 0, none⟩ = some (.slice a1 n c1) ∧ V.cell? ⟨w.heap.size + 1, 0, none⟩ = some (.slice b1 n d1) ∧ (V.cell? ⟨pb, po, none⟩ = some (.int .i64 p.1) ∧ V.cell? ⟨pb, po + 1, none⟩ = some (.slice x m cap)) ∧ V.cell? ⟨qb, qo, none⟩ = some (.int .i64 p.1) ∧ V.cell? ⟨qb, qo + 1, none⟩ = some (.slice y m cap2)) 1000 (by kernel_rfl) ?_
      have hSS := HS.out wr.drew (Below.refl _ wr).drew
      refine tx 0 43 hSS ?_
      simp only [ua, ub, uc, ud]
      refine tx 1 44 hSS ?_
      simp only [ua, ub, uc, ud]
      refine tx 2 45 hSS ?_
      simp only [ua, ub, uc, ud]
      refine tx 3 46 hSS ?_
      simp only [ua, ub, uc, ud]
      refine tx 4 47 hSS ?_
      simp only [ua, ub, uc, ud]
      refine tx 5 48 hSS ?_
      simp only [ua, ub, uc, ud]
      refine tx 6 49 hSS ?_
      simp only [ua, ub, uc, ud]
      refine tx 7 50 hSS ?_
      simp only [ua, ub, uc, ud]
      refine tx 8 51 hSS ?_
      simp only [ua, ub, uc, ud]
      refine tx 9 52 hSS ?_
      simp only [ua, ub, uc, ud]
      refine AnyBut.step (i := 10) (by kernel_rfl) rfl (fun K hK => ?_)
      go_simp
      refine Calls.mono HC.out ?_
      rintro e5 w5 ⟨rfl, hb5⟩
      dsimp only
      refine hK.out _ _ (HS.out w5 hb5) ?_
      clear hK hSS
      have hSS := HS.out w5 hb5
      refine tx 11 54 hSS ?_
      simp only [ua, ub, uc, ud]
      refine AnyBut.done (by kernel_rfl) ?_
      have HJ2 : Hid (Below W.heap.size W w5) := HJ.out.trans (hb5.mono HJ.out.size)
      clear hSS hb5 hix hix2 HC
      go_wp2
      go_roundw
      case rel => exact ⟨k + 1, by omega, by go_num, HJ2⟩
      case measure => simp [intOf]; omega
    · obtain rfl : k = n := by omega
      have HE : Hid (Below w.heap.size w wr) := below_any HW.out.1 HJ.out
      go_wp2
      go_ret
      exact ⟨rfl, HE.out⟩

end Go.Proofs.Ytkpckadicjdieaa
