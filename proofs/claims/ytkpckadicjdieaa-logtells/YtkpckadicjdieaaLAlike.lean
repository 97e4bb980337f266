/-
  Two stores of the same data are alike.
-/
import Derived.Test.YtkpckadicjdieaaLLaw1
namespace Go.Proofs.Ytkpckadicjdieaa
open Go.RowKit

set_option maxRecDepth 100000 in
set_option maxHeartbeats 8000000 in
theorem alikeL_same (n1 n2 : Nat) (u1 u2 : List Value) (s : St) (w : World) (h1 : stN.lies n1 w u1 s) (h2 : stR.lies n2 w u2 s) :
    Calls Try.prog 17 #[.agg u1.toArray, .agg u2.toArray] w fun e w' => e = .returned (.int .i64 0) ∧ Below w.heap.size w w' := by
  obtain ⟨a1, c1, a2, c2, a3, c3, rfl, hS1, hH1, hO1, hN, m1, m2, m3⟩ := st_viewN h1
  obtain ⟨b1, d1, b2, d2, b3, d3, rfl, hS2, hH2, hO2, _, _, _, _⟩ := st_viewR h2
  obtain ⟨l, hd, op, nx⟩ := s
  simp only at hS1 hH1 hO1 hS2 hH2 hO2 hN m1 m2 m3 ⊢
  unfold maxLen at m1 m2 m3
  obtain ⟨n, hn⟩ : ∃ n, n = l.length := ⟨_, rfl⟩
  obtain ⟨nh, hnh⟩ : ∃ n, n = hd.length := ⟨_, rfl⟩
  obtain ⟨no, hno⟩ : ∃ n, n = op.length := ⟨_, rfl⟩
  rw [← hn] at hS1 hS2 m1 ⊢
  rw [← hnh] at hH1 hH2 ⊢
  rw [← hno] at hO1 hO2 ⊢
  obtain ⟨W, hW⟩ : ∃ W, W = (w.alloc (.cells #[.slice a1 n c1, .slice a2 nh c2, .slice a3 no c3, .int .i64 nx] 33)).alloc (.cells #[.slice b1 n d1, .slice b2 nh d2, .slice b3 no d3, .int .i64 nx] 26) := ⟨_, rfl⟩
  have hbW : Below w.heap.size w W := by rw [hW]; exact ((Below.refl _ w).alloc (Nat.le_refl _) _).alloc (by simp) _
  have hB1 : Box W w.heap.size 33 #[.slice a1 n c1, .slice a2 nh c2, .slice a3 no c3, .int .i64 nx] := by rw [hW]; exact (Box.new _ _ _).alloc _
  have hB2 : Box W (w.heap.size + 1) 26 #[.slice b1 n d1, .slice b2 nh d2, .slice b3 no d3, .int .i64 nx] := by
    rw [hW]
    have := Box.new (w.alloc (.cells #[.slice a1 n c1, .slice a2 nh c2, .slice a3 no c3, .int .i64 nx] 33)) 26 #[.slice b1 n d1, .slice b2 nh d2, .slice b3 no d3, .int .i64 nx]
    rwa [World.size_alloc] at this
  have HW : Hid (Below w.heap.size w W ∧ ∀ V, Below W.heap.size W V → Box V w.heap.size 33 #[.slice a1 n c1, .slice a2 nh c2, .slice a3 no c3, .int .i64 nx] ∧ Box V (w.heap.size + 1) 26 #[.slice b1 n d1, .slice b2 nh d2, .slice b3 no d3, .int .i64 nx]) := ⟨hbW, fun V hV => ⟨hB1.below hV hB1.lt, hB2.below hV hB2.lt⟩⟩
  have HA : Hid (sgsN.lies n1 w [.slice a1 n c1] l ∧ sgsR.lies n2 w [.slice b1 n d1] l ∧ n = l.length) := ⟨hS1, hS2, hn⟩
  have HC1 := sbools_true n1 n2 (.slice a2 nh c2) (.slice b2 nh d2) hd W (boolsS.below hH1 hbW) (boolsS.below hH2 hbW)
  have HC2 : Hid (∀ V, Below W.heap.size W V → Calls Try.prog 20 #[.slice a3 no c3, .slice b3 no d3] V fun e w' => e = .returned (.int .i64 0) ∧ Below V.heap.size V w') := fun V hV => (alikeBlocks_any n1 n2 (.slice a3 no c3) (.slice b3 no d3) op op V (bksN.below hO1 (below_any hbW hV)) (bksR.below hO2 (below_any hbW hV))).mono fun e w' h => ⟨by rw [h.1, if_pos rfl], h.2⟩
  have hl1 := run_len Try.underlying30 a1 n c1
  have hl2 := run_len Try.underlying22 b1 n d1
  obtain ⟨x0, x1, x2, x3, -⟩ := hB1.four
  obtain ⟨y0, y1, y2, y3, -⟩ := hB2.four
  clear h1 h2 hS1 hS2 hH1 hH2 hO1 hO2 hN m2 m3 hbW hB1 hB2 hn hnh hno
  go_enter Try.func17, Try.ntmps17
  go_upto_region 1 with fail
  rw [← hW]
  clear hW
  go_wp2_with fail
  refine HC1.mono ?_
  rintro e1 w1 ⟨rfl, q, rfl⟩
  have hb1 : Below W.heap.size W (W.drewN q) := below_drewN (Below.refl _ _) q
  obtain ⟨V1, hV1⟩ : ∃ V, V = W.drewN q := ⟨_, rfl⟩
  rw [← hV1] at hb1 ⊢
  have HB1 : Hid (Below W.heap.size W V1) := hb1
  have HC2' := HC2.out V1 hb1
  clear x0 x1 x2 x3 y0 y1 y2 y3 hV1 HC1
  obtain ⟨x0, x1, x2, x3, -⟩ := (HW.out.2 V1 hb1).1.four
  obtain ⟨y0, y1, y2, y3, -⟩ := (HW.out.2 V1 hb1).2.four
  clear hb1
  go_wp2_with fail
  refine HC2'.mono ?_
  rintro e2 w2 ⟨rfl, hb2⟩
  have HB2 : Hid (Below W.heap.size W w2) := HB1.out.trans (hb2.mono HB1.out.size)
  clear x0 x1 x2 x3 y0 y1 y2 y3 hb2 HC2' HC2
  obtain ⟨x0, x1, x2, x3, -⟩ := (HW.out.2 w2 HB2.out).1.four
  obtain ⟨y0, y1, y2, y3, -⟩ := (HW.out.2 w2 HB2.out).2.four
  go_wp2
  clear x0 x1 x2 x3 y0 y1 y2 y3
  go_loopw [5] (fun i wr => ∃ k : Nat, k ≤ n ∧ i = .int .i64 k ∧ Hid (Below W.heap.size W wr)) (fun i _ => n - (intOf i).toNat)
  case atStart => exact ⟨0, Nat.zero_le _, rfl, HB2.out⟩
  case round =>
    obtain ⟨k, hk, rfl, HJ⟩ := hrel
    obtain ⟨x0, x1, x2, x3, -⟩ := (HW.out.2 wr HJ.out).1.four
    by_cases hlt : k < n
    · obtain ⟨p, hp⟩ := get_lt (l := l) (k := k) (by rw [← HA.out.2.2]; exact hlt)
      obtain ⟨pb, po, x, cap, hix, k0, k1, hL, _⟩ := sgs_atN HA.out.1 k p hp
      obtain ⟨qb, qo, y, cap2, hix2, j0, j1, hL2, _⟩ := sgs_atR HA.out.2.1 k p hp
      have hki : (k : Int) < (n : Int) := by omega
      have HS : Hid (∀ V, Below wr.heap.size wr V → V.cell? ⟨w.heap.size, 0, none⟩ = some (.slice a1 n c1) ∧ V.cell? ⟨w.heap.size + 1, 0, none⟩ = some (.slice b1 n d1) ∧ (V.cell? ⟨pb, po, none⟩ = some (.int .i64 p.1) ∧ V.cell? ⟨pb, po + 1, none⟩ = some (.slice x p.2.length cap)) ∧ V.cell? ⟨qb, qo, none⟩ = some (.int .i64 p.1) ∧ V.cell? ⟨qb, qo + 1, none⟩ = some (.slice y p.2.length cap2)) := fun V hV => by
        have h1 := HJ.out.trans (hV.mono HJ.out.size)
        have h2 := below_any HW.out.1 h1
        exact ⟨((HW.out.2 V h1).1).four.1, ((HW.out.2 V h1).2).four.1, ⟨by rw [h2.cell (cell_lt k0)]; exact k0, by rw [h2.cell (cell_lt k1)]; exact k1⟩, by rw [h2.cell (cell_lt j0)]; exact j0, by rw [h2.cell (cell_lt j1)]; exact j1⟩
      have HC : Hid (Calls Try.prog 57 #[.agg #[.int .i64 p.1, .slice x p.2.length cap], .agg #[.int .i64 p.1, .slice y p.2.length cap2]] wr.drew fun e w' => e = .returned (.int .i64 0) ∧ Below wr.heap.size wr w') := (alike_any n1 n2 [.int .i64 p.1, .slice x p.2.length cap] [.int .i64 p.1, .slice y p.2.length cap2] p p wr.drew (sgN.below (sgN.below hL (below_any HW.out.1 HJ.out)) (Below.refl _ _).drew) (sgR.below (sgR.below hL2 (below_any HW.out.1 HJ.out)) (Below.refl _ _).drew)).mono fun e w' h => ⟨by rw [h.1, if_pos rfl], ((Below.refl _ wr).drew).trans h.2⟩
      obtain ⟨m, hm⟩ : ∃ m, m = p.2.length := ⟨_, rfl⟩
      rw [← hm] at HS HC
      clear hp k0 k1 j0 j1 hL hL2 hm
      go_upto_region 6 with fail
      clear x0 x1 x2 x3
      refine AnyBut.begin (fun V => V.cell? ⟨w.heap.size, 0, none⟩ = some (.slice a1 n c1) ∧ V.cell? ⟨w.heap.size + 1, 0, none⟩ = some (.slice b1 n d1) ∧ (V.cell? ⟨pb, po, none⟩ = some (.int .i64 p.1) ∧ V.cell? ⟨pb, po + 1, none⟩ = some (.slice x m cap)) ∧ V.cell? ⟨qb, qo, none⟩ = some (.int .i64 p.1) ∧ V.cell? ⟨qb, qo + 1, none⟩ = some (.slice y m cap2)) 1000 (by kernel_rfl) ?_
      have hSS := HS.out wr.drew (Below.refl _ wr).drew
      refine tx 0 43 hSS ?_
      simp only [ua, ub, uc, ud]
      refine tx 1 44 hSS ?_
      simp only [ua, ub, uc, ud]
      refine tx 2 45 hSS ?_
      simp only [ua, ub, uc, ud]
      refine tx 3 46 hSS ?_
      simp only [ua, ub, uc, ud]
      refine tx 4 47 hSS ?_
      simp only [ua, ub, uc, ud]
      refine tx 5 48 hSS ?_
      simp only [ua, ub, uc, ud]
      refine tx 6 49 hSS ?_
      simp only [ua, ub, uc, ud]
      refine tx 7 50 hSS ?_
      simp only [ua, ub, uc, ud]
      refine tx 8 51 hSS ?_
      simp only [ua, ub, uc, ud]
      refine tx 9 52 hSS ?_
      simp only [ua, ub, uc, ud]
      refine AnyBut.step (i := 10) (by kernel_rfl) rfl (fun K hK => ?_)
      go_simp
      refine Calls.mono HC.out ?_
      rintro e5 w5 ⟨rfl, hb5⟩
      dsimp only
      refine hK.out _ _ (HS.out w5 hb5) ?_
      clear hK hSS
      have hSS := HS.out w5 hb5
      refine tx 11 54 hSS ?_
      simp only [ua, ub, uc, ud]
      refine AnyBut.done (by kernel_rfl) ?_
      have HJ2 : Hid (Below W.heap.size W w5) := HJ.out.trans (hb5.mono HJ.out.size)
      clear hSS hb5 hix hix2 HC
      go_wp2
      go_roundw
      case rel => exact ⟨k + 1, by omega, by go_num, HJ2⟩
      case measure => simp [intOf]; omega
    · obtain rfl : k = n := by omega
      have HE : Hid (Below w.heap.size w wr) := below_any HW.out.1 HJ.out
      go_wp2
      go_ret
      exact ⟨rfl, HE.out⟩

end Go.Proofs.Ytkpckadicjdieaa
