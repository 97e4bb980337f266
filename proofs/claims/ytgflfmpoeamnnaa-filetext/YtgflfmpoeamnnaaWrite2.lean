/-
  What Write makes of a file where octets are written.
-/
import Derived.Test.YtgflfmpoeamnnaaWrite0
namespace Go.Proofs.Ytgflfmpoeamnnaa
open Go.RowKit

set_option maxRecDepth 100000 in
set_option maxHeartbeats 2000000 in
theorem write_some (n0 n1 : Nat) (us : List Value) (f : Fl) (off : Int) (v : Value) (d : List Int) (w : World) (h : flN.lies n0 w us f) (hoff : I64 off) (hv : Arg n1 w v d) (hck : chk f = true) (ho0 : ¬ off < 0) (hd0 : ¬ d.length = 0) (hbig : ¬ 2432 < off + (d.length : Int)) :
    Calls Try.prog 12 #[.agg us.toArray, .int .i64 off, v] w fun e w' => (∃ us', e = .returned (.tuple #[.agg us'.toArray, .int .i64 (wrE f off d)]) ∧ flN.lies w.heap.size w' us' (wrF f off d)) ∧ Below w.heap.size w w' := by
  obtain ⟨a, c, rfl, hL, hi, hm⟩ := fl_viewN h
  obtain ⟨s, l⟩ := f
  obtain ⟨x, cap, rfl, hcap, hdm, _⟩ := hv.shape
  simp only at hL hi hm ⊢
  unfold maxLen at hm hdm
  have hI := hoff
  unfold I64 at hoff
  have hld := run_len Try.underlying25 x d.length cap
  obtain ⟨W, hW⟩ : ∃ W, W = (w.alloc (.cells #[.int .i64 s, .slice a l.length c] 28)).alloc (.cells #[.int .i64 0, .slice none 0 0] 28) := ⟨_, rfl⟩
  have hT : Two w W s (.slice a l.length c) := by rw [hW]; exact Two.start _ _ _
  have HC := check_any n0 [.int .i64 s, .slice a l.length c] (s, l) W (flN.below h hT.1)
  have HT : Hid (Two w W s (.slice a l.length c)) := hT
  have HL : Hid (flN.lies n0 w [.int .i64 s, .slice a l.length c] (s, l) ∧ Arg n1 w (.slice x d.length cap) d ∧ I64 s) := ⟨h, hv, hi⟩
  obtain ⟨g0, g1, _⟩ := hT.cells
  rw [hW] at g0 g1
  clear h hL hi hT hv

  rw [show cerr (s, l) = 0 by unfold cerr; rw [hck]; rfl] at HC
  obtain ⟨hs, _, _⟩ := chk_iff.1 hck
  simp only at hs
  obtain ⟨dl, hdl⟩ : ∃ x, x = d.length := ⟨_, rfl⟩
  have HSPN := fun V => span_any off (dl : Int) V hI (by unfold I64; omega)
  obtain ⟨p, rfl⟩ : ∃ p : Nat, off = p := ⟨off.toNat, by omega⟩
  have e1 : wrE (s, l) (p : Int) d = 0 := by unfold wrE; rw [if_neg (by rw [hck]; simp), if_neg ho0, if_neg hd0, if_neg hbig]
  obtain ⟨F, hF⟩ : ∃ F, F = p / 32 := ⟨_, rfl⟩
  obtain ⟨K, hK⟩ : ∃ K, K = (p + d.length + 31) / 32 - p / 32 := ⟨_, rfl⟩
  have e2 : wrF (s, l) (p : Int) d = (max s ((p : Int) + (d.length : Int)), mkL (wrB (bd l) d p F K) 76) := by
    unfold wrF
    rw [if_pos e1, Int.toNat_natCast, hF]
    rw [show mkL (wrB (bd l) d p (p / 32) K) 76 = (mk (wrT (txt (s, l)) p d)).2 from wrB_done hck hd0 (by omega)]
    refine Prod.ext ?_ rfl
    show ((wrT (txt (s, l)) p d).length : Int) = _
    rw [wrT_length hd0, txt_length]
    show ((max s.toNat (p + d.length) : Nat) : Int) = _
    omega
  rw [e1, e2]
  obtain ⟨z1, _, z3, z4⟩ := spn_in (o := (p : Int)) (n := (dl : Int)) (by omega) (by omega)
  rw [z1, z3 (by omega), z4, show (p : Int) / 32 = (F : Int) by omega, show ((p : Int) + (dl : Int) + 31) / 32 - (F : Int) = (K : Int) by omega] at HSPN
  have hFK : F + K ≤ 76 ∧ F ≤ 76 := by omega
  have hmax : max s ((p : Int) + (dl : Int)) = max s ((p : Int) + (d.length : Int)) := by rw [hdl]
  obtain ⟨S, hS⟩ : ∃ S, S = max s ((p : Int) + (d.length : Int)) := ⟨_, rfl⟩
  have hSI : I64 S := by unfold I64; omega
  have hSS : (p : Int) + (dl : Int) ≤ 2432 := by omega
  rw [← hS] at hmax ⊢
  have HMX : Hid (max s ((p : Int) + (dl : Int)) = S) := hmax
  clear hmax
  have HSI : Hid (I64 S) := hSI
  have HSP : Hid (∀ V, Two w V s (.slice a l.length c) → Calls Try.prog 29 #[.agg #[.int .i64 s, .slice a l.length c]] V fun e w' => (∃ b M c, e = .returned (.map (some b)) ∧ MT V.heap.size c w' b M (bd l) ∧ c ≤ 76) ∧ Below V.heap.size V w') := fun V hV =>
    spread_any n0 [.int .i64 s, .slice a l.length c] (s, l) V (flN.below HL.out.1 hV.1) hck
  have HA : Hid (Arg n1 w (.slice x d.length cap) d ∧ p + d.length ≤ 2432) := ⟨HL.out.2.1, by omega⟩
  have HTL : Hid (∀ j, (bd l j).length = 32) := fun j => bd_length hck j
  obtain ⟨n, hn⟩ : ∃ n, n = l.length := ⟨_, rfl⟩
  rw [← hn] at hW HT HC HSP g0 g1 ⊢
  rw [← hdl] at hd0 hld HA ⊢
  have hdz : ¬ (dl : Int) = 0 := by omega
  obtain ⟨R, hR⟩ : ∃ R, R = mkL (wrB (bd l) d p F K) 76 := ⟨_, rfl⟩
  have HR : Hid (R = mkL (wrB (bd l) d p F K) 76) := hR
  rw [← hR]
  have HDL : Hid (dl = d.length) := hdl
  clear e1 e2 hck hn hR HL z1 z3 z4 hF hK hS hSI hbig hdl hI
  go_enter Try.func12, Try.ntmps12
  go_wp2_with fail
  rw [← hW]
  clear hW g0 g1
  refine HC.mono ?_
  rintro e w1 ⟨rfl, hb1⟩
  have HT1 : Hid (Two w w1 s (.slice a n c)) := HT.out.below hb1
  obtain ⟨r0, r1, _⟩ := HT1.out.cells
  clear HC hb1
  go_wp2_with fail
  refine (HSPN _).mono ?_
  rintro e w2 ⟨rfl, rfl⟩
  clear HSPN
  go_wp2_with fail
  refine (HSP.out _ HT1.out).mono ?_
  rintro e w2 ⟨⟨b, M0, c0, rfl, hMT, hc0⟩, hb2⟩
  have HT2 : Hid (Two w w2 s (.slice a n c) ∧ MT w1.heap.size c0 w2 b M0 (bd l) ∧ c0 ≤ 76) := ⟨HT1.out.below hb2, hMT, hc0⟩
  clear hMT hc0 hb2 r0 r1
  go_wp2
  have HDO : Hid (Oct d ∧ dl = d.length) := ⟨HA.out.1.oct, HDL.out⟩
  go_loopw [13] (fun i wr => ∃ (j : Nat) (M : Nat → Option Nat) (cc : Nat), F ≤ j ∧ j ≤ F + K ∧ i = .int .i64 (j : Int) ∧ MT w1.heap.size cc wr b M (wrB (bd l) d p F (j - F)) ∧ cc ≤ 76 + (j - F) ∧ Two w wr s (.slice a n c)) (fun i _ => F + K - (intOf i).toNat)
  case atStart =>
    refine ⟨F, M0, c0, Nat.le_refl _, by omega, by simp, ?_, by have := HT2.out.2.2; omega, HT2.out.1⟩
    rw [Nat.sub_self, wrB_zero]
    exact HT2.out.2.1
  case round =>
    obtain ⟨j, M, cc, hj0, hj1, rfl, hMT, hcc, hTV⟩ := hrel
    by_cases hlt : j < F + K
    · have hji : (j : Int) < (F : Int) + (K : Int) := by omega
      have HWB : Hid (wrB (bd l) d p F (j - F) j = bd l j) := by
        have := wrB_at (bd l) d p F (j - F)
        rwa [show F + (j - F) = j by omega] at this
      have HWS : Hid (upd (wrB (bd l) d p F (j - F)) j (layL (bd l j) (32 * j) d p) = wrB (bd l) d p F (j + 1 - F)) := by
        have := wrB_succ (bd l) d p F (j - F)
        rwa [show F + (j - F) = j by omega, show j - F + 1 = j + 1 - F by omega] at this
      have HAV : Hid (∀ V, Below w.heap.size w V → Arg n1 V (.slice x dl cap) d) := fun V hV => HA.out.1.below hV
      cases hMj : M j with
      | none =>
        have hlk := hMT.lookNot hMj (by omega)
        have hq := fun W => eql_nil W none 0 0
        have hmk := make32 wr
        have hb3 : Below wr.heap.size wr (wr.alloc (.cells zeros32.toArray 5)) := (Below.refl _ _).alloc (Nat.le_refl _) _
        obtain ⟨W4, hupd, hMT4, hg4⟩ := (hMT.below hb3).update hMj (by omega) (row_new wr) (by have := hMT.base; have := hMT.lt; omega) (fun i hi => by have := (hMT.row hi).2.2.lt; omega) (by omega)
        rw [show upd (wrB (bd l) d p F (j - F)) j zs = wrB (bd l) d p F (j - F) by
          funext i
          unfold upd
          by_cases e : i = j
          · rw [if_pos e, e]; exact (hMT.zero hMj).symm
          · rw [if_neg e]] at hMT4
        have hMg : upd M j (some wr.heap.size) j = some wr.heap.size := upd_same _ _ _
        have hTV := (hTV.below hb3).grown hg4 (by have := hMT.base; have := HT1.out.lt; omega)
        unfold rowV at hupd
        clear hMT hb3 hg4
        obtain ⟨_, hng, hrow⟩ := hMT4.row hMg
        rw [HWB.out] at hrow
        have HS := start_any j W4.drew (by omega)
        have HY := lay_any n1 wr.heap.size 32 (32 * j) p (.slice x dl cap) (bd l j) d W4.drew hrow.2.1 hrow.1 (HAV.out W4.drew hTV.1.drew) (by omega) (by have := HA.out.2; have := HDL.out; omega)
        rw [show ((32 * j : Nat) : Int) = 32 * (j : Int) by omega] at HY
        have HLK : Hid (∀ U Tx, MT w1.heap.size (cc + 1) U b (upd M j (some wr.heap.size)) Tx → (Instr.lookup 67 (.map (some b)) (.int .i64 j) false).run Try.prog U = .ok (.slice (some ⟨wr.heap.size, 0, none⟩) 32 32) U) := fun U Tx hU => hU.look hMg
        have hlk1 := HLK.out W4.drew _ (hMT4.same (.drew _ _))
        have HMV : Hid (MT w1.heap.size (cc + 1) W4 b (upd M j (some wr.heap.size)) (wrB (bd l) d p F (j - F)) ∧ Two w W4 s (.slice a n c) ∧ (upd M j (some wr.heap.size)) j = some wr.heap.size ∧ w1.heap.size ≤ wr.heap.size ∧ Oct (bd l j)) := ⟨hMT4, hTV, hMg, hng, hrow.2.2⟩
        clear hMT4 hTV hrow hMg
        go_wp2
        go_region_held3 (fun U => (Instr.lookup 67 (.map (some b)) (.int .i64 j) false).run Try.prog U = .ok (.slice (some ⟨wr.heap.size, 0, none⟩) 32 32) U) (first | exact hlk1 | exact hlk2)
          ((first | (go_simp; with_reducible refine Calls.mono HS ?_; rintro e w4 ⟨rfl, rfl⟩) | (go_simp; refine HY.mono ?_; rintro e w4 ⟨rfl, hr4, hg4, hs4⟩; have hM4 := (HMV.out.1.same (.drew _ _)).over HMV.out.2.2.1 hg4 ⟨hr4, by rw [layL_length]; exact HTL.out j, layL_oct HMV.out.2.2.2.2 HDO.out.1 _ _⟩; have hlk2 := HLK.out w4 _ hM4)))
        all_goals
          have HM4 : Hid (MT w1.heap.size (cc + 1) w4 b (upd M j (some wr.heap.size)) (wrB (bd l) d p F (j + 1 - F)) ∧ Two w w4 s (.slice a n c)) := ⟨by rw [← HWS.out]; exact hM4, Two.grown (V := W4.drew) ⟨HMV.out.2.1.1.drew, HMV.out.2.1.2.1, HMV.out.2.1.2.2⟩ hg4 (by have := HMV.out.2.2.2.1; have := HT1.out.lt; omega)⟩
          clear hr4 hg4 hs4 hM4 hlk1 hlk2 HS HY
          go_wp2
          go_roundw
          case rel => exact ⟨j + 1, (upd M j (some wr.heap.size)), (cc + 1), by omega, by omega, by go_num, HM4.out.1, by omega, HM4.out.2⟩
          case measure => simp [intOf]; omega
      | some g =>
        have hlk := hMT.look hMj
        unfold rowV at hlk
        have hq := fun W => eql_nil W (some ⟨g, 0, none⟩) 32 32
        obtain ⟨_, hng, hrow⟩ := hMT.row hMj
        rw [HWB.out] at hrow
        have HS := start_any j wr.drew (by omega)
        have HY := lay_any n1 g 32 (32 * j) p (.slice x dl cap) (bd l j) d wr.drew hrow.2.1 hrow.1 (HAV.out wr.drew hTV.1.drew) (by omega) (by have := HA.out.2; have := HDL.out; omega)
        rw [show ((32 * j : Nat) : Int) = 32 * (j : Int) by omega] at HY
        have HLK : Hid (∀ U Tx, MT w1.heap.size cc U b M Tx → (Instr.lookup 67 (.map (some b)) (.int .i64 j) false).run Try.prog U = .ok (.slice (some ⟨g, 0, none⟩) 32 32) U) := fun U Tx hU => hU.look hMj
        have hlk1 := HLK.out wr.drew _ (hMT.same (.drew _ _))
        have HMV : Hid (MT w1.heap.size cc wr b M (wrB (bd l) d p F (j - F)) ∧ Two w wr s (.slice a n c) ∧ M j = some g ∧ w1.heap.size ≤ g ∧ Oct (bd l j)) := ⟨hMT, hTV, hMj, hng, hrow.2.2⟩
        clear hMT hTV hrow hMj
        go_wp2
        go_region_held3 (fun U => (Instr.lookup 67 (.map (some b)) (.int .i64 j) false).run Try.prog U = .ok (.slice (some ⟨g, 0, none⟩) 32 32) U) (first | exact hlk1 | exact hlk2)
          ((first | (go_simp; with_reducible refine Calls.mono HS ?_; rintro e w4 ⟨rfl, rfl⟩) | (go_simp; refine HY.mono ?_; rintro e w4 ⟨rfl, hr4, hg4, hs4⟩; have hM4 := (HMV.out.1.same (.drew _ _)).over HMV.out.2.2.1 hg4 ⟨hr4, by rw [layL_length]; exact HTL.out j, layL_oct HMV.out.2.2.2.2 HDO.out.1 _ _⟩; have hlk2 := HLK.out w4 _ hM4)))
        all_goals
          have HM4 : Hid (MT w1.heap.size cc w4 b M (wrB (bd l) d p F (j + 1 - F)) ∧ Two w w4 s (.slice a n c)) := ⟨by rw [← HWS.out]; exact hM4, Two.grown (V := wr.drew) ⟨HMV.out.2.1.1.drew, HMV.out.2.1.2.1, HMV.out.2.1.2.2⟩ hg4 (by have := HMV.out.2.2.2.1; have := HT1.out.lt; omega)⟩
          clear hr4 hg4 hs4 hM4 hlk1 hlk2 HS HY
          go_wp2
          go_roundw
          case rel => exact ⟨j + 1, M, cc, by omega, by omega, by go_num, HM4.out.1, by omega, HM4.out.2⟩
          case measure => simp [intOf]; omega
    · have hjK : j - F = K := by omega
      have HG := gather_any w1.heap.size cc S b M _ wr hMT HSI.out (by omega)
      rw [hjK, ← HR.out] at HG
      obtain ⟨t0, t1, _⟩ := hTV.cells
      have HTV : Hid (Two w wr s (.slice a n c)) := hTV
      have hji : ¬ (j : Int) < (F : Int) + (K : Int) := by omega
      clear hMT hTV hjK hlt hj0 hj1 hcc
      go_wp2_with fail
      rw [HMX.out]
      refine HG.mono ?_
      rintro e w3 ⟨⟨us3, rfl, hu3⟩, hb3⟩
      have HT3 : Hid (Two w w3 s (.slice a n c)) := HTV.out.below hb3
      obtain ⟨y0, y1, y2, y3, y4, y5⟩ := HT3.out.cells
      obtain ⟨a3, c3, rfl, _⟩ := fl_viewN hu3
      simp only at hu3 ⊢
      obtain ⟨rl, hrl⟩ : ∃ x, x = R.length := ⟨_, rfl⟩
      rw [← hrl] at hu3 ⊢
      have HU3 : Hid (flN.lies w1.heap.size w3 [.int .i64 S, .slice a3 rl c3] (S, R)) := hu3
      clear hu3 hb3 HG hrl
      go_wp2
      refine bodyPost_ret (v := .tuple #[.agg #[.int .i64 S, .slice a3 rl c3], .int .i64 0]) (by simp [results, Try.results12, go_sem, *]) rfl ?_
      obtain ⟨h1, h2⟩ := HT3.out.ends HT1.out.lt HU3.out (.int .i64 S) (.slice a3 rl c3)
      exact ⟨⟨_, rfl, h1⟩, h2⟩

end Go.Proofs.Ytgflfmpoeamnnaa
