/-
  SegmentHolds, proved: for every number and all lists of octets (as great as the form reads them): the call returns true, and changes nothing that was in memory. No condition of its own.
-/
import Derived.Test.YtmjgamokddedkaaHoldsMath
import Derived.Test.YtmjgamokddedkaaFrame
namespace Go.Proofs.Ytmjgamokddedkaa.segmentHolds
open Go.ChangeShapes Go.WideShapes Go.ChangeAt Go.RowKit
open O (nv oct)
set_option linter.unusedVariables false

set_option maxRecDepth 100000 in
set_option maxHeartbeats 16000000 in
theorem walk (n0 : Nat) (p : Int) (v : Value) (l : List (List Int)) (w : World) (h : bssS.lies n0 w [v] l) :
    Calls Try.prog 8 #[.int .i64 p, v] w fun e w' => e = .returned (.bool true) ∧ Below w.heap.size w w' := by
  obtain ⟨va, vc, rfl, hm⟩ := bss_len h
  obtain ⟨i3, hi3, hz30, hz31, hz32⟩ := info_parts Try.info58
  have HL : Hid (bssS.lies 0 w [.slice va l.length vc] l) := bssS.weaken h (Nat.zero_le _)
  obtain ⟨n, hn⟩ : ∃ n, n = l.length := ⟨_, rfl⟩
  have HN : Hid (n = l.length) := hn
  rw [← hn] at HL hm ⊢
  unfold maxLen at hm
  obtain ⟨t, j0, ht, ht1, ht2, hj, hj2⟩ := spotq p
  obtain ⟨q, hq⟩ : ∃ q : Int, q = 1 + (j0 : Int) := ⟨_, rfl⟩
  have HQQ : Hid (1 ≤ q ∧ q ≤ 1000) := by rw [hq]; exact ⟨by omega, by omega⟩
  have HQ : Hid (I64 q) := ⟨by have := HQQ.out; omega, by have := HQQ.out; omega⟩
  have hll := run_len Try.underlying59 va n vc
  have HC := alive_any w
  clear h hn
  go_enter Try.func8, Try.ntmps8
  go_wp2_with fail
  refine HC.mono ?_
  rintro e w1 ⟨rfl, hb1⟩
  have H1 : Hid (Below w.heap.size w w1) := hb1
  clear hb1 HC
  obtain ⟨W, hW⟩ : ∃ W, W = w1.alloc (.cells #[.int .i64 q, .slice none 0 0] 28) := ⟨_, rfl⟩
  have HI0 : Hid (HI w w1.heap.size q l 0 none 0 [] W) := by
    refine ⟨by rw [hW]; exact Box.new _ _ _, World.ownsRow_nil _ _ _ _, trivial, by rw [hW]; exact H1.out.alloc H1.out.size _, H1.out.size⟩
  have hwq : IntKind.i64.wrap (1 + (j0 : Int)) = q := by rw [hq]; unfold IntKind.wrap; simp [IntKind.signed, IntKind.bits]; omega
  have hwq2 : wrap64 (1 + (j0 : Int)) = q := by rw [hq]; unfold wrap64; omega
  clear hq
  go_wp2
  rw [← hW]
  clear hW ht hj hwq hwq2 ht1 ht2 hj2
  go_loopw [6] (fun i wr => ∃ (k : Nat) (a : Option Addr) (c : Nat) (vss : List (List Value)), k ≤ n ∧ k ≤ 12 ∧ i = .int .i64 k ∧ Hid (HI w w1.heap.size q l k a c vss wr)) (fun i _ => 12 - (intOf i).toNat)
  case atStart => exact ⟨0, none, 0, [], Nat.zero_le _, Nat.zero_le _, rfl, HI0⟩
  case round =>
    obtain ⟨k, a, c, vss, hk, hk12, rfl, HK⟩ := hrel
    by_cases hlt : k < n
    case neg =>
      have hki : ¬ (k : Int) < (n : Int) := by omega
      have HC := seal_any _ _ _ wr (HK.out.lies HQ.out)
      obtain ⟨g0, g1, f0, f1⟩ := HK.out.box.two
      go_wp2_with fail
      refine HC.mono ?_
      rintro e w3 ⟨⟨vb, rfl, hO3⟩, hb3⟩
      have HB3 : Hid (Below w.heap.size w w3 ∧ Box w3 w1.heap.size 28 #[.int .i64 q, .slice a k c] ∧ sgN.lies 0 w3 [.int .i64 q, .slice a k c] (q, hl l k)) := ⟨below_any HK.out.bel hb3, HK.out.box.below hb3 HK.out.box.lt, sgN.below (HK.out.lies HQ.out) hb3⟩
      clear HC g0 g1 f0 f1 hb3 HK
      obtain ⟨g0, g1, f0, f1⟩ := HB3.out.2.1.two
      have hlk := run_len Try.underlying26 a k c
      by_cases hc : 1 ≤ k ∧ k ≤ 8
      case neg =>
        have hnc : ¬ Chk (q, hl l k) := fun h => hc ((hl_chk l k q (by omega) HQQ.out).1 h)
        rw [cerr_bad hnc]
        rw [seal_bad hnc] at hO3
        have hll3 := hO3.arg.len
        clear hO3 hnc
        by_cases h1 : k < 1
        · have h1i : (k : Int) < 1 := by omega
          clear hc
          go_wp2_with (go_at_call 18; refine (num_any _ _).mono ?_; rintro e wn ⟨rfl, rfl⟩)
          go_ret
          exact ⟨rfl, HB3.out.1⟩
        · have h1i : ¬ (k : Int) < 1 := by omega
          have h8i : (8 : Int) < (k : Int) := by omega
          clear hc
          go_wp2_with (go_at_call 18; refine (num_any _ _).mono ?_; rintro e wn ⟨rfl, rfl⟩)
          go_ret
          exact ⟨rfl, HB3.out.1⟩
      have hck := (hl_chk l k q (by omega) HQQ.out).2 hc
      rw [cerr_ok hck]
      rw [seal_ok hck] at hO3
      have hE := open_seal hck hO3.oct
      have HC := open_any _ vb _ w3 hO3.arg
      rw [hE.1, hE.2] at HC
      have h1i : ¬ (k : Int) < 1 := by omega
      have h8i : ¬ (8 : Int) < (k : Int) := by omega
      clear hO3 hck hE hc
      go_wp2_with (go_at_call 18; refine (num_any _ _).mono ?_; rintro e wn ⟨rfl, rfl⟩)
      refine HC.mono ?_
      rintro e w4 ⟨⟨us4, rfl, hS4⟩, hb4⟩
      obtain ⟨a4, c4, rfl, -⟩ := sg_viewN hS4
      rw [show (q, hl l k).1 = q from rfl, show (q, hl l k).2 = hl l k from rfl, hl_length] at hS4
      rw [show (q, hl l k).1 = q from rfl, show (q, hl l k).2 = hl l k from rfl, hl_length]
      obtain ⟨V, hV⟩ : ∃ V, V = w4.alloc (.cells #[.int .i64 q, .slice a4 k c4] 28) := ⟨_, rfl⟩
      have hbV : Below w4.heap.size w4 V := by rw [hV]; exact (Below.refl _ _).alloc (Nat.le_refl _) _
      have hb34 := below_any hb4 hbV
      have HV : Hid (Below w.heap.size w V ∧ Box V w1.heap.size 28 #[.int .i64 q, .slice a k c] ∧ sgN.lies 0 V [.int .i64 q, .slice a k c] (q, hl l k) ∧ Box V w4.heap.size 28 #[.int .i64 q, .slice a4 k c4] ∧ sgN.lies 0 V [.int .i64 q, .slice a4 k c4] (q, hl l k)) := ⟨below_any HB3.out.1 hb34, HB3.out.2.1.below hb34 HB3.out.2.1.lt, sgN.below HB3.out.2.2 hb34, by rw [hV]; exact Box.new _ _ _, sgN.weaken (sgN.below hS4 hbV) (Nat.zero_le _)⟩
      have hlk4 := run_len Try.underlying26 a4 k c4
      clear HC hS4 hb4 hbV hb34 g0 g1 f0 f1 HB3
      obtain ⟨g0, g1, f0, f1⟩ := HV.out.2.1.two
      obtain ⟨g2, g3, f2, f3⟩ := HV.out.2.2.2.1.two
      rw [hV] at g0 g1 f0 f1 g2 g3 f2 f3
      go_wp2_with (go_at_call 18; refine (num_any _ _).mono ?_; rintro e wn ⟨rfl, rfl⟩)
      rw [← hV]
      clear hV g0 g1 f0 f1 g2 g3 f2 f3
      go_loopw [11] (fun i W => ∃ j : Nat, j ≤ k ∧ i = .int .i64 j ∧ Hid (Below V.heap.size V W)) (fun i _ => k - (intOf i).toNat)
      case atStart => exact ⟨0, Nat.zero_le _, rfl, Below.refl _ _⟩
      case round =>
        obtain ⟨j, hj, rfl, HT⟩ := hrel
        have hB1 := HV.out.2.1.below HT.out HV.out.2.1.lt
        have hB2 := HV.out.2.2.2.1.below HT.out HV.out.2.2.2.1.lt
        obtain ⟨-, g1, -, f1⟩ := hB1.two
        obtain ⟨-, g3, -, f3⟩ := hB2.two
        by_cases hlt : j < k
        · obtain ⟨_, _, e1, hL1, -⟩ := sg_viewN (sgN.below HV.out.2.2.1 HT.out)
          obtain ⟨_, _, e2, hL2, -⟩ := sg_viewN (sgN.below HV.out.2.2.2.2 HT.out)
          rw [← (List.cons.inj (List.cons.inj e1).2).1] at hL1
          rw [← (List.cons.inj (List.cons.inj e2).2).1] at hL2
          have hjb := hl_get l k j hlt
          obtain ⟨b1, o1, x1, z1, hix1, p0, p1, p2, hA1, _⟩ := bks_atN hL1 j _ hjb
          obtain ⟨b2, o2, x2, z2, hix2, q0, q1, q2, hA2, _⟩ := bks_atN hL2 j _ hjb
          obtain ⟨d, hd⟩ : ∃ d, d = (l.getD j []).take 32 := ⟨_, rfl⟩
          rw [show (hb j (l.getD j [])).2.2 = d from hd.symm] at p2 hA1 q2 hA2
          rw [show (hb j (l.getD j [])).1 = 1 + (j : Int) from rfl] at q0
          rw [show (hb j (l.getD j [])).2.1 = (j : Int) from rfl] at q1
          have HS : Hid (Calls Try.prog 17 #[.slice x2 d.length z2, .slice x1 d.length z1] wr.drew fun e w' => e = .returned (.bool true) ∧ ∃ q, w' = wr.drew.drewN q) := by
            have := same_any 0 0 _ _ _ _ wr.drew (hA2.below (Below.refl _ wr).drew) (hA1.below (Below.refl _ wr).drew)
            rwa [decide_eq_true rfl] at this
          have HT2 : Hid (∀ W, Below wr.heap.size wr W → Below V.heap.size V W) := fun W h => below_any HT.out h
          have hwj : IntKind.i64.wrap (1 + (j : Int)) = 1 + (j : Int) := by unfold IntKind.wrap; simp [IntKind.signed, IntKind.bits]; omega
          have hwj2 : wrap64 (1 + (j : Int)) = 1 + (j : Int) := by unfold wrap64; omega
          have hjk : (j : Int) < (k : Int) := by omega
          obtain ⟨dl, hdl⟩ : ∃ z, z = d.length := ⟨_, rfl⟩
          rw [← hdl] at p2 q2 HS
          clear hA1 hA2 hL1 hL2 e1 e2 hjb p0 p1 hd hdl hB1 hB2
          have HC : Hid (∀ W, Below wr.heap.size wr W → W.cell? ⟨w1.heap.size, 1, none⟩ = some (.slice a k c) ∧ W.cell? ⟨w4.heap.size, 1, none⟩ = some (.slice a4 k c4) ∧ W.cell? ⟨b1, o1 + 2, none⟩ = some (.slice x1 dl z1) ∧ W.cell? ⟨b2, o2, none⟩ = some (.int .i64 (1 + (j : Int))) ∧ W.cell? ⟨b2, o2 + 1, none⟩ = some (.int .i64 (j : Int)) ∧ W.cell? ⟨b2, o2 + 2, none⟩ = some (.slice x2 dl z2)) := fun W hW => ⟨by rw [hW.cell (cell_lt g1)]; exact g1, by rw [hW.cell (cell_lt g3)]; exact g3, by rw [hW.cell (cell_lt p2)]; exact p2, by rw [hW.cell (cell_lt q0)]; exact q0, by rw [hW.cell (cell_lt q1)]; exact q1, by rw [hW.cell (cell_lt q2)]; exact q2⟩
          go_wp2
          clear g1 g3 f1 f3 p2 q0 q1 q2
          refine AnyBut.begin (fun W => W.cell? ⟨w1.heap.size, 1, none⟩ = some (.slice a k c) ∧ W.cell? ⟨w4.heap.size, 1, none⟩ = some (.slice a4 k c4) ∧ W.cell? ⟨b1, o1 + 2, none⟩ = some (.slice x1 dl z1) ∧ W.cell? ⟨b2, o2, none⟩ = some (.int .i64 (1 + (j : Int))) ∧ W.cell? ⟨b2, o2 + 1, none⟩ = some (.int .i64 (j : Int)) ∧ W.cell? ⟨b2, o2 + 2, none⟩ = some (.slice x2 dl z2)) 1000 (by kernel_rfl) ?_
          have hSS := HC.out wr.drew (Below.refl _ wr).drew
          refine tx 0 107 hSS ?_
          simp only [Go.Proofs.Ytmjgamokddedkaa.ua, Go.Proofs.Ytmjgamokddedkaa.ub, Go.Proofs.Ytmjgamokddedkaa.uc, Go.Proofs.Ytmjgamokddedkaa.ud]
          refine tx 1 108 hSS ?_
          simp only [Go.Proofs.Ytmjgamokddedkaa.ua, Go.Proofs.Ytmjgamokddedkaa.ub, Go.Proofs.Ytmjgamokddedkaa.uc, Go.Proofs.Ytmjgamokddedkaa.ud]
          refine tx 2 109 hSS ?_
          simp only [Go.Proofs.Ytmjgamokddedkaa.ua, Go.Proofs.Ytmjgamokddedkaa.ub, Go.Proofs.Ytmjgamokddedkaa.uc, Go.Proofs.Ytmjgamokddedkaa.ud]
          refine tx 3 110 hSS ?_
          simp only [Go.Proofs.Ytmjgamokddedkaa.ua, Go.Proofs.Ytmjgamokddedkaa.ub, Go.Proofs.Ytmjgamokddedkaa.uc, Go.Proofs.Ytmjgamokddedkaa.ud]
          refine tx 4 111 hSS ?_
          simp only [Go.Proofs.Ytmjgamokddedkaa.ua, Go.Proofs.Ytmjgamokddedkaa.ub, Go.Proofs.Ytmjgamokddedkaa.uc, Go.Proofs.Ytmjgamokddedkaa.ud]
          refine tx 5 112 hSS ?_
          simp only [Go.Proofs.Ytmjgamokddedkaa.ua, Go.Proofs.Ytmjgamokddedkaa.ub, Go.Proofs.Ytmjgamokddedkaa.uc, Go.Proofs.Ytmjgamokddedkaa.ud]
          refine tx 6 113 hSS ?_
          simp only [Go.Proofs.Ytmjgamokddedkaa.ua, Go.Proofs.Ytmjgamokddedkaa.ub, Go.Proofs.Ytmjgamokddedkaa.uc, Go.Proofs.Ytmjgamokddedkaa.ud]
          refine tx 7 114 hSS ?_
          simp only [Go.Proofs.Ytmjgamokddedkaa.ua, Go.Proofs.Ytmjgamokddedkaa.ub, Go.Proofs.Ytmjgamokddedkaa.uc, Go.Proofs.Ytmjgamokddedkaa.ud]
          refine tx 8 115 hSS ?_
          simp only [Go.Proofs.Ytmjgamokddedkaa.ua, Go.Proofs.Ytmjgamokddedkaa.ub, Go.Proofs.Ytmjgamokddedkaa.uc, Go.Proofs.Ytmjgamokddedkaa.ud]
          refine tx 9 116 hSS ?_
          simp only [Go.Proofs.Ytmjgamokddedkaa.ua, Go.Proofs.Ytmjgamokddedkaa.ub, Go.Proofs.Ytmjgamokddedkaa.uc, Go.Proofs.Ytmjgamokddedkaa.ud]
          refine tx 10 117 hSS ?_
          simp only [Go.Proofs.Ytmjgamokddedkaa.ua, Go.Proofs.Ytmjgamokddedkaa.ub, Go.Proofs.Ytmjgamokddedkaa.uc, Go.Proofs.Ytmjgamokddedkaa.ud]
          refine tx 11 118 hSS ?_
          simp only [Go.Proofs.Ytmjgamokddedkaa.ua, Go.Proofs.Ytmjgamokddedkaa.ub, Go.Proofs.Ytmjgamokddedkaa.uc, Go.Proofs.Ytmjgamokddedkaa.ud]
          refine tx 12 119 hSS ?_
          simp only [Go.Proofs.Ytmjgamokddedkaa.ua, Go.Proofs.Ytmjgamokddedkaa.ub, Go.Proofs.Ytmjgamokddedkaa.uc, Go.Proofs.Ytmjgamokddedkaa.ud]
          refine tx 13 120 hSS ?_
          simp only [Go.Proofs.Ytmjgamokddedkaa.ua, Go.Proofs.Ytmjgamokddedkaa.ub, Go.Proofs.Ytmjgamokddedkaa.uc, Go.Proofs.Ytmjgamokddedkaa.ud]
          refine tx 14 121 hSS ?_
          simp only [Go.Proofs.Ytmjgamokddedkaa.ua, Go.Proofs.Ytmjgamokddedkaa.ub, Go.Proofs.Ytmjgamokddedkaa.uc, Go.Proofs.Ytmjgamokddedkaa.ud]
          refine tx 15 122 hSS ?_
          simp only [Go.Proofs.Ytmjgamokddedkaa.ua, Go.Proofs.Ytmjgamokddedkaa.ub, Go.Proofs.Ytmjgamokddedkaa.uc, Go.Proofs.Ytmjgamokddedkaa.ud]
          refine tx 16 123 hSS ?_
          simp only [Go.Proofs.Ytmjgamokddedkaa.ua, Go.Proofs.Ytmjgamokddedkaa.ub, Go.Proofs.Ytmjgamokddedkaa.uc, Go.Proofs.Ytmjgamokddedkaa.ud]
          refine tx 17 124 hSS ?_
          simp only [Go.Proofs.Ytmjgamokddedkaa.ua, Go.Proofs.Ytmjgamokddedkaa.ub, Go.Proofs.Ytmjgamokddedkaa.uc, Go.Proofs.Ytmjgamokddedkaa.ud]
          refine tx 18 125 hSS ?_
          simp only [Go.Proofs.Ytmjgamokddedkaa.ua, Go.Proofs.Ytmjgamokddedkaa.ub, Go.Proofs.Ytmjgamokddedkaa.uc, Go.Proofs.Ytmjgamokddedkaa.ud]
          refine tx 19 126 hSS ?_
          simp only [Go.Proofs.Ytmjgamokddedkaa.ua, Go.Proofs.Ytmjgamokddedkaa.ub, Go.Proofs.Ytmjgamokddedkaa.uc, Go.Proofs.Ytmjgamokddedkaa.ud]
          refine tx 20 127 hSS ?_
          simp only [Go.Proofs.Ytmjgamokddedkaa.ua, Go.Proofs.Ytmjgamokddedkaa.ub, Go.Proofs.Ytmjgamokddedkaa.uc, Go.Proofs.Ytmjgamokddedkaa.ud]
          refine tx 21 128 hSS ?_
          simp only [Go.Proofs.Ytmjgamokddedkaa.ua, Go.Proofs.Ytmjgamokddedkaa.ub, Go.Proofs.Ytmjgamokddedkaa.uc, Go.Proofs.Ytmjgamokddedkaa.ud]
          refine tx 22 129 hSS ?_
          simp only [Go.Proofs.Ytmjgamokddedkaa.ua, Go.Proofs.Ytmjgamokddedkaa.ub, Go.Proofs.Ytmjgamokddedkaa.uc, Go.Proofs.Ytmjgamokddedkaa.ud]
          refine tx 23 130 hSS ?_
          simp only [Go.Proofs.Ytmjgamokddedkaa.ua, Go.Proofs.Ytmjgamokddedkaa.ub, Go.Proofs.Ytmjgamokddedkaa.uc, Go.Proofs.Ytmjgamokddedkaa.ud]
          refine tx 24 131 hSS ?_
          simp only [Go.Proofs.Ytmjgamokddedkaa.ua, Go.Proofs.Ytmjgamokddedkaa.ub, Go.Proofs.Ytmjgamokddedkaa.uc, Go.Proofs.Ytmjgamokddedkaa.ud]
          refine tx 25 132 hSS ?_
          simp only [Go.Proofs.Ytmjgamokddedkaa.ua, Go.Proofs.Ytmjgamokddedkaa.ub, Go.Proofs.Ytmjgamokddedkaa.uc, Go.Proofs.Ytmjgamokddedkaa.ud]
          refine tx 26 133 hSS ?_
          simp only [Go.Proofs.Ytmjgamokddedkaa.ua, Go.Proofs.Ytmjgamokddedkaa.ub, Go.Proofs.Ytmjgamokddedkaa.uc, Go.Proofs.Ytmjgamokddedkaa.ud]
          refine tx 27 134 hSS ?_
          simp only [Go.Proofs.Ytmjgamokddedkaa.ua, Go.Proofs.Ytmjgamokddedkaa.ub, Go.Proofs.Ytmjgamokddedkaa.uc, Go.Proofs.Ytmjgamokddedkaa.ud]
          refine tx 28 135 hSS ?_
          simp only [Go.Proofs.Ytmjgamokddedkaa.ua, Go.Proofs.Ytmjgamokddedkaa.ub, Go.Proofs.Ytmjgamokddedkaa.uc, Go.Proofs.Ytmjgamokddedkaa.ud]
          refine tx 29 136 hSS ?_
          simp only [Go.Proofs.Ytmjgamokddedkaa.ua, Go.Proofs.Ytmjgamokddedkaa.ub, Go.Proofs.Ytmjgamokddedkaa.uc, Go.Proofs.Ytmjgamokddedkaa.ud]
          refine tx 30 137 hSS ?_
          simp only [Go.Proofs.Ytmjgamokddedkaa.ua, Go.Proofs.Ytmjgamokddedkaa.ub, Go.Proofs.Ytmjgamokddedkaa.uc, Go.Proofs.Ytmjgamokddedkaa.ud]
          refine tx 31 138 hSS ?_
          simp only [Go.Proofs.Ytmjgamokddedkaa.ua, Go.Proofs.Ytmjgamokddedkaa.ub, Go.Proofs.Ytmjgamokddedkaa.uc, Go.Proofs.Ytmjgamokddedkaa.ud]
          refine AnyBut.step (i := 32) (by kernel_rfl) rfl (fun K hK => ?_)
          go_simp
          refine Calls.mono HS.out ?_
          rintro e w5 ⟨rfl, nq, rfl⟩
          have hb5 : Below wr.heap.size wr (wr.drew.drewN nq) := below_drewN (Below.refl _ wr).drew _
          dsimp only
          refine hK.out _ _ (HC.out _ hb5) ?_
          clear hK hSS
          have hSS := HC.out _ hb5
          refine tx 33 140 hSS ?_
          simp only [Go.Proofs.Ytmjgamokddedkaa.ua, Go.Proofs.Ytmjgamokddedkaa.ub, Go.Proofs.Ytmjgamokddedkaa.uc, Go.Proofs.Ytmjgamokddedkaa.ud]
          refine tx 34 141 hSS ?_
          simp only [Go.Proofs.Ytmjgamokddedkaa.ua, Go.Proofs.Ytmjgamokddedkaa.ub, Go.Proofs.Ytmjgamokddedkaa.uc, Go.Proofs.Ytmjgamokddedkaa.ud]
          refine AnyBut.done (by kernel_rfl) ?_
          have HT5 : Hid (Below V.heap.size V (wr.drewN (1 + nq))) := below_drewN HT.out _
          clear hSS hb5 HC HS hix1 hix2
          go_wp2
          go_roundw
          case rel => exact ⟨j + 1, by omega, by go_num, HT5⟩
          case measure => simp [intOf]; omega
        · obtain rfl : j = k := by omega
          have HE : Hid (Below w.heap.size w wr) := below_any HV.out.1 HT.out
          clear hB1 hB2
          go_wp2
          go_ret
          exact ⟨rfl, HE.out⟩
    have hki : (k : Int) < (n : Int) := by omega
    by_cases hlt2 : k < 12
    case neg =>
      have hk2 : ¬ (k : Int) < 12 := by omega
      have HC := seal_any _ _ _ wr (HK.out.lies HQ.out)
      obtain ⟨g0, g1, f0, f1⟩ := HK.out.box.two
      go_wp2_with fail
      refine HC.mono ?_
      rintro e w3 ⟨⟨vb, rfl, hO3⟩, hb3⟩
      have HB3 : Hid (Below w.heap.size w w3 ∧ Box w3 w1.heap.size 28 #[.int .i64 q, .slice a k c] ∧ sgN.lies 0 w3 [.int .i64 q, .slice a k c] (q, hl l k)) := ⟨below_any HK.out.bel hb3, HK.out.box.below hb3 HK.out.box.lt, sgN.below (HK.out.lies HQ.out) hb3⟩
      clear HC g0 g1 f0 f1 hb3 HK
      obtain ⟨g0, g1, f0, f1⟩ := HB3.out.2.1.two
      have hlk := run_len Try.underlying26 a k c
      have hnc : ¬ Chk (q, hl l k) := fun h => by
        have := (hl_chk l k q (by omega) HQQ.out).1 h
        omega
      rw [cerr_bad hnc]
      rw [seal_bad hnc] at hO3
      have hll3 := hO3.arg.len
      clear hO3 hnc
      have h1i : ¬ (k : Int) < 1 := by omega
      have h8i : (8 : Int) < (k : Int) := by omega
      go_wp2_with (go_at_call 18; refine (num_any _ _).mono ?_; rintro e wn ⟨rfl, rfl⟩)
      go_ret
      exact ⟨rfl, HB3.out.1⟩
    have hk2 : (k : Int) < 12 := by omega
    obtain ⟨d, hd⟩ := get_lt (l := l) (k := k) (by rw [← HN.out]; exact hlt)
    obtain ⟨b, o, x, cap, hix, hc0, hA⟩ := bss_at HL.out k d hd
    obtain ⟨m, hm'⟩ : ∃ m, m = d.length := ⟨_, rfl⟩
    rw [← hm'] at hc0 hA
    obtain ⟨mm, hmm⟩ : ∃ mm : Nat, mm = if 32 < m then 32 else m := ⟨_, rfl⟩
    have hmin : ∀ (ts : Array TypeId) (t : TypeId) (W : World), (Builtin.min_ ts t #[.int .i64 (m : Int), .int .i64 32]).run Try.prog W = .ok (.int .i64 (mm : Int)) W := fun ts t W => by
      rw [run_min2]
      have : (if (32 : Int) < (m : Int) then (32 : Int) else (m : Int)) = (mm : Int) := by rw [hmm]; split <;> split <;> omega
      rw [this]
    have hml := run_len Try.underlying25 x m cap
    obtain ⟨v4, hA4, s4⟩ := hA.ahead mm (by rw [← hm', hmm]; split <;> omega)
    replace s4 : ∀ X, (Instr.slice 25 (.slice x m cap) none (some (.int .i64 (mm : Int))) none).run Try.prog X = .ok v4 X := s4
    have htk : d.take mm = d.take 32 := by
      rw [hmm]
      split
      · rfl
      · rw [List.take_of_length_le (by omega), List.take_of_length_le (by omega)]
    rw [htk] at hA4
    obtain ⟨va4, vc4, rfl, -⟩ := hA4.shape
    obtain ⟨dl, hdl⟩ : ∃ z, z = (d.take 32).length := ⟨_, rfl⟩
    rw [← hdl] at hA4 s4
    have HA4 : Hid (Arg 0 w (.slice va4 dl vc4) (d.take 32) ∧ l.getD k [] = d) := ⟨hA4, by simp [List.getD, hd]⟩
    have hwk : IntKind.i64.wrap (1 + (k : Int)) = 1 + (k : Int) := by unfold IntKind.wrap; simp [IntKind.signed, IntKind.bits]; omega
    have hwk2 : wrap64 (1 + (k : Int)) = 1 + (k : Int) := by unfold wrap64; omega
    have HO : Hid (wr.ownsRow (w1.heap.size + 1) 58 3 (.slice a k c) k vss.flatten) := HK.out.row
    have HB : Hid (Below w.heap.size w wr ∧ w.heap.size ≤ w1.heap.size) := ⟨HK.out.bel, HK.out.low⟩
    obtain ⟨-, g1, -, f1⟩ := HK.out.box.two
    have hc1 : wr.cell? ⟨b, o, none⟩ = some (.slice x m cap) := by rw [HB.out.1.cell (cell_lt hc0)]; exact hc0
    have hbo : b < w1.heap.size + 1 := by
      have h1 : b < w.heap.size := cell_lt hc0
      have := HB.out.2
      omega
    have HS : Hid (∀ U, Below (w1.heap.size + 1) wr U → U.cell? ⟨w1.heap.size, 1, none⟩ = some (.slice a k c) ∧ U.cell? ⟨b, o, none⟩ = some (.slice x m cap)) := fun U hU => ⟨by rw [hU.cell (Nat.lt_succ_self _)]; exact g1, by rw [hU.cell hbo]; exact hc1⟩
    have hA1 : w1.heap.size + 1 ≤ wr.heap.size := HK.out.box.lt
    clear hA hA4 hd hm' hmm htk hc0 hc1 g1 f1 hdl hbo
    go_wp2
    refine AnyBut.begin (fun U => U.cell? ⟨w1.heap.size, 1, none⟩ = some (.slice a k c) ∧ U.cell? ⟨b, o, none⟩ = some (.slice x m cap)) 20 (by kernel_rfl) ?_
    have hSS := HS.out wr.drew (((Below.refl _ wr).drew).mono hA1)
    refine ty 0 31 hSS ?_
    simp only [Go.Proofs.Ytmjgamokddedkaa.ua, Go.Proofs.Ytmjgamokddedkaa.ub, Go.Proofs.Ytmjgamokddedkaa.uc, Go.Proofs.Ytmjgamokddedkaa.ud]
    refine ty 1 32 hSS ?_
    simp only [Go.Proofs.Ytmjgamokddedkaa.ua, Go.Proofs.Ytmjgamokddedkaa.ub, Go.Proofs.Ytmjgamokddedkaa.uc, Go.Proofs.Ytmjgamokddedkaa.ud]
    refine ty 2 33 hSS ?_
    simp only [Go.Proofs.Ytmjgamokddedkaa.ua, Go.Proofs.Ytmjgamokddedkaa.ub, Go.Proofs.Ytmjgamokddedkaa.uc, Go.Proofs.Ytmjgamokddedkaa.ud]
    refine ty 3 34 hSS ?_
    simp only [Go.Proofs.Ytmjgamokddedkaa.ua, Go.Proofs.Ytmjgamokddedkaa.ub, Go.Proofs.Ytmjgamokddedkaa.uc, Go.Proofs.Ytmjgamokddedkaa.ud]
    refine ty 4 35 hSS ?_
    simp only [Go.Proofs.Ytmjgamokddedkaa.ua, Go.Proofs.Ytmjgamokddedkaa.ub, Go.Proofs.Ytmjgamokddedkaa.uc, Go.Proofs.Ytmjgamokddedkaa.ud]
    refine ty 5 36 hSS ?_
    simp only [Go.Proofs.Ytmjgamokddedkaa.ua, Go.Proofs.Ytmjgamokddedkaa.ub, Go.Proofs.Ytmjgamokddedkaa.uc, Go.Proofs.Ytmjgamokddedkaa.ud]
    refine ty 6 37 hSS ?_
    simp only [Go.Proofs.Ytmjgamokddedkaa.ua, Go.Proofs.Ytmjgamokddedkaa.ub, Go.Proofs.Ytmjgamokddedkaa.uc, Go.Proofs.Ytmjgamokddedkaa.ud]
    refine ty 7 38 hSS ?_
    simp only [Go.Proofs.Ytmjgamokddedkaa.ua, Go.Proofs.Ytmjgamokddedkaa.ub, Go.Proofs.Ytmjgamokddedkaa.uc, Go.Proofs.Ytmjgamokddedkaa.ud]
    refine ty 8 39 hSS ?_
    simp only [Go.Proofs.Ytmjgamokddedkaa.ua, Go.Proofs.Ytmjgamokddedkaa.ub, Go.Proofs.Ytmjgamokddedkaa.uc, Go.Proofs.Ytmjgamokddedkaa.ud]
    refine ty 9 40 hSS ?_
    simp only [Go.Proofs.Ytmjgamokddedkaa.ua, Go.Proofs.Ytmjgamokddedkaa.ub, Go.Proofs.Ytmjgamokddedkaa.uc, Go.Proofs.Ytmjgamokddedkaa.ud]
    refine ty 10 41 hSS ?_
    simp only [Go.Proofs.Ytmjgamokddedkaa.ua, Go.Proofs.Ytmjgamokddedkaa.ub, Go.Proofs.Ytmjgamokddedkaa.uc, Go.Proofs.Ytmjgamokddedkaa.ud]
    refine ty 11 42 hSS ?_
    simp only [Go.Proofs.Ytmjgamokddedkaa.ua, Go.Proofs.Ytmjgamokddedkaa.ub, Go.Proofs.Ytmjgamokddedkaa.uc, Go.Proofs.Ytmjgamokddedkaa.ud]
    refine ty 12 43 hSS ?_
    simp only [Go.Proofs.Ytmjgamokddedkaa.ua, Go.Proofs.Ytmjgamokddedkaa.ub, Go.Proofs.Ytmjgamokddedkaa.uc, Go.Proofs.Ytmjgamokddedkaa.ud]
    refine ty 13 44 hSS ?_
    simp only [Go.Proofs.Ytmjgamokddedkaa.ua, Go.Proofs.Ytmjgamokddedkaa.ub, Go.Proofs.Ytmjgamokddedkaa.uc, Go.Proofs.Ytmjgamokddedkaa.ud]
    refine ty 14 45 hSS ?_
    simp only [Go.Proofs.Ytmjgamokddedkaa.ua, Go.Proofs.Ytmjgamokddedkaa.ub, Go.Proofs.Ytmjgamokddedkaa.uc, Go.Proofs.Ytmjgamokddedkaa.ud]
    refine ty 15 46 hSS ?_
    simp only [Go.Proofs.Ytmjgamokddedkaa.ua, Go.Proofs.Ytmjgamokddedkaa.ub, Go.Proofs.Ytmjgamokddedkaa.uc, Go.Proofs.Ytmjgamokddedkaa.ud]
    refine ty 16 47 hSS ?_
    simp only [Go.Proofs.Ytmjgamokddedkaa.ua, Go.Proofs.Ytmjgamokddedkaa.ub, Go.Proofs.Ytmjgamokddedkaa.uc, Go.Proofs.Ytmjgamokddedkaa.ud]
    have hbd : Below wr.heap.size wr wr.drew := (Below.refl _ wr).drew
    have hbx : Below wr.heap.size wr (wr.drew.alloc (.cells #[.int .i64 (1 + (k : Int)), .int .i64 (k : Int), .slice va4 dl vc4] 58)) := hbd.alloc hbd.size _
    refine AnyBut.step (i := 17) (by kernel_rfl) rfl (fun K hK => ?_)
    go_simp
    refine hK.out _ _ (HS.out _ (hbx.mono hA1)) ?_
    clear hK hSS
    have hSS := HS.out _ (hbx.mono hA1)
    refine AnyBut.step (i := 18) (by kernel_rfl) rfl (fun K hK => ?_)
    refine step_append_lies _ (by rfl) _ _ _ (by rfl) (w1.heap.size + 1) 58 i3 _ 3 40 Try.underlying26 hi3 hz30 hz31 hz32 rfl (by omega) _ k _ (by rfl) ((own_below HO.out hbd).alloc _) ⟨wr.drew.heap.size, 0, none⟩ 1 1 [.int .i64 (1 + (k : Int)), .int .i64 (k : Int), .slice va4 dl vc4] (by rfl) (by rfl)
      (World.news_of_block (cs := #[.int .i64 (1 + (k : Int)), .int .i64 (k : Int), .slice va4 dl vc4]) (t := 58) (fr := (0, 0)) (heap_alloc_new wr.drew _)) (by simp [Value.oneCell']) (by omega) (by unfold maxLen; omega) (by omega) (by have := HK.out.box.lt; simp; omega) (wr.drew.heap.size + 1) (by simp) ?_
    intro gg cap3 w3 hown3 hgrow3 hat hltg
    have hbe3 : Below (w1.heap.size + 1) wr w3 := (hbx.mono hA1).grown hgrow3 (by have := hbx.size; omega) (fun j hj => (HO.out.lt j hj).1)
    have hB3 := HK.out.box.below hbe3 (Nat.lt_succ_self _)
    obtain ⟨-, G1, -, F1⟩ := hB3.two
    refine hK.out _ _ (HS.out w3 hbe3) ?_
    clear hK hSS
    have hSS := HS.out w3 hbe3
    refine ty 19 50 hSS ?_
    refine AnyBut.last (by kernel_rfl) (by kernel_rfl) rfl (fun K hK => ?_)
    go_simp
    refine hK.out _ _ ?_
    clear hK hSS
    have HK2 : Hid (HI w w1.heap.size q l (k + 1) (some ⟨gg, 0, none⟩) cap3 (vss ++ [[.int .i64 (1 + (k : Int)), .int .i64 (k : Int), .slice va4 dl vc4]]) (w3.setCell ⟨w1.heap.size, 1, none⟩ (.slice (some ⟨gg, 0, none⟩) (k + 1) cap3))) := by
      refine ⟨hB3.set 1 _, ?_, ?_, ?_, HB.out.2⟩
      · rw [flat_snoc]
        exact ownsRow_setCell_below hown3 (Nat.lt_succ_self _) _
      · rw [hl_snoc, HA4.out.2]
        exact HK.out.each.snoc (bk_mk (p := hb k d) HA4.out.1 ⟨by show _ ≤ 1 + (k : Int); omega, by show 1 + (k : Int) ≤ _; omega⟩ ⟨by show _ ≤ (k : Int); omega, by show (k : Int) ≤ _; omega⟩)
      · exact (HB.out.1.trans (hbe3.mono (by have := HB.out.2; omega))).setCell (p := ⟨w1.heap.size, 1, none⟩) HB.out.2 _
    clear hown3 hgrow3 hat hltg hB3 G1 F1 hbe3 hbx hbd hix s4 hmin hml hwk hwk2
    go_wp2
    go_roundw
    case rel => exact ⟨k + 1, some ⟨gg, 0, none⟩, cap3, _, by omega, by omega, by go_num, HK2⟩
    case measure => simp [intOf]; omega

set_option maxRecDepth 100000 in
theorem lifted (os : Os) (started : os.Started) (H : Type) (enc : TypeId × Value → H) :
    ReturnsInHanded {} Try.checked os 8 .any (Rows.segmentHoldsSpec.pre6 enc Try.prog Try.f8 Rows.segmentHoldsRow.domain false) (Rows.segmentHoldsSpec.post enc Try.prog Try.f8 false true false false) := by
  refine returnsInHanded_of_change_sized (C := Try.checked) own started (by kernel_rfl) Try.func8
    (ChangeSpec.witness6 (enc := enc) (C := Try.checked) false ⟨#[], #[.int .i64 0, .slice none 0 0], []⟩ 8 (by kernel_rfl) (by kernel_rfl) (by kernel_rfl) (by kernel_rfl)) ?_
  intro W base args ds gs before hval0 hW hcnd hsz0 _
  have hval : ∀ (j : Nat) t v, Try.f8.params[j]? = some t → args[j]? = some v → Value.okWide Try.prog W .any base t v := hval0
  have hW' := hW
  obtain ⟨p, q, hA0, hV, rfl, hfz, hnd⟩ := hW
  have hA : DataW.TrodAll enc Try.prog W 0 (fun _ => true) true Try.f8.params.toList args.toList ds p := hA0
  have hsz : (DataW.weightsEach Try.prog (Try.f8.params.toList ++ Rows.segmentHoldsSpec.plain.varTypes Try.prog) (ds ++ gs)).all (· ≤ reachBytes) = true := hsz0
  clear hsz0
  rw [Try.params8] at hA hval hsz
  obtain ⟨v0, vs0, d0, ds0, p0, q0, hargs, rfl, rfl, h0, r0⟩ := trodAll_cons hA
  obtain ⟨v1, vs1, d1, ds1, p1, q1, rfl, rfl, rfl, h1, r1⟩ := trodAll_cons r0
  obtain ⟨rfl, rfl, rfl⟩ := trodAll_nil r1
  obtain rfl : args = #[v0, v1] := by cases args; simp_all
  obtain ⟨rfl, rfl⟩ := trodVars_none hV
  obtain ⟨a0, rfl, rfl, rfl, w0⟩ := open_int Try.underlying3 (hval 0 3 v0 rfl rfl) h0
  have b0 := bounds_i64 w0
  obtain ⟨x1, len1, cap1, rfl⟩ := okWide_slice Try.underlying59 (hval 1 59 v1 rfl rfl)
  have k1 := h1
  have lt1 : ∀ x ∈ p1, x.block < W.heap.size := by obtain ⟨m, hm⟩ := k1; exact DataW.trod_lt m _ _ _ hm
  obtain ⟨m1, hm1⟩ := h1
  obtain ⟨s1, A1, F1'⟩ := bssS.reads hm1
  have F1 := F1' fun n hn => by have := List.all_eq_true.1 hsz _ (DataW.weights_mem_each (j := 1) rfl rfl n hn); simpa using this
  clear hA0 hval0
  refine (walk 0 a0 _ s1 W A1).mono fun e W' ⟨he, bel⟩ => ?_
  subst he
  exact ⟨_, rfl, _, _, _, [], _, [], hW', trodAll_mk1 (shut_bool Try.underlying4 _), (trodAll_cons_mk (shut_int Try.underlying3 w0) (trodAll_cons_mk (Below.trod laidOut (by kernel_rfl) (of_decide_eq_true (by kernel_rfl)) k1 bel lt1) trodAll_mk0)), rfl, bel.frame _, fun h => by cases h⟩

theorem over : Rows.segmentHoldsRow.holds Try.pinned (OpenSpec.ofChange Rows.segmentHoldsSpec) :=
  OpenClaim.holds_of_wide 8 Try.f8 rfl rfl rfl rfl rfl rfl rfl ⟨rfl, rfl, rfl, rfl, rfl⟩ rfl rfl rfl rfl rfl (by kernel_rfl) Try.func8 (by kernel_rfl)
    (of_decide_eq_true (by kernel_rfl)) (by unfold Func.isWrapper; first | (rw [if_pos (by decide +kernel)]; kernel_rfl) | (rw [if_neg (by decide +kernel)]; exact ⟨rfl, rfl⟩))
    (fun os started H enc _ => lifted os started H enc)

end Go.Proofs.Ytmjgamokddedkaa.segmentHolds

namespace Go.Proofs.Ytmjgamokddedkaa
theorem segmentHolds_holds : Rows.SegmentHoldsSaid := segmentHolds.over
#print axioms segmentHolds_holds
end Go.Proofs.Ytmjgamokddedkaa
