/-
  The kind behind one, as the document finds it: the walk.
-/
import Derived.Test.YtkpckadicjdieaaRNextM
namespace Go.Proofs.Ytkpckadicjdieaa
open Go.RowKit

set_option maxRecDepth 100000 in
set_option maxHeartbeats 8000000 in
theorem rnext_any (n0 : Nat) (us : List Value) (s : St) (ow ix : Int) (w : World) (h : stR.lies n0 w us s) (hok : Ok s) :
    Calls Try.prog 55 #[.agg us.toArray, .int .i64 ow, .int .i64 ix] w fun e w' => e = .returned (.tuple #[.int .i64 (bst ow ix (s.2.2.1 ++ blks s.1)).1, .int .i64 (bst ow ix (s.2.2.1 ++ blks s.1)).2.1, .bool (bst ow ix (s.2.2.1 ++ blks s.1)).2.2]) ∧ Below w.heap.size w w' := by
  obtain ⟨a, c, b, d, e, f, rfl, hS, hH, hO, hN, m1, m2, m3⟩ := st_viewR h
  have HOK : Hid (s.1.length ≤ 64 ∧ s.2.2.1.length ≤ 8 ∧ (∀ p ∈ s.1, p.2.length ≤ 8) ∧ FitsB s.2.2.1) := ⟨hok.slots.2, hok.few, hok.small, by have := hok.few; omega, fun p hp => by have := may_len (List.all_eq_true.1 hok.may p hp); omega⟩
  obtain ⟨l, hd, op, nx⟩ := s
  simp only at hS hH hO hN m1 m2 m3 HOK ⊢
  obtain ⟨post, hpost⟩ : ∃ post : Ending → World → Prop, post = fun e w' => e = .returned (.tuple #[.int .i64 (bst ow ix (op ++ blks l)).1, .int .i64 (bst ow ix (op ++ blks l)).2.1, .bool (bst ow ix (op ++ blks l)).2.2]) ∧ Below w.heap.size w w' := ⟨_, rfl⟩
  have HPo : Hid (∀ ro rx rs w', bst ow ix (op ++ blks l) = (ro, rx, rs) → Below w.heap.size w w' → post (.returned (.tuple #[.int .i64 ro, .int .i64 rx, .bool rs])) w') := fun ro rx rs w' h1 h2 => by rw [hpost]; exact ⟨by rw [h1], h2⟩
  rw [← hpost]
  clear hpost
  obtain ⟨n, hn⟩ : ∃ n, n = l.length := ⟨_, rfl⟩
  obtain ⟨nh, hnh⟩ : ∃ n, n = hd.length := ⟨_, rfl⟩
  obtain ⟨no, hno⟩ : ∃ n, n = op.length := ⟨_, rfl⟩
  have hl1 := run_len Try.underlying22 a n c
  rw [← hn] at hS HOK ⊢
  rw [← hnh] at ⊢
  rw [← hno] at hO HOK ⊢
  have HN : Hid (n = l.length ∧ no = op.length) := ⟨hn, hno⟩
  have HA : Hid (sgsR.lies n0 w [.slice a n c] l) := hS
  have hn64 := HOK.out.1
  obtain ⟨W, hW⟩ : ∃ W, W = w.alloc (.cells #[.slice a n c, .slice b nh d, .slice e no f, .int .i64 nx] 26) := ⟨_, rfl⟩
  have hbW : Below w.heap.size w W := by rw [hW]; exact (Below.refl _ w).alloc (Nat.le_refl _) _
  have hB1 : Box W w.heap.size 26 #[.slice a n c, .slice b nh d, .slice e no f, .int .i64 nx] := by rw [hW]; exact Box.new _ _ _
  have HB : Hid (Below w.heap.size w W ∧ Box W w.heap.size 26 #[.slice a n c, .slice b nh d, .slice e no f, .int .i64 nx]) := ⟨hbW, hB1⟩
  have HC := rown_any n0 (.slice e no f) op W (bksR.below hO hbW) HOK.out.2.2.2
  obtain ⟨z0, z1, z2, z3, -⟩ := hB1.four
  clear h hS hH hO hN m1 m2 m3 hbW hB1 hn hnh hno hok
  go_enter Try.func55, Try.ntmps55
  go_upto_region 1 with fail
  rw [← hW]
  clear hW
  go_wp2_with fail
  clear z0 z1 z2 z3
  refine HC.mono ?_
  rintro e1 w1 ⟨⟨v1, rfl, ho1⟩, hb1⟩
  have HW1 : Hid (Below W.heap.size W w1) := hb1
  have HR0 : Hid (NR w1 W.heap.size v1 op) := NR.of ho1
  clear HC ho1 hb1
  go_wp2
  go_loopw [12, 13] (fun v i wr => ∃ k : Nat, k ≤ n ∧ i = .int .i64 k ∧ Hid (NR wr W.heap.size v (op ++ blks (l.take k)) ∧ Below W.heap.size W wr)) (fun _ i _ => n - (intOf i).toNat)
  case atStart => exact ⟨0, Nat.zero_le _, rfl, by simpa [blks] using HR0.out, HW1.out⟩
  case round =>
    obtain ⟨k, hk, rfl, HJ⟩ := hrel
    obtain ⟨z0, z1, z2, z3, -⟩ := (HB.out.2.below HJ.out.2 HB.out.2.lt).four
    by_cases hlt : k < n
    · obtain ⟨p, hp⟩ := get_lt (l := l) (k := k) (by rw [← HN.out.1]; exact hlt)
      have hki : (k : Int) < (n : Int) := by omega
      have hbr := below_any HB.out.1 HJ.out.2
      obtain ⟨pb, po, px, pcap, hix, c0, c1, hL, _⟩ := sgs_atR (sgsR.below HA.out hbr) k p hp
      obtain ⟨_, _, e0, hLb, hI, _⟩ := sg_viewR hL
      have hLb' : bksR.lies n0 wr [.slice px p.2.length pcap] p.2 := by simp at e0; obtain ⟨rfl, rfl⟩ := e0; exact hLb
      have hlen : (op ++ blks (l.take k)).length + p.2.length ≤ 100000 := by
        have h1 := blks_length (l := l.take k) fun q hq => HOK.out.2.2.1 q (List.mem_of_mem_take hq)
        have h2 := HOK.out.2.2.1 p (List.mem_of_getElem? hp)
        have h3 := HOK.out.2.1
        have h4 := HN.out.2
        rw [List.length_take] at h1
        rw [List.length_append]
        omega
      obtain ⟨v3, w3, hrun, hNR3, hg3, hlo⟩ := HJ.out.1.many hLb' HJ.out.2.size hlen
      have HF : Hid (NR w3 W.heap.size v3 (op ++ blks (l.take (k + 1))) ∧ Below W.heap.size W w3) := ⟨by rw [blks_take hp, ← List.append_assoc]; exact hNR3, HJ.out.2.grown hg3 HJ.out.2.size hlo⟩
      obtain ⟨m, hm⟩ : ∃ m, m = p.2.length := ⟨_, rfl⟩
      rw [← hm] at c1 hrun
      obtain ⟨av, cv, hvv⟩ := HJ.out.1.shape
      obtain ⟨vn, hvn⟩ : ∃ z, z = (op ++ blks (l.take k)).length := ⟨_, rfl⟩
      rw [← hvn] at hvv
      subst hvv
      clear hp hbr hL hLb hLb' hI e0 hlen hNR3 hg3 hlo hm hvn
      go_wp2_with (at_builtin; refine list_app rfl _ _ 24 rfl rfl rfl rfl hrun ?_)
      go_roundw
      case rel => exact ⟨k + 1, by omega, by go_num, HF.out⟩
      case measure => simp [intOf]; omega
    · obtain rfl : k = n := by omega
      obtain ⟨AL, hAL⟩ : ∃ AL, AL = op ++ blks l := ⟨_, rfl⟩
      obtain ⟨wx, hwx⟩ : ∃ U, U = wr := ⟨_, rfl⟩
      have HX : Hid (NR wx W.heap.size u12 AL ∧ Below W.heap.size W wx) := by
        show _ ∧ _
        have := HJ.out
        rw [HN.out.1, List.take_length, ← hAL] at this
        rw [hwx]
        exact this
      have HAL : Hid (AL = op ++ blks l ∧ AL.length ≤ 1000) := ⟨hAL, by
        have h1 := blks_length (l := l) fun q hq => HOK.out.2.2.1 q hq
        have h3 := HOK.out.2.1
        have h4 := HN.out
        rw [hAL, List.length_append]
        omega⟩
      obtain ⟨av, cv, rfl⟩ := HX.out.1.shape
      obtain ⟨am, ham⟩ : ∃ z, z = AL.length := ⟨_, rfl⟩
      have HAM : Hid (am = AL.length ∧ am ≤ 1000) := ⟨ham, by rw [ham]; exact HAL.out.2⟩
      rw [← ham] at HX ⊢
      have ham' := HAM.out.2
      have hl5 := run_len Try.underlying24 av am cv
      rw [← hwx]
      have HXW : Hid (Box wx w.heap.size 26 #[.slice a k c, .slice b nh d, .slice e no f, .int .i64 nx]) := HB.out.2.below HX.out.2 HB.out.2.lt
      clear HJ z0 z1 z2 z3 hwx ham hAL
      obtain ⟨z0, z1, z2, z3, -⟩ := HXW.out.four
      go_wp2
      clear z0 z1 z2 z3
      go_loopw [9, 10, 11, 14] (fun s9 s10 s11 i wr => ∃ (j : Nat) (ro rx : Int) (rs : Bool), j ≤ am ∧ i = .int .i64 j ∧ s9 = .int .i64 ro ∧ s10 = .int .i64 rx ∧ s11 = .bool rs ∧ Hid (bst ow ix (AL.take j) = (ro, rx, rs) ∧ Below wx.heap.size wx wr)) (fun _ _ _ i _ => am - (intOf i).toNat)
      case atStart => exact ⟨0, 0, 0, false, Nat.zero_le _, rfl, rfl, rfl, rfl, rfl, Below.refl _ _⟩
      case round =>
        obtain ⟨j, ro, rx, rs, hj, rfl, rfl, rfl, rfl, HJ⟩ := hrel
        by_cases hjm : j < am
        · obtain ⟨t, ht⟩ := get_lt (l := AL) (k := j) (by rw [← HAM.out.1]; exact hjm)
          obtain ⟨tb, tof, ta, tm, tc, hixt, g0, g1, g2⟩ := (HX.out.1.below HJ.out.2).at j t ht
          have hji : (j : Int) < (am : Int) := by omega
          have HBT : Hid (bst ow ix (AL.take (j + 1)) = bstep ow ix (bst ow ix (AL.take j)) t) := bst_take ht
          obtain ⟨V, hV⟩ : ∃ V, V = wr.alloc (.cells #[.int .i64 t.1, .int .i64 t.2.1, .slice ta tm tc] 29) := ⟨_, rfl⟩
          have HVB : Hid (Below wx.heap.size wx V) := by rw [hV]; exact HJ.out.2.alloc HJ.out.2.size _
          have hxV : Box V wr.heap.size 29 #[.int .i64 t.1, .int .i64 t.2.1, .slice ta tm tc] := by rw [hV]; exact Box.new _ _ _
          obtain ⟨v0, v1', v2, -⟩ := hxV.three
          clear ht hxV
          obtain ⟨t1, t2, td⟩ := t
          simp only at g0 g1 v0 v1' hV
          go_upto_region 11 with fail
          rw [← hV]
          clear hV g0 g1 g2 hixt
          by_cases h1 : t1 < ow
          · have HCA : Hid (cand ow ix (t1, t2, td) = false) := show _ = _ by simp [cand, h1]
            have HF : Hid (bst ow ix (AL.take (j + 1)) = (ro, rx, rs) ∧ Below wx.heap.size wx V) := ⟨by rw [HBT.out, HJ.out.1]; unfold bstep; rw [if_neg (by rw [HCA.out]; simp)], HVB.out⟩
            go_wp2
            go_roundw
            case rel => exact ⟨j + 1, ro, rx, rs, by omega, by go_num, rfl, rfl, rfl, HF.out⟩
            case measure => simp [intOf]; omega
          · have h1d : decide (t1 < ow) = false := decide_eq_false h1
            by_cases h2 : t1 = ow
            · subst h2
              by_cases h3 : t2 ≤ ix
              · by_cases h4 : 0 < t1
                · have HCA : Hid (cand t1 ix (t1, t2, td) = false) := show _ = _ by simp [cand, h3, h4]
                  have HF : Hid (bst t1 ix (AL.take (j + 1)) = (ro, rx, rs) ∧ Below wx.heap.size wx V) := ⟨by rw [HBT.out, HJ.out.1]; unfold bstep; rw [if_neg (by rw [HCA.out]; simp)], HVB.out⟩
                  go_wp2
                  go_roundw
                  case rel => exact ⟨j + 1, ro, rx, rs, by omega, by go_num, rfl, rfl, rfl, HF.out⟩
                  case measure => simp [intOf]; omega
                · have h4d : decide (0 < t1) = false := decide_eq_false h4
                  have HCA : Hid (cand t1 ix (t1, t2, td) = true) := show _ = _ by simp [cand, h4]
                  cases rs with
                  | false =>
                    have HF : Hid (bst t1 ix (AL.take (j + 1)) = (t1, t2, true) ∧ ∀ r, Below wx.heap.size wx (V.drewN r)) := ⟨by rw [HBT.out, HJ.out.1]; unfold bstep; rw [if_pos HCA.out, if_pos (by exact .inl rfl)], fun r => below_drewN HVB.out r⟩
                    go_wp2
                    go_quiet (fail)
                    go_wp2
                    go_roundw
                    case rel => exact ⟨j + 1, t1, t2, true, by omega, by go_num, rfl, rfl, rfl, HF.out.1, HF.out.2 _⟩
                    case measure => simp [intOf]; omega
                  | true =>
                    by_cases h5 : t1 < ro
                    · have HF : Hid (bst t1 ix (AL.take (j + 1)) = (t1, t2, true) ∧ ∀ r, Below wx.heap.size wx (V.drewN r)) := ⟨by rw [HBT.out, HJ.out.1]; unfold bstep; rw [if_pos HCA.out, if_pos (by exact .inr (.inl h5))], fun r => below_drewN HVB.out r⟩
                      go_wp2
                      go_quiet (fail)
                      go_wp2
                      go_roundw
                      case rel => exact ⟨j + 1, t1, t2, true, by omega, by go_num, rfl, rfl, rfl, HF.out.1, HF.out.2 _⟩
                      case measure => simp [intOf]; omega
                    · have h5d : decide (t1 < ro) = false := decide_eq_false h5
                      by_cases h6 : t1 = ro
                      · subst h6
                        by_cases h7 : t2 < rx
                        · have HF : Hid (bst t1 ix (AL.take (j + 1)) = (t1, t2, true) ∧ ∀ r, Below wx.heap.size wx (V.drewN r)) := ⟨by rw [HBT.out, HJ.out.1]; unfold bstep; rw [if_pos HCA.out, if_pos (by exact .inr (.inr ⟨rfl, h7⟩))], fun r => below_drewN HVB.out r⟩
                          go_wp2
                          go_quiet (fail)
                          go_wp2
                          go_roundw
                          case rel => exact ⟨j + 1, t1, t2, true, by omega, by go_num, rfl, rfl, rfl, HF.out.1, HF.out.2 _⟩
                          case measure => simp [intOf]; omega
                        · have h7d : decide (t2 < rx) = false := decide_eq_false h7
                          have HF : Hid (bst t1 ix (AL.take (j + 1)) = (t1, rx, true) ∧ Below wx.heap.size wx V) := ⟨by rw [HBT.out, HJ.out.1]; unfold bstep; rw [if_pos HCA.out, if_neg (by simp [h7])], HVB.out⟩
                          go_wp2
                          go_roundw
                          case rel => exact ⟨j + 1, t1, rx, true, by omega, by go_num, rfl, rfl, rfl, HF.out⟩
                          case measure => simp [intOf]; omega
                      · have h6i : (t1 == ro) = false := by simp [h6]
                        have HF : Hid (bst t1 ix (AL.take (j + 1)) = (ro, rx, true) ∧ Below wx.heap.size wx V) := ⟨by rw [HBT.out, HJ.out.1]; unfold bstep; rw [if_pos HCA.out, if_neg (by simp [h5, h6])], HVB.out⟩
                        go_wp2
                        go_roundw
                        case rel => exact ⟨j + 1, ro, rx, true, by omega, by go_num, rfl, rfl, rfl, HF.out⟩
                        case measure => simp [intOf]; omega
              · have h3d : decide (t2 ≤ ix) = false := decide_eq_false h3
                have HCA : Hid (cand t1 ix (t1, t2, td) = true) := show _ = _ by simp [cand, h3]
                cases rs with
                | false =>
                  have HF : Hid (bst t1 ix (AL.take (j + 1)) = (t1, t2, true) ∧ ∀ r, Below wx.heap.size wx (V.drewN r)) := ⟨by rw [HBT.out, HJ.out.1]; unfold bstep; rw [if_pos HCA.out, if_pos (by exact .inl rfl)], fun r => below_drewN HVB.out r⟩
                  go_wp2
                  go_quiet (fail)
                  go_wp2
                  go_roundw
                  case rel => exact ⟨j + 1, t1, t2, true, by omega, by go_num, rfl, rfl, rfl, HF.out.1, HF.out.2 _⟩
                  case measure => simp [intOf]; omega
                | true =>
                  by_cases h5 : t1 < ro
                  · have HF : Hid (bst t1 ix (AL.take (j + 1)) = (t1, t2, true) ∧ ∀ r, Below wx.heap.size wx (V.drewN r)) := ⟨by rw [HBT.out, HJ.out.1]; unfold bstep; rw [if_pos HCA.out, if_pos (by exact .inr (.inl h5))], fun r => below_drewN HVB.out r⟩
                    go_wp2
                    go_quiet (fail)
                    go_wp2
                    go_roundw
                    case rel => exact ⟨j + 1, t1, t2, true, by omega, by go_num, rfl, rfl, rfl, HF.out.1, HF.out.2 _⟩
                    case measure => simp [intOf]; omega
                  · have h5d : decide (t1 < ro) = false := decide_eq_false h5
                    by_cases h6 : t1 = ro
                    · subst h6
                      by_cases h7 : t2 < rx
                      · have HF : Hid (bst t1 ix (AL.take (j + 1)) = (t1, t2, true) ∧ ∀ r, Below wx.heap.size wx (V.drewN r)) := ⟨by rw [HBT.out, HJ.out.1]; unfold bstep; rw [if_pos HCA.out, if_pos (by exact .inr (.inr ⟨rfl, h7⟩))], fun r => below_drewN HVB.out r⟩
                        go_wp2
                        go_quiet (fail)
                        go_wp2
                        go_roundw
                        case rel => exact ⟨j + 1, t1, t2, true, by omega, by go_num, rfl, rfl, rfl, HF.out.1, HF.out.2 _⟩
                        case measure => simp [intOf]; omega
                      · have h7d : decide (t2 < rx) = false := decide_eq_false h7
                        have HF : Hid (bst t1 ix (AL.take (j + 1)) = (t1, rx, true) ∧ Below wx.heap.size wx V) := ⟨by rw [HBT.out, HJ.out.1]; unfold bstep; rw [if_pos HCA.out, if_neg (by simp [h7])], HVB.out⟩
                        go_wp2
                        go_roundw
                        case rel => exact ⟨j + 1, t1, rx, true, by omega, by go_num, rfl, rfl, rfl, HF.out⟩
                        case measure => simp [intOf]; omega
                    · have h6i : (t1 == ro) = false := by simp [h6]
                      have HF : Hid (bst t1 ix (AL.take (j + 1)) = (ro, rx, true) ∧ Below wx.heap.size wx V) := ⟨by rw [HBT.out, HJ.out.1]; unfold bstep; rw [if_pos HCA.out, if_neg (by simp [h5, h6])], HVB.out⟩
                      go_wp2
                      go_roundw
                      case rel => exact ⟨j + 1, ro, rx, true, by omega, by go_num, rfl, rfl, rfl, HF.out⟩
                      case measure => simp [intOf]; omega
            · have h2b : (t1 == ow) = false := by simp [h2]
              have HCA : Hid (cand ow ix (t1, t2, td) = true) := show _ = _ by simp [cand, h1, h2]
              cases rs with
              | false =>
                have HF : Hid (bst ow ix (AL.take (j + 1)) = (t1, t2, true) ∧ ∀ r, Below wx.heap.size wx (V.drewN r)) := ⟨by rw [HBT.out, HJ.out.1]; unfold bstep; rw [if_pos HCA.out, if_pos (by exact .inl rfl)], fun r => below_drewN HVB.out r⟩
                go_wp2
                go_quiet (fail)
                go_wp2
                go_roundw
                case rel => exact ⟨j + 1, t1, t2, true, by omega, by go_num, rfl, rfl, rfl, HF.out.1, HF.out.2 _⟩
                case measure => simp [intOf]; omega
              | true =>
                by_cases h5 : t1 < ro
                · have HF : Hid (bst ow ix (AL.take (j + 1)) = (t1, t2, true) ∧ ∀ r, Below wx.heap.size wx (V.drewN r)) := ⟨by rw [HBT.out, HJ.out.1]; unfold bstep; rw [if_pos HCA.out, if_pos (by exact .inr (.inl h5))], fun r => below_drewN HVB.out r⟩
                  go_wp2
                  go_quiet (fail)
                  go_wp2
                  go_roundw
                  case rel => exact ⟨j + 1, t1, t2, true, by omega, by go_num, rfl, rfl, rfl, HF.out.1, HF.out.2 _⟩
                  case measure => simp [intOf]; omega
                · have h5d : decide (t1 < ro) = false := decide_eq_false h5
                  by_cases h6 : t1 = ro
                  · subst h6
                    by_cases h7 : t2 < rx
                    · have HF : Hid (bst ow ix (AL.take (j + 1)) = (t1, t2, true) ∧ ∀ r, Below wx.heap.size wx (V.drewN r)) := ⟨by rw [HBT.out, HJ.out.1]; unfold bstep; rw [if_pos HCA.out, if_pos (by exact .inr (.inr ⟨rfl, h7⟩))], fun r => below_drewN HVB.out r⟩
                      go_wp2
                      go_quiet (fail)
                      go_wp2
                      go_roundw
                      case rel => exact ⟨j + 1, t1, t2, true, by omega, by go_num, rfl, rfl, rfl, HF.out.1, HF.out.2 _⟩
                      case measure => simp [intOf]; omega
                    · have h7d : decide (t2 < rx) = false := decide_eq_false h7
                      have HF : Hid (bst ow ix (AL.take (j + 1)) = (t1, rx, true) ∧ Below wx.heap.size wx V) := ⟨by rw [HBT.out, HJ.out.1]; unfold bstep; rw [if_pos HCA.out, if_neg (by simp [h7])], HVB.out⟩
                      go_wp2
                      go_roundw
                      case rel => exact ⟨j + 1, t1, rx, true, by omega, by go_num, rfl, rfl, rfl, HF.out⟩
                      case measure => simp [intOf]; omega
                  · have h6i : (t1 == ro) = false := by simp [h6]
                    have HF : Hid (bst ow ix (AL.take (j + 1)) = (ro, rx, true) ∧ Below wx.heap.size wx V) := ⟨by rw [HBT.out, HJ.out.1]; unfold bstep; rw [if_pos HCA.out, if_neg (by simp [h5, h6])], HVB.out⟩
                    go_wp2
                    go_roundw
                    case rel => exact ⟨j + 1, ro, rx, true, by omega, by go_num, rfl, rfl, rfl, HF.out⟩
                    case measure => simp [intOf]; omega
        · obtain rfl : j = am := by omega
          have HE : Hid (post (.returned (.tuple #[.int .i64 ro, .int .i64 rx, .bool rs])) wr) := HPo.out _ _ _ _ (by have := HJ.out.1; rw [HAM.out.1, List.take_length, HAL.out.1] at this; exact this) (below_any (below_any HB.out.1 HX.out.2) HJ.out.2)
          go_wp2
          go_ret3
          exact HE.out

end Go.Proofs.Ytkpckadicjdieaa
