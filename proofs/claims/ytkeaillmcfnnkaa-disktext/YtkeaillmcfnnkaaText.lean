/-
  DiskText, proved: for every two numbers and octets (as great as the form reads them): the call returns true, and changes nothing that was in memory. No condition of its own.
-/
import Derived.Test.YtkeaillmcfnnkaaTextMath
import Derived.Test.YtkeaillmcfnnkaaOpen
import Derived.Test.YtkeaillmcfnnkaaSame
namespace Go.Proofs.Ytkeaillmcfnnkaa
open Go.RowKit
theorem tmod_bounds (x : Int) (m : Nat) (hm : 0 < m) : -(m : Int) < x.tmod m ∧ x.tmod m < m := by
  constructor
  · have := Int.lt_tmod_of_pos x (show (0 : Int) < m by omega)
    omega
  · exact Int.tmod_lt_of_pos x (by omega)

theorem mod_pos (x : Int) (m : Nat) (hm : 0 < m) (hb : m ≤ 60) : ∃ r : Nat, r < m ∧ (wrap64 (x.tmod m + m)).tmod m = (r : Int) := by
  obtain ⟨h1, h2⟩ := tmod_bounds x m hm
  have e : wrap64 (x.tmod m + m) = x.tmod m + m := wrap64_in' _ (by omega)
  rw [e, Int.tmod_eq_emod_of_nonneg (by omega)]
  have h3 := Int.emod_nonneg (x.tmod m + m) (show (m : Int) ≠ 0 by omega)
  have h4 := Int.emod_lt_of_pos (x.tmod m + m) (show (0 : Int) < m by omega)
  exact ⟨((x.tmod m + m) % m).toNat, by omega, by omega⟩

theorem mod20 (x : Int) : ∃ N : Nat, 1 ≤ N ∧ N ≤ 20 ∧ wrap64 (1 + (wrap64 (x.tmod 20 + 20)).tmod 20) = (N : Int) := by
  obtain ⟨r, h1, h2⟩ := mod_pos x 20 (by omega) (by omega)
  have h3 : (wrap64 (x.tmod 20 + 20)).tmod 20 = (r : Int) := h2
  refine ⟨r + 1, by omega, by omega, ?_⟩
  rw [h3]
  have := wrap64_in' (1 + (r : Int)) (by omega)
  rw [this]
  omega
end Go.Proofs.Ytkeaillmcfnnkaa
namespace Go.Proofs.Ytkeaillmcfnnkaa.diskText
open Go.ChangeShapes Go.WideShapes Go.ChangeAt Go.RowKit
set_option linter.unusedVariables false

set_option maxHeartbeats 1000000 in
theorem walk (n0 s0 : Int) (v : Value) (d : List Int) (w : World) (hv : Arg 0 w v d) (hs : d.length ≤ 140737488351232) :
    Calls Try.prog 7 #[.int .i64 n0, .int .i64 s0, v] w fun e w' => e = .returned (.bool true) ∧ Below w.heap.size w w' := by
  have HV : Hid (Arg 0 w v d) := hv
  obtain ⟨a, cap, rfl, _⟩ := hv.shape
  obtain ⟨N, hN1, hN2, hN⟩ := mod20 n0
  obtain ⟨sn, hsn, hS⟩ := mod_pos s0 N (by omega) (by omega)
  have hN0 : ¬ (N : Int) = 0 := by omega
  clear hv
  go_enter Try.func7, Try.ntmps7
  go_wp2_with fail
  refine (alive_any w).mono ?_
  rintro e w1 ⟨rfl, hb1⟩
  go_wp2_with fail
  refine (new_any N w1 hN1 (by omega)).mono ?_
  rintro e w2 ⟨vg, rfl, hG, hb2⟩
  simp only [hN]
  clear hN hS hN0
  have hD2 : Disk w1.heap.size w2 (.agg #[vg, .slice none 0 0]) ⟨List.replicate N zeros, []⟩ := hG.disk
  obtain ⟨ga, gc, rfl, _⟩ := hG.lists.shape
  rw [List.length_replicate] at hD2 ⊢
  obtain ⟨W2, hW2⟩ : ∃ W, W = w2.alloc (.cells #[.slice ga N gc, .slice none 0 0] 30) := ⟨_, rfl⟩
  have hbW2 : Below w2.heap.size w2 W2 := by rw [hW2]; exact (Below.refl _ _).alloc (Nat.le_refl _) _
  have HW2 : Hid (Disk w1.heap.size W2 (.agg #[.slice ga N gc, .slice none 0 0]) ⟨List.replicate N zeros, []⟩ ∧ Below w.heap.size w W2 ∧ Box W2 w2.heap.size 30 (.slice ga N gc) (.slice none 0 0)) := ⟨hD2.below hbW2, below_any (below_any hb1 hb2) hbW2, by rw [hW2]; exact Box.new _ _ _ _⟩
  obtain ⟨kn, hkn⟩ : ∃ k, k = need d := ⟨_, rfl⟩
  have HKN : Hid (kn = need d ∧ kn = (d.length + 63) / 64) := ⟨hkn, by rw [hkn]; rfl⟩
  obtain ⟨dl, hdl⟩ : ∃ x, x = d.length := ⟨_, rfl⟩
  have HDL : Hid (dl = d.length) := hdl
  have hk1 : IntKind.i64.wrap ((dl : Int) + 63) = (dl : Int) + 63 := wrap_in _ (by omega)
  have hk2 : Int.tdiv ((dl : Int) + 63) 64 = (kn : Int) := by
    rw [Int.tdiv_eq_ediv_of_nonneg (by omega)]; have := HKN.out; omega
  have hk3 : wrap64 (kn : Int) = (kn : Int) := wrap64_in' _ (by have := HKN.out; omega)
  have hl0 := run_len Try.underlying26 a dl cap
  rw [← hdl] at HV ⊢
  have g0 := HW2.out.2.2.cell0
  have g1 := HW2.out.2.2.cell1
  rw [hW2] at g0 g1
  clear hG hD2 hb1 hb2 hbW2 hkn hdl
  go_wp2_with fail
  rw [← hW2]
  simp only [hk3]
  clear hk1 hk2 hk3
  have hput := putAll_any w1.heap.size 0 _ _ ⟨List.replicate N zeros, []⟩ (sn : Int) d W2 HW2.out.1 (by omega) (HV.out.below HW2.out.2.1) (by have := HDL.out; omega)
  have hpa : paerr ⟨List.replicate N zeros, []⟩ (sn : Int) d = if N < sn + kn then 41 else 0 := by
    have hc : chk ⟨List.replicate N zeros, []⟩ = true := by
      have := tx_chk N 0 [] hN1 hN2 (by show 0 + 0 ≤ N; omega)
      exact this
    unfold paerr
    rw [if_neg (by rw [hc]; simp), ← HKN.out.1]
    by_cases h : N < sn + kn
    · rw [if_pos h, if_pos]
      simp [reach]
      omega
    · rw [if_neg h, if_neg, if_neg]
      · simp; omega
      · simp [reach]; omega
  obtain ⟨pe, hpe⟩ : ∃ x, x = paerr ⟨List.replicate N zeros, []⟩ (sn : Int) d := ⟨_, rfl⟩
  rw [← hpe] at hpa hput
  have HPE : Hid (pe = if N < sn + kn then 41 else 0) := hpa
  have HPP : Hid (pe = paerr ⟨List.replicate N zeros, []⟩ (sn : Int) d) := hpe
  refine hput.mono ?_
  rintro e w3 ⟨v3, rfl, hO3, hb3⟩
  clear hput hpe hpa g0 g1
  have hD3 := hO3.disk
  obtain ⟨b1, d1, b2, d2, rfl, _, _⟩ := hD3.shape
  obtain ⟨tn, htn⟩ : ∃ x, x = (past ⟨List.replicate N zeros, []⟩ (sn : Int) d).secs.length := ⟨_, rfl⟩
  obtain ⟨tm, htm⟩ : ∃ x, x = (past ⟨List.replicate N zeros, []⟩ (sn : Int) d).cache.length := ⟨_, rfl⟩
  rw [← htn, ← htm] at hD3 ⊢
  have HD3 : Hid (Disk W2.heap.size w3 (.agg #[.slice b1 tn d1, .slice b2 tm d2]) (past ⟨List.replicate N zeros, []⟩ (sn : Int) d) ∧ Below w.heap.size w w3) := ⟨hD3, below_any HW2.out.2.1 hb3⟩
  clear hO3 hb3 hD3 htn htm hW2
  have HWS : Hid (wrap64 ((sn : Int) + (kn : Int)) = (sn : Int) + (kn : Int)) := wrap64_in' _ (by have := HKN.out; omega)
  by_cases hbig : (N : Int) < (sn : Int) + (kn : Int)
  · have he : pe = 41 := by rw [HPE.out, if_pos (by omega)]
    subst he
    have hws2 : (N : Int) < wrap64 ((sn : Int) + (kn : Int)) := by rw [HWS.out]; exact hbig
    have hb3' : Below w.heap.size w (w3.alloc (.cells #[.slice b1 tn d1, .slice b2 tm d2] 30)) := HD3.out.2.alloc HD3.out.2.size _
    have HB : Hid (Below w.heap.size w (w3.alloc (.cells #[.slice b1 tn d1, .slice b2 tm d2] 30))) := hb3'
    clear hb3'
    go_wp2_with (go_at_call 20; refine (num_any _ _).mono ?_; rintro e w6 ⟨rfl, rfl⟩)
    go_ret
    exact ⟨rfl, HB.out⟩
  have he : pe = 0 := by rw [HPE.out, if_neg (by omega)]
  have hT : past ⟨List.replicate N zeros, []⟩ (sn : Int) d = Tx N sn d := by
    rw [past, if_pos (by rw [← HPP.out, he])]; rfl
  rw [hT] at HD3
  subst he
  have HWS2 : Hid (¬ (N : Int) < wrap64 ((sn : Int) + (kn : Int))) := by show ¬ _; rw [HWS.out]; exact hbig
  have HFT : Hid (1 ≤ N ∧ N ≤ 20 ∧ sn + need d ≤ N ∧ sn + kn ≤ N) := ⟨hN1, hN2, by rw [← HKN.out.1]; omega, by omega⟩
  obtain ⟨W3, hW3⟩ : ∃ W, W = w3.alloc (.cells #[.slice b1 tn d1, .slice b2 tm d2] 30) := ⟨_, rfl⟩
  have hbW3 : Below w3.heap.size w3 W3 := by rw [hW3]; exact (Below.refl _ _).alloc (Nat.le_refl _) _
  have HW3 : Hid (Disk W2.heap.size W3 (.agg #[.slice b1 tn d1, .slice b2 tm d2]) (Tx N sn d) ∧ Below w.heap.size w W3 ∧ Box W3 w3.heap.size 30 (.slice b1 tn d1) (.slice b2 tm d2)) := ⟨HD3.out.1.below hbW3, below_any HD3.out.2 hbW3, by rw [hW3]; exact Box.new _ _ _ _⟩
  have hchk := tx_chk N sn d HFT.out.1 HFT.out.2.1 HFT.out.2.2.1
  have hge : ∀ s k : Nat, s + k ≤ N → gerr (Tx N sn d) (s : Int) (k : Int) = 0 ∧ gout (Tx N sn d) (s : Int) (k : Int) = window (full (Tx N sn d)) s k ∧ (window (full (Tx N sn d)) s k).length = 64 * k := fun s k hsk => by
    have e1 : gerr (Tx N sn d) (s : Int) (k : Int) = 0 := by
      rw [gerr, if_neg (by rw [hchk]; simp), if_neg]
      have : (Tx N sn d).secs.length = N := by simp [Tx]
      rw [this]
      simp [reach]; omega
    refine ⟨e1, by rw [gout, if_pos e1]; simp, window_length _ _ _ (full_64 hchk _) (by rw [tx_length]; omega)⟩
  have hget := getAll_any W2.heap.size _ (Tx N sn d) (sn : Int) (kn : Int) W3 HW3.out.1 (by omega)
  rw [(hge sn kn HFT.out.2.2.2).1, (hge sn kn HFT.out.2.2.2).2.1, (hge sn kn HFT.out.2.2.2).2.2] at hget
  have g0 := HW3.out.2.2.cell0
  have g1 := HW3.out.2.2.cell1
  rw [hW3] at g0 g1
  have HGE : Hid (gerr (Tx N sn d) ((0 : Nat) : Int) (N : Int) = 0 ∧ gout (Tx N sn d) ((0 : Nat) : Int) (N : Int) = window (full (Tx N sn d)) 0 N ∧ (window (full (Tx N sn d)) 0 N).length = 64 * N) := hge 0 N (by omega)
  have HWL : Hid ((window (full (Tx N sn d)) sn kn).length = 64 * kn) := (hge sn kn HFT.out.2.2.2).2.2
  clear hbW3 hT hge
  have hws2 := HWS2.out
  go_wp2_with (go_at_call 20; refine (num_any _ _).mono ?_; rintro e w6 ⟨rfl, rfl⟩)
  rw [← hW3]
  refine hget.mono ?_
  rintro e w4 ⟨v4, rfl, hO4, hb4⟩
  clear g0 g1 hget hW3 hws2 hchk
  obtain ⟨A4, hA4⟩ : ∃ A, A = 64 * kn := ⟨_, rfl⟩
  rw [← hA4] at hO4
  obtain ⟨x4, c4, rfl⟩ := own_shape hO4
  have hB4 := HW3.out.2.2.below hb4 HW3.out.2.2.lt
  have HW4 : Hid (Disk W2.heap.size w4 (.agg #[.slice b1 tn d1, .slice b2 tm d2]) (Tx N sn d) ∧ Below w.heap.size w w4) := ⟨HW3.out.1.below hb4, below_any HW3.out.2.1 hb4⟩
  have g0 := hB4.cell0
  have g1 := hB4.cell1
  have hget := getAll_any W2.heap.size _ (Tx N sn d) (0 : Int) (N : Int) w4 HW4.out.1 (by omega)
  rw [show gerr (Tx N sn d) (0 : Int) (N : Int) = 0 from HGE.out.1, show gout (Tx N sn d) (0 : Int) (N : Int) = window (full (Tx N sn d)) 0 N from HGE.out.2.1, HGE.out.2.2] at hget
  obtain ⟨A5, hA5⟩ : ∃ A, A = 64 * N := ⟨_, rfl⟩
  rw [← hA5] at hget
  have HO4 : Hid (w4.ownsRow W3.heap.size 5 1 (.slice x4 A4 c4) A4 ((window (full (Tx N sn d)) sn kn).map (Value.int .u8))) := hO4
  have HA : Hid (A4 = 64 * kn ∧ A5 = 64 * N) := ⟨hA4, hA5⟩
  clear hO4 hb4 hB4 hA4 hA5
  go_wp2_with fail
  refine hget.mono ?_
  rintro e w5 ⟨v5, rfl, hO5, hb5⟩
  clear g0 g1 hget
  obtain ⟨x5, c5, rfl⟩ := own_shape hO5
  have hoctW : ∀ s k, Oct (window (full (Tx N sn d)) s k) := fun s k => oct_window (oct_stand HW4.out.1.oct _) s k
  have hArg5 : Arg 0 w5 (.slice x5 A5 c5) (window (full (Tx N sn d)) 0 N) := by
    refine Arg.weaken (.own (n0 := w4.heap.size) ?_ (hoctW _ _)) (Nat.zero_le _)
    rw [HGE.out.2.2, ← HA.out.2]; exact hO5
  have hArg4 : Arg 0 w5 (.slice x4 A4 c4) (window (full (Tx N sn d)) sn kn) := by
    refine Arg.weaken (.own (n0 := W3.heap.size) ?_ (hoctW _ _)) (Nat.zero_le _)
    rw [HWL.out, ← HA.out.1]; exact own_below HO4.out hb5
  have HB5 : Hid (Below w.heap.size w w5) := below_any HW4.out.2 hb5
  obtain ⟨vc, hAc, hcut⟩ := hArg4.ahead dl (by rw [HWL.out]; have := HKN.out; have := HDL.out; omega)
  have htake : (window (full (Tx N sn d)) sn kn).take dl = d := by
    have hlen : ((window (full (Tx N sn d)) sn kn).take dl).length = d.length := by rw [List.length_take, HWL.out]; have := HKN.out; have := HDL.out; omega
    refine alike hlen fun i hi => ?_
    have hi' : i < dl := by rw [hlen, ← HDL.out] at hi; exact hi
    have := tx_get N sn d HFT.out.1 HFT.out.2.1 HFT.out.2.2.1 sn kn i HFT.out.2.2.2 (by have := HKN.out; have := HDL.out; omega)
    rw [if_pos (by have := HKN.out; have := HDL.out; omega), show 64 * sn + i - 64 * sn = i by omega] at this
    rw [← this]
    simp only [List.getD, List.getElem?_take, if_pos hi']
  rw [htake] at hAc
  have hsame := same_any 0 0 vc (.slice a dl cap) d d w5 hAc (HV.out.below HB5.out)
  rw [show decide (d = d) = true by simp] at hsame
  have HSM : Hid (Calls Try.prog 21 #[vc, .slice a dl cap] w5 fun e w' => e = .returned (.bool true) ∧ ∃ q, w' = w5.drewN q) := hsame
  have hl4 := run_len Try.underlying26 x4 A4 c4
  have hl5 := run_len Try.underlying26 x5 A5 c5
  have hm4 : IntKind.i64.wrap (64 * (kn : Int)) = (A4 : Int) := wrap_to _ _ (by have := HA.out; omega) (by have := HKN.out; omega)
  have hm5 : IntKind.i64.wrap (64 * (N : Int)) = (A5 : Int) := wrap_to _ _ (by have := HA.out; omega) (by clear hm4; omega)
  have HG5 : Hid (Arg 0 w5 (.slice x5 A5 c5) (window (full (Tx N sn d)) 0 N)) := hArg5
  clear hO5 hb5 hArg4 hArg5 hAc hsame htake hoctW
  go_wp2_with (first | (go_at_call 20; refine (num_any _ _).mono ?_; rintro e w6 ⟨rfl, rfl⟩) | (go_at_call 21; refine HSM.out.mono ?_; rintro e w6 ⟨rfl, q, rfl⟩))
  obtain ⟨W6, hW6⟩ : ∃ W, W = w5.drewN q := ⟨_, rfl⟩
  have HA6 : Hid (Arg 0 W6 (.slice x5 A5 c5) (window (full (Tx N sn d)) 0 N)) := by
    show Arg _ _ _ _
    rw [hW6]; exact HG5.out.below (below_drewN (Below.refl _ _) q)
  have HB6 : Hid (Below w.heap.size w W6) := by
    show Below _ _ _
    rw [hW6]; exact below_drewN HB5.out q
  rw [← hW6]
  obtain ⟨Q, hQ⟩ : ∃ Q, Q = 64 * sn := ⟨_, rfl⟩
  have HQ : Hid (Q = 64 * sn) := hQ
  have HMQ : Hid (IntKind.i64.wrap (64 * (sn : Int)) = (Q : Int)) := wrap_to _ _ (by clear hm4 hm5; omega) (by clear hm4 hm5; omega)
  obtain ⟨i5, hi5, _, hz5, _⟩ := info_parts Try.info5
  clear hW6 hm4 hm5 hQ hcut
  have hA5b : A5 ≤ 1280 := by have := HA.out; have := HFT.out; omega
  go_loopw [16] (fun i wr => ∃ k : Nat, k ≤ A5 ∧ i = .int .i64 k ∧ wr = W6) (fun i _ => A5 - (intOf i).toNat)
  case atStart => exact ⟨0, Nat.zero_le _, rfl, rfl⟩
  case round =>
    obtain ⟨k, hk, rfl, rfl⟩ := hrel
    by_cases hlt : k < A5
    · obtain ⟨b, o, cp, hv5, _, _, _, hce⟩ := HA6.out.1.place (by omega) k (by rw [HGE.out.2.2, ← HA.out.2]; exact hlt)
      obtain ⟨rfl, _, rfl⟩ := Value.slice.inj hv5
      have hce0 := hce 0 (.int .u8 ((window (full (Tx N sn d)) 0 N).getD k 0)) (by
        have : k < (window (full (Tx N sn d)) 0 N).length := by rw [HGE.out.2.2, ← HA.out.2]; exact hlt
        simp [this])
      rw [Nat.mul_one, Nat.add_zero] at hce0
      have hix : ∀ W, (Instr.indexAt 26 (.slice (some ⟨b, o, none⟩) A5 c5) (.int .i64 (k : Int))).run Try.prog W = .ok (.pointer (some ⟨b, o + k, none⟩)) W := fun W => by
        have := run_index Try.underlying26 hi5 hz5 b o A5 c5 k hlt W
        rwa [Nat.mul_one] at this
      have hval := tx_get N sn d HFT.out.1 HFT.out.2.1 HFT.out.2.2.1 0 N k (by have := HFT.out; omega) (by have := HA.out; omega)
      obtain ⟨x, hx⟩ : ∃ x, x = (window (full (Tx N sn d)) 0 N).getD k 0 := ⟨_, rfl⟩
      rw [← hx] at hce0 hval
      have HXV : Hid (x = if 64 * sn ≤ 64 * 0 + k ∧ 64 * 0 + k < 64 * (sn + need d) then d.getD (64 * 0 + k - 64 * sn) 0 else 0) := hval
      have hki : (k : Int) < (A5 : Int) := by omega
      have hsub : IntKind.i64.wrap ((k : Int) - (Q : Int)) = (k : Int) - (Q : Int) := wrap_in _ (by have := HA.out; have := HQ.out; omega)
      have hmq := HMQ.out
      clear hv5 hce hval hx
      by_cases h1 : (k : Int) - (Q : Int) < 0
      · have hx0 : x = 0 := by rw [HXV.out, if_neg (by have := HQ.out; clear hsub hmq; omega)]
        subst hx0
        go_wp2
        go_roundw
        case rel => clear hsub hmq; exact ⟨k + 1, by omega, by go_num, trivial⟩
        case measure => clear hsub hmq; simp [intOf]; omega
      by_cases h2 : (dl : Int) ≤ (k : Int) - (Q : Int)
      · have hx0 : x = 0 := by
          rw [HXV.out]
          split
          · simp only [List.getD]
            rw [List.getElem?_eq_none (by have := HQ.out; have := HDL.out; clear hsub hmq; omega)]
            rfl
          · rfl
        subst hx0
        go_wp2
        go_roundw
        case rel => clear hsub hmq; exact ⟨k + 1, by omega, by go_num, trivial⟩
        case measure => clear hsub hmq; simp [intOf]; omega
      · go_wp2
        go_roundw
        case rel => clear hsub hmq; exact ⟨k + 1, by omega, by go_num, trivial⟩
        case measure => clear hsub hmq; simp [intOf]; omega
    · obtain rfl : k = A5 := by omega
      go_wp2
      go_ret
      exact ⟨rfl, HB6.out⟩

set_option maxRecDepth 100000 in
theorem lifted (os : Os) (started : os.Started) (H : Type) (enc : TypeId × Value → H) :
    ReturnsInHanded {} Try.checked os 7 .any (Rows.diskTextSpec.pre6 enc Try.prog Try.f7 Rows.diskTextRow.domain false) (Rows.diskTextSpec.post enc Try.prog Try.f7 false true false false) := by
  refine returnsInHanded_of_change_sized (C := Try.checked) own started (by kernel_rfl) Try.func7
    (ChangeSpec.witness6 (enc := enc) (C := Try.checked) false ⟨#[], #[.int .i64 0, .int .i64 0, .slice none 0 0], []⟩ 8 (by kernel_rfl) (by kernel_rfl) (by kernel_rfl) (by kernel_rfl)) ?_
  intro W base args ds gs before hval0 hW hcnd hsz0 _
  have hval : ∀ (j : Nat) t v, Try.f7.params[j]? = some t → args[j]? = some v → Value.okWide Try.prog W .any base t v := hval0
  have hW' := hW
  obtain ⟨p, q, hA0, hV, rfl, hfz, hnd⟩ := hW
  have hA : DataW.TrodAll enc Try.prog W 0 (fun _ => true) true Try.f7.params.toList args.toList ds p := hA0
  have hsz : (DataW.weightsEach Try.prog (Try.f7.params.toList ++ Rows.diskTextSpec.plain.varTypes Try.prog) (ds ++ gs)).all (· ≤ reachBytes) = true := hsz0
  clear hsz0
  rw [Try.params7] at hA hval hsz
  obtain ⟨v0, vs0, d0, ds0, p0, q0, hargs, rfl, rfl, h0, r0⟩ := trodAll_cons hA
  obtain ⟨v1, vs1, d1, ds1, p1, q1, rfl, rfl, rfl, h1, r1⟩ := trodAll_cons r0
  obtain ⟨v2, vs2, d2, ds2, p2, q2, rfl, rfl, rfl, h2, r2⟩ := trodAll_cons r1
  obtain ⟨rfl, rfl, rfl⟩ := trodAll_nil r2
  obtain rfl : args = #[v0, v1, v2] := by cases args; simp_all
  obtain ⟨rfl, rfl⟩ := trodVars_none hV
  obtain ⟨a0, rfl, rfl, rfl, w0⟩ := open_int Try.underlying3 (hval 0 3 v0 rfl rfl) h0
  have b0 := bounds_i64 w0
  obtain ⟨a1, rfl, rfl, rfl, w1⟩ := open_int Try.underlying3 (hval 1 3 v1 rfl rfl) h1
  have b1 := bounds_i64 w1
  obtain ⟨a2, len2, cap2, rfl⟩ := okWide_slice Try.underlying26 (hval 2 26 v2 rfl rfl)
  have k2 := h2
  have lt2 : ∀ x ∈ p2, x.block < W.heap.size := by obtain ⟨m, hm⟩ := k2; exact DataW.trod_lt m _ _ _ hm
  obtain ⟨l2, A2, D2⟩ := arg_of h2
  have s2 := arg_len hsz (j := 2) rfl rfl D2
  clear hA0 hval0
  refine (walk a0 a1 _ l2 W A2 s2).mono fun e W' ⟨he, bel⟩ => ?_
  subst he
  exact ⟨_, rfl, _, _, _, [], _, [], hW', trodAll_mk1 (shut_bool Try.underlying4 _), (trodAll_cons_mk (shut_int Try.underlying3 w0) (trodAll_cons_mk (shut_int Try.underlying3 w1) (trodAll_cons_mk (Below.trod laidOut (by kernel_rfl) (of_decide_eq_true (by kernel_rfl)) k2 bel lt2) trodAll_mk0))), rfl, bel.frame _, fun h => by cases h⟩

theorem over : Rows.diskTextRow.holds Try.pinned (OpenSpec.ofChange Rows.diskTextSpec) :=
  OpenClaim.holds_of_wide 7 Try.f7 rfl rfl rfl rfl rfl rfl rfl ⟨rfl, rfl, rfl, rfl, rfl⟩ rfl rfl rfl rfl rfl (by kernel_rfl) Try.func7 (by kernel_rfl)
    (of_decide_eq_true (by kernel_rfl)) (by unfold Func.isWrapper; first | (rw [if_pos (by decide +kernel)]; kernel_rfl) | (rw [if_neg (by decide +kernel)]; exact ⟨rfl, rfl⟩))
    (fun os started H enc _ => lifted os started H enc)

end Go.Proofs.Ytkeaillmcfnnkaa.diskText

namespace Go.Proofs.Ytkeaillmcfnnkaa
theorem diskText_holds : Rows.DiskTextSaid := diskText.over
#print axioms diskText_holds
end Go.Proofs.Ytkeaillmcfnnkaa
