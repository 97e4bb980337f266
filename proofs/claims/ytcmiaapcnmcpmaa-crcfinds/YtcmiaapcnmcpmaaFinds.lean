/-
  CrcFinds, proved: for every octets, int and uint32 (as great as the form reads them): the call returns true, and changes nothing that was in memory. No condition of its own.
-/
import Derived.Test.YtcmiaapcnmcpmaaSpoil
import Derived.Test.YtcmiaapcnmcpmaaArg
namespace Go.Proofs.Ytcmiaapcnmcpmaa.crcFinds
open Go.ChangeShapes Go.WideShapes Go.ChangeAt Go.RowKit
set_option linter.unusedVariables false

theorem place_of (n : Nat) (a : Int) (hn : n ≤ 140737488355328) : ∃ t : Nat, t ≤ 8 * n ∧ (wrap64 (a.tmod (8 * (n : Int) + 1) + (8 * (n : Int) + 1))).tmod (8 * (n : Int) + 1) = (t : Int) := by
  obtain ⟨N, hN⟩ : ∃ N : Int, N = 8 * (n : Int) + 1 := ⟨_, rfl⟩
  rw [← hN]
  have h1 : a.tmod N < N := Int.tmod_lt_of_pos a (by omega)
  have h2 : -N < a.tmod N := by
    have := Int.tmod_lt_of_pos (-a) (show 0 < N by omega)
    rw [Int.neg_tmod] at this
    omega
  have e1 : wrap64 (a.tmod N + N) = a.tmod N + N := by unfold wrap64; omega
  rw [e1, Int.tmod_eq_emod_of_nonneg (by omega)]
  have h3 := Int.emod_nonneg (a.tmod N + N) (show N ≠ 0 by omega)
  have h4 := Int.emod_lt_of_pos (a.tmod N + N) (show 0 < N by omega)
  exact ⟨((a.tmod N + N) % N).toNat, by omega, by omega⟩

theorem xor_bit (x : Int) (k : Nat) (hx : 0 ≤ x ∧ x ≤ 255) (hk : k < 8) : (bits .xor .u8 x (2 ^ k)).toNat = x.toNat ^^^ 2 ^ k ∧ 0 ≤ bits .xor .u8 x (2 ^ k) ∧ bits .xor .u8 x (2 ^ k) ≤ 255 := by
  have h2 : 2 ^ k < 256 := by
    have := Nat.pow_lt_pow_right (show 1 < 2 by decide) hk
    simpa using this
  have := u8_xor x ((2 ^ k : Nat) : Int) hx.1 (by omega) (Int.natCast_nonneg _) (Int.ofNat_lt.2 h2)
  have e : (((2 ^ k : Nat) : Int)) = 2 ^ k := by simp
  rw [e] at this
  rw [this]
  have hl : x.toNat ^^^ 2 ^ k < 256 := Nat.xor_lt_two_pow (n := 8) (by omega) h2
  have e2 : ((2 ^ k : Int)).toNat = 2 ^ k := by rw [← e, Int.toNat_natCast]
  rw [e2]
  omega

/-- What the turned text makes of the register is told by the word that turned it. -/
theorem told (L : List Int) (hL : Oct L) (h4 : 4 ≤ L.length) (K T : Nat) (hT : T < 4294967296) (h : upd full L = rest ^^^ steps K (steps 32 (T % 2 ^ 32))) : (T = 0 → oerr L = 0) ∧ (T ≠ 0 → oerr L = 21 ∧ oout L = []) := by
  rw [Nat.mod_eq_of_lt (show T < 2 ^ 32 from hT)] at h
  have hf := fits_rest L hL h4
  have hn4 : ¬ L.length < 4 := by omega
  unfold oerr oout
  rw [if_neg hn4, if_neg hn4]
  constructor
  · rintro rfl
    rw [steps_zero, steps_zero, Nat.xor_zero] at h
    rw [if_pos (hf.2 h)]
  · intro h0
    have : ¬ low (sum (L.take (L.length - 4))) = L.drop (L.length - 4) := fun e => by
      have e2 := hf.1 e
      rw [h] at e2
      have e3 : steps K (steps 32 T) = 0 := by
        have := congrArg (rest ^^^ ·) e2
        simp only [← Nat.xor_assoc, Nat.xor_self, Nat.zero_xor] at this
        exact this
      exact h0 (steps_none 32 T hT (steps_none K _ (steps_lt 32 T hT) e3))
    rw [if_neg this, if_neg this]
    exact ⟨rfl, rfl⟩

set_option maxHeartbeats 2000000 in
theorem walk (v : Value) (l : List Int) (a : Int) (T : Nat) (hT : T < 4294967296) (w : World) (hv : Arg w v l) (hs : l.length ≤ 140737488351232) :
    Calls Try.prog 6 #[v, .int .i64 a, .int .u32 T] w fun e w' => e = .returned (.bool true) ∧ Below w.heap.size w w' := by
  have HV : Hid (Arg w v l) := hv
  have HR : Hid (Oct l) := hv.bytes.2.2
  obtain ⟨oe, ho⟩ : ∃ L, L = sealed l := ⟨_, rfl⟩
  have HOP := open_sealed l HR.out
  rw [← ho] at HOP
  have HO1 : Hid (oerr oe = 0 ∧ oout oe = l) := HOP
  have HOO : Hid (Oct oe) := by show Oct oe; rw [ho]; exact sealed_oct l HR.out
  obtain ⟨n, hn⟩ : ∃ n, n = l.length := ⟨_, rfl⟩
  have HN : Hid (n = l.length) := hn
  have HOL : Hid (oe.length = n + 4) := by show _ = _; rw [ho, hn]; exact sealed_length l
  have HUP : Hid (upd full oe = rest) := by show _ = _; rw [ho]; exact sealed_rest l HR.out
  have HSL : Hid (∀ w v, Arg w v l → Calls Try.prog 17 #[v] w fun e w' => e = .returned (.slice (some ⟨w.heap.size, 0, none⟩) (n + 4) (n + 4)) ∧ w'.ownsRow w.heap.size 5 1 (.slice (some ⟨w.heap.size, 0, none⟩) (n + 4) (n + 4)) (n + 4) (oe.map (Value.int .u8)) ∧ Below w.heap.size w w') := fun w v h => by
    rw [ho, hn]; exact seal_any v l w h (by omega)
  have hn1 : n ≤ 140737488351232 := by omega
  obtain ⟨t, ht, hplace⟩ := place_of n a (by omega)
  have hplace2 : (8 * (n : Int) + 1 == 0) = false := by simp; omega
  clear hv HOP ho hn hs
  go_enter Try.func6, Try.ntmps6
  go_wp2_with fail
  refine (alive_any w).mono ?_
  rintro e w1 ⟨rfl, hb1⟩
  go_wp2_with fail
  refine (HSL.out w1 v (HV.out.below hb1)).mono ?_
  rintro e w2 ⟨rfl, hown2, hb2⟩
  have hb02 := below_any hb1 hb2
  have HA2 : Hid (Arg w2 (.slice (some ⟨w1.heap.size, 0, none⟩) (n + 4) (n + 4)) oe) := Arg.own (base := w1.heap.size) (by rw [HOL.out]; exact hown2) HOO.out
  have HX2 : Hid (w2.ownsRow w1.heap.size 5 1 (.slice (some ⟨w1.heap.size, 0, none⟩) (n + 4) (n + 4)) (n + 4) (oe.map (Value.int .u8))) := hown2
  clear hown2 hb2
  go_wp2_with fail
  refine (open_any _ oe w2 HA2.out (by rw [HOL.out]; omega)).mono ?_
  rw [HO1.out.1, HO1.out.2]
  rintro e w3 ⟨a3, c3, rfl, hown3, hb3⟩
  have hb03 := below_any hb02 hb3
  have HT3 : Hid (Bytes w3 (.slice a3 l.length c3) l) := Bytes.own hown3 HR.out
  have HV3 : Hid (Bytes w3 v l) := (HV.out.below hb03).bytes
  have HX3 : Hid (w3.ownsRow w1.heap.size 5 1 (.slice (some ⟨w1.heap.size, 0, none⟩) (n + 4) (n + 4)) (n + 4) (oe.map (Value.int .u8))) := own_below HX2.out hb3
  clear hown3 hb3 HX2 HA2
  go_wp2_with (go_at_call 19; refine (num_any _ _).mono ?_; rintro e w7 ⟨rfl, rfl⟩)
  refine (same_true _ _ l w3 HT3.out HV3.out).mono ?_
  rintro e w4 ⟨rfl, q, rfl⟩
  obtain ⟨W, hW⟩ : ∃ W, W = w3.drewN q := ⟨_, rfl⟩
  obtain ⟨g, hg⟩ : ∃ g, g = w1.heap.size := ⟨_, rfl⟩
  have hbW : Below w.heap.size w W := by rw [hW]; exact below_drewN hb03 q
  have hgw : w.heap.size ≤ g := by rw [hg]; exact hb1.size
  have hownW : W.ownsRow g 5 1 (.slice (some ⟨g, 0, none⟩) (n + 4) (n + 4)) (n + 4) (oe.map (Value.int .u8)) := by
    rw [hW, hg]
    obtain ⟨h1, h2⟩ := HX3.out
    refine ⟨h1, ?_⟩
    rcases h2 with h2 | ⟨g', cap, cur, h3, h4, h5, h6⟩
    · exact .inl h2
    · exact .inr ⟨g', cap, cur, h3, h4, by simpa using h5, h6⟩
  rw [← hW, ← hg]
  clear hW hg hb1 hb02 hb03 HT3 HV3 HX3
  obtain ⟨K, hK⟩ : ∃ K, K = 8 * (n + 4) - t - 32 := ⟨_, rfl⟩
  have HK : Hid (K + 32 + t = 8 * (n + 4)) := by show _ = _; omega
  clear hK hplace2
  go_wp2
  go_loopw [11] (fun i wr => ∃ (j : Nat) (L : List Int), j ≤ 32 ∧ i = .int .i64 j ∧ Hid (L.length = n + 4) ∧ Hid (Oct L) ∧ Hid (upd full L = rest ^^^ steps K (steps 32 (T % 2 ^ j))) ∧
      wr.ownsRow g 5 1 (.slice (some ⟨g, 0, none⟩) (n + 4) (n + 4)) (n + 4) (L.map (Value.int .u8)) ∧ Below w.heap.size w wr) (fun i _ => 32 - (intOf i).toNat)
  case atStart => exact ⟨0, oe, by omega, rfl, HOL, HOO, by show _ = _; rw [HUP.out, Nat.pow_zero, Nat.mod_one, steps_zero, steps_zero, Nat.xor_zero], hownW, hbW⟩
  case round =>
    obtain ⟨j, L, hj, rfl, HL, HLO, HLU, hown, hbel⟩ := hrel
    by_cases hlt : j < 32
    · have hji : (j : Int) < 32 := by omega
      have hms := mod_succ T j
      obtain ⟨S, hS⟩ : ∃ S, S = T / 2 ^ j := ⟨_, rfl⟩
      have hsh : (T : Int) / 2 ^ j = (S : Int) := by rw [hS]; simp
      have hSl : S < 4294967296 := by rw [hS]; exact Nat.lt_of_le_of_lt (Nat.div_le_self _ _) hT
      have hand := and1 S hSl
      rw [← hS] at hms
      rcases Nat.mod_two_eq_zero_or_one S with hbit | hbit
      · rw [if_neg (by omega)] at hms
        have hand0 : bits .and .u32 (S : Int) 1 = 0 := by rw [hand, hbit]; rfl
        have HU2 : Hid (upd full L = rest ^^^ steps K (steps 32 (T % 2 ^ (j + 1)))) := by show _ = _; rw [hms]; exact HLU.out
        clear hms hS hand hbit
        go_wp2
        go_roundw
        case rel => exact ⟨j + 1, L, by omega, by go_num, HL, HLO, HU2, hown, hbel⟩
        case measure => simp [intOf]; omega
      · rw [if_pos hbit] at hms
        have hand1 : bits .and .u32 (S : Int) 1 = 1 := by rw [hand, hbit]; rfl
        obtain ⟨p, hp⟩ : ∃ p, p = (t + j) / 8 := ⟨_, rfl⟩
        obtain ⟨k, hk⟩ : ∃ k, k = (t + j) % 8 := ⟨_, rfl⟩
        have hpl : p < n + 4 := by omega
        have hpl2 : p < L.length := by rw [HL.out]; exact hpl
        have hx := HLO.out (L.getD p 0) (by simp [List.getD, List.getElem?_eq_getElem hpl2])
        have hxb := xor_bit (L.getD p 0) k hx (by omega)
        have hub := upd_bit full L p k hpl2 (by omega) (bits .xor .u8 (L.getD p 0) (2 ^ k)) hxb.1
        have hcell : wr.cell? ⟨g, p, none⟩ = some (.int .u8 (L.getD p 0)) := by
          rw [hown.cellAt p (by omega), List.getElem?_map, List.getElem?_eq_getElem hpl2]
          simp [List.getElem?_eq_getElem hpl2]
        have hfr := hown.frozenAt p
        have hst := (hown.stored p (.int .u8 (bits .xor .u8 (L.getD p 0) (2 ^ k)))).1
        rw [← List.map_set] at hst
        have HU2 : Hid (upd full (L.set p (bits .xor .u8 (L.getD p 0) (2 ^ k))) = rest ^^^ steps K (steps 32 (T % 2 ^ (j + 1)))) := by
          show _ = _
          rw [hub, HLU.out, HL.out, show 8 * (n + 4 - p) - k = K + 32 - j from by have := HK.out; omega]
          exact bits_on K T j hlt rest (by rw [← hS]; exact hbit)
        have HL2 : Hid ((L.set p (bits .xor .u8 (L.getD p 0) (2 ^ k))).length = n + 4) := by show _ = _; rw [List.length_set]; exact HL.out
        have HO2 : Hid (Oct (L.set p (bits .xor .u8 (L.getD p 0) (2 ^ k)))) := fun y hy => by
          rcases List.mem_or_eq_of_mem_set hy with h | h
          · exact HLO.out y h
          · rw [h]; exact hxb.2
        obtain ⟨x, hxd⟩ : ∃ x, x = L.getD p 0 := ⟨_, rfl⟩
        rw [← hxd] at hcell hst HU2 HL2 HO2
        have hbel2 := hbel.setCell (p := ⟨g, p, none⟩) hgw (.int .u8 (bits .xor .u8 x (2 ^ k)))
        have HPW : Hid ((2 : Int) ^ k % 256 = 2 ^ k) := by
          show _ = _
          have h2 : 2 ^ k < 256 := by
            have := Nat.pow_lt_pow_right (show 1 < 2 by decide) (show k < 8 by omega)
            simpa using this
          have e : (2 : Int) ^ k = ((2 ^ k : Nat) : Int) := by simp
          rw [e]
          exact Int.emod_eq_of_lt (Int.natCast_nonneg _) (Int.ofNat_lt.2 h2)
        have hw1 : IntKind.i64.wrap ((t : Int) + (j : Int)) = (t : Int) + (j : Int) := by rw [IntKind.wrap_i64]; omega
        have hq1 : ((t : Int) + (j : Int)).tdiv 8 = (p : Int) := by rw [Int.tdiv_eq_ediv_of_nonneg (by omega)]; omega
        have hq2 : ((t : Int) + (j : Int)).tmod 8 = (k : Int) := by rw [Int.tmod_eq_emod_of_nonneg (by omega)]; omega
        have hpi : (p : Int) < (n : Int) + 4 := by omega
        have hki : (k : Int) < 8 := by omega
        clear hms hS hand hbit hp hk hx hxb hub hxd hpl2 hown hbel
        go_wp2
        go_region
        rw [HPW.out]
        have hst3 := hst.drew
        have hbel3 := hbel2.drew
        clear hst hbel2 hcell hfr hw1 hq1 hq2 hpi hki
        go_wp2
        go_roundw
        case rel => exact ⟨j + 1, _, by omega, by go_num, HL2, HO2, HU2, hst3, hbel3⟩
        case measure => simp [intOf]; omega
    · obtain rfl : j = 32 := by omega
      have HTO := told L HLO.out (by rw [HL.out]; omega) K T hT HLU.out
      have HA : Hid (Arg wr (.slice (some ⟨g, 0, none⟩) (n + 4) (n + 4)) L) := Arg.own (base := g) (by rw [HL.out]; exact hown) HLO.out
      have HLL : Hid (L.length ≤ 140737488355328) := by show _ ≤ _; rw [HL.out]; omega
      by_cases hT0 : T = 0
      · have HE : Hid (oerr L = 0) := HTO.1 hT0
        have hTi : ((T : Int) == 0) = true := by simp [hT0]
        clear HTO hown
        go_wp2_with fail
        refine (open_any _ L wr HA.out HLL.out).mono ?_
        rw [HE.out]
        rintro e w5 ⟨a5, c5, rfl, hown5, hb5⟩
        have hb05 := below_any hbel hb5
        clear hown5 hT0
        go_wp2_with (go_at_call 19; refine (num_any _ _).mono ?_; rintro e w7 ⟨rfl, rfl⟩)
        go_ret
        exact ⟨rfl, hb05⟩
      · have HE : Hid (oerr L = 21 ∧ oout L = []) := HTO.2 hT0
        have hTi : (0 : Int) < (T : Int) := by omega
        clear HTO hown
        go_wp2_with fail
        refine (open_any _ L wr HA.out HLL.out).mono ?_
        rw [HE.out.1, HE.out.2]
        rintro e w5 ⟨a5, c5, rfl, hown5, hb5⟩
        have hb05 := below_any hbel hb5
        clear hown5 hT0
        go_wp2_with (go_at_call 19; refine (num_any _ _).mono ?_; rintro e w7 ⟨rfl, rfl⟩)
        go_ret
        have hne : ((T : Int) != 0) = true := by simp; omega
        exact ⟨congrArg Ending.returned (congrArg Value.bool hne), hb05⟩

set_option maxRecDepth 100000 in
theorem lifted (os : Os) (started : os.Started) (H : Type) (enc : TypeId × Value → H) :
    ReturnsInHanded {} Try.checked os 6 .any (Rows.crcFindsSpec.pre6 enc Try.prog Try.f6 Rows.crcFindsRow.domain false) (Rows.crcFindsSpec.post enc Try.prog Try.f6 false true false false) := by
  refine returnsInHanded_of_change_sized (C := Try.checked) own started (by kernel_rfl) Try.func6
    (ChangeSpec.witness6 (enc := enc) (C := Try.checked) false ⟨#[], #[.slice none 0 0, .int .i64 0, .int .u32 0], []⟩ 8 (by kernel_rfl) (by kernel_rfl) (by kernel_rfl) (by kernel_rfl)) ?_
  intro W base args ds gs before hval0 hW hcnd hsz0 _
  have hval : ∀ (j : Nat) t v, Try.f6.params[j]? = some t → args[j]? = some v → Value.okWide Try.prog W .any base t v := hval0
  have hW' := hW
  obtain ⟨p, q, hA0, hV, rfl, hfz, hnd⟩ := hW
  have hA : DataW.TrodAll enc Try.prog W 0 (fun _ => true) true Try.f6.params.toList args.toList ds p := hA0
  have hsz : (DataW.weightsEach Try.prog (Try.f6.params.toList ++ Rows.crcFindsSpec.plain.varTypes Try.prog) (ds ++ gs)).all (· ≤ reachBytes) = true := hsz0
  clear hsz0
  rw [Try.params6] at hA hval hsz
  obtain ⟨v0, vs0, d0, ds0, p0, q0, hargs, rfl, rfl, h0, r0⟩ := trodAll_cons hA
  obtain ⟨v1, vs1, d1, ds1, p1, q1, rfl, rfl, rfl, h1, r1⟩ := trodAll_cons r0
  obtain ⟨v2, vs2, d2, ds2, p2, q2, rfl, rfl, rfl, h2, r2⟩ := trodAll_cons r1
  obtain ⟨rfl, rfl, rfl⟩ := trodAll_nil r2
  obtain rfl : args = #[v0, v1, v2] := by cases args; simp_all
  obtain ⟨rfl, rfl⟩ := trodVars_none hV
  obtain ⟨a0, len0, cap0, rfl⟩ := okWide_slice Try.underlying22 (hval 0 22 v0 rfl rfl)
  have k0 := h0
  have lt0 : ∀ x ∈ p0, x.block < W.heap.size := by obtain ⟨m, hm⟩ := k0; exact DataW.trod_lt m _ _ _ hm
  obtain ⟨l0, A0, D0⟩ := arg_of h0
  have s0 := arg_len hsz (j := 0) rfl rfl D0
  obtain ⟨a1, rfl, rfl, rfl, w1⟩ := open_int Try.underlying3 (hval 1 3 v1 rfl rfl) h1
  have b1 := bounds_i64 w1
  obtain ⟨a2, rfl, rfl, rfl, w2⟩ := open_int Try.underlying23 (hval 2 23 v2 rfl rfl) h2
  have b2 := bounds_u32 w2
  clear hA0 hval0
  obtain ⟨n2, rfl⟩ := Int.eq_ofNat_of_zero_le b2.1
  refine (walk _ l0 a1 n2 (by omega) W A0 s0).mono fun e W' ⟨he, bel⟩ => ?_
  subst he
  exact ⟨_, rfl, _, _, _, [], _, [], hW', trodAll_mk1 (shut_bool Try.underlying4 _), (trodAll_cons_mk (Below.trod laidOut (by kernel_rfl) (of_decide_eq_true (by kernel_rfl)) k0 bel lt0) (trodAll_cons_mk (shut_int Try.underlying3 w1) (trodAll_cons_mk (shut_int Try.underlying23 w2) trodAll_mk0))), rfl, bel.frame _, fun h => by cases h⟩

theorem over : Rows.crcFindsRow.holds Try.pinned (OpenSpec.ofChange Rows.crcFindsSpec) :=
  OpenClaim.holds_of_wide 6 Try.f6 rfl rfl rfl rfl rfl rfl rfl ⟨rfl, rfl, rfl, rfl, rfl⟩ rfl rfl rfl rfl rfl (by kernel_rfl) Try.func6 (by kernel_rfl)
    (of_decide_eq_true (by kernel_rfl)) (by unfold Func.isWrapper; first | (rw [if_pos (by decide +kernel)]; kernel_rfl) | (rw [if_neg (by decide +kernel)]; exact ⟨rfl, rfl⟩))
    (fun os started H enc _ => lifted os started H enc)

end Go.Proofs.Ytcmiaapcnmcpmaa.crcFinds

namespace Go.Proofs.Ytcmiaapcnmcpmaa
theorem crcFinds_holds : Rows.CrcFindsSaid := crcFinds.over
#print axioms crcFinds_holds
end Go.Proofs.Ytcmiaapcnmcpmaa
