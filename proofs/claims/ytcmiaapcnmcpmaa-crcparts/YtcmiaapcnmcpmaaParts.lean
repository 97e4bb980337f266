/-
  CrcParts, proved: for every octets and list of ints (as great as the form reads them): the call returns true, and changes nothing that was in memory. No condition of its own.
-/
import Derived.Test.YtcmiaapcnmcpmaaCut
import Derived.Test.YtcmiaapcnmcpmaaArg
namespace Go.Proofs.Ytcmiaapcnmcpmaa.crcParts
open Go.ChangeShapes Go.WideShapes Go.ChangeAt Go.RowKit
set_option linter.unusedVariables false

theorem cells3 : Try.prog.cellsOf 3 = 1 := by kernel_rfl

/-- Ints that came in, as the walk reads them. -/
def Ints (w : World) (v : Value) (l : List Int) : Prop :=
  (v = .slice none 0 0 ∧ l = []) ∨ ∃ x cap, v = .slice (some x) l.length cap ∧ l.length ≤ maxLen ∧ (∀ i, i < l.length → w.cell? (x.add i) = some (.int .i64 (l.getD i 0))) ∧ ∀ y ∈ l, -9223372036854775808 ≤ y ∧ y ≤ 9223372036854775807

theorem ints_of {H : Type} {enc : TypeId × Value → H} {W : World} {a : Option Addr} {len cap : Nat} {d : DataW H} {p : List MemPlace}
    (h : DataW.Trod enc Try.prog W 0 (fun _ => true) true 36 (.slice a len cap) d p) : ∃ l, Ints W (.slice a len cap) l := by
  obtain ⟨fuel, hf⟩ := h
  rcases open_ints Try.underlying36 Try.underlying3 cells3 hf with ⟨hcs, hx⟩ | ⟨x, l, c, zs, hcs, _, hl, hm, hz, hx, hcell, hwz⟩
  · simp [Value.cells] at hcs
    obtain ⟨rfl, rfl, rfl⟩ := hcs
    exact ⟨[], .inl ⟨rfl, rfl⟩⟩
  · simp [Value.cells] at hcs
    obtain ⟨rfl, rfl, rfl⟩ := hcs
    have hz' : zs.length = cap := by simpa using hz
    have e : (zs.take len).length = len := by rw [List.length_take]; omega
    refine ⟨zs.take len, .inr ⟨x, cap, by rw [e], by omega, fun i hi => ?_, fun y hy => bounds_i64 (hwz y (List.mem_of_mem_take hy))⟩⟩
    rw [hcell i (by omega)]
    simp [show i < len by omega]

theorem Ints.split {w : World} {v : Value} {l : List Int} (h : Ints w v l) : (l = [] ∧ ∃ a cap, v = .slice a 0 cap) ∨ (∃ b off cap, v = .slice (some ⟨b, off, none⟩) l.length cap ∧ l.length ≤ maxLen ∧ b < w.heap.size ∧ (∀ i, i < l.length → w.cell? ⟨b, off + i, none⟩ = some (.int .i64 (l.getD i 0))) ∧ ∀ y ∈ l, -9223372036854775808 ≤ y ∧ y ≤ 9223372036854775807) := by
  rcases h with ⟨rfl, rfl⟩ | ⟨x, cap, rfl, hm, hc, hr⟩
  · exact .inl ⟨rfl, none, 0, rfl⟩
  · by_cases h0 : l.length = 0
    · left
      exact ⟨List.eq_nil_of_length_eq_zero h0, some x, cap, by rw [h0]⟩
    · right
      obtain ⟨b, off, spot⟩ := x
      have h1 := hc 0 (by omega)
      have hspot : spot = none := by simpa [Addr.add] using World.cell?_spot h1
      subst hspot
      exact ⟨b, off, cap, rfl, hm, cell_lt h1, fun i hi => by rw [← add_plain]; exact hc i hi, hr⟩

/-- How far a cut goes: at most 6. -/
theorem cut_of (m : Int) (hm0 : -9223372036854775808 ≤ m) (hm1 : m ≤ 9223372036854775807) : ∃ d : Nat, d ≤ 6 ∧ (wrap64 (m.tmod 7 + 7)).tmod 7 = (d : Int) := by
  have ht : -7 < m.tmod 7 ∧ m.tmod 7 < 7 := by
    rw [Int.tmod_def]
    rcases Int.lt_or_le m 0 with h | h
    · have e : m.tdiv 7 = -((-m) / 7) := by rw [← Int.tdiv_eq_ediv_of_nonneg (show 0 ≤ -m by omega), Int.neg_tdiv]; omega
      rw [e]; omega
    · rw [Int.tdiv_eq_ediv_of_nonneg h]; omega
  have e1 : wrap64 (m.tmod 7 + 7) = m.tmod 7 + 7 := by unfold wrap64; omega
  rw [e1, Int.tmod_eq_emod_of_nonneg (by omega)]
  exact ⟨((m.tmod 7 + 7) % 7).toNat, by omega, by omega⟩

theorem ext_step (l : List Int) (i j : Nat) (hij : i ≤ j) : ext (ext 0 (l.take i)) ((l.take j).drop i) = ext 0 (l.take j) := by
  rw [← ext_append]
  congr 1
  have := List.take_append_drop i (l.take j)
  rw [List.take_take, Nat.min_eq_left hij] at this
  exact this

set_option maxHeartbeats 1000000 in
theorem walk_some (b off m cap : Nat) (cuts : List Int) (hm : cuts.length = m) (v : Value) (l : List Int) (w : World) (hv : Arg w v l) (hs : l.length ≤ 140737488355328) (hmm : m ≤ maxLen) (hbW : b < w.heap.size)
    (hc : ∀ i, i < m → w.cell? ⟨b, off + i, none⟩ = some (.int .i64 (cuts.getD i 0))) (hr : ∀ y ∈ cuts, -9223372036854775808 ≤ y ∧ y ≤ 9223372036854775807) :
    Calls Try.prog 4 #[v, .slice (some ⟨b, off, none⟩) m cap] w fun e w' => e = .returned (.bool true) ∧ Below w.heap.size w w' := by
  unfold maxLen at hmm
  have HV : Hid (Arg w v l) := hv
  have HC : Hid (∀ i, i < m → w.cell? ⟨b, off + i, none⟩ = some (.int .i64 (cuts.getD i 0))) := hc
  have HM : Hid (cuts.length = m) := hm
  have HR : Hid (∀ y ∈ cuts, -9223372036854775808 ≤ y ∧ y ≤ 9223372036854775807) := hr
  have HO : Hid (Oct l) := hv.bytes.2.2
  have hlen := fun W => hv.len W
  have HN := fun w => sum_any (.slice none 0 0) [] w (arg_none w)
  rw [show sum [] = 0 from by decide] at HN
  have HNN : Hid (∀ w, Calls Try.prog 12 #[.slice none 0 0] w fun e w' => e = .returned (.int .u32 ((0 : Nat) : Int)) ∧ Below w.heap.size w w') := HN
  obtain ⟨n, hn⟩ : ∃ n, n = l.length := ⟨_, rfl⟩
  rw [← hn] at hlen
  have HL : Hid (n = l.length) := hn
  have hn1 : n ≤ 140737488355328 := by omega
  clear hv hc hm hr HN hs hn
  go_enter Try.func4, Try.ntmps4
  go_wp2_with fail
  refine (alive_any w).mono ?_
  rintro e w1 ⟨rfl, hb1⟩
  go_wp2_with fail
  refine (HNN.out w1).mono ?_
  rintro e w2 ⟨rfl, hb2⟩
  have hb02 := below_any hb1 hb2
  clear hb1 hb2
  go_wp2
  go_loopw [5, 6, 7] (fun c a i wr => ∃ j t : Nat, j ≤ m ∧ t ≤ n ∧ i = .int .i64 j ∧ a = .int .i64 t ∧ c = .int .u32 ((ext 0 (l.take t) : Nat) : Int) ∧ Below w.heap.size w wr) (fun _ _ i _ => m - (intOf i).toNat)
  case atStart => exact ⟨0, 0, Nat.zero_le _, Nat.zero_le _, rfl, rfl, by rw [List.take_zero, ext_nil]; rfl, hb02⟩
  case round =>
    obtain ⟨j, t, hj, ht, rfl, rfl, rfl, hb⟩ := hrel
    have hE : ext 0 (l.take t) < 4294967296 := ext_lt _ _ (by decide) fun x hx => HO.out x (List.mem_of_mem_take hx)
    by_cases hlt : j < m ∧ j < 100
    · obtain ⟨hlt, h100⟩ := hlt
      have hcell : wr.cell? ⟨b, off + j, none⟩ = some (.int .i64 (cuts.getD j 0)) := by
        rw [hb.cell (p := ⟨b, off + j, none⟩) hbW]; exact HC.out j hlt
      have hx := HR.out (cuts.getD j 0) (by
        have : j < cuts.length := by rw [HM.out]; exact hlt
        simp [List.getD, List.getElem?_eq_getElem this])
      obtain ⟨x, hxd⟩ : ∃ x, x = cuts.getD j 0 := ⟨_, rfl⟩
      rw [← hxd] at hcell hx
      obtain ⟨d, hd6, hd⟩ := cut_of x hx.1 hx.2
      have hji : (j : Int) < (m : Int) := by omega
      have h100i : (j : Int) < 100 := by omega
      clear hx hxd
      by_cases hle : (t : Int) + (d : Int) ≤ (n : Int)
      · obtain ⟨v', hA', hcut⟩ := HV.out.cut t (t + d) (by omega) (by have := HL.out; omega)
        rw [Int.natCast_add] at hcut
        have HA : Hid (Arg wr v' ((l.take (t + d)).drop t)) := hA'.below hb
        have HS : Hid (ext (ext 0 (l.take t)) ((l.take (t + d)).drop t) = ext 0 (l.take (t + d))) := ext_step l t (t + d) (by omega)
        have HE : Hid (ext 0 (l.take t) < 4294967296) := hE
        clear hA' hE
        go_wp2_with fail
        refine (ext_any _ HE.out v' _ wr HA.out).mono ?_
        rw [HS.out]
        rintro e w3 ⟨rfl, hb3⟩
        have hb03 := below_any hb hb3
        clear hb3
        go_wp2
        go_roundw
        case rel => exact ⟨j + 1, t + d, by omega, by omega, by go_num, by rw [Int.natCast_add], rfl, hb03⟩
        case measure => simp [intOf]; omega
      · obtain ⟨v', hA', hcut⟩ := HV.out.cut t n ht (by have := HL.out; omega)
        have HA : Hid (Arg wr v' ((l.take n).drop t)) := hA'.below hb
        have HS : Hid (ext (ext 0 (l.take t)) ((l.take n).drop t) = ext 0 (l.take n)) := ext_step l t n ht
        have HE : Hid (ext 0 (l.take t) < 4294967296) := hE
        clear hA' hE
        go_wp2_with fail
        refine (ext_any _ HE.out v' _ wr HA.out).mono ?_
        rw [HS.out]
        rintro e w3 ⟨rfl, hb3⟩
        have hb03 := below_any hb hb3
        clear hb3
        go_wp2
        go_roundw
        case rel => exact ⟨j + 1, n, by omega, by omega, by go_num, rfl, rfl, hb03⟩
        case measure => simp [intOf]; omega
    · obtain ⟨v', hA', hcut⟩ := HV.out.behind t (by have := HL.out; omega)
      have HA : Hid (Arg wr v' (l.drop t)) := hA'.below hb
      have HA2 : Hid (Arg wr v l) := HV.out.below hb
      have HS : Hid (ext (ext 0 (l.take t)) (l.drop t) = sum l) := by
        show _ = _
        rw [← ext_append, List.take_append_drop]
        rfl
      have HE : Hid (ext 0 (l.take t) < 4294967296) := hE
      clear hA' hE
      rcases (show ¬ (j : Int) < (m : Int) ∨ ((j : Int) < (m : Int) ∧ ¬ (j : Int) < 100) from by omega) with hf | ⟨hf1, hf2⟩
      all_goals
        clear hlt
        go_wp2_with fail
        refine (ext_any _ HE.out v' _ wr HA.out).mono ?_
        rw [HS.out]
        rintro e w3 ⟨rfl, hb3⟩
        have HA3 : Hid (Arg w3 v l) := HA2.out.below hb3
        have hb03 := below_any hb hb3
        clear hb3
        go_wp2_with fail
        refine (sum_any v l w3 HA3.out).mono ?_
        rintro e w4 ⟨rfl, hb4⟩
        have hb04 := below_any hb03 hb4
        clear hb4
        go_wp2
        go_ret
        exact ⟨rfl, hb04⟩

set_option maxHeartbeats 1000000 in
theorem walk_none (a : Option Addr) (cap : Nat) (v : Value) (l : List Int) (w : World) (hv : Arg w v l) :
    Calls Try.prog 4 #[v, .slice a 0 cap] w fun e w' => e = .returned (.bool true) ∧ Below w.heap.size w w' := by
  have HV : Hid (Arg w v l) := hv
  obtain ⟨v', hA', hcut⟩ := HV.out.behind 0 (Nat.zero_le _)
  have HA : Hid (Arg w v' l) := by show Arg w v' l; simpa using hA'
  have hcut0 : ∀ W, (Instr.slice 22 v (some (.int .i64 0)) none none).run Try.prog W = .ok v' W := hcut
  have HN := fun w => sum_any (.slice none 0 0) [] w (arg_none w)
  rw [show sum [] = 0 from by decide] at HN
  have HNN : Hid (∀ w, Calls Try.prog 12 #[.slice none 0 0] w fun e w' => e = .returned (.int .u32 ((0 : Nat) : Int)) ∧ Below w.heap.size w w') := HN
  clear hv HN hA' hcut
  go_enter Try.func4, Try.ntmps4
  go_wp2_with fail
  refine (alive_any w).mono ?_
  rintro e w1 ⟨rfl, hb1⟩
  go_wp2_with fail
  refine (HNN.out w1).mono ?_
  rintro e w2 ⟨rfl, hb2⟩
  have hb02 := below_any hb1 hb2
  clear hb1 hb2
  go_wp2
  refine wp_loop_rounds 1 ?_
  rw [rounds_succ]
  go_wp2_with fail
  refine (ext_any 0 (by decide) v' l w2 (HA.out.below hb02)).mono ?_
  rintro e w3 ⟨rfl, hb3⟩
  have hb03 := below_any hb02 hb3
  go_wp2_with fail
  refine (sum_any v l w3 (HV.out.below hb03)).mono ?_
  rintro e w4 ⟨rfl, hb4⟩
  have hb04 := below_any hb03 hb4
  have HQ : Hid (ext 0 l = sum l) := rfl
  rw [HQ.out]
  clear hb4
  go_wp2
  go_ret
  exact ⟨rfl, hb04⟩

theorem walk (v : Value) (l : List Int) (v2 : Value) (cuts : List Int) (w : World) (hv : Arg w v l) (hs : l.length ≤ 140737488355328) (hc : Ints w v2 cuts) :
    Calls Try.prog 4 #[v, v2] w fun e w' => e = .returned (.bool true) ∧ Below w.heap.size w w' := by
  rcases hc.split with ⟨rfl, a, cap, rfl⟩ | ⟨b, off, cap, rfl, hm, hb, hcell, hr⟩
  · exact walk_none a cap v l w hv
  · exact walk_some b off cuts.length cap cuts rfl v l w hv hs hm hb hcell hr

set_option maxRecDepth 100000 in
theorem lifted (os : Os) (started : os.Started) (H : Type) (enc : TypeId × Value → H) :
    ReturnsInHanded {} Try.checked os 4 .any (Rows.crcPartsSpec.pre6 enc Try.prog Try.f4 Rows.crcPartsRow.domain false) (Rows.crcPartsSpec.post enc Try.prog Try.f4 false true false false) := by
  refine returnsInHanded_of_change_sized (C := Try.checked) own started (by kernel_rfl) Try.func4
    (ChangeSpec.witness6 (enc := enc) (C := Try.checked) false ⟨#[], #[.slice none 0 0, .slice none 0 0], []⟩ 8 (by kernel_rfl) (by kernel_rfl) (by kernel_rfl) (by kernel_rfl)) ?_
  intro W base args ds gs before hval0 hW hcnd hsz0 _
  have hval : ∀ (j : Nat) t v, Try.f4.params[j]? = some t → args[j]? = some v → Value.okWide Try.prog W .any base t v := hval0
  have hW' := hW
  obtain ⟨p, q, hA0, hV, rfl, hfz, hnd⟩ := hW
  have hA : DataW.TrodAll enc Try.prog W 0 (fun _ => true) true Try.f4.params.toList args.toList ds p := hA0
  have hsz : (DataW.weightsEach Try.prog (Try.f4.params.toList ++ Rows.crcPartsSpec.plain.varTypes Try.prog) (ds ++ gs)).all (· ≤ reachBytes) = true := hsz0
  clear hsz0
  rw [Try.params4] at hA hval hsz
  obtain ⟨v0, vs0, d0, ds0, p0, q0, hargs, rfl, rfl, h0, r0⟩ := trodAll_cons hA
  obtain ⟨v1, vs1, d1, ds1, p1, q1, rfl, rfl, rfl, h1, r1⟩ := trodAll_cons r0
  obtain ⟨rfl, rfl, rfl⟩ := trodAll_nil r1
  obtain rfl : args = #[v0, v1] := by cases args; simp_all
  obtain ⟨rfl, rfl⟩ := trodVars_none hV
  obtain ⟨a0, len0, cap0, rfl⟩ := okWide_slice Try.underlying22 (hval 0 22 v0 rfl rfl)
  have k0 := h0
  have lt0 : ∀ x ∈ p0, x.block < W.heap.size := by obtain ⟨m, hm⟩ := k0; exact DataW.trod_lt m _ _ _ hm
  obtain ⟨l0, A0, D0⟩ := arg_of h0
  have s0 := arg_len hsz (j := 0) rfl rfl D0
  obtain ⟨a1, len1, cap1, rfl⟩ := okWide_slice Try.underlying36 (hval 1 36 v1 rfl rfl)
  have k1 := h1
  have lt1 : ∀ x ∈ p1, x.block < W.heap.size := by obtain ⟨m, hm⟩ := k1; exact DataW.trod_lt m _ _ _ hm
  obtain ⟨l1, A1⟩ := ints_of h1
  clear hA0 hval0
  refine (walk _ l0 _ l1 W A0 (by omega) A1).mono fun e W' ⟨he, bel⟩ => ?_
  subst he
  exact ⟨_, rfl, _, _, _, [], _, [], hW', trodAll_mk1 (shut_bool Try.underlying4 _), (trodAll_cons_mk (Below.trod laidOut (by kernel_rfl) (of_decide_eq_true (by kernel_rfl)) k0 bel lt0) (trodAll_cons_mk (Below.trod laidOut (by kernel_rfl) (of_decide_eq_true (by kernel_rfl)) k1 bel lt1) trodAll_mk0)), rfl, bel.frame _, fun h => by cases h⟩

theorem over : Rows.crcPartsRow.holds Try.pinned (OpenSpec.ofChange Rows.crcPartsSpec) :=
  OpenClaim.holds_of_wide 4 Try.f4 rfl rfl rfl rfl rfl rfl rfl ⟨rfl, rfl, rfl, rfl, rfl⟩ rfl rfl rfl rfl rfl (by kernel_rfl) Try.func4 (by kernel_rfl)
    (of_decide_eq_true (by kernel_rfl)) (by unfold Func.isWrapper; first | (rw [if_pos (by decide +kernel)]; kernel_rfl) | (rw [if_neg (by decide +kernel)]; exact ⟨rfl, rfl⟩))
    (fun os started H enc _ => lifted os started H enc)

end Go.Proofs.Ytcmiaapcnmcpmaa.crcParts

namespace Go.Proofs.Ytcmiaapcnmcpmaa
theorem crcParts_holds : Rows.CrcPartsSaid := crcParts.over
#print axioms crcParts_holds
end Go.Proofs.Ytcmiaapcnmcpmaa
