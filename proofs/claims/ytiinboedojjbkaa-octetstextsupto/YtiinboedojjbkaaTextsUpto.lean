/-
  OctetsTexts, proved for what is of bulk at most 1048576 ('..UptoSaid'): for every int, octets and text within that bound the call returns true, and changes nothing that was in memory.
-/
import Derived.Test.YtiinboedojjbkaaPutAll
import Derived.Test.YtiinboedojjbkaaRefUnhex
import Derived.Test.YtiinboedojjbkaaRefTexts
import Derived.Test.YtiinboedojjbkaaArg
import Derived.JoinedCond
namespace Go.Proofs.Ytiinboedojjbkaa.octetsTexts
open Go.ChangeShapes Go.WideShapes Go.ChangeAt Go.RowKit
open Go.ChangeMaps (open_string shut_string)
set_option linter.unusedVariables false

theorem runhex_all (s : ByteArray) (w : World) (hs : s.size ≤ 140737488355328) :
    Calls Try.prog 20 #[.string s] w fun e w' => ∃ a cap, e = .returned (.tuple #[.slice a (uout (lets s)).length cap, .int .i64 (uerr (lets s))]) ∧
      w'.ownsRow w.heap.size 5 1 (.slice a (uout (lets s)).length cap) (uout (lets s)).length ((uout (lets s)).map (Value.int .u8)) ∧ Below w.heap.size w w' := by
  refine (runhex_any s w hs).mono ?_
  rintro e w' ⟨v, rfl, hown, hb⟩
  obtain ⟨a, cap, rfl⟩ := own_shape hown
  exact ⟨a, cap, rfl, hown, hb⟩

set_option maxHeartbeats 1000000 in
theorem walk (n : Int) (v : Value) (l : List Int) (s : ByteArray) (w : World) (h0 : -9223372036854775808 ≤ n) (h1 : n ≤ 9223372036854775807) (hv : Arg w v l) (hl : l.length ≤ 1048576) (hs : s.size ≤ 1048576) :
    Calls Try.prog 4 #[.int .i64 n, v, .string s] w fun e w' => e = .returned (.bool true) ∧ Below w.heap.size w w' := by
  have HV : Hid (Arg w v l) := hv
  have HR : Hid (∀ x ∈ l, 0 ≤ x ∧ x ≤ 255) := hv.bytes.2.2
  clear hv
  obtain ⟨L, hL⟩ : ∃ L, L = uout (lets s) := ⟨_, rfl⟩
  obtain ⟨ue, hue⟩ : ∃ ue, ue = uerr (lets s) := ⟨_, rfl⟩
  have HU : Hid (∀ w, Calls Try.prog 19 #[.string s] w fun e w' => ∃ a cap, e = .returned (.tuple #[.slice a L.length cap, .int .i64 ue]) ∧ w'.ownsRow w.heap.size 5 1 (.slice a L.length cap) L.length (L.map (Value.int .u8)) ∧ Below w.heap.size w w') := by
    rw [hL, hue]; exact fun w => unhex_all s w (by omega)
  have HRU : Hid (∀ w, Calls Try.prog 20 #[.string s] w fun e w' => ∃ a cap, e = .returned (.tuple #[.slice a L.length cap, .int .i64 ue]) ∧ w'.ownsRow w.heap.size 5 1 (.slice a L.length cap) L.length (L.map (Value.int .u8)) ∧ Below w.heap.size w w') := by
    rw [hL, hue]; exact fun w => runhex_all s w (by omega)
  have HLR : Hid (∀ x ∈ L, 0 ≤ x ∧ x ≤ 255) := by rw [hL]; exact uout_range _
  obtain ⟨D, hD⟩ : ∃ D, D = strOfNums (decimal n) := ⟨_, rfl⟩
  have HD : Hid (∀ w, Calls Try.prog 21 #[.int .i64 n] w fun e w' => e = .returned (.string D) ∧ Below w.heap.size w w') := by rw [hD]; exact fun w => dec_any n w h0 h1
  have HRD : Hid (∀ w, Calls Try.prog 22 #[.int .i64 n] w fun e w' => e = .returned (.string D) ∧ Below w.heap.size w w') := by rw [hD]; exact fun w => rdec_any n w h0 h1
  obtain ⟨X, hX⟩ : ∃ X, X = strOfNums (hexs l) := ⟨_, rfl⟩
  have HX : Hid (∀ v w, Arg w v l → Calls Try.prog 23 #[v] w fun e w' => e = .returned (.string X) ∧ Below w.heap.size w w') := by rw [hX]; exact fun v w h => hex_any v l w h (by omega)
  have HRX : Hid (∀ v w, Arg w v l → Calls Try.prog 24 #[v] w fun e w' => e = .returned (.string X) ∧ Below w.heap.size w w') := by rw [hX]; exact fun v w h => rhex_any v l w h (by omega)
  clear hL hue hD hX
  go_enter Try.func4, Try.ntmps4
  go_wp2_with fail
  refine (copy_any v l w HV.out (by omega)).mono ?_
  rintro e w1 ⟨⟨v1, rfl, hown1⟩, hb1⟩
  have HA1 : Hid (Arg w1 v1 l) := Arg.own hown1 HR.out
  clear hown1
  go_wp2_with fail
  refine (HU.out w1).mono ?_
  rintro e w2 ⟨a2, c2, rfl, hown2, hb2⟩
  have hb02 := below_any hb1 hb2
  have HB2 : Hid (Bytes w2 (.slice a2 L.length c2) L) := Bytes.own hown2 HLR.out
  clear hown2
  go_wp2_with fail
  refine (HRU.out w2).mono ?_
  rintro e w3 ⟨a3, c3, rfl, hown3, hb3⟩
  have hb03 := below_any hb02 hb3
  have HB3 : Hid (Bytes w3 (.slice a3 L.length c3) L) := Bytes.own hown3 HLR.out
  clear hown3
  go_wp2_with fail
  refine (HD.out w3).mono ?_
  rintro e w4 ⟨rfl, hb4⟩
  have hb04 := below_any hb03 hb4
  go_wp2_with fail
  refine (HRD.out w4).mono ?_
  rintro e w5 ⟨rfl, hb5⟩
  have hb05 := below_any hb04 hb5
  have HA5 : Hid (Arg w5 v1 l) := (((HA1.out.below hb2).below hb3).below hb4).below hb5
  go_wp2_with fail
  refine (HX.out v1 w5 HA5.out).mono ?_
  rintro e w6 ⟨rfl, hb6⟩
  have hb06 := below_any hb05 hb6
  go_wp2_with fail
  refine (HRX.out v w6 (HV.out.below hb06)).mono ?_
  rintro e w7 ⟨rfl, hb7⟩
  have hb07 := below_any hb06 hb7
  have HY : Hid (Bytes w7 (.slice a2 L.length c2) L) := ((((HB2.out.below hb3).below hb4).below hb5).below hb6).below hb7
  have HZ : Hid (Bytes w7 (.slice a3 L.length c3) L) := (((HB3.out.below hb4).below hb5).below hb6).below hb7
  have HO : Hid (Bytes w7 v1 l) := ((HA5.out.below hb6).below hb7).bytes
  have HP : Hid (Bytes w7 v l) := (HV.out.below hb07).bytes
  clear hb1 hb2 hb3 hb4 hb5 hb6 hb7 hb02 hb03 hb04 hb05 hb06
  go_wp2_with fail
  refine (same_true _ _ L w7 HY.out HZ.out).mono ?_
  rintro e w8 ⟨rfl, q, rfl⟩
  go_wp2_with (go_at_call 17; refine (num_any _ _).mono ?_; rintro e w3 ⟨rfl, rfl⟩)
  refine (same_true _ _ l _ (HO.out.drewN q) (HP.out.drewN q)).mono ?_
  rintro e w9 ⟨rfl, q', rfl⟩
  go_wp2_with (go_at_call 18; refine (alive_any _).mono ?_; rintro e w10 ⟨rfl, hb10⟩)
  go_ret
  exact ⟨rfl, below_any (below_drewN hb07 (q + q')) hb10⟩

theorem one_le {H : Type} (d : DataW H) : 1 ≤ Rows.uptoBulk d := by
  cases d with
  | lit l => cases l <;> simp [Rows.uptoBulk]
  | nil => simp [Rows.uptoBulk]
  | ptr d => simp [Rows.uptoBulk]
  | slice elems spare => simp [Rows.uptoBulk]
  | agg parts => simp [Rows.uptoBulk]
  | iface t d => simp [Rows.uptoBulk]
  | map entries => simp [Rows.uptoBulk]
  | held h => simp [Rows.uptoBulk]

theorem length_le {H : Type} (l : List (DataW H)) : l.length ≤ Rows.uptoBulkAll l := by
  induction l with
  | nil => simp [Rows.uptoBulkAll]
  | cons x r ih => have := one_le x; simp only [Rows.uptoBulkAll, List.length_cons]; omega

/-- What the bound gives: the lengths of the octets and of the text. -/
theorem short {H : Type} {d0 d1 : DataW H} {l : List Int} {s : ByteArray} (hk : Rows.uptoSmall H [d0, d1, .lit (.string s.data.toList)] = true) (hx : (d1 = .nil ∧ l = []) ∨ ∃ rest, d1 = .slice (lits .u8 l) rest) :
    l.length ≤ 1048576 ∧ s.size ≤ 1048576 := by
  have h : Rows.uptoBulkAll [d0, d1, DataW.lit (H := H) (.string s.data.toList)] ≤ 1048576 := of_decide_eq_true hk
  simp only [Rows.uptoBulkAll] at h
  have hs : Rows.uptoBulk (DataW.lit (H := H) (.string s.data.toList)) = s.data.toList.length + 1 := by simp only [Rows.uptoBulk]
  have e : s.data.toList.length = s.size := by rw [Array.length_toList]; rfl
  rcases hx with ⟨_, rfl⟩ | ⟨rest, rfl⟩
  · exact ⟨by simp, by omega⟩
  · have h1 := length_le (lits (H := H) .u8 l)
    have h2 : (lits (H := H) .u8 l).length = l.length := by simp [lits]
    have h3 : Rows.uptoBulk (DataW.slice (lits (H := H) .u8 l) rest) = Rows.uptoBulkAll (lits (H := H) .u8 l) + Rows.uptoBulkAll rest + 1 := by simp only [Rows.uptoBulk]
    omega

theorem contract (H : Type) (enc : TypeId × Value → H) (W : World) (base : Nat) (args : Array Value) (ds gs : List (DataW H)) (before : List MemPlace)
    (hval : ∀ (j : Nat) t v, Try.f4.params[j]? = some t → args[j]? = some v → Value.okWide Try.prog W .any base t v)
    (hW : DataW.Whole enc Try.prog Try.f4.params.toList Rows.octetsTextsSpec.vars false W args.toList ds gs before) (hk : Rows.uptoSmall H (ds ++ gs) = true) :
    Calls Try.prog 4 args W fun e W' => ∃ v, e = .returned v ∧ Rows.octetsTextsSpec.post enc Try.prog Try.f4 false true false false W args v W' := by
  have hW' := hW
  obtain ⟨p, q, hA0, hV, rfl, hfz, hnd⟩ := hW
  have hA : DataW.TrodAll enc Try.prog W 0 (fun _ => true) true Try.f4.params.toList args.toList ds p := hA0
  rw [Try.params4] at hA hval
  obtain ⟨v0, vs0, d0, ds0, p0, q0, hargs, rfl, rfl, h0, r0⟩ := trodAll_cons hA
  obtain ⟨v1, vs1, d1, ds1, p1, q1, rfl, rfl, rfl, h1, r1⟩ := trodAll_cons r0
  obtain ⟨v2, vs2, d2, ds2, p2, q2, rfl, rfl, rfl, h2, r2⟩ := trodAll_cons r1
  obtain ⟨rfl, rfl, rfl⟩ := trodAll_nil r2
  obtain rfl : args = #[v0, v1, v2] := by cases args; simp_all
  obtain ⟨rfl, rfl⟩ := trodVars_none hV
  obtain ⟨a0, rfl, rfl, rfl, w0⟩ := open_int Try.underlying3 (hval 0 3 v0 rfl rfl) h0
  obtain ⟨a1, len1, cap1, rfl⟩ := okWide_slice Try.underlying23 (hval 1 23 v1 rfl rfl)
  have k1 := h1
  have lt1 : ∀ x ∈ p1, x.block < W.heap.size := by obtain ⟨m, hm⟩ := k1; exact DataW.trod_lt m _ _ _ hm
  obtain ⟨l1, A1, D1⟩ := arg_of h1
  obtain ⟨a2, rfl, rfl, rfl, w2⟩ := open_string Try.underlying9 (hval 2 9 v2 rfl rfl) h2
  clear hA0
  obtain ⟨s1, s2⟩ := short hk D1
  have b0 := bounds_i64 w0
  refine (walk a0 _ l1 a2 W b0.1 b0.2 A1 s1 s2).mono fun e W' ⟨he, bel⟩ => ?_
  subst he
  exact ⟨_, rfl, _, _, _, [], _, [], hW', trodAll_mk1 (shut_bool Try.underlying4 _), (trodAll_cons_mk (shut_int Try.underlying3 w0) (trodAll_cons_mk (Below.trod laidOut (by kernel_rfl) (of_decide_eq_true (by kernel_rfl)) k1 bel lt1) (trodAll_cons_mk (shut_string Try.underlying9 w2) trodAll_mk0))), rfl, bel.frame _, fun h => by cases h⟩

set_option maxRecDepth 100000 in
theorem lifted (os : Os) (started : os.Started) (H : Type) (enc : TypeId × Value → H) (F : Stop.Interp) :
    ReturnsInHanded {} Try.checked os 4 .any ((Rows.OpenSpec.upto Rows.octetsTextsSpec).pre6 enc Try.prog Try.f4 Rows.octetsTextsUptoRow.domain false) (((Rows.OpenSpec.upto Rows.octetsTextsSpec).at F).post enc Try.prog Try.f4 false true false false) := by
  refine returnsInHanded_of_cond (C := Try.checked) (s := Rows.OpenSpec.upto Rows.octetsTextsSpec) (k := Rows.uptoSmall) rfl own started (by kernel_rfl) Try.func4
    (OpenSpec.witness (enc := enc) (C := Try.checked) (s := Rows.OpenSpec.upto Rows.octetsTextsSpec) (k := Rows.uptoSmall) rfl false ⟨#[], #[.int .i64 0, .slice none 0 0, .string .empty], []⟩ 8 (by kernel_rfl) (by kernel_rfl) (by kernel_rfl)
      (x := ([.lit (.int .i64 0), .nil, .lit (.string [])], [], [])) (by kernel_rfl) rfl (by kernel_rfl)) ?_
  intro W base args ds gs before hval hW _ hk _
  exact contract H enc W base args ds gs before hval hW hk

theorem over : Rows.OctetsTextsUptoSaid :=
  OpenClaim.holds_of_cond 4 Try.f4 rfl rfl rfl rfl rfl rfl rfl ⟨rfl, rfl, rfl, rfl, rfl⟩ rfl rfl rfl rfl rfl (by kernel_rfl) Try.func4 (by kernel_rfl)
    (of_decide_eq_true (by kernel_rfl)) (by unfold Func.isWrapper; first | (rw [if_pos (by decide +kernel)]; kernel_rfl) | (rw [if_neg (by decide +kernel)]; exact ⟨rfl, rfl⟩))
    (fun os started H enc _ F => lifted os started H enc F)

end Go.Proofs.Ytiinboedojjbkaa.octetsTexts

namespace Go.Proofs.Ytiinboedojjbkaa
theorem octetsTexts_upto_holds : Rows.OctetsTextsUptoSaid := octetsTexts.over
#print axioms octetsTexts_upto_holds
end Go.Proofs.Ytiinboedojjbkaa
