/-
  CrcOwn, proved: for every octets (as great as the form reads them): the call returns true, and changes nothing that was in memory. No condition of its own.
-/
import Derived.Test.YtcmiaapcnmcpmaaSpoil
import Derived.Test.YtcmiaapcnmcpmaaArg
namespace Go.Proofs.Ytcmiaapcnmcpmaa.crcOwn
open Go.ChangeShapes Go.WideShapes Go.ChangeAt Go.RowKit
set_option linter.unusedVariables false

set_option maxHeartbeats 1000000 in
theorem walk (v : Value) (l : List Int) (w : World) (hv : Arg w v l) (hs : l.length ≤ 140737488351232) :
    Calls Try.prog 8 #[v] w fun e w' => e = .returned (.bool true) ∧ Below w.heap.size w w' := by
  have HV : Hid (Arg w v l) := hv
  have HR : Hid (Oct l) := hv.bytes.2.2
  obtain ⟨oe, ho⟩ : ∃ L, L = sealed l := ⟨_, rfl⟩
  have HOP := open_sealed l HR.out
  rw [← ho] at HOP
  have HO1 : Hid (oerr oe = 0 ∧ oout oe = l) := HOP
  have HOO : Hid (Oct oe) := by show Oct oe; rw [ho]; exact sealed_oct l HR.out
  have HOL : Hid (oe.length = l.length + 4) := by show _ = _; rw [ho]; exact sealed_length l
  have HSL : Hid (∀ w v, Arg w v l → Calls Try.prog 17 #[v] w fun e w' => e = .returned (.slice (some ⟨w.heap.size, 0, none⟩) (l.length + 4) (l.length + 4)) ∧ w'.ownsRow w.heap.size 5 1 (.slice (some ⟨w.heap.size, 0, none⟩) (l.length + 4) (l.length + 4)) (l.length + 4) (oe.map (Value.int .u8)) ∧ Below w.heap.size w w') := fun w v h => by
    rw [ho]; exact seal_any v l w h (by omega)
  clear hv HOP ho
  go_enter Try.func8, Try.ntmps8
  go_wp2_with fail
  refine (alive_any w).mono ?_
  rintro e w1 ⟨rfl, hb1⟩
  go_wp2_with fail
  refine (copy_any v l w1 (HV.out.below hb1) (by omega)).mono ?_
  rintro e w2 ⟨⟨v2, rfl, hown2⟩, hb2⟩
  have hb02 := below_any hb1 hb2
  go_wp2_with fail
  refine (HSL.out w2 v2 (Arg.own hown2 HR.out)).mono ?_
  rintro e w3 ⟨rfl, hown3, hb3⟩
  have hb03 := below_any hb02 hb3
  have HX3 : Hid (w3.ownsRow w2.heap.size 5 1 (.slice (some ⟨w2.heap.size, 0, none⟩) (l.length + 4) (l.length + 4)) (l.length + 4) (oe.map (Value.int .u8))) := hown3
  have HV3 : Hid (w3.ownsRow w1.heap.size 5 1 v2 l.length (l.map (Value.int .u8))) := own_below hown2 hb3
  have HF2 : Hid (v2.ownBlock = none ∨ ∃ g, v2.ownBlock = some g ∧ g < w2.heap.size) := by
    show _ ∨ _
    cases hq : v2.ownBlock with
    | none => exact .inl rfl
    | some g => exact .inr ⟨g, rfl, (hown2.lt g hq).2⟩
  have HF3 : Hid (∀ k, v2.ownBlock = some k → w.heap.size ≤ k) := fun k hk => Nat.le_trans hb1.size (hown2.lt k hk).1
  clear hown2 hown3 hb2 hb3
  go_wp2_with fail
  refine (spoil_any _ v2 l w3 HV3.out).mono ?_
  rintro e w4 ⟨rfl, hg4⟩
  have hb04 := below_grown hb03 hg4 HF3.out
  have HX4 : Hid (w4.ownsRow w2.heap.size 5 1 (.slice (some ⟨w2.heap.size, 0, none⟩) (l.length + 4) (l.length + 4)) (l.length + 4) (oe.map (Value.int .u8))) := owns_far HX3.out HF2.out hg4
  have HA4 : Hid (Arg w4 (.slice (some ⟨w2.heap.size, 0, none⟩) (l.length + 4) (l.length + 4)) oe) := Arg.own (base := w2.heap.size) (by rw [HOL.out]; exact HX4.out) HOO.out
  have HLT : Hid (w2.heap.size < w4.heap.size) := (HX4.out.lt w2.heap.size rfl).2
  clear hg4 HX3 HV3 HF2 HF3
  go_wp2_with fail
  refine (open_any _ oe w4 HA4.out (by rw [HOL.out]; omega)).mono ?_
  rw [HO1.out.1, HO1.out.2]
  rintro e w5 ⟨a5, c5, rfl, hown5, hb5⟩
  have hb05 := below_any hb04 hb5
  have HX5 : Hid (w5.ownsRow w2.heap.size 5 1 (.slice (some ⟨w2.heap.size, 0, none⟩) oe.length (l.length + 4)) oe.length (oe.map (Value.int .u8))) := by
    show World.ownsRow _ _ _ _ _ _ _
    rw [HOL.out]; exact own_below HX4.out hb5
  have HT5 : Hid (w5.ownsRow w4.heap.size 5 1 (.slice a5 l.length c5) l.length (l.map (Value.int .u8))) := hown5
  have HSP : Hid (∀ P, Calls Try.prog 21 #[.slice (some ⟨w2.heap.size, 0, none⟩) oe.length (l.length + 4)] w5 P → Calls Try.prog 21 #[.slice (some ⟨w2.heap.size, 0, none⟩) (l.length + 4) (l.length + 4)] w5 P) := fun P h => by
    rw [HOL.out] at h; exact h
  clear hown5 hb5 HX4 HA4
  go_wp2_with fail
  refine HSP.out _ ((spoil_any _ _ oe w5 HX5.out).mono ?_)
  rintro e w6 ⟨rfl, hg6⟩
  have HT6 : Hid (Bytes w6 (.slice a5 l.length c5) l) := Bytes.own (owns_far HT5.out (.inr ⟨_, rfl, HLT.out⟩) hg6) HR.out
  have hb06 := below_grown hb05 hg6 (fun k hk => by cases hk; exact hb02.size)
  have HV6 : Hid (Bytes w6 v l) := (HV.out.below hb06).bytes
  clear hg6 HX5 HT5
  go_wp2_with (go_at_call 19; refine (num_any _ _).mono ?_; rintro e w7 ⟨rfl, rfl⟩)
  refine (same_true _ _ l w6 HT6.out HV6.out).mono ?_
  rintro e w7 ⟨rfl, q, rfl⟩
  go_wp2
  go_ret
  exact ⟨rfl, below_drewN hb06 q⟩

set_option maxRecDepth 100000 in
theorem lifted (os : Os) (started : os.Started) (H : Type) (enc : TypeId × Value → H) :
    ReturnsInHanded {} Try.checked os 8 .any (Rows.crcOwnSpec.pre6 enc Try.prog Try.f8 Rows.crcOwnRow.domain false) (Rows.crcOwnSpec.post enc Try.prog Try.f8 false true false false) := by
  refine returnsInHanded_of_change_sized (C := Try.checked) own started (by kernel_rfl) Try.func8
    (ChangeSpec.witness6 (enc := enc) (C := Try.checked) false ⟨#[], #[.slice none 0 0], []⟩ 8 (by kernel_rfl) (by kernel_rfl) (by kernel_rfl) (by kernel_rfl)) ?_
  intro W base args ds gs before hval0 hW hcnd hsz0 _
  have hval : ∀ (j : Nat) t v, Try.f8.params[j]? = some t → args[j]? = some v → Value.okWide Try.prog W .any base t v := hval0
  have hW' := hW
  obtain ⟨p, q, hA0, hV, rfl, hfz, hnd⟩ := hW
  have hA : DataW.TrodAll enc Try.prog W 0 (fun _ => true) true Try.f8.params.toList args.toList ds p := hA0
  have hsz : (DataW.weightsEach Try.prog (Try.f8.params.toList ++ Rows.crcOwnSpec.plain.varTypes Try.prog) (ds ++ gs)).all (· ≤ reachBytes) = true := hsz0
  clear hsz0
  rw [Try.params8] at hA hval hsz
  obtain ⟨v0, vs0, d0, ds0, p0, q0, hargs, rfl, rfl, h0, r0⟩ := trodAll_cons hA
  obtain ⟨rfl, rfl, rfl⟩ := trodAll_nil r0
  obtain rfl : args = #[v0] := by cases args; simp_all
  obtain ⟨rfl, rfl⟩ := trodVars_none hV
  obtain ⟨a0, len0, cap0, rfl⟩ := okWide_slice Try.underlying22 (hval 0 22 v0 rfl rfl)
  have k0 := h0
  have lt0 : ∀ x ∈ p0, x.block < W.heap.size := by obtain ⟨m, hm⟩ := k0; exact DataW.trod_lt m _ _ _ hm
  obtain ⟨l0, A0, D0⟩ := arg_of h0
  have s0 := arg_len hsz (j := 0) rfl rfl D0
  clear hA0 hval0
  refine (walk _ l0 W A0 s0).mono fun e W' ⟨he, bel⟩ => ?_
  subst he
  exact ⟨_, rfl, _, _, _, [], _, [], hW', trodAll_mk1 (shut_bool Try.underlying4 _), (trodAll_cons_mk (Below.trod laidOut (by kernel_rfl) (of_decide_eq_true (by kernel_rfl)) k0 bel lt0) trodAll_mk0), rfl, bel.frame _, fun h => by cases h⟩

theorem over : Rows.crcOwnRow.holds Try.pinned (OpenSpec.ofChange Rows.crcOwnSpec) :=
  OpenClaim.holds_of_wide 8 Try.f8 rfl rfl rfl rfl rfl rfl rfl ⟨rfl, rfl, rfl, rfl, rfl⟩ rfl rfl rfl rfl rfl (by kernel_rfl) Try.func8 (by kernel_rfl)
    (of_decide_eq_true (by kernel_rfl)) (by unfold Func.isWrapper; first | (rw [if_pos (by decide +kernel)]; kernel_rfl) | (rw [if_neg (by decide +kernel)]; exact ⟨rfl, rfl⟩))
    (fun os started H enc _ => lifted os started H enc)

end Go.Proofs.Ytcmiaapcnmcpmaa.crcOwn

namespace Go.Proofs.Ytcmiaapcnmcpmaa
theorem crcOwn_holds : Rows.CrcOwnSaid := crcOwn.over
#print axioms crcOwn_holds
end Go.Proofs.Ytcmiaapcnmcpmaa
