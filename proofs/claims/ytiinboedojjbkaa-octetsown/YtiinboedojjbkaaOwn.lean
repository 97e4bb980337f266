/-
  OctetsOwn, proved: for every uint64 and every text (as great as the form reads it): the call returns true, and changes nothing that was in memory. No condition of its own.
-/
import Derived.Test.YtiinboedojjbkaaRefPut
import Derived.Test.YtiinboedojjbkaaRefUnhex
import Derived.Test.YtiinboedojjbkaaArg
namespace Go.Proofs.Ytiinboedojjbkaa.octetsOwn
open Go.ChangeShapes Go.WideShapes Go.ChangeAt Go.RowKit
open Go.ChangeMaps (open_string shut_string)
set_option linter.unusedVariables false

/-- A row that the call owns stays, where another one is written over. -/
theorem owns_far {w w' : World} {base base' : Nat} {v u : Value} {n m : Nat} {xs ys : List Value} (hv : w.ownsRow base' 5 1 v n xs) (hu : u.ownBlock = none ∨ ∃ g, u.ownBlock = some g ∧ g < base') (hg : w.grownBy w' u.ownBlock) : w'.ownsRow base' 5 1 v n xs := by
  obtain ⟨h1, h2⟩ := hv
  refine ⟨h1, ?_⟩
  rcases h2 with h2 | ⟨g, cap, cur, a, b, c, d⟩
  · exact .inl h2
  · have hlt : g < w.heap.size := (Array.getElem?_eq_some_iff.1 c).1
    refine .inr ⟨g, cap, cur, a, b, ?_, d⟩
    rw [hg.block g hlt ?_]
    · exact c
    · intro e
      rcases hu with h | ⟨g', h, hlt'⟩
      · rw [h] at e; cases e
      · rw [h] at e; cases e; omega

theorem runhex_all (s : ByteArray) (w : World) (hs : s.size ≤ 140737488355328) :
    Calls Try.prog 20 #[.string s] w fun e w' => ∃ a cap, e = .returned (.tuple #[.slice a (uout (lets s)).length cap, .int .i64 (uerr (lets s))]) ∧
      w'.ownsRow w.heap.size 5 1 (.slice a (uout (lets s)).length cap) (uout (lets s)).length ((uout (lets s)).map (Value.int .u8)) ∧ Below w.heap.size w w' := by
  refine (runhex_any s w hs).mono ?_
  rintro e w' ⟨v, rfl, hown, hb⟩
  obtain ⟨a, cap, rfl⟩ := own_shape hown
  exact ⟨a, cap, rfl, hown, hb⟩

theorem below_grown {w a b : World} {row : Option Nat} (h : Below w.heap.size w a) (hg : a.grownBy b row) (hr : ∀ k, row = some k → w.heap.size ≤ k) : Below w.heap.size w b := h.grown hg h.size hr

set_option maxHeartbeats 1000000 in
theorem walk (n : Int) (s : ByteArray) (w : World) (h0 : 0 ≤ n) (h1 : n ≤ 18446744073709551615) (hs : s.size ≤ 140737488355328) :
    Calls Try.prog 8 #[.int .u64 n, .string s] w fun e w' => e = .returned (.bool true) ∧ Below w.heap.size w w' := by
  obtain ⟨L, hL⟩ : ∃ L, L = uout (lets s) := ⟨_, rfl⟩
  obtain ⟨ue, hue⟩ : ∃ ue, ue = uerr (lets s) := ⟨_, rfl⟩
  have HU : Hid (∀ w, Calls Try.prog 19 #[.string s] w fun e w' => ∃ a cap, e = .returned (.tuple #[.slice a L.length cap, .int .i64 ue]) ∧ w'.ownsRow w.heap.size 5 1 (.slice a L.length cap) L.length (L.map (Value.int .u8)) ∧ Below w.heap.size w w') := by
    rw [hL, hue]; exact fun w => unhex_all s w (by omega)
  have HRU : Hid (∀ w, Calls Try.prog 20 #[.string s] w fun e w' => ∃ a cap, e = .returned (.tuple #[.slice a L.length cap, .int .i64 ue]) ∧ w'.ownsRow w.heap.size 5 1 (.slice a L.length cap) L.length (L.map (Value.int .u8)) ∧ Below w.heap.size w w') := by
    rw [hL, hue]; exact fun w => runhex_all s w hs
  have HLR : Hid (∀ x ∈ L, 0 ≤ x ∧ x ≤ 255) := by rw [hL]; exact uout_range _
  obtain ⟨N, hN⟩ : ∃ N, N = pout n 9 := ⟨_, rfl⟩
  obtain ⟨pe, hpe⟩ : ∃ pe, pe = perr n 9 := ⟨_, rfl⟩
  have HP : Hid (∀ w, Calls Try.prog 10 #[.int .u64 n, .int .i64 9] w fun e w' => ∃ a cap, e = .returned (.tuple #[.slice a N.length cap, .int .i64 pe]) ∧ w'.ownsRow w.heap.size 5 1 (.slice a N.length cap) N.length (N.map (Value.int .u8)) ∧ Below w.heap.size w w') := by
    rw [hN, hpe]; exact fun w => put_all n 9 w h0 h1
  have HRP : Hid (∀ w, Calls Try.prog 11 #[.int .u64 n, .int .i64 9] w fun e w' => ∃ a cap, e = .returned (.tuple #[.slice a N.length cap, .int .i64 pe]) ∧ w'.ownsRow w.heap.size 5 1 (.slice a N.length cap) N.length (N.map (Value.int .u8)) ∧ Below w.heap.size w w') := by
    rw [hN, hpe]; exact fun w => rput_all n 9 w h0 h1
  have HNR : Hid (∀ x ∈ N, 0 ≤ x ∧ x ≤ 255) := by rw [hN]; exact pout_range _ _
  clear hL hue hN hpe
  go_enter Try.func8, Try.ntmps8
  go_wp2_with (go_at_call 18; refine (alive_any _).mono ?_; rintro e w1 ⟨rfl, hb1⟩)
  refine (HP.out w1).mono ?_
  rintro e w2 ⟨a2, c2, rfl, hown2, hb2⟩
  have hb02 := below_any hb1 hb2
  go_wp2_with fail
  refine (HU.out w2).mono ?_
  rintro e w3 ⟨a3, c3, rfl, hown3, hb3⟩
  have hb03 := below_any hb02 hb3
  have HO2 : Hid (w3.ownsRow w1.heap.size 5 1 (.slice a2 N.length c2) N.length (N.map (Value.int .u8))) := by
    obtain ⟨g1, g2⟩ := hown2
    refine ⟨g1, ?_⟩
    rcases g2 with g2 | ⟨g, cap, cur, a, b, c, d⟩
    · exact .inl g2
    · exact .inr ⟨g, cap, cur, a, b, by rw [hb3.block g (Array.getElem?_eq_some_iff.1 c).1]; exact c, d⟩
  have HF2 : Hid ((Value.slice a2 N.length c2).ownBlock = none ∨ ∃ g, (Value.slice a2 N.length c2).ownBlock = some g ∧ g < w2.heap.size) := by
    show _ ∨ _
    cases hq : (Value.slice a2 N.length c2).ownBlock with
    | none => exact .inl rfl
    | some g => exact .inr ⟨g, rfl, (hown2.lt g hq).2⟩
  have HF3 : Hid (∀ k, (Value.slice a2 N.length c2).ownBlock = some k → w.heap.size ≤ k) := fun k hk => Nat.le_trans hb1.size (hown2.lt k hk).1
  have HF4 : Hid (∀ k, (Value.slice a3 L.length c3).ownBlock = some k → w.heap.size ≤ k) := fun k hk => Nat.le_trans hb02.size (hown3.lt k hk).1
  have HO3 : Hid (w3.ownsRow w2.heap.size 5 1 (.slice a3 L.length c3) L.length (L.map (Value.int .u8))) := hown3
  clear hown2 hown3
  go_wp2_with fail
  refine (spoil_any _ _ N w3 HO2.out).mono ?_
  rintro e w4 ⟨rfl, hg4⟩
  have HO4 : Hid (w4.ownsRow w2.heap.size 5 1 (.slice a3 L.length c3) L.length (L.map (Value.int .u8))) := owns_far (base := 0) (m := 0) (ys := []) HO3.out HF2.out hg4
  have hb04 := below_grown hb03 hg4 HF3.out
  clear hg4
  go_wp2_with fail
  refine (spoil_any _ _ L w4 HO4.out).mono ?_
  rintro e w5 ⟨rfl, hg5⟩
  have hb05 := below_grown hb04 hg5 HF4.out
  clear hg5
  go_wp2_with fail
  refine (HP.out w5).mono ?_
  rintro e w6 ⟨a6, c6, rfl, hown6, hb6⟩
  have hb06 := below_any hb05 hb6
  have HB6 : Hid (Bytes w6 (.slice a6 N.length c6) N) := Bytes.own hown6 HNR.out
  clear hown6
  go_wp2_with fail
  refine (HU.out w6).mono ?_
  rintro e w7 ⟨a7, c7, rfl, hown7, hb7⟩
  have hb07 := below_any hb06 hb7
  have HB7 : Hid (Bytes w7 (.slice a7 L.length c7) L) := Bytes.own hown7 HLR.out
  clear hown7
  go_wp2_with fail
  refine (HRP.out w7).mono ?_
  rintro e w8 ⟨a8, c8, rfl, hown8, hb8⟩
  have hb08 := below_any hb07 hb8
  have HB8 : Hid (Bytes w8 (.slice a8 N.length c8) N) := Bytes.own hown8 HNR.out
  clear hown8
  go_wp2_with fail
  refine (HRU.out w8).mono ?_
  rintro e w9 ⟨a9, c9, rfl, hown9, hb9⟩
  have hb09 := below_any hb08 hb9
  have HB9 : Hid (Bytes w9 (.slice a9 L.length c9) L) := Bytes.own hown9 HLR.out
  have HX : Hid (Bytes w9 (.slice a6 N.length c6) N) := ((HB6.out.below hb7).below hb8).below hb9
  have HY : Hid (Bytes w9 (.slice a8 N.length c8) N) := HB8.out.below hb9
  have HZ : Hid (Bytes w9 (.slice a7 L.length c7) L) := (HB7.out.below hb8).below hb9
  clear hown9 hb1 hb2 hb3 hb6 hb7 hb8 hb9 hb02 hb03 hb04 hb05 hb06 hb07 hb08
  go_wp2_with fail
  refine (same_true _ _ N w9 HX.out HY.out).mono ?_
  rintro e w10 ⟨rfl, q, rfl⟩
  go_wp2_with fail
  refine (same_true _ _ L _ (HZ.out.drewN q) (HB9.out.drewN q)).mono ?_
  rintro e w11 ⟨rfl, q', rfl⟩
  go_wp2
  go_ret
  exact ⟨rfl, below_drewN hb09 (q + q')⟩

set_option maxRecDepth 100000 in
theorem lifted (os : Os) (started : os.Started) (H : Type) (enc : TypeId × Value → H) :
    ReturnsInHanded {} Try.checked os 8 .any (Rows.octetsOwnSpec.pre6 enc Try.prog Try.f8 Rows.octetsOwnRow.domain false) (Rows.octetsOwnSpec.post enc Try.prog Try.f8 false true false false) := by
  refine returnsInHanded_of_change_sized (C := Try.checked) own started (by kernel_rfl) Try.func8
    (ChangeSpec.witness6 (enc := enc) (C := Try.checked) false ⟨#[], #[.int .u64 0, .string ByteArray.empty], []⟩ 8 (by kernel_rfl) (by kernel_rfl) (by kernel_rfl) (by kernel_rfl)) ?_
  intro W base args ds gs before hval0 hW hcnd hsz0 _
  have hval : ∀ (j : Nat) t v, Try.f8.params[j]? = some t → args[j]? = some v → Value.okWide Try.prog W .any base t v := hval0
  have hW' := hW
  obtain ⟨p, q, hA0, hV, rfl, hfz, hnd⟩ := hW
  have hA : DataW.TrodAll enc Try.prog W 0 (fun _ => true) true Try.f8.params.toList args.toList ds p := hA0
  have hsz : (DataW.weightsEach Try.prog (Try.f8.params.toList ++ Rows.octetsOwnSpec.plain.varTypes Try.prog) (ds ++ gs)).all (· ≤ reachBytes) = true := hsz0
  clear hsz0
  rw [Try.params8] at hA hval hsz
  obtain ⟨v0, vs0, d0, ds0, p0, q0, hargs, rfl, rfl, h0, r0⟩ := trodAll_cons hA
  obtain ⟨v1, vs1, d1, ds1, p1, q1, rfl, rfl, rfl, h1, r1⟩ := trodAll_cons r0
  obtain ⟨rfl, rfl, rfl⟩ := trodAll_nil r1
  obtain rfl : args = #[v0, v1] := by cases args; simp_all
  obtain ⟨rfl, rfl⟩ := trodVars_none hV
  obtain ⟨a0, rfl, rfl, rfl, w0⟩ := open_int Try.underlying22 (hval 0 22 v0 rfl rfl) h0
  obtain ⟨a1, rfl, rfl, rfl, w1⟩ := open_string Try.underlying9 (hval 1 9 v1 rfl rfl) h1
  have s1 : a1.size ≤ 140737488351232 := by
    have := sized_string hsz (j := 1) (t := 9) rfl rfl
    simpa [reachBytes] using this
  have b0 := bounds_u64 w0
  clear hA0 hval0
  refine (walk a0 a1 W b0.1 b0.2 (by omega)).mono fun e W' ⟨he, bel⟩ => ?_
  subst he
  exact ⟨_, rfl, _, _, _, [], [], [], hW', trodAll_mk1 (shut_bool Try.underlying4 _), (trodAll_cons_mk (shut_int Try.underlying22 w0) (trodAll_cons_mk (shut_string Try.underlying9 w1) trodAll_mk0)), rfl, bel.frame _, fun h => by cases h⟩

theorem over : Rows.octetsOwnRow.holds Try.pinned (OpenSpec.ofChange Rows.octetsOwnSpec) :=
  OpenClaim.holds_of_wide 8 Try.f8 rfl rfl rfl rfl rfl rfl rfl ⟨rfl, rfl, rfl, rfl, rfl⟩ rfl rfl rfl rfl rfl (by kernel_rfl) Try.func8 (by kernel_rfl)
    (of_decide_eq_true (by kernel_rfl)) (by unfold Func.isWrapper; first | (rw [if_pos (by decide +kernel)]; kernel_rfl) | (rw [if_neg (by decide +kernel)]; exact ⟨rfl, rfl⟩))
    (fun os started H enc _ => lifted os started H enc)

end Go.Proofs.Ytiinboedojjbkaa.octetsOwn

namespace Go.Proofs.Ytiinboedojjbkaa
theorem octetsOwn_holds : Rows.OctetsOwnSaid := octetsOwn.over
#print axioms octetsOwn_holds
end Go.Proofs.Ytiinboedojjbkaa
