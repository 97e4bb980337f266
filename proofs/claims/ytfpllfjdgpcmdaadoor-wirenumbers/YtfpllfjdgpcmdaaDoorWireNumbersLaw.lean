/-
  WireNumbers, proved: for every two numbers: the call returns true, and changes nothing that was in memory; the one listed variable (the handle of the type of errors) starts as the program's text lays it, which the card ties.
-/
import Derived.Test.YtfpllfjdgpcmdaaDoorAlive
import Derived.Test.YtfpllfjdgpcmdaaDoorBackMath
import Derived.Test.YtfpllfjdgpcmdaaDoorCards
import Derived.Test.YtfpllfjdgpcmdaaDoorTie
import Derived.Deep.DeepHandedRow
namespace Go.Proofs.YtfpllfjdgpcmdaaDoor.wireNumbers
open Go.ChangeShapes Go.WideShapes Go.ChangeAt Go.RowKit
set_option linter.unusedVariables false

theorem chk_one (n : Int) : chkR (0, [n], []) = 0 := by
  unfold chkR
  simp
theorem len_one (n : Int) : (encO (0, [n], [])).length = (grp (fold n)).length + 7 := by
  unfold encO
  rw [if_pos (chk_one n), C.sealed_length]
  simp [laidR, laidN, laidT]

set_option maxRecDepth 100000 in
set_option maxHeartbeats 2000000 in
/-- A record of one number, as the statement builds it. -/
theorem enc_one (n : Int) (hn : I64 n) (w : World) : Calls Tryd.prog 11 #[.agg #[.int .i64 0, .slice (some ⟨w.heap.size, 0, none⟩) 1 1, .slice none 0 0]] (w.alloc (.cells #[.int .i64 n] 3)) fun e w' => (∃ a c, e = .returned (.tuple #[.slice a (encO (0, [n], [])).length c, .int .i64 0]) ∧ Own1 w.heap.size w' (.slice a (encO (0, [n], [])).length c) (encO (0, [n], []))) ∧ Below w.heap.size w w' := by
  have hb : Below w.heap.size w (w.alloc (.cells #[.int .i64 n] 3)) := (Below.refl _ w).alloc (Nat.le_refl _) _
  have hI : intsS.owns w.heap.size (w.alloc (.cells #[.int .i64 n] 3)) [.slice (some ⟨w.heap.size, 0, none⟩) 1 1] [n] :=
    ints_lit w [n] w.heap.size (Nat.le_refl _) (by simp [maxLen]) (fun x hx => by rw [List.mem_singleton.1 hx]; exact hn)
  have HE := enc_any 0 _ (0, [n], []) _ (rec_mk (intsS.weaken (intsS.olies hI) (Nat.zero_le _)) (textsS.olies (Shape.list_nil bytesS 23 Tryd.underlying23 cells23 0 _)) ⟨by simp, by simp⟩)
  rw [chk_one] at HE
  refine HE.mono ?_
  rintro e w' ⟨⟨a, c, he, ho⟩, hb2⟩
  exact ⟨⟨a, c, he, bytesS.oweaken ho (by simp)⟩, below_any hb hb2⟩

set_option maxRecDepth 100000 in
set_option maxHeartbeats 8000000 in
theorem walk (n m : Int) (w : World) (hn : I64 n) (hm : I64 m) (hg : Glob w) :
    Calls Tryd.prog 7 #[.int .i64 n, .int .i64 m] w fun e w' => e = .returned (.bool true) ∧ Below w.heap.size w w' := by
  have HL : Hid (I64 n ∧ I64 m ∧ Glob w) := ⟨hn, hm, hg⟩
  have HA := alive_any w
  obtain ⟨hn1, hn2⟩ := hn
  obtain ⟨hm1, hm2⟩ := hm
  clear hg
  go_enter Tryd.func7, Tryd.ntmps7
  go_wp2_with fail
  refine HA.mono ?_
  rintro e w1 ⟨rfl, hb1⟩
  have HB1 : Hid (Below w.heap.size w w1) := hb1
  have HE := enc_one n HL.out.1 w1
  clear hb1 HA
  go_wp2_with fail
  refine HE.mono ?_
  rintro e w2 ⟨⟨a2, c2, rfl, ho2⟩, hb2⟩
  have HB2 : Hid (Below w.heap.size w w2) := below_any HB1.out hb2
  have HO2 : Hid (Own1 w1.heap.size w2 (.slice a2 (encO (0, [n], [])).length c2) (encO (0, [n], []))) := ho2
  have HE2 := enc_one m HL.out.2.1 w2
  obtain ⟨l2, hl2⟩ : ∃ y, y = (encO (0, [n], [])).length := ⟨_, rfl⟩
  rw [← hl2] at HO2 ⊢
  have HL2 : Hid (l2 = (encO (0, [n], [])).length) := hl2
  clear hb2 ho2 HE hl2
  go_wp2_with fail
  refine HE2.mono ?_
  rintro e w3 ⟨⟨a3, c3, rfl, ho3⟩, hb3⟩
  have HB3 : Hid (Below w.heap.size w w3) := below_any HB2.out hb3
  obtain ⟨l3, hl3⟩ : ∃ y, y = (encO (0, [m], [])).length := ⟨_, rfl⟩
  have HL3 : Hid (l3 = (encO (0, [m], [])).length) := hl3
  have hde := dec_enc (chk_one n) (fun x hx => by rw [List.mem_singleton.1 hx]; exact HL.out.1) (fun t ht => by cases ht)
  have hsz : l2 ≤ 1000000 ∧ l3 ≤ 1000000 := by
    refine ⟨?_, ?_⟩
    · rw [HL2.out]; exact enc_len (fun x hx => by rw [List.mem_singleton.1 hx]; exact HL.out.1)
    · rw [hl3]; exact enc_len (fun x hx => by rw [List.mem_singleton.1 hx]; exact HL.out.2.1)
  obtain ⟨hs2, hs3⟩ := hsz
  have HD := dec_any _ (.slice a2 l2 c2) (encO (0, [n], [])) w3 (bytesS.below HO2.out.arg hb3) (by rw [← HL2.out]; omega) (HL.out.2.2.below HB3.out HL.out.2.2.lt)
  rw [hde.1, hde.2] at HD
  rw [← hl3]
  clear hb3 ho3 HE2 hl3 hde
  go_wp2_with fail
  refine HD.mono ?_
  rintro e w5 ⟨⟨us5, rfl, ho5⟩, hb5⟩
  obtain ⟨ax, cx, ay, cy, rfl⟩ := rec_oview ho5
  obtain ⟨x5, y5, hu5, hI5, _, _⟩ := rec_own ho5
  have hx5 : x5 = .slice ax 1 cx := ((List.cons.inj (List.cons.inj hu5).2).1).symm
  subst hx5
  obtain ⟨W6, hW6⟩ : ∃ W6, W6 = w5.alloc (.cells #[.int .i64 0, .slice ax 1 cx, .slice ay 0 cy] 27) := ⟨_, rfl⟩
  have hb6 : Below w5.heap.size w5 W6 := by rw [hW6]; exact (Below.refl _ w5).alloc (Nat.le_refl _) _
  have hB6 : Box W6 w5.heap.size 27 #[.int .i64 0, .slice ax 1 cx, .slice ay 0 cy] := by rw [hW6]; exact Box.new w5 27 _
  have HB6 : Hid (Below w.heap.size w W6) := below_any (below_any HB3.out hb5) hb6
  obtain ⟨b0, o0, hix, gx, _⟩ := ints_at (intsS.below (intsS.olies hI5) hb6) 0 n rfl
  obtain ⟨s0, s1, s2, _⟩ := hB6.three
  have hl8 := run_len Tryd.underlying22 ax 1 cx
  have hq2 := run_len Tryd.underlying26 a2 l2 c2
  have hq3 := run_len Tryd.underlying26 a3 l3 c3
  have hixl : ∀ W, (Instr.indexAt 22 (.slice ax 1 cx) (.int .i64 0)).run Tryd.prog W = .ok (.pointer (some ⟨b0, o0, none⟩)) W := hix
  rw [hW6] at s0 s1 s2 gx HB6
  have HMN : Hid ((0 ≤ n ∧ 0 ≤ m ∧ n ≤ m) ∨ (n < 0 ∧ m < 0 ∧ m ≤ n) → l2 ≤ l3) := fun hq => by
    rw [HL2.out, HL3.out, len_one, len_one]
    have : fold n ≤ fold m := by unfold fold; split <;> split <;> omega
    have := grp_mono _ _ this
    omega
  clear ho5 hb5 hb6 hB6 hI5 hu5 HD hix hW6 hn1 hn2 hm1 hm2
  simp only [List.length_singleton, List.length_nil]
  by_cases c1 : 0 ≤ n ∧ 0 ≤ m ∧ n ≤ m
  · have hle : (l2 : Int) ≤ (l3 : Int) := by have := HMN.out (.inl c1); omega
    obtain ⟨d1, d2, d3⟩ := c1
    clear HMN
    go_wp2_with (go_at_call 16; refine (num_any _ _).mono ?_; rintro e w9 ⟨rfl, rfl⟩)
    go_ret
    exact ⟨rfl, HB6.out⟩
  by_cases c2' : n < 0 ∧ m < 0 ∧ m ≤ n
  · have hle : (l2 : Int) ≤ (l3 : Int) := by have := HMN.out (.inr c2'); omega
    obtain ⟨d1, d2, d3⟩ := c2'
    clear HMN c1
    go_wp2_with (go_at_call 16; refine (num_any _ _).mono ?_; rintro e w9 ⟨rfl, rfl⟩)
    go_ret
    exact ⟨rfl, HB6.out⟩
  clear HMN
  by_cases d1 : 0 ≤ n
  · by_cases d2 : 0 ≤ m
    · have d3 : ¬ n ≤ m := fun h => c1 ⟨d1, d2, h⟩
      clear c1 c2'
      go_wp2_with (go_at_call 16; refine (num_any _ _).mono ?_; rintro e w9 ⟨rfl, rfl⟩)
      go_ret
      exact ⟨rfl, HB6.out⟩
    · clear c1 c2'
      go_wp2_with (go_at_call 16; refine (num_any _ _).mono ?_; rintro e w9 ⟨rfl, rfl⟩)
      go_ret
      exact ⟨rfl, HB6.out⟩
  · by_cases d2 : 0 ≤ m
    · clear c1 c2'
      go_wp2_with (go_at_call 16; refine (num_any _ _).mono ?_; rintro e w9 ⟨rfl, rfl⟩)
      go_ret
      exact ⟨rfl, HB6.out⟩
    · have d3 : ¬ m ≤ n := fun h => c2' ⟨by omega, by omega, h⟩
      clear c1 c2'
      go_wp2_with (go_at_call 16; refine (num_any _ _).mono ?_; rintro e w9 ⟨rfl, rfl⟩)
      go_ret
      exact ⟨rfl, HB6.out⟩

set_option maxRecDepth 100000 in
theorem contract (H : Type) (enc : TypeId × Value → H) (W : World) (base : Nat) (args : Array Value) (ds gs : List (DataW H)) (before : List MemPlace)
    (hval0 : ∀ (j : Nat) t v, Tryd.f7.params[j]? = some t → args[j]? = some v → Value.okWide Tryd.prog W .any base t v)
    (hW : DataW.Whole enc Tryd.prog Tryd.f7.params.toList Rows.wireNumbersSpec.vars false W args.toList ds gs before) 
    (hsz0 : (DataW.weightsEach Tryd.prog (Tryd.f7.params.toList ++ Rows.wireNumbersSpec.plain.varTypes Tryd.prog) (ds ++ gs)).all (· ≤ reachBytes) = true) (hg : Glob W) :
    Calls Tryd.prog 7 args W fun e W' => ∃ v, e = .returned v ∧ Rows.wireNumbersSpec.post enc Tryd.prog Tryd.f7 false true false false W args v W' := by
  have hval := hval0
  have hW' := hW
  obtain ⟨p, q, hA0, hV, rfl, hfz, hnd⟩ := hW
  have hA : DataW.TrodAll enc Tryd.prog W 0 (fun _ => true) true Tryd.f7.params.toList args.toList ds p := hA0
  have hsz := hsz0
  clear hsz0
  rw [Tryd.params7] at hA hval hsz
  obtain ⟨v0, vs0, d0, ds0, p0, q0, hargs, rfl, rfl, h0, r0⟩ := trodAll_cons hA
  obtain ⟨v1, vs1, d1, ds1, p1, q1, rfl, rfl, rfl, h1, r1⟩ := trodAll_cons r0
  obtain ⟨rfl, rfl, rfl⟩ := trodAll_nil r1
  obtain rfl : args = #[v0, v1] := by cases args; simp_all
  obtain ⟨rfl, rfl⟩ := trodVars_none hV
  obtain ⟨a0, rfl, rfl, rfl, w0⟩ := open_int Tryd.underlying3 (hval 0 3 v0 rfl rfl) h0
  have b0 := bounds_i64 w0
  obtain ⟨a1, rfl, rfl, rfl, w1⟩ := open_int Tryd.underlying3 (hval 1 3 v1 rfl rfl) h1
  have b1 := bounds_i64 w1
  clear hA0 hval0
  refine (walk a0 a1 W b0 b1 hg).mono fun e W' ⟨he, bel⟩ => ?_
  subst he
  exact ⟨_, rfl, _, _, _, [], _, [], hW', trodAll_mk1 (shut_bool Tryd.underlying4 _), (trodAll_cons_mk (shut_int Tryd.underlying3 w0) (trodAll_cons_mk (shut_int Tryd.underlying3 w1) trodAll_mk0)), rfl, bel.frame _, fun h => by cases h⟩

theorem reads (os : Os) {H : Type} (enc : TypeId × Value → H) : ∃ places, DataW.whole enc Tryd.prog ((laidOf (World.holding Tryd.prog os ⟨#[], #[], []⟩)).forCall (fun _ _ => 0) ⟨#[], #[.int .i64 0, .int .i64 0], []⟩).memory Tryd.f7.params.toList Rows.wireNumbersSpec.vars false (#[.int .i64 0, .int .i64 0] : Array Value).toList 8 = some ([.lit (.int .i64 0), .lit (.int .i64 0)], [], places) :=
  ⟨[], by kernel_rfl⟩

set_option maxRecDepth 100000 in
theorem lifted (os : Os) (started : os.Started) (H : Type) (enc : TypeId × Value → H) (F : Stop.Interp) :
    ReturnsInHanded {} Tryd.checked os 7 .any ((OpenSpec.ofChange Rows.wireNumbersSpec).preRow enc Tryd.prog Tryd.f7 Rows.wireNumbersRow.domain false Rows.wireNumbersRow.laid) (((OpenSpec.ofChange Rows.wireNumbersSpec).at F).post enc Tryd.prog Tryd.f7 false true false false) := by
  obtain ⟨places, hx⟩ := reads os enc
  refine returnsInHanded_of_row (C := Tryd.checked) (s := (OpenSpec.ofChange Rows.wireNumbersSpec)) own started (by kernel_rfl) Tryd.func7
    (witness_row_at (enc := enc) (C := Tryd.checked) false (laidOf (World.holding Tryd.prog os ⟨#[], #[], []⟩)) #[.int .i64 0, .int .i64 0] rfl (by kernel_rfl) (by kernel_rfl) (by kernel_rfl)
      (OpenSpec.preRow_of_cond 8 hx (by kernel_rfl) (fun k hk => by cases hk) (by kernel_rfl) (laidWorld_met os _))) ?_
  intro W base args ds gs before hval hW _ _ hsz hL _ _
  exact contract H enc W base args ds gs before hval hW hsz (handle_of_laid hL)

theorem said : Rows.WireNumbersSaid :=
  OpenClaim.holds_of_cond 7 Tryd.f7 rfl rfl rfl rfl rfl rfl rfl ⟨rfl, rfl, rfl, rfl, rfl⟩ rfl rfl rfl rfl rfl (by kernel_rfl) Tryd.func7 (by kernel_rfl)
    (of_decide_eq_true (by kernel_rfl)) (by unfold Func.isWrapper; first | (rw [if_pos (by decide +kernel)]; kernel_rfl) | (rw [if_neg (by decide +kernel)]; exact ⟨rfl, rfl⟩))
    (fun os started H enc _ F => by rw [OpenClaim.pre_eq_preRow]; exact lifted os started H enc F)

theorem plain (f : FuncId) (fn : Func) (hf : Tryd.pinned.checked.prog.funcNamed Tryd.f7.name = some f) (hfn : Tryd.pinned.checked.prog.funcs[f]? = some fn) :
    true = Tryd.pinned.checked.prog.looks [] ∧ ∀ (j : Nat) t, fn.params[j]? = some t → Tryd.pinned.checked.prog.wantsStandIn t = false := by
  obtain rfl : f = 7 := Option.some.inj ((show Tryd.prog.funcNamed Tryd.f7.name = some 7 by kernel_rfl).symm.trans hf) |>.symm
  obtain rfl : fn = Tryd.f7 := (Option.some.inj (Tryd.func7.symm.trans hfn)).symm
  refine ⟨by kernel_rfl, fun j t ht => ?_⟩
  rw [Tryd.params7] at ht
  have hm := Array.mem_of_getElem? ht
  simp only [List.mem_toArray, List.mem_cons, List.not_mem_nil, or_false] at hm
  rcases hm with rfl | rfl
  · exact (show Tryd.prog.wantsStandIn 3 = false by kernel_rfl)
  · exact (show Tryd.prog.wantsStandIn 3 = false by kernel_rfl)

theorem card : Rows.WireNumbersCardSaid :=
  Claim7.holds_tied_plain_at .later [] _ _ _ _ said (fun _ h => by cases h) (by kernel_rfl) (fun _ h => by cases h) wireNumbers_row_tie rfl ⟨rfl, rfl⟩ (by kernel_rfl) rfl plain (by kernel_rfl)

end Go.Proofs.YtfpllfjdgpcmdaaDoor.wireNumbers

namespace Go.Proofs.YtfpllfjdgpcmdaaDoor
theorem wireNumbers_holds : Rows.WireNumbersCardSaid := wireNumbers.card
#print axioms wireNumbers_holds
end Go.Proofs.YtfpllfjdgpcmdaaDoor
