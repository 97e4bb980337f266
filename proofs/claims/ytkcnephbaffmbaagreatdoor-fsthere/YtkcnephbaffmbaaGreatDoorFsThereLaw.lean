/-
  FsThere, proved: for every state of the document and every two paths (as great as the form reads them): the call returns true, and changes nothing that was in memory; the one listed variable (the handle of the type of errors) starts as the program's text lays it, which the card ties.
-/
import Derived.Test.YtkcnephbaffmbaaGreatDoorP48
import Derived.Test.YtkcnephbaffmbaaGreatDoorP49
import Derived.Test.YtkcnephbaffmbaaGreatDoorCards
import Derived.Test.YtkcnephbaffmbaaGreatDoorTie
import Derived.Deep.DeepHandedRow
import Derived.ChangeMaps5
namespace Go.Proofs.YtkcnephbaffmbaaGreatDoor.fsThere
open Go.ChangeShapes Go.WideShapes Go.ChangeAt Go.RowKit Go.ChangeMaps
open P (serr sval)
set_option linter.unusedVariables false
set_option maxRecDepth 100000 in
set_option maxHeartbeats 16000000 in
theorem walk (us : List Value) (s : St) (p q : ByteArray) (w : World) (hA : stR.lies 0 w us s) (hF : FitsS s.1) (hp : p.size ≤ maxLen) (hq : q.size ≤ maxLen) (hg : Glob w) :
    Calls Tryz.prog 8 #[.agg us.toArray, .string p, .string q] w fun e w' => e = .returned (.bool true) ∧ Below w.heap.size w w' := by
  obtain ⟨a, c, rfl, hs, hI, hm⟩ := st_viewR hA
  obtain ⟨l, nx⟩ := s
  simp only at hs hI hm hF ⊢
  obtain ⟨n, hn⟩ : ∃ n, n = l.length := ⟨_, rfl⟩
  rw [← hn] at hs hm ⊢
  unfold maxLen at hm
  have HG : Hid (∀ V, Below w.heap.size w V → Glob V) := fun V hV => hg.below hV hg.lt
  have H0 : Hid (ndsR.lies 0 w [.slice a n c] l ∧ n = l.length ∧ FitsS l ∧ p.size ≤ maxLen ∧ q.size ≤ maxLen) := ⟨hs, hn, hF, hp, hq⟩
  obtain ⟨V0, hV0⟩ : ∃ V, V = w.alloc (.cells #[.slice a n c, .int .i64 nx] 24) := ⟨_, rfl⟩
  have HB0 : Hid (Below w.heap.size w V0 ∧ Box V0 w.heap.size 24 #[.slice a n c, .int .i64 nx]) := ⟨by rw [hV0]; exact (Below.refl _ w).alloc (Nat.le_refl _) _, by rw [hV0]; exact Box.new _ _ _⟩
  clear hA hs hn hF hp hq hI hg
  have HC1 := alive_any V0 (HG.out _ HB0.out.1)
  go_enter Tryz.func8, Tryz.ntmps8
  go_wp2_with fail
  rw [← hV0]
  clear hV0
  refine HC1.mono ?_
  rintro e w1 ⟨rfl, hb1⟩
  have HL1 : Hid (Below V0.heap.size V0 w1) := hb1
  clear hb1 HC1
  have HC2 := of_f (nx := nx) H0.out.2.1 (ndsR.below H0.out.1 (below_any HB0.out.1 HL1.out)) H0.out.2.2.1
  obtain ⟨b0c0, b0c1, -, -⟩ := ((HB0.out.2).below HL1.out (HB0.out.2).lt).two
  go_wp2_with fail
  clear b0c0 b0c1
  refine HC2.mono ?_
  rintro e w2 ⟨⟨a2, c2, rfl, ho2⟩, hb2⟩
  have HL2 : Hid (Below w1.heap.size w1 w2 ∧ ndsN.lies w1.heap.size w2 [.slice a2 n c2] l) := ⟨hb2, ndsN.olies ho2⟩
  clear hb2 ho2 HC2
  have HC3 := find_f (nx := nx) H0.out.2.1 H0.out.2.2.2.1 HL2.out.2 (HG.out _ (below_any (below_any HB0.out.1 HL1.out) HL2.out.1))
  go_wp2_with fail
  refine HC3.mono ?_
  rintro e w3 ⟨⟨i3, k3, rfl, hf3⟩, hb3⟩
  have HL3 : Hid (Below w2.heap.size w2 w3 ∧ Found (l, nx) p i3 k3) := ⟨hb3, hf3⟩
  clear hb3 hf3 HC3
  have HC4 := of_f (nx := nx) H0.out.2.1 (ndsR.below H0.out.1 (below_any (below_any (below_any HB0.out.1 HL1.out) HL2.out.1) HL3.out.1)) H0.out.2.2.1
  obtain ⟨b0c0, b0c1, -, -⟩ := ((HB0.out.2).below (below_any (below_any HL1.out HL2.out.1) HL3.out.1) (HB0.out.2).lt).two
  go_wp2_with fail
  clear b0c0 b0c1
  refine HC4.mono ?_
  rintro e w4 ⟨⟨a4, c4, rfl, ho4⟩, hb4⟩
  have HL4 : Hid (Below w3.heap.size w3 w4 ∧ ndsN.lies w3.heap.size w4 [.slice a4 n c4] l) := ⟨hb4, ndsN.olies ho4⟩
  clear hb4 ho4 HC4
  have HC5 := find_f (nx := nx) H0.out.2.1 H0.out.2.2.2.2 HL4.out.2 (HG.out _ (below_any (below_any (below_any (below_any HB0.out.1 HL1.out) HL2.out.1) HL3.out.1) HL4.out.1))
  go_wp2_with fail
  refine HC5.mono ?_
  rintro e w5 ⟨⟨i5, k5, rfl, hf5⟩, hb5⟩
  have HL5 : Hid (Below w4.heap.size w4 w5 ∧ Found (l, nx) q i5 k5) := ⟨hb5, hf5⟩
  clear hb5 hf5 HC5
  have HC6 := of_f (nx := nx) H0.out.2.1 (ndsR.below H0.out.1 (below_any (below_any (below_any (below_any (below_any HB0.out.1 HL1.out) HL2.out.1) HL3.out.1) HL4.out.1) HL5.out.1)) H0.out.2.2.1
  obtain ⟨b0c0, b0c1, -, -⟩ := ((HB0.out.2).below (below_any (below_any (below_any (below_any HL1.out HL2.out.1) HL3.out.1) HL4.out.1) HL5.out.1) (HB0.out.2).lt).two
  go_wp2_with fail
  clear b0c0 b0c1
  refine HC6.mono ?_
  rintro e w6 ⟨⟨a6, c6, rfl, ho6⟩, hb6⟩
  have HL6 : Hid (Below w5.heap.size w5 w6 ∧ ndsN.lies w5.heap.size w6 [.slice a6 n c6] l) := ⟨hb6, ndsN.olies ho6⟩
  clear hb6 ho6 HC6
  have HC7 := rename_f (nx := nx) H0.out.2.1 H0.out.2.2.2.1 H0.out.2.2.2.2 HL6.out.2 (HG.out _ (below_any (below_any (below_any (below_any (below_any (below_any HB0.out.1 HL1.out) HL2.out.1) HL3.out.1) HL4.out.1) HL5.out.1) HL6.out.1))
  go_wp2_with fail
  refine HC7.mono ?_
  rintro e w7 ⟨⟨k7, l7, x7, n7, a7, c7, rfl, hn7, hl7, ht7⟩, hb7⟩
  obtain ⟨V7, hV7⟩ : ∃ V, V = w7.alloc (.cells #[.slice a7 n7 c7, .int .i64 x7] 27) := ⟨_, rfl⟩
  have hbV7 : Below w7.heap.size w7 V7 := by rw [hV7]; exact (Below.refl _ w7).alloc (Nat.le_refl _) _
  have HB7 : Hid (Below w6.heap.size w6 V7 ∧ Box V7 w7.heap.size 27 #[.slice a7 n7 c7, .int .i64 x7] ∧ ndsN.lies w6.heap.size V7 [.slice a7 n7 c7] l7 ∧ n7 = l7.length ∧ Told (l, nx) [p, q] (renE (l, nx) (sval p) (sval q)) (renS (l, nx) (sval p) (sval q)) k7 (l7, x7)) := ⟨below_any hb7 hbV7, by rw [hV7]; exact Box.new _ _ _, ndsN.below hl7 hbV7, hn7, ht7⟩
  clear hb7 hbV7 hl7 hn7 ht7 HC7
  have hr7 := run_len Tryz.underlying25 a7 n7 c7
  have hr0 := run_len Tryz.underlying22 a n c
  by_cases hk7 : k7 = 0
  case neg =>
    obtain rfl : n7 = 0 := by rw [HB7.out.2.2.2.1]; have := HB7.out.2.2.2.2.bad hk7; rw [(Prod.mk.inj this).1]; rfl
    obtain ⟨b7c0, b7c1, -, -⟩ := HB7.out.2.1.two
    rw [hV7] at b7c0 b7c1
    have HBF : Hid (Below w.heap.size w V7) := (below_any (below_any (below_any (below_any (below_any (below_any (below_any HB0.out.1 HL1.out) HL2.out.1) HL3.out.1) HL4.out.1) HL5.out.1) HL6.out.1) HB7.out.1)
    rw [hV7] at HBF
    go_wp2_with (go_at_call 20; refine (num10_any _ _).mono ?_; rintro e v ⟨rfl, rfl⟩)
    go_ret
    exact ⟨rfl, HBF.out⟩
  subst hk7
  have HC8 := find_f (nx := x7) HB7.out.2.2.2.1 H0.out.2.2.2.2 (ndsN.below HB7.out.2.2.1 (Below.refl _ V7)) (HG.out _ (below_any (below_any (below_any (below_any (below_any (below_any (below_any HB0.out.1 HL1.out) HL2.out.1) HL3.out.1) HL4.out.1) HL5.out.1) HL6.out.1) HB7.out.1))
  obtain ⟨b7c0, b7c1, -, -⟩ := HB7.out.2.1.two
  rw [hV7] at b7c0 b7c1
  go_wp2_with (go_at_call 20; refine (num10_any _ _).mono ?_; rintro e v ⟨rfl, rfl⟩)
  rw [← hV7]
  clear b7c0 b7c1 hV7
  refine HC8.mono ?_
  rintro e w8 ⟨⟨i8, k8, rfl, hf8⟩, hb8⟩
  have HL8 : Hid (Below V7.heap.size V7 w8 ∧ Found (l7, x7) q i8 k8) := ⟨hb8, hf8⟩
  clear hb8 hf8 HC8
  have HC9 := find_f (nx := x7) HB7.out.2.2.2.1 H0.out.2.2.2.1 (ndsN.below HB7.out.2.2.1 HL8.out.1) (HG.out _ (below_any (below_any (below_any (below_any (below_any (below_any (below_any (below_any HB0.out.1 HL1.out) HL2.out.1) HL3.out.1) HL4.out.1) HL5.out.1) HL6.out.1) HB7.out.1) HL8.out.1))
  obtain ⟨b7c0, b7c1, -, -⟩ := ((HB7.out.2.1).below HL8.out.1 (HB7.out.2.1).lt).two
  go_wp2_with fail
  clear b7c0 b7c1
  refine HC9.mono ?_
  rintro e w9 ⟨⟨i9, k9, rfl, hf9⟩, hb9⟩
  have HL9 : Hid (Below w8.heap.size w8 w9 ∧ Found (l7, x7) p i9 k9) := ⟨hb9, hf9⟩
  clear hb9 hf9 HC9
  obtain ⟨rfl, rfl, rfl, hway⟩ := there_law HL3.out.2 HL5.out.2 HB7.out.2.2.2.2 HL8.out.2 HL9.out.2
  have HBF : Hid (Below w.heap.size w w9) := (below_any (below_any (below_any (below_any (below_any (below_any (below_any (below_any (below_any HB0.out.1 HL1.out) HL2.out.1) HL3.out.1) HL4.out.1) HL5.out.1) HL6.out.1) HB7.out.1) HL8.out.1) HL9.out.1)
  rcases hway with ⟨rfl, rfl, heq⟩ | ⟨hk9, rfl, hne, hlen⟩ | ⟨hk9, hk5, hback⟩
  · obtain ⟨e1, e2⟩ := Prod.mk.inj heq
    subst e1 e2
    have HC10 := alike_f (nx := x7) HB7.out.2.2.2.1 H0.out.2.1 (ndsN.below HB7.out.2.2.1 (below_any HL8.out.1 HL9.out.1)) (ndsR.below H0.out.1 (below_any (below_any (below_any (below_any (below_any (below_any (below_any (below_any (below_any HB0.out.1 HL1.out) HL2.out.1) HL3.out.1) HL4.out.1) HL5.out.1) HL6.out.1) HB7.out.1) HL8.out.1) HL9.out.1))
    obtain ⟨b7c0, b7c1, -, -⟩ := ((HB7.out.2.1).below (below_any HL8.out.1 HL9.out.1) (HB7.out.2.1).lt).two
    obtain ⟨b0c0, b0c1, -, -⟩ := ((HB0.out.2).below (below_any (below_any (below_any (below_any (below_any (below_any (below_any (below_any HL1.out HL2.out.1) HL3.out.1) HL4.out.1) HL5.out.1) HL6.out.1) HB7.out.1) HL8.out.1) HL9.out.1) (HB0.out.2).lt).two
    clear heq
    go_wp2_with (go_at_call 20; refine (num10_any _ _).mono ?_; rintro e v ⟨rfl, rfl⟩)
    clear b7c0 b7c1 b0c0 b0c1
    refine HC10.mono ?_
    rintro e w10 ⟨rfl, hb10⟩
    have HZ : Hid (Below w.heap.size w w10) := below_any HBF.out hb10
    clear hb10
    go_wp2
    go_ret
    exact ⟨rfl, HZ.out⟩
  · have hneb : (i5 == i8) = false := by simpa using hne
    simp only at hlen
    rw [← HB7.out.2.2.2.1, ← H0.out.2.1] at hlen
    obtain ⟨b7c0, b7c1, -, -⟩ := ((HB7.out.2.1).below (below_any HL8.out.1 HL9.out.1) (HB7.out.2.1).lt).two
    obtain ⟨b0c0, b0c1, -, -⟩ := ((HB0.out.2).below (below_any (below_any (below_any (below_any (below_any (below_any (below_any (below_any HL1.out HL2.out.1) HL3.out.1) HL4.out.1) HL5.out.1) HL6.out.1) HB7.out.1) HL8.out.1) HL9.out.1) (HB0.out.2).lt).two
    rcases hlen with rfl | rfl
    · go_wp2_with (go_at_call 20; refine (num10_any _ _).mono ?_; rintro e v ⟨rfl, rfl⟩)
      go_ret
      exact ⟨rfl, HBF.out⟩
    · have hlb : ((n7 : Int) == ((n7 + 1 : Nat) : Int)) = false := by simp; omega
      have hlw : IntKind.i64.wrap (((n7 + 1 : Nat) : Int) - 1) = (n7 : Int) := by rw [IntWalk.i64_left, IntWalk.wrap64_in _ ⟨by omega, by omega⟩]; omega
      go_wp2_with (go_at_call 20; refine (num10_any _ _).mono ?_; rintro e v ⟨rfl, rfl⟩)
      go_ret
      exact ⟨by simp, HBF.out⟩
  · have HBK : Hid (∀ k6 S6, Told (l7, x7) [q, p] (renE (l7, x7) (sval q) (sval p)) (renS (l7, x7) (sval q) (sval p)) k6 S6 → k6 = 0 ∧ S6 = (l, nx)) := hback
    clear hback
    have HC10 := rename_f (nx := x7) HB7.out.2.2.2.1 H0.out.2.2.2.2 H0.out.2.2.2.1 (ndsN.below HB7.out.2.2.1 (below_any HL8.out.1 HL9.out.1)) (HG.out _ HBF.out)
    obtain ⟨b7c0, b7c1, -, -⟩ := ((HB7.out.2.1).below (below_any HL8.out.1 HL9.out.1) (HB7.out.2.1).lt).two
    go_wp2_with (go_at_call 20; refine (num10_any _ _).mono ?_; rintro e v ⟨rfl, rfl⟩)
    clear b7c0 b7c1
    refine HC10.mono ?_
    rintro e w10 ⟨⟨k10, l10, x10, n10, a10, c10, rfl, hn10, hl10, ht10⟩, hb10⟩
    obtain ⟨rfl, he10⟩ := HBK.out _ _ ht10
    obtain ⟨e1, e2⟩ := Prod.mk.inj he10
    subst e1 e2
    obtain ⟨V10, hV10⟩ : ∃ V, V = w10.alloc (.cells #[.slice a10 n10 c10, .int .i64 x10] 27) := ⟨_, rfl⟩
    have hbV10 : Below w10.heap.size w10 V10 := by rw [hV10]; exact (Below.refl _ w10).alloc (Nat.le_refl _) _
    have HB10 : Hid (Below w9.heap.size w9 V10 ∧ Box V10 w10.heap.size 27 #[.slice a10 n10 c10, .int .i64 x10] ∧ ndsN.lies w9.heap.size V10 [.slice a10 n10 c10] l10 ∧ n10 = l10.length) := ⟨below_any hb10 hbV10, by rw [hV10]; exact Box.new _ _ _, ndsN.below hl10 hbV10, hn10⟩
    clear hb10 hbV10 hl10 hn10 ht10 HC10 he10
    have HC11 := alike_f (nx := x10) HB10.out.2.2.2 H0.out.2.1 HB10.out.2.2.1 (ndsR.below H0.out.1 (below_any (below_any (below_any (below_any (below_any (below_any (below_any (below_any (below_any (below_any HB0.out.1 HL1.out) HL2.out.1) HL3.out.1) HL4.out.1) HL5.out.1) HL6.out.1) HB7.out.1) HL8.out.1) HL9.out.1) HB10.out.1))
    obtain ⟨b10c0, b10c1, -, -⟩ := HB10.out.2.1.two
    rw [hV10] at b10c0 b10c1
    obtain ⟨b0c0, b0c1, -, -⟩ := ((HB0.out.2).below (below_any (below_any (below_any (below_any (below_any (below_any (below_any (below_any (below_any HL1.out HL2.out.1) HL3.out.1) HL4.out.1) HL5.out.1) HL6.out.1) HB7.out.1) HL8.out.1) HL9.out.1) HB10.out.1) (HB0.out.2).lt).two
    rw [hV10] at b0c0 b0c1
    go_wp2_with (go_at_call 20; refine (num10_any _ _).mono ?_; rintro e v ⟨rfl, rfl⟩)
    rw [← hV10]
    clear b10c0 b10c1 b0c0 b0c1 hV10
    refine HC11.mono ?_
    rintro e w11 ⟨rfl, hb11⟩
    have HZ : Hid (Below w.heap.size w w11) := below_any (below_any (below_any (below_any (below_any (below_any (below_any (below_any (below_any (below_any (below_any HB0.out.1 HL1.out) HL2.out.1) HL3.out.1) HL4.out.1) HL5.out.1) HL6.out.1) HB7.out.1) HL8.out.1) HL9.out.1) HB10.out.1) hb11
    clear hb11
    go_wp2
    go_ret
    exact ⟨rfl, HZ.out⟩
    
set_option maxRecDepth 100000 in
theorem contract (H : Type) (enc : TypeId × Value → H) (W : World) (base : Nat) (args : Array Value) (ds gs : List (DataW H)) (before : List MemPlace)
    (hval0 : ∀ (j : Nat) t v, Tryz.f8.params[j]? = some t → args[j]? = some v → Value.okWide Tryz.prog W .any base t v)
    (hW : DataW.Whole enc Tryz.prog Tryz.f8.params.toList Rows.fsThereSpec.vars false W args.toList ds gs before) 
    (hsz0 : (DataW.weightsEach Tryz.prog (Tryz.f8.params.toList ++ Rows.fsThereSpec.plain.varTypes Tryz.prog) (ds ++ gs)).all (· ≤ reachBytes) = true) (hg : Glob W) :
    Calls Tryz.prog 8 args W fun e W' => ∃ v, e = .returned v ∧ Rows.fsThereSpec.post enc Tryz.prog Tryz.f8 false true false false W args v W' := by
  have hval := hval0
  have hW' := hW
  obtain ⟨p, q, hA0, hV, rfl, hfz, hnd⟩ := hW
  have hA : DataW.TrodAll enc Tryz.prog W 0 (fun _ => true) true Tryz.f8.params.toList args.toList ds p := hA0
  have hsz := hsz0
  clear hsz0
  rw [Tryz.params8] at hA hval hsz
  obtain ⟨v0, vs0, d0, ds0, p0, q0, hargs, rfl, rfl, h0, r0⟩ := trodAll_cons hA
  obtain ⟨v1, vs1, d1, ds1, p1, q1, rfl, rfl, rfl, h1, r1⟩ := trodAll_cons r0
  obtain ⟨v2, vs2, d2, ds2, p2, q2, rfl, rfl, rfl, h2, r2⟩ := trodAll_cons r1
  obtain ⟨rfl, rfl, rfl⟩ := trodAll_nil r2
  obtain rfl : args = #[v0, v1, v2] := by cases args; simp_all
  obtain ⟨rfl, rfl⟩ := trodVars_none hV
  obtain ⟨cs0, rfl, hc0⟩ := okWide_struct Tryz.underlying24 (hval 0 24 v0 rfl rfl)
  obtain ⟨us0, rfl⟩ := as_list cs0
  have k0 := h0
  have lt0 : ∀ x ∈ p0, x.block < W.heap.size := by obtain ⟨m, hm⟩ := k0; exact DataW.trod_lt m _ _ _ hm
  obtain ⟨m0, hm0⟩ := h0
  obtain ⟨s0, A0, F0'⟩ := stR.reads hm0
  have F0 := F0' fun n hn => by have := List.all_eq_true.1 hsz _ (DataW.weights_mem_each (j := 0) rfl rfl n hn); simpa using this
  obtain ⟨t1, rfl, rfl, rfl, z1⟩ := open_string Tryz.underlying9 (hval 1 9 v1 rfl rfl) h1
  obtain ⟨t2, rfl, rfl, rfl, z2⟩ := open_string Tryz.underlying9 (hval 2 9 v2 rfl rfl) h2
  clear hA0 hval0
  refine (walk us0 s0 t1 t2 W A0 (fitsS_of F0) z1 z2 hg).mono fun e W' ⟨he, bel⟩ => ?_
  subst he
  exact ⟨_, rfl, _, _, _, [], _, [], hW', trodAll_mk1 (shut_bool Tryz.underlying4 _), (trodAll_cons_mk (Below.trod laidOut (by kernel_rfl) (of_decide_eq_true (by kernel_rfl)) k0 bel lt0) (trodAll_cons_mk (shut_string Tryz.underlying9 z1) (trodAll_cons_mk (shut_string Tryz.underlying9 z2) trodAll_mk0))), rfl, bel.frame _, fun h => by cases h⟩
theorem reads (os : Os) {H : Type} (enc : TypeId × Value → H) : ∃ places, DataW.whole enc Tryz.prog ((laidOf (World.holding Tryz.prog os ⟨#[], #[], []⟩)).forCall (fun _ _ => 0) ⟨#[], #[.agg #[.slice none 0 0, .int .i64 0], .string ⟨#[]⟩, .string ⟨#[]⟩], []⟩).memory Tryz.f8.params.toList Rows.fsThereSpec.vars false (#[.agg #[.slice none 0 0, .int .i64 0], .string ⟨#[]⟩, .string ⟨#[]⟩] : Array Value).toList 8 = some ([.agg [.nil, .lit (.int .i64 0)], .lit (.string []), .lit (.string [])], [], places) :=
  ⟨[], by kernel_rfl⟩
set_option maxRecDepth 100000 in
theorem lifted (os : Os) (started : os.Started) (H : Type) (enc : TypeId × Value → H) (F : Stop.Interp) :
    ReturnsInHanded {} Tryz.checked os 8 .any ((OpenSpec.ofChange Rows.fsThereSpec).preRow enc Tryz.prog Tryz.f8 Rows.fsThereRow.domain false Rows.fsThereRow.laid) (((OpenSpec.ofChange Rows.fsThereSpec).at F).post enc Tryz.prog Tryz.f8 false true false false) := by
  obtain ⟨places, hx⟩ := reads os enc
  refine returnsInHanded_of_row (C := Tryz.checked) (s := (OpenSpec.ofChange Rows.fsThereSpec)) own started (by kernel_rfl) Tryz.func8
    (witness_row_at (enc := enc) (C := Tryz.checked) false (laidOf (World.holding Tryz.prog os ⟨#[], #[], []⟩)) #[.agg #[.slice none 0 0, .int .i64 0], .string ⟨#[]⟩, .string ⟨#[]⟩] rfl (by kernel_rfl) (by kernel_rfl) (by kernel_rfl)
      (OpenSpec.preRow_of_cond 8 hx (by kernel_rfl) (fun k hk => by cases hk) (by kernel_rfl) (laidWorld_met os _))) ?_
  intro W base args ds gs before hval hW _ _ hsz hL _ _
  exact contract H enc W base args ds gs before hval hW hsz (handle_of_laid hL)
theorem said : Rows.FsThereSaid :=
  OpenClaim.holds_of_cond 8 Tryz.f8 rfl rfl rfl rfl rfl rfl rfl ⟨rfl, rfl, rfl, rfl, rfl⟩ rfl rfl rfl rfl rfl (by kernel_rfl) Tryz.func8 (by kernel_rfl)
    (of_decide_eq_true (by kernel_rfl)) (by unfold Func.isWrapper; first | (rw [if_pos (by decide +kernel)]; kernel_rfl) | (rw [if_neg (by decide +kernel)]; exact ⟨rfl, rfl⟩))
    (fun os started H enc _ F => by rw [OpenClaim.pre_eq_preRow]; exact lifted os started H enc F)
theorem plain (f : FuncId) (fn : Func) (hf : Tryz.pinned.checked.prog.funcNamed Tryz.f8.name = some f) (hfn : Tryz.pinned.checked.prog.funcs[f]? = some fn) :
    true = Tryz.pinned.checked.prog.looks [] ∧ ∀ (j : Nat) t, fn.params[j]? = some t → Tryz.pinned.checked.prog.wantsStandIn t = false := by
  obtain rfl : f = 8 := Option.some.inj ((show Tryz.prog.funcNamed Tryz.f8.name = some 8 by kernel_rfl).symm.trans hf) |>.symm
  obtain rfl : fn = Tryz.f8 := (Option.some.inj (Tryz.func8.symm.trans hfn)).symm
  refine ⟨by kernel_rfl, fun j t ht => ?_⟩
  rw [Tryz.params8] at ht
  have hm := Array.mem_of_getElem? ht
  simp only [List.mem_toArray, List.mem_cons, List.not_mem_nil, or_false] at hm
  rcases hm with rfl | rfl | rfl
  · exact (show Tryz.prog.wantsStandIn 24 = false by kernel_rfl)
  · exact (show Tryz.prog.wantsStandIn 9 = false by kernel_rfl)
  · exact (show Tryz.prog.wantsStandIn 9 = false by kernel_rfl)
theorem card : Rows.FsThereCardSaid :=
  Claim7.holds_tied_plain_at .later [] _ _ _ _ said (fun _ h => by cases h) (by kernel_rfl) (fun _ h => by cases h) fsThere_row_tie rfl ⟨rfl, rfl⟩ (by kernel_rfl) rfl plain (by kernel_rfl)
end Go.Proofs.YtkcnephbaffmbaaGreatDoor.fsThere
namespace Go.Proofs.YtkcnephbaffmbaaGreatDoor
theorem fsThere_holds : Rows.FsThereCardSaid := fsThere.card
#print axioms fsThere_holds
end Go.Proofs.YtkcnephbaffmbaaGreatDoor
