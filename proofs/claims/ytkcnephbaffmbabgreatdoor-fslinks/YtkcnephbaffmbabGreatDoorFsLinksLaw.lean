/-
  FsLinks, proved: for every state of the document, every two paths and octets (as great as the form reads them): the call returns true, and changes nothing that was in memory; the one listed variable (the handle of the type of errors) starts as the program's text lays it, which the card ties.
-/
import Derived.Test.YtkcnephbaffmbabGreatDoorQ45
import Derived.Test.YtkcnephbaffmbabGreatDoorQ46
import Derived.Test.YtkcnephbaffmbabGreatDoorCards
import Derived.Test.YtkcnephbaffmbabGreatDoorTie
import Derived.Deep.DeepHandedRow
import Derived.ChangeMaps5
namespace Go.Proofs.YtkcnephbaffmbabGreatDoor.fsLinks
open Go.ChangeShapes Go.WideShapes Go.ChangeAt Go.RowKit Go.ChangeMaps
open P (serr sval)
set_option linter.unusedVariables false
set_option maxRecDepth 100000 in
set_option maxHeartbeats 16000000 in
theorem walk (us : List Value) (s : St) (p q : ByteArray) (da : Option Addr) (dn dc : Nat) (d : List Int) (w : World) (hA : stR.lies 0 w us s) (hF : FitsS s.1) (hp : p.size ≤ maxLen) (hq : q.size ≤ maxLen) (hD : bytesS.lies 0 w [.slice da dn dc] d) (hg : Glob w) :
    Calls Tryz.prog 3 #[.agg us.toArray, .string p, .string q, .slice da dn dc] w fun e w' => e = .returned (.bool true) ∧ Below w.heap.size w w' := by
  obtain ⟨a, c, rfl, hs, hI, hm⟩ := st_viewR hA
  obtain ⟨l, nx⟩ := s
  have hv : Arg 0 w (.slice da dn dc) d := hD
  obtain ⟨da', dc', hde, -, hdm, -⟩ := hv.shape
  obtain ⟨rfl, rfl, rfl⟩ := Value.slice.inj hde
  simp only at hs hI hm hF ⊢
  unfold maxLen at hdm
  obtain ⟨n, hn⟩ : ∃ n, n = l.length := ⟨_, rfl⟩
  rw [← hn] at hs ⊢
  obtain ⟨D, hDD⟩ : ∃ D, D = d.take (min d.length 2432) := ⟨_, rfl⟩
  obtain ⟨m, hmm⟩ : ∃ m, m = min d.length 2432 := ⟨_, rfl⟩
  have hmb : m ≤ 2432 := by omega
  have HDm : Hid (m = D.length) := by
    show m = D.length
    rw [hDD, hmm, List.length_take]; omega
  obtain ⟨v', hv', hcut⟩ := hv.ahead m (by omega)
  rw [show d.take m = D by rw [hDD, hmm]] at hv'
  obtain ⟨va, vc, rfl, -⟩ := hv'.shape
  rw [← HDm.out] at hv' hcut
  obtain ⟨dl, hdl⟩ : ∃ x, x = d.length := ⟨_, rfl⟩
  have hmn : min (dl : Int) 2432 = (m : Int) := by omega
  rw [← hdl] at hcut ⊢
  have hl0 := run_len Tryz.underlying25 da dl dc
  have hl1 := run_len Tryz.underlying25 va m vc
  have HG : Hid (∀ V, Below w.heap.size w V → Glob V) := fun V hV => hg.below hV hg.lt
  have H0 : Hid (ndsR.lies 0 w [.slice a n c] l ∧ n = l.length ∧ FitsS l ∧ p.size ≤ maxLen ∧ q.size ≤ maxLen ∧ Arg 0 w (.slice va m vc) D ∧ D.length ≤ 2432) := ⟨hs, hn, hF, hp, hq, hv', by rw [← HDm.out]; exact hmb⟩
  obtain ⟨V0, hV0⟩ : ∃ V, V = w.alloc (.cells #[.slice a n c, .int .i64 nx] 24) := ⟨_, rfl⟩
  have HB0 : Hid (Below w.heap.size w V0 ∧ Box V0 w.heap.size 24 #[.slice a n c, .int .i64 nx]) := ⟨by rw [hV0]; exact (Below.refl _ w).alloc (Nat.le_refl _) _, by rw [hV0]; exact Box.new _ _ _⟩
  clear hA hs hn hF hp hq hI hm hg hD hv hv' hde hdm hDD hmm hdl
  have HC1 := alive_any V0 (HG.out _ HB0.out.1)
  go_enter Tryz.func3, Tryz.ntmps3
  go_wp2_with fail
  rw [← hV0]
  clear hV0
  refine HC1.mono ?_
  rintro e w1 ⟨rfl, hb1⟩
  have HL1 : Hid (Below V0.heap.size V0 w1) := hb1
  clear hb1 HC1
  have HC2 := of_f (nx := nx) H0.out.2.1 (ndsR.below H0.out.1 (below_any HB0.out.1 HL1.out)) H0.out.2.2.1
  obtain ⟨b0c0, b0c1, -, -⟩ := ((HB0.out.2).below HL1.out (HB0.out.2).lt).two
  go_wp2_with fail
  clear b0c0 b0c1
  refine HC2.mono ?_
  rintro e w2 ⟨⟨a2, c2, rfl, ho2⟩, hb2⟩
  have HL2 : Hid (Below w1.heap.size w1 w2 ∧ ndsN.lies w1.heap.size w2 [.slice a2 n c2] l) := ⟨hb2, ndsN.olies ho2⟩
  clear hb2 ho2 HC2 hcut hmn hl0
  have HC3 := link_f (nx := nx) H0.out.2.1 H0.out.2.2.2.1 H0.out.2.2.2.2.1 HL2.out.2 (HG.out _ (below_any (below_any HB0.out.1 HL1.out) HL2.out.1))
  go_wp2_with fail
  refine HC3.mono ?_
  rintro e w3 ⟨⟨k3, l3, x3, n3, a3, c3, rfl, hn3, hl3, ht3⟩, hb3⟩
  obtain ⟨V3, hV3⟩ : ∃ V, V = w3.alloc (.cells #[.slice a3 n3 c3, .int .i64 x3] 29) := ⟨_, rfl⟩
  have hbV3 : Below w3.heap.size w3 V3 := by rw [hV3]; exact (Below.refl _ w3).alloc (Nat.le_refl _) _
  have HB3 : Hid (Below w2.heap.size w2 V3 ∧ Box V3 w3.heap.size 29 #[.slice a3 n3 c3, .int .i64 x3] ∧ ndsN.lies w2.heap.size V3 [.slice a3 n3 c3] l3 ∧ n3 = l3.length ∧ Told (l, nx) [p, q] (lnE (l, nx) (sval p) (sval q)) (lnkN (l, nx) (hold (l, nx) (sval q)) (lst (sval q)) (tgt (l, nx) (sval p))) k3 (l3, x3)) := ⟨below_any hb3 hbV3, by rw [hV3]; exact Box.new _ _ _, ndsN.below hl3 hbV3, hn3, ht3⟩
  clear hb3 hbV3 hl3 hn3 ht3 HC3
  have hr3 := run_len Tryz.underlying27 a3 n3 c3
  by_cases hk3 : k3 = 0
  case neg =>
    obtain rfl : n3 = 0 := by rw [HB3.out.2.2.2.1]; have := HB3.out.2.2.2.2.bad hk3; rw [(Prod.mk.inj this).1]; rfl
    obtain ⟨b3c0, b3c1, -, -⟩ := HB3.out.2.1.two
    rw [hV3] at b3c0 b3c1
    have HBF : Hid (Below w.heap.size w V3) := (below_any (below_any (below_any HB0.out.1 HL1.out) HL2.out.1) HB3.out.1)
    rw [hV3] at HBF
    go_wp2_with (go_at_call 9; refine (num10_any _ _).mono ?_; rintro e v ⟨rfl, rfl⟩)
    go_ret
    exact ⟨rfl, HBF.out⟩
  subst hk3
  have HLL : Hid (_) := links_law (d := D) HB3.out.2.2.2.2 H0.out.2.2.2.2.2.2
  have HC4 := write_f (nx := x3) HB3.out.2.2.2.1 H0.out.2.2.2.2.1 (off := 0) (by unfold I64; omega) HDm.out (H0.out.2.2.2.2.2.1.below (below_any (below_any (below_any HB0.out.1 HL1.out) HL2.out.1) HB3.out.1)) (ndsN.below HB3.out.2.2.1 (Below.refl _ V3)) (HG.out _ (below_any (below_any (below_any HB0.out.1 HL1.out) HL2.out.1) HB3.out.1))
  obtain ⟨b3c0, b3c1, -, -⟩ := HB3.out.2.1.two
  rw [hV3] at b3c0 b3c1
  go_wp2_with (go_at_call 9; refine (num10_any _ _).mono ?_; rintro e v ⟨rfl, rfl⟩)
  rw [← hV3]
  clear b3c0 b3c1 hV3
  refine HC4.mono ?_
  rintro e w4 ⟨⟨k4, m4, l4, x4, n4, a4, c4, rfl, hn4, hl4, ht4, hm4⟩, hb4⟩
  obtain ⟨rfl, hR4, hU4⟩ := HLL.out _ _ ht4
  obtain rfl : m4 = (m : Int) := by
    rcases hm4 with ⟨-, h⟩ | ⟨h, -⟩
    · exact h
    · exact absurd rfl h
  obtain ⟨V4, hV4⟩ : ∃ V, V = w4.alloc (.cells #[.slice a4 n4 c4, .int .i64 x4] 29) := ⟨_, rfl⟩
  have hbV4 : Below w4.heap.size w4 V4 := by rw [hV4]; exact (Below.refl _ w4).alloc (Nat.le_refl _) _
  have HB4 : Hid (Below V3.heap.size V3 V4 ∧ Box V4 w4.heap.size 29 #[.slice a4 n4 c4, .int .i64 x4] ∧ ndsN.lies V3.heap.size V4 [.slice a4 n4 c4] l4 ∧ n4 = l4.length ∧ (∀ O k, Readed (l4, x4) p 0 D.length O k → k = 0 ∧ O = D) ∧ (∀ k2 S2, Told (l4, x4) [p] (filE l4 (sval p)) (dropN (l4, x4) (hold (l4, x4) (sval p)) (lst (sval p)) (tgt (l4, x4) (sval p))) k2 S2 → k2 = 0 ∧ ∀ O k, Readed S2 q 0 D.length O k → k = 0 ∧ O = D)) := ⟨below_any hb4 hbV4, by rw [hV4]; exact Box.new _ _ _, ndsN.below hl4 hbV4, hn4, hR4, hU4⟩
  clear hb4 hbV4 hl4 hn4 ht4 hm4 hR4 hU4 HC4 HLL
  have HC5 := read_f (nx := x4) HB4.out.2.2.2.1 H0.out.2.2.2.1 (off := 0) (m := (m : Int)) (by unfold I64; omega) (by unfold I64; omega) (ndsN.below HB4.out.2.2.1 (Below.refl _ V4)) (HG.out _ (below_any (below_any (below_any (below_any HB0.out.1 HL1.out) HL2.out.1) HB3.out.1) HB4.out.1))
  obtain ⟨b4c0, b4c1, -, -⟩ := HB4.out.2.1.two
  rw [hV4] at b4c0 b4c1
  go_wp2_with fail
  rw [← hV4]
  clear b4c0 b4c1 hV4
  refine HC5.mono ?_
  rintro e w5 ⟨⟨v5, O5, k5, rfl, hv5, hr5⟩, hb5⟩
  obtain ⟨rfl, hO5⟩ := HB4.out.2.2.2.2.1 O5 k5 (by rw [← HDm.out]; exact hr5)
  rw [hO5] at hv5
  obtain ⟨va5, vc5, rfl, -⟩ := hv5.shape
  rw [← HDm.out] at hv5 ⊢
  have HL5 : Hid (Below V4.heap.size V4 w5 ∧ Arg V4.heap.size w5 (.slice va5 m vc5) D) := ⟨hb5, hv5⟩
  clear hb5 hv5 hr5 hO5 HC5
  have HC6 := unlink_f (nx := x4) HB4.out.2.2.2.1 H0.out.2.2.2.1 (ndsN.below HB4.out.2.2.1 HL5.out.1) (HG.out _ (below_any (below_any (below_any (below_any (below_any HB0.out.1 HL1.out) HL2.out.1) HB3.out.1) HB4.out.1) HL5.out.1))
  obtain ⟨b4c0, b4c1, -, -⟩ := ((HB4.out.2.1).below HL5.out.1 (HB4.out.2.1).lt).two
  go_wp2_with fail
  clear b4c0 b4c1
  refine HC6.mono ?_
  rintro e w6 ⟨⟨k6, l6, x6, n6, a6, c6, rfl, hn6, hl6, ht6⟩, hb6⟩
  obtain ⟨rfl, hR6⟩ := HB4.out.2.2.2.2.2 _ _ ht6
  obtain ⟨V6, hV6⟩ : ∃ V, V = w6.alloc (.cells #[.slice a6 n6 c6, .int .i64 x6] 29) := ⟨_, rfl⟩
  have hbV6 : Below w6.heap.size w6 V6 := by rw [hV6]; exact (Below.refl _ w6).alloc (Nat.le_refl _) _
  have HB6 : Hid (Below w5.heap.size w5 V6 ∧ Box V6 w6.heap.size 29 #[.slice a6 n6 c6, .int .i64 x6] ∧ ndsN.lies w5.heap.size V6 [.slice a6 n6 c6] l6 ∧ n6 = l6.length ∧ (∀ O k, Readed (l6, x6) q 0 D.length O k → k = 0 ∧ O = D)) := ⟨below_any hb6 hbV6, by rw [hV6]; exact Box.new _ _ _, ndsN.below hl6 hbV6, hn6, hR6⟩
  clear hb6 hbV6 hl6 hn6 ht6 hR6 HC6
  have HC7 := read_f (nx := x6) HB6.out.2.2.2.1 H0.out.2.2.2.2.1 (off := 0) (m := (m : Int)) (by unfold I64; omega) (by unfold I64; omega) (ndsN.below HB6.out.2.2.1 (Below.refl _ V6)) (HG.out _ (below_any (below_any (below_any (below_any (below_any (below_any HB0.out.1 HL1.out) HL2.out.1) HB3.out.1) HB4.out.1) HL5.out.1) HB6.out.1))
  obtain ⟨b6c0, b6c1, -, -⟩ := HB6.out.2.1.two
  rw [hV6] at b6c0 b6c1
  go_wp2_with fail
  rw [← hV6]
  clear b6c0 b6c1 hV6
  refine HC7.mono ?_
  rintro e w7 ⟨⟨v7, O7, k7, rfl, hv7, hr7⟩, hb7⟩
  obtain ⟨rfl, hO7⟩ := HB6.out.2.2.2.2 O7 k7 (by rw [← HDm.out]; exact hr7)
  rw [hO7] at hv7
  obtain ⟨va7, vc7, rfl, -⟩ := hv7.shape
  rw [← HDm.out] at hv7 ⊢
  have HL7 : Hid (Below V6.heap.size V6 w7 ∧ Arg V6.heap.size w7 (.slice va7 m vc7) D) := ⟨hb7, hv7⟩
  clear hb7 hv7 hr7 hO7 HC7
  have HS1 := F.same_any _ 0 _ _ D D w7 (HL5.out.2.below (below_any HB6.out.1 HL7.out.1)) (H0.out.2.2.2.2.2.1.below (below_any (below_any (below_any (below_any (below_any (below_any (below_any HB0.out.1 HL1.out) HL2.out.1) HB3.out.1) HB4.out.1) HL5.out.1) HB6.out.1) HL7.out.1))
  rw [show decide (D = D) = true by simp] at HS1
  have HS2 : Hid (∀ r, Calls Tryz.prog 13 #[.slice va7 m vc7, .slice va m vc] (w7.drewN r) fun e w' => e = .returned (.bool true) ∧ ∃ y, w' = (w7.drewN r).drewN y) := fun r => by
    have := F.same_any _ 0 _ _ D D (w7.drewN r) (HL7.out.2.below (below_drewN (Below.refl _ _) r)) (H0.out.2.2.2.2.2.1.below (below_drewN (below_any (below_any (below_any (below_any (below_any (below_any (below_any HB0.out.1 HL1.out) HL2.out.1) HB3.out.1) HB4.out.1) HL5.out.1) HB6.out.1) HL7.out.1) r))
    rwa [show decide (D = D) = true by simp] at this
  have HBF : Hid (∀ r, Below w.heap.size w (w7.drewN r)) := fun r => below_drewN (below_any (below_any (below_any (below_any (below_any (below_any (below_any HB0.out.1 HL1.out) HL2.out.1) HB3.out.1) HB4.out.1) HL5.out.1) HB6.out.1) HL7.out.1) r
  clear HB0 HB3 HB4 HB6 HL1 HL2 HL5 HL7 H0 HG HDm
  go_wp2_with (first | (go_at_call 9; refine (num10_any _ _).mono ?_; rintro e v ⟨rfl, rfl⟩) | (go_at_call 13; with_reducible refine Calls.mono HS1 ?_; rintro e v ⟨rfl, y, rfl⟩; have HS2' := HS2.out y) | (go_at_call 13; with_reducible refine Calls.mono HS2' ?_; rintro e v ⟨rfl, y2, rfl⟩))
  go_ret
  exact ⟨rfl, HBF.out _⟩
  
set_option maxRecDepth 100000 in
theorem contract (H : Type) (enc : TypeId × Value → H) (W : World) (base : Nat) (args : Array Value) (ds gs : List (DataW H)) (before : List MemPlace)
    (hval0 : ∀ (j : Nat) t v, Tryz.f3.params[j]? = some t → args[j]? = some v → Value.okWide Tryz.prog W .any base t v)
    (hW : DataW.Whole enc Tryz.prog Tryz.f3.params.toList Rows.fsLinksSpec.vars false W args.toList ds gs before) 
    (hsz0 : (DataW.weightsEach Tryz.prog (Tryz.f3.params.toList ++ Rows.fsLinksSpec.plain.varTypes Tryz.prog) (ds ++ gs)).all (· ≤ reachBytes) = true) (hg : Glob W) :
    Calls Tryz.prog 3 args W fun e W' => ∃ v, e = .returned v ∧ Rows.fsLinksSpec.post enc Tryz.prog Tryz.f3 false true false false W args v W' := by
  have hval := hval0
  have hW' := hW
  obtain ⟨p, q, hA0, hV, rfl, hfz, hnd⟩ := hW
  have hA : DataW.TrodAll enc Tryz.prog W 0 (fun _ => true) true Tryz.f3.params.toList args.toList ds p := hA0
  have hsz := hsz0
  clear hsz0
  rw [Tryz.params3] at hA hval hsz
  obtain ⟨v0, vs0, d0, ds0, p0, q0, hargs, rfl, rfl, h0, r0⟩ := trodAll_cons hA
  obtain ⟨v1, vs1, d1, ds1, p1, q1, rfl, rfl, rfl, h1, r1⟩ := trodAll_cons r0
  obtain ⟨v2, vs2, d2, ds2, p2, q2, rfl, rfl, rfl, h2, r2⟩ := trodAll_cons r1
  obtain ⟨v3, vs3, d3, ds3, p3, q3, rfl, rfl, rfl, h3, r3⟩ := trodAll_cons r2
  obtain ⟨rfl, rfl, rfl⟩ := trodAll_nil r3
  obtain rfl : args = #[v0, v1, v2, v3] := by cases args; simp_all
  obtain ⟨rfl, rfl⟩ := trodVars_none hV
  obtain ⟨cs0, rfl, hc0⟩ := okWide_struct Tryz.underlying24 (hval 0 24 v0 rfl rfl)
  obtain ⟨us0, rfl⟩ := as_list cs0
  have k0 := h0
  have lt0 : ∀ x ∈ p0, x.block < W.heap.size := by obtain ⟨m, hm⟩ := k0; exact DataW.trod_lt m _ _ _ hm
  obtain ⟨m0, hm0⟩ := h0
  obtain ⟨s0, A0, F0'⟩ := stR.reads hm0
  have F0 := F0' fun n hn => by have := List.all_eq_true.1 hsz _ (DataW.weights_mem_each (j := 0) rfl rfl n hn); simpa using this
  obtain ⟨t1, rfl, rfl, rfl, z1⟩ := open_string Tryz.underlying9 (hval 1 9 v1 rfl rfl) h1
  obtain ⟨t2, rfl, rfl, rfl, z2⟩ := open_string Tryz.underlying9 (hval 2 9 v2 rfl rfl) h2
  obtain ⟨x3, len3, cap3, rfl⟩ := okWide_slice Tryz.underlying25 (hval 3 25 v3 rfl rfl)
  have k3 := h3
  have lt3 : ∀ x ∈ p3, x.block < W.heap.size := by obtain ⟨m, hm⟩ := k3; exact DataW.trod_lt m _ _ _ hm
  obtain ⟨m3, hm3⟩ := h3
  obtain ⟨s3, A3, F3'⟩ := bytesS.reads hm3
  have F3 := F3' fun n hn => by have := List.all_eq_true.1 hsz _ (DataW.weights_mem_each (j := 3) rfl rfl n hn); simpa using this
  clear hA0 hval0
  refine (walk us0 s0 t1 t2 x3 len3 cap3 s3 W A0 (fitsS_of F0) z1 z2 A3 hg).mono fun e W' ⟨he, bel⟩ => ?_
  subst he
  exact ⟨_, rfl, _, _, _, [], _, [], hW', trodAll_mk1 (shut_bool Tryz.underlying4 _), (trodAll_cons_mk (Below.trod laidOut (by kernel_rfl) (of_decide_eq_true (by kernel_rfl)) k0 bel lt0) (trodAll_cons_mk (shut_string Tryz.underlying9 z1) (trodAll_cons_mk (shut_string Tryz.underlying9 z2) (trodAll_cons_mk (Below.trod laidOut (by kernel_rfl) (of_decide_eq_true (by kernel_rfl)) k3 bel lt3) trodAll_mk0)))), rfl, bel.frame _, fun h => by cases h⟩
theorem reads (os : Os) {H : Type} (enc : TypeId × Value → H) : ∃ places, DataW.whole enc Tryz.prog ((laidOf (World.holding Tryz.prog os ⟨#[], #[], []⟩)).forCall (fun _ _ => 0) ⟨#[], #[.agg #[.slice none 0 0, .int .i64 0], .string ⟨#[]⟩, .string ⟨#[]⟩, .slice none 0 0], []⟩).memory Tryz.f3.params.toList Rows.fsLinksSpec.vars false (#[.agg #[.slice none 0 0, .int .i64 0], .string ⟨#[]⟩, .string ⟨#[]⟩, .slice none 0 0] : Array Value).toList 8 = some ([.agg [.nil, .lit (.int .i64 0)], .lit (.string []), .lit (.string []), .nil], [], places) :=
  ⟨[], by kernel_rfl⟩
set_option maxRecDepth 100000 in
theorem lifted (os : Os) (started : os.Started) (H : Type) (enc : TypeId × Value → H) (F : Stop.Interp) :
    ReturnsInHanded {} Tryz.checked os 3 .any ((OpenSpec.ofChange Rows.fsLinksSpec).preRow enc Tryz.prog Tryz.f3 Rows.fsLinksRow.domain false Rows.fsLinksRow.laid) (((OpenSpec.ofChange Rows.fsLinksSpec).at F).post enc Tryz.prog Tryz.f3 false true false false) := by
  obtain ⟨places, hx⟩ := reads os enc
  refine returnsInHanded_of_row (C := Tryz.checked) (s := (OpenSpec.ofChange Rows.fsLinksSpec)) own started (by kernel_rfl) Tryz.func3
    (witness_row_at (enc := enc) (C := Tryz.checked) false (laidOf (World.holding Tryz.prog os ⟨#[], #[], []⟩)) #[.agg #[.slice none 0 0, .int .i64 0], .string ⟨#[]⟩, .string ⟨#[]⟩, .slice none 0 0] rfl (by kernel_rfl) (by kernel_rfl) (by kernel_rfl)
      (OpenSpec.preRow_of_cond 8 hx (by kernel_rfl) (fun k hk => by cases hk) (by kernel_rfl) (laidWorld_met os _))) ?_
  intro W base args ds gs before hval hW _ _ hsz hL _ _
  exact contract H enc W base args ds gs before hval hW hsz (handle_of_laid hL)
theorem said : Rows.FsLinksSaid :=
  OpenClaim.holds_of_cond 3 Tryz.f3 rfl rfl rfl rfl rfl rfl rfl ⟨rfl, rfl, rfl, rfl, rfl⟩ rfl rfl rfl rfl rfl (by kernel_rfl) Tryz.func3 (by kernel_rfl)
    (of_decide_eq_true (by kernel_rfl)) (by unfold Func.isWrapper; first | (rw [if_pos (by decide +kernel)]; kernel_rfl) | (rw [if_neg (by decide +kernel)]; exact ⟨rfl, rfl⟩))
    (fun os started H enc _ F => by rw [OpenClaim.pre_eq_preRow]; exact lifted os started H enc F)
theorem plain (f : FuncId) (fn : Func) (hf : Tryz.pinned.checked.prog.funcNamed Tryz.f3.name = some f) (hfn : Tryz.pinned.checked.prog.funcs[f]? = some fn) :
    true = Tryz.pinned.checked.prog.looks [] ∧ ∀ (j : Nat) t, fn.params[j]? = some t → Tryz.pinned.checked.prog.wantsStandIn t = false := by
  obtain rfl : f = 3 := Option.some.inj ((show Tryz.prog.funcNamed Tryz.f3.name = some 3 by kernel_rfl).symm.trans hf) |>.symm
  obtain rfl : fn = Tryz.f3 := (Option.some.inj (Tryz.func3.symm.trans hfn)).symm
  refine ⟨by kernel_rfl, fun j t ht => ?_⟩
  rw [Tryz.params3] at ht
  have hm := Array.mem_of_getElem? ht
  simp only [List.mem_toArray, List.mem_cons, List.not_mem_nil, or_false] at hm
  rcases hm with rfl | rfl | rfl | rfl
  · exact (show Tryz.prog.wantsStandIn 24 = false by kernel_rfl)
  · exact (show Tryz.prog.wantsStandIn 9 = false by kernel_rfl)
  · exact (show Tryz.prog.wantsStandIn 9 = false by kernel_rfl)
  · exact (show Tryz.prog.wantsStandIn 25 = false by kernel_rfl)
theorem card : Rows.FsLinksCardSaid :=
  Claim7.holds_tied_plain_at .later [] _ _ _ _ said (fun _ h => by cases h) (by kernel_rfl) (fun _ h => by cases h) fsLinks_row_tie rfl ⟨rfl, rfl⟩ (by kernel_rfl) rfl plain (by kernel_rfl)
end Go.Proofs.YtkcnephbaffmbabGreatDoor.fsLinks
namespace Go.Proofs.YtkcnephbaffmbabGreatDoor
theorem fsLinks_holds : Rows.FsLinksCardSaid := fsLinks.card
#print axioms fsLinks_holds
end Go.Proofs.YtkcnephbaffmbabGreatDoor
