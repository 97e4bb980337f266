/-
  TableTells, proved: for every table and every number (as great as the form reads them): the call returns true, and changes nothing that was in memory. No condition of its own.
-/
import Derived.Test.YtgfdggilplkmfaaROps
import Derived.Test.YtgfdggilplkmfaaAlive
namespace Go.Proofs.Ytgfdggilplkmfaa.tableTells
open Go.ChangeShapes Go.WideShapes Go.ChangeAt Go.RowKit
set_option linter.unusedVariables false

set_option maxRecDepth 100000 in
set_option maxHeartbeats 8000000 in
theorem walk (n0 : Nat) (v : Value) (l : List Sl) (q x s n : Int) (hq : I64 q) (w : World) (h : ArgE n0 w v l) (hf : l.length * 16 ≤ 140737488351232) :
    Calls Try.prog 3 #[v, .int .i64 q, .int .i64 x, .int .i64 s, .int .i64 n] w fun e w' => e = .returned (.bool true) ∧ Below w.heap.size w w' := by
  have HL : Hid (ArgE n0 w v l ∧ I64 q) := ⟨h, hq⟩
  have HC := of_any n0 v l w h hf
  clear h hf hq
  go_enter Try.func3, Try.ntmps3
  go_wp2_with fail
  refine HC.mono ?_
  rintro e w1 ⟨⟨v1, rfl, hO1⟩, hb1⟩
  have H1 : Hid (Below w.heap.size w w1) := hb1
  have HA : Hid (ArgE w.heap.size w1 v1 l) := hO1.arg
  clear hb1 HC hO1
  have HC := alloc_any _ v1 l q x HL.out.2 w1 HA.out
  go_wp2_with fail
  refine HC.mono ?_
  rintro e w2 ⟨⟨v2, rfl, hA2⟩, hb2⟩
  have H2 : Hid (Below w.heap.size w w2) := below_any H1.out hb2
  have K2 : Hid (Below w1.heap.size w1 w2) := hb2
  have A2 : Hid (ArgE w1.heap.size w2 v2 (aV l q x)) := hA2.arg
  clear HC hb2 hA2
  have HC := ralloc_any _ v l q x w2 (HL.out.1.below H2.out)
  go_wp2_with fail
  refine HC.mono ?_
  rintro e w3 ⟨⟨v3, rfl, hA3⟩, hb3⟩
  have H3 : Hid (Below w.heap.size w w3) := below_any H2.out hb3
  have K3 : Hid (Below w1.heap.size w1 w3) := below_any K2.out hb3
  replace A2 : Hid (ArgE w1.heap.size w3 v2 (aV l q x)) := A2.out.below hb3
  have A3 : Hid (ArgE w2.heap.size w3 v3 (aV l q x)) := hA3.arg
  clear HC hb3 hA3
  have HC := kill_any _ v1 l s n w3 (HA.out.below K3.out)
  go_wp2_with fail
  refine HC.mono ?_
  rintro e w4 ⟨⟨v4, rfl, hA4⟩, hb4⟩
  have H4 : Hid (Below w.heap.size w w4) := below_any H3.out hb4
  have K4 : Hid (Below w1.heap.size w1 w4) := below_any K3.out hb4
  replace A2 : Hid (ArgE w1.heap.size w4 v2 (aV l q x)) := A2.out.below hb4
  replace A3 : Hid (ArgE w2.heap.size w4 v3 (aV l q x)) := A3.out.below hb4
  have A4 : Hid (ArgE w3.heap.size w4 v4 (kV l s n)) := hA4.arg
  clear HC hb4 hA4
  have HC := rkill_any _ v l s n w4 (HL.out.1.below H4.out)
  go_wp2_with fail
  refine HC.mono ?_
  rintro e w5 ⟨⟨v5, rfl, hA5⟩, hb5⟩
  have H5 : Hid (Below w.heap.size w w5) := below_any H4.out hb5
  have K5 : Hid (Below w1.heap.size w1 w5) := below_any K4.out hb5
  replace A2 : Hid (ArgE w1.heap.size w5 v2 (aV l q x)) := A2.out.below hb5
  replace A3 : Hid (ArgE w2.heap.size w5 v3 (aV l q x)) := A3.out.below hb5
  replace A4 : Hid (ArgE w3.heap.size w5 v4 (kV l s n)) := A4.out.below hb5
  have A5 : Hid (ArgE w4.heap.size w5 v5 (kV l s n)) := hA5.arg
  clear HC hb5 hA5
  have HC := free_any _ v1 l s w5 (HA.out.below K5.out)
  go_wp2_with fail
  refine HC.mono ?_
  rintro e w6 ⟨⟨v6, rfl, hA6⟩, hb6⟩
  have H6 : Hid (Below w.heap.size w w6) := below_any H5.out hb6
  have K6 : Hid (Below w1.heap.size w1 w6) := below_any K5.out hb6
  replace A2 : Hid (ArgE w1.heap.size w6 v2 (aV l q x)) := A2.out.below hb6
  replace A3 : Hid (ArgE w2.heap.size w6 v3 (aV l q x)) := A3.out.below hb6
  replace A4 : Hid (ArgE w3.heap.size w6 v4 (kV l s n)) := A4.out.below hb6
  replace A5 : Hid (ArgE w4.heap.size w6 v5 (kV l s n)) := A5.out.below hb6
  have A6 : Hid (ArgE w5.heap.size w6 v6 (fV l s)) := hA6.arg
  clear HC hb6 hA6
  have HC := rfree_any _ v l s w6 (HL.out.1.below H6.out)
  go_wp2_with fail
  refine HC.mono ?_
  rintro e w7 ⟨⟨v7, rfl, hA7⟩, hb7⟩
  have H7 : Hid (Below w.heap.size w w7) := below_any H6.out hb7
  have K7 : Hid (Below w1.heap.size w1 w7) := below_any K6.out hb7
  replace A2 : Hid (ArgE w1.heap.size w7 v2 (aV l q x)) := A2.out.below hb7
  replace A3 : Hid (ArgE w2.heap.size w7 v3 (aV l q x)) := A3.out.below hb7
  replace A4 : Hid (ArgE w3.heap.size w7 v4 (kV l s n)) := A4.out.below hb7
  replace A5 : Hid (ArgE w4.heap.size w7 v5 (kV l s n)) := A5.out.below hb7
  replace A6 : Hid (ArgE w5.heap.size w7 v6 (fV l s)) := A6.out.below hb7
  have A7 : Hid (ArgE w6.heap.size w7 v7 (fV l s)) := hA7.arg
  clear HC hb7 hA7
  have HC := room_any _ v1 l w7 (HA.out.below K7.out)
  go_wp2_with fail
  refine HC.mono ?_
  rintro e w8 ⟨rfl, hb8⟩
  have H8 : Hid (Below w.heap.size w w8) := below_any H7.out hb8
  have K8 : Hid (Below w1.heap.size w1 w8) := below_any K7.out hb8
  replace A2 : Hid (ArgE w1.heap.size w8 v2 (aV l q x)) := A2.out.below hb8
  replace A3 : Hid (ArgE w2.heap.size w8 v3 (aV l q x)) := A3.out.below hb8
  replace A4 : Hid (ArgE w3.heap.size w8 v4 (kV l s n)) := A4.out.below hb8
  replace A5 : Hid (ArgE w4.heap.size w8 v5 (kV l s n)) := A5.out.below hb8
  replace A6 : Hid (ArgE w5.heap.size w8 v6 (fV l s)) := A6.out.below hb8
  replace A7 : Hid (ArgE w6.heap.size w8 v7 (fV l s)) := A7.out.below hb8
  clear HC hb8
  have HC := rroom_any _ v l w8 (HL.out.1.below H8.out)
  go_wp2_with fail
  refine HC.mono ?_
  rintro e w9 ⟨rfl, hb9⟩
  have H9 : Hid (Below w.heap.size w w9) := below_any H8.out hb9
  have K9 : Hid (Below w1.heap.size w1 w9) := below_any K8.out hb9
  replace A2 : Hid (ArgE w1.heap.size w9 v2 (aV l q x)) := A2.out.below hb9
  replace A3 : Hid (ArgE w2.heap.size w9 v3 (aV l q x)) := A3.out.below hb9
  replace A4 : Hid (ArgE w3.heap.size w9 v4 (kV l s n)) := A4.out.below hb9
  replace A5 : Hid (ArgE w4.heap.size w9 v5 (kV l s n)) := A5.out.below hb9
  replace A6 : Hid (ArgE w5.heap.size w9 v6 (fV l s)) := A6.out.below hb9
  replace A7 : Hid (ArgE w6.heap.size w9 v7 (fV l s)) := A7.out.below hb9
  clear HC hb9
  have HC := new_any n w9
  go_wp2_with fail
  refine HC.mono ?_
  rintro e w10 ⟨⟨v10, rfl, hA10⟩, hb10⟩
  have H10 : Hid (Below w.heap.size w w10) := below_any H9.out hb10
  have K10 : Hid (Below w1.heap.size w1 w10) := below_any K9.out hb10
  replace A2 : Hid (ArgE w1.heap.size w10 v2 (aV l q x)) := A2.out.below hb10
  replace A3 : Hid (ArgE w2.heap.size w10 v3 (aV l q x)) := A3.out.below hb10
  replace A4 : Hid (ArgE w3.heap.size w10 v4 (kV l s n)) := A4.out.below hb10
  replace A5 : Hid (ArgE w4.heap.size w10 v5 (kV l s n)) := A5.out.below hb10
  replace A6 : Hid (ArgE w5.heap.size w10 v6 (fV l s)) := A6.out.below hb10
  replace A7 : Hid (ArgE w6.heap.size w10 v7 (fV l s)) := A7.out.below hb10
  have A10 : Hid (ArgE w9.heap.size w10 v10 (nV n)) := hA10.arg
  clear HC hb10 hA10
  have HC := rnew_any n w10
  go_wp2_with fail
  refine HC.mono ?_
  rintro e w11 ⟨⟨v11, rfl, hA11⟩, hb11⟩
  have H11 : Hid (Below w.heap.size w w11) := below_any H10.out hb11
  have K11 : Hid (Below w1.heap.size w1 w11) := below_any K10.out hb11
  replace A2 : Hid (ArgE w1.heap.size w11 v2 (aV l q x)) := A2.out.below hb11
  replace A3 : Hid (ArgE w2.heap.size w11 v3 (aV l q x)) := A3.out.below hb11
  replace A4 : Hid (ArgE w3.heap.size w11 v4 (kV l s n)) := A4.out.below hb11
  replace A5 : Hid (ArgE w4.heap.size w11 v5 (kV l s n)) := A5.out.below hb11
  replace A6 : Hid (ArgE w5.heap.size w11 v6 (fV l s)) := A6.out.below hb11
  replace A7 : Hid (ArgE w6.heap.size w11 v7 (fV l s)) := A7.out.below hb11
  replace A10 : Hid (ArgE w9.heap.size w11 v10 (nV n)) := A10.out.below hb11
  have A11 : Hid (ArgE w10.heap.size w11 v11 (nV n)) := hA11.arg
  clear HC hb11 hA11
  have HC := same_any _ _ v2 v3 _ _ w11 A2.out A3.out
  rw [decide_eq_true rfl] at HC
  go_wp2_with (go_at_call 19; refine (num_any _ _).mono ?_; rintro e wn ⟨rfl, rfl⟩)
  refine HC.mono ?_
  rintro e w12 ⟨rfl, hb12⟩
  have H12 : Hid (Below w.heap.size w w12) := below_any H11.out hb12
  have K12 : Hid (Below w1.heap.size w1 w12) := below_any K11.out hb12
  replace A2 : Hid (ArgE w1.heap.size w12 v2 (aV l q x)) := A2.out.below hb12
  replace A3 : Hid (ArgE w2.heap.size w12 v3 (aV l q x)) := A3.out.below hb12
  replace A4 : Hid (ArgE w3.heap.size w12 v4 (kV l s n)) := A4.out.below hb12
  replace A5 : Hid (ArgE w4.heap.size w12 v5 (kV l s n)) := A5.out.below hb12
  replace A6 : Hid (ArgE w5.heap.size w12 v6 (fV l s)) := A6.out.below hb12
  replace A7 : Hid (ArgE w6.heap.size w12 v7 (fV l s)) := A7.out.below hb12
  replace A10 : Hid (ArgE w9.heap.size w12 v10 (nV n)) := A10.out.below hb12
  replace A11 : Hid (ArgE w10.heap.size w12 v11 (nV n)) := A11.out.below hb12
  clear HC hb12
  have HC := same_any _ _ v4 v5 _ _ w12 A4.out A5.out
  rw [decide_eq_true rfl] at HC
  go_wp2_with (go_at_call 19; refine (num_any _ _).mono ?_; rintro e wn ⟨rfl, rfl⟩)
  refine HC.mono ?_
  rintro e w13 ⟨rfl, hb13⟩
  have H13 : Hid (Below w.heap.size w w13) := below_any H12.out hb13
  have K13 : Hid (Below w1.heap.size w1 w13) := below_any K12.out hb13
  replace A2 : Hid (ArgE w1.heap.size w13 v2 (aV l q x)) := A2.out.below hb13
  replace A3 : Hid (ArgE w2.heap.size w13 v3 (aV l q x)) := A3.out.below hb13
  replace A4 : Hid (ArgE w3.heap.size w13 v4 (kV l s n)) := A4.out.below hb13
  replace A5 : Hid (ArgE w4.heap.size w13 v5 (kV l s n)) := A5.out.below hb13
  replace A6 : Hid (ArgE w5.heap.size w13 v6 (fV l s)) := A6.out.below hb13
  replace A7 : Hid (ArgE w6.heap.size w13 v7 (fV l s)) := A7.out.below hb13
  replace A10 : Hid (ArgE w9.heap.size w13 v10 (nV n)) := A10.out.below hb13
  replace A11 : Hid (ArgE w10.heap.size w13 v11 (nV n)) := A11.out.below hb13
  clear HC hb13
  have HC := same_any _ _ v6 v7 _ _ w13 A6.out A7.out
  rw [decide_eq_true rfl] at HC
  go_wp2_with (go_at_call 19; refine (num_any _ _).mono ?_; rintro e wn ⟨rfl, rfl⟩)
  refine HC.mono ?_
  rintro e w14 ⟨rfl, hb14⟩
  have H14 : Hid (Below w.heap.size w w14) := below_any H13.out hb14
  have K14 : Hid (Below w1.heap.size w1 w14) := below_any K13.out hb14
  replace A2 : Hid (ArgE w1.heap.size w14 v2 (aV l q x)) := A2.out.below hb14
  replace A3 : Hid (ArgE w2.heap.size w14 v3 (aV l q x)) := A3.out.below hb14
  replace A4 : Hid (ArgE w3.heap.size w14 v4 (kV l s n)) := A4.out.below hb14
  replace A5 : Hid (ArgE w4.heap.size w14 v5 (kV l s n)) := A5.out.below hb14
  replace A6 : Hid (ArgE w5.heap.size w14 v6 (fV l s)) := A6.out.below hb14
  replace A7 : Hid (ArgE w6.heap.size w14 v7 (fV l s)) := A7.out.below hb14
  replace A10 : Hid (ArgE w9.heap.size w14 v10 (nV n)) := A10.out.below hb14
  replace A11 : Hid (ArgE w10.heap.size w14 v11 (nV n)) := A11.out.below hb14
  clear HC hb14
  have HC := same_any _ _ v10 v11 _ _ w14 A10.out A11.out
  rw [decide_eq_true rfl] at HC
  go_wp2_with (go_at_call 19; refine (num_any _ _).mono ?_; rintro e wn ⟨rfl, rfl⟩)
  refine HC.mono ?_
  rintro e w15 ⟨rfl, hb15⟩
  have H15 : Hid (Below w.heap.size w w15) := below_any H14.out hb15
  have K15 : Hid (Below w1.heap.size w1 w15) := below_any K14.out hb15
  replace A2 : Hid (ArgE w1.heap.size w15 v2 (aV l q x)) := A2.out.below hb15
  replace A3 : Hid (ArgE w2.heap.size w15 v3 (aV l q x)) := A3.out.below hb15
  replace A4 : Hid (ArgE w3.heap.size w15 v4 (kV l s n)) := A4.out.below hb15
  replace A5 : Hid (ArgE w4.heap.size w15 v5 (kV l s n)) := A5.out.below hb15
  replace A6 : Hid (ArgE w5.heap.size w15 v6 (fV l s)) := A6.out.below hb15
  replace A7 : Hid (ArgE w6.heap.size w15 v7 (fV l s)) := A7.out.below hb15
  replace A10 : Hid (ArgE w9.heap.size w15 v10 (nV n)) := A10.out.below hb15
  replace A11 : Hid (ArgE w10.heap.size w15 v11 (nV n)) := A11.out.below hb15
  clear HC hb15
  have HC := check_any _ v1 l w15 (HA.out.below K15.out)
  go_wp2_with (go_at_call 19; refine (num_any _ _).mono ?_; rintro e wn ⟨rfl, rfl⟩)
  refine HC.mono ?_
  rintro e w16 ⟨rfl, hb16⟩
  have H16 : Hid (Below w.heap.size w w16) := below_any H15.out hb16
  have K16 : Hid (Below w1.heap.size w1 w16) := below_any K15.out hb16
  replace A2 : Hid (ArgE w1.heap.size w16 v2 (aV l q x)) := A2.out.below hb16
  replace A3 : Hid (ArgE w2.heap.size w16 v3 (aV l q x)) := A3.out.below hb16
  replace A4 : Hid (ArgE w3.heap.size w16 v4 (kV l s n)) := A4.out.below hb16
  replace A5 : Hid (ArgE w4.heap.size w16 v5 (kV l s n)) := A5.out.below hb16
  replace A6 : Hid (ArgE w5.heap.size w16 v6 (fV l s)) := A6.out.below hb16
  replace A7 : Hid (ArgE w6.heap.size w16 v7 (fV l s)) := A7.out.below hb16
  replace A10 : Hid (ArgE w9.heap.size w16 v10 (nV n)) := A10.out.below hb16
  replace A11 : Hid (ArgE w10.heap.size w16 v11 (nV n)) := A11.out.below hb16
  clear HC hb16
  have HC := rcheck_any _ v l w16 (HL.out.1.below H16.out)
  go_wp2_with (go_at_call 19; refine (num_any _ _).mono ?_; rintro e wn ⟨rfl, rfl⟩)
  refine HC.mono ?_
  rintro e w17 ⟨rfl, hb17⟩
  have H17 : Hid (Below w.heap.size w w17) := below_any H16.out hb17
  have K17 : Hid (Below w1.heap.size w1 w17) := below_any K16.out hb17
  replace A2 : Hid (ArgE w1.heap.size w17 v2 (aV l q x)) := A2.out.below hb17
  replace A3 : Hid (ArgE w2.heap.size w17 v3 (aV l q x)) := A3.out.below hb17
  replace A4 : Hid (ArgE w3.heap.size w17 v4 (kV l s n)) := A4.out.below hb17
  replace A5 : Hid (ArgE w4.heap.size w17 v5 (kV l s n)) := A5.out.below hb17
  replace A6 : Hid (ArgE w5.heap.size w17 v6 (fV l s)) := A6.out.below hb17
  replace A7 : Hid (ArgE w6.heap.size w17 v7 (fV l s)) := A7.out.below hb17
  replace A10 : Hid (ArgE w9.heap.size w17 v10 (nV n)) := A10.out.below hb17
  replace A11 : Hid (ArgE w10.heap.size w17 v11 (nV n)) := A11.out.below hb17
  clear HC hb17
  have HC := same_any _ _ v1 v l l w17 (HA.out.below K17.out) (HL.out.1.below H17.out)
  rw [decide_eq_true rfl] at HC
  go_wp2_with (go_at_call 19; refine (num_any _ _).mono ?_; rintro e wn ⟨rfl, rfl⟩)
  refine HC.mono ?_
  rintro e w18 ⟨rfl, hb18⟩
  have H18 : Hid (Below w.heap.size w w18) := below_any H17.out hb18
  have K18 : Hid (Below w1.heap.size w1 w18) := below_any K17.out hb18
  replace A2 : Hid (ArgE w1.heap.size w18 v2 (aV l q x)) := A2.out.below hb18
  replace A3 : Hid (ArgE w2.heap.size w18 v3 (aV l q x)) := A3.out.below hb18
  replace A4 : Hid (ArgE w3.heap.size w18 v4 (kV l s n)) := A4.out.below hb18
  replace A5 : Hid (ArgE w4.heap.size w18 v5 (kV l s n)) := A5.out.below hb18
  replace A6 : Hid (ArgE w5.heap.size w18 v6 (fV l s)) := A6.out.below hb18
  replace A7 : Hid (ArgE w6.heap.size w18 v7 (fV l s)) := A7.out.below hb18
  replace A10 : Hid (ArgE w9.heap.size w18 v10 (nV n)) := A10.out.below hb18
  replace A11 : Hid (ArgE w10.heap.size w18 v11 (nV n)) := A11.out.below hb18
  clear HC hb18
  have HC := alive_any w18
  go_wp2_with (go_at_call 19; refine (num_any _ _).mono ?_; rintro e wn ⟨rfl, rfl⟩)
  refine HC.mono ?_
  rintro e w19 ⟨rfl, hb19⟩
  have H19 : Hid (Below w.heap.size w w19) := below_any H18.out hb19
  have K19 : Hid (Below w1.heap.size w1 w19) := below_any K18.out hb19
  replace A2 : Hid (ArgE w1.heap.size w19 v2 (aV l q x)) := A2.out.below hb19
  replace A3 : Hid (ArgE w2.heap.size w19 v3 (aV l q x)) := A3.out.below hb19
  replace A4 : Hid (ArgE w3.heap.size w19 v4 (kV l s n)) := A4.out.below hb19
  replace A5 : Hid (ArgE w4.heap.size w19 v5 (kV l s n)) := A5.out.below hb19
  replace A6 : Hid (ArgE w5.heap.size w19 v6 (fV l s)) := A6.out.below hb19
  replace A7 : Hid (ArgE w6.heap.size w19 v7 (fV l s)) := A7.out.below hb19
  replace A10 : Hid (ArgE w9.heap.size w19 v10 (nV n)) := A10.out.below hb19
  replace A11 : Hid (ArgE w10.heap.size w19 v11 (nV n)) := A11.out.below hb19
  clear HC hb19
  go_wp2
  go_ret
  exact ⟨rfl, H19.out⟩

set_option maxRecDepth 100000 in
theorem lifted (os : Os) (started : os.Started) (H : Type) (enc : TypeId × Value → H) :
    ReturnsInHanded {} Try.checked os 3 .any (Rows.tableTellsSpec.pre6 enc Try.prog Try.f3 Rows.tableTellsRow.domain false) (Rows.tableTellsSpec.post enc Try.prog Try.f3 false true false false) := by
  refine returnsInHanded_of_change_sized (C := Try.checked) own started (by kernel_rfl) Try.func3
    (ChangeSpec.witness6 (enc := enc) (C := Try.checked) false ⟨#[], #[.slice none 0 0, .int .i64 0, .int .i64 0, .int .i64 0, .int .i64 0], []⟩ 8 (by kernel_rfl) (by kernel_rfl) (by kernel_rfl) (by kernel_rfl)) ?_
  intro W base args ds gs before hval0 hW hcnd hsz0 _
  have hval : ∀ (j : Nat) t v, Try.f3.params[j]? = some t → args[j]? = some v → Value.okWide Try.prog W .any base t v := hval0
  have hW' := hW
  obtain ⟨p, q, hA0, hV, rfl, hfz, hnd⟩ := hW
  have hA : DataW.TrodAll enc Try.prog W 0 (fun _ => true) true Try.f3.params.toList args.toList ds p := hA0
  have hsz : (DataW.weightsEach Try.prog (Try.f3.params.toList ++ Rows.tableTellsSpec.plain.varTypes Try.prog) (ds ++ gs)).all (· ≤ reachBytes) = true := hsz0
  clear hsz0
  rw [Try.params3] at hA hval hsz
  obtain ⟨v0, vs0, d0, ds0, p0, q0, hargs, rfl, rfl, h0, r0⟩ := trodAll_cons hA
  obtain ⟨v1, vs1, d1, ds1, p1, q1, rfl, rfl, rfl, h1, r1⟩ := trodAll_cons r0
  obtain ⟨v2, vs2, d2, ds2, p2, q2, rfl, rfl, rfl, h2, r2⟩ := trodAll_cons r1
  obtain ⟨v3, vs3, d3, ds3, p3, q3, rfl, rfl, rfl, h3, r3⟩ := trodAll_cons r2
  obtain ⟨v4, vs4, d4, ds4, p4, q4, rfl, rfl, rfl, h4, r4⟩ := trodAll_cons r3
  obtain ⟨rfl, rfl, rfl⟩ := trodAll_nil r4
  obtain rfl : args = #[v0, v1, v2, v3, v4] := by cases args; simp_all
  obtain ⟨rfl, rfl⟩ := trodVars_none hV
  obtain ⟨x0, len0, cap0, rfl⟩ := okWide_slice Try.underlying22 (hval 0 22 v0 rfl rfl)
  have k0 := h0
  have lt0 : ∀ x ∈ p0, x.block < W.heap.size := by obtain ⟨m, hm⟩ := k0; exact DataW.trod_lt m _ _ _ hm
  obtain ⟨m0, hm0⟩ := h0
  obtain ⟨s0, A0, F0'⟩ := slsR.reads hm0
  have F0 := F0' fun n hn => by have := List.all_eq_true.1 hsz _ (DataW.weights_mem_each (j := 0) rfl rfl n hn); simpa using this
  obtain ⟨a1, rfl, rfl, rfl, w1⟩ := open_int Try.underlying3 (hval 1 3 v1 rfl rfl) h1
  have b1 := bounds_i64 w1
  obtain ⟨a2, rfl, rfl, rfl, w2⟩ := open_int Try.underlying3 (hval 2 3 v2 rfl rfl) h2
  have b2 := bounds_i64 w2
  obtain ⟨a3, rfl, rfl, rfl, w3⟩ := open_int Try.underlying3 (hval 3 3 v3 rfl rfl) h3
  have b3 := bounds_i64 w3
  obtain ⟨a4, rfl, rfl, rfl, w4⟩ := open_int Try.underlying3 (hval 4 3 v4 rfl rfl) h4
  have b4 := bounds_i64 w4
  clear hA0 hval0
  refine (walk 0 _ s0 a1 a2 a3 a4 b1 W (args_of A0) (fits_of F0)).mono fun e W' ⟨he, bel⟩ => ?_
  subst he
  exact ⟨_, rfl, _, _, _, [], _, [], hW', trodAll_mk1 (shut_bool Try.underlying4 _), (trodAll_cons_mk (Below.trod laidOut (by kernel_rfl) (of_decide_eq_true (by kernel_rfl)) k0 bel lt0) (trodAll_cons_mk (shut_int Try.underlying3 w1) (trodAll_cons_mk (shut_int Try.underlying3 w2) (trodAll_cons_mk (shut_int Try.underlying3 w3) (trodAll_cons_mk (shut_int Try.underlying3 w4) trodAll_mk0))))), rfl, bel.frame _, fun h => by cases h⟩

theorem over : Rows.tableTellsRow.holds Try.pinned (OpenSpec.ofChange Rows.tableTellsSpec) :=
  OpenClaim.holds_of_wide 3 Try.f3 rfl rfl rfl rfl rfl rfl rfl ⟨rfl, rfl, rfl, rfl, rfl⟩ rfl rfl rfl rfl rfl (by kernel_rfl) Try.func3 (by kernel_rfl)
    (of_decide_eq_true (by kernel_rfl)) (by unfold Func.isWrapper; first | (rw [if_pos (by decide +kernel)]; kernel_rfl) | (rw [if_neg (by decide +kernel)]; exact ⟨rfl, rfl⟩))
    (fun os started H enc _ => lifted os started H enc)

end Go.Proofs.Ytgfdggilplkmfaa.tableTells

namespace Go.Proofs.Ytgfdggilplkmfaa
theorem tableTells_holds : Rows.TableTellsSaid := tableTells.over
#print axioms tableTells_holds
end Go.Proofs.Ytgfdggilplkmfaa
