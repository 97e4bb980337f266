import Derived.Test.YthlfgpnabcplnaaGreatDoorTe1
import Derived.Test.YthlfgpnabcplnaaGreatDoorTe13
import Derived.Test.YthlfgpnabcplnaaGreatDoorTe26
import Derived.Test.YthlfgpnabcplnaaGreatDoorTe21
import Derived.Test.YthlfgpnabcplnaaGreatDoorTe25
import Derived.Test.YthlfgpnabcplnaaGreatDoorTe24
import Derived.Test.YthlfgpnabcplnaaGreatDoorTe22
import Derived.Test.YthlfgpnabcplnaaGreatDoorTe33
/-
  What joined, readJoined and Split make of octets.
-/
namespace Go.Proofs.YthlfgpnabcplnaaGreatDoor.W
open Go.RowKit

theorem dz_len (l : List Int) : (O.dz l).length ≤ l.length := by
  unfold O.dz
  exact (List.dropWhile_sublist _).length_le

theorem get2 (v : Value) (a b : Int) (w : World) (h : Arg 0 w v [a, b]) :
    Calls Tryz.prog 34 #[v] w fun e w' => e = .returned (.tuple #[.int .u64 (((a * 256 + b).toNat : Nat) : Int), .int .i64 0]) ∧ w = w' := by
  have ho := h.oct
  rcases h.split with ⟨h0, _⟩ | ⟨bb, off, cap, rfl, hc, hm, _, hcell⟩
  · cases h0
  have ha := (oc_cons.1 ho).1
  have hb := (oc_cons.1 (oc_cons.1 ho).2).1
  have hd := dz_len [a, b]
  have h8 : ¬ 8 < (O.dz [a, b]).length := by simp at hd; omega
  have hg : O.gval [a, b] = (((a * 256 + b).toNat : Nat) : Int) ∧ O.gerr [a, b] = 0 := by
    unfold O.gval O.gerr
    rw [if_neg h8, if_neg h8]
    refine ⟨?_, rfl⟩
    simp [O.nv]
    omega
  have := O.get_some bb off 2 cap [a, b] rfl w hm hc hcell ho
  rw [hg.1, hg.2] at this
  exact this


end Go.Proofs.YthlfgpnabcplnaaGreatDoor.W

/-
  What readJoined and Split make of octets.
-/
namespace Go.Proofs.YthlfgpnabcplnaaGreatDoor.W
open Go.RowKit

theorem joinR_len {q t r : List Int} (h : joinR q = .ok (t, r)) : r.length + t.length + 2 = q.length := by
  match q, h with
  | [], h => cases h
  | [_], h => cases h
  | a :: b :: s, h =>
    have h' : takeR (a * 256 + b).toNat s = .ok (t, r) := h
    unfold takeR at h'
    split at h'
    · cases h'
    obtain ⟨h1, h2⟩ := Prod.mk.inj (Except.ok.inj h')
    subst h1; subst h2
    simp only [List.length_take, List.length_drop, List.length_cons]
    omega

theorem spl_bad {f : Nat} {q : List Int} (ts : List (List Int)) {k : Int} (hq : q ≠ []) (hf : q.length ≤ f) (h : joinR q = .error k) : (splF f q).map (ts ++ ·) = .error k := by
  match q, f, hq, hf, h with
  | c :: q, f + 1, _, _, h => rw [splF_cons, h]; rfl
theorem spl_got {f : Nat} {q : List Int} (ts : List (List Int)) {t r : List Int} (hq : q ≠ []) (hf : q.length ≤ f) (h : joinR q = .ok (t, r)) : ∃ g, (splF f q).map (ts ++ ·) = (splF g r).map ((ts ++ [t]) ++ ·) ∧ r.length ≤ g := by
  have hl := joinR_len h
  match q, f, hq, hf, h with
  | c :: q, f + 1, _, hf, h =>
    refine ⟨f, ?_, by simp only [List.length_cons] at hl hf; omega⟩
    rw [splF_cons, h]
    simp only [Rd.then, Rd.map]
    cases splF f r with
    | error e => rfl
    | ok pp => obtain ⟨b, s⟩ := pp; simp

theorem take_more {α : Type} (ts : List α) (t : α) (n : Nat) (h : ts.length < n) : (ts ++ [t]).take n = ts.take n ++ [t] := by
  rw [List.take_of_length_le (by simp; omega), List.take_of_length_le (by omega)]
theorem take_same {α : Type} (ts : List α) (t : α) (n : Nat) (h : n ≤ ts.length) : (ts ++ [t]).take n = ts.take n := by
  rw [List.take_append_of_le_length h]


/-- Split's error, and its texts. -/
def rsE : Rd (List (List Int)) → Int
  | .error k => k
  | .ok (_, _) => 0
def rsV : Rd (List (List Int)) → List (List Int)
  | .error _ => []
  | .ok (ts, _) => ts
def errS : Rd (List (List Int)) → Value
  | .error k => faultW k
  | .ok (_, _) => .nilIface
theorem numberOf_split (x : Rd (List (List Int))) (w : World) (hg : Glob w) : Calls Tryz.prog 91 #[errS x] w fun e w' => e = .returned (.int .i64 (rsE x)) ∧ Below w.heap.size w w' := by
  cases x with
  | error k => exact numberOf_fault k w hg
  | ok pp => obtain ⟨a, l⟩ := pp; exact numberOf_nil w


end Go.Proofs.YthlfgpnabcplnaaGreatDoor.W

/-
  What the document's Split answers: the same as the program's.
-/
namespace Go.Proofs.YthlfgpnabcplnaaGreatDoor.W
open Go.RowKit

theorem copied_any : Copies 59 := fun _ v l w h hs => (C.copied_any v l w h.toC hs).mono fun _ _ ⟨⟨v', he, ho⟩, hb⟩ => ⟨⟨v', he, .mk ho h.oct⟩, hb⟩

/-- How long a slice is. -/
def lenOf : Value → Nat
  | .slice _ m _ => m
  | _ => 0

/-- Where the loop of Split stands. -/
def Stands (w0 w : World) (R : Nat) (l : List Int) (N : Nat) (j : Nat) (p : Nat) (k : Int) (v : Value) (wr : World) : Prop :=
  ∃ ts : List (List Int), ts.length = j ∧ textsS.owns w.heap.size wr [v] ts ∧ RR w0 R l p k wr ∧ w.grownBy wr (some R) ∧ 2 * j ≤ N + 2 ∧
    ((k = 0 ∧ 2 * j + (l.drop p).length ≤ N ∧ ∃ f, splR l = (splF f (l.drop p)).map (ts ++ ·) ∧ (l.drop p).length ≤ f) ∨ (k ≠ 0 ∧ splR l = .error k))


end Go.Proofs.YthlfgpnabcplnaaGreatDoor.W

/-
  What the document's Decode answers of octets that are sealed: the same as the program's.
-/
namespace Go.Proofs.YthlfgpnabcplnaaGreatDoor.W
open Go.RowKit

theorem i64_not (v : Nat) (h : v < 9223372036854775808) : bits .xor .i64 (-1) (v : Int) = -((v : Nat) : Int) - 1 := by
  have h2 : ((2 ^ 64 - 1) ^^^ v : Nat) = 2 ^ 64 - (v + 1) := Nat.eq_of_testBit_eq fun i => by
    rw [Nat.testBit_xor, Nat.testBit_two_pow_sub_one, Nat.testBit_two_pow_sub_succ (by omega)]
    by_cases hi : i < 64
    · simp [hi]
    · have : v.testBit i = false := Nat.testBit_lt_two_pow (Nat.lt_of_lt_of_le (show v < 2 ^ 64 by omega) (Nat.pow_le_pow_right (by omega) (by omega)))
      simp [hi, this]
  show IntKind.i64.wrap ((BitVec.ofInt 64 (-1) ^^^ BitVec.ofInt 64 (v : Int)).toNat : Int) = _
  have h1 : (BitVec.ofInt 64 (-1)).toNat = 2 ^ 64 - 1 := by decide
  rw [BitVec.toNat_xor, h1, ofInt_u64 v (by omega), h2, IntKind.wrap_i64]
  omega

theorem numR_of_bad {q : List Int} {k : Int} (h : grpR 0 0 q = .error k) : numR q = .error k := by unfold numR; rw [h]; rfl
theorem numR_of_got {q r : List Int} {m : Nat} (h : grpR 0 0 q = .ok (m, r)) : numR q = .ok ((unfold m), r) := by unfold numR; rw [h]; rfl

attribute [local go_sem ↓] Go.wp_at_zero Go.wp_at_succ

set_option maxRecDepth 100000 in
set_option maxHeartbeats 8000000 in
theorem rdec_ok (n0 : Nat) (v : Value) (l : List Int) (w : World) (h : Arg n0 w v l) (hs : l.length ≤ 140737488351232) (he : C.oerr l = 0) :
    Calls Tryz.prog 38 #[v] w fun e w' => (∃ us : List Value, e = .returned (.tuple #[.agg us.toArray, .int .i64 (rdE (recR (C.oout l)))]) ∧ recF.owns w.heap.size w' us (rdR (recR (C.oout l)))) ∧ Below w.heap.size w w' := by
  obtain ⟨i0, hi, hz0, hz1, hz2⟩ := info_parts Tryz.info3
  obtain ⟨i2, hi2, hz20, hz21, hz22⟩ := info_parts info22
  obtain ⟨W, hW⟩ : ∃ W, W = w.alloc (.cells #[.int .i64 0, .slice none 0 0, .slice none 0 0] 74) := ⟨_, rfl⟩
  have hbW : Below w.heap.size w W := by rw [hW]; exact (Below.refl _ w).alloc (Nat.le_refl _) _
  have hP : Box W w.heap.size 74 #[.int .i64 0, .slice none 0 0, .slice none 0 0] := by rw [hW]; exact Box.new w 74 _
  have HO := C.ropen_any v l W (h.below hbW).toC hs
  rw [he] at HO
  obtain ⟨L, hL⟩ : ∃ L, L = C.oout l := ⟨_, rfl⟩
  have HLO : Hid (Oc L) := by show Oc L; rw [hL]; exact C.oout_oct h.oct
  rw [← hL] at HO ⊢
  obtain ⟨X, hX⟩ : ∃ X, X = recR L := ⟨_, rfl⟩
  rw [← hX]
  have HX0 : Hid (X = (octR L).then fun k r => (someR numR r).then fun ns r => (someR textR r).then fun ts r => if r = [] then .ok ((k, ns, ts), []) else .error 23) := hX
  have HW : Hid (Below w.heap.size w W ∧ Box W w.heap.size 74 #[.int .i64 0, .slice none 0 0, .slice none 0 0]) := ⟨hbW, hP⟩
  obtain ⟨a0, c0, rfl, _⟩ := h.shape
  clear h hP hbW hs he hL hX
  go_enter Tryz.func38, Tryz.ntmps38
  go_wp2_with fail
  rw [← hW]
  clear hW
  refine HO.mono ?_
  rintro e w1 ⟨a, cap, rfl, ho1, hb1⟩
  have hA1 : Arg 0 w1 (.slice a L.length cap) L := (Own1.mk ho1 HLO.out).arg.weaken (Nat.zero_le _)
  obtain ⟨V, hV⟩ : ∃ V, V = w1.alloc (.cells #[.slice a L.length cap, .int .i64 0, .int .i64 0] 117) := ⟨_, rfl⟩
  have hbV : Below w1.heap.size w1 V := by rw [hV]; exact (Below.refl _ w1).alloc (Nat.le_refl _) _
  have hRR : RR w1 w1.heap.size L 0 0 V := ⟨⟨a, cap, by rw [hV]; exact Box.new w1 117 _, hA1⟩, hbV, Nat.le_refl _, Nat.zero_le _⟩
  have hB1 := HW.out.2.below hb1 HW.out.2.lt
  have HV : Hid (Below w.heap.size w V ∧ Box V w.heap.size 74 #[.int .i64 0, .slice none 0 0, .slice none 0 0] ∧ w.heap.size < w1.heap.size ∧ V.heap.size = w1.heap.size + 1) := ⟨below_any (below_any HW.out.1 hb1) hbV, hB1.below hbV hB1.lt, hB1.lt, by rw [hV]; simp⟩
  have HR := roct_all w1 w1.heap.size L 0 0 V hRR
  obtain ⟨ln, hln⟩ : ∃ y, y = L.length := ⟨_, rfl⟩
  have HLN : Hid (ln = L.length) := hln
  have hlnr := run_len Tryz.underlying22 a ln cap
  rw [← hln] at hV ⊢
  clear ho1 hb1 hA1 hbV hRR hB1 hln HO
  go_wp2_with fail
  rw [← hV]
  clear hV
  refine HR.mono ?_
  rintro e w2 ⟨hgr, z, p1, k1, rfl, hR1, hz, hc1⟩
  obtain ⟨W3, hW3⟩ : ∃ W3, W3 = w2.alloc (.cells #[.int .i64 z, .slice none 0 0, .slice none 0 0] 74) := ⟨_, rfl⟩
  have hb3 : Below w2.heap.size w2 W3 := by rw [hW3]; exact (Below.refl _ w2).alloc (Nat.le_refl _) _
  have hws2 := hgr.size
  have hDS : DS w w1 w1.heap.size w2.heap.size L p1 k1 z (.slice none 0 0) (.slice none 0 0) W3 := by
    have hzr := HV.out.2.2.1
    have hvs := HV.out.2.2.2
    refine ⟨?_, ?_, hR1.below hb3 hR1.lt, by rw [hW3]; exact Box.new w2 74 _, hzr, by omega⟩
    · exact below_any (HV.out.1.grown hgr HV.out.1.size (fun j hj => by have := Option.some.inj hj; omega)) hb3
    · have hB2 := HV.out.2.1.grown hgr (fun e => by have := Option.some.inj e; omega)
      exact hB2.below hb3 hB2.lt
  have HC1 : Hid ((k1 ≠ 0 ∧ X = .error k1) ∨ (k1 = 0 ∧ X = (someR numR (L.drop p1)).then fun ns r => (someR textR r).then fun ts r => if r = [] then .ok ((z, ns, ts), []) else .error 23)) := by
    rcases hc1 with ⟨h1, _⟩ | ⟨_, ⟨h1, h2⟩ | ⟨h1, h2⟩⟩
    · exact absurd rfl h1
    · exact .inl ⟨h1, by rw [HX0.out, List.drop_zero] at *; rw [h2]; rfl⟩
    · exact .inr ⟨h1, by rw [HX0.out]; rw [List.drop_zero] at h2; rw [h2]; rfl⟩
  have HDS : Hid (DS w w1 w1.heap.size w2.heap.size L p1 k1 z (.slice none 0 0) (.slice none 0 0) W3 ∧ W3.heap.size = w2.heap.size + 1 ∧ (0 ≤ z ∧ z ≤ 255)) := ⟨hDS, by rw [hW3]; simp, hz⟩
  have HCN := rcnt_all w1 w1.heap.size L p1 k1 W3 hDS.rr
  clear hgr hR1 hc1 hb3 hDS HR hws2
  go_wp2_with fail
  rw [← hW3]
  clear hW3
  refine HCN.mono ?_
  rintro e w4 ⟨hg4, n, p2, k2, rfl, hR2, hc2⟩
  have HC2 : Hid (Cont1 X z [] n 0 (L.drop p2) k2) := by
    rcases hc2 with ⟨h1, rfl⟩ | ⟨h0, ⟨h1, h2⟩ | ⟨h1, h3, h4, h2⟩⟩
    · rcases HC1.out with ⟨_, h5⟩ | ⟨h5, _⟩
      · exact .inl ⟨h1, h5⟩
      · exact absurd h5 h1
    · rcases HC1.out with ⟨h5, _⟩ | ⟨_, h5⟩
      · exact absurd h0 h5
      · refine .inl ⟨h1, ?_⟩
        rw [h5, some_count, h2]
        rfl
    · rcases HC1.out with ⟨h5, _⟩ | ⟨_, h5⟩
      · exact absurd h0 h5
      · refine .inr ⟨h1, n.toNat, by omega, by omega, Nat.zero_le _, ?_⟩
        rw [h5, some_count, h2, Nat.sub_zero]
        simp only [Rd.then]
        cases manyR numR n.toNat (L.drop p2) <;> rfl
  have HD4 : Hid (DS w w1 w1.heap.size w2.heap.size L p2 k2 z (.slice none 0 0) (.slice none 0 0) w4 ∧ w2.heap.size + 1 ≤ w4.heap.size) := ⟨HDS.out.1.grow hg4 hR2, by have := hg4.size; have := HDS.out.2.1; omega⟩
  obtain ⟨O, hO⟩ : ∃ y, y = w2.heap.size := ⟨_, rfl⟩
  obtain ⟨R, hR⟩ : ∃ y, y = w1.heap.size := ⟨_, rfl⟩
  rw [← hO, ← hR] at HD4 ⊢
  have HRR0 : Hid (R = w1.heap.size) := hR
  have hzz := HDS.out.2.2
  clear hg4 hR2 hc2 HCN HC1 HDS hO hR HX0
  go_wp2
  go_loopw [9] (fun s wr => ∃ (i p m : Nat) (k : Int) (xs : List Int) (an : Option Addr) (cn : Nat), s = .int .i64 i ∧ m = i ∧ Hid (DS w w1 R O L p k z (.slice an m cn) (.slice none 0 0) wr ∧ xs.length = i ∧ intsS.owns (O + 1) wr [.slice an m cn] xs ∧ Cont1 X z xs n i (L.drop p) k ∧ O + 1 ≤ wr.heap.size)) (fun s _ => (n - intOf s).toNat)
  case atStart => exact ⟨0, p2, 0, k2, [], none, 0, rfl, rfl, HD4.out.1, rfl, ints_omk (World.ownsRow_nil _ _ _ _) (fun x hx => by cases hx), HC2.out, HD4.out.2⟩
  case round =>
    obtain ⟨i, p, m, k, xs, an, cn, rfl, rfl, HK⟩ := hrel
    obtain ⟨g1, g2, q0, q1, q2, f1, f2⟩ := HK.out.1.cells
    by_cases hA : (m : Int) < n ∧ k = 0
    · obtain ⟨hin, rfl⟩ := hA
      obtain ⟨N, hnN, hN64, hiN, hXN⟩ : ∃ N : Nat, n = N ∧ N ≤ 64 ∧ m ≤ N ∧ X = ((manyR numR (N - m) (L.drop p)).map (xs ++ ·)).then fun ns r => (someR textR r).then fun ts r => if r = [] then .ok ((z, ns, ts), []) else .error 23 := by
        rcases HK.out.2.2.2.1 with ⟨h1, _⟩ | ⟨_, h1⟩
        · exact absurd rfl h1
        · exact h1
      have hm64 : m < 64 := by omega
      obtain ⟨s, hsN⟩ : ∃ s, N - m = s + 1 := ⟨N - m - 1, by omega⟩
      have HXN : Hid (X = ((manyR numR (s + 1) (L.drop p)).map (xs ++ ·)).then fun ns r => (someR textR r).then fun ts r => if r = [] then .ok ((z, ns, ts), []) else .error 23) := by
        show _ = _
        rw [← hsN]
        exact hXN
      have HNN : Hid (n = N ∧ N ≤ 64 ∧ m + 1 ≤ N ∧ N - (m + 1) = s) := ⟨hnN, hN64, by omega, by omega⟩
      have HG := rgrp_all w1 R L p wr HK.out.1.rr
      clear hXN hnN hN64 hiN hsN
      go_wp2_with fail
      refine HG.mono ?_
      rintro e w5 ⟨hg5, mm, p5, k5, rfl, hR5, hmm, hc5⟩
      have hD5 := HK.out.1.grow hg5 hR5
      have HD5 : Hid (DS w w1 R O L p5 k5 z (.slice an m cn) (.slice none 0 0) w5 ∧ O + 1 ≤ w5.heap.size) := ⟨hD5, by have := hg5.size; have := HK.out.2.2.2.2; omega⟩
      have hI5 := intsS.osame HK.out.2.2.1 (same_of_grown hg5 (by have := HK.out.1.ro; omega))
      have HI5 : Hid (intsS.owns (O + 1) w5 [.slice an m cn] xs ∧ ∀ x ∈ xs, I64 x) := ⟨hI5, ints_in (intsS.olies hI5)⟩
      have HOW : Hid (w5.ownsRow (O + 1) 3 1 (.slice an m cn) m (xs.map (Value.int .i64))) := by
        have := ints_own hI5
        rwa [HK.out.2.1] at this
      have HCN : Hid (Cont1 X z (xs ++ [unfold mm]) n (m + 1) (L.drop p5) k5) := by
        rcases hc5 with ⟨h1, h2⟩ | ⟨h1, h2⟩
        · exact .inl ⟨h1, by rw [HXN.out, many_bad s xs _ (numR_of_bad h2)]; rfl⟩
        · exact .inr ⟨h1, N, HNN.out.1, HNN.out.2.1, HNN.out.2.2.1, by rw [HXN.out, many_got s xs _ (numR_of_got h2), HNN.out.2.2.2]⟩
      obtain ⟨g1', g2', q0', q1', q2', f1', f2'⟩ := hD5.cells
      obtain ⟨mk, hmk⟩ : ∃ y, y = mm / 2 := ⟨_, rfl⟩
      have h2 : (mm : Int) / 2 = (mk : Int) := by omega
      have hmkb : mk < 9223372036854775808 := by omega
      have h1 : bits .and .u64 (mm : Int) 1 = ((mm % 2 : Nat) : Int) := by
        have := u64_and_nat mm 1 hmm (by decide)
        rw [Nat.and_one_is_mod] at this
        exact this
      have hnot := i64_not mk hmkb
      have hws := HD5.out.2
      obtain ⟨uv, huv⟩ : ∃ y, y = unfold mm := ⟨_, rfl⟩
      rw [← huv] at HCN
      have HUV : Hid (uv = (if mm % 2 = 1 then -((mm / 2 : Nat) : Int) - 1 else ((mm / 2 : Nat) : Int)) ∧ I64 uv) := ⟨huv, by rw [huv]; exact unfold_in mm hmm⟩
      clear hg5 hR5 hc5 HG hI5 hD5 g1 g2 q0 q1 q2 f1 f2 huv
      rcases Nat.mod_two_eq_zero_or_one mm with e0 | e0
      · have huv : uv = (mk : Int) := by rw [HUV.out.1, if_neg (by omega), hmk]
        have h1' : bits .and .u64 (mm : Int) 1 = 0 := by rw [h1, e0]; rfl
        clear h1 hmk hnot e0
        subst huv
        go_wp2_with
          (at_builtin; refine wpList_append_lies _ (by rfl) _ _ 69 (by rfl) (O + 1) 3 i0 _ 1 8 Tryz.underlying69 hi hz0 hz1 hz2 rfl (by omega) _ m _ (by rfl) (HOW.out.alloc _) ⟨w5.heap.size, 0, none⟩ 1 1 [.int .i64 (mk : Int)] (by rfl) (by rfl) (World.news_of_block (cs := #[.int .i64 (mk : Int)]) (t := 3) (fr := (0, 0)) (heap_alloc_new w5 _)) (by simp [Value.oneCell']) (by omega) (by unfold maxLen; omega) (by omega) (by simp; omega) (w5.heap.size + 1) (by simp) ?_; intro gg cap3 w6 hown6 hgrow6 hat hltg
           have hb6 : Below (O + 1) w5 w6 := ((Below.refl _ w5).alloc hws _).grown hgrow6 (by simp; omega) (fun i hi => (HOW.out.lt i hi).1)
           have hD6 := HD5.out.1.below hb6 (by omega)
           obtain ⟨_, _, _, y1, _, y3, _⟩ := hD6.cells
           have HE6 : Hid (DS w w1 R O L p5 k5 z (.slice an m cn) (.slice none 0 0) w6 ∧ intsS.owns (O + 1) w6 [.slice (some ⟨gg, 0, none⟩) (m + 1) cap3] (xs ++ [(mk : Int)]) ∧ O + 1 ≤ w6.heap.size) := by
             refine ⟨hD6, ints_omk ?_ ?_, by have := hb6.size; omega⟩
             · rw [List.length_append, HK.out.2.1, List.map_append]
               exact hown6
             · intro y hy
               rcases List.mem_append.1 hy with hy | hy
               · exact HI5.out.2 y hy
               · rw [List.mem_singleton.1 hy]; exact HUV.out.2
           clear hown6 hgrow6 hat hltg hb6 hD6)
        go_roundw
        case rel =>
          refine ⟨m + 1, p5, m + 1, k5, xs ++ [(mk : Int)], some ⟨gg, 0, none⟩, cap3, by go_num, rfl, HE6.out.1.set1 _, by rw [List.length_append, HK.out.2.1]; rfl, intsS.osame HE6.out.2.1 (.set (by omega)), HCN.out, by simpa [World.setCell] using HE6.out.2.2⟩
        case measure => simp [intOf]; omega
      · have huv : uv = bits .xor .i64 (-1) (mk : Int) := by rw [hnot, HUV.out.1, if_pos e0, hmk]
        have h1' : bits .and .u64 (mm : Int) 1 = 1 := by rw [h1, e0]; rfl
        clear h1 hmk hnot e0
        subst huv
        go_wp2_with
          (at_builtin; refine wpList_append_lies _ (by rfl) _ _ 69 (by rfl) (O + 1) 3 i0 _ 1 8 Tryz.underlying69 hi hz0 hz1 hz2 rfl (by omega) _ m _ (by rfl) (HOW.out.alloc _) ⟨w5.heap.size, 0, none⟩ 1 1 [.int .i64 (bits .xor .i64 (-1) (mk : Int))] (by rfl) (by rfl) (World.news_of_block (cs := #[.int .i64 (bits .xor .i64 (-1) (mk : Int))]) (t := 3) (fr := (0, 0)) (heap_alloc_new w5 _)) (by simp [Value.oneCell']) (by omega) (by unfold maxLen; omega) (by omega) (by simp; omega) (w5.heap.size + 1) (by simp) ?_; intro gg cap3 w6 hown6 hgrow6 hat hltg
           have hb6 : Below (O + 1) w5 w6 := ((Below.refl _ w5).alloc hws _).grown hgrow6 (by simp; omega) (fun i hi => (HOW.out.lt i hi).1)
           have hD6 := HD5.out.1.below hb6 (by omega)
           obtain ⟨_, _, _, y1, _, y3, _⟩ := hD6.cells
           have HE6 : Hid (DS w w1 R O L p5 k5 z (.slice an m cn) (.slice none 0 0) w6 ∧ intsS.owns (O + 1) w6 [.slice (some ⟨gg, 0, none⟩) (m + 1) cap3] (xs ++ [(bits .xor .i64 (-1) (mk : Int))]) ∧ O + 1 ≤ w6.heap.size) := by
             refine ⟨hD6, ints_omk ?_ ?_, by have := hb6.size; omega⟩
             · rw [List.length_append, HK.out.2.1, List.map_append]
               exact hown6
             · intro y hy
               rcases List.mem_append.1 hy with hy | hy
               · exact HI5.out.2 y hy
               · rw [List.mem_singleton.1 hy]; exact HUV.out.2
           clear hown6 hgrow6 hat hltg hb6 hD6)
        go_roundw
        case rel =>
          refine ⟨m + 1, p5, m + 1, k5, xs ++ [(bits .xor .i64 (-1) (mk : Int))], some ⟨gg, 0, none⟩, cap3, by go_num, rfl, HE6.out.1.set1 _, by rw [List.length_append, HK.out.2.1]; rfl, intsS.osame HE6.out.2.1 (.set (by omega)), HCN.out, by simpa [World.setCell] using HE6.out.2.2⟩
        case measure => simp [intOf]; omega
    · have hk0 : (m : Int) < n → k ≠ 0 := fun h e => hA ⟨h, e⟩
      obtain ⟨mm0, hmm0⟩ : ∃ y, y = m := ⟨_, rfl⟩
      have HCE : Hid ((k ≠ 0 ∧ X = .error k) ∨ (k = 0 ∧ X = (someR textR (L.drop p)).then fun ts r => if r = [] then .ok ((z, xs, ts), []) else .error 23)) := by
        rcases HK.out.2.2.2.1 with ⟨h1, h2⟩ | ⟨h1, N, h2, h3, h4, h5⟩
        · exact .inl ⟨h1, h2⟩
        · have hmN : N - m = 0 := by
            have : ¬ (m : Int) < n := fun h => hk0 h h1
            omega
          exact .inr ⟨h1, by rw [h5, hmN, many_zero]; rfl⟩
      have HCN := rcnt_all w1 R L p k wr HK.out.1.rr
      have HK2 : Hid (DS w w1 R O L p k z (.slice an mm0 cn) (.slice none 0 0) wr ∧ xs.length = mm0 ∧ intsS.owns (O + 1) wr [.slice an mm0 cn] xs ∧ O + 1 ≤ wr.heap.size) := by
        rw [hmm0]
        exact ⟨HK.out.1, HK.out.2.1, HK.out.2.2.1, HK.out.2.2.2.2⟩
      clear hA hmm0
      by_cases hB : (m : Int) < n
      all_goals
        try have hk1 := hk0 hB
        clear hk0
        go_wp2_with fail
        refine HCN.mono ?_
        rintro e w6 ⟨hg6, n2, p6, k6, rfl, hR6, hc6⟩
        have HC6 : Hid (Cont2 X z xs [] n2 0 (L.drop p6) k6) := by
          rcases hc6 with ⟨h1, rfl⟩ | ⟨h0, ⟨h1, h2⟩ | ⟨h1, h3, h4, h2⟩⟩
          · rcases HCE.out with ⟨_, h5⟩ | ⟨h5, _⟩
            · exact .inl ⟨h1, h5⟩
            · exact absurd h5 h1
          · rcases HCE.out with ⟨h5, _⟩ | ⟨_, h5⟩
            · exact absurd h0 h5
            · refine .inl ⟨h1, ?_⟩
              rw [h5, some_count, h2]
              rfl
          · rcases HCE.out with ⟨h5, _⟩ | ⟨_, h5⟩
            · exact absurd h0 h5
            · refine .inr ⟨h1, n2.toNat, by omega, by omega, Nat.zero_le _, ?_⟩
              rw [h5, some_count, h2, Nat.sub_zero]
              simp only [Rd.then]
              cases manyR textR n2.toNat (L.drop p6) <;> rfl
        have HD6 : Hid (DS w w1 R O L p6 k6 z (.slice an mm0 cn) (.slice none 0 0) w6 ∧ intsS.owns (O + 1) w6 [.slice an mm0 cn] xs ∧ O + 1 ≤ w6.heap.size) := ⟨HK2.out.1.grow hg6 hR6, intsS.osame HK2.out.2.2.1 (same_of_grown hg6 (by have := HK2.out.1.ro; omega)), by have := hg6.size; have := HK2.out.2.2.2; omega⟩
        have HXL : Hid (xs.length = mm0) := HK2.out.2.1
        clear hg6 hR6 hc6 HCN HCE HK HK2 g1 g2 q0 q1 q2 f1 f2
        go_wp2
        go_loopw [13] (fun s wr => ∃ (i p m : Nat) (k : Int) (ts : List (List Int)) (av : Option Addr) (cv : Nat), s = .int .i64 i ∧ m = i ∧ Hid (DS w w1 R O L p k z (.slice an mm0 cn) (.slice av m cv) wr ∧ ts.length = i ∧ textsS.owns (O + 1) wr [.slice av m cv] ts ∧ intsS.owns (O + 1) wr [.slice an mm0 cn] xs ∧ Cont2 X z xs ts n2 i (L.drop p) k ∧ O + 1 ≤ wr.heap.size)) (fun s _ => (n2 - intOf s).toNat)
        case atStart => exact ⟨0, p6, 0, k6, [], none, 0, rfl, rfl, HD6.out.1, rfl, Shape.list_nil bytesS 44 Tryz.underlying44 cells44 _ _, HD6.out.2.1, HC6.out, HD6.out.2.2⟩
        case round =>
          obtain ⟨i, p, m, k, ts, av, cv, rfl, rfl, HK⟩ := hrel
          obtain ⟨g1, g2, q0, q1, q2, f1, f2⟩ := HK.out.1.cells
          have HTL : Hid (ts.length = m) := HK.out.2.1
          by_cases hA : (m : Int) < n2 ∧ k = 0
          · obtain ⟨hin, rfl⟩ := hA
            obtain ⟨N, hnN, hN64, hiN, hXN⟩ : ∃ N : Nat, n2 = N ∧ N ≤ 64 ∧ m ≤ N ∧ X = ((manyR textR (N - m) (L.drop p)).map (ts ++ ·)).then fun ts r => if r = [] then .ok ((z, xs, ts), []) else .error 23 := by
              rcases HK.out.2.2.2.2.1 with ⟨h1, _⟩ | ⟨_, h1⟩
              · exact absurd rfl h1
              · exact h1
            have hm64 : m < 64 := by omega
            obtain ⟨s, hsN⟩ : ∃ s, N - m = s + 1 := ⟨N - m - 1, by omega⟩
            have HXN : Hid (X = ((manyR textR (s + 1) (L.drop p)).map (ts ++ ·)).then fun ts r => if r = [] then .ok ((z, xs, ts), []) else .error 23) := by
              show _ = _
              rw [← hsN]
              exact hXN
            have HNN : Hid (n2 = N ∧ N ≤ 64 ∧ m + 1 ≤ N ∧ N - (m + 1) = s) := ⟨hnN, hN64, by omega, by omega⟩
            have HG := rgrp_all w1 R L p wr HK.out.1.rr
            clear hXN hnN hN64 hiN hsN
            go_wp2_with fail
            refine HG.mono ?_
            rintro e w7 ⟨hg7, mm, p7, k7, rfl, hR7, hmm, hc7⟩
            have hD7 := HK.out.1.grow hg7 hR7
            have HD7 : Hid (DS w w1 R O L p7 k7 z (.slice an mm0 cn) (.slice av m cv) w7 ∧ O + 1 ≤ w7.heap.size) := ⟨hD7, by have := hg7.size; have := HK.out.2.2.2.2.2; omega⟩
            have HT7 : Hid (textsS.owns (O + 1) w7 [.slice av m cv] ts ∧ intsS.owns (O + 1) w7 [.slice an mm0 cn] xs) := ⟨textsS.osame HK.out.2.2.1 (same_of_grown hg7 (by have := HK.out.1.ro; omega)), intsS.osame HK.out.2.2.2.1 (same_of_grown hg7 (by have := HK.out.1.ro; omega))⟩
            obtain ⟨_, g7, _⟩ := hD7.cells
            have HC7 : Hid ((k7 ≠ 0 ∧ textR (L.drop p) = .error k7) ∨ (k7 = 0 ∧ textR (L.drop p) = if 4096 < mm then .error 5 else takeR mm (L.drop p7))) := by
              rcases hc7 with ⟨h1, h2⟩ | ⟨h1, h2⟩
              · exact .inl ⟨h1, by unfold textR; rw [h2]; rfl⟩
              · exact .inr ⟨h1, by unfold textR; rw [h2]; rfl⟩
            clear hg7 hR7 hc7 HG hD7 g1 g2 q0 q1 q2 f1 f2
            by_cases hk7 : k7 = 0
            · subst hk7
              by_cases h4 : (4096 : Int) < (mm : Int)
              · obtain ⟨ar7, cr7, hBR7, hAR7⟩ := HD7.out.1.rr.ex
                have fR := hBR7.frozen 2
                obtain ⟨w8, hw8⟩ : ∃ y, y = w7.setCell ⟨R, 2, none⟩ (.int .i64 5) := ⟨_, rfl⟩
                obtain ⟨k8, hk8⟩ : ∃ y : Int, y = 5 := ⟨_, rfl⟩
                have hg8 : w7.grownBy w8 (some R) := by rw [hw8]; exact grown_set _ R 2 _
                have hR8 : RR w1 R L p7 k8 w8 := by
                  rw [hw8, hk8]
                  exact ⟨⟨ar7, cr7, hBR7.set 2 _, hAR7⟩, HD7.out.1.rr.old.setCell (p := ⟨R, 2, none⟩) HD7.out.1.rr.le _, HD7.out.1.rr.le, HD7.out.1.rr.at_le⟩
                have HD8 : Hid (DS w w1 R O L p7 k8 z (.slice an mm0 cn) (.slice av m cv) w8 ∧ O + 1 ≤ w8.heap.size) := ⟨HD7.out.1.grow hg8 hR8, by have := hg8.size; have := HD7.out.2; omega⟩
                have HT8 : Hid (textsS.owns (O + 1) w8 [.slice av m cv] ts ∧ intsS.owns (O + 1) w8 [.slice an mm0 cn] xs) := ⟨textsS.osame HT7.out.1 (same_of_grown hg8 (by have := HD7.out.1.ro; omega)), intsS.osame HT7.out.2 (same_of_grown hg8 (by have := HD7.out.1.ro; omega))⟩
                have HS8 : Hid ((k8 ≠ 0 ∧ textR (L.drop p) = .error k8) ∨ (k8 = 0 ∧ mm ≤ 4096 ∧ textR (L.drop p) = takeR mm (L.drop p7))) := by
                  rcases HC7.out with ⟨h1, _⟩ | ⟨_, h1⟩
                  · exact absurd rfl h1
                  · rw [if_pos (by omega)] at h1
                    exact .inl ⟨by rw [hk8]; decide, by rw [h1, hk8]⟩
                clear hg8 hR8 hBR7 hAR7 hk8
                go_wp2
                rw [← hw8]
                clear hw8 g7 fR
                have HAD : Hid (bits .and .u64 (mm : Int) 8191 = ((mm % 8192 : Nat) : Int)) := by
                  have h1 := u64_and_nat mm 8191 hmm (by decide)
                  rw [show (8191 : Nat) = 2 ^ 13 - 1 from rfl, Nat.and_two_pow_sub_one_eq_mod] at h1
                  exact h1
                obtain ⟨nt, hnt⟩ : ∃ y, y = mm % 8192 := ⟨_, rfl⟩
                have had := HAD.out
                rw [← hnt] at had
                have HNT : Hid (nt = mm % 8192) := hnt
                have hnt1 : nt ≤ 8191 := by omega
                have hwrp : IntKind.i64.wrap (nt : Int) = nt := by rw [IntKind.wrap_i64]; omega
                obtain ⟨_, _, _, _, s2, _, s5⟩ := HD8.out.1.cells
                have HTK : Hid (∀ U, Below w8.heap.size w8 U → Calls Tryz.prog 77 #[.pointer (some ⟨R, 0, none⟩), .int .i64 nt] U fun e w' => U.grownBy w' (some R) ∧ ∃ (a : Option Addr) (c : Nat) (t : List Int) (p' : Nat) (k' : Int), e = .returned (.slice a t.length c) ∧ Arg 0 w' (.slice a t.length c) t ∧ t.length ≤ nt ∧ RR w1 R L p' k' w' ∧
                    ((k8 ≠ 0 ∧ k' = k8) ∨ (k8 = 0 ∧ ((k' ≠ 0 ∧ takeR nt (L.drop p7) = .error k') ∨ (k' = 0 ∧ takeR nt (L.drop p7) = .ok (t, (L.drop p'))))))) := fun U hU =>
                  rtk_all w1 R L p7 nt k8 (by omega) U (HD8.out.1.rr.below hU HD8.out.1.rr.lt)
                have hU0 : Below w8.heap.size w8 w8 := Below.refl _ _
                clear hnt HAD hmm
                go_wp2
                go_region_law
                  (first
                    | (go_simp
                       with_reducible refine Calls.mono (HTK.out _ (by first | assumption | exact Below.drew (by assumption))) ?_
                       rintro e w9 ⟨hg9, a9, c9, t9, p9, k9, rfl, hA9, ht9, hR9, hc9⟩
                       have hD9 := (HD8.out.1.below (by first | assumption | exact Below.drew (by assumption)) HD8.out.1.ob.lt).grow hg9 hR9
                       obtain ⟨_, _, _, _, y2, _, y5⟩ := hD9.cells
                       have hsz9 := hg9.size
                       have hsm9 := same_of_grown hg9 (show R < O + 1 by have := HD8.out.1.ro; omega)
                       have HCP := copied_any 0 (.slice a9 t9.length c9) t9 w9 hA9 (by omega)
                       obtain ⟨l9, hl9⟩ : ∃ y, y = t9.length := ⟨_, rfl⟩
                       rw [← hl9] at HCP ⊢
                       have H9 : Hid (DS w w1 R O L p9 k9 z (.slice an mm0 cn) (.slice av m cv) w9 ∧ Same (O + 1) w8 w9 ∧ O + 1 ≤ w9.heap.size ∧ t9.length ≤ nt ∧ ((k8 ≠ 0 ∧ k9 = k8) ∨ (k8 = 0 ∧ ((k9 ≠ 0 ∧ takeR nt (L.drop p7) = .error k9) ∨ (k9 = 0 ∧ takeR nt (L.drop p7) = .ok (t9, (L.drop p9))))))) :=
                         ⟨hD9, fun q h1 h2 => hsm9 q h1 h2, by have := HD8.out.2; have h0 : w8.heap.size ≤ w9.heap.size := hsz9; omega, ht9, hc9⟩
                       clear hg9 hA9 ht9 hR9 hc9 hD9 hl9 hsz9 hsm9)
                    | (go_simp
                       with_reducible refine Calls.mono HCP ?_
                       rintro e w10 ⟨⟨v10, rfl, ho10⟩, hb10⟩
                       obtain ⟨ux, uc, rfl⟩ := ho10.shape
                       obtain ⟨lu, hlu⟩ : ∃ y, y = t9.length := ⟨_, rfl⟩
                       rw [← hlu] at ho10 ⊢
                       have hD10 := H9.out.1.below hb10 H9.out.1.ob.lt
                       obtain ⟨_, _, _, _, x2, _, x5⟩ := hD10.cells
                       have x6 : ∀ o, (w10.alloc o).cell? ⟨O, 2, none⟩ = some (.slice av m cv) := fun o => (hD10.ob.alloc o).cell 2 rfl
                       have hT10 : textsS.owns (O + 1) w10 [.slice av m cv] ts := textsS.osame (textsS.osame HT8.out.1 H9.out.2.1) (.of_below hb10)
                       have hI10 : intsS.owns (O + 1) w10 [.slice an mm0 cn] xs := intsS.osame (intsS.osame HT8.out.2 H9.out.2.1) (.of_below hb10)
                       obtain ⟨v', vss, hv, hown0, hE0⟩ := hT10
                       have hvv : Value.slice av m cv = v' := by simpa using hv
                       subst hvv
                       have HE0 : Hid (Each (bytesS.owns (O + 1) w10) vss ts) := hE0
                       have HOW : Hid (w10.ownsRow (O + 1) 22 1 (.slice av m cv) m vss.flatten) := by
                         have h1 : w10.ownsRow (O + 1) 22 1 (.slice av m cv) ts.length vss.flatten := hown0
                         rwa [HTL.out] at h1
                       have H10 : Hid (DS w w1 R O L p9 k9 z (.slice an mm0 cn) (.slice av m cv) w10 ∧ Own1 w9.heap.size w10 (.slice ux lu uc) t9 ∧ intsS.owns (O + 1) w10 [.slice an mm0 cn] xs) := ⟨hD10, ho10, hI10⟩
                       have hws9 := H9.out.2.2.1
                       have hws10 := hb10.size
                       clear hv hown0 hE0 hD10 ho10 hI10 hb10 HCP hlu)
                    | (refine step_append_lies _ (by rfl) _ _ _ (by rfl) (O + 1) 22 i2 _ 1 24 Tryz.underlying44 hi2 hz20 hz21 hz22 rfl (by omega) _ m _ (by rfl) (HOW.out.alloc _) ⟨w10.heap.size, 0, none⟩ 1 1 [.slice ux lu uc] (by rfl) (by rfl) (World.news_of_block (cs := #[.slice ux lu uc]) (t := 22) (fr := (0, 0)) (heap_alloc_new w10 _)) (by simp [Value.oneCell']) (by omega) (by unfold maxLen; omega) (by omega) (by simp; omega) (w10.heap.size + 1) (by simp) ?_; intro gg cap11 w11 hown11 hgrow11 hat hltg
                       have hb11 : Below (O + 1) w10 w11 := ((Below.refl _ w10).alloc (by omega) _).grown hgrow11 (by simp; omega) (fun i hi => (HOW.out.lt i hi).1)
                       have hD11 := H10.out.1.below hb11 (by omega)
                       obtain ⟨_, _, _, _, r2, _, r5⟩ := hD11.cells
                       have H11 : Hid (DS w w1 R O L p9 k9 z (.slice an mm0 cn) (.slice av m cv) w11 ∧ textsS.owns (O + 1) w11 [.slice (some ⟨gg, 0, none⟩) (m + 1) cap11] (ts ++ [t9]) ∧ intsS.owns (O + 1) w11 [.slice an mm0 cn] xs ∧ O + 1 ≤ w11.heap.size) := by
                         refine ⟨hD11, ?_, ?_, by have := hb11.size; omega⟩
                         · refine Shape.list_push (S := bytesS) (ht := Tryz.underlying44) (hc := cells44) (by decide) (HE0.out.mono fun _ _ h => bytesS.osame h (.alloc _ _ _)) (by rw [HTL.out]; exact HOW.out.alloc _) (bytesS.oweaken (bytesS.osame H10.out.2.1 (.alloc _ _ _)) hws9) hgrow11 ?_
                           rw [HTL.out]
                           exact hown11
                         · refine intsS.ogrown (intsS.osame H10.out.2.2 (.alloc _ _ _)) hgrow11 ?_
                           exact Clear.own (HOW.out.alloc _) (by decide)
                       clear hown11 hgrow11 hat hltg hb11 hD11))
                all_goals
                  try clear x2 x5 x6
                  try clear y2 y5
                  try clear s2 s5
                  go_wp2
                  go_roundw
                  case rel =>
                    refine ⟨m + 1, p9, m + 1, k9, ts ++ [t9], some ⟨gg, 0, none⟩, cap11, by go_num, rfl, H11.out.1.set2 _, by rw [List.length_append, HTL.out]; rfl, textsS.osame H11.out.2.1 (.set (by omega)), intsS.osame H11.out.2.2.1 (.set (by omega)), ?_, by simpa [World.setCell] using H11.out.2.2.2⟩
                    rcases HS8.out with ⟨h1, h2⟩ | ⟨h1, h2, h3⟩
                    · rcases H9.out.2.2.2.2 with ⟨_, h5⟩ | ⟨h5, _⟩
                      · exact .inl ⟨by rw [h5]; exact h1, by rw [HXN.out, many_bad s ts _ h2, h5]; rfl⟩
                      · exact absurd h5 h1
                    · have hnm : nt = mm := by have := HNT.out; omega
                      rw [← hnm] at h3
                      rcases H9.out.2.2.2.2 with ⟨h5, _⟩ | ⟨_, ⟨h5, h6⟩ | ⟨h5, h6⟩⟩
                      · exact absurd h1 h5
                      · rw [h6] at h3
                        exact .inl ⟨h5, by rw [HXN.out, many_bad s ts _ h3]; rfl⟩
                      · rw [h6] at h3
                        exact .inr ⟨h5, N, HNN.out.1, HNN.out.2.1, HNN.out.2.2.1, by rw [HXN.out, many_got s ts _ h3, HNN.out.2.2.2]⟩
                  case measure => simp [intOf]; omega
              · obtain ⟨w8, hw8⟩ : ∃ y, y = w7 := ⟨_, rfl⟩
                obtain ⟨k8, hk8⟩ : ∃ y : Int, y = 0 := ⟨_, rfl⟩
                have HD8 : Hid (DS w w1 R O L p7 k8 z (.slice an mm0 cn) (.slice av m cv) w8 ∧ O + 1 ≤ w8.heap.size) := by rw [hw8, hk8]; exact HD7
                have HT8 : Hid (textsS.owns (O + 1) w8 [.slice av m cv] ts ∧ intsS.owns (O + 1) w8 [.slice an mm0 cn] xs) := by rw [hw8]; exact HT7
                have HS8 : Hid ((k8 ≠ 0 ∧ textR (L.drop p) = .error k8) ∨ (k8 = 0 ∧ mm ≤ 4096 ∧ textR (L.drop p) = takeR mm (L.drop p7))) := by
                  rcases HC7.out with ⟨h1, _⟩ | ⟨_, h1⟩
                  · exact absurd rfl h1
                  · rw [if_neg (by omega)] at h1
                    exact .inr ⟨hk8, by omega, h1⟩
                clear hk8
                go_wp2
                rw [← hw8]
                clear hw8 g7
                have HAD : Hid (bits .and .u64 (mm : Int) 8191 = ((mm % 8192 : Nat) : Int)) := by
                  have h1 := u64_and_nat mm 8191 hmm (by decide)
                  rw [show (8191 : Nat) = 2 ^ 13 - 1 from rfl, Nat.and_two_pow_sub_one_eq_mod] at h1
                  exact h1
                obtain ⟨nt, hnt⟩ : ∃ y, y = mm % 8192 := ⟨_, rfl⟩
                have had := HAD.out
                rw [← hnt] at had
                have HNT : Hid (nt = mm % 8192) := hnt
                have hnt1 : nt ≤ 8191 := by omega
                have hwrp : IntKind.i64.wrap (nt : Int) = nt := by rw [IntKind.wrap_i64]; omega
                obtain ⟨_, _, _, _, s2, _, s5⟩ := HD8.out.1.cells
                have HTK : Hid (∀ U, Below w8.heap.size w8 U → Calls Tryz.prog 77 #[.pointer (some ⟨R, 0, none⟩), .int .i64 nt] U fun e w' => U.grownBy w' (some R) ∧ ∃ (a : Option Addr) (c : Nat) (t : List Int) (p' : Nat) (k' : Int), e = .returned (.slice a t.length c) ∧ Arg 0 w' (.slice a t.length c) t ∧ t.length ≤ nt ∧ RR w1 R L p' k' w' ∧
                    ((k8 ≠ 0 ∧ k' = k8) ∨ (k8 = 0 ∧ ((k' ≠ 0 ∧ takeR nt (L.drop p7) = .error k') ∨ (k' = 0 ∧ takeR nt (L.drop p7) = .ok (t, (L.drop p'))))))) := fun U hU =>
                  rtk_all w1 R L p7 nt k8 (by omega) U (HD8.out.1.rr.below hU HD8.out.1.rr.lt)
                have hU0 : Below w8.heap.size w8 w8 := Below.refl _ _
                clear hnt HAD hmm
                go_wp2
                go_region_law
                  (first
                    | (go_simp
                       with_reducible refine Calls.mono (HTK.out _ (by first | assumption | exact Below.drew (by assumption))) ?_
                       rintro e w9 ⟨hg9, a9, c9, t9, p9, k9, rfl, hA9, ht9, hR9, hc9⟩
                       have hD9 := (HD8.out.1.below (by first | assumption | exact Below.drew (by assumption)) HD8.out.1.ob.lt).grow hg9 hR9
                       obtain ⟨_, _, _, _, y2, _, y5⟩ := hD9.cells
                       have hsz9 := hg9.size
                       have hsm9 := same_of_grown hg9 (show R < O + 1 by have := HD8.out.1.ro; omega)
                       have HCP := copied_any 0 (.slice a9 t9.length c9) t9 w9 hA9 (by omega)
                       obtain ⟨l9, hl9⟩ : ∃ y, y = t9.length := ⟨_, rfl⟩
                       rw [← hl9] at HCP ⊢
                       have H9 : Hid (DS w w1 R O L p9 k9 z (.slice an mm0 cn) (.slice av m cv) w9 ∧ Same (O + 1) w8 w9 ∧ O + 1 ≤ w9.heap.size ∧ t9.length ≤ nt ∧ ((k8 ≠ 0 ∧ k9 = k8) ∨ (k8 = 0 ∧ ((k9 ≠ 0 ∧ takeR nt (L.drop p7) = .error k9) ∨ (k9 = 0 ∧ takeR nt (L.drop p7) = .ok (t9, (L.drop p9))))))) :=
                         ⟨hD9, fun q h1 h2 => hsm9 q h1 h2, by have := HD8.out.2; have h0 : w8.heap.size ≤ w9.heap.size := hsz9; omega, ht9, hc9⟩
                       clear hg9 hA9 ht9 hR9 hc9 hD9 hl9 hsz9 hsm9)
                    | (go_simp
                       with_reducible refine Calls.mono HCP ?_
                       rintro e w10 ⟨⟨v10, rfl, ho10⟩, hb10⟩
                       obtain ⟨ux, uc, rfl⟩ := ho10.shape
                       obtain ⟨lu, hlu⟩ : ∃ y, y = t9.length := ⟨_, rfl⟩
                       rw [← hlu] at ho10 ⊢
                       have hD10 := H9.out.1.below hb10 H9.out.1.ob.lt
                       obtain ⟨_, _, _, _, x2, _, x5⟩ := hD10.cells
                       have x6 : ∀ o, (w10.alloc o).cell? ⟨O, 2, none⟩ = some (.slice av m cv) := fun o => (hD10.ob.alloc o).cell 2 rfl
                       have hT10 : textsS.owns (O + 1) w10 [.slice av m cv] ts := textsS.osame (textsS.osame HT8.out.1 H9.out.2.1) (.of_below hb10)
                       have hI10 : intsS.owns (O + 1) w10 [.slice an mm0 cn] xs := intsS.osame (intsS.osame HT8.out.2 H9.out.2.1) (.of_below hb10)
                       obtain ⟨v', vss, hv, hown0, hE0⟩ := hT10
                       have hvv : Value.slice av m cv = v' := by simpa using hv
                       subst hvv
                       have HE0 : Hid (Each (bytesS.owns (O + 1) w10) vss ts) := hE0
                       have HOW : Hid (w10.ownsRow (O + 1) 22 1 (.slice av m cv) m vss.flatten) := by
                         have h1 : w10.ownsRow (O + 1) 22 1 (.slice av m cv) ts.length vss.flatten := hown0
                         rwa [HTL.out] at h1
                       have H10 : Hid (DS w w1 R O L p9 k9 z (.slice an mm0 cn) (.slice av m cv) w10 ∧ Own1 w9.heap.size w10 (.slice ux lu uc) t9 ∧ intsS.owns (O + 1) w10 [.slice an mm0 cn] xs) := ⟨hD10, ho10, hI10⟩
                       have hws9 := H9.out.2.2.1
                       have hws10 := hb10.size
                       clear hv hown0 hE0 hD10 ho10 hI10 hb10 HCP hlu)
                    | (refine step_append_lies _ (by rfl) _ _ _ (by rfl) (O + 1) 22 i2 _ 1 24 Tryz.underlying44 hi2 hz20 hz21 hz22 rfl (by omega) _ m _ (by rfl) (HOW.out.alloc _) ⟨w10.heap.size, 0, none⟩ 1 1 [.slice ux lu uc] (by rfl) (by rfl) (World.news_of_block (cs := #[.slice ux lu uc]) (t := 22) (fr := (0, 0)) (heap_alloc_new w10 _)) (by simp [Value.oneCell']) (by omega) (by unfold maxLen; omega) (by omega) (by simp; omega) (w10.heap.size + 1) (by simp) ?_; intro gg cap11 w11 hown11 hgrow11 hat hltg
                       have hb11 : Below (O + 1) w10 w11 := ((Below.refl _ w10).alloc (by omega) _).grown hgrow11 (by simp; omega) (fun i hi => (HOW.out.lt i hi).1)
                       have hD11 := H10.out.1.below hb11 (by omega)
                       obtain ⟨_, _, _, _, r2, _, r5⟩ := hD11.cells
                       have H11 : Hid (DS w w1 R O L p9 k9 z (.slice an mm0 cn) (.slice av m cv) w11 ∧ textsS.owns (O + 1) w11 [.slice (some ⟨gg, 0, none⟩) (m + 1) cap11] (ts ++ [t9]) ∧ intsS.owns (O + 1) w11 [.slice an mm0 cn] xs ∧ O + 1 ≤ w11.heap.size) := by
                         refine ⟨hD11, ?_, ?_, by have := hb11.size; omega⟩
                         · refine Shape.list_push (S := bytesS) (ht := Tryz.underlying44) (hc := cells44) (by decide) (HE0.out.mono fun _ _ h => bytesS.osame h (.alloc _ _ _)) (by rw [HTL.out]; exact HOW.out.alloc _) (bytesS.oweaken (bytesS.osame H10.out.2.1 (.alloc _ _ _)) hws9) hgrow11 ?_
                           rw [HTL.out]
                           exact hown11
                         · refine intsS.ogrown (intsS.osame H10.out.2.2 (.alloc _ _ _)) hgrow11 ?_
                           exact Clear.own (HOW.out.alloc _) (by decide)
                       clear hown11 hgrow11 hat hltg hb11 hD11))
                all_goals
                  try clear x2 x5 x6
                  try clear y2 y5
                  try clear s2 s5
                  go_wp2
                  go_roundw
                  case rel =>
                    refine ⟨m + 1, p9, m + 1, k9, ts ++ [t9], some ⟨gg, 0, none⟩, cap11, by go_num, rfl, H11.out.1.set2 _, by rw [List.length_append, HTL.out]; rfl, textsS.osame H11.out.2.1 (.set (by omega)), intsS.osame H11.out.2.2.1 (.set (by omega)), ?_, by simpa [World.setCell] using H11.out.2.2.2⟩
                    rcases HS8.out with ⟨h1, h2⟩ | ⟨h1, h2, h3⟩
                    · rcases H9.out.2.2.2.2 with ⟨_, h5⟩ | ⟨h5, _⟩
                      · exact .inl ⟨by rw [h5]; exact h1, by rw [HXN.out, many_bad s ts _ h2, h5]; rfl⟩
                      · exact absurd h5 h1
                    · have hnm : nt = mm := by have := HNT.out; omega
                      rw [← hnm] at h3
                      rcases H9.out.2.2.2.2 with ⟨h5, _⟩ | ⟨_, ⟨h5, h6⟩ | ⟨h5, h6⟩⟩
                      · exact absurd h1 h5
                      · rw [h6] at h3
                        exact .inl ⟨h5, by rw [HXN.out, many_bad s ts _ h3]; rfl⟩
                      · rw [h6] at h3
                        exact .inr ⟨h5, N, HNN.out.1, HNN.out.2.1, HNN.out.2.2.1, by rw [HXN.out, many_got s ts _ h3, HNN.out.2.2.2]⟩
                  case measure => simp [intOf]; omega
            · obtain ⟨w8, hw8⟩ : ∃ y, y = w7 := ⟨_, rfl⟩
              obtain ⟨k8, hk8⟩ : ∃ y : Int, y = k7 := ⟨_, rfl⟩
              have HD8 : Hid (DS w w1 R O L p7 k8 z (.slice an mm0 cn) (.slice av m cv) w8 ∧ O + 1 ≤ w8.heap.size) := by rw [hw8, hk8]; exact HD7
              have HT8 : Hid (textsS.owns (O + 1) w8 [.slice av m cv] ts ∧ intsS.owns (O + 1) w8 [.slice an mm0 cn] xs) := by rw [hw8]; exact HT7
              have HS8 : Hid ((k8 ≠ 0 ∧ textR (L.drop p) = .error k8) ∨ (k8 = 0 ∧ mm ≤ 4096 ∧ textR (L.drop p) = takeR mm (L.drop p7))) := by
                rcases HC7.out with ⟨_, h1⟩ | ⟨h1, _⟩
                · exact .inl ⟨by rw [hk8]; exact hk7, by rw [h1, hk8]⟩
                · exact absurd h1 hk7
              clear hk8
              go_wp2
              rw [← hw8]
              clear hw8 g7
              have HAD : Hid (bits .and .u64 (mm : Int) 8191 = ((mm % 8192 : Nat) : Int)) := by
                have h1 := u64_and_nat mm 8191 hmm (by decide)
                rw [show (8191 : Nat) = 2 ^ 13 - 1 from rfl, Nat.and_two_pow_sub_one_eq_mod] at h1
                exact h1
              obtain ⟨nt, hnt⟩ : ∃ y, y = mm % 8192 := ⟨_, rfl⟩
              have had := HAD.out
              rw [← hnt] at had
              have HNT : Hid (nt = mm % 8192) := hnt
              have hnt1 : nt ≤ 8191 := by omega
              have hwrp : IntKind.i64.wrap (nt : Int) = nt := by rw [IntKind.wrap_i64]; omega
              obtain ⟨_, _, _, _, s2, _, s5⟩ := HD8.out.1.cells
              have HTK : Hid (∀ U, Below w8.heap.size w8 U → Calls Tryz.prog 77 #[.pointer (some ⟨R, 0, none⟩), .int .i64 nt] U fun e w' => U.grownBy w' (some R) ∧ ∃ (a : Option Addr) (c : Nat) (t : List Int) (p' : Nat) (k' : Int), e = .returned (.slice a t.length c) ∧ Arg 0 w' (.slice a t.length c) t ∧ t.length ≤ nt ∧ RR w1 R L p' k' w' ∧
                  ((k8 ≠ 0 ∧ k' = k8) ∨ (k8 = 0 ∧ ((k' ≠ 0 ∧ takeR nt (L.drop p7) = .error k') ∨ (k' = 0 ∧ takeR nt (L.drop p7) = .ok (t, (L.drop p'))))))) := fun U hU =>
                rtk_all w1 R L p7 nt k8 (by omega) U (HD8.out.1.rr.below hU HD8.out.1.rr.lt)
              have hU0 : Below w8.heap.size w8 w8 := Below.refl _ _
              clear hnt HAD hmm
              go_wp2
              go_region_law
                (first
                  | (go_simp
                     with_reducible refine Calls.mono (HTK.out _ (by first | assumption | exact Below.drew (by assumption))) ?_
                     rintro e w9 ⟨hg9, a9, c9, t9, p9, k9, rfl, hA9, ht9, hR9, hc9⟩
                     have hD9 := (HD8.out.1.below (by first | assumption | exact Below.drew (by assumption)) HD8.out.1.ob.lt).grow hg9 hR9
                     obtain ⟨_, _, _, _, y2, _, y5⟩ := hD9.cells
                     have hsz9 := hg9.size
                     have hsm9 := same_of_grown hg9 (show R < O + 1 by have := HD8.out.1.ro; omega)
                     have HCP := copied_any 0 (.slice a9 t9.length c9) t9 w9 hA9 (by omega)
                     obtain ⟨l9, hl9⟩ : ∃ y, y = t9.length := ⟨_, rfl⟩
                     rw [← hl9] at HCP ⊢
                     have H9 : Hid (DS w w1 R O L p9 k9 z (.slice an mm0 cn) (.slice av m cv) w9 ∧ Same (O + 1) w8 w9 ∧ O + 1 ≤ w9.heap.size ∧ t9.length ≤ nt ∧ ((k8 ≠ 0 ∧ k9 = k8) ∨ (k8 = 0 ∧ ((k9 ≠ 0 ∧ takeR nt (L.drop p7) = .error k9) ∨ (k9 = 0 ∧ takeR nt (L.drop p7) = .ok (t9, (L.drop p9))))))) :=
                       ⟨hD9, fun q h1 h2 => hsm9 q h1 h2, by have := HD8.out.2; have h0 : w8.heap.size ≤ w9.heap.size := hsz9; omega, ht9, hc9⟩
                     clear hg9 hA9 ht9 hR9 hc9 hD9 hl9 hsz9 hsm9)
                  | (go_simp
                     with_reducible refine Calls.mono HCP ?_
                     rintro e w10 ⟨⟨v10, rfl, ho10⟩, hb10⟩
                     obtain ⟨ux, uc, rfl⟩ := ho10.shape
                     obtain ⟨lu, hlu⟩ : ∃ y, y = t9.length := ⟨_, rfl⟩
                     rw [← hlu] at ho10 ⊢
                     have hD10 := H9.out.1.below hb10 H9.out.1.ob.lt
                     obtain ⟨_, _, _, _, x2, _, x5⟩ := hD10.cells
                     have x6 : ∀ o, (w10.alloc o).cell? ⟨O, 2, none⟩ = some (.slice av m cv) := fun o => (hD10.ob.alloc o).cell 2 rfl
                     have hT10 : textsS.owns (O + 1) w10 [.slice av m cv] ts := textsS.osame (textsS.osame HT8.out.1 H9.out.2.1) (.of_below hb10)
                     have hI10 : intsS.owns (O + 1) w10 [.slice an mm0 cn] xs := intsS.osame (intsS.osame HT8.out.2 H9.out.2.1) (.of_below hb10)
                     obtain ⟨v', vss, hv, hown0, hE0⟩ := hT10
                     have hvv : Value.slice av m cv = v' := by simpa using hv
                     subst hvv
                     have HE0 : Hid (Each (bytesS.owns (O + 1) w10) vss ts) := hE0
                     have HOW : Hid (w10.ownsRow (O + 1) 22 1 (.slice av m cv) m vss.flatten) := by
                       have h1 : w10.ownsRow (O + 1) 22 1 (.slice av m cv) ts.length vss.flatten := hown0
                       rwa [HTL.out] at h1
                     have H10 : Hid (DS w w1 R O L p9 k9 z (.slice an mm0 cn) (.slice av m cv) w10 ∧ Own1 w9.heap.size w10 (.slice ux lu uc) t9 ∧ intsS.owns (O + 1) w10 [.slice an mm0 cn] xs) := ⟨hD10, ho10, hI10⟩
                     have hws9 := H9.out.2.2.1
                     have hws10 := hb10.size
                     clear hv hown0 hE0 hD10 ho10 hI10 hb10 HCP hlu)
                  | (refine step_append_lies _ (by rfl) _ _ _ (by rfl) (O + 1) 22 i2 _ 1 24 Tryz.underlying44 hi2 hz20 hz21 hz22 rfl (by omega) _ m _ (by rfl) (HOW.out.alloc _) ⟨w10.heap.size, 0, none⟩ 1 1 [.slice ux lu uc] (by rfl) (by rfl) (World.news_of_block (cs := #[.slice ux lu uc]) (t := 22) (fr := (0, 0)) (heap_alloc_new w10 _)) (by simp [Value.oneCell']) (by omega) (by unfold maxLen; omega) (by omega) (by simp; omega) (w10.heap.size + 1) (by simp) ?_; intro gg cap11 w11 hown11 hgrow11 hat hltg
                     have hb11 : Below (O + 1) w10 w11 := ((Below.refl _ w10).alloc (by omega) _).grown hgrow11 (by simp; omega) (fun i hi => (HOW.out.lt i hi).1)
                     have hD11 := H10.out.1.below hb11 (by omega)
                     obtain ⟨_, _, _, _, r2, _, r5⟩ := hD11.cells
                     have H11 : Hid (DS w w1 R O L p9 k9 z (.slice an mm0 cn) (.slice av m cv) w11 ∧ textsS.owns (O + 1) w11 [.slice (some ⟨gg, 0, none⟩) (m + 1) cap11] (ts ++ [t9]) ∧ intsS.owns (O + 1) w11 [.slice an mm0 cn] xs ∧ O + 1 ≤ w11.heap.size) := by
                       refine ⟨hD11, ?_, ?_, by have := hb11.size; omega⟩
                       · refine Shape.list_push (S := bytesS) (ht := Tryz.underlying44) (hc := cells44) (by decide) (HE0.out.mono fun _ _ h => bytesS.osame h (.alloc _ _ _)) (by rw [HTL.out]; exact HOW.out.alloc _) (bytesS.oweaken (bytesS.osame H10.out.2.1 (.alloc _ _ _)) hws9) hgrow11 ?_
                         rw [HTL.out]
                         exact hown11
                       · refine intsS.ogrown (intsS.osame H10.out.2.2 (.alloc _ _ _)) hgrow11 ?_
                         exact Clear.own (HOW.out.alloc _) (by decide)
                     clear hown11 hgrow11 hat hltg hb11 hD11))
              all_goals
                try clear x2 x5 x6
                try clear y2 y5
                try clear s2 s5
                go_wp2
                go_roundw
                case rel =>
                  refine ⟨m + 1, p9, m + 1, k9, ts ++ [t9], some ⟨gg, 0, none⟩, cap11, by go_num, rfl, H11.out.1.set2 _, by rw [List.length_append, HTL.out]; rfl, textsS.osame H11.out.2.1 (.set (by omega)), intsS.osame H11.out.2.2.1 (.set (by omega)), ?_, by simpa [World.setCell] using H11.out.2.2.2⟩
                  rcases HS8.out with ⟨h1, h2⟩ | ⟨h1, h2, h3⟩
                  · rcases H9.out.2.2.2.2 with ⟨_, h5⟩ | ⟨h5, _⟩
                    · exact .inl ⟨by rw [h5]; exact h1, by rw [HXN.out, many_bad s ts _ h2, h5]; rfl⟩
                    · exact absurd h5 h1
                  · have hnm : nt = mm := by have := HNT.out; omega
                    rw [← hnm] at h3
                    rcases H9.out.2.2.2.2 with ⟨h5, _⟩ | ⟨_, ⟨h5, h6⟩ | ⟨h5, h6⟩⟩
                    · exact absurd h1 h5
                    · rw [h6] at h3
                      exact .inl ⟨h5, by rw [HXN.out, many_bad s ts _ h3]; rfl⟩
                    · rw [h6] at h3
                      exact .inr ⟨h5, N, HNN.out.1, HNN.out.2.1, HNN.out.2.2.1, by rw [HXN.out, many_got s ts _ h3, HNN.out.2.2.2]⟩
                case measure => simp [intOf]; omega
          · have hk0 : (m : Int) < n2 → k ≠ 0 := fun h e => hA ⟨h, e⟩
            have HCF : Hid ((k ≠ 0 ∧ X = .error k) ∨ (k = 0 ∧ X = if L.drop p = [] then .ok ((z, xs, ts), []) else .error 23)) := by
              rcases HK.out.2.2.2.2.1 with ⟨h1, h2⟩ | ⟨h1, N, h2, h3, h4, h5⟩
              · exact .inl ⟨h1, h2⟩
              · have hmN : N - m = 0 := by
                  have : ¬ (m : Int) < n2 := fun h => hk0 h h1
                  omega
                exact .inr ⟨h1, by rw [h5, hmN, many_zero]; rfl⟩
            obtain ⟨z0, z1, z2, z3, z4, z5⟩ := HK.out.1.zb.three
            have HB : Hid (Below w.heap.size w wr) := HK.out.1.bel
            have hneR : ¬ R = w.heap.size := by have := HK.out.1.zr; omega
            have hneR' : ¬ w.heap.size = R := by have := HK.out.1.zr; omega
            clear hA f1 f2
            by_cases hk : k = 0
            case neg =>
              have HX : Hid (X = .error k) := by
                rcases HCF.out with ⟨_, h1⟩ | ⟨h1, _⟩
                · exact h1
                · exact absurd h1 hk
              clear hk0
              by_cases hB2 : (m : Int) < n2
              all_goals
                go_wp2
                go_region
              all_goals
                go_wp2
                refine bodyPost_ret (v := .tuple #[.agg #[.int .i64 0, .slice none 0 0, .slice none 0 0], .int .i64 k]) (by simp [results, Tryz.results38, go_sem, *]) rfl ?_
                rw [HX.out]
                refine ⟨⟨[_, _, _], rfl, rec_zero _ _⟩, ?_⟩
                first | exact below_set3 HB.out (Nat.le_refl _) _ _ _ | exact below_set3 HB.out.drew (Nat.le_refl _) _ _ _ | exact below_set3 (below_drewN HB.out _) (Nat.le_refl _) _ _ _
            case pos =>
              subst hk
              have hB2 : ¬ (m : Int) < n2 := fun h => hk0 h rfl
              have HXE : Hid (X = if L.drop p = [] then .ok ((z, xs, ts), []) else .error 23) := by
                rcases HCF.out with ⟨h1, _⟩ | ⟨_, h1⟩
                · exact absurd rfl h1
                · exact h1
              clear hk0
              by_cases hp : (p : Int) < (ln : Int)
              · have HX : Hid (X = .error 23) := by
                  show _ = _
                  rw [HXE.out, if_neg]
                  intro h0
                  have h1 := congrArg List.length h0
                  rw [List.length_drop, ← HLN.out] at h1
                  simp at h1
                  omega
                go_wp2
                refine bodyPost_ret (v := .tuple #[.agg #[.int .i64 0, .slice none 0 0, .slice none 0 0], .int .i64 23]) (by simp [results, Tryz.results38, go_sem, *]) rfl ?_
                rw [HX.out]
                refine ⟨⟨[_, _, _], rfl, rec_zero _ _⟩, ?_⟩
                exact below_set3 HB.out (Nat.le_refl _) _ _ _
              · have HX : Hid (X = .ok ((z, xs, ts), [])) := by
                  show _ = _
                  rw [HXE.out, if_pos]
                  apply List.eq_nil_of_length_eq_zero
                  rw [List.length_drop, ← HLN.out]
                  omega
                have HZ : Hid (w.heap.size < O + 1 ∧ I64 z) := ⟨by have := HK.out.1.zr; have := HK.out.1.ro; omega, ⟨by omega, by omega⟩⟩
                go_wp2
                refine bodyPost_ret (v := .tuple #[.agg #[.int .i64 z, .slice an mm0 cn, .slice av m cv], .int .i64 0]) (by simp [results, Tryz.results38, go_sem, *]) rfl ?_
                rw [HX.out]
                refine ⟨⟨[_, _, _], rfl, rec_omk (r := (z, xs, ts)) ?_ ?_ HZ.out.2⟩, ?_⟩
                · exact intsS.oweaken (intsS.osame HK.out.2.2.2.1 (.set3 HZ.out.1)) (by have := HZ.out.1; omega)
                · exact textsS.oweaken (textsS.osame HK.out.2.2.1 (.set3 HZ.out.1)) (by have := HZ.out.1; omega)
                · exact below_set3 HB.out (Nat.le_refl _) _ _ _

end Go.Proofs.YthlfgpnabcplnaaGreatDoor.W

/-
  What the document's Decode answers, of every octets.
-/
namespace Go.Proofs.YthlfgpnabcplnaaGreatDoor.W
open Go.RowKit

set_option maxRecDepth 100000 in
set_option maxHeartbeats 1000000 in
theorem rdec_bad (n0 : Nat) (v : Value) (l : List Int) (w : World) (h : Arg n0 w v l) (hs : l.length ≤ 140737488351232) (he : C.oerr l ≠ 0) :
    Calls Tryz.prog 38 #[v] w fun e w' => e = .returned (.tuple #[.agg #[.int .i64 0, .slice none 0 0, .slice none 0 0], .int .i64 (C.oerr l)]) ∧ Below w.heap.size w w' := by
  obtain ⟨W, hW⟩ : ∃ W, W = w.alloc (.cells #[.int .i64 0, .slice none 0 0, .slice none 0 0] 74) := ⟨_, rfl⟩
  have hbW : Below w.heap.size w W := by rw [hW]; exact (Below.refl _ w).alloc (Nat.le_refl _) _
  have hP : Box W w.heap.size 74 #[.int .i64 0, .slice none 0 0, .slice none 0 0] := by rw [hW]; exact Box.new w 74 _
  have HO := C.ropen_any v l W (h.below hbW).toC hs
  obtain ⟨ce, hce⟩ : ∃ x, x = C.oerr l := ⟨_, rfl⟩
  rw [← hce] at HO he ⊢
  have HW : Hid (Below w.heap.size w W ∧ Box W w.heap.size 74 #[.int .i64 0, .slice none 0 0, .slice none 0 0]) := ⟨hbW, hP⟩
  obtain ⟨a0, c0, rfl, _⟩ := h.shape
  clear h hce hP hbW hs
  go_enter Tryz.func38, Tryz.ntmps38
  go_wp2_with fail
  rw [← hW]
  clear hW
  refine HO.mono ?_
  rintro e w1 ⟨a, cap, rfl, _, hb1⟩
  have hP1 := HW.out.2.below hb1 HW.out.2.lt
  obtain ⟨g0, g1, g2, f0, f1, f2⟩ := hP1.three
  have HB : Hid (Below w.heap.size w w1) := below_any HW.out.1 hb1
  clear hP1 hb1 HO
  go_wp2
  refine bodyPost_ret (v := .tuple #[.agg #[.int .i64 0, .slice none 0 0, .slice none 0 0], .int .i64 ce]) (by simp [results, Tryz.results38, go_sem, *]) rfl ⟨rfl, ?_⟩
  exact below_set3 HB.out (Nat.le_refl _) _ _ _

theorem rdec_any (n0 : Nat) (v : Value) (l : List Int) (w : World) (h : Arg n0 w v l) (hs : l.length ≤ 140737488351232) :
    Calls Tryz.prog 38 #[v] w fun e w' => (∃ us : List Value, e = .returned (.tuple #[.agg us.toArray, .int .i64 (decE l)]) ∧ recF.owns w.heap.size w' us (decV l)) ∧ Below w.heap.size w w' := by
  by_cases he : C.oerr l = 0
  · unfold decE decV
    rw [if_pos he, if_pos he]
    exact rdec_ok n0 v l w h hs he
  · unfold decE decV
    rw [if_neg he, if_neg he]
    exact (rdec_bad n0 v l w h hs he).mono fun e w' ⟨h1, h2⟩ => ⟨⟨[_, _, _], h1, rec_zero _ _⟩, h2⟩

end Go.Proofs.YthlfgpnabcplnaaGreatDoor.W
