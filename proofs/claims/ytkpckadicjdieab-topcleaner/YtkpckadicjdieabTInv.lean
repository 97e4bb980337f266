/-
  What the cleaner's law holds while it plays: two logs of the same data, and two more variables.
-/
import Derived.Test.YtkpckadicjdieabTAlive
import Derived.Test.YtkpckadicjdieabGSeal
import Derived.Test.YtkpckadicjdieabMPart
import Derived.Test.YtkpckadicjdieabZ30
import Derived.Deep.CutBlock
namespace Go.Proofs.Ytkpckadicjdieab
open Go.RowKit
set_option linter.unusedVariables false

theorem wrap_is (x z : Int) (h : z = wrap64 x) : IntKind.i64.wrap x = z := by
  rw [h, wrap64]
  exact IntKind.wrap_i64 x
theorem oth4 {w : World} {B C : Nat} {t : TypeId} {cs : Array Value} (h : Box w C t cs) (hne : C ≠ B) (u v y z : Value) : Box ((((w.setCell ⟨B, 0, none⟩ u).setCell ⟨B, 1, none⟩ v).setCell ⟨B, 2, none⟩ y).setCell ⟨B, 3, none⟩ z) C t cs := (((h.other hne).other hne).other hne).other hne
theorem box_four {w : World} {B : Nat} {t : TypeId} {a b c d : Value} (h : Box w B t #[a, b, c, d]) (u v y z : Value) : Box ((((w.setCell ⟨B, 0, none⟩ u).setCell ⟨B, 1, none⟩ v).setCell ⟨B, 2, none⟩ y).setCell ⟨B, 3, none⟩ z) B t #[u, v, y, z] := (((h.set 0 u).set 1 v).set 2 y).set 3 z
def TI (w : World) (Ba Bb : Nat) (t : St) (ua ub : List Value) (V : World) : Prop :=
  Below w.heap.size w V ∧ Box V Ba 31 ua.toArray ∧ Box V Bb 31 ub.toArray ∧ (∃ b, stN.owns b V ua t) ∧ (∃ b, stN.owns b V ub t) ∧ Ok t
theorem TI.below {w : World} {Ba Bb : Nat} {t : St} {ua ub : List Value} {V V' : World} (h : TI w Ba Bb t ua ub V) (hb : Below V.heap.size V V') : TI w Ba Bb t ua ub V' :=
  ⟨below_any h.1 hb, h.2.1.below hb h.2.1.lt, h.2.2.1.below hb h.2.2.1.lt, let ⟨b, h9⟩ := h.2.2.2.1; ⟨b, stN.obelow h9 hb⟩, let ⟨b, h9⟩ := h.2.2.2.2.1; ⟨b, stN.obelow h9 hb⟩, h.2.2.2.2.2⟩
theorem TI.liesA {w : World} {Ba Bb : Nat} {t : St} {ua ub : List Value} {V : World} (h : TI w Ba Bb t ua ub V) : stN.lies 0 V ua t := let ⟨b, h9⟩ := h.2.2.2.1; stN.weaken (stN.olies h9) (Nat.zero_le _)
theorem TI.liesB {w : World} {Ba Bb : Nat} {t : St} {ua ub : List Value} {V : World} (h : TI w Ba Bb t ua ub V) : stN.lies 0 V ub t := let ⟨b, h9⟩ := h.2.2.2.2.1; stN.weaken (stN.olies h9) (Nat.zero_le _)
/-- Where the four variables lie. -/
structure Dst (w : World) (Ba Bb Bs Bt : Nat) : Prop where
  a : w.heap.size ≤ Ba
  b : w.heap.size ≤ Bb
  s : w.heap.size ≤ Bs
  t : w.heap.size ≤ Bt
  ab : Ba ≠ Bb
  sa : Bs ≠ Ba
  sb : Bs ≠ Bb
  ta : Bt ≠ Ba
  tb : Bt ≠ Bb
  st : Bs ≠ Bt
def TM (w : World) (Ba Bb Bs Bt : Nat) (t : St) (ua ub us ut : List Value) (V : World) : Prop := TI w Ba Bb t ua ub V ∧ Box V Bs 31 us.toArray ∧ Box V Bt 31 ut.toArray
theorem TM.below {w : World} {Ba Bb Bs Bt : Nat} {t : St} {ua ub us ut : List Value} {V V' : World} (h : TM w Ba Bb Bs Bt t ua ub us ut V) (hb : Below V.heap.size V V') : TM w Ba Bb Bs Bt t ua ub us ut V' := ⟨h.1.below hb, h.2.1.below hb h.2.1.lt, h.2.2.below hb h.2.2.lt⟩
theorem TM.setS {w : World} {Ba Bb Bs Bt : Nat} {t : St} {ua ub ut : List Value} {x1 x2 x3 x4 : Value} {V : World} (h : TM w Ba Bb Bs Bt t ua ub [x1, x2, x3, x4] ut V) (hd : Dst w Ba Bb Bs Bt) (y1 y2 y3 y4 : Value) :
    TM w Ba Bb Bs Bt t ua ub [y1, y2, y3, y4] ut ((((V.setCell ⟨Bs, 0, none⟩ y1).setCell ⟨Bs, 1, none⟩ y2).setCell ⟨Bs, 2, none⟩ y3).setCell ⟨Bs, 3, none⟩ y4) :=
  ⟨⟨below_set4 h.1.1 hd.s _ _ _ _, oth4 h.1.2.1 hd.sa.symm _ _ _ _, oth4 h.1.2.2.1 hd.sb.symm _ _ _ _, let ⟨b, h9⟩ := h.1.2.2.2.1; ⟨b, own_set4 stN (by decide) h9 h.2.1 _ _ _ _⟩, let ⟨b, h9⟩ := h.1.2.2.2.2.1; ⟨b, own_set4 stN (by decide) h9 h.2.1 _ _ _ _⟩, h.1.2.2.2.2.2⟩, box_four h.2.1 _ _ _ _, oth4 h.2.2 hd.st.symm _ _ _ _⟩
theorem TM.setT {w : World} {Ba Bb Bs Bt : Nat} {t : St} {ua ub us : List Value} {x1 x2 x3 x4 : Value} {V : World} (h : TM w Ba Bb Bs Bt t ua ub us [x1, x2, x3, x4] V) (hd : Dst w Ba Bb Bs Bt) (y1 y2 y3 y4 : Value) :
    TM w Ba Bb Bs Bt t ua ub us [y1, y2, y3, y4] ((((V.setCell ⟨Bt, 0, none⟩ y1).setCell ⟨Bt, 1, none⟩ y2).setCell ⟨Bt, 2, none⟩ y3).setCell ⟨Bt, 3, none⟩ y4) :=
  ⟨⟨below_set4 h.1.1 hd.t _ _ _ _, oth4 h.1.2.1 hd.ta.symm _ _ _ _, oth4 h.1.2.2.1 hd.tb.symm _ _ _ _, let ⟨b, h9⟩ := h.1.2.2.2.1; ⟨b, own_set4 stN (by decide) h9 h.2.2 _ _ _ _⟩, let ⟨b, h9⟩ := h.1.2.2.2.2.1; ⟨b, own_set4 stN (by decide) h9 h.2.2 _ _ _ _⟩, h.1.2.2.2.2.2⟩, oth4 h.2.1 hd.st _ _ _ _, box_four h.2.2 _ _ _ _⟩
/-- Both logs take the two others' places. -/
theorem TM.pair {w : World} {Ba Bb Bs Bt : Nat} {t t' : St} {a1 a2 a3 a4 b1 b2 b3 b4 s1 s2 s3 s4 t1 t2 t3 t4 : Value} {V : World} (h : TM w Ba Bb Bs Bt t [a1, a2, a3, a4] [b1, b2, b3, b4] [s1, s2, s3, s4] [t1, t2, t3, t4] V) (hd : Dst w Ba Bb Bs Bt) (ho : ∃ b, stN.owns b V [s1, s2, s3, s4] t') (ho2 : ∃ b, stN.owns b V [t1, t2, t3, t4] t') (hk : Ok t') (Q1 Q2 : World) (hQ1 : Q1 = (((V.setCell ⟨Ba, 0, none⟩ s1).setCell ⟨Ba, 1, none⟩ s2).setCell ⟨Ba, 2, none⟩ s3).setCell ⟨Ba, 3, none⟩ s4) (hQ2 : Q2 = (((Q1.setCell ⟨Bb, 0, none⟩ t1).setCell ⟨Bb, 1, none⟩ t2).setCell ⟨Bb, 2, none⟩ t3).setCell ⟨Bb, 3, none⟩ t4) :
    TM w Ba Bb Bs Bt t' [s1, s2, s3, s4] [t1, t2, t3, t4] [s1, s2, s3, s4] [t1, t2, t3, t4] Q2 ∧ Box Q1 Bs 31 #[s1, s2, s3, s4] ∧ Box Q1 Bt 31 #[t1, t2, t3, t4] ∧ Box Q1 Bb 31 #[b1, b2, b3, b4] := by
  obtain ⟨⟨h1, h2, h3, h4, h5, h6⟩, h7, h8⟩ := h
  obtain ⟨o1, ho⟩ := ho
  obtain ⟨o2, ho2⟩ := ho2
  have q1s : Box Q1 Bs 31 #[s1, s2, s3, s4] := by rw [hQ1]; exact oth4 h7 hd.sa _ _ _ _
  have q1t : Box Q1 Bt 31 #[t1, t2, t3, t4] := by rw [hQ1]; exact oth4 h8 hd.ta _ _ _ _
  have q1b : Box Q1 Bb 31 #[b1, b2, b3, b4] := by rw [hQ1]; exact oth4 h3 hd.ab.symm _ _ _ _
  have q1a : Box Q1 Ba 31 #[s1, s2, s3, s4] := by rw [hQ1]; exact box_four h2 _ _ _ _
  have q1o : stN.owns o1 Q1 [s1, s2, s3, s4] t' := by rw [hQ1]; exact own_set4 stN (by decide) ho h2 _ _ _ _
  have q1p : stN.owns o2 Q1 [t1, t2, t3, t4] t' := by rw [hQ1]; exact own_set4 stN (by decide) ho2 h2 _ _ _ _
  have q1w : Below w.heap.size w Q1 := by rw [hQ1]; exact below_set4 h1 hd.a _ _ _ _
  refine ⟨⟨⟨?_, ?_, ?_, ⟨o1, ?_⟩, ⟨o2, ?_⟩, hk⟩, ?_, ?_⟩, q1s, q1t, q1b⟩
  · rw [hQ2]; exact below_set4 q1w hd.b _ _ _ _
  · rw [hQ2]; exact oth4 q1a hd.ab _ _ _ _
  · rw [hQ2]; exact box_four q1b _ _ _ _
  · rw [hQ2]; exact own_set4 stN (by decide) q1o q1b _ _ _ _
  · rw [hQ2]; exact own_set4 stN (by decide) q1p q1b _ _ _ _
  · rw [hQ2]; exact oth4 q1s hd.sb _ _ _ _
  · rw [hQ2]; exact oth4 q1t hd.tb _ _ _ _
theorem four_of {us : List Value} (h : us.length = 4) : ∃ x1 x2 x3 x4, us = [x1, x2, x3, x4] := by
  match us, h with
  | [a, b, c, d], _ => exact ⟨a, b, c, d, rfl⟩
theorem new24_ok : Ok (List.replicate 24 (0, []), List.replicate 24 false, [], 1) := ok_iff.1 (by kernel_rfl)
theorem may_of {o i : Int} {d : List Int} (h1 : 1 ≤ o ∧ o ≤ 4) (h2 : 0 ≤ i ∧ i ≤ 3) (h3 : d.length ≤ 32) : mayB (o, i, d) = true := may_iff.2 ⟨⟨by omega, by simp only; omega⟩, ⟨by simp only; omega, by simp only; omega⟩, h3⟩

end Go.Proofs.Ytkpckadicjdieab
