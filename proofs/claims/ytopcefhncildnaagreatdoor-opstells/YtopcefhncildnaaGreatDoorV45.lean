/-
  Ops as data; regions in which several things may come up.
-/
import Derived.Test.YtopcefhncildnaaGreatDoorV44
import Derived.Deep.DeepCutAuto
namespace Go.Proofs.YtopcefhncildnaaGreatDoor.K
open Go.RowKit
abbrev Opd := Int × ByteArray × ByteArray × Int × Int × List Int
def opS : Shape Opd := (i64S.and (strS.and (strS.and (i64S.and (i64S.and bytesS.only))))).struct 56 ⟨_, Tryz.underlying56, rfl, rfl⟩ (by kernel_rfl)
theorem op_view {n : Nat} {w : World} {us : List Value} {q : Opd} (h : opS.lies n w us q) : ∃ a c, us = [.int .i64 q.1, .string q.2.1, .string q.2.2.1, .int .i64 q.2.2.2.1, .int .i64 q.2.2.2.2.1, .slice a q.2.2.2.2.2.length c] ∧ Arg n w (.slice a q.2.2.2.2.2.length c) q.2.2.2.2.2 ∧ I64 q.1 ∧ q.2.1.size ≤ maxLen ∧ q.2.2.1.size ≤ maxLen ∧ I64 q.2.2.2.1 ∧ I64 q.2.2.2.2.1 := by
 obtain ⟨u1, r1, rfl, ⟨rfl, h1⟩, u2, r2, rfl, ⟨rfl, h2⟩, u3, r3, rfl, ⟨rfl, h3⟩, u4, r4, rfl, ⟨rfl, h4⟩, u5, r5, rfl, ⟨rfl, h5⟩, h6⟩ := h
 have h6' := h6
 obtain ⟨v, rfl, hC, ho⟩ := h6
 obtain ⟨a, c, rfl, _⟩ := hC.shape
 exact ⟨a, c, rfl, h6', bounds_i64 h1, h2, h3, bounds_i64 h4, bounds_i64 h5⟩
theorem AnyBut.three {P : Program} {ops : Array Oper} {Q : Exit → Act → World → Prop} {md : Region.Mode} {S : World → Prop} {t : Nat} {i j k : Nat} {oi oj ok : Oper} {f : Nat} {listed : Array Bool} {a : Act} {w : World} (hr : Region.ready md ops listed = [i, j, k]) (ho : ops[i]? = some oi) (ho2 : ops[j]? = some oj) (ho3 : ops[k]? = some ok)
   (h : ∀ K : Act → World → Prop, Shut (∀ a w, S w → AnyBut P md ops Q S t f (listed.setIfInBounds i true) a w → K a w) → if Region.wanted oi (yielded ops a.tmps) = true then Oper.wp P oi a w K Q else K (a.put oi.dst undef) w)
   (h2 : ∀ K : Act → World → Prop, Shut (∀ a w, S w → AnyBut P md ops Q S t f (listed.setIfInBounds j true) a w → K a w) → if Region.wanted oj (yielded ops a.tmps) = true then Oper.wp P oj a w K Q else K (a.put oj.dst undef) w)
   (h3 : ∀ K : Act → World → Prop, Shut (∀ a w, S w → AnyBut P md ops Q S t f (listed.setIfInBounds k true) a w → K a w) → if Region.wanted ok (yielded ops a.tmps) = true then Oper.wp P ok a w K Q else K (a.put ok.dst undef) w) : AnyBut P md ops Q S t (f + 1) listed a w := by
 refine ⟨fun h0 => (by rw [hr] at h0; cases h0), fun m hm => ?_⟩
 rw [hr] at hm
 rcases List.mem_cons.1 hm with rfl | hm
 · exact wpOp_step ho fun K hK => h K fun a w hS hA => hK a w ⟨fun _ => hS, hA⟩
 rcases List.mem_cons.1 hm with rfl | hm
 · exact wpOp_step ho2 fun K hK => h2 K fun a w hS hA => hK a w ⟨fun _ => hS, hA⟩
 · obtain rfl := List.mem_singleton.1 hm
   exact wpOp_step ho3 fun K hK => h3 K fun a w hS hA => hK a w ⟨fun _ => hS, hA⟩
end Go.Proofs.YtopcefhncildnaaGreatDoor.K
