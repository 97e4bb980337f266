/-
  Ops as data; regions in which several things may come up.
-/
import Derived.Test.YtopcefhncildnaaGreatDoorZ45
import Derived.Deep.DeepCutAuto
namespace Go.Proofs.YtopcefhncildnaaGreatDoor.K
open Go.RowKit
abbrev Opd := Int × ByteArray × ByteArray × Int × Int × List Int
theorem box_ne {w : World} {B B' : Nat} {t t' : TypeId} {cs cs' : Array Value} (h : Box w B t cs) (h' : Box w B' t' cs') (ht : t ≠ t') : B ≠ B' := fun e => by
 subst e
 have h1 : w.heap[B]? = some (.cells cs t (0, 0)) := h
 have h2 : w.heap[B]? = some (.cells cs' t' (0, 0)) := h'
 rw [h1] at h2
 simp at h2
 exact ht h2.2
theorem AnyBut.three {P : Program} {ops : Array Oper} {Q : Exit → Act → World → Prop} {md : Region.Mode} {S : World → Prop} {t : Nat} {i j k : Nat} {oi oj ok : Oper} {f : Nat} {listed : Array Bool} {a : Act} {w : World} (hr : Region.ready md ops listed = [i, j, k]) (ho : ops[i]? = some oi) (ho2 : ops[j]? = some oj) (ho3 : ops[k]? = some ok)
   (h : ∀ K : Act → World → Prop, Shut (∀ a w, S w → AnyBut P md ops Q S t f (listed.setIfInBounds i true) a w → K a w) → if Region.wanted oi (yielded ops a.tmps) = true then Oper.wp P oi a w K Q else K (a.put oi.dst undef) w)
   (h2 : ∀ K : Act → World → Prop, Shut (∀ a w, S w → AnyBut P md ops Q S t f (listed.setIfInBounds j true) a w → K a w) → if Region.wanted oj (yielded ops a.tmps) = true then Oper.wp P oj a w K Q else K (a.put oj.dst undef) w)
   (h3 : ∀ K : Act → World → Prop, Shut (∀ a w, S w → AnyBut P md ops Q S t f (listed.setIfInBounds k true) a w → K a w) → if Region.wanted ok (yielded ops a.tmps) = true then Oper.wp P ok a w K Q else K (a.put ok.dst undef) w) : AnyBut P md ops Q S t (f + 1) listed a w := by
 refine ⟨fun h0 => (by rw [hr] at h0; cases h0), fun m hm => ?_⟩
 rw [hr] at hm
 rcases List.mem_cons.1 hm with rfl | hm
 · exact wpOp_step ho fun K hK => h K fun a w hS hA => hK a w ⟨fun _ => hS, hA⟩
 rcases List.mem_cons.1 hm with rfl | hm
 · exact wpOp_step ho2 fun K hK => h2 K fun a w hS hA => hK a w ⟨fun _ => hS, hA⟩
 · obtain rfl := List.mem_singleton.1 hm
   exact wpOp_step ho3 fun K hK => h3 K fun a w hS hA => hK a w ⟨fun _ => hS, hA⟩
end Go.Proofs.YtopcefhncildnaaGreatDoor.K
