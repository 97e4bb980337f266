/-
  Nodes in memory of their own, and what a store into one of them does.
-/
import Derived.Test.YtopcefhncildnaaGreatDoorZ31
import Derived.Laws.OwnMore
namespace Go.Proofs.YtopcefhncildnaaGreatDoor
open Go.RowKit
open D (En ArgE OwnE EOks EOk ev evs)
open F (Fl Bk bkN bksN flN)
open P (ArgT)
theorem Each.set {α β : Type} {R : α → β → Prop} {a : α} {b : β} : ∀ {xs : List α} {ys : List β} (i : Nat), Each R xs ys → R a b → Each R (xs.set i a) (ys.set i b)
 | [], [], _, _, _ => trivial
 | _ :: _, _ :: _, 0, h, hr => ⟨hr, h.2⟩
 | _ :: _, _ :: _, i + 1, h, hr => ⟨h.1, Each.set i h.2 hr⟩
theorem en_omk {n : Nat} {w : World} {p : En} (h : EOk p) : D.enF.owns n w (ev p) p := ⟨[_], [_], rfl, ⟨rfl, h.1⟩, ⟨rfl, h.2.wf⟩⟩
theorem each_omk {n : Nat} {w : World} : ∀ {l : List En}, EOks l → Each (D.enF.owns n w) (l.map ev) l
 | [], _ => trivial
 | p :: _, h => ⟨en_omk (h p (List.mem_cons_self ..)), each_omk fun q hq => h q (List.mem_cons_of_mem _ hq)⟩
theorem ens_omk {n : Nat} {w : World} {v : Value} {l : List En} (h : OwnE 49 n w v l) : ensN.owns n w [v] l := ⟨v, l.map ev, rfl, h.1, each_omk h.2⟩
def LO (n : Nat) (w : World) (p : Nd) (e b : Value) : Prop := OwnE 49 n w e (en p) ∧ bksN.owns n w [b] (fi p).2 ∧ NOk p
theorem nd_omk {n : Nat} {w : World} {p : Nd} {e b : Value} (h : LO n w p e b) : ndN.owns n w (nv p e b) p :=
 ⟨[_], _, rfl, ⟨rfl, h.2.2.1.wf⟩, [_], _, rfl, ⟨rfl, trivial⟩, [_], _, rfl, ⟨rfl, h.2.2.2.1.wf⟩, [e], _, rfl, ens_omk h.1, F.fl_omkN h.2.1 h.2.2.2.2⟩
theorem LO.below {n : Nat} {w w' : World} {p : Nd} {e b : Value} (h : LO n w p e b) (hb : Below w.heap.size w w') : LO n w' p e b := ⟨h.1.below hb, bksN.obelow h.2.1 hb, h.2.2⟩
theorem grown_below {w w' : World} (h : Below w.heap.size w w') (r : Option Nat) : w.grownBy w' r := ⟨h.os, h.tape, h.output, h.size, fun j hj _ => h.block j hj⟩
def Stay (B : Nat) (w : World) (v : Value) (xs : List ByteArray) : Prop := ∀ w', Below B w w' → ArgT 0 w' v xs
theorem Stay.at {B : Nat} {w : World} {v : Value} {xs : List ByteArray} (h : Stay B w v xs) : ArgT 0 w v xs := h w (.refl _ _)
theorem Stay.below {B : Nat} {w w' : World} {v : Value} {xs : List ByteArray} (h : Stay B w v xs) (hb : Below B w w') : Stay B w' v xs := fun w2 h2 => h w2 (hb.trans h2)
end Go.Proofs.YtopcefhncildnaaGreatDoor
