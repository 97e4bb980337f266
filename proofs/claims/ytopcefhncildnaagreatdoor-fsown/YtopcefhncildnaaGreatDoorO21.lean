/-
  What clear does to the end of a row of octets.
-/
import Derived.Test.YtopcefhncildnaaGreatDoorO19
import Derived.Laws.IdiomCopy
namespace Go.Proofs.YtopcefhncildnaaGreatDoor.F
open Go.RowKit
def sets : Array Value → Nat → List Value → Array Value
 | cs, _, [] => cs
 | cs, o, v :: r => sets (cs.setIfInBounds o v) (o + 1) r
theorem sets_size : ∀ (vs : List Value) (cs : Array Value) (o : Nat), (sets cs o vs).size = cs.size
 | [], _, _ => rfl
 | v :: r, cs, o => by rw [sets, sets_size r]; simp
theorem sets_get : ∀ (vs : List Value) (cs : Array Value) (o i : Nat), o + vs.length ≤ cs.size → (sets cs o vs)[i]? = if o ≤ i ∧ i < o + vs.length then vs[i - o]? else cs[i]?
 | [], cs, o, i, _ => by rw [sets, if_neg (by simp)]
 | v :: r, cs, o, i, h => by (
 simp only [List.length_cons] at h
 rw [sets, sets_get r _ (o + 1) i (by simp; omega), Array.getElem?_setIfInBounds]
 simp only [List.length_cons]
 by_cases h1 : o + 1 ≤ i ∧ i < o + 1 + r.length
 · rw [if_pos h1, if_pos (by omega), show i - o = (i - (o + 1)) + 1 by omega]
   simp
 · rw [if_neg h1]
   by_cases h2 : o = i
   · subst h2
     rw [if_pos rfl, if_pos (by omega), if_pos (by omega)]
     simp
   · rw [if_neg h2, if_neg (by omega)])
end Go.Proofs.YtopcefhncildnaaGreatDoor.F
namespace Go.Proofs.YtopcefhncildnaaGreatDoor
open Go.RowKit
open F
theorem Box.setCells {t : TypeId} {B : Nat} : ∀ (vs : List Value) (o : Nat) {w : World} {cs : Array Value}, Box w B t cs → Box (w.setCells B o vs) B t (sets cs o vs)
 | [], _, _, _, h => h
 | v :: r, o, _, _, h => Box.setCells r (o + 1) (h.set o v)
end Go.Proofs.YtopcefhncildnaaGreatDoor
namespace Go.Proofs.YtopcefhncildnaaGreatDoor.F
open Go.RowKit
theorem grown_setCells {B : Nat} : ∀ (vs : List Value) (o : Nat) (w : World), w.grownBy (w.setCells B o vs) (some B)
 | [], _, _ => ⟨rfl, rfl, rfl, Nat.le_refl _, fun _ _ _ => rfl⟩
 | v :: r, o, w => (grown_set w B o v).trans (grown_setCells r (o + 1) _)
end Go.Proofs.YtopcefhncildnaaGreatDoor.F
