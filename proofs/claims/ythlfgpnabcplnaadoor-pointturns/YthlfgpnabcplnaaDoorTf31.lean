/-
  From what the form reads of the arguments to what the walks ask of them; and how long they can be.
-/
import Derived.Test.YthlfgpnabcplnaaDoorTf28
import Derived.OpenShut
import Derived.ShutString
import Derived.ChangeOld
import Derived.SizedLaws
namespace Go.Proofs.YthlfgpnabcplnaaDoor.Dk
open Go.ChangeShapes Go.WideShapes Go.ChangeAt Go.RowKit
set_option maxRecDepth 100000

theorem own : ownKnob Tryd.prog.godebug = none := by kernel_rfl
theorem laidOut : laidOutB Tryd.prog = true := by kernel_rfl
theorem bytes5 : Tryd.prog.bytesOf 5 = 1 := by kernel_rfl
theorem cells5 : Tryd.prog.cellsOf 5 = 1 := by kernel_rfl

theorem arg_trod {H : Type} {enc : TypeId × Value → H} {W : World} {fuel : Nat} {cs : List Value} {x : DataW H × List MemPlace}
    (hf : DataW.trod enc Tryd.prog W 0 (fun _ => true) true fuel 22 cs = some x) :
    ∃ l v, cs = [v] ∧ Arg 0 W v l ∧ ((x.1 = .nil ∧ l = []) ∨ ∃ rest, x.1 = .slice (lits .u8 l) rest) := by
  rcases open_ints Tryd.underlying22 Tryd.underlying5 cells5 hf with ⟨hcs, hx⟩ | ⟨y, len, cap, zs, hcs, _, hl, hm, hz, hx, hcell, hwz⟩
  · exact ⟨[], _, hcs, ⟨⟨rfl, .inl ⟨rfl, rfl⟩⟩, (fun y hy => by cases hy)⟩, .inl ⟨by rw [hx], rfl⟩⟩
  · have hz' : zs.length = cap := by simpa using hz
    have e : (zs.take len).length = len := by rw [List.length_take]; omega
    refine ⟨zs.take len, _, hcs, ⟨⟨by simp, .inr ⟨y, cap, by rw [e], by omega, by omega, Nat.zero_le _, fun i u hu => ?_⟩⟩, fun y hy => bounds_u8 (hwz y (List.mem_of_mem_take hy))⟩, .inr ⟨_, by rw [hx]⟩⟩
    have hi : i < len := by
      have := (List.getElem?_eq_some_iff.1 hu).1
      rw [List.length_map, e] at this
      exact this
    rw [hcell i (by omega)]
    rw [List.getElem?_map, List.getElem?_take, if_pos hi] at hu
    obtain ⟨z, hz1, rfl⟩ := Option.map_eq_some_iff.1 hu
    simp [List.getD, hz1]

theorem arg_of {H : Type} {enc : TypeId × Value → H} {W : World} {a : Option Addr} {len cap : Nat} {d : DataW H} {p : List MemPlace}
    (h : DataW.Trod enc Tryd.prog W 0 (fun _ => true) true 22 (.slice a len cap) d p) :
    ∃ l, Arg 0 W (.slice a len cap) l ∧ ((d = .nil ∧ l = []) ∨ ∃ rest, d = .slice (lits .u8 l) rest) := by
  obtain ⟨fuel, hf⟩ := h
  obtain ⟨l, v, hv, hA, hx⟩ := arg_trod hf
  obtain rfl : Value.slice a len cap = v := by simpa [Value.cells] using hv
  exact ⟨l, hA, hx⟩

theorem arg_len {H : Type} {ts : List TypeId} {ds : List (DataW H)} {d : DataW H} {l : List Int} {j : Nat} (h : (DataW.weightsEach Tryd.prog ts ds).all (· ≤ reachBytes) = true)
    (ht : ts[j]? = some 22) (hd : ds[j]? = some d) (hx : (d = .nil ∧ l = []) ∨ ∃ rest, d = .slice (lits .u8 l) rest) : l.length ≤ 140737488351232 := by
  rcases hx with ⟨_, rfl⟩ | ⟨rest, rfl⟩
  · simp
  · have := sized_slice h ht hd Tryd.underlying22
    rw [bytes5] at this
    simp only [lits, List.length_map, reachBytes] at this
    omega

end Go.Proofs.YthlfgpnabcplnaaDoor.Dk
