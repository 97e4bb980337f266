/-
  From what the form reads of a slice of octets to what the walks ask of it; and how long it can be.
-/
import Derived.Test.YtcmiaapcnmcpmaaSame
import Derived.OpenShut
import Derived.ShutString
import Derived.ChangeOld
import Derived.SizedLaws
namespace Go.Proofs.Ytcmiaapcnmcpmaa
open Go.ChangeShapes Go.WideShapes Go.ChangeAt Go.RowKit

theorem own : ownKnob Try.prog.godebug = none := by kernel_rfl
theorem laidOut : laidOutB Try.prog = true := by kernel_rfl
theorem bytes5 : Try.prog.bytesOf 5 = 1 := by kernel_rfl
theorem cells5 : Try.prog.cellsOf 5 = 1 := by kernel_rfl

theorem arg_of {H : Type} {enc : TypeId × Value → H} {W : World} {a : Option Addr} {len cap : Nat} {d : DataW H} {p : List MemPlace}
    (h : DataW.Trod enc Try.prog W 0 (fun _ => true) true 22 (.slice a len cap) d p) :
    ∃ l, Arg W (.slice a len cap) l ∧ ((d = .nil ∧ l = []) ∨ ∃ rest, d = .slice (lits .u8 l) rest) := by
  obtain ⟨fuel, hf⟩ := h
  rcases open_ints Try.underlying22 Try.underlying5 cells5 hf with ⟨hcs, hx⟩ | ⟨x, l, c, zs, hcs, _, hl, hm, hz, hx, hcell, hwz⟩
  · simp [Value.cells] at hcs
    obtain ⟨rfl, rfl, rfl⟩ := hcs
    simp only [Prod.mk.injEq] at hx
    exact ⟨[], .inl ⟨rfl, rfl⟩, .inl ⟨hx.1, rfl⟩⟩
  · simp [Value.cells] at hcs
    obtain ⟨rfl, rfl, rfl⟩ := hcs
    simp only [Prod.mk.injEq] at hx
    have hz' : zs.length = cap := by simpa using hz
    have e : (zs.take len).length = len := by rw [List.length_take]; omega
    refine ⟨zs.take len, .inr ⟨x, cap, by rw [e], by omega, by omega, fun i hi => ?_, fun y hy => bounds_u8 (hwz y (List.mem_of_mem_take hy))⟩, .inr ⟨_, hx.1⟩⟩
    rw [hcell i (by omega)]
    simp [show i < len by omega]

theorem arg_len {H : Type} {ts : List TypeId} {ds : List (DataW H)} {d : DataW H} {l : List Int} {j : Nat} (h : (DataW.weightsEach Try.prog ts ds).all (· ≤ reachBytes) = true)
    (ht : ts[j]? = some 22) (hd : ds[j]? = some d) (hx : (d = .nil ∧ l = []) ∨ ∃ rest, d = .slice (lits .u8 l) rest) : l.length ≤ 140737488351232 := by
  rcases hx with ⟨_, rfl⟩ | ⟨rest, rfl⟩
  · simp
  · have := sized_slice h ht hd Try.underlying22
    rw [bytes5] at this
    simp only [lits, List.length_map, reachBytes] at this
    omega

end Go.Proofs.Ytcmiaapcnmcpmaa
