/-
  For the document's Open: the number of octets, a copy of octets, and when what is read may not be.
-/
import Derived.Test.YtmjgamokddedkaaOpen
import Derived.Test.YtmjgamokddedkaaROct
import Derived.Test.YtmjgamokddedkaaCRef
namespace Go.Proofs.Ytmjgamokddedkaa
open Go.RowKit
open O (nv)

theorem rnum_any {n0 : Nat} (v : Value) (l : List Int) (w : World) (h : Arg n0 w v l) (h8 : l.length ≤ 8) :
    Calls Try.prog 37 #[v] w fun e w' => e = .returned (.int .u64 (nv l)) ∧ w = w' := by
  have ho := h.oct
  rcases h.split with ⟨rfl, a, cap, rfl⟩ | ⟨b, off, cap, rfl, h1, h2, -, h4⟩
  · exact O.num_none a cap w
  · exact O.num_some b off l.length cap l rfl w h2 h4 (octs ho) (by have := dz_le l; omega)
theorem rcopy_any {n0 : Nat} (v : Value) (l : List Int) (w : World) (h : Arg n0 w v l) (hs : l.length ≤ 140737488355328) :
    Calls Try.prog 38 #[v] w fun e w' => (∃ v', e = .returned v' ∧ Own1 w.heap.size w' v' l) ∧ Below w.heap.size w w' := by
  refine Calls.mono (C.copied_any v l w h.toC hs) (fun e w' hh => ?_)
  obtain ⟨⟨v', rfl, h1⟩, hb⟩ := hh
  exact ⟨⟨v', rfl, .mk h1 h.oct⟩, hb⟩
theorem rdE_nine {L : List Int} (h : ¬ (rdOk L = true ∧ Chk (sq L, (rdR L).1))) : rdE L = 9 := by
  unfold rdE
  by_cases h1 : rdOk L = true
  · rw [if_pos h1]
    exact cerr_bad fun h2 => h ⟨h1, h2⟩
  · rw [if_neg h1]
theorem rdE_none {L : List Int} (h : rdOk L = true) (h2 : Chk (sq L, (rdR L).1)) : rdE L = 0 := by
  unfold rdE
  rw [if_pos h]
  exact cerr_ok h2

end Go.Proofs.Ytmjgamokddedkaa
