/-
  What joined, readJoined and Split make of octets.
-/
import Derived.Test.YthlfgpnabcplnaaDoorTf1
import Derived.Test.YthlfgpnabcplnaaDoorTf13
import Derived.Test.YthlfgpnabcplnaaDoorTf25
import Derived.Test.YthlfgpnabcplnaaDoorTf20
import Derived.Test.YthlfgpnabcplnaaDoorTf24
namespace Go.Proofs.YthlfgpnabcplnaaDoor.W
open Go.RowKit

theorem dz_len (l : List Int) : (O.dz l).length ≤ l.length := by
  unfold O.dz
  exact (List.dropWhile_sublist _).length_le

theorem get2 (v : Value) (a b : Int) (w : World) (h : Arg 0 w v [a, b]) :
    Calls Tryd.prog 21 #[v] w fun e w' => e = .returned (.tuple #[.int .u64 (((a * 256 + b).toNat : Nat) : Int), .int .i64 0]) ∧ w = w' := by
  have ho := h.oct
  rcases h.split with ⟨h0, _⟩ | ⟨bb, off, cap, rfl, hc, hm, _, hcell⟩
  · cases h0
  have ha := (oc_cons.1 ho).1
  have hb := (oc_cons.1 (oc_cons.1 ho).2).1
  have hd := dz_len [a, b]
  have h8 : ¬ 8 < (O.dz [a, b]).length := by simp at hd; omega
  have hg : O.gval [a, b] = (((a * 256 + b).toNat : Nat) : Int) ∧ O.gerr [a, b] = 0 := by
    unfold O.gval O.gerr
    rw [if_neg h8, if_neg h8]
    refine ⟨?_, rfl⟩
    simp [O.nv]
    omega
  have := O.get_some bb off 2 cap [a, b] rfl w hm hc hcell ho
  rw [hg.1, hg.2] at this
  exact this


end Go.Proofs.YthlfgpnabcplnaaDoor.W
