/-
  What bits.Len64 answers: how many bits a number has; for every number, in every memory, which stays as it was.
-/
import Derived.Test.YthlfgpnabcplnaaDoorRows
import Derived.Lib.Strings
import Derived.Lib.Slices
import Derived.Lib.Small
import Derived.Lib.Walk
import Derived.Lib.BitFns
namespace Go.Proofs.YthlfgpnabcplnaaDoor.W.O

/-- A number cut by 2^k that is still not 0: its length in bits, k more (y: what is left, as the walk spells it). -/
theorem len_step (x y : Int) (k : Nat) (hx0 : 0 ≤ x) (hx : x ≤ 18446744073709551615) (hy0 : 0 ≤ y) (hy1 : y ≤ 255) (hxy : y.toNat = x.toNat / 2 ^ k) (hk : 2 ^ k ≤ x.toNat) :
    Lib.len8 y = (Lib.bitLen x.toNat : Int) - k ∧ 0 ≤ Lib.len8 y ∧ Lib.len8 y ≤ 8 := by
  have e := Lib.len8_of y hy0 hy1
  have l := Lib.bitLen_le8' y hy0 hy1
  have s := Lib.bitLen_shift k x.toNat hk (by omega)
  rw [← hxy] at s
  omega

set_option maxHeartbeats 4000000 in
set_option maxRecDepth 1000000 in
theorem len_any (x : Int) (w : World) (h0 : 0 ≤ x) (h1 : x ≤ 18446744073709551615) :
    Calls Tryd.prog 61 #[.int .u64 x] w fun e w' => e = .returned (.int .i64 (Lib.bitLen x.toNat)) ∧ w = w' := by
  go_enter Tryd.func61, Tryd.ntmps61
  go_wp2
  all_goals (go_ret; refine ⟨congrArg Ending.returned (congrArg (Value.int IntKind.i64) ?_), rfl⟩)
  all_goals first
    | (have s := len_step x (x / 4294967296 / 65536 / 256 % 256) 56 h0 h1 (by omega) (by omega) (by simp only [Nat.reducePow]; omega) (by simp only [Nat.reducePow]; omega); omega)
    | (have s := len_step x (x / 4294967296 / 65536 % 256) 48 h0 h1 (by omega) (by omega) (by simp only [Nat.reducePow]; omega) (by simp only [Nat.reducePow]; omega); omega)
    | (have s := len_step x (x / 4294967296 / 256 % 256) 40 h0 h1 (by omega) (by omega) (by simp only [Nat.reducePow]; omega) (by simp only [Nat.reducePow]; omega); omega)
    | (have s := len_step x (x / 4294967296 % 256) 32 h0 h1 (by omega) (by omega) (by simp only [Nat.reducePow]; omega) (by simp only [Nat.reducePow]; omega); omega)
    | (have s := len_step x (x / 65536 / 256 % 256) 24 h0 h1 (by omega) (by omega) (by simp only [Nat.reducePow]; omega) (by simp only [Nat.reducePow]; omega); omega)
    | (have s := len_step x (x / 65536 % 256) 16 h0 h1 (by omega) (by omega) (by simp only [Nat.reducePow]; omega) (by simp only [Nat.reducePow]; omega); omega)
    | (have s := len_step x (x / 256 % 256) 8 h0 h1 (by omega) (by omega) (by simp only [Nat.reducePow]; omega) (by simp only [Nat.reducePow]; omega); omega)
    | (have e := Lib.len8_of (x % 256) (by omega) (by omega)
       have l := Lib.bitLen_le8' (x % 256) (by omega) (by omega)
       rw [show x % 256 = x by omega] at e l ⊢
       omega)
end Go.Proofs.YthlfgpnabcplnaaDoor.W.O
