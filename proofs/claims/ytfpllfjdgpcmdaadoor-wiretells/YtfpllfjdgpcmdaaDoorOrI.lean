/-
  Two octets as one number, with int's own or.
-/
import Derived.Test.YtfpllfjdgpcmdaaDoorGroups
namespace Go.Proofs.YtfpllfjdgpcmdaaDoor
open Go.RowKit

theorem i64_or_nat (a b : Nat) (ha : a < 65536) (hb : b < 65536) : bits .or .i64 (a : Int) (b : Int) = ((a ||| b : Nat) : Int) := by
  have h : a ||| b < 2 ^ 16 := Nat.or_lt_two_pow ha hb
  show IntKind.i64.wrap ((BitVec.ofInt 64 (a : Int) ||| BitVec.ofInt 64 (b : Int)).toNat : Int) = _
  rw [BitVec.toNat_or, ofInt_u64 a (by omega), ofInt_u64 b (by omega), IntKind.wrap_i64]
  omega

theorem or_two (c d : Int) (hc : 0 ≤ c ∧ c ≤ 255) (hd : 0 ≤ d ∧ d ≤ 255) : bits .or .i64 (c * 256) d = (((c * 256 + d).toNat : Nat) : Int) := by
  have h1 := i64_or_nat (256 * c.toNat) d.toNat (by omega) (by omega)
  have h2 := Nat.two_pow_add_eq_or_of_lt (i := 8) (b := d.toNat) (by omega) c.toNat
  rw [show ((256 * c.toNat : Nat) : Int) = c * 256 by omega, show ((d.toNat : Nat) : Int) = d by omega] at h1
  rw [h1]
  have h3 : 256 * c.toNat ||| d.toNat = 256 * c.toNat + d.toNat := h2.symm
  rw [h3]
  omega

end Go.Proofs.YtfpllfjdgpcmdaaDoor
