/-
  Texts written over and cut, as plain mathematics; and the blocks that make them.
-/
import Derived.Test.YtopcefhncildnaaGreatDoorZ20
import Derived.Deep.AppendLies
import Derived.Shelf.SlSortCmp.WholeK
import Derived.Shelf.SlSortCmp.NoneTotal
import Derived.Test.YtopcefhncildnaaGreatDoorProg
namespace Go.Proofs.YtopcefhncildnaaGreatDoor.F
open Go.RowKit
def wrT (t : List Int) (p : Nat) (d : List Int) : List Int := if d.length = 0 then t else (List.range (max t.length (p + d.length))).map fun i => if p ≤ i ∧ i < p + d.length then oc d (i - p) else oc t i
def cutT (t : List Int) (n : Nat) : List Int := (List.range n).map (oc t)
def wrE (f : Fl) (off : Int) (d : List Int) : Int := if chk f = false then 9 else if off < 0 then 4 else if d.length = 0 then 0 else if 2432 < off + d.length then 107 else 0
def wrF (f : Fl) (off : Int) (d : List Int) : Fl := if wrE f off d = 0 then mk (wrT (txt f) off.toNat d) else (0, [])
def trE (f : Fl) (n : Int) : Int := if chk f = false then 9 else if n < 0 then 4 else if 2432 < n then 107 else 0
def trF (f : Fl) (n : Int) : Fl := if trE f n = 0 then mk (cutT (txt f) n.toNat) else (0, [])
theorem wrT_none {t d : List Int} (p : Nat) (h : d.length = 0) : wrT t p d = t := if_pos h
theorem wrT_length {t d : List Int} {p : Nat} (h : d.length ≠ 0) : (wrT t p d).length = max t.length (p + d.length) := by
 unfold wrT
 rw [if_neg h]
 simp
theorem cutT_length (t : List Int) (n : Nat) : (cutT t n).length = n := by simp [cutT]
theorem mk_nil : mk [] = (0, []) := by
 unfold mk
 rw [mkL_more (n := 0) (by omega) (fun j _ _ => isz_of fun k hk => by rw [tb_length] at hk; rw [tb_get _ _ _ hk]; rfl)]
 rfl
theorem chk_nil : chk (0, []) = true := by rw [← mk_nil]; exact chk_mk (by simp)
end Go.Proofs.YtopcefhncildnaaGreatDoor.F
