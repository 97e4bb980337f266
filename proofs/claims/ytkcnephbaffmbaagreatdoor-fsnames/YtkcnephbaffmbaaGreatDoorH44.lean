/-
  What each call answers, with its state's nodes counted by a letter: as the laws use them.
-/
import Derived.Test.YtkcnephbaffmbaaGreatDoorH42
import Derived.Test.YtkcnephbaffmbaaGreatDoorH43
namespace Go.Proofs.YtkcnephbaffmbaaGreatDoor
open Go.RowKit
open P (serr sval ArgT OwnT)
def Flat (base : Nat) (T : Int → St → Prop) (e : Ending) (w' : World) : Prop :=
 ∃ (k : Int) (l : List Nd) (nx : Int) (n : Nat) (a : Option Addr) (c : Nat), e = .returned (.tuple #[.agg #[.slice a n c, .int .i64 nx], .int .i64 k]) ∧ n = l.length ∧ ndsN.lies base w' [.slice a n c] l ∧ T k (l, nx)
theorem Tells.flat {s : St} {ps : List ByteArray} {K : Int} {s' : St} {w : World} {e : Ending} {w' : World} (h : Tells s ps K s' w e w') : Flat w.heap.size (Told s ps K s') e w' ∧ Below w.heap.size w w' := by
 obtain ⟨⟨k, S, a, c, he, hl, ht⟩, hb⟩ := h
 exact ⟨⟨k, S.1, S.2, S.1.length, a, c, he, rfl, hl, ht⟩, hb⟩
theorem link_f {n0 : Nat} {a : Option Addr} {c n : Nat} {l : List Nd} {nx : Int} (hn : n = l.length) {p q : ByteArray} (hp : p.size ≤ maxLen) (hq : q.size ≤ maxLen) {w : World} (hA : ndsN.lies n0 w [.slice a n c] l) (hg : Glob w) :
   Calls Tryz.prog 27 #[.agg #[.slice a n c, .int .i64 nx], .string p, .string q] w fun e w' => Flat w.heap.size (Told (l, nx) [p, q] (lnE (l, nx) (sval p) (sval q)) (lnkN (l, nx) (hold (l, nx) (sval q)) (lst (sval q)) (tgt (l, nx) (sval p)))) e w' ∧ Below w.heap.size w w' := by
 subst hn; exact (Link_any n0 a c (l, nx) p q hp hq w hA hg).mono fun e w' h => h.tells.flat
theorem rename_f {n0 : Nat} {a : Option Addr} {c n : Nat} {l : List Nd} {nx : Int} (hn : n = l.length) {p q : ByteArray} (hp : p.size ≤ maxLen) (hq : q.size ≤ maxLen) {w : World} (hA : ndsN.lies n0 w [.slice a n c] l) (hg : Glob w) :
   Calls Tryz.prog 25 #[.agg #[.slice a n c, .int .i64 nx], .string p, .string q] w fun e w' => Flat w.heap.size (Told (l, nx) [p, q] (renE (l, nx) (sval p) (sval q)) (renS (l, nx) (sval p) (sval q))) e w' ∧ Below w.heap.size w w' := by
 subst hn; exact (Rename_any n0 a c (l, nx) p q hp hq w hA hg).mono fun e w' h => h.tells.flat
theorem of_f {n0 : Nat} {a : Option Addr} {c n : Nat} {l : List Nd} {nx : Int} (hn : n = l.length) {w : World} (hA : ndsR.lies n0 w [.slice a n c] l) (hS : FitsS l) :
   Calls Tryz.prog 9 #[.agg #[.slice a n c, .int .i64 nx]] w fun e w' => (∃ a' c', e = .returned (.agg #[.slice a' n c', .int .i64 nx]) ∧ ndsN.owns w.heap.size w' [.slice a' n c'] l) ∧ Below w.heap.size w w' := by
 subst hn
 refine (of10_any n0 a c (l, nx) w hA hS).mono fun e w' h => ⟨?_, h.2⟩
 obtain ⟨v, he, ho⟩ := h.1
 obtain ⟨a', c', rfl⟩ := nds_shape (ndsN.olies ho)
 exact ⟨a', c', he, ho⟩
theorem alike_f {n1 n2 : Nat} {a1 a2 : Option Addr} {c1 c2 m1 m2 : Nat} {l : List Nd} {nx : Int} (hn1 : m1 = l.length) (hn2 : m2 = l.length) {w : World} (h1 : ndsN.lies n1 w [.slice a1 m1 c1] l) (h2 : ndsR.lies n2 w [.slice a2 m2 c2] l) :
   Calls Tryz.prog 21 #[.agg #[.slice a1 m1 c1, .int .i64 nx], .agg #[.slice a2 m2 c2, .int .i64 nx]] w fun e w' => e = .returned (.int .i64 0) ∧ Below w.heap.size w w' := by
 subst hn1 hn2
 refine (alike10_any n1 n2 a1 a2 c1 c2 (l, nx) (l, nx) w h1 h2).mono fun e w' h => ⟨?_, h.2⟩
 obtain ⟨d, he, ⟨_, h0⟩ | ⟨h1, _⟩⟩ := h.1
 · rw [he, h0]
 · exact absurd rfl h1
theorem fitsS_of {s : St} (h : stR.fits s) : FitsS s.1 := by
 obtain ⟨⟨h1, h2⟩, _⟩ := h
 have b1 : Tryz.prog.bytesOf 78 = 80 := by kernel_rfl
 refine ⟨?_, fun p hp => ?_⟩
 · have h3 : s.1.length * Tryz.prog.bytesOf 78 ≤ 140737488351232 := h1
   rwa [b1] at h3
 · obtain ⟨_, _, _, h4, h5⟩ := h2 p hp
   exact ⟨D.fits_of h4, F.fits_of h5⟩
end Go.Proofs.YtkcnephbaffmbaaGreatDoor
