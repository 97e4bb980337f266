/-
  What each call answers, with its state's nodes counted by a letter: as the laws use them.
-/
import Derived.Test.YtkcnephbaffmbaaGreatDoorK17
import Derived.Test.YtkcnephbaffmbaaGreatDoorK27
import Derived.Test.YtkcnephbaffmbaaGreatDoorK32
import Derived.Test.YtkcnephbaffmbaaGreatDoorK36
import Derived.Test.YtkcnephbaffmbaaGreatDoorK40
import Derived.Test.YtkcnephbaffmbaaGreatDoorK41
import Derived.Test.YtkcnephbaffmbaaGreatDoorK42
import Derived.Test.YtkcnephbaffmbaaGreatDoorK43
namespace Go.Proofs.YtkcnephbaffmbaaGreatDoor
open Go.RowKit
open P (serr sval ArgT OwnT)
def Flat (base : Nat) (T : Int → St → Prop) (e : Ending) (w' : World) : Prop :=
 ∃ (k : Int) (l : List Nd) (nx : Int) (n : Nat) (a : Option Addr) (c : Nat), e = .returned (.tuple #[.agg #[.slice a n c, .int .i64 nx], .int .i64 k]) ∧ n = l.length ∧ ndsN.lies base w' [.slice a n c] l ∧ T k (l, nx)
theorem Tells.flat {s : St} {ps : List ByteArray} {K : Int} {s' : St} {w : World} {e : Ending} {w' : World} (h : Tells s ps K s' w e w') : Flat w.heap.size (Told s ps K s') e w' ∧ Below w.heap.size w w' := by
 obtain ⟨⟨k, S, a, c, he, hl, ht⟩, hb⟩ := h
 exact ⟨⟨k, S.1, S.2, S.1.length, a, c, he, rfl, hl, ht⟩, hb⟩
theorem create_f {n0 : Nat} {a : Option Addr} {c n : Nat} {l : List Nd} {nx : Int} (hn : n = l.length) {p : ByteArray} (hp : p.size ≤ maxLen) {w : World} (hA : ndsN.lies n0 w [.slice a n c] l) (hg : Glob w) :
   Calls Tryz.prog 12 #[.agg #[.slice a n c, .int .i64 nx], .string p] w fun e w' => Flat w.heap.size (Told (l, nx) [p] (mkE (l, nx) (sval p)) (mkN (l, nx) (hold (l, nx) (sval p)) (lst (sval p)) false)) e w' ∧ Below w.heap.size w w' := by
 subst hn; exact (Create_any n0 a c (l, nx) p hp w hA hg).mono fun e w' h => h.tells.flat
theorem unlink_f {n0 : Nat} {a : Option Addr} {c n : Nat} {l : List Nd} {nx : Int} (hn : n = l.length) {p : ByteArray} (hp : p.size ≤ maxLen) {w : World} (hA : ndsN.lies n0 w [.slice a n c] l) (hg : Glob w) :
   Calls Tryz.prog 16 #[.agg #[.slice a n c, .int .i64 nx], .string p] w fun e w' => Flat w.heap.size (Told (l, nx) [p] (filE l (sval p)) (dropN (l, nx) (hold (l, nx) (sval p)) (lst (sval p)) (tgt (l, nx) (sval p)))) e w' ∧ Below w.heap.size w w' := by
 subst hn; exact (Unlink_any n0 a c (l, nx) p hp w hA hg).mono fun e w' h => h.tells.flat
theorem link_f {n0 : Nat} {a : Option Addr} {c n : Nat} {l : List Nd} {nx : Int} (hn : n = l.length) {p q : ByteArray} (hp : p.size ≤ maxLen) (hq : q.size ≤ maxLen) {w : World} (hA : ndsN.lies n0 w [.slice a n c] l) (hg : Glob w) :
   Calls Tryz.prog 27 #[.agg #[.slice a n c, .int .i64 nx], .string p, .string q] w fun e w' => Flat w.heap.size (Told (l, nx) [p, q] (lnE (l, nx) (sval p) (sval q)) (lnkN (l, nx) (hold (l, nx) (sval q)) (lst (sval q)) (tgt (l, nx) (sval p)))) e w' ∧ Below w.heap.size w w' := by
 subst hn; exact (Link_any n0 a c (l, nx) p q hp hq w hA hg).mono fun e w' h => h.tells.flat
theorem rename_f {n0 : Nat} {a : Option Addr} {c n : Nat} {l : List Nd} {nx : Int} (hn : n = l.length) {p q : ByteArray} (hp : p.size ≤ maxLen) (hq : q.size ≤ maxLen) {w : World} (hA : ndsN.lies n0 w [.slice a n c] l) (hg : Glob w) :
   Calls Tryz.prog 25 #[.agg #[.slice a n c, .int .i64 nx], .string p, .string q] w fun e w' => Flat w.heap.size (Told (l, nx) [p, q] (renE (l, nx) (sval p) (sval q)) (renS (l, nx) (sval p) (sval q))) e w' ∧ Below w.heap.size w w' := by
 subst hn; exact (Rename_any n0 a c (l, nx) p q hp hq w hA hg).mono fun e w' h => h.tells.flat
def FlatW (base : Nat) (dl : Nat) (T : Int → St → Prop) (e : Ending) (w' : World) : Prop :=
 ∃ (k m : Int) (l : List Nd) (nx : Int) (n : Nat) (a : Option Addr) (c : Nat), e = .returned (.tuple #[.agg #[.slice a n c, .int .i64 nx], .int .i64 m, .int .i64 k]) ∧ n = l.length ∧ ndsN.lies base w' [.slice a n c] l ∧ T k (l, nx) ∧ ((k = 0 ∧ m = dl) ∨ (k ≠ 0 ∧ m = 0))
theorem write_f {n0 n1 : Nat} {a : Option Addr} {c n : Nat} {l : List Nd} {nx : Int} (hn : n = l.length) {p : ByteArray} (hp : p.size ≤ maxLen) {off : Int} (ho : I64 off) {da : Option Addr} {dl dc : Nat} {d : List Int} (hd : dl = d.length) {w : World} (hv : Arg n1 w (.slice da dl dc) d) (hA : ndsN.lies n0 w [.slice a n c] l) (hg : Glob w) :
   Calls Tryz.prog 30 #[.agg #[.slice a n c, .int .i64 nx], .string p, .int .i64 off, .slice da dl dc] w fun e w' => FlatW w.heap.size dl (Told (l, nx) [p] (rwE (l, nx) (sval p) (F.wrE (fi (tgt (l, nx) (sval p))) off d)) (filN (l, nx) (tgt (l, nx) (sval p)) (F.wrF (fi (tgt (l, nx) (sval p))) off d))) e w' ∧ Below w.heap.size w w' := by
 subst hn hd
 refine (Write_any n0 a c (l, nx) p hp off ho da dc d n1 w hv hA hg).mono fun e w' h => ⟨?_, h.2⟩
 rcases h.1 with ⟨k, he, hk⟩ | ⟨v, he, h1, h2, h3, hl⟩
 · refine ⟨k, 0, [], 0, 0, none, 0, he, rfl, nds_nil _ _, ?_, .inr ⟨?_, rfl⟩⟩
   · rcases hk with ⟨a, b⟩ | ⟨a, b, c⟩ | ⟨a, b, c, d⟩
     · exact .inl ⟨a, b, rfl⟩
     · exact .inr (.inl ⟨a, b, c, rfl⟩)
     · exact .inr (.inr (.inl ⟨a, b, c, d, rfl⟩))
   · rcases hk with ⟨a, b⟩ | ⟨a, b, c⟩ | ⟨a, b, c, d⟩ <;> omega
 · obtain ⟨a, c, rfl⟩ := nds_shape hl
   exact ⟨0, _, _, _, _, a, c, he, rfl, hl, .inr (.inr (.inr ⟨h1, h2, h3, rfl, rfl⟩)), .inl ⟨rfl, rfl⟩⟩
theorem check_f {n0 : Nat} {a : Option Addr} {c n : Nat} {l : List Nd} {nx : Int} (hn : n = l.length) (hO : Ok (l, nx)) {w : World} (hA : ndsN.lies n0 w [.slice a n c] l) :
   Calls Tryz.prog 22 #[.agg #[.slice a n c, .int .i64 nx]] w fun e w' => e = .returned (.int .i64 0) ∧ Below w.heap.size w w' := by
 subst hn
 refine (check_any n0 a c (l, nx) w hA).mono fun e w' h => ⟨?_, h.2⟩
 obtain ⟨r, he, ⟨_, h0⟩ | ⟨h1, _⟩⟩ := h.1
 · rw [he, h0]
 · exact absurd hO h1
theorem of_f {n0 : Nat} {a : Option Addr} {c n : Nat} {l : List Nd} {nx : Int} (hn : n = l.length) {w : World} (hA : ndsR.lies n0 w [.slice a n c] l) (hS : FitsS l) :
   Calls Tryz.prog 9 #[.agg #[.slice a n c, .int .i64 nx]] w fun e w' => (∃ a' c', e = .returned (.agg #[.slice a' n c', .int .i64 nx]) ∧ ndsN.owns w.heap.size w' [.slice a' n c'] l) ∧ Below w.heap.size w w' := by
 subst hn
 refine (of10_any n0 a c (l, nx) w hA hS).mono fun e w' h => ⟨?_, h.2⟩
 obtain ⟨v, he, ho⟩ := h.1
 obtain ⟨a', c', rfl⟩ := nds_shape (ndsN.olies ho)
 exact ⟨a', c', he, ho⟩
theorem fitsS_of {s : St} (h : stR.fits s) : FitsS s.1 := by
 obtain ⟨⟨h1, h2⟩, _⟩ := h
 have b1 : Tryz.prog.bytesOf 78 = 80 := by kernel_rfl
 refine ⟨?_, fun p hp => ?_⟩
 · have h3 : s.1.length * Tryz.prog.bytesOf 78 ≤ 140737488351232 := h1
   rwa [b1] at h3
 · obtain ⟨_, _, _, h4, h5⟩ := h2 p hp
   exact ⟨D.fits_of h4, F.fits_of h5⟩
end Go.Proofs.YtkcnephbaffmbaaGreatDoor
