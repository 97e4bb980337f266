/-
  What each call answers, with its state's nodes counted by a letter: as the laws use them.
-/
import Derived.Test.YtkcnephbaffmbaaGreatDoorJ43
import Derived.Test.YtkcnephbaffmbaaGreatDoorJ44
namespace Go.Proofs.YtkcnephbaffmbaaGreatDoor
open Go.RowKit
open P (serr sval ArgT OwnT)
def Flat (base : Nat) (T : Int → St → Prop) (e : Ending) (w' : World) : Prop :=
 ∃ (k : Int) (l : List Nd) (nx : Int) (n : Nat) (a : Option Addr) (c : Nat), e = .returned (.tuple #[.agg #[.slice a n c, .int .i64 nx], .int .i64 k]) ∧ n = l.length ∧ ndsN.lies base w' [.slice a n c] l ∧ T k (l, nx)
theorem Tells.flat {s : St} {ps : List ByteArray} {K : Int} {s' : St} {w : World} {e : Ending} {w' : World} (h : Tells s ps K s' w e w') : Flat w.heap.size (Told s ps K s') e w' ∧ Below w.heap.size w w' := by
 obtain ⟨⟨k, S, a, c, he, hl, ht⟩, hb⟩ := h
 exact ⟨⟨k, S.1, S.2, S.1.length, a, c, he, rfl, hl, ht⟩, hb⟩
theorem trunc_f {n0 : Nat} {a : Option Addr} {c n : Nat} {l : List Nd} {nx : Int} (hn : n = l.length) {p : ByteArray} (hp : p.size ≤ maxLen) {z : Int} (hz : I64 z) {w : World} (hA : ndsN.lies n0 w [.slice a n c] l) (hg : Glob w) :
   Calls Tryz.prog 32 #[.agg #[.slice a n c, .int .i64 nx], .string p, .int .i64 z] w fun e w' => Flat w.heap.size (Told (l, nx) [p] (rwE (l, nx) (sval p) (F.trE (fi (tgt (l, nx) (sval p))) z)) (filN (l, nx) (tgt (l, nx) (sval p)) (F.trF (fi (tgt (l, nx) (sval p))) z))) e w' ∧ Below w.heap.size w w' := by
 subst hn; exact (Truncate_any n0 a c (l, nx) p hp z hz w hA hg).mono fun e w' h => h.tells.flat
def FlatW (base : Nat) (dl : Nat) (T : Int → St → Prop) (e : Ending) (w' : World) : Prop :=
 ∃ (k m : Int) (l : List Nd) (nx : Int) (n : Nat) (a : Option Addr) (c : Nat), e = .returned (.tuple #[.agg #[.slice a n c, .int .i64 nx], .int .i64 m, .int .i64 k]) ∧ n = l.length ∧ ndsN.lies base w' [.slice a n c] l ∧ T k (l, nx) ∧ ((k = 0 ∧ m = dl) ∨ (k ≠ 0 ∧ m = 0))
theorem write_f {n0 n1 : Nat} {a : Option Addr} {c n : Nat} {l : List Nd} {nx : Int} (hn : n = l.length) {p : ByteArray} (hp : p.size ≤ maxLen) {off : Int} (ho : I64 off) {da : Option Addr} {dl dc : Nat} {d : List Int} (hd : dl = d.length) {w : World} (hv : Arg n1 w (.slice da dl dc) d) (hA : ndsN.lies n0 w [.slice a n c] l) (hg : Glob w) :
   Calls Tryz.prog 30 #[.agg #[.slice a n c, .int .i64 nx], .string p, .int .i64 off, .slice da dl dc] w fun e w' => FlatW w.heap.size dl (Told (l, nx) [p] (rwE (l, nx) (sval p) (F.wrE (fi (tgt (l, nx) (sval p))) off d)) (filN (l, nx) (tgt (l, nx) (sval p)) (F.wrF (fi (tgt (l, nx) (sval p))) off d))) e w' ∧ Below w.heap.size w w' := by
 subst hn hd
 refine (Write_any n0 a c (l, nx) p hp off ho da dc d n1 w hv hA hg).mono fun e w' h => ⟨?_, h.2⟩
 rcases h.1 with ⟨k, he, hk⟩ | ⟨v, he, h1, h2, h3, hl⟩
 · refine ⟨k, 0, [], 0, 0, none, 0, he, rfl, nds_nil _ _, ?_, .inr ⟨?_, rfl⟩⟩
   · rcases hk with ⟨a, b⟩ | ⟨a, b, c⟩ | ⟨a, b, c, d⟩
     · exact .inl ⟨a, b, rfl⟩
     · exact .inr (.inl ⟨a, b, c, rfl⟩)
     · exact .inr (.inr (.inl ⟨a, b, c, d, rfl⟩))
   · rcases hk with ⟨a, b⟩ | ⟨a, b, c⟩ | ⟨a, b, c, d⟩ <;> omega
 · obtain ⟨a, c, rfl⟩ := nds_shape hl
   exact ⟨0, _, _, _, _, a, c, he, rfl, hl, .inr (.inr (.inr ⟨h1, h2, h3, rfl, rfl⟩)), .inl ⟨rfl, rfl⟩⟩
def Found (s : St) (p : ByteArray) (i k : Int) : Prop := (¬ Ok s ∧ i = 0 ∧ k = 9) ∨ (Ok s ∧ serr p ≠ 0 ∧ i = 0 ∧ k = serr p) ∨ (Ok s ∧ serr p = 0 ∧ i = (wlk s.1 1 (sval p)).1 ∧ k = (wlk s.1 1 (sval p)).2)
def Stated (s : St) (p : ByteArray) (N : Nd) (k : Int) : Prop := (¬ Ok s ∧ N = nd0 ∧ k = 9) ∨ (Ok s ∧ serr p ≠ 0 ∧ N = nd0 ∧ k = serr p) ∨ (Ok s ∧ serr p = 0 ∧ N = statN s (sval p) ∧ k = (wlk s.1 1 (sval p)).2)
theorem stat_f {n0 : Nat} {a : Option Addr} {c n : Nat} {l : List Nd} {nx : Int} (hn : n = l.length) {p : ByteArray} (hp : p.size ≤ maxLen) {w : World} (hA : ndsN.lies n0 w [.slice a n c] l) (hg : Glob w) :
   Calls Tryz.prog 40 #[.agg #[.slice a n c, .int .i64 nx], .string p] w fun e w' => (∃ N k, e = .returned (.tuple #[.int .i64 N.1, .bool (isD N), .int .i64 ((fi N).1 + ((en N).length : Int)), .int .i64 (lk N), .int .i64 k]) ∧ Stated (l, nx) p N k) ∧ Below w.heap.size w w' := by
 subst hn; exact Stat_any n0 a c (l, nx) p hp w hA hg
def Listed (s : St) (p : ByteArray) (O : List ByteArray) (k : Int) : Prop := (¬ Ok s ∧ O = [] ∧ k = 9) ∨ (Ok s ∧ serr p ≠ 0 ∧ O = [] ∧ k = serr p) ∨ (Ok s ∧ serr p = 0 ∧ O = lsO s (sval p) ∧ k = dirE s.1 (sval p))
theorem list_f {n0 : Nat} {a : Option Addr} {c n : Nat} {l : List Nd} {nx : Int} (hn : n = l.length) {p : ByteArray} (hp : p.size ≤ maxLen) {w : World} (hA : ndsN.lies n0 w [.slice a n c] l) (hg : Glob w) :
   Calls Tryz.prog 36 #[.agg #[.slice a n c, .int .i64 nx], .string p] w fun e w' => (∃ v O k, e = .returned (.tuple #[v, .int .i64 k]) ∧ OwnT w.heap.size w' v O ∧ Listed (l, nx) p O k) ∧ Below w.heap.size w w' := by
 subst hn; exact List_any n0 a c (l, nx) p hp w hA hg
def Readed (s : St) (p : ByteArray) (off m : Int) (O : List Int) (k : Int) : Prop := (¬ Ok s ∧ O = [] ∧ k = 9) ∨ (Ok s ∧ serr p ≠ 0 ∧ O = [] ∧ k = serr p) ∨ (Ok s ∧ serr p = 0 ∧ O = frO s (sval p) off m ∧ k = frE s (sval p) off m)
theorem read_f {n0 : Nat} {a : Option Addr} {c n : Nat} {l : List Nd} {nx : Int} (hn : n = l.length) {p : ByteArray} (hp : p.size ≤ maxLen) {off m : Int} (ho : I64 off) (hm : I64 m) {w : World} (hA : ndsN.lies n0 w [.slice a n c] l) (hg : Glob w) :
   Calls Tryz.prog 34 #[.agg #[.slice a n c, .int .i64 nx], .string p, .int .i64 off, .int .i64 m] w fun e w' => (∃ v O k, e = .returned (.tuple #[v, .int .i64 k]) ∧ Arg w.heap.size w' v O ∧ Readed (l, nx) p off m O k) ∧ Below w.heap.size w w' := by
 subst hn; exact Read_any n0 a c (l, nx) p hp off m ho hm w hA hg
theorem of_f {n0 : Nat} {a : Option Addr} {c n : Nat} {l : List Nd} {nx : Int} (hn : n = l.length) {w : World} (hA : ndsR.lies n0 w [.slice a n c] l) (hS : FitsS l) :
   Calls Tryz.prog 9 #[.agg #[.slice a n c, .int .i64 nx]] w fun e w' => (∃ a' c', e = .returned (.agg #[.slice a' n c', .int .i64 nx]) ∧ ndsN.owns w.heap.size w' [.slice a' n c'] l) ∧ Below w.heap.size w w' := by
 subst hn
 refine (of10_any n0 a c (l, nx) w hA hS).mono fun e w' h => ⟨?_, h.2⟩
 obtain ⟨v, he, ho⟩ := h.1
 obtain ⟨a', c', rfl⟩ := nds_shape (ndsN.olies ho)
 exact ⟨a', c', he, ho⟩
theorem alike_f {n1 n2 : Nat} {a1 a2 : Option Addr} {c1 c2 m1 m2 : Nat} {l : List Nd} {nx : Int} (hn1 : m1 = l.length) (hn2 : m2 = l.length) {w : World} (h1 : ndsN.lies n1 w [.slice a1 m1 c1] l) (h2 : ndsR.lies n2 w [.slice a2 m2 c2] l) :
   Calls Tryz.prog 21 #[.agg #[.slice a1 m1 c1, .int .i64 nx], .agg #[.slice a2 m2 c2, .int .i64 nx]] w fun e w' => e = .returned (.int .i64 0) ∧ Below w.heap.size w w' := by
 subst hn1 hn2
 refine (alike10_any n1 n2 a1 a2 c1 c2 (l, nx) (l, nx) w h1 h2).mono fun e w' h => ⟨?_, h.2⟩
 obtain ⟨d, he, ⟨_, h0⟩ | ⟨h1, _⟩⟩ := h.1
 · rw [he, h0]
 · exact absurd rfl h1
theorem fitsS_of {s : St} (h : stR.fits s) : FitsS s.1 := by
 obtain ⟨⟨h1, h2⟩, _⟩ := h
 have b1 : Tryz.prog.bytesOf 78 = 80 := by kernel_rfl
 refine ⟨?_, fun p hp => ?_⟩
 · have h3 : s.1.length * Tryz.prog.bytesOf 78 ≤ 140737488351232 := h1
   rwa [b1] at h3
 · obtain ⟨_, _, _, h4, h5⟩ := h2 p hp
   exact ⟨D.fits_of h4, F.fits_of h5⟩
end Go.Proofs.YtkcnephbaffmbaaGreatDoor
