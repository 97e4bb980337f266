/-
  What each call answers, with its state's nodes counted by a letter: as the laws use them.
  Plain mathematics: what the laws say of what the calls tell.
-/
import Derived.Test.YtkcnephbaffmbaaGreatDoorP37
import Derived.Test.YtkcnephbaffmbaaGreatDoorP42
import Derived.Test.YtkcnephbaffmbaaGreatDoorP43
import Derived.Test.YtkcnephbaffmbaaGreatDoorP44
import Derived.Test.YtkcnephbaffmbaaGreatDoorP45
import Derived.Test.YtkcnephbaffmbaaGreatDoorP46
namespace Go.Proofs.YtkcnephbaffmbaaGreatDoor
open Go.RowKit
open P (serr sval ArgT OwnT)
def Flat (base : Nat) (T : Int → St → Prop) (e : Ending) (w' : World) : Prop :=
  ∃ (k : Int) (l : List Nd) (nx : Int) (n : Nat) (a : Option Addr) (c : Nat), e = .returned (.tuple #[.agg #[.slice a n c, .int .i64 nx], .int .i64 k]) ∧ n = l.length ∧ ndsN.lies base w' [.slice a n c] l ∧ T k (l, nx)
theorem Tells.flat {s : St} {ps : List ByteArray} {K : Int} {s' : St} {w : World} {e : Ending} {w' : World} (h : Tells s ps K s' w e w') : Flat w.heap.size (Told s ps K s') e w' ∧ Below w.heap.size w w' := by
  obtain ⟨⟨k, S, a, c, he, hl, ht⟩, hb⟩ := h
  exact ⟨⟨k, S.1, S.2, S.1.length, a, c, he, rfl, hl, ht⟩, hb⟩
theorem create_f {n0 : Nat} {a : Option Addr} {c n : Nat} {l : List Nd} {nx : Int} (hn : n = l.length) {p : ByteArray} (hp : p.size ≤ maxLen) {w : World} (hA : ndsN.lies n0 w [.slice a n c] l) (hg : Glob w) :
    Calls Tryz.prog 12 #[.agg #[.slice a n c, .int .i64 nx], .string p] w fun e w' => Flat w.heap.size (Told (l, nx) [p] (mkE (l, nx) (sval p)) (mkN (l, nx) (hold (l, nx) (sval p)) (lst (sval p)) false)) e w' ∧ Below w.heap.size w w' := by
  subst hn; exact (Create_any n0 a c (l, nx) p hp w hA hg).mono fun e w' h => h.tells.flat
theorem mkdir_f {n0 : Nat} {a : Option Addr} {c n : Nat} {l : List Nd} {nx : Int} (hn : n = l.length) {p : ByteArray} (hp : p.size ≤ maxLen) {w : World} (hA : ndsN.lies n0 w [.slice a n c] l) (hg : Glob w) :
    Calls Tryz.prog 14 #[.agg #[.slice a n c, .int .i64 nx], .string p] w fun e w' => Flat w.heap.size (Told (l, nx) [p] (mkE (l, nx) (sval p)) (mkN (l, nx) (hold (l, nx) (sval p)) (lst (sval p)) true)) e w' ∧ Below w.heap.size w w' := by
  subst hn; exact (Mkdir_any n0 a c (l, nx) p hp w hA hg).mono fun e w' h => h.tells.flat
theorem unlink_f {n0 : Nat} {a : Option Addr} {c n : Nat} {l : List Nd} {nx : Int} (hn : n = l.length) {p : ByteArray} (hp : p.size ≤ maxLen) {w : World} (hA : ndsN.lies n0 w [.slice a n c] l) (hg : Glob w) :
    Calls Tryz.prog 16 #[.agg #[.slice a n c, .int .i64 nx], .string p] w fun e w' => Flat w.heap.size (Told (l, nx) [p] (filE l (sval p)) (dropN (l, nx) (hold (l, nx) (sval p)) (lst (sval p)) (tgt (l, nx) (sval p)))) e w' ∧ Below w.heap.size w w' := by
  subst hn; exact (Unlink_any n0 a c (l, nx) p hp w hA hg).mono fun e w' h => h.tells.flat
theorem rmdir_f {n0 : Nat} {a : Option Addr} {c n : Nat} {l : List Nd} {nx : Int} (hn : n = l.length) {p : ByteArray} (hp : p.size ≤ maxLen) {w : World} (hA : ndsN.lies n0 w [.slice a n c] l) (hg : Glob w) :
    Calls Tryz.prog 18 #[.agg #[.slice a n c, .int .i64 nx], .string p] w fun e w' => Flat w.heap.size (Told (l, nx) [p] (rmE (l, nx) (sval p)) (dropN (l, nx) (hold (l, nx) (sval p)) (lst (sval p)) (tgt (l, nx) (sval p)))) e w' ∧ Below w.heap.size w w' := by
  subst hn; exact (Rmdir_any n0 a c (l, nx) p hp w hA hg).mono fun e w' h => h.tells.flat
theorem link_f {n0 : Nat} {a : Option Addr} {c n : Nat} {l : List Nd} {nx : Int} (hn : n = l.length) {p q : ByteArray} (hp : p.size ≤ maxLen) (hq : q.size ≤ maxLen) {w : World} (hA : ndsN.lies n0 w [.slice a n c] l) (hg : Glob w) :
    Calls Tryz.prog 27 #[.agg #[.slice a n c, .int .i64 nx], .string p, .string q] w fun e w' => Flat w.heap.size (Told (l, nx) [p, q] (lnE (l, nx) (sval p) (sval q)) (lnkN (l, nx) (hold (l, nx) (sval q)) (lst (sval q)) (tgt (l, nx) (sval p)))) e w' ∧ Below w.heap.size w w' := by
  subst hn; exact (Link_any n0 a c (l, nx) p q hp hq w hA hg).mono fun e w' h => h.tells.flat
theorem rename_f {n0 : Nat} {a : Option Addr} {c n : Nat} {l : List Nd} {nx : Int} (hn : n = l.length) {p q : ByteArray} (hp : p.size ≤ maxLen) (hq : q.size ≤ maxLen) {w : World} (hA : ndsN.lies n0 w [.slice a n c] l) (hg : Glob w) :
    Calls Tryz.prog 25 #[.agg #[.slice a n c, .int .i64 nx], .string p, .string q] w fun e w' => Flat w.heap.size (Told (l, nx) [p, q] (renE (l, nx) (sval p) (sval q)) (renS (l, nx) (sval p) (sval q))) e w' ∧ Below w.heap.size w w' := by
  subst hn; exact (Rename_any n0 a c (l, nx) p q hp hq w hA hg).mono fun e w' h => h.tells.flat
def FlatW (base : Nat) (dl : Nat) (T : Int → St → Prop) (e : Ending) (w' : World) : Prop :=
  ∃ (k m : Int) (l : List Nd) (nx : Int) (n : Nat) (a : Option Addr) (c : Nat), e = .returned (.tuple #[.agg #[.slice a n c, .int .i64 nx], .int .i64 m, .int .i64 k]) ∧ n = l.length ∧ ndsN.lies base w' [.slice a n c] l ∧ T k (l, nx) ∧ ((k = 0 ∧ m = dl) ∨ (k ≠ 0 ∧ m = 0))
theorem write_f {n0 n1 : Nat} {a : Option Addr} {c n : Nat} {l : List Nd} {nx : Int} (hn : n = l.length) {p : ByteArray} (hp : p.size ≤ maxLen) {off : Int} (ho : I64 off) {da : Option Addr} {dl dc : Nat} {d : List Int} (hd : dl = d.length) {w : World} (hv : Arg n1 w (.slice da dl dc) d) (hA : ndsN.lies n0 w [.slice a n c] l) (hg : Glob w) :
    Calls Tryz.prog 30 #[.agg #[.slice a n c, .int .i64 nx], .string p, .int .i64 off, .slice da dl dc] w fun e w' => FlatW w.heap.size dl (Told (l, nx) [p] (rwE (l, nx) (sval p) (F.wrE (fi (tgt (l, nx) (sval p))) off d)) (filN (l, nx) (tgt (l, nx) (sval p)) (F.wrF (fi (tgt (l, nx) (sval p))) off d))) e w' ∧ Below w.heap.size w w' := by
  subst hn hd
  refine (Write_any n0 a c (l, nx) p hp off ho da dc d n1 w hv hA hg).mono fun e w' h => ⟨?_, h.2⟩
  rcases h.1 with ⟨k, he, hk⟩ | ⟨v, he, h1, h2, h3, hl⟩
  · refine ⟨k, 0, [], 0, 0, none, 0, he, rfl, nds_nil _ _, ?_, .inr ⟨?_, rfl⟩⟩
    · rcases hk with ⟨a, b⟩ | ⟨a, b, c⟩ | ⟨a, b, c, d⟩
      · exact .inl ⟨a, b, rfl⟩
      · exact .inr (.inl ⟨a, b, c, rfl⟩)
      · exact .inr (.inr (.inl ⟨a, b, c, d, rfl⟩))
    · rcases hk with ⟨a, b⟩ | ⟨a, b, c⟩ | ⟨a, b, c, d⟩ <;> omega
  · obtain ⟨a, c, rfl⟩ := nds_shape hl
    exact ⟨0, _, _, _, _, a, c, he, rfl, hl, .inr (.inr (.inr ⟨h1, h2, h3, rfl, rfl⟩)), .inl ⟨rfl, rfl⟩⟩
def Found (s : St) (p : ByteArray) (i k : Int) : Prop := (¬ Ok s ∧ i = 0 ∧ k = 9) ∨ (Ok s ∧ serr p ≠ 0 ∧ i = 0 ∧ k = serr p) ∨ (Ok s ∧ serr p = 0 ∧ i = (wlk s.1 1 (sval p)).1 ∧ k = (wlk s.1 1 (sval p)).2)
theorem find_f {n0 : Nat} {a : Option Addr} {c n : Nat} {l : List Nd} {nx : Int} (hn : n = l.length) {p : ByteArray} (hp : p.size ≤ maxLen) {w : World} (hA : ndsN.lies n0 w [.slice a n c] l) (hg : Glob w) :
    Calls Tryz.prog 10 #[.agg #[.slice a n c, .int .i64 nx], .string p] w fun e w' => (∃ i k, e = .returned (.tuple #[.int .i64 i, .int .i64 k]) ∧ Found (l, nx) p i k) ∧ Below w.heap.size w w' := by
  subst hn; exact find_any n0 a c (l, nx) p hp w hA hg
def Stated (s : St) (p : ByteArray) (N : Nd) (k : Int) : Prop := (¬ Ok s ∧ N = nd0 ∧ k = 9) ∨ (Ok s ∧ serr p ≠ 0 ∧ N = nd0 ∧ k = serr p) ∨ (Ok s ∧ serr p = 0 ∧ N = statN s (sval p) ∧ k = (wlk s.1 1 (sval p)).2)
def Readed (s : St) (p : ByteArray) (off m : Int) (O : List Int) (k : Int) : Prop := (¬ Ok s ∧ O = [] ∧ k = 9) ∨ (Ok s ∧ serr p ≠ 0 ∧ O = [] ∧ k = serr p) ∨ (Ok s ∧ serr p = 0 ∧ O = frO s (sval p) off m ∧ k = frE s (sval p) off m)
theorem check_f {n0 : Nat} {a : Option Addr} {c n : Nat} {l : List Nd} {nx : Int} (hn : n = l.length) (hO : Ok (l, nx)) {w : World} (hA : ndsN.lies n0 w [.slice a n c] l) :
    Calls Tryz.prog 22 #[.agg #[.slice a n c, .int .i64 nx]] w fun e w' => e = .returned (.int .i64 0) ∧ Below w.heap.size w w' := by
  subst hn
  refine (check_any n0 a c (l, nx) w hA).mono fun e w' h => ⟨?_, h.2⟩
  obtain ⟨r, he, ⟨_, h0⟩ | ⟨h1, _⟩⟩ := h.1
  · rw [he, h0]
  · exact absurd hO h1
theorem of_f {n0 : Nat} {a : Option Addr} {c n : Nat} {l : List Nd} {nx : Int} (hn : n = l.length) {w : World} (hA : ndsR.lies n0 w [.slice a n c] l) (hS : FitsS l) :
    Calls Tryz.prog 9 #[.agg #[.slice a n c, .int .i64 nx]] w fun e w' => (∃ a' c', e = .returned (.agg #[.slice a' n c', .int .i64 nx]) ∧ ndsN.owns w.heap.size w' [.slice a' n c'] l) ∧ Below w.heap.size w w' := by
  subst hn
  refine (of10_any n0 a c (l, nx) w hA hS).mono fun e w' h => ⟨?_, h.2⟩
  obtain ⟨v, he, ho⟩ := h.1
  obtain ⟨a', c', rfl⟩ := nds_shape (ndsN.olies ho)
  exact ⟨a', c', he, ho⟩
theorem alike_f {n1 n2 : Nat} {a1 a2 : Option Addr} {c1 c2 m1 m2 : Nat} {l : List Nd} {nx : Int} (hn1 : m1 = l.length) (hn2 : m2 = l.length) {w : World} (h1 : ndsN.lies n1 w [.slice a1 m1 c1] l) (h2 : ndsR.lies n2 w [.slice a2 m2 c2] l) :
    Calls Tryz.prog 21 #[.agg #[.slice a1 m1 c1, .int .i64 nx], .agg #[.slice a2 m2 c2, .int .i64 nx]] w fun e w' => e = .returned (.int .i64 0) ∧ Below w.heap.size w w' := by
  subst hn1 hn2
  refine (alike10_any n1 n2 a1 a2 c1 c2 (l, nx) (l, nx) w h1 h2).mono fun e w' h => ⟨?_, h.2⟩
  obtain ⟨d, he, ⟨_, h0⟩ | ⟨h1, _⟩⟩ := h.1
  · rw [he, h0]
  · exact absurd rfl h1
theorem fitsS_of {s : St} (h : stR.fits s) : FitsS s.1 := by
  obtain ⟨⟨h1, h2⟩, _⟩ := h
  have b1 : Tryz.prog.bytesOf 78 = 80 := by kernel_rfl
  refine ⟨?_, fun p hp => ?_⟩
  · have h3 : s.1.length * Tryz.prog.bytesOf 78 ≤ 140737488351232 := h1
    rwa [b1] at h3
  · obtain ⟨_, _, _, h4, h5⟩ := h2 p hp
    exact ⟨D.fits_of h4, F.fits_of h5⟩
end Go.Proofs.YtkcnephbaffmbaaGreatDoor

namespace Go.Proofs.YtkcnephbaffmbaaGreatDoor
open D (nameOk)
open P (serr sval)
theorem Found.in {s : St} {p : ByteArray} {i k : Int} (h : Found s p i k) (hO : Ok s) (hp : serr p = 0) : i = (wlk s.1 1 (sval p)).1 ∧ k = (wlk s.1 1 (sval p)).2 := by
  rcases h with ⟨a, _⟩ | ⟨_, b, _⟩ | ⟨_, _, c, d⟩
  · exact absurd hO a
  · exact absurd hp b
  · exact ⟨c, d⟩
theorem Stated.in {s : St} {p : ByteArray} {N : Nd} {k : Int} (h : Stated s p N k) (hO : Ok s) (hp : serr p = 0) : N = statN s (sval p) ∧ k = (wlk s.1 1 (sval p)).2 := by
  rcases h with ⟨a, _⟩ | ⟨_, b, _⟩ | ⟨_, _, c, d⟩
  · exact absurd hO a
  · exact absurd hp b
  · exact ⟨c, d⟩
theorem Readed.in {s : St} {p : ByteArray} {off m : Int} {O : List Int} {k : Int} (h : Readed s p off m O k) (hO : Ok s) (hp : serr p = 0) : O = frO s (sval p) off m ∧ k = frE s (sval p) off m := by
  rcases h with ⟨a, _⟩ | ⟨_, b, _⟩ | ⟨_, _, c, d⟩
  · exact absurd hO a
  · exact absurd hp b
  · exact ⟨c, d⟩
theorem there_law {s S : St} {p q : ByteArray} {i1 k1 i2 k2 i4 k4 i5 k5 : Int} (h1 : Found s p i1 k1) (h2 : Found s q i2 k2) (ht : Told s [p, q] (renE s (sval p) (sval q)) (renS s (sval p) (sval q)) 0 S) (h4 : Found S q i4 k4) (h5 : Found S p i5 k5) :
    k1 = 0 ∧ k4 = 0 ∧ i4 = i1 ∧ ((k2 = 0 ∧ i2 = i1 ∧ S = s) ∨ (k5 ≠ 0 ∧ k2 = 0 ∧ i2 ≠ i1 ∧ (S.1.length = s.1.length ∨ S.1.length + 1 = s.1.length)) ∨
      (k5 ≠ 0 ∧ k2 ≠ 0 ∧ ∀ k6 S6, Told S [q, p] (renE S (sval q) (sval p)) (renS S (sval q) (sval p)) k6 S6 → k6 = 0 ∧ S6 = s)) := by
  obtain ⟨hO, hps, hE, rfl⟩ := ht.ok
  obtain ⟨hp, hq⟩ := psE_two.1 hps
  obtain ⟨a1, b1⟩ := h1.in hO hp
  obtain ⟨a2, b2⟩ := h2.in hO hq
  have hl := sval_len hq
  by_cases hst : stdT s.1 (sval q) = (tgt s (sval p)).1
  · obtain ⟨t1, t2, t3⟩ := there_same hO hE hst
    rw [t1] at h4 h5 ⊢
    obtain ⟨a4, b4⟩ := h4.in hO hq
    refine ⟨by rw [b1, t2], by rw [b4, t3, t2], by rw [a4, a1, t3], .inl ⟨by rw [b2, t3, t2], by rw [a2, a1, t3], rfl⟩⟩
  · obtain ⟨t1, t2, t3, t4, t5, t6⟩ := there_moved hO hl hE hst
    obtain ⟨a4, b4⟩ := h4.in t2 hq
    obtain ⟨a5, b5⟩ := h5.in t2 hp
    refine ⟨by rw [b1, t1], by rw [b4, t3], by rw [a4, a1, t3], .inr ?_⟩
    have hk5 : k5 ≠ 0 := by rw [b5]; exact t4
    by_cases hk2 : k2 = 0
    · exact .inl ⟨hk5, hk2, by rw [a2, a1]; exact t5 (by rw [← b2]; exact hk2), t6⟩
    · refine .inr ⟨hk5, hk2, fun k6 S6 h6 => ?_⟩
      obtain ⟨u1, u2⟩ := there_back hO hl hE (by rw [← b2]; exact hk2)
      obtain ⟨v1, v2⟩ := h6.yes t2 (psE_two.2 ⟨hq, hp⟩) u1
      exact ⟨v1, v2.trans u2⟩
theorem undone_law {s S1 S2 : St} {p : ByteArray} (h1 : Told s [p] (mkE s (sval p)) (mkN s (hold s (sval p)) (lst (sval p)) false) 0 S1) (h2 : Told s [p] (mkE s (sval p)) (mkN s (hold s (sval p)) (lst (sval p)) true) 0 S2) :
    Ok s ∧ s.2 < 2147483647 ∧ (∀ k S, Told S1 [p] (filE S1.1 (sval p)) (dropN S1 (hold S1 (sval p)) (lst (sval p)) (tgt S1 (sval p))) k S → k = 0 ∧ S = (s.1, s.2 + 1)) ∧
      ∀ k S, Told S2 [p] (rmE S2 (sval p)) (dropN S2 (hold S2 (sval p)) (lst (sval p)) (tgt S2 (sval p))) k S → k = 0 ∧ S = (s.1, s.2 + 1) := by
  obtain ⟨hO, hps, hE, e1⟩ := h1.ok
  obtain ⟨-, -, -, e2⟩ := h2.ok
  have hp : serr p = 0 := by rw [← psE_one]; exact hps
  have hl := sval_len hp
  refine ⟨hO, (mk_zero hO hE).2.2.1, fun k S h => ?_, fun k S h => ?_⟩
  · have hf := made_file hO hl hE
    have hg := made_gone hO hl hE false
    rw [← e1] at hf hg
    obtain ⟨z, e⟩ := h.yes (by rw [e1]; exact mk_ok hO hl hE false) hps hf
    exact ⟨z, e.trans hg⟩
  · have hf := made_dir hO hl hE
    have hg := made_gone hO hl hE true
    rw [← e2] at hf hg
    obtain ⟨z, e⟩ := h.yes (by rw [e2]; exact mk_ok hO hl hE true) hps hf
    exact ⟨z, e.trans hg⟩
end Go.Proofs.YtkcnephbaffmbaaGreatDoor
