/-
  What each call answers, with its state's nodes counted by a letter: as the laws use them.
  Plain mathematics: what the laws say of what the calls tell.
-/
import Derived.Test.YtkcnephbaffmbabGreatDoorQ18
import Derived.Test.YtkcnephbaffmbabGreatDoorQ28
import Derived.Test.YtkcnephbaffmbabGreatDoorQ37
import Derived.Test.YtkcnephbaffmbabGreatDoorQ41
import Derived.Test.YtkcnephbaffmbabGreatDoorQ42
import Derived.Test.YtkcnephbaffmbabGreatDoorQ43
import Derived.Test.YtkcnephbaffmbabGreatDoorQ44
namespace Go.Proofs.YtkcnephbaffmbabGreatDoor
open Go.RowKit
open P (serr sval ArgT OwnT)
def Flat (base : Nat) (T : Int → St → Prop) (e : Ending) (w' : World) : Prop :=
  ∃ (k : Int) (l : List Nd) (nx : Int) (n : Nat) (a : Option Addr) (c : Nat), e = .returned (.tuple #[.agg #[.slice a n c, .int .i64 nx], .int .i64 k]) ∧ n = l.length ∧ ndsN.lies base w' [.slice a n c] l ∧ T k (l, nx)
theorem Tells.flat {s : St} {ps : List ByteArray} {K : Int} {s' : St} {w : World} {e : Ending} {w' : World} (h : Tells s ps K s' w e w') : Flat w.heap.size (Told s ps K s') e w' ∧ Below w.heap.size w w' := by
  obtain ⟨⟨k, S, a, c, he, hl, ht⟩, hb⟩ := h
  exact ⟨⟨k, S.1, S.2, S.1.length, a, c, he, rfl, hl, ht⟩, hb⟩
theorem unlink_f {n0 : Nat} {a : Option Addr} {c n : Nat} {l : List Nd} {nx : Int} (hn : n = l.length) {p : ByteArray} (hp : p.size ≤ maxLen) {w : World} (hA : ndsN.lies n0 w [.slice a n c] l) (hg : Glob w) :
    Calls Tryz.prog 12 #[.agg #[.slice a n c, .int .i64 nx], .string p] w fun e w' => Flat w.heap.size (Told (l, nx) [p] (filE l (sval p)) (dropN (l, nx) (hold (l, nx) (sval p)) (lst (sval p)) (tgt (l, nx) (sval p)))) e w' ∧ Below w.heap.size w w' := by
  subst hn; exact (Unlink_any n0 a c (l, nx) p hp w hA hg).mono fun e w' h => h.tells.flat
theorem link_f {n0 : Nat} {a : Option Addr} {c n : Nat} {l : List Nd} {nx : Int} (hn : n = l.length) {p q : ByteArray} (hp : p.size ≤ maxLen) (hq : q.size ≤ maxLen) {w : World} (hA : ndsN.lies n0 w [.slice a n c] l) (hg : Glob w) :
    Calls Tryz.prog 7 #[.agg #[.slice a n c, .int .i64 nx], .string p, .string q] w fun e w' => Flat w.heap.size (Told (l, nx) [p, q] (lnE (l, nx) (sval p) (sval q)) (lnkN (l, nx) (hold (l, nx) (sval q)) (lst (sval q)) (tgt (l, nx) (sval p)))) e w' ∧ Below w.heap.size w w' := by
  subst hn; exact (Link_any n0 a c (l, nx) p q hp hq w hA hg).mono fun e w' h => h.tells.flat
def FlatW (base : Nat) (dl : Nat) (T : Int → St → Prop) (e : Ending) (w' : World) : Prop :=
  ∃ (k m : Int) (l : List Nd) (nx : Int) (n : Nat) (a : Option Addr) (c : Nat), e = .returned (.tuple #[.agg #[.slice a n c, .int .i64 nx], .int .i64 m, .int .i64 k]) ∧ n = l.length ∧ ndsN.lies base w' [.slice a n c] l ∧ T k (l, nx) ∧ ((k = 0 ∧ m = dl) ∨ (k ≠ 0 ∧ m = 0))
theorem write_f {n0 n1 : Nat} {a : Option Addr} {c n : Nat} {l : List Nd} {nx : Int} (hn : n = l.length) {p : ByteArray} (hp : p.size ≤ maxLen) {off : Int} (ho : I64 off) {da : Option Addr} {dl dc : Nat} {d : List Int} (hd : dl = d.length) {w : World} (hv : Arg n1 w (.slice da dl dc) d) (hA : ndsN.lies n0 w [.slice a n c] l) (hg : Glob w) :
    Calls Tryz.prog 10 #[.agg #[.slice a n c, .int .i64 nx], .string p, .int .i64 off, .slice da dl dc] w fun e w' => FlatW w.heap.size dl (Told (l, nx) [p] (rwE (l, nx) (sval p) (F.wrE (fi (tgt (l, nx) (sval p))) off d)) (filN (l, nx) (tgt (l, nx) (sval p)) (F.wrF (fi (tgt (l, nx) (sval p))) off d))) e w' ∧ Below w.heap.size w w' := by
  subst hn hd
  refine (Write_any n0 a c (l, nx) p hp off ho da dc d n1 w hv hA hg).mono fun e w' h => ⟨?_, h.2⟩
  rcases h.1 with ⟨k, he, hk⟩ | ⟨v, he, h1, h2, h3, hl⟩
  · refine ⟨k, 0, [], 0, 0, none, 0, he, rfl, nds_nil _ _, ?_, .inr ⟨?_, rfl⟩⟩
    · rcases hk with ⟨a, b⟩ | ⟨a, b, c⟩ | ⟨a, b, c, d⟩
      · exact .inl ⟨a, b, rfl⟩
      · exact .inr (.inl ⟨a, b, c, rfl⟩)
      · exact .inr (.inr (.inl ⟨a, b, c, d, rfl⟩))
    · rcases hk with ⟨a, b⟩ | ⟨a, b, c⟩ | ⟨a, b, c, d⟩ <;> omega
  · obtain ⟨a, c, rfl⟩ := nds_shape hl
    exact ⟨0, _, _, _, _, a, c, he, rfl, hl, .inr (.inr (.inr ⟨h1, h2, h3, rfl, rfl⟩)), .inl ⟨rfl, rfl⟩⟩
def Found (s : St) (p : ByteArray) (i k : Int) : Prop := (¬ Ok s ∧ i = 0 ∧ k = 9) ∨ (Ok s ∧ serr p ≠ 0 ∧ i = 0 ∧ k = serr p) ∨ (Ok s ∧ serr p = 0 ∧ i = (wlk s.1 1 (sval p)).1 ∧ k = (wlk s.1 1 (sval p)).2)
theorem find_f {n0 : Nat} {a : Option Addr} {c n : Nat} {l : List Nd} {nx : Int} (hn : n = l.length) {p : ByteArray} (hp : p.size ≤ maxLen) {w : World} (hA : ndsN.lies n0 w [.slice a n c] l) (hg : Glob w) :
    Calls Tryz.prog 22 #[.agg #[.slice a n c, .int .i64 nx], .string p] w fun e w' => (∃ i k, e = .returned (.tuple #[.int .i64 i, .int .i64 k]) ∧ Found (l, nx) p i k) ∧ Below w.heap.size w w' := by
  subst hn; exact find_any n0 a c (l, nx) p hp w hA hg
def Stated (s : St) (p : ByteArray) (N : Nd) (k : Int) : Prop := (¬ Ok s ∧ N = nd0 ∧ k = 9) ∨ (Ok s ∧ serr p ≠ 0 ∧ N = nd0 ∧ k = serr p) ∨ (Ok s ∧ serr p = 0 ∧ N = statN s (sval p) ∧ k = (wlk s.1 1 (sval p)).2)
theorem stat_f {n0 : Nat} {a : Option Addr} {c n : Nat} {l : List Nd} {nx : Int} (hn : n = l.length) {p : ByteArray} (hp : p.size ≤ maxLen) {w : World} (hA : ndsN.lies n0 w [.slice a n c] l) (hg : Glob w) :
    Calls Tryz.prog 21 #[.agg #[.slice a n c, .int .i64 nx], .string p] w fun e w' => (∃ N k, e = .returned (.tuple #[.int .i64 N.1, .bool (isD N), .int .i64 ((fi N).1 + ((en N).length : Int)), .int .i64 (lk N), .int .i64 k]) ∧ Stated (l, nx) p N k) ∧ Below w.heap.size w w' := by
  subst hn; exact Stat_any n0 a c (l, nx) p hp w hA hg
def Listed (s : St) (p : ByteArray) (O : List ByteArray) (k : Int) : Prop := (¬ Ok s ∧ O = [] ∧ k = 9) ∨ (Ok s ∧ serr p ≠ 0 ∧ O = [] ∧ k = serr p) ∨ (Ok s ∧ serr p = 0 ∧ O = lsO s (sval p) ∧ k = dirE s.1 (sval p))
theorem list_f {n0 : Nat} {a : Option Addr} {c n : Nat} {l : List Nd} {nx : Int} (hn : n = l.length) {p : ByteArray} (hp : p.size ≤ maxLen) {w : World} (hA : ndsN.lies n0 w [.slice a n c] l) (hg : Glob w) :
    Calls Tryz.prog 20 #[.agg #[.slice a n c, .int .i64 nx], .string p] w fun e w' => (∃ v O k, e = .returned (.tuple #[v, .int .i64 k]) ∧ OwnT w.heap.size w' v O ∧ Listed (l, nx) p O k) ∧ Below w.heap.size w w' := by
  subst hn; exact List_any n0 a c (l, nx) p hp w hA hg
def Readed (s : St) (p : ByteArray) (off m : Int) (O : List Int) (k : Int) : Prop := (¬ Ok s ∧ O = [] ∧ k = 9) ∨ (Ok s ∧ serr p ≠ 0 ∧ O = [] ∧ k = serr p) ∨ (Ok s ∧ serr p = 0 ∧ O = frO s (sval p) off m ∧ k = frE s (sval p) off m)
theorem read_f {n0 : Nat} {a : Option Addr} {c n : Nat} {l : List Nd} {nx : Int} (hn : n = l.length) {p : ByteArray} (hp : p.size ≤ maxLen) {off m : Int} (ho : I64 off) (hm : I64 m) {w : World} (hA : ndsN.lies n0 w [.slice a n c] l) (hg : Glob w) :
    Calls Tryz.prog 11 #[.agg #[.slice a n c, .int .i64 nx], .string p, .int .i64 off, .int .i64 m] w fun e w' => (∃ v O k, e = .returned (.tuple #[v, .int .i64 k]) ∧ Arg w.heap.size w' v O ∧ Readed (l, nx) p off m O k) ∧ Below w.heap.size w w' := by
  subst hn; exact Read_any n0 a c (l, nx) p hp off m ho hm w hA hg
theorem of_f {n0 : Nat} {a : Option Addr} {c n : Nat} {l : List Nd} {nx : Int} (hn : n = l.length) {w : World} (hA : ndsR.lies n0 w [.slice a n c] l) (hS : FitsS l) :
    Calls Tryz.prog 8 #[.agg #[.slice a n c, .int .i64 nx]] w fun e w' => (∃ a' c', e = .returned (.agg #[.slice a' n c', .int .i64 nx]) ∧ ndsN.owns w.heap.size w' [.slice a' n c'] l) ∧ Below w.heap.size w w' := by
  subst hn
  refine (of10_any n0 a c (l, nx) w hA hS).mono fun e w' h => ⟨?_, h.2⟩
  obtain ⟨v, he, ho⟩ := h.1
  obtain ⟨a', c', rfl⟩ := nds_shape (ndsN.olies ho)
  exact ⟨a', c', he, ho⟩
theorem fitsS_of {s : St} (h : stR.fits s) : FitsS s.1 := by
  obtain ⟨⟨h1, h2⟩, _⟩ := h
  have b1 : Tryz.prog.bytesOf 81 = 80 := by kernel_rfl
  refine ⟨?_, fun p hp => ?_⟩
  · have h3 : s.1.length * Tryz.prog.bytesOf 81 ≤ 140737488351232 := h1
    rwa [b1] at h3
  · obtain ⟨_, _, _, h4, h5⟩ := h2 p hp
    exact ⟨D.fits_of h4, F.fits_of h5⟩
end Go.Proofs.YtkcnephbaffmbabGreatDoor

namespace Go.Proofs.YtkcnephbaffmbabGreatDoor
open D (nameOk)
open P (serr sval)
theorem Found.in {s : St} {p : ByteArray} {i k : Int} (h : Found s p i k) (hO : Ok s) (hp : serr p = 0) : i = (wlk s.1 1 (sval p)).1 ∧ k = (wlk s.1 1 (sval p)).2 := by
  rcases h with ⟨a, _⟩ | ⟨_, b, _⟩ | ⟨_, _, c, d⟩
  · exact absurd hO a
  · exact absurd hp b
  · exact ⟨c, d⟩
theorem Stated.in {s : St} {p : ByteArray} {N : Nd} {k : Int} (h : Stated s p N k) (hO : Ok s) (hp : serr p = 0) : N = statN s (sval p) ∧ k = (wlk s.1 1 (sval p)).2 := by
  rcases h with ⟨a, _⟩ | ⟨_, b, _⟩ | ⟨_, _, c, d⟩
  · exact absurd hO a
  · exact absurd hp b
  · exact ⟨c, d⟩
theorem Readed.in {s : St} {p : ByteArray} {off m : Int} {O : List Int} {k : Int} (h : Readed s p off m O k) (hO : Ok s) (hp : serr p = 0) : O = frO s (sval p) off m ∧ k = frE s (sval p) off m := by
  rcases h with ⟨a, _⟩ | ⟨_, b, _⟩ | ⟨_, _, c, d⟩
  · exact absurd hO a
  · exact absurd hp b
  · exact ⟨c, d⟩
theorem links_law {s S0 : St} {p q : ByteArray} {d : List Int} (ht : Told s [p, q] (lnE s (sval p) (sval q)) (lnkN s (hold s (sval q)) (lst (sval q)) (tgt s (sval p))) 0 S0) (hd : d.length ≤ 2432) :
    ∀ k1 S1, Told S0 [q] (rwE S0 (sval q) (F.wrE (fi (tgt S0 (sval q))) 0 d)) (filN S0 (tgt S0 (sval q)) (F.wrF (fi (tgt S0 (sval q))) 0 d)) k1 S1 → k1 = 0 ∧ (∀ O k, Readed S1 p 0 d.length O k → k = 0 ∧ O = d) ∧
      ∀ k2 S2, Told S1 [p] (filE S1.1 (sval p)) (dropN S1 (hold S1 (sval p)) (lst (sval p)) (tgt S1 (sval p))) k2 S2 → k2 = 0 ∧ ∀ O k, Readed S2 q 0 d.length O k → k = 0 ∧ O = d := by
  obtain ⟨hO, hps, hE, e0⟩ := ht.ok
  obtain ⟨hp, hq⟩ := psE_two.1 hps
  obtain ⟨O0, r0, O1, r1, r2, f1, O2, r3, r4⟩ := links_all hO (sval_len hq) hE hd e0 rfl rfl
  intro k1 S1 h1
  obtain ⟨z1, e1⟩ := h1.yes O0 (by rw [psE_one]; exact hq) r0
  rw [← e1] at O1 r1 r2 f1 O2 r3 r4
  refine ⟨z1, fun O k h => ?_, fun k2 S2 h2 => ?_⟩
  · obtain ⟨a, b⟩ := h.in O1 hp
    exact ⟨by rw [b, r1], by rw [a, r2]⟩
  · obtain ⟨z2, e2⟩ := h2.yes O1 (by rw [psE_one]; exact hp) f1
    rw [← e2] at O2 r3 r4
    refine ⟨z2, fun O k h => ?_⟩
    obtain ⟨a, b⟩ := h.in O2 hq
    exact ⟨by rw [b, r3], by rw [a, r4]⟩
def cat (p x : ByteArray) : ByteArray := P.bk (p.data.toList ++ 47 :: x.data.toList)
theorem cat_path {p x : ByteArray} (hp : serr p = 0) (hx : nameOk x = true) (hs : p.size + 1 + x.size ≤ 128) (hl : (sval p).length + 1 ≤ 8) : serr (cat p x) = 0 ∧ sval (cat p x) = sval p ++ [x] := by
  have h1 := P.serr_zero.1 hp
  have hn := P.name_slash hx
  have hpts : P.pts (cat p x) = P.pts p ++ [x] := by
    unfold P.pts cat
    rw [P.bk_data, P.prts_snoc_slash, P.prts_plain hn.1, P.flush_ne hn.2, List.map_append]
    simp [P.bk_of]
  rw [P.sval_zero hp] at hl ⊢
  have hz : serr (cat p x) = 0 := by
    rw [P.serr_zero]
    refine ⟨?_, ?_, ?_, ?_⟩
    · unfold cat
      rw [P.bk_size, List.length_append, List.length_cons, ← Lib.size_eq, ← Lib.size_eq]
      omega
    · obtain ⟨r, hr⟩ := P.rooted_of h1.2.1
      unfold cat
      rw [hr, List.cons_append]
      exact P.rooted_cons
    · rw [hpts, List.all_append, h1.2.2.1]
      simp [hx]
    · rw [hpts, List.length_append]
      exact hl
  exact ⟨hz, by rw [P.sval_zero hz, hpts]⟩
theorem lists_law {s : St} {p : ByteArray} {O : List ByteArray} (h : Listed s p O 0) : (∀ N k, Stated s p N k → k = 0 ∧ isD N = true ∧ (fi N).1 + ((en N).length : Int) = (O.length : Int)) ∧ p.size ≤ 128 ∧ O.length ≤ 63 ∧
    (∀ (i j : Nat) x y, i < j → O[i]? = some x → O[j]? = some y → D.ltB x y = true) ∧
    ∀ (i : Nat) x, O[i]? = some x → x.size ≤ 16 ∧ (p.size + 1 + x.size ≤ 128 → (∀ j k, Found s (cat p x) j k → k = 0 ∧ 1 < j ∧ ∀ N k, Stated s (cat p x) N k → k = 0 ∧ N.1 = j ∧ 1 ≤ lk N)) := by
  rcases h with ⟨_, _, c⟩ | ⟨_, b, _, d⟩ | ⟨hO, hp, rfl, hk⟩
  · omega
  · exact absurd d.symm b
  have hk := hk.symm
  obtain ⟨s1, s2, s3, s4⟩ := list_stat hO hk
  refine ⟨fun N k hN => ?_, (P.serr_zero.1 hp).1, s4, fun i j x y hij hx hy => list_up hO hk hij hx hy, fun i x hx => ?_⟩
  · obtain ⟨rfl, hk2⟩ := hN.in hO hp
    exact ⟨by rw [hk2, s1], s2, s3⟩
  · obtain ⟨n1, n2, n3, n4, n5, n6⟩ := list_find hO hk hx
    refine ⟨(P.name_size n1).1, fun hs j k hf => ?_⟩
    obtain ⟨c1, c2⟩ := cat_path hp n1 hs n2
    obtain ⟨a, b⟩ := hf.in hO c1
    rw [c2] at a b
    refine ⟨by rw [b, n3], by rw [a]; exact n4, fun N k hN => ?_⟩
    obtain ⟨a', b'⟩ := hN.in hO c1
    rw [c2] at a' b'
    have hst : statN s (sval p ++ [x]) = tgt s (sval p ++ [x]) := by unfold statN; rw [if_pos n3]
    rw [hst] at a'
    exact ⟨by rw [b', n3], by rw [a', a, n5], by rw [a']; exact n6⟩
end Go.Proofs.YtkcnephbaffmbabGreatDoor
