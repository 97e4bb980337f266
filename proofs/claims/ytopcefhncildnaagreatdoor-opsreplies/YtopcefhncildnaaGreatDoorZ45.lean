/-
  What each call answers, with its state's nodes counted by a letter: as the laws use them.
  What an op that changes a state makes of it, kind by kind: ops.change.
  Replies as data; what an op that only looks is told: ops.lookAt, ops.look.
  One op done, or refused: ops.step.
  An op that reads a file, done or refused: ops.step at one kind.
  One op done, the state behind it in memory of its own: ops.Apply.
  An op that reads a file: ops.Apply at one kind.
-/
import Derived.Test.YtopcefhncildnaaGreatDoorZ43
import Derived.Test.YtopcefhncildnaaGreatDoorZ44
set_option maxRecDepth 100000
set_option maxHeartbeats 8000000
namespace Go.Proofs.YtopcefhncildnaaGreatDoor
open Go.RowKit
open P (serr sval ArgT OwnT)
def Stated (s : St) (p : ByteArray) (N : Nd) (k : Int) : Prop := (¬ Ok s ∧ N = nd0 ∧ k = 9) ∨ (Ok s ∧ serr p ≠ 0 ∧ N = nd0 ∧ k = serr p) ∨ (Ok s ∧ serr p = 0 ∧ N = statN s (sval p) ∧ k = (wlk s.1 1 (sval p)).2)
def Listed (s : St) (p : ByteArray) (O : List ByteArray) (k : Int) : Prop := (¬ Ok s ∧ O = [] ∧ k = 9) ∨ (Ok s ∧ serr p ≠ 0 ∧ O = [] ∧ k = serr p) ∨ (Ok s ∧ serr p = 0 ∧ O = lsO s (sval p) ∧ k = dirE s.1 (sval p))
def Readed (s : St) (p : ByteArray) (off m : Int) (O : List Int) (k : Int) : Prop := (¬ Ok s ∧ O = [] ∧ k = 9) ∨ (Ok s ∧ serr p ≠ 0 ∧ O = [] ∧ k = serr p) ∨ (Ok s ∧ serr p = 0 ∧ O = frO s (sval p) off m ∧ k = frE s (sval p) off m)
theorem read_f {n0 : Nat} {a : Option Addr} {c n : Nat} {l : List Nd} {nx : Int} (hn : n = l.length) {p : ByteArray} (hp : p.size ≤ maxLen) {off m : Int} (ho : I64 off) (hm : I64 m) {w : World} (hA : ndsN.lies n0 w [.slice a n c] l) (hg : Glob w) :
   Calls Tryz.prog 43 #[.agg #[.slice a n c, .int .i64 nx], .string p, .int .i64 off, .int .i64 m] w fun e w' => (∃ v O k, e = .returned (.tuple #[v, .int .i64 k]) ∧ Arg w.heap.size w' v O ∧ Readed (l, nx) p off m O k) ∧ Below w.heap.size w w' := by
 subst hn; exact Read_any n0 a c (l, nx) p hp off m ho hm w hA hg
end Go.Proofs.YtopcefhncildnaaGreatDoor
namespace Go.Proofs.YtopcefhncildnaaGreatDoor.K
open Go.RowKit
open P (serr sval)
set_option linter.unusedVariables false
def chT (k : Int) (l : List Nd) (nx : Int) (p t : ByteArray) (off : Int) (d : List Int) (e : Int) (s' : St) : Prop :=
 (k = 1 → Told (l, nx) [p] (mkE (l, nx) (sval p)) (mkN (l, nx) (hold (l, nx) (sval p)) (lst (sval p)) false) e s') ∧
 (k = 2 → Told (l, nx) [p] (mkE (l, nx) (sval p)) (mkN (l, nx) (hold (l, nx) (sval p)) (lst (sval p)) true) e s') ∧
 (k = 3 → Told (l, nx) [p] (filE l (sval p)) (dropN (l, nx) (hold (l, nx) (sval p)) (lst (sval p)) (tgt (l, nx) (sval p))) e s') ∧
 (k = 4 → Told (l, nx) [p] (rmE (l, nx) (sval p)) (dropN (l, nx) (hold (l, nx) (sval p)) (lst (sval p)) (tgt (l, nx) (sval p))) e s') ∧
 (k = 5 → Told (l, nx) [p, t] (renE (l, nx) (sval p) (sval t)) (renS (l, nx) (sval p) (sval t)) e s') ∧
 (k = 6 → Told (l, nx) [p, t] (lnE (l, nx) (sval p) (sval t)) (lnkN (l, nx) (hold (l, nx) (sval t)) (lst (sval t)) (tgt (l, nx) (sval p))) e s') ∧
 (k = 7 → Told (l, nx) [p] (rwE (l, nx) (sval p) (F.wrE (fi (tgt (l, nx) (sval p))) off d)) (filN (l, nx) (tgt (l, nx) (sval p)) (F.wrF (fi (tgt (l, nx) (sval p))) off d)) e s') ∧
 (k = 8 → Told (l, nx) [p] (rwE (l, nx) (sval p) (F.trE (fi (tgt (l, nx) (sval p))) off)) (filN (l, nx) (tgt (l, nx) (sval p)) (F.trF (fi (tgt (l, nx) (sval p))) off)) e s')
def cnt (k e : Int) (dl : Nat) : Int := if k = 7 ∧ e = 0 then dl else 0
end Go.Proofs.YtopcefhncildnaaGreatDoor.K
namespace Go.Proofs.YtopcefhncildnaaGreatDoor.K
open Go.RowKit
open P (serr sval ArgT OwnT)
set_option linter.unusedVariables false
theorem box_four {w : World} {B : Nat} {t : TypeId} {u v x y : Value} (h : Box w B t #[u, v, x, y]) : w.cell? ⟨B, 0, none⟩ = some u ∧ w.cell? ⟨B, 1, none⟩ = some v ∧ w.cell? ⟨B, 2, none⟩ = some x ∧ w.cell? ⟨B, 3, none⟩ = some y ∧ w.frozen? ⟨B, 0, none⟩ = false ∧ w.frozen? ⟨B, 1, none⟩ = false ∧ w.frozen? ⟨B, 2, none⟩ = false ∧ w.frozen? ⟨B, 3, none⟩ = false :=
 ⟨h.cell 0 rfl, h.cell 1 rfl, h.cell 2 rfl, h.cell 3 rfl, h.frozen 0, h.frozen 1, h.frozen 2, h.frozen 3⟩
theorem below_set4 {B n : Nat} {w W : World} (h : Below n w W) (hn : n ≤ B) (u v x y : Value) : Below n w ((((W.setCell ⟨B, 0, none⟩ u).setCell ⟨B, 1, none⟩ v).setCell ⟨B, 2, none⟩ x).setCell ⟨B, 3, none⟩ y) := (below_set3 h hn u v x).setCell (p := ⟨B, 3, none⟩) hn y
theorem same_set4 {n B : Nat} {w : World} {u v x y : Value} (hB : B < n) : Same n w ((((w.setCell ⟨B, 0, none⟩ u).setCell ⟨B, 1, none⟩ v).setCell ⟨B, 2, none⟩ x).setCell ⟨B, 3, none⟩ y) := Same.trans (.set3 hB) (by simp [World.setCell]) (.set hB)
abbrev Rp := Int × Int × List Int × List ByteArray
def RpL (n : Nat) (w : World) (v : Value) (r : Rp) : Prop := ∃ x y, v = .agg #[.int .i64 r.1, .int .i64 r.2.1, x, y] ∧ Arg n w x r.2.2.1 ∧ ArgT n w y r.2.2.2
theorem RpL.keep {n : Nat} {w w' : World} {v : Value} {r : Rp} (h : RpL n w v r) (hs : Same n w w') : RpL n w' v r := by
 obtain ⟨x, y, e, h1, h2⟩ := h
 exact ⟨x, y, e, h1.keep hs, h2.keep hs⟩
theorem RpL.below {n : Nat} {w w' : World} {v : Value} {r : Rp} (h : RpL n w v r) (hb : Below w.heap.size w w') : RpL n w' v r := h.keep (.of_below hb)
theorem RpL.weaken {n m : Nat} {w : World} {v : Value} {r : Rp} (h : RpL n w v r) (hm : m ≤ n) : RpL m w v r := by
 obtain ⟨x, y, e, h1, h2⟩ := h
 exact ⟨x, y, e, h1.weaken hm, h2.weaken hm⟩
theorem arg_nil (n : Nat) (w : World) : Arg n w (.slice none 0 0) [] := Arg.mk ⟨rfl, .inl ⟨rfl, rfl⟩⟩ (fun _ h => by cases h)
def atT (l : List Nd) (nx : Int) (p : ByteArray) (r : Rp) : Prop :=
 ∃ N, Stated (l, nx) p N r.1 ∧ r.2.2.2 = [] ∧ ((r.1 ≠ 0 ∧ r.2.1 = 0 ∧ r.2.2.1 = []) ∨ (r.1 = 0 ∧ r.2.1 = (fi N).1 + ((en N).length : Int) ∧ r.2.2.1 = [if isD N then 1 else 0]))
def lkT (k : Int) (l : List Nd) (nx : Int) (p : ByteArray) (off m : Int) (r : Rp) : Prop :=
 (k = 9 → Readed (l, nx) p off m r.2.2.1 r.1 ∧ r.2.1 = (r.2.2.1.length : Int) ∧ r.2.2.2 = []) ∧
 (k = 10 → Listed (l, nx) p r.2.2.2 r.1 ∧ r.2.1 = (r.2.2.2.length : Int) ∧ r.2.2.1 = []) ∧
 (k = 11 → atT l nx p r) ∧
 (k = 12 → r = (0, 0, [], []))
def LkP (T : Rp → Prop) (w : World) (e : Ending) (w' : World) : Prop := (∃ v r, e = .returned v ∧ RpL w.heap.size w' v r ∧ T r) ∧ Below w.heap.size w w'
theorem look9_any {n0 : Nat} {a : Option Addr} {c n : Nat} {l : List Nd} {nx : Int} (hn : n = l.length) {p t : ByteArray} (hp : p.size ≤ maxLen) {off m : Int} (ho : I64 off) (hm : I64 m) {da : Option Addr} {dl dc : Nat} {w : World} (hA : ndsN.lies n0 w [.slice a n c] l) (hg : Glob w) :
   Calls Tryz.prog 117 #[.agg #[.slice a n c, .int .i64 nx], .agg #[.int .i64 9, .string p, .string t, .int .i64 off, .int .i64 m, .slice da dl dc]] w (LkP (lkT 9 l nx p off m) w) := by
 obtain ⟨W1, hW1⟩ := exa (w.alloc (.cells #[.slice a n c, .int .i64 nx] 29))
 obtain ⟨W2, hW2⟩ := exa (W1.alloc (.cells #[.int .i64 9, .string p, .string t, .int .i64 off, .int .i64 m, .slice da dl dc] 56))
 obtain ⟨W3, hW3⟩ := exa (W2.alloc (.cells #[.int .i64 0, .int .i64 0, .slice none 0 0, .slice none 0 0] 59))
 have hb1 : Below w.heap.size w W1 := by rw [hW1]; exact (Below.refl _ w).alloc (Nat.le_refl _) _
 have hb2 : Below w.heap.size w W2 := by rw [hW2]; exact hb1.alloc hb1.size _
 have hb3 : Below w.heap.size w W3 := by rw [hW3]; exact hb2.alloc hb2.size _
 have hs1 : W1.heap.size = w.heap.size + 1 := by rw [hW1]; exact Array.size_push _
 have hs2 : W2.heap.size = w.heap.size + 1 + 1 := by rw [hW2, ← hs1]; exact Array.size_push _
 have hB1 : Box W1 w.heap.size 29 #[.slice a n c, .int .i64 nx] := by rw [hW1]; exact Box.new _ _ _
 have hB1' : Box W3 w.heap.size 29 #[.slice a n c, .int .i64 nx] := by rw [hW3, hW2]; exact (hB1.alloc _).alloc _
 have hB2 : Box W3 (w.heap.size + 1) 56 #[.int .i64 9, .string p, .string t, .int .i64 off, .int .i64 m, .slice da dl dc] := by rw [hW3, hW2, ← hs1]; exact (Box.new _ _ _).alloc _
 have hB3 : Box W3 (w.heap.size + 1 + 1) 59 #[.int .i64 0, .int .i64 0, .slice none 0 0, .slice none 0 0] := by rw [hW3, ← hs2]; exact Box.new _ _ _
 have HC := read_f (nx := nx) hn hp ho hm (ndsN.below hA hb3) (hg.below hb3 hg.lt)
 have HB : Hid (Below w.heap.size w W3 ∧ Box W3 (w.heap.size + 1 + 1) 59 #[.int .i64 0, .int .i64 0, .slice none 0 0, .slice none 0 0]) := ⟨hb3, hB3⟩
 obtain ⟨x0, x1, -, -⟩ := hB1'.two
 have y0 := hB2.cell 0 rfl
 have y1 := hB2.cell 1 rfl
 have y3 := hB2.cell 3 rfl
 have y4 := hB2.cell 4 rfl
 rw [hW3, hW2, hW1] at x0 x1 y0 y1 y3 y4
 obtain ⟨post, hpost⟩ : ∃ post : Ending → World → Prop, post = LkP (lkT 9 l nx p off m) w := ⟨_, rfl⟩
 have HPo : Hid (∀ v r w', RpL w.heap.size w' v r → lkT 9 l nx p off m r → Below w.heap.size w w' → post (.returned v) w') := fun v r w' h1 h2 h3 => by rw [hpost]; exact ⟨⟨v, r, rfl, h1, h2⟩, h3⟩
 rw [← hpost]
 clear hpost hb1 hb2 hb3 hs1 hs2 hB1 hB1' hB2 hB3 hA hg hn hp ho hm
 go_enter Tryz.func117, Tryz.ntmps117
 go_wp2_with fail
 rw [← hW1, ← hW2, ← hW3]
 clear hW1 hW2 hW3 x0 x1 y0 y1 y3 y4
 refine HC.mono ?_
 rintro e w4 ⟨⟨v, O, k3, rfl, hv, hT⟩, hb4⟩
 have hlt : w.heap.size + 1 + 1 < W3.heap.size := HB.out.2.lt
 have hBR := HB.out.2.below hb4 HB.out.2.lt
 have hW4 : Below w.heap.size w w4 := HB.out.1.trans (hb4.mono HB.out.1.size)
 obtain ⟨d0, d1, d2, d3, e0, e1, e2, e3⟩ := box_four hBR
 obtain ⟨x, cap, rfl, _⟩ := hv.shape
 obtain ⟨ol, hol⟩ := exa (O.length)
 have HT : Readed (l, nx) p off m O k3 ∧ (O.length : Int) = (O.length : Int) ∧ ([] : List ByteArray) = [] := ⟨hT, rfl, rfl⟩
 rw [← hol] at hv ⊢
 have hl := run_len Tryz.underlying25 x ol cap
 have HP : Hid (∀ u0 u1 u2 u3 v, v = .agg #[.int .i64 k3, .int .i64 ol, .slice x ol cap, .slice none 0 0] → post (.returned v) ((((w4.setCell ⟨w.heap.size + 1 + 1, 0, none⟩ u0).setCell ⟨w.heap.size + 1 + 1, 1, none⟩ u1).setCell ⟨w.heap.size + 1 + 1, 2, none⟩ u2).setCell ⟨w.heap.size + 1 + 1, 3, none⟩ u3)) := fun u0 u1 u2 u3 v hv' => by
   rw [hv']
   refine HPo.out _ (k3, (O.length : Int), O, []) _ (RpL.weaken (n := W3.heap.size) (RpL.keep ⟨_, _, by rw [hol], hv, ArgT.nil _ _⟩ (same_set4 hlt)) (by omega)) ⟨fun _ => HT, fun h => absurd h (by decide), fun h => absurd h (by decide), fun h => absurd h (by decide)⟩ (below_set4 hW4 (by omega) _ _ _ _)
 clear HC hb4 hT HT hBR hW4 hlt hv hol
 go_wp2
 refine bodyPost_ret (v := .agg #[.int .i64 k3, .int .i64 ol, .slice x ol cap, .slice none 0 0]) (by simp [results, Tryz.results117, go_sem, *]) rfl (HP.out _ _ _ _ _ rfl)
end Go.Proofs.YtopcefhncildnaaGreatDoor.K
namespace Go.Proofs.YtopcefhncildnaaGreatDoor.K
open Go.RowKit
open P (serr sval ArgT OwnT)
theorem changes_any (k : Int) (w : World) : Calls Tryz.prog 116 #[.int .i64 k] w fun e w' => e = .returned (.bool (decide (k < 9))) ∧ w = w' := by
 by_cases h : k < 9
 · rw [decide_eq_true h]
   go_enter Tryz.func116, Tryz.ntmps116
   go_wp2
   go_ret
   exact ⟨rfl, rfl⟩
 · rw [decide_eq_false h]
   go_enter Tryz.func116, Tryz.ntmps116
   go_wp2
   go_ret
   exact ⟨rfl, rfl⟩
def ApT (l : List Nd) (nx k : Int) (p t : ByteArray) (off m : Int) (d : List Int) (s' : St) (r : Rp) (e : Int) : Prop :=
 (¬ Ok (l, nx) ∧ e = 9 ∧ s' = ([], 0) ∧ r = (0, 0, [], [])) ∨
 (Ok (l, nx) ∧ opE k p t d.length ≠ 0 ∧ e = opE k p t d.length ∧ s' = ([], 0) ∧ r = (0, 0, [], [])) ∨
 (Ok (l, nx) ∧ opE k p t d.length = 0 ∧ e = 0 ∧ k < 9 ∧ ∃ e2 s2, chT k l nx p t off d e2 s2 ∧ ((e2 ≠ 0 ∧ s' = (l, nx) ∧ r = (e2, 0, [], [])) ∨ (e2 = 0 ∧ s' = s2 ∧ r = (0, cnt k 0 d.length, [], [])))) ∨
 (Ok (l, nx) ∧ opE k p t d.length = 0 ∧ e = 0 ∧ 9 ≤ k ∧ s' = (l, nx) ∧ lkT k l nx p off m r)
def StP (l : List Nd) (nx k : Int) (p t : ByteArray) (off m : Int) (d : List Int) (w : World) (e : Ending) (w' : World) : Prop :=
 (∃ (a3 : Option Addr) (n3 c3 : Nat) (x3 : Int) (l3 : List Nd) (rv : Value) (r : Rp) (e3 : Int), e = .returned (.tuple #[.agg #[.slice a3 n3 c3, .int .i64 x3], rv, .int .i64 e3]) ∧ n3 = l3.length ∧ ndsN.lies 0 w' [.slice a3 n3 c3] l3 ∧ RpL w.heap.size w' rv r ∧ ApT l nx k p t off m d (l3, x3) r e3) ∧ Below w.heap.size w w'
theorem opE_zero {k : Int} {p t : ByteArray} {dl : Nat} (h : opE k p t dl = 0) : 1 ≤ k ∧ k ≤ 12 := by
 unfold opE at h
 by_cases h1 : k < 1 ∨ 12 < k
 · rw [if_pos h1] at h; omega
 · omega
theorem fin_below {n B C : Nat} {w W : World} (h : Below n w W) (hB : n ≤ B) (hC : n ≤ C) (u0 u1 v0 v1 v2 v3 : Value) : Below n w ((((((W.setCell ⟨B, 0, none⟩ u0).setCell ⟨B, 1, none⟩ u1).setCell ⟨C, 0, none⟩ v0).setCell ⟨C, 1, none⟩ v1).setCell ⟨C, 2, none⟩ v2).setCell ⟨C, 3, none⟩ v3) := below_set4 (below_set2 h hB u0 u1) hC v0 v1 v2 v3
theorem fin_same {n B C : Nat} {W : World} (hB : B < n) (hC : C < n) (u0 u1 v0 v1 v2 v3 : Value) : Same n W ((((((W.setCell ⟨B, 0, none⟩ u0).setCell ⟨B, 1, none⟩ u1).setCell ⟨C, 0, none⟩ v0).setCell ⟨C, 1, none⟩ v1).setCell ⟨C, 2, none⟩ v2).setCell ⟨C, 3, none⟩ v3) := Same.trans (.set2 hB) (by simp [World.setCell]) (same_set4 hC)
end Go.Proofs.YtopcefhncildnaaGreatDoor.K
namespace Go.Proofs.YtopcefhncildnaaGreatDoor.K
open Go.RowKit
open P (serr sval ArgT OwnT)
set_option linter.unusedVariables false
theorem step9_any {n0 n1 : Nat} {a : Option Addr} {c n : Nat} {l : List Nd} {nx : Int} (hn : n = l.length) {p t : ByteArray} (hp : p.size ≤ maxLen) (ht : t.size ≤ maxLen) {off m : Int} (ho : I64 off) (hm : I64 m) {da : Option Addr} {dl dc : Nat} {d : List Int} (hd : dl = d.length) {w : World} (hD : Arg n1 w (.slice da dl dc) d) (hA : ndsN.lies n0 w [.slice a n c] l) (hg : Glob w) :
   Calls Tryz.prog 61 #[.agg #[.slice a n c, .int .i64 nx], .agg #[.int .i64 9, .string p, .string t, .int .i64 off, .int .i64 m, .slice da dl dc]] w (StP l nx 9 p t off m d w) := by
 obtain ⟨W1, hW1⟩ := exa (w.alloc (.cells #[.slice a n c, .int .i64 nx] 29))
 obtain ⟨W2, hW2⟩ := exa (W1.alloc (.cells #[.int .i64 9, .string p, .string t, .int .i64 off, .int .i64 m, .slice da dl dc] 56))
 obtain ⟨W3, hW3⟩ := exa (W2.alloc (.cells #[.slice none 0 0, .int .i64 0] 29))
 obtain ⟨W4, hW4⟩ := exa (W3.alloc (.cells #[.int .i64 0, .int .i64 0, .slice none 0 0, .slice none 0 0] 59))
 have hb1 : Below w.heap.size w W1 := by rw [hW1]; exact (Below.refl _ w).alloc (Nat.le_refl _) _
 have hb2 : Below w.heap.size w W2 := by rw [hW2]; exact hb1.alloc hb1.size _
 have hb3 : Below w.heap.size w W3 := by rw [hW3]; exact hb2.alloc hb2.size _
 have hb4 : Below w.heap.size w W4 := by rw [hW4]; exact hb3.alloc hb3.size _
 have hs1 : W1.heap.size = w.heap.size + 1 := by rw [hW1]; exact Array.size_push _
 have hs2 : W2.heap.size = w.heap.size + 1 + 1 := by rw [hW2, ← hs1]; exact Array.size_push _
 have hs3 : W3.heap.size = w.heap.size + 1 + 1 + 1 := by rw [hW3, ← hs2]; exact Array.size_push _
 have hX1 : Box W4 w.heap.size 29 #[.slice a n c, .int .i64 nx] := by
   have : Box W1 w.heap.size 29 #[.slice a n c, .int .i64 nx] := by rw [hW1]; exact Box.new _ _ _
   rw [hW4, hW3, hW2]; exact ((this.alloc _).alloc _).alloc _
 have hX2 : Box W4 (w.heap.size + 1) 56 #[.int .i64 9, .string p, .string t, .int .i64 off, .int .i64 m, .slice da dl dc] := by rw [hW4, hW3, hW2, ← hs1]; exact ((Box.new _ _ _).alloc _).alloc _
 have hX3 : Box W4 (w.heap.size + 1 + 1) 29 #[.slice none 0 0, .int .i64 0] := by rw [hW4, hW3, ← hs2]; exact (Box.new _ _ _).alloc _
 have hX4 : Box W4 (w.heap.size + 1 + 1 + 1) 59 #[.int .i64 0, .int .i64 0, .slice none 0 0, .slice none 0 0] := by rw [hW4, ← hs3]; exact Box.new _ _ _
 have HX : Hid (Below w.heap.size w W4 ∧ Box W4 w.heap.size 29 #[.slice a n c, .int .i64 nx] ∧ Box W4 (w.heap.size + 1) 56 #[.int .i64 9, .string p, .string t, .int .i64 off, .int .i64 m, .slice da dl dc] ∧ Box W4 (w.heap.size + 1 + 1) 29 #[.slice none 0 0, .int .i64 0] ∧ Box W4 (w.heap.size + 1 + 1 + 1) 59 #[.int .i64 0, .int .i64 0, .slice none 0 0, .slice none 0 0]) := ⟨hb4, hX1, hX2, hX3, hX4⟩
 have HI : Hid (n = l.length ∧ p.size ≤ maxLen ∧ t.size ≤ maxLen ∧ I64 off ∧ I64 m ∧ dl = d.length ∧ ∀ V, Below w.heap.size w V → Arg n1 V (.slice da dl dc) d ∧ ndsN.lies n0 V [.slice a n c] l ∧ Glob V) := ⟨hn, hp, ht, ho, hm, hd, fun V hV => ⟨hD.below hV, ndsN.below hA hV, hg.below hV hg.lt⟩⟩
 have HC := Go.Proofs.YtopcefhncildnaaGreatDoor.check_any n0 a c (l, nx) W4 (by rw [← hn]; exact ndsN.below hA hb4)
 obtain ⟨x0, x1, -, -⟩ := hX1.two
 rw [hW4, hW3, hW2, hW1] at x0 x1
 simp only at HC
 rw [← hn] at HC
 obtain ⟨post, hpost⟩ : ∃ post : Ending → World → Prop, post = StP l nx 9 p t off m d w := ⟨_, rfl⟩
 have HPo : Hid (∀ (a3 : Option Addr) (n3 c3 : Nat) (x3 : Int) (l3 : List Nd) (rv : Value) (r : Rp) (e3 : Int) w', n3 = l3.length → ndsN.lies 0 w' [.slice a3 n3 c3] l3 → RpL w.heap.size w' rv r → ApT l nx 9 p t off m d (l3, x3) r e3 → Below w.heap.size w w' → post (.returned (.tuple #[.agg #[.slice a3 n3 c3, .int .i64 x3], rv, .int .i64 e3])) w') := fun a3 n3 c3 x3 l3 rv r e3 w' h1 h2 h3 h4 h5 => by rw [hpost]; exact ⟨⟨a3, n3, c3, x3, l3, rv, r, e3, rfl, h1, h2, h3, h4⟩, h5⟩
 rw [← hpost]
 clear hpost hb1 hb2 hb3 hb4 hs1 hs2 hs3 hX1 hX2 hX3 hX4 hA hg hn hp ht ho hm hd hD
 go_enter Tryz.func61, Tryz.ntmps61
 go_wp2_with fail
 rw [← hW1, ← hW2, ← hW3, ← hW4]
 clear hW1 hW2 hW3 hW4 x0 x1
 refine HC.mono ?_
 rintro e w5 ⟨⟨r, rfl, hr⟩, hb5⟩
 have H5 : Hid (Below W4.heap.size W4 w5) := hb5
 clear HC hb5
 rcases hr with ⟨hok, rfl⟩ | ⟨hok, rfl⟩
 rotate_left
 · -- the state may not be
   have HP : Hid (∀ u0 u1 v0 v1 v2 v3 V, V = .tuple #[.agg #[.slice none 0 0, .int .i64 0], .agg #[.int .i64 0, .int .i64 0, .slice none 0 0, .slice none 0 0], .int .i64 9] → post (.returned V) ((((((w5.setCell ⟨w.heap.size + 1 + 1, 0, none⟩ u0).setCell ⟨w.heap.size + 1 + 1, 1, none⟩ u1).setCell ⟨w.heap.size + 1 + 1 + 1, 0, none⟩ v0).setCell ⟨w.heap.size + 1 + 1 + 1, 1, none⟩ v1).setCell ⟨w.heap.size + 1 + 1 + 1, 2, none⟩ v2).setCell ⟨w.heap.size + 1 + 1 + 1, 3, none⟩ v3)) := fun u0 u1 v0 v1 v2 v3 V hV => by (
 rw [hV]
 have hbw : Below w.heap.size w w5 := HX.out.1.trans (H5.out.mono HX.out.1.size)
 exact HPo.out _ _ _ _ [] _ (0, 0, [], []) _ _ rfl (nds_nil _ _) (⟨_, _, rfl, arg_nil _ _, ArgT.nil _ _⟩) (.inl ⟨hok, rfl, rfl, rfl⟩) (fin_below hbw (by omega) (by omega) _ _ _ _ _ _))
   obtain ⟨d0, d1, e0, e1⟩ := (HX.out.2.2.2.1.below H5.out HX.out.2.2.2.1.lt).two
   obtain ⟨f0, f1, f2, f3, g0, g1, g2, g3⟩ := box_four (HX.out.2.2.2.2.below H5.out HX.out.2.2.2.2.lt)
   go_wp2
   refine bodyPost_ret (v := .tuple #[.agg #[.slice none 0 0, .int .i64 0], .agg #[.int .i64 0, .int .i64 0, .slice none 0 0, .slice none 0 0], .int .i64 9]) (by simp [results, Tryz.results61, go_sem, *]) rfl (HP.out _ _ _ _ _ _ _ rfl)
 have HOK : Hid (Ok (l, nx)) := hok
 clear hok
 have HC2 := K.check_any 9 off m p t HI.out.2.1 HI.out.2.2.1 da dl dc w5
 obtain ⟨oe, hoe⟩ := exa (opE 9 p t dl)
 have HOE : Hid (oe = opE 9 p t d.length) := by
   show _ = _
   rw [hoe, HI.out.2.2.2.2.2.1]
 rw [← hoe] at HC2
 clear hoe
 have y0 := (HX.out.2.2.1.below H5.out HX.out.2.2.1.lt).cell 0 rfl
 have y1 := (HX.out.2.2.1.below H5.out HX.out.2.2.1.lt).cell 1 rfl
 have y2 := (HX.out.2.2.1.below H5.out HX.out.2.2.1.lt).cell 2 rfl
 have y3 := (HX.out.2.2.1.below H5.out HX.out.2.2.1.lt).cell 3 rfl
 have y4 := (HX.out.2.2.1.below H5.out HX.out.2.2.1.lt).cell 4 rfl
 have y5 := (HX.out.2.2.1.below H5.out HX.out.2.2.1.lt).cell 5 rfl
 go_wp2_with fail
 refine HC2.mono ?_
 rintro e w6 ⟨rfl, hb6⟩
 have H6 : Hid (Below W4.heap.size W4 w6) := below_any H5.out hb6
 clear HC2 hb6 H5 y0 y1 y2 y3 y4 y5
 by_cases hoz : oe = 0
 rotate_left
 · -- the op may not be
   have HP : Hid (∀ u0 u1 v0 v1 v2 v3 V, V = .tuple #[.agg #[.slice none 0 0, .int .i64 0], .agg #[.int .i64 0, .int .i64 0, .slice none 0 0, .slice none 0 0], .int .i64 oe] → post (.returned V) ((((((w6.setCell ⟨w.heap.size + 1 + 1, 0, none⟩ u0).setCell ⟨w.heap.size + 1 + 1, 1, none⟩ u1).setCell ⟨w.heap.size + 1 + 1 + 1, 0, none⟩ v0).setCell ⟨w.heap.size + 1 + 1 + 1, 1, none⟩ v1).setCell ⟨w.heap.size + 1 + 1 + 1, 2, none⟩ v2).setCell ⟨w.heap.size + 1 + 1 + 1, 3, none⟩ v3)) := fun u0 u1 v0 v1 v2 v3 V hV => by (
 rw [hV]
 have hbw : Below w.heap.size w w6 := HX.out.1.trans (H6.out.mono HX.out.1.size)
 exact HPo.out _ _ _ _ [] _ (0, 0, [], []) _ _ rfl (nds_nil _ _) (⟨_, _, rfl, arg_nil _ _, ArgT.nil _ _⟩) (.inr (.inl ⟨HOK.out, by rw [← HOE.out]; exact hoz, HOE.out, rfl, rfl⟩)) (fin_below hbw (by omega) (by omega) _ _ _ _ _ _))
   obtain ⟨d0, d1, e0, e1⟩ := (HX.out.2.2.2.1.below H6.out HX.out.2.2.2.1.lt).two
   obtain ⟨f0, f1, f2, f3, g0, g1, g2, g3⟩ := box_four (HX.out.2.2.2.2.below H6.out HX.out.2.2.2.2.lt)
   go_wp2
   refine bodyPost_ret (v := .tuple #[.agg #[.slice none 0 0, .int .i64 0], .agg #[.int .i64 0, .int .i64 0, .slice none 0 0, .slice none 0 0], .int .i64 oe]) (by simp [results, Tryz.results61, go_sem, *]) rfl (HP.out _ _ _ _ _ _ _ rfl)
 subst hoz
 have HOE0 : Hid (opE 9 p t d.length = 0) := HOE.out.symm
 have hkr := opE_zero HOE0.out
 have H6w : Hid (Below w.heap.size w w6) := HX.out.1.trans (H6.out.mono HX.out.1.size)
 have HCh := changes_any 9 w6
 have yk := (HX.out.2.2.1.below H6.out HX.out.2.2.1.lt).cell 0 rfl
 by_cases hk9 : (9 : Int) < 9
 · exact absurd hk9 (by decide)
 · rw [decide_eq_false hk9] at HCh
   have HK : Hid ((9 : Int) ≤ 9) := by show _ ≤ _; omega
   have HSB : Hid (∀ V, Box V (w.heap.size) 29 #[.slice a n c, .int .i64 nx] → Box V (w.heap.size + 1) 56 #[.int .i64 9, .string p, .string t, .int .i64 off, .int .i64 m, .slice da dl dc] → (V.cell? ⟨w.heap.size, 0, none⟩ = some (.slice a n c) ∧ V.cell? ⟨w.heap.size, 1, none⟩ = some (.int .i64 nx) ∧ V.cell? ⟨w.heap.size + 1, 0, none⟩ = some (.int .i64 9) ∧ V.cell? ⟨w.heap.size + 1, 1, none⟩ = some (.string p) ∧ V.cell? ⟨w.heap.size + 1, 2, none⟩ = some (.string t) ∧ V.cell? ⟨w.heap.size + 1, 3, none⟩ = some (.int .i64 off) ∧ V.cell? ⟨w.heap.size + 1, 4, none⟩ = some (.int .i64 m) ∧ V.cell? ⟨w.heap.size + 1, 5, none⟩ = some (.slice da dl dc))) := fun V h1 h2 => ⟨h1.cell 0 rfl, h1.cell 1 rfl, h2.cell 0 rfl, h2.cell 1 rfl, h2.cell 2 rfl, h2.cell 3 rfl, h2.cell 4 rfl, h2.cell 5 rfl⟩
   have HS : Hid (∀ V, Below W4.heap.size W4 V → (V.cell? ⟨w.heap.size, 0, none⟩ = some (.slice a n c) ∧ V.cell? ⟨w.heap.size, 1, none⟩ = some (.int .i64 nx) ∧ V.cell? ⟨w.heap.size + 1, 0, none⟩ = some (.int .i64 9) ∧ V.cell? ⟨w.heap.size + 1, 1, none⟩ = some (.string p) ∧ V.cell? ⟨w.heap.size + 1, 2, none⟩ = some (.string t) ∧ V.cell? ⟨w.heap.size + 1, 3, none⟩ = some (.int .i64 off) ∧ V.cell? ⟨w.heap.size + 1, 4, none⟩ = some (.int .i64 m) ∧ V.cell? ⟨w.heap.size + 1, 5, none⟩ = some (.slice da dl dc)) ∧ (∀ u0 u1, (((V.setCell ⟨w.heap.size + 1 + 1, 0, none⟩ u0).setCell ⟨w.heap.size + 1 + 1, 1, none⟩ u1).cell? ⟨w.heap.size, 0, none⟩ = some (.slice a n c) ∧ ((V.setCell ⟨w.heap.size + 1 + 1, 0, none⟩ u0).setCell ⟨w.heap.size + 1 + 1, 1, none⟩ u1).cell? ⟨w.heap.size, 1, none⟩ = some (.int .i64 nx) ∧ ((V.setCell ⟨w.heap.size + 1 + 1, 0, none⟩ u0).setCell ⟨w.heap.size + 1 + 1, 1, none⟩ u1).cell? ⟨w.heap.size + 1, 0, none⟩ = some (.int .i64 9) ∧ ((V.setCell ⟨w.heap.size + 1 + 1, 0, none⟩ u0).setCell ⟨w.heap.size + 1 + 1, 1, none⟩ u1).cell? ⟨w.heap.size + 1, 1, none⟩ = some (.string p) ∧ ((V.setCell ⟨w.heap.size + 1 + 1, 0, none⟩ u0).setCell ⟨w.heap.size + 1 + 1, 1, none⟩ u1).cell? ⟨w.heap.size + 1, 2, none⟩ = some (.string t) ∧ ((V.setCell ⟨w.heap.size + 1 + 1, 0, none⟩ u0).setCell ⟨w.heap.size + 1 + 1, 1, none⟩ u1).cell? ⟨w.heap.size + 1, 3, none⟩ = some (.int .i64 off) ∧ ((V.setCell ⟨w.heap.size + 1 + 1, 0, none⟩ u0).setCell ⟨w.heap.size + 1 + 1, 1, none⟩ u1).cell? ⟨w.heap.size + 1, 4, none⟩ = some (.int .i64 m) ∧ ((V.setCell ⟨w.heap.size + 1 + 1, 0, none⟩ u0).setCell ⟨w.heap.size + 1 + 1, 1, none⟩ u1).cell? ⟨w.heap.size + 1, 5, none⟩ = some (.slice da dl dc))) ∧ (∀ u0 u1 v0 v1 v2 v3, (((((((V.setCell ⟨w.heap.size + 1 + 1, 0, none⟩ u0).setCell ⟨w.heap.size + 1 + 1, 1, none⟩ u1).setCell ⟨w.heap.size + 1 + 1 + 1, 0, none⟩ v0).setCell ⟨w.heap.size + 1 + 1 + 1, 1, none⟩ v1).setCell ⟨w.heap.size + 1 + 1 + 1, 2, none⟩ v2).setCell ⟨w.heap.size + 1 + 1 + 1, 3, none⟩ v3).cell? ⟨w.heap.size, 0, none⟩ = some (.slice a n c) ∧ ((((((V.setCell ⟨w.heap.size + 1 + 1, 0, none⟩ u0).setCell ⟨w.heap.size + 1 + 1, 1, none⟩ u1).setCell ⟨w.heap.size + 1 + 1 + 1, 0, none⟩ v0).setCell ⟨w.heap.size + 1 + 1 + 1, 1, none⟩ v1).setCell ⟨w.heap.size + 1 + 1 + 1, 2, none⟩ v2).setCell ⟨w.heap.size + 1 + 1 + 1, 3, none⟩ v3).cell? ⟨w.heap.size, 1, none⟩ = some (.int .i64 nx) ∧ ((((((V.setCell ⟨w.heap.size + 1 + 1, 0, none⟩ u0).setCell ⟨w.heap.size + 1 + 1, 1, none⟩ u1).setCell ⟨w.heap.size + 1 + 1 + 1, 0, none⟩ v0).setCell ⟨w.heap.size + 1 + 1 + 1, 1, none⟩ v1).setCell ⟨w.heap.size + 1 + 1 + 1, 2, none⟩ v2).setCell ⟨w.heap.size + 1 + 1 + 1, 3, none⟩ v3).cell? ⟨w.heap.size + 1, 0, none⟩ = some (.int .i64 9) ∧ ((((((V.setCell ⟨w.heap.size + 1 + 1, 0, none⟩ u0).setCell ⟨w.heap.size + 1 + 1, 1, none⟩ u1).setCell ⟨w.heap.size + 1 + 1 + 1, 0, none⟩ v0).setCell ⟨w.heap.size + 1 + 1 + 1, 1, none⟩ v1).setCell ⟨w.heap.size + 1 + 1 + 1, 2, none⟩ v2).setCell ⟨w.heap.size + 1 + 1 + 1, 3, none⟩ v3).cell? ⟨w.heap.size + 1, 1, none⟩ = some (.string p) ∧ ((((((V.setCell ⟨w.heap.size + 1 + 1, 0, none⟩ u0).setCell ⟨w.heap.size + 1 + 1, 1, none⟩ u1).setCell ⟨w.heap.size + 1 + 1 + 1, 0, none⟩ v0).setCell ⟨w.heap.size + 1 + 1 + 1, 1, none⟩ v1).setCell ⟨w.heap.size + 1 + 1 + 1, 2, none⟩ v2).setCell ⟨w.heap.size + 1 + 1 + 1, 3, none⟩ v3).cell? ⟨w.heap.size + 1, 2, none⟩ = some (.string t) ∧ ((((((V.setCell ⟨w.heap.size + 1 + 1, 0, none⟩ u0).setCell ⟨w.heap.size + 1 + 1, 1, none⟩ u1).setCell ⟨w.heap.size + 1 + 1 + 1, 0, none⟩ v0).setCell ⟨w.heap.size + 1 + 1 + 1, 1, none⟩ v1).setCell ⟨w.heap.size + 1 + 1 + 1, 2, none⟩ v2).setCell ⟨w.heap.size + 1 + 1 + 1, 3, none⟩ v3).cell? ⟨w.heap.size + 1, 3, none⟩ = some (.int .i64 off) ∧ ((((((V.setCell ⟨w.heap.size + 1 + 1, 0, none⟩ u0).setCell ⟨w.heap.size + 1 + 1, 1, none⟩ u1).setCell ⟨w.heap.size + 1 + 1 + 1, 0, none⟩ v0).setCell ⟨w.heap.size + 1 + 1 + 1, 1, none⟩ v1).setCell ⟨w.heap.size + 1 + 1 + 1, 2, none⟩ v2).setCell ⟨w.heap.size + 1 + 1 + 1, 3, none⟩ v3).cell? ⟨w.heap.size + 1, 4, none⟩ = some (.int .i64 m) ∧ ((((((V.setCell ⟨w.heap.size + 1 + 1, 0, none⟩ u0).setCell ⟨w.heap.size + 1 + 1, 1, none⟩ u1).setCell ⟨w.heap.size + 1 + 1 + 1, 0, none⟩ v0).setCell ⟨w.heap.size + 1 + 1 + 1, 1, none⟩ v1).setCell ⟨w.heap.size + 1 + 1 + 1, 2, none⟩ v2).setCell ⟨w.heap.size + 1 + 1 + 1, 3, none⟩ v3).cell? ⟨w.heap.size + 1, 5, none⟩ = some (.slice da dl dc)))) := fun V hV => by (
 have h1 := HX.out.2.1.below hV HX.out.2.1.lt
 have h2 := HX.out.2.2.1.below hV HX.out.2.2.1.lt
 refine ⟨HSB.out V h1 h2, fun u0 u1 => HSB.out _ ((h1.other (by omega)).other (by omega)) ((h2.other (by omega)).other (by omega)), fun u0 u1 v0 v1 v2 v3 => HSB.out _ ((((((h1.other (by omega)).other (by omega)).other (by omega)).other (by omega)).other (by omega)).other (by omega)) ((((((h2.other (by omega)).other (by omega)).other (by omega)).other (by omega)).other (by omega)).other (by omega))⟩)
   have HC3 : Hid (Calls Tryz.prog 117 #[.agg #[.slice a n c, .int .i64 nx], .agg #[.int .i64 9, .string p, .string t, .int .i64 off, .int .i64 m, .slice da dl dc]] w6.drew (LkP (lkT 9 l nx p off m) w6)) := by (
 have hbd : Below w.heap.size w w6.drew := H6w.out.drew
 refine (look9_any (nx := nx) (t := t) (dl := dl) (dc := dc) (da := da) HI.out.1 HI.out.2.1 HI.out.2.2.2.1 HI.out.2.2.2.2.1 (HI.out.2.2.2.2.2.2 w6.drew hbd).2.1 (HI.out.2.2.2.2.2.2 w6.drew hbd).2.2).mono fun e w' h => ?_
 exact ⟨h.1, ((Below.refl _ w6).drew).trans h.2⟩)
   clear hk9 hkr
   go_wp2_with fail
   refine HCh.mono ?_
   rintro e w7 ⟨rfl, rfl⟩
   clear HCh yk
   go_upto_region 8 with fail
   have HS0 := (HS.out w6.drew H6.out.drew).1
   go_region_held3 (fun U => U.cell? ⟨w.heap.size, 0, none⟩ = some (.slice a n c) ∧ U.cell? ⟨w.heap.size, 1, none⟩ = some (.int .i64 nx) ∧ U.cell? ⟨w.heap.size + 1, 0, none⟩ = some (.int .i64 9) ∧ U.cell? ⟨w.heap.size + 1, 1, none⟩ = some (.string p) ∧ U.cell? ⟨w.heap.size + 1, 2, none⟩ = some (.string t) ∧ U.cell? ⟨w.heap.size + 1, 3, none⟩ = some (.int .i64 off) ∧ U.cell? ⟨w.heap.size + 1, 4, none⟩ = some (.int .i64 m) ∧ U.cell? ⟨w.heap.size + 1, 5, none⟩ = some (.slice da dl dc))
     (first | with_reducible exact HS1.1 | with_reducible exact HS1.2.1 _ _ | with_reducible exact HS1.2.2 _ _ _ _ _ _ | with_reducible exact HS0)
     ((first | (go_at_call 117; refine HC3.out.mono ?_; rintro e w8 ⟨⟨rv, ⟨k3, z3, D3, O3⟩, rfl, ⟨X3, Y3, rfl, hX3, hY3⟩, hT3⟩, hb8⟩; have HS1 := HS.out w8 (below_any H6.out hb8); simp only at hX3 hY3 hT3 ⊢; obtain ⟨xx, xc, rfl, -⟩ := hX3.shape; obtain ⟨yy, yc, rfl, -⟩ := hY3.shape; obtain ⟨d0, d1, e0, e1⟩ := (HX.out.2.2.2.1.below (below_any H6.out hb8) HX.out.2.2.2.1.lt).two; obtain ⟨f0, f1, f2, f3, g0, g1, g2, g3⟩ := box_four (HX.out.2.2.2.2.below (below_any H6.out hb8) HX.out.2.2.2.2.lt))))
   have hlt6 : w.heap.size + 1 + 1 + 1 < w6.heap.size := Nat.lt_of_lt_of_le HX.out.2.2.2.2.lt H6.out.size
   have hsz6 := H6w.out.size
   have h8w : Below w.heap.size w w8 := H6w.out.trans (hb8.mono H6w.out.size)
   have HP : Hid (∀ u0 u1 v0 v1 v2 v3 V, V = .tuple #[.agg #[.slice a n c, .int .i64 nx], .agg #[.int .i64 k3, .int .i64 z3, .slice xx D3.length xc, .slice yy O3.length yc], .int .i64 0] → post (.returned V) ((((((w8.setCell ⟨w.heap.size + 1 + 1, 0, none⟩ u0).setCell ⟨w.heap.size + 1 + 1, 1, none⟩ u1).setCell ⟨w.heap.size + 1 + 1 + 1, 0, none⟩ v0).setCell ⟨w.heap.size + 1 + 1 + 1, 1, none⟩ v1).setCell ⟨w.heap.size + 1 + 1 + 1, 2, none⟩ v2).setCell ⟨w.heap.size + 1 + 1 + 1, 3, none⟩ v3)) := fun u0 u1 v0 v1 v2 v3 V hV => by (
 rw [hV]
 have hbw : Below w.heap.size w w8 := h8w
 exact HPo.out _ _ _ _ l _ (k3, z3, D3, O3) _ _ HI.out.1 (ndsN.weaken (HI.out.2.2.2.2.2.2 _ (fin_below h8w (by omega) (by omega) _ _ _ _ _ _)).2.1 (Nat.zero_le _)) (RpL.weaken (n := w6.heap.size) (RpL.keep ⟨_, _, rfl, hX3, hY3⟩ (fin_same (by omega) hlt6 _ _ _ _ _ _)) hsz6) (.inr (.inr (.inr ⟨HOK.out, HOE0.out, rfl, HK.out, rfl, hT3⟩))) (fin_below hbw (by omega) (by omega) _ _ _ _ _ _))
   clear hb8 h8w hX3 hY3 hT3 hlt6 hsz6 HS0 HS1
   go_wp2
   refine bodyPost_ret (v := .tuple #[.agg #[.slice a n c, .int .i64 nx], .agg #[.int .i64 k3, .int .i64 z3, .slice xx D3.length xc, .slice yy O3.length yc], .int .i64 0]) (by simp [results, Tryz.results61, go_sem, *]) rfl (HP.out _ _ _ _ _ _ _ rfl)
end Go.Proofs.YtopcefhncildnaaGreatDoor.K
namespace Go.Proofs.YtopcefhncildnaaGreatDoor.K
open Go.RowKit
open P (serr sval ArgT OwnT)
theorem chT_ok {k : Int} {l : List Nd} {nx : Int} {p t : ByteArray} {off : Int} {d : List Int} {s2 : St} (hk : 1 ≤ k ∧ k < 9) (h : chT k l nx p t off d 0 s2) : Ok s2 := by
 obtain ⟨h1, h2, h3, h4, h5, h6, h7, h8⟩ := h
 rcases (by omega : k = 1 ∨ k = 2 ∨ k = 3 ∨ k = 4 ∨ k = 5 ∨ k = 6 ∨ k = 7 ∨ k = 8) with e | e | e | e | e | e | e | e
 · obtain ⟨ho, hps, hK, rfl⟩ := (h1 e).ok
   exact mk_ok ho (sval_ok (psE_zero hps p (by simp))).1 hK false
 · obtain ⟨ho, hps, hK, rfl⟩ := (h2 e).ok
   exact mk_ok ho (sval_ok (psE_zero hps p (by simp))).1 hK true
 · obtain ⟨ho, hps, hK, rfl⟩ := (h3 e).ok
   exact unlink_ok ho hK
 · obtain ⟨ho, hps, hK, rfl⟩ := (h4 e).ok
   exact rmdir_ok ho hK
 · obtain ⟨ho, hps, hK, rfl⟩ := (h5 e).ok
   exact rename_ok ho (sval_ok (psE_zero hps t (by simp))).1 hK
 · obtain ⟨ho, hps, hK, rfl⟩ := (h6 e).ok
   exact link_ok ho (sval_ok (psE_zero hps t (by simp))).1 hK
 · obtain ⟨ho, hps, hK, rfl⟩ := (h7 e).ok
   exact write_ok ho hK
 · obtain ⟨ho, hps, hK, rfl⟩ := (h8 e).ok
   exact trunc_ok ho hK
theorem small_nil : Small [] := ⟨by simp, fun _ h => by cases h⟩
theorem ApT.small {l : List Nd} {nx k : Int} {p t : ByteArray} {off m : Int} {d : List Int} {s' : St} {r : Rp} {e : Int} (h : ApT l nx k p t off m d s' r e) : Small s'.1 := by
 rcases h with ⟨_, _, rfl, _⟩ | ⟨_, _, _, rfl, _⟩ | ⟨ho, hE, _, hk, e2, s2, hc, ⟨_, rfl, _⟩ | ⟨rfl, rfl, _⟩⟩ | ⟨ho, _, _, _, rfl, _⟩
 · exact small_nil
 · exact small_nil
 · exact Wk.small ho.wk
 · exact Wk.small (chT_ok ⟨(opE_zero hE).1, hk⟩ hc).wk
 · exact Wk.small ho.wk
def ApP (l : List Nd) (nx k : Int) (p t : ByteArray) (off m : Int) (d : List Int) (w : World) (e : Ending) (w' : World) : Prop :=
 (∃ (a3 : Option Addr) (n3 c3 : Nat) (x3 : Int) (l3 : List Nd) (k3 z3 : Int) (xx yy : Option Addr) (xc yc : Nat) (D3 : List Int) (O3 : List ByteArray) (e3 : Int), e = .returned (.tuple #[.agg #[.slice a3 n3 c3, .int .i64 x3], .agg #[.int .i64 k3, .int .i64 z3, .slice xx D3.length xc, .slice yy O3.length yc], .int .i64 e3]) ∧ n3 = l3.length ∧ ndsN.owns w.heap.size w' [.slice a3 n3 c3] l3 ∧ Arg w.heap.size w' (.slice xx D3.length xc) D3 ∧ ArgT w.heap.size w' (.slice yy O3.length yc) O3 ∧ ApT l nx k p t off m d (l3, x3) (k3, z3, D3, O3) e3) ∧ Below w.heap.size w w'
end Go.Proofs.YtopcefhncildnaaGreatDoor.K
namespace Go.Proofs.YtopcefhncildnaaGreatDoor.K
open Go.RowKit
open P (serr sval ArgT OwnT)
set_option linter.unusedVariables false
theorem small9 {l : List Nd} {nx : Int} {p t : ByteArray} {off m : Int} {d : List Int} {s' : St} {r : Rp} {e : Int} (h : ApT l nx 9 p t off m d s' r e) : Small s'.1 := by
 rcases h with ⟨_, _, rfl, _⟩ | ⟨_, _, _, rfl, _⟩ | ⟨_, _, _, hk, _⟩ | ⟨ho, _, _, _, rfl, _⟩
 · exact small_nil
 · exact small_nil
 · exact absurd hk (by decide)
 · exact Wk.small ho.wk
theorem apply9_any {n0 n1 : Nat} {a : Option Addr} {c n : Nat} {l : List Nd} {nx : Int} (hn : n = l.length) {p t : ByteArray} (hp : p.size ≤ maxLen) (ht : t.size ≤ maxLen) {off m : Int} (ho : I64 off) (hm : I64 m) {da : Option Addr} {dl dc : Nat} {d : List Int} (hd : dl = d.length) {w : World} (hD : Arg n1 w (.slice da dl dc) d) (hA : ndsN.lies n0 w [.slice a n c] l) (hg : Glob w) :
   Calls Tryz.prog 20 #[.agg #[.slice a n c, .int .i64 nx], .agg #[.int .i64 9, .string p, .string t, .int .i64 off, .int .i64 m, .slice da dl dc]] w (ApP l nx 9 p t off m d w) := by
 obtain ⟨W1, hW1⟩ := exa (w.alloc (.cells #[.slice a n c, .int .i64 nx] 29))
 obtain ⟨W2, hW2⟩ := exa (W1.alloc (.cells #[.int .i64 9, .string p, .string t, .int .i64 off, .int .i64 m, .slice da dl dc] 56))
 obtain ⟨W3, hW3⟩ := exa (W2.alloc (.cells #[.slice none 0 0, .int .i64 0] 29))
 obtain ⟨W4, hW4⟩ := exa (W3.alloc (.cells #[.int .i64 0, .int .i64 0, .slice none 0 0, .slice none 0 0] 59))
 have hb1 : Below w.heap.size w W1 := by rw [hW1]; exact (Below.refl _ w).alloc (Nat.le_refl _) _
 have hb2 : Below w.heap.size w W2 := by rw [hW2]; exact hb1.alloc hb1.size _
 have hb3 : Below w.heap.size w W3 := by rw [hW3]; exact hb2.alloc hb2.size _
 have hb4 : Below w.heap.size w W4 := by rw [hW4]; exact hb3.alloc hb3.size _
 have hs1 : W1.heap.size = w.heap.size + 1 := by rw [hW1]; exact Array.size_push _
 have hs2 : W2.heap.size = w.heap.size + 1 + 1 := by rw [hW2, ← hs1]; exact Array.size_push _
 have hs3 : W3.heap.size = w.heap.size + 1 + 1 + 1 := by rw [hW3, ← hs2]; exact Array.size_push _
 have hX1 : Box W4 w.heap.size 29 #[.slice a n c, .int .i64 nx] := by
   have : Box W1 w.heap.size 29 #[.slice a n c, .int .i64 nx] := by rw [hW1]; exact Box.new _ _ _
   rw [hW4, hW3, hW2]; exact ((this.alloc _).alloc _).alloc _
 have hX2 : Box W4 (w.heap.size + 1) 56 #[.int .i64 9, .string p, .string t, .int .i64 off, .int .i64 m, .slice da dl dc] := by rw [hW4, hW3, hW2, ← hs1]; exact ((Box.new _ _ _).alloc _).alloc _
 have hX3 : Box W4 (w.heap.size + 1 + 1) 29 #[.slice none 0 0, .int .i64 0] := by rw [hW4, hW3, ← hs2]; exact (Box.new _ _ _).alloc _
 have hX4 : Box W4 (w.heap.size + 1 + 1 + 1) 59 #[.int .i64 0, .int .i64 0, .slice none 0 0, .slice none 0 0] := by rw [hW4, ← hs3]; exact Box.new _ _ _
 have HX : Hid (Below w.heap.size w W4 ∧ Box W4 (w.heap.size + 1 + 1) 29 #[.slice none 0 0, .int .i64 0] ∧ Box W4 (w.heap.size + 1 + 1 + 1) 59 #[.int .i64 0, .int .i64 0, .slice none 0 0, .slice none 0 0]) := ⟨hb4, hX3, hX4⟩
 have HC := step9_any (nx := nx) hn hp ht ho hm hd (hD.below hb4) (ndsN.below hA hb4) (hg.below hb4 hg.lt)
 obtain ⟨x0, x1, -, -⟩ := hX1.two
 have y0 := hX2.cell 0 rfl
 have y1 := hX2.cell 1 rfl
 have y2 := hX2.cell 2 rfl
 have y3 := hX2.cell 3 rfl
 have y4 := hX2.cell 4 rfl
 have y5 := hX2.cell 5 rfl
 rw [hW4, hW3, hW2, hW1] at x0 x1 y0 y1 y2 y3 y4 y5
 obtain ⟨post, hpost⟩ : ∃ post : Ending → World → Prop, post = ApP l nx 9 p t off m d w := ⟨_, rfl⟩
 have HPo : Hid (∀ (a3 : Option Addr) (n3 c3 : Nat) (x3 : Int) (l3 : List Nd) (k3 z3 : Int) (xx yy : Option Addr) (xc yc : Nat) (D3 : List Int) (O3 : List ByteArray) (e3 : Int) w', n3 = l3.length → ndsN.owns w.heap.size w' [.slice a3 n3 c3] l3 → Arg w.heap.size w' (.slice xx D3.length xc) D3 → ArgT w.heap.size w' (.slice yy O3.length yc) O3 → ApT l nx 9 p t off m d (l3, x3) (k3, z3, D3, O3) e3 → Below w.heap.size w w' → post (.returned (.tuple #[.agg #[.slice a3 n3 c3, .int .i64 x3], .agg #[.int .i64 k3, .int .i64 z3, .slice xx D3.length xc, .slice yy O3.length yc], .int .i64 e3])) w') := fun a3 n3 c3 x3 l3 k3 z3 xx yy xc yc D3 O3 e3 w' h1 h2 h3 h4 h5 h6 => by rw [hpost]; exact ⟨⟨a3, n3, c3, x3, l3, k3, z3, xx, yy, xc, yc, D3, O3, e3, rfl, h1, h2, h3, h4, h5⟩, h6⟩
 rw [← hpost]
 clear hpost hb1 hb2 hb3 hb4 hs1 hs2 hs3 hX1 hX2 hX3 hX4 hA hg hn hp ht ho hm hd hD
 go_enter Tryz.func20, Tryz.ntmps20
 go_wp2_with fail
 rw [← hW1, ← hW2, ← hW3, ← hW4]
 clear hW1 hW2 hW3 hW4 x0 x1 y0 y1 y2 y3 y4 y5
 refine HC.mono ?_
 rintro e w5 ⟨⟨a3, n3, c3, x3, l3, rv, ⟨k3, z3, D3, O3⟩, e3, rfl, hn3, hl3, ⟨X3, Y3, rfl, hX3, hY3⟩, hT3⟩, hb5⟩
 simp only at hX3 hY3 ⊢
 obtain ⟨xx, xc, rfl, -⟩ := hX3.shape
 obtain ⟨yy, yc, rfl, -⟩ := hY3.shape
 obtain ⟨V, hV⟩ := exa ((w5.alloc (.cells #[.slice a3 n3 c3, .int .i64 x3] 29)).alloc (.cells #[.int .i64 k3, .int .i64 z3, .slice xx D3.length xc, .slice yy O3.length yc] 59))
 have hbV : Below w5.heap.size w5 V := by rw [hV]; exact ((Below.refl _ w5).alloc (Nat.le_refl _) _).alloc (by simp) _
 have hV1 : Box V w5.heap.size 29 #[.slice a3 n3 c3, .int .i64 x3] := by rw [hV]; exact (Box.new _ _ _).alloc _
 have hV2 : Box V (w5.heap.size + 1) 59 #[.int .i64 k3, .int .i64 z3, .slice xx D3.length xc, .slice yy O3.length yc] := by (
 rw [hV]
 have := Box.new (w5.alloc (.cells #[.slice a3 n3 c3, .int .i64 x3] 29)) 59 #[.int .i64 k3, .int .i64 z3, .slice xx D3.length xc, .slice yy O3.length yc]
 rwa [World.size_alloc] at this)
 have HV : Hid (Below W4.heap.size W4 V ∧ Below w.heap.size w V ∧ Box V w5.heap.size 29 #[.slice a3 n3 c3, .int .i64 x3] ∧ Box V (w5.heap.size + 1) 59 #[.int .i64 k3, .int .i64 z3, .slice xx D3.length xc, .slice yy O3.length yc] ∧ n3 = l3.length ∧ ndsN.lies 0 V [.slice a3 n3 c3] l3 ∧ Arg W4.heap.size V (.slice xx D3.length xc) D3 ∧ ArgT W4.heap.size V (.slice yy O3.length yc) O3 ∧ ApT l nx 9 p t off m d (l3, x3) (k3, z3, D3, O3) e3) := ⟨below_any hb5 hbV, HX.out.1.trans ((below_any hb5 hbV).mono HX.out.1.size), hV1, hV2, hn3, ndsN.below hl3 hbV, hX3.below hbV, hY3.below hbV, hT3⟩
 have HW5 := Nat.lt_of_lt_of_le HX.out.2.2.lt hb5.size
 clear HC hb5 hbV hV1 hV2 hn3 hl3 hX3 hY3 hT3
 have HSB : Hid (∀ U, Box U w5.heap.size 29 #[.slice a3 n3 c3, .int .i64 x3] → Box U (w5.heap.size + 1) 59 #[.int .i64 k3, .int .i64 z3, .slice xx D3.length xc, .slice yy O3.length yc] → (U.cell? ⟨w5.heap.size, 0, none⟩ = some (.slice a3 n3 c3) ∧ U.cell? ⟨w5.heap.size, 1, none⟩ = some (.int .i64 x3) ∧ U.cell? ⟨w5.heap.size + 1, 0, none⟩ = some (.int .i64 k3) ∧ U.cell? ⟨w5.heap.size + 1, 1, none⟩ = some (.int .i64 z3) ∧ U.cell? ⟨w5.heap.size + 1, 2, none⟩ = some (.slice xx D3.length xc) ∧ U.cell? ⟨w5.heap.size + 1, 3, none⟩ = some (.slice yy O3.length yc))) := fun U h1 h2 => ⟨h1.cell 0 rfl, h1.cell 1 rfl, h2.cell 0 rfl, h2.cell 1 rfl, h2.cell 2 rfl, h2.cell 3 rfl⟩
 have hw5 : w.heap.size + 1 + 1 + 1 < w5.heap.size := HW5
 have HS : Hid (∀ U, Below V.heap.size V U → (U.cell? ⟨w5.heap.size, 0, none⟩ = some (.slice a3 n3 c3) ∧ U.cell? ⟨w5.heap.size, 1, none⟩ = some (.int .i64 x3) ∧ U.cell? ⟨w5.heap.size + 1, 0, none⟩ = some (.int .i64 k3) ∧ U.cell? ⟨w5.heap.size + 1, 1, none⟩ = some (.int .i64 z3) ∧ U.cell? ⟨w5.heap.size + 1, 2, none⟩ = some (.slice xx D3.length xc) ∧ U.cell? ⟨w5.heap.size + 1, 3, none⟩ = some (.slice yy O3.length yc)) ∧ (∀ u0 u1, (((U.setCell ⟨w.heap.size + 1 + 1, 0, none⟩ u0).setCell ⟨w.heap.size + 1 + 1, 1, none⟩ u1).cell? ⟨w5.heap.size, 0, none⟩ = some (.slice a3 n3 c3) ∧ ((U.setCell ⟨w.heap.size + 1 + 1, 0, none⟩ u0).setCell ⟨w.heap.size + 1 + 1, 1, none⟩ u1).cell? ⟨w5.heap.size, 1, none⟩ = some (.int .i64 x3) ∧ ((U.setCell ⟨w.heap.size + 1 + 1, 0, none⟩ u0).setCell ⟨w.heap.size + 1 + 1, 1, none⟩ u1).cell? ⟨w5.heap.size + 1, 0, none⟩ = some (.int .i64 k3) ∧ ((U.setCell ⟨w.heap.size + 1 + 1, 0, none⟩ u0).setCell ⟨w.heap.size + 1 + 1, 1, none⟩ u1).cell? ⟨w5.heap.size + 1, 1, none⟩ = some (.int .i64 z3) ∧ ((U.setCell ⟨w.heap.size + 1 + 1, 0, none⟩ u0).setCell ⟨w.heap.size + 1 + 1, 1, none⟩ u1).cell? ⟨w5.heap.size + 1, 2, none⟩ = some (.slice xx D3.length xc) ∧ ((U.setCell ⟨w.heap.size + 1 + 1, 0, none⟩ u0).setCell ⟨w.heap.size + 1 + 1, 1, none⟩ u1).cell? ⟨w5.heap.size + 1, 3, none⟩ = some (.slice yy O3.length yc))) ∧ (∀ u0 u1 v0 v1 v2 v3, (((((((U.setCell ⟨w.heap.size + 1 + 1, 0, none⟩ u0).setCell ⟨w.heap.size + 1 + 1, 1, none⟩ u1).setCell ⟨w.heap.size + 1 + 1 + 1, 0, none⟩ v0).setCell ⟨w.heap.size + 1 + 1 + 1, 1, none⟩ v1).setCell ⟨w.heap.size + 1 + 1 + 1, 2, none⟩ v2).setCell ⟨w.heap.size + 1 + 1 + 1, 3, none⟩ v3).cell? ⟨w5.heap.size, 0, none⟩ = some (.slice a3 n3 c3) ∧ ((((((U.setCell ⟨w.heap.size + 1 + 1, 0, none⟩ u0).setCell ⟨w.heap.size + 1 + 1, 1, none⟩ u1).setCell ⟨w.heap.size + 1 + 1 + 1, 0, none⟩ v0).setCell ⟨w.heap.size + 1 + 1 + 1, 1, none⟩ v1).setCell ⟨w.heap.size + 1 + 1 + 1, 2, none⟩ v2).setCell ⟨w.heap.size + 1 + 1 + 1, 3, none⟩ v3).cell? ⟨w5.heap.size, 1, none⟩ = some (.int .i64 x3) ∧ ((((((U.setCell ⟨w.heap.size + 1 + 1, 0, none⟩ u0).setCell ⟨w.heap.size + 1 + 1, 1, none⟩ u1).setCell ⟨w.heap.size + 1 + 1 + 1, 0, none⟩ v0).setCell ⟨w.heap.size + 1 + 1 + 1, 1, none⟩ v1).setCell ⟨w.heap.size + 1 + 1 + 1, 2, none⟩ v2).setCell ⟨w.heap.size + 1 + 1 + 1, 3, none⟩ v3).cell? ⟨w5.heap.size + 1, 0, none⟩ = some (.int .i64 k3) ∧ ((((((U.setCell ⟨w.heap.size + 1 + 1, 0, none⟩ u0).setCell ⟨w.heap.size + 1 + 1, 1, none⟩ u1).setCell ⟨w.heap.size + 1 + 1 + 1, 0, none⟩ v0).setCell ⟨w.heap.size + 1 + 1 + 1, 1, none⟩ v1).setCell ⟨w.heap.size + 1 + 1 + 1, 2, none⟩ v2).setCell ⟨w.heap.size + 1 + 1 + 1, 3, none⟩ v3).cell? ⟨w5.heap.size + 1, 1, none⟩ = some (.int .i64 z3) ∧ ((((((U.setCell ⟨w.heap.size + 1 + 1, 0, none⟩ u0).setCell ⟨w.heap.size + 1 + 1, 1, none⟩ u1).setCell ⟨w.heap.size + 1 + 1 + 1, 0, none⟩ v0).setCell ⟨w.heap.size + 1 + 1 + 1, 1, none⟩ v1).setCell ⟨w.heap.size + 1 + 1 + 1, 2, none⟩ v2).setCell ⟨w.heap.size + 1 + 1 + 1, 3, none⟩ v3).cell? ⟨w5.heap.size + 1, 2, none⟩ = some (.slice xx D3.length xc) ∧ ((((((U.setCell ⟨w.heap.size + 1 + 1, 0, none⟩ u0).setCell ⟨w.heap.size + 1 + 1, 1, none⟩ u1).setCell ⟨w.heap.size + 1 + 1 + 1, 0, none⟩ v0).setCell ⟨w.heap.size + 1 + 1 + 1, 1, none⟩ v1).setCell ⟨w.heap.size + 1 + 1 + 1, 2, none⟩ v2).setCell ⟨w.heap.size + 1 + 1 + 1, 3, none⟩ v3).cell? ⟨w5.heap.size + 1, 3, none⟩ = some (.slice yy O3.length yc)))) := fun U hU => by (
 have h1 := HV.out.2.2.1.below hU HV.out.2.2.1.lt
 have h2 := HV.out.2.2.2.1.below hU HV.out.2.2.2.1.lt
 refine ⟨HSB.out U h1 h2, fun u0 u1 => HSB.out _ ((h1.other (by omega)).other (by omega)) ((h2.other (by omega)).other (by omega)), fun u0 u1 v0 v1 v2 v3 => HSB.out _ ((((((h1.other (by omega)).other (by omega)).other (by omega)).other (by omega)).other (by omega)).other (by omega)) ((((((h2.other (by omega)).other (by omega)).other (by omega)).other (by omega)).other (by omega)).other (by omega))⟩)
 have HCC : Hid (∀ U, Below V.heap.size V U → Calls Tryz.prog 62 #[.agg #[.slice a3 n3 c3, .int .i64 x3]] U fun e w' => (∃ a4 c4, e = .returned (.agg #[.slice a4 n3 c4, .int .i64 x3]) ∧ ndsN.owns U.heap.size w' [.slice a4 n3 c4] l3) ∧ Below U.heap.size U w') := fun U hU => by (
 have h1 := copied_any 0 a3 c3 (l3, x3) U (by rw [← HV.out.2.2.2.2.1]; exact ndsN.below HV.out.2.2.2.2.2.1 hU) (small9 HV.out.2.2.2.2.2.2.2.2)
 simp only at h1
 rw [← HV.out.2.2.2.2.1] at h1
 refine h1.mono fun e w' h => ⟨?_, h.2⟩
 obtain ⟨v', he, hO⟩ := h.1
 obtain ⟨a4, c4, rfl⟩ := nds_shape (ndsN.olies hO)
 rw [← HV.out.2.2.2.2.1] at he
 exact ⟨a4, c4, he, by rw [HV.out.2.2.2.2.1]; exact hO⟩)
 go_upto_region 2 with fail
 rw [← hV]
 clear hV
 have HS0 := (HS.out V.drew (Below.refl _ V).drew).1
 have HC2 := HCC.out V.drew (Below.refl _ V).drew
 go_region_held3 (fun U => U.cell? ⟨w5.heap.size, 0, none⟩ = some (.slice a3 n3 c3) ∧ U.cell? ⟨w5.heap.size, 1, none⟩ = some (.int .i64 x3) ∧ U.cell? ⟨w5.heap.size + 1, 0, none⟩ = some (.int .i64 k3) ∧ U.cell? ⟨w5.heap.size + 1, 1, none⟩ = some (.int .i64 z3) ∧ U.cell? ⟨w5.heap.size + 1, 2, none⟩ = some (.slice xx D3.length xc) ∧ U.cell? ⟨w5.heap.size + 1, 3, none⟩ = some (.slice yy O3.length yc))
   (first | with_reducible exact HS1.1 | with_reducible exact HS1.2.1 _ _ | with_reducible exact HS1.2.2 _ _ _ _ _ _ | with_reducible exact HS0)
   ((first | (go_at_call 62; refine HC2.mono ?_; rintro e w8 ⟨⟨a4, c4, rfl, hl4⟩, hb8⟩; have HS1 := HS.out w8 (((Below.refl V.heap.size V).drew).trans hb8); have hb84 : Below W4.heap.size W4 w8 := below_any HV.out.1 (((Below.refl V.heap.size V).drew).trans hb8); obtain ⟨d0, d1, e0, e1⟩ := (HX.out.2.1.below hb84 HX.out.2.1.lt).two; obtain ⟨f0, f1, f2, f3, g0, g1, g2, g3⟩ := box_four (HX.out.2.2.below hb84 HX.out.2.2.lt))))
 have hb8w : Below w.heap.size w w8 := HX.out.1.trans (hb84.mono HX.out.1.size)
 have hVw : W4.heap.size ≤ V.heap.size := HV.out.1.size
 have hx8 := HV.out.2.2.2.2.2.2.1.below (((Below.refl V.heap.size V).drew).trans hb8)
 have hy8 := HV.out.2.2.2.2.2.2.2.1.below (((Below.refl V.heap.size V).drew).trans hb8)
 have hl4' : ndsN.owns V.heap.size w8 [.slice a4 n3 c4] l3 := hl4
 have hw4 : w.heap.size + 1 + 1 + 1 < W4.heap.size := HX.out.2.2.lt
 have HP : Hid (∀ u0 u1 v0 v1 v2 v3 U, U = .tuple #[.agg #[.slice a4 n3 c4, .int .i64 x3], .agg #[.int .i64 k3, .int .i64 z3, .slice xx D3.length xc, .slice yy O3.length yc], .int .i64 e3] → post (.returned U) ((((((w8.setCell ⟨w.heap.size + 1 + 1, 0, none⟩ u0).setCell ⟨w.heap.size + 1 + 1, 1, none⟩ u1).setCell ⟨w.heap.size + 1 + 1 + 1, 0, none⟩ v0).setCell ⟨w.heap.size + 1 + 1 + 1, 1, none⟩ v1).setCell ⟨w.heap.size + 1 + 1 + 1, 2, none⟩ v2).setCell ⟨w.heap.size + 1 + 1 + 1, 3, none⟩ v3)) := fun u0 u1 v0 v1 v2 v3 U hU => by (
 rw [hU]
 have hsm : Same W4.heap.size w8 ((((((w8.setCell ⟨w.heap.size + 1 + 1, 0, none⟩ u0).setCell ⟨w.heap.size + 1 + 1, 1, none⟩ u1).setCell ⟨w.heap.size + 1 + 1 + 1, 0, none⟩ v0).setCell ⟨w.heap.size + 1 + 1 + 1, 1, none⟩ v1).setCell ⟨w.heap.size + 1 + 1 + 1, 2, none⟩ v2).setCell ⟨w.heap.size + 1 + 1 + 1, 3, none⟩ v3) := fin_same (by omega) hw4 _ _ _ _ _ _
 have hm := HX.out.1.size
 exact HPo.out _ _ _ _ l3 _ _ _ _ _ _ D3 O3 _ _ HV.out.2.2.2.2.1 (ndsN.oweaken (ndsN.osame (ndsN.oweaken hl4' hVw) hsm) hm) ((hx8.keep hsm).weaken hm) ((hy8.keep hsm).weaken hm) HV.out.2.2.2.2.2.2.2.2 (fin_below hb8w (by omega) (by omega) _ _ _ _ _ _))
 clear hb8 hb84 hb8w hVw hx8 hy8 hl4 hl4' hw4 hw5 HW5 HS0 HS1 HC2
 go_wp2
 refine bodyPost_ret (v := .tuple #[.agg #[.slice a4 n3 c4, .int .i64 x3], .agg #[.int .i64 k3, .int .i64 z3, .slice xx D3.length xc, .slice yy O3.length yc], .int .i64 e3]) (by simp [results, Tryz.results20, go_sem, *]) rfl (HP.out _ _ _ _ _ _ _ rfl)
end Go.Proofs.YtopcefhncildnaaGreatDoor.K
