/-
  Stores, the program's and the document's, as data; how they lie in memory.
-/
import Derived.Test.YtkpckadicjdieabSmall
namespace Go.Proofs.Ytkpckadicjdieab
open Go.RowKit

theorem Try.info4 : (Try.prog.info? 4).map (fun i => (i.zero, i.size, i.bytes)) = some (some (.bool false), 1, 1) := by kernel_rfl
theorem Try.info45 : (Try.prog.info? 45).map (fun i => (i.zero, i.size, i.bytes)) = some (some (.agg #[.int .i64 0, .slice none 0 0]), 2, 32) := by kernel_rfl
theorem Try.info36 : (Try.prog.info? 36).map (fun i => (i.zero, i.size, i.bytes)) = some (some (.agg #[.int .i64 0, .slice none 0 0]), 2, 32) := by kernel_rfl

def bL : Leaf Bool := boolL 4 Try.underlying4 (by kernel_rfl)
theorem cells23 : Try.prog.cellsOf 23 = 1 := by kernel_rfl
def boolsS : Shape (List Bool) := bL.row 23 Try.underlying23 cells23
theorem cells28 : Try.prog.cellsOf 28 = 1 := by kernel_rfl
def sgsN : Shape (List Sg) := sgN.list 28 Try.underlying28 cells28
theorem cells22 : Try.prog.cellsOf 22 = 1 := by kernel_rfl
def sgsR : Shape (List Sg) := sgR.list 22 Try.underlying22 cells22
/-- A store: its segments, what is held, what is open, the next number. -/
abbrev St := List Sg × List Bool × List Bk × Int
def stN : Shape St := (sgsN.and (boolsS.and (bksN.and i64S.only))).struct 31 ⟨_, Try.underlying31, rfl, rfl⟩ (by kernel_rfl)
def stR : Shape St := (sgsR.and (boolsS.and (bksR.and i64S.only))).struct 26 ⟨_, Try.underlying26, rfl, rfl⟩ (by kernel_rfl)

theorem st_viewN {n : Nat} {w : World} {us : List Value} {s : St} (h : stN.lies n w us s) : ∃ a c b d e f, us = [.slice a s.1.length c, .slice b s.2.1.length d, .slice e s.2.2.1.length f, .int .i64 s.2.2.2] ∧ sgsN.lies n w [.slice a s.1.length c] s.1 ∧ boolsS.lies n w [.slice b s.2.1.length d] s.2.1 ∧ bksN.lies n w [.slice e s.2.2.1.length f] s.2.2.1 ∧ I64 s.2.2.2 ∧ s.1.length ≤ maxLen ∧ s.2.1.length ≤ maxLen ∧ s.2.2.1.length ≤ maxLen := by
  obtain ⟨u1, r, rfl, h1, u2, r2, rfl, h2, u3, r3, rfl, h3, rfl, h4⟩ := h
  obtain ⟨a, c, rfl, _, m1, _⟩ := Shape.list_len (S := sgN) (ht := Try.underlying28) (hc := cells28) h1
  obtain ⟨b, d, rfl, _, m2, _⟩ := Leaf.row_len (L := bL) (ht := Try.underlying23) (hc := cells23) h2
  obtain ⟨e, f, rfl, _, m3, _⟩ := Shape.list_len (S := bkN) (ht := Try.underlying29) (hc := cells29) h3
  exact ⟨a, c, b, d, e, f, rfl, h1, h2, h3, bounds_i64 h4, m1, m2, m3⟩
theorem st_viewR {n : Nat} {w : World} {us : List Value} {s : St} (h : stR.lies n w us s) : ∃ a c b d e f, us = [.slice a s.1.length c, .slice b s.2.1.length d, .slice e s.2.2.1.length f, .int .i64 s.2.2.2] ∧ sgsR.lies n w [.slice a s.1.length c] s.1 ∧ boolsS.lies n w [.slice b s.2.1.length d] s.2.1 ∧ bksR.lies n w [.slice e s.2.2.1.length f] s.2.2.1 ∧ I64 s.2.2.2 ∧ s.1.length ≤ maxLen ∧ s.2.1.length ≤ maxLen ∧ s.2.2.1.length ≤ maxLen := by
  obtain ⟨u1, r, rfl, h1, u2, r2, rfl, h2, u3, r3, rfl, h3, rfl, h4⟩ := h
  obtain ⟨a, c, rfl, _, m1, _⟩ := Shape.list_len (S := sgR) (ht := Try.underlying22) (hc := cells22) h1
  obtain ⟨b, d, rfl, _, m2, _⟩ := Leaf.row_len (L := bL) (ht := Try.underlying23) (hc := cells23) h2
  obtain ⟨e, f, rfl, _, m3, _⟩ := Shape.list_len (S := bkR) (ht := Try.underlying24) (hc := cells24) h3
  exact ⟨a, c, b, d, e, f, rfl, h1, h2, h3, bounds_i64 h4, m1, m2, m3⟩
theorem st_mkN {n : Nat} {w : World} {v1 v2 v3 : Value} {s : St} (h1 : sgsN.lies n w [v1] s.1) (h2 : boolsS.lies n w [v2] s.2.1) (h3 : bksN.lies n w [v3] s.2.2.1) (h4 : I64 s.2.2.2) : stN.lies n w [v1, v2, v3, .int .i64 s.2.2.2] s := ⟨[_], [_, _, _], rfl, h1, [_], [_, _], rfl, h2, [_], [_], rfl, h3, rfl, h4.wf⟩
theorem st_mkR {n : Nat} {w : World} {v1 v2 v3 : Value} {s : St} (h1 : sgsR.lies n w [v1] s.1) (h2 : boolsS.lies n w [v2] s.2.1) (h3 : bksR.lies n w [v3] s.2.2.1) (h4 : I64 s.2.2.2) : stR.lies n w [v1, v2, v3, .int .i64 s.2.2.2] s := ⟨[_], [_, _, _], rfl, h1, [_], [_, _], rfl, h2, [_], [_], rfl, h3, rfl, h4.wf⟩
theorem st_omkN {n : Nat} {w : World} {v1 v2 v3 : Value} {s : St} (h1 : sgsN.owns n w [v1] s.1) (h2 : boolsS.owns n w [v2] s.2.1) (h3 : bksN.owns n w [v3] s.2.2.1) (h4 : I64 s.2.2.2) : stN.owns n w [v1, v2, v3, .int .i64 s.2.2.2] s := ⟨[_], [_, _, _], rfl, h1, [_], [_, _], rfl, h2, [_], [_], rfl, h3, rfl, h4.wf⟩
theorem st_omkR {n : Nat} {w : World} {v1 v2 v3 : Value} {s : St} (h1 : sgsR.owns n w [v1] s.1) (h2 : boolsS.owns n w [v2] s.2.1) (h3 : bksR.owns n w [v3] s.2.2.1) (h4 : I64 s.2.2.2) : stR.owns n w [v1, v2, v3, .int .i64 s.2.2.2] s := ⟨[_], [_, _, _], rfl, h1, [_], [_, _], rfl, h2, [_], [_], rfl, h3, rfl, h4.wf⟩
theorem st_ownN {n : Nat} {w : World} {us : List Value} {s : St} (h : stN.owns n w us s) : ∃ a c b d e f, us = [.slice a s.1.length c, .slice b s.2.1.length d, .slice e s.2.2.1.length f, .int .i64 s.2.2.2] ∧ sgsN.owns n w [.slice a s.1.length c] s.1 ∧ boolsS.owns n w [.slice b s.2.1.length d] s.2.1 ∧ bksN.owns n w [.slice e s.2.2.1.length f] s.2.2.1 ∧ I64 s.2.2.2 := by
  obtain ⟨u1, r, rfl, h1, u2, r2, rfl, h2, u3, r3, rfl, h3, rfl, h4⟩ := h
  obtain ⟨a, c, _, rfl, _⟩ := Shape.list_own (S := sgN) (ht := Try.underlying28) (hc := cells28) h1
  obtain ⟨b, d, rfl, _⟩ := Leaf.row_len (L := bL) (ht := Try.underlying23) (hc := cells23) (boolsS.olies h2)
  obtain ⟨e, f, _, rfl, _⟩ := Shape.list_own (S := bkN) (ht := Try.underlying29) (hc := cells29) h3
  exact ⟨a, c, b, d, e, f, rfl, h1, h2, h3, bounds_i64 h4⟩
theorem st_nilN (n : Nat) (w : World) : stN.owns n w [.slice none 0 0, .slice none 0 0, .slice none 0 0, .int .i64 0] ([], [], [], 0) :=
  st_omkN (s := ([], [], [], 0)) (Shape.list_nil sgN 28 Try.underlying28 cells28 n w) ⟨_, rfl, World.ownsRow_nil _ _ _ _, fun _ h => by cases h⟩ (Shape.list_nil bkN 29 Try.underlying29 cells29 n w) ⟨by show _ ≤ (0 : Int); omega, by show (0 : Int) ≤ _; omega⟩
theorem st_nilR (n : Nat) (w : World) : stR.owns n w [.slice none 0 0, .slice none 0 0, .slice none 0 0, .int .i64 0] ([], [], [], 0) :=
  st_omkR (s := ([], [], [], 0)) (Shape.list_nil sgR 22 Try.underlying22 cells22 n w) ⟨_, rfl, World.ownsRow_nil _ _ _ _, fun _ h => by cases h⟩ (Shape.list_nil bkR 24 Try.underlying24 cells24 n w) ⟨by show _ ≤ (0 : Int); omega, by show (0 : Int) ≤ _; omega⟩

/-- One segment of the segments: where it lies, and what it is. -/
theorem sgs_atN {n : Nat} {w : World} {v : Value} {l : List Sg} (h : sgsN.lies n w [v] l) (i : Nat) (p : Sg) (hp : l[i]? = some p) :
    ∃ b o a cap, (∀ W, (Instr.indexAt 28 v (.int .i64 i)).run Try.prog W = .ok (.pointer (some ⟨b, o, none⟩)) W) ∧ w.cell? ⟨b, o, none⟩ = some (.int .i64 p.1) ∧ w.cell? ⟨b, o + 1, none⟩ = some (.slice a p.2.length cap) ∧
      sgN.lies n w [.int .i64 p.1, .slice a p.2.length cap] p ∧ n ≤ b := by
  obtain ⟨i0, hi0, _, hz, _⟩ := info_parts Try.info45
  obtain ⟨b, o, us, hix, hb, hc, hl⟩ := Shape.list_at (S := sgN) (ht := Try.underlying28) (hc := cells28) h (by decide) hi0 hz i p hp
  obtain ⟨a, cap, rfl, _⟩ := sg_viewN hl
  exact ⟨b, o, a, cap, hix, hc 0 _ rfl, hc 1 _ rfl, hl, hb⟩
theorem sgs_atR {n : Nat} {w : World} {v : Value} {l : List Sg} (h : sgsR.lies n w [v] l) (i : Nat) (p : Sg) (hp : l[i]? = some p) :
    ∃ b o a cap, (∀ W, (Instr.indexAt 22 v (.int .i64 i)).run Try.prog W = .ok (.pointer (some ⟨b, o, none⟩)) W) ∧ w.cell? ⟨b, o, none⟩ = some (.int .i64 p.1) ∧ w.cell? ⟨b, o + 1, none⟩ = some (.slice a p.2.length cap) ∧
      sgR.lies n w [.int .i64 p.1, .slice a p.2.length cap] p ∧ n ≤ b := by
  obtain ⟨i0, hi0, _, hz, _⟩ := info_parts Try.info36
  obtain ⟨b, o, us, hix, hb, hc, hl⟩ := Shape.list_at (S := sgR) (ht := Try.underlying22) (hc := cells22) h (by decide) hi0 hz i p hp
  obtain ⟨a, cap, rfl, _⟩ := sg_viewR hl
  exact ⟨b, o, a, cap, hix, hc 0 _ rfl, hc 1 _ rfl, hl, hb⟩
theorem bools_at {n : Nat} {w : World} {v : Value} {l : List Bool} (h : boolsS.lies n w [v] l) (i : Nat) (p : Bool) (hp : l[i]? = some p) :
    ∃ b o, (∀ W, (Instr.indexAt 23 v (.int .i64 i)).run Try.prog W = .ok (.pointer (some ⟨b, o, none⟩)) W) ∧ n ≤ b ∧ w.cell? ⟨b, o, none⟩ = some (.bool p) := by
  obtain ⟨i0, hi0, _, hz, _⟩ := info_parts Try.info4
  obtain ⟨b, o, h1, h2, h3, _⟩ := Leaf.row_at (L := bL) (ht := Try.underlying23) (hc := cells23) h hi0 hz i p hp
  exact ⟨b, o, h1, h2, h3⟩

/-- As great as the form reads a store. -/
def FitsL (s : St) : Prop := (s.1.length * 32 ≤ 140737488351232 ∧ ∀ p ∈ s.1, Fits p) ∧ s.2.1.length ≤ 140737488351232 ∧ s.2.2.1.length * 40 ≤ 140737488351232 ∧ ∀ p ∈ s.2.2.1, p.2.2.length ≤ 140737488351232
theorem fits_st {s : St} (h : stR.fits s) : FitsL s := by
  obtain ⟨⟨h1, h2⟩, h3, ⟨h4, h5⟩, _⟩ := h
  have b80 : Try.prog.bytesOf 36 = 32 := by kernel_rfl
  have b29 : Try.prog.bytesOf 97 = 40 := by kernel_rfl
  have b5 : Try.prog.bytesOf 5 = 1 := by kernel_rfl
  have b4 : Try.prog.bytesOf 4 = 1 := by kernel_rfl
  refine ⟨⟨?_, fun p hp => fits_of (h2 p hp)⟩, ?_, ?_, fun p hp => ?_⟩
  · have h9 : s.1.length * Try.prog.bytesOf 36 ≤ 140737488351232 := h1
    rwa [b80] at h9
  · have h9 : s.2.1.length * Try.prog.bytesOf 4 ≤ 140737488351232 := h3
    rwa [b4, Nat.mul_one] at h9
  · have h9 : s.2.2.1.length * Try.prog.bytesOf 97 ≤ 140737488351232 := h4
    rwa [b29] at h9
  · obtain ⟨_, _, h8⟩ := h5 p hp
    have h9 : p.2.2.length * Try.prog.bytesOf 5 ≤ 140737488351232 := h8
    rwa [b5, Nat.mul_one] at h9

/-! Variables of four cells. -/
theorem Box.four {w : World} {B : Nat} {t : TypeId} {u v x y : Value} (h : Box w B t #[u, v, x, y]) : w.cell? ⟨B, 0, none⟩ = some u ∧ w.cell? ⟨B, 1, none⟩ = some v ∧ w.cell? ⟨B, 2, none⟩ = some x ∧ w.cell? ⟨B, 3, none⟩ = some y ∧ w.frozen? ⟨B, 0, none⟩ = false ∧ w.frozen? ⟨B, 1, none⟩ = false ∧ w.frozen? ⟨B, 2, none⟩ = false ∧ w.frozen? ⟨B, 3, none⟩ = false := ⟨h.cell 0 rfl, h.cell 1 rfl, h.cell 2 rfl, h.cell 3 rfl, h.frozen 0, h.frozen 1, h.frozen 2, h.frozen 3⟩
theorem below_set4 {B n : Nat} {w W : World} (h : Below n w W) (hn : n ≤ B) (u v x y : Value) : Below n w ((((W.setCell ⟨B, 0, none⟩ u).setCell ⟨B, 1, none⟩ v).setCell ⟨B, 2, none⟩ x).setCell ⟨B, 3, none⟩ y) := (below_set3 h hn u v x).setCell (p := ⟨B, 3, none⟩) hn y
theorem Same.set4 {n B : Nat} {w : World} {u v x y : Value} (hB : B < n) : Same n w ((((w.setCell ⟨B, 0, none⟩ u).setCell ⟨B, 1, none⟩ v).setCell ⟨B, 2, none⟩ x).setCell ⟨B, 3, none⟩ y) := Same.trans (.set3 hB) (by simp [World.setCell]) (.set hB)

end Go.Proofs.Ytkpckadicjdieab
