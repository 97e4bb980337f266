/-
  Blocks and segments, the program's and the document's, as data; how they lie in memory.
-/
import Derived.Test.YtkpckadicjdieabBase
namespace Go.Proofs.Ytkpckadicjdieab
open Go.RowKit

theorem Try.info48 : (Try.prog.info? 48).map (fun i => (i.zero, i.size, i.bytes)) = some (some (.agg #[.int .i64 0, .int .i64 0, .slice none 0 0]), 3, 40) := by kernel_rfl
theorem Try.info97 : (Try.prog.info? 97).map (fun i => (i.zero, i.size, i.bytes)) = some (some (.agg #[.int .i64 0, .int .i64 0, .slice none 0 0]), 3, 40) := by kernel_rfl

abbrev Bk := Int × Int × List Int
def bkF : Fields Bk := i64S.and (i64S.and bytesS.only)
def bkR : Shape Bk := bkF.struct 97 ⟨_, Try.underlying97, rfl, rfl⟩ (by kernel_rfl)
def bkN : Shape Bk := bkF.struct 48 ⟨_, Try.underlying48, rfl, rfl⟩ (by kernel_rfl)
theorem cells24 : Try.prog.cellsOf 24 = 1 := by kernel_rfl
def bksR : Shape (List Bk) := bkR.list 24 Try.underlying24 cells24
theorem cells29 : Try.prog.cellsOf 29 = 1 := by kernel_rfl
def bksN : Shape (List Bk) := bkN.list 29 Try.underlying29 cells29
abbrev Sg := Int × List Bk
def sgR : Shape Sg := (i64S.and bksR.only).struct 36 ⟨_, Try.underlying36, rfl, rfl⟩ (by kernel_rfl)
def sgN : Shape Sg := (i64S.and bksN.only).struct 45 ⟨_, Try.underlying45, rfl, rfl⟩ (by kernel_rfl)

/-! Blocks. -/

theorem bk_view {n : Nat} {w : World} {us : List Value} {p : Bk} (h : bkF.lies n w us p) : ∃ a cap, us = [.int .i64 p.1, .int .i64 p.2.1, .slice a p.2.2.length cap] ∧ Arg n w (.slice a p.2.2.length cap) p.2.2 ∧ I64 p.1 ∧ I64 p.2.1 := by
  obtain ⟨u1, r, rfl, ⟨rfl, h1⟩, u2, r2, rfl, ⟨rfl, h2⟩, v, rfl, hC, ho⟩ := h
  obtain ⟨a, cap, rfl, _⟩ := hC.shape
  exact ⟨a, cap, rfl, ⟨_, rfl, hC, ho⟩, bounds_i64 h1, bounds_i64 h2⟩
theorem bk_mk {n : Nat} {w : World} {v : Value} {p : Bk} (h : Arg n w v p.2.2) (h1 : I64 p.1) (h2 : I64 p.2.1) : bkF.lies n w [.int .i64 p.1, .int .i64 p.2.1, v] p := ⟨[_], [_, _], rfl, ⟨rfl, h1.wf⟩, [_], [_], rfl, ⟨rfl, h2.wf⟩, h⟩
theorem bk_own {n : Nat} {w : World} {us : List Value} {p : Bk} (h : bkF.owns n w us p) : ∃ a cap, us = [.int .i64 p.1, .int .i64 p.2.1, .slice a p.2.2.length cap] ∧ Own1 n w (.slice a p.2.2.length cap) p.2.2 ∧ I64 p.1 ∧ I64 p.2.1 := by
  obtain ⟨u1, r, rfl, ⟨rfl, h1⟩, u2, r2, rfl, ⟨rfl, h2⟩, v, rfl, hC, ho⟩ := h
  obtain ⟨a, cap, rfl⟩ := own_shape hC
  exact ⟨a, cap, rfl, ⟨_, rfl, hC, ho⟩, bounds_i64 h1, bounds_i64 h2⟩
theorem bk_omk {n : Nat} {w : World} {v : Value} {p : Bk} (h : Own1 n w v p.2.2) (h1 : I64 p.1) (h2 : I64 p.2.1) : bkF.owns n w [.int .i64 p.1, .int .i64 p.2.1, v] p := ⟨[_], [_, _], rfl, ⟨rfl, h1.wf⟩, [_], [_], rfl, ⟨rfl, h2.wf⟩, h⟩

/-! Segments. -/

theorem sg_viewN {n : Nat} {w : World} {us : List Value} {s : Sg} (h : sgN.lies n w us s) : ∃ a cap, us = [.int .i64 s.1, .slice a s.2.length cap] ∧ bksN.lies n w [.slice a s.2.length cap] s.2 ∧ I64 s.1 ∧ s.2.length ≤ maxLen := by
  obtain ⟨u1, u2, rfl, ⟨rfl, h1⟩, h2⟩ := h
  obtain ⟨a, cap, rfl, _, hm, _⟩ := Shape.list_len (S := bkN) (ht := Try.underlying29) (hc := cells29) h2
  exact ⟨a, cap, rfl, h2, bounds_i64 h1, hm⟩
theorem sg_viewR {n : Nat} {w : World} {us : List Value} {s : Sg} (h : sgR.lies n w us s) : ∃ a cap, us = [.int .i64 s.1, .slice a s.2.length cap] ∧ bksR.lies n w [.slice a s.2.length cap] s.2 ∧ I64 s.1 ∧ s.2.length ≤ maxLen := by
  obtain ⟨u1, u2, rfl, ⟨rfl, h1⟩, h2⟩ := h
  obtain ⟨a, cap, rfl, _, hm, _⟩ := Shape.list_len (S := bkR) (ht := Try.underlying24) (hc := cells24) h2
  exact ⟨a, cap, rfl, h2, bounds_i64 h1, hm⟩
theorem sg_mkN {n : Nat} {w : World} {v : Value} {s : Sg} (h : bksN.lies n w [v] s.2) (h1 : I64 s.1) : sgN.lies n w [.int .i64 s.1, v] s := ⟨[_], [_], rfl, ⟨rfl, h1.wf⟩, h⟩
theorem sg_mkR {n : Nat} {w : World} {v : Value} {s : Sg} (h : bksR.lies n w [v] s.2) (h1 : I64 s.1) : sgR.lies n w [.int .i64 s.1, v] s := ⟨[_], [_], rfl, ⟨rfl, h1.wf⟩, h⟩
theorem sg_omkN {n : Nat} {w : World} {v : Value} {s : Sg} (h : bksN.owns n w [v] s.2) (h1 : I64 s.1) : sgN.owns n w [.int .i64 s.1, v] s := ⟨[_], [_], rfl, ⟨rfl, h1.wf⟩, h⟩
theorem sg_omkR {n : Nat} {w : World} {v : Value} {s : Sg} (h : bksR.owns n w [v] s.2) (h1 : I64 s.1) : sgR.owns n w [.int .i64 s.1, v] s := ⟨[_], [_], rfl, ⟨rfl, h1.wf⟩, h⟩
theorem sg_ownN {n : Nat} {w : World} {us : List Value} {s : Sg} (h : sgN.owns n w us s) : ∃ a cap, us = [.int .i64 s.1, .slice a s.2.length cap] ∧ bksN.owns n w [.slice a s.2.length cap] s.2 ∧ I64 s.1 := by
  obtain ⟨u1, u2, rfl, ⟨rfl, h1⟩, h2⟩ := h
  obtain ⟨a, cap, _, rfl, _⟩ := Shape.list_own (S := bkN) (ht := Try.underlying29) (hc := cells29) h2
  exact ⟨a, cap, rfl, h2, bounds_i64 h1⟩
theorem sg_ownR {n : Nat} {w : World} {us : List Value} {s : Sg} (h : sgR.owns n w us s) : ∃ a cap, us = [.int .i64 s.1, .slice a s.2.length cap] ∧ bksR.owns n w [.slice a s.2.length cap] s.2 ∧ I64 s.1 := by
  obtain ⟨u1, u2, rfl, ⟨rfl, h1⟩, h2⟩ := h
  obtain ⟨a, cap, _, rfl, _⟩ := Shape.list_own (S := bkR) (ht := Try.underlying24) (hc := cells24) h2
  exact ⟨a, cap, rfl, h2, bounds_i64 h1⟩
theorem sg_nilN (n : Nat) (w : World) : sgN.lies n w [.int .i64 0, .slice none 0 0] (0, []) := sg_mkN (s := (0, [])) (bksN.olies (Shape.list_nil bkN 29 Try.underlying29 cells29 n w)) ⟨by omega, by omega⟩
theorem sg_nilR (n : Nat) (w : World) : sgR.lies n w [.int .i64 0, .slice none 0 0] (0, []) := sg_mkR (s := (0, [])) (bksR.olies (Shape.list_nil bkR 24 Try.underlying24 cells24 n w)) ⟨by omega, by omega⟩

/-- One block of the blocks: where it lies, and what it is. -/
theorem bks_atN {n : Nat} {w : World} {v : Value} {l : List Bk} (h : bksN.lies n w [v] l) (i : Nat) (p : Bk) (hp : l[i]? = some p) :
    ∃ b o a cap, (∀ W, (Instr.indexAt 29 v (.int .i64 i)).run Try.prog W = .ok (.pointer (some ⟨b, o, none⟩)) W) ∧ w.cell? ⟨b, o, none⟩ = some (.int .i64 p.1) ∧ w.cell? ⟨b, o + 1, none⟩ = some (.int .i64 p.2.1) ∧ w.cell? ⟨b, o + 2, none⟩ = some (.slice a p.2.2.length cap) ∧
      Arg n w (.slice a p.2.2.length cap) p.2.2 ∧ I64 p.1 ∧ I64 p.2.1 ∧ n ≤ b := by
  obtain ⟨i0, hi0, _, hz, _⟩ := info_parts Try.info48
  obtain ⟨b, o, us, hix, hb, hc, hl⟩ := Shape.list_at (S := bkN) (ht := Try.underlying29) (hc := cells29) h (by decide) hi0 hz i p hp
  obtain ⟨a, cap, rfl, hA, h1, h2⟩ := bk_view hl
  exact ⟨b, o, a, cap, hix, hc 0 _ rfl, hc 1 _ rfl, hc 2 _ rfl, hA, h1, h2, hb⟩
theorem bks_atR {n : Nat} {w : World} {v : Value} {l : List Bk} (h : bksR.lies n w [v] l) (i : Nat) (p : Bk) (hp : l[i]? = some p) :
    ∃ b o a cap, (∀ W, (Instr.indexAt 24 v (.int .i64 i)).run Try.prog W = .ok (.pointer (some ⟨b, o, none⟩)) W) ∧ w.cell? ⟨b, o, none⟩ = some (.int .i64 p.1) ∧ w.cell? ⟨b, o + 1, none⟩ = some (.int .i64 p.2.1) ∧ w.cell? ⟨b, o + 2, none⟩ = some (.slice a p.2.2.length cap) ∧
      Arg n w (.slice a p.2.2.length cap) p.2.2 ∧ I64 p.1 ∧ I64 p.2.1 ∧ n ≤ b := by
  obtain ⟨i0, hi0, _, hz, _⟩ := info_parts Try.info97
  obtain ⟨b, o, us, hix, hb, hc, hl⟩ := Shape.list_at (S := bkR) (ht := Try.underlying24) (hc := cells24) h (by decide) hi0 hz i p hp
  obtain ⟨a, cap, rfl, hA, h1, h2⟩ := bk_view hl
  exact ⟨b, o, a, cap, hix, hc 0 _ rfl, hc 1 _ rfl, hc 2 _ rfl, hA, h1, h2, hb⟩

/-- As great as the form reads a segment. -/
def Fits (s : Sg) : Prop := s.2.length * 40 ≤ 140737488351232 ∧ ∀ p ∈ s.2, p.2.2.length ≤ 140737488351232
theorem fits_of {s : Sg} (h : sgR.fits s) : Fits s := by
  obtain ⟨_, h1, h2⟩ := h
  have b62 : Try.prog.bytesOf 97 = 40 := by kernel_rfl
  have b5 : Try.prog.bytesOf 5 = 1 := by kernel_rfl
  refine ⟨?_, fun p hp => ?_⟩
  · have h3 : s.2.length * Try.prog.bytesOf 97 ≤ 140737488351232 := h1
    rwa [b62] at h3
  · obtain ⟨_, _, h4⟩ := h2 p hp
    have h5 : p.2.2.length * Try.prog.bytesOf 5 ≤ 140737488351232 := h4
    rwa [b5, Nat.mul_one] at h5

end Go.Proofs.Ytkpckadicjdieab
