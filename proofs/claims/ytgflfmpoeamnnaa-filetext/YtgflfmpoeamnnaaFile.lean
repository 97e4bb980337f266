/-
  Blocks and files, the program's and the document's, as data; how they lie in memory.
-/
import Derived.Test.YtgflfmpoeamnnaaShape
namespace Go.Proofs.Ytgflfmpoeamnnaa
open Go.RowKit

theorem Try.info5 : (Try.prog.info? 5).map (fun i => (i.zero, i.size, i.bytes)) = some (some (.int .u8 0), 1, 1) := by kernel_rfl
theorem Try.info3 : (Try.prog.info? 3).map (fun i => (i.zero, i.size, i.bytes)) = some (some (.int .i64 0), 1, 8) := by kernel_rfl
theorem Try.info60 : (Try.prog.info? 60).map (fun i => (i.zero, i.size, i.bytes)) = some (some (.agg #[.int .i64 0, .slice none 0 0]), 2, 32) := by kernel_rfl
theorem Try.info62 : (Try.prog.info? 62).map (fun i => (i.zero, i.size, i.bytes)) = some (some (.agg #[.int .i64 0, .slice none 0 0]), 2, 32) := by kernel_rfl

def I64 (x : Int) : Prop := -9223372036854775808 ≤ x ∧ x ≤ 9223372036854775807
theorem I64.wf {x : Int} (h : I64 x) : (Lit.int .i64 x).wf = true := by
  obtain ⟨h1, h2⟩ := h
  simp [Lit.wf, IntKind.min, IntKind.max, IntKind.signed, IntKind.bits]
  omega
def Oct (l : List Int) : Prop := ∀ x ∈ l, (Lit.int .u8 x).wf = true

def u8L : Leaf Int := intL .u8 5 Try.underlying5 (by kernel_rfl)
def i64L : Leaf Int := intL .i64 3 Try.underlying3 (by kernel_rfl)
def i64S : Shape Int := i64L.shape
def bytesS : Shape (List Int) := u8L.row 25 Try.underlying25 (by kernel_rfl)

abbrev Bk := Int × List Int
def bkF : Fields Bk := i64S.and bytesS.only
def bkR : Shape Bk := bkF.struct 62 ⟨_, Try.underlying62, rfl, rfl⟩ (by kernel_rfl)
def bkN : Shape Bk := bkF.struct 60 ⟨_, Try.underlying60, rfl, rfl⟩ (by kernel_rfl)
theorem cells22 : Try.prog.cellsOf 22 = 1 := by kernel_rfl
def bksR : Shape (List Bk) := bkR.list 22 Try.underlying22 cells22
theorem cells26 : Try.prog.cellsOf 26 = 1 := by kernel_rfl
def bksN : Shape (List Bk) := bkN.list 26 Try.underlying26 cells26
abbrev Fl := Int × List Bk
def flR : Shape Fl := (i64S.and bksR.only).struct 24 ⟨_, Try.underlying24, rfl, rfl⟩ (by kernel_rfl)
def flN : Shape Fl := (i64S.and bksN.only).struct 28 ⟨_, Try.underlying28, rfl, rfl⟩ (by kernel_rfl)

/-! Octets. -/

def Arg (n0 : Nat) (w : World) (v : Value) (l : List Int) : Prop := bytesS.lies n0 w [v] l
theorem Arg.cells {n0 : Nat} {w : World} {v : Value} {l : List Int} (h : Arg n0 w v l) : Cells n0 w 1 v l.length (l.map (Value.int .u8)) := by
  obtain ⟨v', hv, hC, _⟩ := h
  obtain rfl : v = v' := by simpa using hv
  exact hC
theorem Arg.oct {n0 : Nat} {w : World} {v : Value} {l : List Int} (h : Arg n0 w v l) : Oct l := by
  obtain ⟨_, _, _, ho⟩ := h
  exact ho
theorem Arg.mk {n0 : Nat} {w : World} {v : Value} {l : List Int} (hC : Cells n0 w 1 v l.length (l.map (Value.int .u8))) (ho : Oct l) : Arg n0 w v l := ⟨v, rfl, hC, ho⟩
theorem Arg.keep {n0 : Nat} {w w' : World} {v : Value} {l : List Int} (h : Arg n0 w v l) (hs : Same n0 w w') : Arg n0 w' v l := bytesS.keep h hs
theorem Arg.below {n0 : Nat} {w w' : World} {v : Value} {l : List Int} (h : Arg n0 w v l) (hb : Below w.heap.size w w') : Arg n0 w' v l := h.keep (.of_below hb)
theorem Arg.weaken {n0 n1 : Nat} {w : World} {v : Value} {l : List Int} (h : Arg n0 w v l) (hn : n1 ≤ n0) : Arg n1 w v l := bytesS.weaken h hn
theorem Arg.shape {n0 : Nat} {w : World} {v : Value} {l : List Int} (h : Arg n0 w v l) : ∃ a cap, v = .slice a l.length cap ∧ l.length ≤ cap ∧ l.length ≤ maxLen ∧ (a = none → l.length = 0) := h.cells.shape
theorem Arg.split {n0 : Nat} {w : World} {v : Value} {l : List Int} (h : Arg n0 w v l) : (l = [] ∧ ∃ a cap, v = .slice a 0 cap) ∨ (∃ b off cap, v = .slice (some ⟨b, off, none⟩) l.length cap ∧ l.length ≤ cap ∧ l.length ≤ maxLen ∧ n0 ≤ b ∧ ∀ i, i < l.length → w.cell? ⟨b, off + i, none⟩ = some (.int .u8 (l.getD i 0))) := by
  by_cases h0 : l.length = 0
  · obtain ⟨a, cap, hv, _⟩ := h.shape
    exact .inl ⟨List.eq_nil_of_length_eq_zero h0, a, cap, by rw [hv, h0]⟩
  · right
    obtain ⟨b, o, cap, hv, h1, h2, h3, h4⟩ := h.cells.place (by omega) 0 (by omega)
    refine ⟨b, o, cap, hv, h1, h2, h3, fun i hi => ?_⟩
    have := h4 i (.int .u8 (l.getD i 0)) (by simp [hi])
    simpa using this
/-- One octet: where it lies, and what it is. -/
theorem Arg.at {n0 : Nat} {w : World} {v : Value} {l : List Int} (h : Arg n0 w v l) (i : Nat) (x : Int) (hx : l[i]? = some x) :
    ∃ b o, (∀ W, (Instr.indexAt 25 v (.int .i64 i)).run Try.prog W = .ok (.pointer (some ⟨b, o, none⟩)) W) ∧ n0 ≤ b ∧ w.cell? ⟨b, o, none⟩ = some (.int .u8 x) ∧ (Lit.int .u8 x).wf = true := by
  obtain ⟨i0, hi0, _, hz, _⟩ := info_parts Try.info5
  exact Leaf.row_at (L := u8L) (ht := Try.underlying25) (hc := by kernel_rfl) h hi0 hz i x hx

/-- Octets in a block of their own. -/
def Own1 (base : Nat) (w : World) (v : Value) (l : List Int) : Prop := bytesS.owns base w [v] l
theorem Own1.row {base : Nat} {w : World} {v : Value} {l : List Int} (h : Own1 base w v l) : w.ownsRow base 5 1 v l.length (l.map (Value.int .u8)) := by
  obtain ⟨v', hv, hC, _⟩ := h
  obtain rfl : v = v' := by simpa using hv
  exact hC
theorem Own1.mk {base : Nat} {w : World} {v : Value} {l : List Int} (h : w.ownsRow base 5 1 v l.length (l.map (Value.int .u8))) (ho : Oct l) : Own1 base w v l := ⟨v, rfl, h, ho⟩
theorem Own1.arg {base : Nat} {w : World} {v : Value} {l : List Int} (h : Own1 base w v l) : Arg base w v l := bytesS.olies h
theorem Own1.shape {base : Nat} {w : World} {v : Value} {l : List Int} (h : Own1 base w v l) : ∃ a cap, v = .slice a l.length cap := own_shape h.row
theorem Own1.oct {base : Nat} {w : World} {v : Value} {l : List Int} (h : Own1 base w v l) : Oct l := h.arg.oct

/-! Blocks. -/

theorem bk_view {n : Nat} {w : World} {us : List Value} {p : Bk} (h : bkF.lies n w us p) : ∃ a cap, us = [.int .i64 p.1, .slice a p.2.length cap] ∧ Arg n w (.slice a p.2.length cap) p.2 ∧ I64 p.1 := by
  obtain ⟨u1, r, rfl, ⟨rfl, h1⟩, v, rfl, hC, ho⟩ := h
  obtain ⟨a, cap, rfl, _⟩ := hC.shape
  exact ⟨a, cap, rfl, ⟨_, rfl, hC, ho⟩, bounds_i64 h1⟩
theorem bk_mk {n : Nat} {w : World} {v : Value} {p : Bk} (h : Arg n w v p.2) (h1 : I64 p.1) : bkF.lies n w [.int .i64 p.1, v] p := ⟨[_], [_], rfl, ⟨rfl, h1.wf⟩, h⟩
theorem bk_own {n : Nat} {w : World} {us : List Value} {p : Bk} (h : bkF.owns n w us p) : ∃ a cap, us = [.int .i64 p.1, .slice a p.2.length cap] ∧ Own1 n w (.slice a p.2.length cap) p.2 ∧ I64 p.1 := by
  obtain ⟨u1, r, rfl, ⟨rfl, h1⟩, v, rfl, hC, ho⟩ := h
  obtain ⟨a, cap, rfl⟩ := own_shape hC
  exact ⟨a, cap, rfl, ⟨_, rfl, hC, ho⟩, bounds_i64 h1⟩
theorem bk_omk {n : Nat} {w : World} {v : Value} {p : Bk} (h : Own1 n w v p.2) (h1 : I64 p.1) : bkF.owns n w [.int .i64 p.1, v] p := ⟨[_], [_], rfl, ⟨rfl, h1.wf⟩, h⟩

/-! Files. -/

theorem fl_viewN {n : Nat} {w : World} {us : List Value} {s : Fl} (h : flN.lies n w us s) : ∃ a cap, us = [.int .i64 s.1, .slice a s.2.length cap] ∧ bksN.lies n w [.slice a s.2.length cap] s.2 ∧ I64 s.1 ∧ s.2.length ≤ maxLen := by
  obtain ⟨u1, u2, rfl, ⟨rfl, h1⟩, h2⟩ := h
  obtain ⟨a, cap, rfl, _, hm, _⟩ := Shape.list_len (S := bkN) (ht := Try.underlying26) (hc := cells26) h2
  exact ⟨a, cap, rfl, h2, bounds_i64 h1, hm⟩
theorem fl_viewR {n : Nat} {w : World} {us : List Value} {s : Fl} (h : flR.lies n w us s) : ∃ a cap, us = [.int .i64 s.1, .slice a s.2.length cap] ∧ bksR.lies n w [.slice a s.2.length cap] s.2 ∧ I64 s.1 ∧ s.2.length ≤ maxLen := by
  obtain ⟨u1, u2, rfl, ⟨rfl, h1⟩, h2⟩ := h
  obtain ⟨a, cap, rfl, _, hm, _⟩ := Shape.list_len (S := bkR) (ht := Try.underlying22) (hc := cells22) h2
  exact ⟨a, cap, rfl, h2, bounds_i64 h1, hm⟩
theorem fl_mkN {n : Nat} {w : World} {v : Value} {s : Fl} (h : bksN.lies n w [v] s.2) (h1 : I64 s.1) : flN.lies n w [.int .i64 s.1, v] s := ⟨[_], [_], rfl, ⟨rfl, h1.wf⟩, h⟩
theorem fl_mkR {n : Nat} {w : World} {v : Value} {s : Fl} (h : bksR.lies n w [v] s.2) (h1 : I64 s.1) : flR.lies n w [.int .i64 s.1, v] s := ⟨[_], [_], rfl, ⟨rfl, h1.wf⟩, h⟩
theorem fl_omkN {n : Nat} {w : World} {v : Value} {s : Fl} (h : bksN.owns n w [v] s.2) (h1 : I64 s.1) : flN.owns n w [.int .i64 s.1, v] s := ⟨[_], [_], rfl, ⟨rfl, h1.wf⟩, h⟩
theorem fl_omkR {n : Nat} {w : World} {v : Value} {s : Fl} (h : bksR.owns n w [v] s.2) (h1 : I64 s.1) : flR.owns n w [.int .i64 s.1, v] s := ⟨[_], [_], rfl, ⟨rfl, h1.wf⟩, h⟩
theorem fl_ownN {n : Nat} {w : World} {us : List Value} {s : Fl} (h : flN.owns n w us s) : ∃ a cap, us = [.int .i64 s.1, .slice a s.2.length cap] ∧ bksN.owns n w [.slice a s.2.length cap] s.2 ∧ I64 s.1 := by
  obtain ⟨u1, u2, rfl, ⟨rfl, h1⟩, h2⟩ := h
  obtain ⟨a, cap, _, rfl, _⟩ := Shape.list_own (S := bkN) (ht := Try.underlying26) (hc := cells26) h2
  exact ⟨a, cap, rfl, h2, bounds_i64 h1⟩
theorem fl_ownR {n : Nat} {w : World} {us : List Value} {s : Fl} (h : flR.owns n w us s) : ∃ a cap, us = [.int .i64 s.1, .slice a s.2.length cap] ∧ bksR.owns n w [.slice a s.2.length cap] s.2 ∧ I64 s.1 := by
  obtain ⟨u1, u2, rfl, ⟨rfl, h1⟩, h2⟩ := h
  obtain ⟨a, cap, _, rfl, _⟩ := Shape.list_own (S := bkR) (ht := Try.underlying22) (hc := cells22) h2
  exact ⟨a, cap, rfl, h2, bounds_i64 h1⟩
theorem fl_nilN (n : Nat) (w : World) : flN.lies n w [.int .i64 0, .slice none 0 0] (0, []) := fl_mkN (s := (0, [])) (bksN.olies (Shape.list_nil bkN 26 Try.underlying26 cells26 n w)) ⟨by omega, by omega⟩
theorem fl_nilR (n : Nat) (w : World) : flR.lies n w [.int .i64 0, .slice none 0 0] (0, []) := fl_mkR (s := (0, [])) (bksR.olies (Shape.list_nil bkR 22 Try.underlying22 cells22 n w)) ⟨by omega, by omega⟩

/-- One block of the blocks: where it lies, and what it is. -/
theorem bks_atN {n : Nat} {w : World} {v : Value} {l : List Bk} (h : bksN.lies n w [v] l) (i : Nat) (p : Bk) (hp : l[i]? = some p) :
    ∃ b o a cap, (∀ W, (Instr.indexAt 26 v (.int .i64 i)).run Try.prog W = .ok (.pointer (some ⟨b, o, none⟩)) W) ∧ w.cell? ⟨b, o, none⟩ = some (.int .i64 p.1) ∧ w.cell? ⟨b, o + 1, none⟩ = some (.slice a p.2.length cap) ∧
      Arg n w (.slice a p.2.length cap) p.2 ∧ I64 p.1 ∧ n ≤ b := by
  obtain ⟨i0, hi0, _, hz, _⟩ := info_parts Try.info60
  obtain ⟨b, o, us, hix, hb, hc, hl⟩ := Shape.list_at (S := bkN) (ht := Try.underlying26) (hc := cells26) h (by decide) hi0 hz i p hp
  obtain ⟨a, cap, rfl, hA, h1⟩ := bk_view hl
  exact ⟨b, o, a, cap, hix, hc 0 _ rfl, hc 1 _ rfl, hA, h1, hb⟩
theorem bks_atR {n : Nat} {w : World} {v : Value} {l : List Bk} (h : bksR.lies n w [v] l) (i : Nat) (p : Bk) (hp : l[i]? = some p) :
    ∃ b o a cap, (∀ W, (Instr.indexAt 22 v (.int .i64 i)).run Try.prog W = .ok (.pointer (some ⟨b, o, none⟩)) W) ∧ w.cell? ⟨b, o, none⟩ = some (.int .i64 p.1) ∧ w.cell? ⟨b, o + 1, none⟩ = some (.slice a p.2.length cap) ∧
      Arg n w (.slice a p.2.length cap) p.2 ∧ I64 p.1 ∧ n ≤ b := by
  obtain ⟨i0, hi0, _, hz, _⟩ := info_parts Try.info62
  obtain ⟨b, o, us, hix, hb, hc, hl⟩ := Shape.list_at (S := bkR) (ht := Try.underlying22) (hc := cells22) h (by decide) hi0 hz i p hp
  obtain ⟨a, cap, rfl, hA, h1⟩ := bk_view hl
  exact ⟨b, o, a, cap, hix, hc 0 _ rfl, hc 1 _ rfl, hA, h1, hb⟩

/-- As great as the form reads a file. -/
def Fits (s : Fl) : Prop := s.2.length * 32 ≤ 140737488351232 ∧ ∀ p ∈ s.2, p.2.length ≤ 140737488351232
theorem fits_of {s : Fl} (h : flR.fits s) : Fits s := by
  obtain ⟨_, h1, h2⟩ := h
  have b62 : Try.prog.bytesOf 62 = 32 := by kernel_rfl
  have b5 : Try.prog.bytesOf 5 = 1 := by kernel_rfl
  refine ⟨?_, fun p hp => ?_⟩
  · have h3 : s.2.length * Try.prog.bytesOf 62 ≤ 140737488351232 := h1
    rwa [b62] at h3
  · obtain ⟨_, h4⟩ := h2 p hp
    have h5 : p.2.length * Try.prog.bytesOf 5 ≤ 140737488351232 := h4
    rwa [b5, Nat.mul_one] at h5

theorem get_lt {α : Type} {l : List α} {k : Nat} (h : k < l.length) : ∃ x, l[k]? = some x := ⟨_, List.getElem?_eq_getElem h⟩
theorem take_snoc {α : Type} {l : List α} {k : Nat} {x : α} (h : l[k]? = some x) : l.take (k + 1) = l.take k ++ [x] := by rw [List.take_add_one, h]; rfl
theorem one_cells (l : List Int) : ∀ u ∈ l.map (Value.int .u8), u.oneCell' = true := fun u hu => by
  obtain ⟨y, _, rfl⟩ := List.mem_map.1 hu
  rfl

end Go.Proofs.Ytgflfmpoeamnnaa
