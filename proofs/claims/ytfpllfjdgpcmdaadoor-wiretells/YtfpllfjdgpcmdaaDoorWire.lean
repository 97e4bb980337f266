/-
  Records, the program's and the document's, as data; how they lie in memory; octets in the words of both memories.
-/
import Derived.Test.YtfpllfjdgpcmdaaDoorShape
import Derived.Test.YtfpllfjdgpcmdaaDoorWMath
import Derived.Test.YtfpllfjdgpcmdaaDoorCOpen
namespace Go.Proofs.YtfpllfjdgpcmdaaDoor
open Go.RowKit

theorem Tryd.info5 : (Tryd.prog.info? 5).map (fun i => (i.zero, i.size, i.bytes)) = some (some (.int .u8 0), 1, 1) := by kernel_rfl
theorem Tryd.info3 : (Tryd.prog.info? 3).map (fun i => (i.zero, i.size, i.bytes)) = some (some (.int .i64 0), 1, 8) := by kernel_rfl
theorem info26 : (Tryd.prog.info? 26).map (fun i => (i.zero, i.size, i.bytes)) = some (some (.slice none 0 0), 1, 24) := by kernel_rfl

def I64 (x : Int) : Prop := -9223372036854775808 ≤ x ∧ x ≤ 9223372036854775807
theorem I64.wf {x : Int} (h : I64 x) : (Lit.int .i64 x).wf = true := by
  obtain ⟨h1, h2⟩ := h
  simp [Lit.wf, IntKind.min, IntKind.max, IntKind.signed, IntKind.bits]
  omega
theorem u8_wf {x : Int} (h : 0 ≤ x ∧ x ≤ 255) : (Lit.int .u8 x).wf = true := by
  obtain ⟨h1, h2⟩ := h
  simp [Lit.wf, IntKind.min, IntKind.max, IntKind.signed, IntKind.bits]
  omega
theorem wf_u8 {x : Int} (h : (Lit.int .u8 x).wf = true) : 0 ≤ x ∧ x ≤ 255 := by
  simp [Lit.wf, IntKind.min, IntKind.max, IntKind.signed, IntKind.bits] at h
  omega

def u8L : Leaf Int := intL .u8 5 Tryd.underlying5 (by kernel_rfl)
def i64L : Leaf Int := intL .i64 3 Tryd.underlying3 (by kernel_rfl)
def i64S : Shape Int := i64L.shape
theorem cells26 : Tryd.prog.cellsOf 26 = 1 := by kernel_rfl
theorem cells22 : Tryd.prog.cellsOf 22 = 1 := by kernel_rfl
theorem cells23 : Tryd.prog.cellsOf 23 = 1 := by kernel_rfl
def bytesS : Shape (List Int) := u8L.row 26 Tryd.underlying26 cells26
def intsS : Shape (List Int) := i64L.row 22 Tryd.underlying22 cells22
def textsS : Shape (List (List Int)) := bytesS.list 23 Tryd.underlying23 cells23
def recF : Fields Rc := i64S.and (intsS.and textsS.only)
def recN : Shape Rc := recF.struct 27 ⟨_, Tryd.underlying27, rfl, rfl⟩ (by kernel_rfl)
def recD : Shape Rc := recF.struct 25 ⟨_, Tryd.underlying25, rfl, rfl⟩ (by kernel_rfl)

/-! Octets. -/

def Arg (n0 : Nat) (w : World) (v : Value) (l : List Int) : Prop := bytesS.lies n0 w [v] l
theorem Arg.cells {n0 : Nat} {w : World} {v : Value} {l : List Int} (h : Arg n0 w v l) : Cells n0 w 1 v l.length (l.map (Value.int .u8)) := by
  obtain ⟨v', hv, hC, _⟩ := h
  obtain rfl : v = v' := by simpa using hv
  exact hC
theorem Arg.oct {n0 : Nat} {w : World} {v : Value} {l : List Int} (h : Arg n0 w v l) : Oc l := by
  obtain ⟨_, _, _, ho⟩ := h
  exact fun x hx => wf_u8 (ho x hx)
theorem Arg.mk {n0 : Nat} {w : World} {v : Value} {l : List Int} (hC : Cells n0 w 1 v l.length (l.map (Value.int .u8))) (ho : Oc l) : Arg n0 w v l := ⟨v, rfl, hC, fun x hx => u8_wf (ho x hx)⟩
theorem Arg.keep {n0 : Nat} {w w' : World} {v : Value} {l : List Int} (h : Arg n0 w v l) (hs : Same n0 w w') : Arg n0 w' v l := bytesS.keep h hs
theorem Arg.below {n0 : Nat} {w w' : World} {v : Value} {l : List Int} (h : Arg n0 w v l) (hb : Below w.heap.size w w') : Arg n0 w' v l := h.keep (.of_below hb)
theorem Arg.weaken {n0 n1 : Nat} {w : World} {v : Value} {l : List Int} (h : Arg n0 w v l) (hn : n1 ≤ n0) : Arg n1 w v l := bytesS.weaken h hn
theorem Arg.shape {n0 : Nat} {w : World} {v : Value} {l : List Int} (h : Arg n0 w v l) : ∃ a cap, v = .slice a l.length cap ∧ l.length ≤ cap ∧ l.length ≤ maxLen ∧ (a = none → l.length = 0) := h.cells.shape
theorem Arg.split {n0 : Nat} {w : World} {v : Value} {l : List Int} (h : Arg n0 w v l) : (l = [] ∧ ∃ a cap, v = .slice a 0 cap) ∨ (∃ b off cap, v = .slice (some ⟨b, off, none⟩) l.length cap ∧ l.length ≤ cap ∧ l.length ≤ maxLen ∧ n0 ≤ b ∧ ∀ i, i < l.length → w.cell? ⟨b, off + i, none⟩ = some (.int .u8 (l.getD i 0))) := by
  by_cases h0 : l.length = 0
  · obtain ⟨a, cap, hv, _⟩ := h.shape
    exact .inl ⟨List.eq_nil_of_length_eq_zero h0, a, cap, by rw [hv, h0]⟩
  · right
    obtain ⟨b, o, cap, hv, h1, h2, h3, h4⟩ := h.cells.place (by omega) 0 (by omega)
    refine ⟨b, o, cap, hv, h1, h2, h3, fun i hi => ?_⟩
    have := h4 i (.int .u8 (l.getD i 0)) (by simp [hi])
    simpa using this

/-- The same octets in the words of the sums' texts. -/
theorem Arg.toC {n0 : Nat} {w : World} {v : Value} {l : List Int} (h : Arg n0 w v l) : C.Arg w v l := by
  have ho := h.oct
  obtain ⟨_, ⟨rfl, h0⟩ | ⟨x, cap, rfl, h1, h2, h3, h4⟩⟩ := h.cells
  · exact .inl ⟨rfl, List.eq_nil_of_length_eq_zero h0⟩
  · exact .inr ⟨x, cap, rfl, h1, h2, fun i hi => h4 i _ (by simp [hi]), ho⟩
theorem Arg.ofC {w : World} {v : Value} {l : List Int} (h : C.Arg w v l) : Arg 0 w v l := by
  rcases h with ⟨rfl, rfl⟩ | ⟨x, cap, rfl, h1, h2, h3, ho⟩
  · exact .mk ⟨rfl, .inl ⟨rfl, rfl⟩⟩ oc_nil
  · refine .mk ⟨by simp, .inr ⟨x, cap, rfl, h1, h2, Nat.zero_le _, fun i u hu => ?_⟩⟩ ho
    have hi : i < l.length := by
      have := (List.getElem?_eq_some_iff.1 hu).1
      simpa using this
    rw [h3 i hi]
    rw [List.getElem?_map, List.getElem?_eq_getElem hi] at hu
    simpa [List.getElem?_eq_getElem hi] using hu

/-- Octets in a block of their own. -/
def Own1 (base : Nat) (w : World) (v : Value) (l : List Int) : Prop := bytesS.owns base w [v] l
theorem Own1.row {base : Nat} {w : World} {v : Value} {l : List Int} (h : Own1 base w v l) : w.ownsRow base 5 1 v l.length (l.map (Value.int .u8)) := by
  obtain ⟨v', hv, hC, _⟩ := h
  obtain rfl : v = v' := by simpa using hv
  exact hC
theorem Own1.mk {base : Nat} {w : World} {v : Value} {l : List Int} (h : w.ownsRow base 5 1 v l.length (l.map (Value.int .u8))) (ho : Oc l) : Own1 base w v l := ⟨v, rfl, h, fun x hx => u8_wf (ho x hx)⟩
theorem Own1.arg {base : Nat} {w : World} {v : Value} {l : List Int} (h : Own1 base w v l) : Arg base w v l := bytesS.olies h
theorem Own1.shape {base : Nat} {w : World} {v : Value} {l : List Int} (h : Own1 base w v l) : ∃ a cap, v = .slice a l.length cap := own_shape h.row
theorem Own1.oct {base : Nat} {w : World} {v : Value} {l : List Int} (h : Own1 base w v l) : Oc l := h.arg.oct
theorem Own1.nil (base : Nat) (w : World) : Own1 base w (.slice none 0 0) [] := .mk (World.ownsRow_nil _ _ _ _) oc_nil

/-! Numbers. -/

theorem ints_at {n : Nat} {w : World} {v : Value} {l : List Int} (h : intsS.lies n w [v] l) (i : Nat) (x : Int) (hx : l[i]? = some x) : ∃ b o, (∀ W, (Instr.indexAt 22 v (.int .i64 i)).run Tryd.prog W = .ok (.pointer (some ⟨b, o, none⟩)) W) ∧ w.cell? ⟨b, o, none⟩ = some (.int .i64 x) ∧ I64 x := by
  obtain ⟨i0, hi0, _, hz, _⟩ := info_parts Tryd.info3
  obtain ⟨b, o, h1, _, h3, h4⟩ := Leaf.row_at (L := i64L) (t := 22) (ht := Tryd.underlying22) (hc := cells22) h hi0 hz i x hx
  exact ⟨b, o, h1, h3, bounds_i64 h4⟩
theorem ints_len {n : Nat} {w : World} {us : List Value} {l : List Int} (h : intsS.lies n w us l) : ∃ a cap, us = [.slice a l.length cap] ∧ l.length ≤ cap ∧ l.length ≤ maxLen ∧ (a = none → l.length = 0) :=
  Leaf.row_len (L := i64L) (t := 22) (ht := Tryd.underlying22) (hc := cells22) h
theorem ints_in {n : Nat} {w : World} {us : List Value} {l : List Int} (h : intsS.lies n w us l) : ∀ x ∈ l, I64 x := by
  obtain ⟨_, _, _, h⟩ := h
  exact fun x hx => bounds_i64 (h x hx)
theorem ints_own {n : Nat} {w : World} {v : Value} {l : List Int} (h : intsS.owns n w [v] l) : w.ownsRow n 3 1 v l.length (l.map (Value.int .i64)) := by
  obtain ⟨v', hv, hC, _⟩ := h
  obtain rfl : v = v' := by simpa using hv
  exact hC
theorem ints_omk {n : Nat} {w : World} {v : Value} {l : List Int} (h : w.ownsRow n 3 1 v l.length (l.map (Value.int .i64))) (hi : ∀ x ∈ l, I64 x) : intsS.owns n w [v] l := ⟨v, rfl, h, fun x hx => (hi x hx).wf⟩

/-! Texts. -/

theorem texts_at {n : Nat} {w : World} {v : Value} {l : List (List Int)} (h : textsS.lies n w [v] l) (i : Nat) (t : List Int) (ht : l[i]? = some t) :
    ∃ b o u, (∀ W, (Instr.indexAt 23 v (.int .i64 i)).run Tryd.prog W = .ok (.pointer (some ⟨b, o, none⟩)) W) ∧ w.cell? ⟨b, o, none⟩ = some u ∧ Arg n w u t := by
  obtain ⟨i0, hi0, _, hz, _⟩ := info_parts info26
  obtain ⟨b, o, us, hix, _, hc, hl⟩ := Shape.list_at (S := bytesS) (ht := Tryd.underlying23) (hc := cells23) h (by decide) hi0 hz i t ht
  obtain ⟨u, rfl, _⟩ := id hl
  exact ⟨b, o, u, hix, hc 0 _ rfl, hl⟩
theorem texts_len {n : Nat} {w : World} {us : List Value} {l : List (List Int)} (h : textsS.lies n w us l) : ∃ a cap, us = [.slice a l.length cap] ∧ l.length ≤ cap ∧ l.length ≤ maxLen ∧ (a = none → l.length = 0) :=
  Shape.list_len (S := bytesS) (ht := Tryd.underlying23) (hc := cells23) h
theorem texts_oct {n : Nat} {w : World} {us : List Value} {l : List (List Int)} (h : textsS.lies n w us l) : ∀ t ∈ l, Oc t := by
  obtain ⟨v, vss, _, _, hE⟩ := h
  intro t ht
  obtain ⟨u, _, hu⟩ := hE.right ht
  obtain ⟨v', rfl, _⟩ := id hu
  exact Arg.oct (n0 := n) (w := w) (v := v') hu
theorem texts_own {n : Nat} {w : World} {us : List Value} {l : List (List Int)} (h : textsS.owns n w us l) : ∃ a cap vss, us = [.slice a l.length cap] ∧ w.ownsRow n 26 1 (.slice a l.length cap) l.length vss ∧ vss.length = l.length * 1 :=
  Shape.list_own (S := bytesS) (ht := Tryd.underlying23) (hc := cells23) h

/-! Records. -/

theorem rec_view {n : Nat} {w : World} {us : List Value} {r : Rc} (h : recF.lies n w us r) : ∃ a c b d, us = [.int .i64 r.1, .slice a r.2.1.length c, .slice b r.2.2.length d] ∧ intsS.lies n w [.slice a r.2.1.length c] r.2.1 ∧ textsS.lies n w [.slice b r.2.2.length d] r.2.2 ∧ I64 r.1 ∧ r.2.1.length ≤ maxLen ∧ r.2.2.length ≤ maxLen := by
  obtain ⟨u1, q, rfl, ⟨rfl, h1⟩, u2, u3, rfl, h2, h3⟩ := h
  obtain ⟨a, c, rfl, _, hm1, _⟩ := ints_len h2
  obtain ⟨b, d, rfl, _, hm2, _⟩ := texts_len h3
  exact ⟨a, c, b, d, rfl, h2, h3, bounds_i64 h1, hm1, hm2⟩
theorem rec_mk {n : Nat} {w : World} {x y : Value} {r : Rc} (h : intsS.lies n w [x] r.2.1) (h2 : textsS.lies n w [y] r.2.2) (h1 : I64 r.1) : recF.lies n w [.int .i64 r.1, x, y] r :=
  ⟨[_], [_, _], rfl, ⟨rfl, h1.wf⟩, [_], [_], rfl, h, h2⟩
theorem rec_own {n : Nat} {w : World} {us : List Value} {r : Rc} (h : recF.owns n w us r) : ∃ x y, us = [.int .i64 r.1, x, y] ∧ intsS.owns n w [x] r.2.1 ∧ textsS.owns n w [y] r.2.2 ∧ I64 r.1 := by
  obtain ⟨u1, q, rfl, ⟨rfl, h1⟩, u2, u3, rfl, h2, h3⟩ := h
  obtain ⟨v, rfl, _⟩ := id h2
  obtain ⟨v', _, rfl, _⟩ := id h3
  exact ⟨v, v', rfl, h2, h3, bounds_i64 h1⟩
theorem rec_omk {n : Nat} {w : World} {x y : Value} {r : Rc} (h : intsS.owns n w [x] r.2.1) (h2 : textsS.owns n w [y] r.2.2) (h1 : I64 r.1) : recF.owns n w [.int .i64 r.1, x, y] r :=
  ⟨[_], [_, _], rfl, ⟨rfl, h1.wf⟩, [_], [_], rfl, h, h2⟩

theorem get_lt {α : Type} {l : List α} {k : Nat} (h : k < l.length) : ∃ x, l[k]? = some x := ⟨_, List.getElem?_eq_getElem h⟩
theorem take_snoc {α : Type} {l : List α} {k : Nat} {x : α} (h : l[k]? = some x) : l.take (k + 1) = l.take k ++ [x] := by rw [List.take_add_one, h]; rfl

end Go.Proofs.YtfpllfjdgpcmdaaDoor
