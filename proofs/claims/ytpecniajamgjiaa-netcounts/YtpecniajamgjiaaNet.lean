/-
  Packets and networks, the program's and the document's, as data; how they lie in memory.
-/
import Derived.Test.YtpecniajamgjiaaShape
namespace Go.Proofs.Ytpecniajamgjiaa
open Go.RowKit

theorem Try.info5 : (Try.prog.info? 5).map (fun i => (i.zero, i.size, i.bytes)) = some (some (.int .u8 0), 1, 1) := by kernel_rfl
theorem Try.info3 : (Try.prog.info? 3).map (fun i => (i.zero, i.size, i.bytes)) = some (some (.int .i64 0), 1, 8) := by kernel_rfl
theorem Try.info27 : (Try.prog.info? 27).map (fun i => (i.zero, i.size, i.bytes)) = some (some (.agg #[.int .i64 0, .int .i64 0, .slice none 0 0]), 3, 40) := by kernel_rfl
theorem Try.info32 : (Try.prog.info? 32).map (fun i => (i.zero, i.size, i.bytes)) = some (some (.agg #[.int .i64 0, .int .i64 0, .slice none 0 0]), 3, 40) := by kernel_rfl

def I64 (x : Int) : Prop := -9223372036854775808 ≤ x ∧ x ≤ 9223372036854775807
theorem I64.wf {x : Int} (h : I64 x) : (Lit.int .i64 x).wf = true := by
  obtain ⟨h1, h2⟩ := h
  simp [Lit.wf, IntKind.min, IntKind.max, IntKind.signed, IntKind.bits]
  omega
def Oct (l : List Int) : Prop := ∀ x ∈ l, (Lit.int .u8 x).wf = true

def u8L : Leaf Int := intL .u8 5 Try.underlying5 (by kernel_rfl)
def i64L : Leaf Int := intL .i64 3 Try.underlying3 (by kernel_rfl)
def i64S : Shape Int := i64L.shape
def bytesS : Shape (List Int) := u8L.row 25 Try.underlying25 (by kernel_rfl)
def intsS : Shape (List Int) := i64L.row 49 Try.underlying49 (by kernel_rfl)

abbrev Pk := Int × Int × List Int
def pkF : Fields Pk := i64S.and (i64S.and bytesS.only)
def pkR : Shape Pk := pkF.struct 27 ⟨_, Try.underlying27, rfl, rfl⟩ (by kernel_rfl)
def pkN : Shape Pk := pkF.struct 32 ⟨_, Try.underlying32, rfl, rfl⟩ (by kernel_rfl)
theorem cells22 : Try.prog.cellsOf 22 = 1 := by kernel_rfl
def pksR : Shape (List Pk) := pkR.list 22 Try.underlying22 cells22
theorem cells28 : Try.prog.cellsOf 28 = 1 := by kernel_rfl
def pksN : Shape (List Pk) := pkN.list 28 Try.underlying28 cells28
abbrev St := Int × List Pk
def stR : Shape St := (i64S.and pksR.only).struct 24 ⟨_, Try.underlying24, rfl, rfl⟩ (by kernel_rfl)
def stN : Shape St := (i64S.and pksN.only).struct 30 ⟨_, Try.underlying30, rfl, rfl⟩ (by kernel_rfl)

/-! Octets. -/

def Arg (n0 : Nat) (w : World) (v : Value) (l : List Int) : Prop := bytesS.lies n0 w [v] l
theorem Arg.cells {n0 : Nat} {w : World} {v : Value} {l : List Int} (h : Arg n0 w v l) : Cells n0 w 1 v l.length (l.map (Value.int .u8)) := by
  obtain ⟨v', hv, hC, _⟩ := h
  obtain rfl : v = v' := by simpa using hv
  exact hC
theorem Arg.oct {n0 : Nat} {w : World} {v : Value} {l : List Int} (h : Arg n0 w v l) : Oct l := by
  obtain ⟨_, _, _, ho⟩ := h
  exact ho
theorem Arg.mk {n0 : Nat} {w : World} {v : Value} {l : List Int} (hC : Cells n0 w 1 v l.length (l.map (Value.int .u8))) (ho : Oct l) : Arg n0 w v l := ⟨v, rfl, hC, ho⟩
theorem Arg.keep {n0 : Nat} {w w' : World} {v : Value} {l : List Int} (h : Arg n0 w v l) (hs : Same n0 w w') : Arg n0 w' v l := bytesS.keep h hs
theorem Arg.below {n0 : Nat} {w w' : World} {v : Value} {l : List Int} (h : Arg n0 w v l) (hb : Below w.heap.size w w') : Arg n0 w' v l := h.keep (.of_below hb)
theorem Arg.weaken {n0 n1 : Nat} {w : World} {v : Value} {l : List Int} (h : Arg n0 w v l) (hn : n1 ≤ n0) : Arg n1 w v l := bytesS.weaken h hn
theorem Arg.shape {n0 : Nat} {w : World} {v : Value} {l : List Int} (h : Arg n0 w v l) : ∃ a cap, v = .slice a l.length cap ∧ l.length ≤ cap ∧ l.length ≤ maxLen ∧ (a = none → l.length = 0) := h.cells.shape
theorem Arg.split {n0 : Nat} {w : World} {v : Value} {l : List Int} (h : Arg n0 w v l) : (l = [] ∧ ∃ a cap, v = .slice a 0 cap) ∨ (∃ b off cap, v = .slice (some ⟨b, off, none⟩) l.length cap ∧ l.length ≤ cap ∧ l.length ≤ maxLen ∧ n0 ≤ b ∧ ∀ i, i < l.length → w.cell? ⟨b, off + i, none⟩ = some (.int .u8 (l.getD i 0))) := by
  by_cases h0 : l.length = 0
  · obtain ⟨a, cap, hv, _⟩ := h.shape
    exact .inl ⟨List.eq_nil_of_length_eq_zero h0, a, cap, by rw [hv, h0]⟩
  · right
    obtain ⟨b, o, cap, hv, h1, h2, h3, h4⟩ := h.cells.place (by omega) 0 (by omega)
    refine ⟨b, o, cap, hv, h1, h2, h3, fun i hi => ?_⟩
    have := h4 i (.int .u8 (l.getD i 0)) (by simp [hi])
    simpa using this

/-- Octets in a block of their own. -/
def Own1 (base : Nat) (w : World) (v : Value) (l : List Int) : Prop := bytesS.owns base w [v] l
theorem Own1.row {base : Nat} {w : World} {v : Value} {l : List Int} (h : Own1 base w v l) : w.ownsRow base 5 1 v l.length (l.map (Value.int .u8)) := by
  obtain ⟨v', hv, hC, _⟩ := h
  obtain rfl : v = v' := by simpa using hv
  exact hC
theorem Own1.mk {base : Nat} {w : World} {v : Value} {l : List Int} (h : w.ownsRow base 5 1 v l.length (l.map (Value.int .u8))) (ho : Oct l) : Own1 base w v l := ⟨v, rfl, h, ho⟩
theorem Own1.arg {base : Nat} {w : World} {v : Value} {l : List Int} (h : Own1 base w v l) : Arg base w v l := bytesS.olies h
theorem Own1.shape {base : Nat} {w : World} {v : Value} {l : List Int} (h : Own1 base w v l) : ∃ a cap, v = .slice a l.length cap := own_shape h.row

/-! Packets. -/

theorem pk_view {n : Nat} {w : World} {us : List Value} {p : Pk} (h : pkF.lies n w us p) : ∃ a cap, us = [.int .i64 p.1, .int .i64 p.2.1, .slice a p.2.2.length cap] ∧ Arg n w (.slice a p.2.2.length cap) p.2.2 ∧ I64 p.1 ∧ I64 p.2.1 := by
  obtain ⟨u1, r, rfl, ⟨rfl, h1⟩, u2, u3, rfl, ⟨rfl, h2⟩, v, rfl, hC, ho⟩ := h
  obtain ⟨a, cap, rfl, _⟩ := hC.shape
  exact ⟨a, cap, rfl, ⟨_, rfl, hC, ho⟩, bounds_i64 h1, bounds_i64 h2⟩
theorem pk_mk {n : Nat} {w : World} {v : Value} {p : Pk} (h : Arg n w v p.2.2) (h1 : I64 p.1) (h2 : I64 p.2.1) : pkF.lies n w [.int .i64 p.1, .int .i64 p.2.1, v] p :=
  ⟨[_], [_, _], rfl, ⟨rfl, h1.wf⟩, [_], [_], rfl, ⟨rfl, h2.wf⟩, h⟩
theorem pk_own {n : Nat} {w : World} {us : List Value} {p : Pk} (h : pkF.owns n w us p) : ∃ a cap, us = [.int .i64 p.1, .int .i64 p.2.1, .slice a p.2.2.length cap] ∧ Own1 n w (.slice a p.2.2.length cap) p.2.2 ∧ I64 p.1 ∧ I64 p.2.1 := by
  obtain ⟨u1, r, rfl, ⟨rfl, h1⟩, u2, u3, rfl, ⟨rfl, h2⟩, v, rfl, hC, ho⟩ := h
  obtain ⟨a, cap, rfl⟩ := own_shape hC
  exact ⟨a, cap, rfl, ⟨_, rfl, hC, ho⟩, bounds_i64 h1, bounds_i64 h2⟩
theorem pk_omk {n : Nat} {w : World} {v : Value} {p : Pk} (h : Own1 n w v p.2.2) (h1 : I64 p.1) (h2 : I64 p.2.1) : pkF.owns n w [.int .i64 p.1, .int .i64 p.2.1, v] p :=
  ⟨[_], [_, _], rfl, ⟨rfl, h1.wf⟩, [_], [_], rfl, ⟨rfl, h2.wf⟩, h⟩

/-! Networks. -/

theorem st_viewN {n : Nat} {w : World} {us : List Value} {s : St} (h : stN.lies n w us s) : ∃ a cap, us = [.int .i64 s.1, .slice a s.2.length cap] ∧ pksN.lies n w [.slice a s.2.length cap] s.2 ∧ I64 s.1 ∧ s.2.length ≤ maxLen := by
  obtain ⟨u1, u2, rfl, ⟨rfl, h1⟩, h2⟩ := h
  obtain ⟨a, cap, rfl, _, hm, _⟩ := Shape.list_len (S := pkN) (ht := Try.underlying28) (hc := cells28) h2
  exact ⟨a, cap, rfl, h2, bounds_i64 h1, hm⟩
theorem st_viewR {n : Nat} {w : World} {us : List Value} {s : St} (h : stR.lies n w us s) : ∃ a cap, us = [.int .i64 s.1, .slice a s.2.length cap] ∧ pksR.lies n w [.slice a s.2.length cap] s.2 ∧ I64 s.1 ∧ s.2.length ≤ maxLen := by
  obtain ⟨u1, u2, rfl, ⟨rfl, h1⟩, h2⟩ := h
  obtain ⟨a, cap, rfl, _, hm, _⟩ := Shape.list_len (S := pkR) (ht := Try.underlying22) (hc := cells22) h2
  exact ⟨a, cap, rfl, h2, bounds_i64 h1, hm⟩
theorem st_mkN {n : Nat} {w : World} {v : Value} {s : St} (h : pksN.lies n w [v] s.2) (h1 : I64 s.1) : stN.lies n w [.int .i64 s.1, v] s := ⟨[_], [_], rfl, ⟨rfl, h1.wf⟩, h⟩
theorem st_mkR {n : Nat} {w : World} {v : Value} {s : St} (h : pksR.lies n w [v] s.2) (h1 : I64 s.1) : stR.lies n w [.int .i64 s.1, v] s := ⟨[_], [_], rfl, ⟨rfl, h1.wf⟩, h⟩
theorem st_ownN {n : Nat} {w : World} {us : List Value} {s : St} (h : stN.owns n w us s) : ∃ a cap, us = [.int .i64 s.1, .slice a s.2.length cap] ∧ pksN.owns n w [.slice a s.2.length cap] s.2 ∧ I64 s.1 := by
  obtain ⟨u1, u2, rfl, ⟨rfl, h1⟩, h2⟩ := h
  obtain ⟨a, cap, _, rfl, _⟩ := Shape.list_own (S := pkN) (ht := Try.underlying28) (hc := cells28) h2
  exact ⟨a, cap, rfl, h2, bounds_i64 h1⟩
theorem st_ownR {n : Nat} {w : World} {us : List Value} {s : St} (h : stR.owns n w us s) : ∃ a cap, us = [.int .i64 s.1, .slice a s.2.length cap] ∧ pksR.owns n w [.slice a s.2.length cap] s.2 ∧ I64 s.1 := by
  obtain ⟨u1, u2, rfl, ⟨rfl, h1⟩, h2⟩ := h
  obtain ⟨a, cap, _, rfl, _⟩ := Shape.list_own (S := pkR) (ht := Try.underlying22) (hc := cells22) h2
  exact ⟨a, cap, rfl, h2, bounds_i64 h1⟩
theorem st_omkN {n : Nat} {w : World} {v : Value} {s : St} (h : pksN.owns n w [v] s.2) (h1 : I64 s.1) : stN.owns n w [.int .i64 s.1, v] s := ⟨[_], [_], rfl, ⟨rfl, h1.wf⟩, h⟩
theorem st_omkR {n : Nat} {w : World} {v : Value} {s : St} (h : pksR.owns n w [v] s.2) (h1 : I64 s.1) : stR.owns n w [.int .i64 s.1, v] s := ⟨[_], [_], rfl, ⟨rfl, h1.wf⟩, h⟩

/-- One packet of the packets: where it lies, and what it is. -/
theorem pks_atN {n : Nat} {w : World} {v : Value} {l : List Pk} (h : pksN.lies n w [v] l) (i : Nat) (p : Pk) (hp : l[i]? = some p) :
    ∃ b o a cap, (∀ W, (Instr.indexAt 28 v (.int .i64 i)).run Try.prog W = .ok (.pointer (some ⟨b, o, none⟩)) W) ∧ w.cell? ⟨b, o, none⟩ = some (.int .i64 p.1) ∧ w.cell? ⟨b, o + 1, none⟩ = some (.int .i64 p.2.1) ∧ w.cell? ⟨b, o + 2, none⟩ = some (.slice a p.2.2.length cap) ∧
      Arg n w (.slice a p.2.2.length cap) p.2.2 ∧ I64 p.1 ∧ I64 p.2.1 := by
  obtain ⟨i0, hi0, _, hz, _⟩ := info_parts Try.info32
  obtain ⟨b, o, us, hix, _, hc, hl⟩ := Shape.list_at (S := pkN) (ht := Try.underlying28) (hc := cells28) h (by decide) hi0 hz i p hp
  obtain ⟨a, cap, rfl, hA, h1, h2⟩ := pk_view hl
  exact ⟨b, o, a, cap, hix, hc 0 _ rfl, hc 1 _ rfl, hc 2 _ rfl, hA, h1, h2⟩
theorem pks_atR {n : Nat} {w : World} {v : Value} {l : List Pk} (h : pksR.lies n w [v] l) (i : Nat) (p : Pk) (hp : l[i]? = some p) :
    ∃ b o a cap, (∀ W, (Instr.indexAt 22 v (.int .i64 i)).run Try.prog W = .ok (.pointer (some ⟨b, o, none⟩)) W) ∧ w.cell? ⟨b, o, none⟩ = some (.int .i64 p.1) ∧ w.cell? ⟨b, o + 1, none⟩ = some (.int .i64 p.2.1) ∧ w.cell? ⟨b, o + 2, none⟩ = some (.slice a p.2.2.length cap) ∧
      Arg n w (.slice a p.2.2.length cap) p.2.2 ∧ I64 p.1 ∧ I64 p.2.1 := by
  obtain ⟨i0, hi0, _, hz, _⟩ := info_parts Try.info27
  obtain ⟨b, o, us, hix, _, hc, hl⟩ := Shape.list_at (S := pkR) (ht := Try.underlying22) (hc := cells22) h (by decide) hi0 hz i p hp
  obtain ⟨a, cap, rfl, hA, h1, h2⟩ := pk_view hl
  exact ⟨b, o, a, cap, hix, hc 0 _ rfl, hc 1 _ rfl, hc 2 _ rfl, hA, h1, h2⟩

/-! What may be. -/

def node (n : Int) : Bool := decide (0 ≤ n) && decide (n < 9)
def ferr (p : Pk) : Int := if (node p.1 && node p.2.1) = false then 4 else if 4096 < p.2.2.length then 5 else 0
def okP (p : Pk) : Bool := node p.1 && node p.2.1 && decide (p.2.2.length ≤ 4096)
theorem ferr_ok (p : Pk) : (ferr p = 0) ↔ okP p = true := by
  unfold ferr okP
  cases h : (node p.1 && node p.2.1)
  · simp
  · by_cases h2 : 4096 < p.2.2.length
    · have : ¬ p.2.2.length ≤ 4096 := by omega
      simp [h2]
    · have : p.2.2.length ≤ 4096 := by omega
      simp [this, h2]
def may (n : Int) : Bool := decide (1 ≤ n) && decide (n ≤ 4096)
def chk (s : St) : Bool := may s.1 && decide ((s.2.length : Int) ≤ s.1) && s.2.all okP
def cerr (s : St) : Int := if chk s then 0 else 9

theorem chk_facts {s : St} (h : chk s = true) : 1 ≤ s.1 ∧ s.1 ≤ 4096 ∧ (s.2.length : Int) ≤ s.1 ∧ ∀ p ∈ s.2, okP p = true := by
  simp only [chk, may, Bool.and_eq_true, decide_eq_true_eq, List.all_eq_true] at h
  exact ⟨h.1.1.1, h.1.1.2, h.1.2, h.2⟩

theorem take_all {α : Type} {p : α → Bool} {l : List α} (h : (l.take l.length).all p = true) : l.all p = true := by simpa using h
theorem take_step {α : Type} {p : α → Bool} {l : List α} {k : Nat} {x : α} (h : (l.take k).all p = true) (hx : l[k]? = some x) (hp : p x = true) : (l.take (k + 1)).all p = true := by
  rw [List.take_add_one, hx]
  simp only [List.all_append, h, Bool.true_and]
  simp [hp]
theorem all_not {α : Type} {p : α → Bool} {l : List α} {k : Nat} {x : α} (hx : l[k]? = some x) (hp : p x = false) : l.all p = false := by
  rw [← Bool.not_eq_true, List.all_eq_true]
  intro h
  have := h x (List.mem_of_getElem? hx)
  rw [hp] at this; cases this
theorem get_lt {α : Type} {l : List α} {k : Nat} (h : k < l.length) : ∃ x, l[k]? = some x := ⟨_, List.getElem?_eq_getElem h⟩
theorem take_snoc {α : Type} {l : List α} {k : Nat} {x : α} (h : l[k]? = some x) : l.take (k + 1) = l.take k ++ [x] := by rw [List.take_add_one, h]; rfl

end Go.Proofs.Ytpecniajamgjiaa
