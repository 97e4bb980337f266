/-
  Texts and lists of texts as data; how they lie in memory.
-/
import Derived.Test.YtedbnmiedknfjaaFrame
namespace Go.Proofs.Ytedbnmiedknfjaa
open Go.RowKit

theorem Try.info9 : (Try.prog.info? 9).map (fun i => (i.zero, i.size, i.bytes)) = some (some (.string ⟨#[]⟩), 1, 16) := by kernel_rfl
theorem Try.info3 : (Try.prog.info? 3).map (fun i => (i.zero, i.size, i.bytes)) = some (some (.int .i64 0), 1, 8) := by kernel_rfl

def i64L : Leaf Int := intL .i64 3 Try.underlying3 (by kernel_rfl)
def strL : Leaf ByteArray where
  ty := 9
  val := .string
  ok s := s.size ≤ maxLen
  cells := by kernel_rfl
  one _ := rfl
  reads h := by
    obtain ⟨s, h1, _, h3⟩ := DataW.trod_string Try.underlying9 h
    exact ⟨s, h1, h3⟩
def textsS : Shape (List ByteArray) := strL.row 22 Try.underlying22 (by kernel_rfl)
def intsS : Shape (List Int) := i64L.row 48 Try.underlying48 (by kernel_rfl)

/-- The cells of texts. -/
def tv (l : List ByteArray) : List Value := l.map Value.string
theorem tv_one (l : List ByteArray) : ∀ u ∈ tv l, u.oneCell' = true := fun u hu => by
  obtain ⟨y, _, rfl⟩ := List.mem_map.1 hu
  rfl

/-- All of them are as long as a text may be. -/
def TOk (l : List ByteArray) : Prop := ∀ s ∈ l, s.size ≤ maxLen
theorem TOk.snoc {l : List ByteArray} {s : ByteArray} (h : TOk l) (hs : s.size ≤ maxLen) : TOk (l ++ [s]) := fun q hq => by
  rcases List.mem_append.1 hq with hq | hq
  · exact h q hq
  · rw [List.mem_singleton.1 hq]; exact hs
theorem TOk.take {l : List ByteArray} (h : TOk l) (k : Nat) : TOk (l.take k) := fun q hq => h q (List.mem_of_mem_take hq)
theorem TOk.get {l : List ByteArray} (h : TOk l) {i : Nat} {p : ByteArray} (hp : l[i]? = some p) : p.size ≤ maxLen := h p (List.mem_of_getElem? hp)

/-- A slice shows these texts, in blocks from n on. -/
def ArgT (n : Nat) (w : World) (v : Value) (l : List ByteArray) : Prop := Cells n w 1 v l.length (tv l) ∧ TOk l
theorem ArgT.keep {n : Nat} {w w' : World} {v : Value} {l : List ByteArray} (h : ArgT n w v l) (hs : Same n w w') : ArgT n w' v l := ⟨h.1.keep hs, h.2⟩
theorem ArgT.below {n : Nat} {w w' : World} {v : Value} {l : List ByteArray} (h : ArgT n w v l) (hb : Below w.heap.size w w') : ArgT n w' v l := h.keep (.of_below hb)
theorem ArgT.weaken {n m : Nat} {w : World} {v : Value} {l : List ByteArray} (h : ArgT n w v l) (hn : m ≤ n) : ArgT m w v l := ⟨h.1.weaken hn, h.2⟩
theorem ArgT.shape {n : Nat} {w : World} {v : Value} {l : List ByteArray} (h : ArgT n w v l) : ∃ a cap, v = .slice a l.length cap ∧ l.length ≤ cap ∧ l.length ≤ maxLen ∧ (a = none → l.length = 0) := h.1.shape
theorem ArgT.nil (n : Nat) (w : World) : ArgT n w (.slice none 0 0) [] := ⟨⟨rfl, .inl ⟨rfl, rfl⟩⟩, fun _ h => by cases h⟩
theorem ArgT.at {n : Nat} {w : World} {v : Value} {l : List ByteArray} (h : ArgT n w v l) (i : Nat) (p : ByteArray) (hp : l[i]? = some p) :
    ∃ b o, (∀ W, (Instr.indexAt 22 v (.int .i64 i)).run Try.prog W = .ok (.pointer (some ⟨b, o, none⟩)) W) ∧ n ≤ b ∧ w.cell? ⟨b, o, none⟩ = some (.string p) := by
  obtain ⟨i0, hi0, _, hz, _⟩ := info_parts Try.info9
  obtain ⟨b, o, hix, hb, hc⟩ := h.1.index (by omega) Try.underlying22 hi0 hz i (List.getElem?_eq_some_iff.1 hp).1
  exact ⟨b, o, hix, hb, hc 0 _ (by simp [tv, hp])⟩
theorem ArgT.split {n : Nat} {w : World} {v : Value} {l : List ByteArray} (h : ArgT n w v l) : (l = [] ∧ v = .slice none 0 0) ∨ (l = [] ∧ ∃ a cap, v = .slice (some a) 0 cap) ∨ (∃ b off cap, v = .slice (some ⟨b, off, none⟩) l.length cap ∧ l.length ≤ cap ∧ l.length ≤ maxLen ∧ n ≤ b ∧ l ≠ [] ∧ ∀ (i : Nat) x, l[i]? = some x → w.cell? ⟨b, off + i, none⟩ = some (.string x)) := by
  by_cases h0 : l.length = 0
  · have e := List.eq_nil_of_length_eq_zero h0
    obtain ⟨_, ⟨hv, _⟩ | ⟨x, cap, hv, _⟩⟩ := h.1
    · exact .inl ⟨e, hv⟩
    · exact .inr (.inl ⟨e, x, cap, by rw [hv, h0]⟩)
  · refine .inr (.inr ?_)
    obtain ⟨b, o, cap, hv, h1, h2, h3, h4⟩ := h.1.place (by omega) 0 (by omega)
    refine ⟨b, o, cap, hv, h1, h2, h3, fun e => h0 (by rw [e]; rfl), fun i x hx => ?_⟩
    have := h4 i (.string x) (by simp [tv, hx])
    simpa using this

/-- Texts in a block of their own. -/
def OwnT (base : Nat) (w : World) (v : Value) (l : List ByteArray) : Prop := w.ownsRow base 9 1 v l.length (tv l) ∧ TOk l
theorem OwnT.arg {base : Nat} {w : World} {v : Value} {l : List ByteArray} (h : OwnT base w v l) : ArgT base w v l := ⟨.own h.1, h.2⟩
theorem OwnT.below {base : Nat} {w w' : World} {v : Value} {l : List ByteArray} (h : OwnT base w v l) (hb : Below w.heap.size w w') : OwnT base w' v l := ⟨own_below h.1 hb, h.2⟩
theorem OwnT.same {base : Nat} {w w' : World} {v : Value} {l : List ByteArray} (h : OwnT base w v l) (hs : Same base w w') : OwnT base w' v l := ⟨own_same h.1 hs, h.2⟩
theorem OwnT.weaken {base m : Nat} {w : World} {v : Value} {l : List ByteArray} (h : OwnT base w v l) (hn : m ≤ base) : OwnT m w v l := ⟨own_weaken h.1 hn, h.2⟩
theorem OwnT.shape {base : Nat} {w : World} {v : Value} {l : List ByteArray} (h : OwnT base w v l) : ∃ a cap, v = .slice a l.length cap := own_shape h.1
theorem OwnT.nil (base : Nat) (w : World) : OwnT base w (.slice none 0 0) [] := ⟨World.ownsRow_nil _ _ _ _, fun _ h => by cases h⟩

/-! From the form's reading. -/

theorem texts_of {n : Nat} {w : World} {v : Value} {l : List ByteArray} (h : textsS.lies n w [v] l) : ArgT n w v l := by
  obtain ⟨v', hv, hC, ho⟩ := h
  obtain rfl : v = v' := by simpa using hv
  exact ⟨hC, ho⟩
theorem texts_fit {l : List ByteArray} (h : textsS.fits l) : l.length * 16 ≤ 140737488351232 := by
  have b9 : Try.prog.bytesOf 9 = 16 := by kernel_rfl
  have h3 : l.length * Try.prog.bytesOf 9 ≤ 140737488351232 := h
  rwa [b9] at h3

theorem get_lt {α : Type} {l : List α} {k : Nat} (h : k < l.length) : ∃ x, l[k]? = some x := ⟨_, List.getElem?_eq_getElem h⟩
theorem take_snoc {α : Type} {l : List α} {k : Nat} {x : α} (h : l[k]? = some x) : l.take (k + 1) = l.take k ++ [x] := by rw [List.take_add_one, h]; rfl

end Go.Proofs.Ytedbnmiedknfjaa
