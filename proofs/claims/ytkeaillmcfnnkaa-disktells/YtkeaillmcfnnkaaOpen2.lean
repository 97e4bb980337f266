/-
  From what the form reads of lists of numbers, of truths and of octets to what the walks ask of them.
-/
import Derived.Test.YtkeaillmcfnnkaaOpen
import Derived.Deep.Slices
namespace Go.Proofs.Ytkeaillmcfnnkaa
open Go.ChangeShapes Go.WideShapes Go.ChangeAt Go.RowKit Go.Deep

theorem cells26 : Try.prog.cellsOf 26 = 1 := by kernel_rfl
theorem cells3 : Try.prog.cellsOf 3 = 1 := by kernel_rfl
theorem cells4 : Try.prog.cellsOf 4 = 1 := by kernel_rfl

/-- A list of one-cell elements: each is as its own reading says. -/
theorem each_trod {α : Type} [Inhabited α] {H : Type} {enc : TypeId × Value → H} {W : World} {t e : TypeId} {fuel : Nat} {cs : List Value} {x : DataW H × List MemPlace} (ht : Try.prog.underlying t = some (.slice e)) (hc : Try.prog.cellsOf e = 1)
    (hf : DataW.trod enc Try.prog W 0 (fun _ => true) true fuel t cs = some x) (R : Value → α → DataW H → Prop)
    (one : ∀ (n : Nat) (v : Value) (y : DataW H × List MemPlace), DataW.trod enc Try.prog W 0 (fun _ => true) true n e [v] = some y → ∃ a, R v a y.1) :
    ∃ (v : Value) (us : List Value) (xs : List α), cs = [v] ∧ Cells 0 W 1 v xs.length us ∧ Each (fun u a => ∃ d, R u a d) us xs ∧
      ((x.1 = .nil ∧ xs = []) ∨ ∃ (ds rest : List (DataW H)), x.1 = .slice ds rest ∧ Each (fun a d => ∃ u, R u a d) xs ds) := by
  rcases open_slice1 ht hc hf with ⟨rfl, rfl⟩ | ⟨a, len, cap, m, n, V, D, Pl, rfl, _, hl, hm, hmm, rfl, hx⟩
  · exact ⟨_, [], [], rfl, ⟨rfl, .inl ⟨rfl, rfl⟩⟩, trivial, .inl ⟨rfl, rfl⟩⟩
  · simp only [if_true] at hmm
    subst hmm
    obtain ⟨A, hA⟩ := choose_lt (n := len) (p := fun i (a : α) => R (V i) a (D i)) (fun i hi => one n _ _ (hx i (by omega)).2)
    refine ⟨_, (List.range len).map V, (List.range len).map A, rfl, ⟨by simp, .inr ⟨a, m, by simp, by simpa using hl, by simp; omega, Nat.zero_le _, fun i u hu => ?_⟩⟩, ?_, .inr ⟨_, _, rfl, ?_⟩⟩
    · have hi : i < len := by
        have := (List.getElem?_eq_some_iff.1 hu).1
        simpa using this
      rw [List.getElem?_map, List.getElem?_range hi] at hu
      obtain rfl : V i = u := by simpa using hu
      exact (hx i (by omega)).1
    · refine each_of (by simp) fun i u y hu hy => ?_
      have hi : i < len := by
        have := (List.getElem?_eq_some_iff.1 hu).1
        simpa using this
      rw [List.getElem?_map, List.getElem?_range hi] at hu hy
      obtain rfl : V i = u := by simpa using hu
      obtain rfl : A i = y := by simpa using hy
      exact ⟨_, hA i hi⟩
    · refine each_of (by simp) fun i y d hy hd => ?_
      have hi : i < len := by
        have := (List.getElem?_eq_some_iff.1 hy).1
        simpa using this
      rw [List.getElem?_map, List.getElem?_range hi] at hy hd
      obtain rfl : A i = y := by simpa using hy
      obtain rfl : D i = d := by simpa using hd
      exact ⟨_, hA i hi⟩

def Ints (n0 : Nat) (w : World) (v : Value) (zs : List Int) : Prop := Cells n0 w 1 v zs.length (zs.map (Value.int .i64))

theorem each_map {α : Type} {f : α → Value} {R : Value → α → Prop} (h : ∀ u a, R u a → u = f a) : ∀ {us : List Value} {xs : List α}, Each R us xs → us = xs.map f
  | [], [], _ => rfl
  | _ :: _, _ :: _, h1 => by rw [h _ _ h1.1, each_map h h1.2]; rfl
  | [], _ :: _, h1 => h1.elim
  | _ :: _, [], h1 => h1.elim

theorem ints_of {H : Type} {enc : TypeId × Value → H} {W : World} {a : Option Addr} {len cap : Nat} {d : DataW H} {p : List MemPlace}
    (h : DataW.Trod enc Try.prog W 0 (fun _ => true) true 56 (.slice a len cap) d p) : ∃ zs, Ints 0 W (.slice a len cap) zs := by
  obtain ⟨fuel, hf⟩ := h
  obtain ⟨v, us, xs, hv, hC, hE, _⟩ := each_trod (α := Int) Try.underlying56 cells3 hf (fun v z _ => v = .int .i64 z) (fun n v y hy => by
    obtain ⟨z, h1, _⟩ := DataW.trod_int Try.underlying3 hy
    exact ⟨z, by simpa using h1⟩)
  obtain rfl : Value.slice a len cap = v := by simpa [Value.cells] using hv
  refine ⟨xs, ?_⟩
  have := each_map (f := Value.int .i64) (fun u a ⟨_, h⟩ => h) hE
  subst this
  exact hC

theorem bools_of {H : Type} {enc : TypeId × Value → H} {W : World} {a : Option Addr} {len cap : Nat} {d : DataW H} {p : List MemPlace}
    (h : DataW.Trod enc Try.prog W 0 (fun _ => true) true 27 (.slice a len cap) d p) : ∃ bl, Bools 0 W (.slice a len cap) bl := by
  obtain ⟨fuel, hf⟩ := h
  obtain ⟨v, us, xs, hv, hC, hE, _⟩ := each_trod (α := Bool) Try.underlying27 cells4 hf (fun v z _ => v = .bool z) (fun n v y hy => by
    obtain ⟨z, h1, _⟩ := DataW.trod_bool Try.underlying4 hy
    exact ⟨z, by simpa using h1⟩)
  obtain rfl : Value.slice a len cap = v := by simpa [Value.cells] using hv
  refine ⟨xs, ?_⟩
  have := each_map (f := Value.bool) (fun u a ⟨_, h⟩ => h) hE
  subst this
  exact hC

/-- Lists of octets, and how long each can be. -/
theorem lists_trod {H : Type} {enc : TypeId × Value → H} {W : World} {fuel : Nat} {cs : List Value} {x : DataW H × List MemPlace} (hf : DataW.trod enc Try.prog W 0 (fun _ => true) true fuel 22 cs = some x) :
    ∃ v ls, cs = [v] ∧ Lists 0 W v ls ∧ ((x.1 = .nil ∧ ls = []) ∨ ∃ (ds rest : List (DataW H)), x.1 = .slice ds rest ∧ Each (fun (l : List Int) d => (d = .nil ∧ l = []) ∨ ∃ r, d = .slice (lits .u8 l) r) ls ds) := by
  obtain ⟨v, us, xs, hv, hC, hE, hx⟩ := each_trod (α := List Int) Try.underlying22 cells26 hf (fun v l d => Arg 0 W v l ∧ ((d = .nil ∧ l = []) ∨ ∃ r, d = .slice (lits .u8 l) r)) (fun n v y hy => by
    obtain ⟨l, v', h1, h2, h3⟩ := arg_trod hy
    obtain rfl : v = v' := by simpa using h1
    exact ⟨l, h2, h3⟩)
  refine ⟨v, xs, hv, ⟨us, hC, hE.mono fun u a ⟨_, h⟩ => h.1⟩, ?_⟩
  rcases hx with hx | ⟨ds, rest, hx, hE2⟩
  · exact .inl hx
  · exact .inr ⟨ds, rest, hx, hE2.mono fun a d ⟨_, h⟩ => h.2⟩

theorem lists_of {H : Type} {enc : TypeId × Value → H} {W : World} {a : Option Addr} {len cap : Nat} {d : DataW H} {p : List MemPlace}
    (h : DataW.Trod enc Try.prog W 0 (fun _ => true) true 22 (.slice a len cap) d p) : ∃ ls, Lists 0 W (.slice a len cap) ls := by
  obtain ⟨fuel, hf⟩ := h
  obtain ⟨v, ls, hv, hL, _⟩ := lists_trod hf
  obtain rfl : Value.slice a len cap = v := by simpa [Value.cells] using hv
  exact ⟨ls, hL⟩

end Go.Proofs.Ytkeaillmcfnnkaa
