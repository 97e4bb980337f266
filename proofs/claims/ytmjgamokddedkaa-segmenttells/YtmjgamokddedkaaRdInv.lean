/-
  What read's loop keeps: the blocks read so far, what is left, and its variables.
-/
import Derived.Test.YtmjgamokddedkaaRdMath
import Derived.Test.YtmjgamokddedkaaSeal
namespace Go.Proofs.Ytmjgamokddedkaa
open Go.RowKit Go.Shelf

theorem box_kept {A B : World} {row : Option Nat} {X k : Nat} {t : TypeId} {cs : Array Value} (h : Box A k t cs) (hg : A.grownBy B row) (hr : ∀ r, row = some r → X ≤ r ∧ ∃ o : Obj, A.heap[r]? = some o ∧ o.isCells = false) : Box B k t cs :=
  h.grown hg fun e => by
    obtain ⟨_, o, ho, hc⟩ := hr _ e.symm
    rw [show A.heap[k]? = _ from h] at ho
    cases ho
    cases hc
theorem clear_other {A : World} {row : Option Nat} {X : Nat} (hr : ∀ r, row = some r → X ≤ r ∧ ∃ o : Obj, A.heap[r]? = some o ∧ o.isCells = false) (ids : List TypeId) : Clear A row ids := fun g cs e fr h1 h2 _ => by
  obtain ⟨_, o, ho, hc⟩ := hr g h1
  rw [ho] at h2
  cases h2
  cases hc

/-- The variables of read. -/
def Vars (w : World) (W : World) (e : Int) : Prop := Box W w.heap.size 28 #[.int .i64 0, .slice none 0 0] ∧ Box W (w.heap.size + 1) 25 #[.slice none 0 0] ∧ Box W (w.heap.size + 1 + 1) 31 #[.int .i64 e]
/-- The blocks read, and what is left. -/
def Got (w : World) (B7 B8 : Nat) (q : Int) (bs : List Bk) (left : List Int) (ba : Option Addr) (bc : Nat) (la : Option Addr) (lc : Nat) (W : World) : Prop :=
  Box W B7 28 #[.int .i64 q, .slice ba bs.length bc] ∧ bksN.owns w.heap.size W [.slice ba bs.length bc] bs ∧ Box W B8 25 #[.slice la left.length lc] ∧ Arg 0 w (.slice la left.length lc) left ∧ Vars w W 0 ∧ Below w.heap.size w W
def RdI (w : World) (B7 B8 : Nat) (q : Int) (hh bl : List Int) (ks : List Nat) (W : World) : Prop := okK hh ks = true ∧ ∃ ba bc la lc, Got w B7 B8 q (rdF hh ks bl).1 (rdF hh ks bl).2 ba bc la lc W
def RdX (w : World) (hh : List Int) (ks : List Nat) (W : World) : Prop := okK hh ks = false ∧ Vars w W 9 ∧ Below w.heap.size w W
def RdA (w : World) (B7 B8 Bx : Nat) (q : Int) (hh bl : List Int) (ks : List Nat) (k : Nat) (W : World) : Prop := okK hh ks = true ∧ ∃ ba bc la lc, Got w B7 B8 q (rdF hh ks bl).1 (rdF hh ks bl).2 ba bc la lc W ∧ Box W Bx 58 #[.int .i64 (ow hh k), .int .i64 (ixn hh k), .slice none 0 0] ∧ (Value.slice ba (rdF hh ks bl).1.length bc).ownBlock ≠ some Bx

theorem Vars.grown {w A B : World} {e : Int} {row : Option Nat} {X : Nat} (h : Vars w A e) (hg : A.grownBy B row) (hr : ∀ r, row = some r → X ≤ r ∧ ∃ o : Obj, A.heap[r]? = some o ∧ o.isCells = false) : Vars w B e := ⟨box_kept h.1 hg hr, box_kept h.2.1 hg hr, box_kept h.2.2 hg hr⟩
theorem Got.grown {w A B : World} {B7 B8 : Nat} {q : Int} {bs : List Bk} {left : List Int} {ba : Option Addr} {bc : Nat} {la : Option Addr} {lc : Nat} {row : Option Nat} {X : Nat} (hX : w.heap.size ≤ X) (h : Got w B7 B8 q bs left ba bc la lc A) (hg : A.grownBy B row) (hr : ∀ r, row = some r → X ≤ r ∧ ∃ o : Obj, A.heap[r]? = some o ∧ o.isCells = false) : Got w B7 B8 q bs left ba bc la lc B :=
  ⟨box_kept h.1 hg hr, bksN.ogrown h.2.1 hg (clear_other hr _), box_kept h.2.2.1 hg hr, h.2.2.2.1, h.2.2.2.2.1.grown hg hr, h.2.2.2.2.2.grown hg h.2.2.2.2.2.size (fun k e => by have := (hr k e).1; omega)⟩
theorem Vars.below {w A B : World} {e : Int} (h : Vars w A e) (hb : Below A.heap.size A B) : Vars w B e := ⟨h.1.below hb h.1.lt, h.2.1.below hb h.2.1.lt, h.2.2.below hb h.2.2.lt⟩
theorem Got.below {w A B : World} {B7 B8 : Nat} {q : Int} {bs : List Bk} {left : List Int} {ba : Option Addr} {bc : Nat} {la : Option Addr} {lc : Nat} (h : Got w B7 B8 q bs left ba bc la lc A) (hb : Below A.heap.size A B) : Got w B7 B8 q bs left ba bc la lc B :=
  ⟨h.1.below hb h.1.lt, bksN.obelow h.2.1 hb, h.2.2.1.below hb h.2.2.1.lt, h.2.2.2.1, h.2.2.2.2.1.below hb, below_any h.2.2.2.2.2 hb⟩
theorem rdI_own {w : World} {B7 B8 c X : Nat} {q : Int} {hh bl : List Int} (hX : w.heap.size ≤ X) : OwnFrom X (fun (pre : List (Ix c)) W => RdI w B7 B8 q hh bl (pre.map (·.1)) W) := fun _ _ _ _ hs hg hr => by
  obtain ⟨h1, ba, bc, la, lc, h2⟩ := hs
  exact ⟨h1, ba, bc, la, lc, h2.grown hX hg hr⟩
theorem rdX_own {w : World} {c X : Nat} {hh : List Int} (hX : w.heap.size ≤ X) : OwnFrom X (fun (pre : List (Ix c)) W => RdX w hh (pre.map (·.1)) W) := fun _ _ _ _ hs hg hr =>
  ⟨hs.1, hs.2.1.grown hg hr, hs.2.2.grown hg hs.2.2.size (fun k e => by have := (hr k e).1; omega)⟩
theorem rdA_grown {w A B : World} {B7 B8 Bx : Nat} {q : Int} {hh bl : List Int} {ks : List Nat} {k : Nat} {row : Option Nat} {X : Nat} (hX : w.heap.size ≤ X) (h : RdA w B7 B8 Bx q hh bl ks k A) (hg : A.grownBy B row) (hr : ∀ r, row = some r → X ≤ r ∧ ∃ o : Obj, A.heap[r]? = some o ∧ o.isCells = false) : RdA w B7 B8 Bx q hh bl ks k B := by
  obtain ⟨h1, ba, bc, la, lc, h2, h3, h4⟩ := h
  exact ⟨h1, ba, bc, la, lc, h2.grown hX hg hr, box_kept h3 hg hr, h4⟩

/-- A store into a variable that is no row of theirs. -/
theorem bks_set {W : World} {base Bx i : Nat} {u v : Value} {l : List Bk} {cs : Array Value} {t : TypeId} (h : bksN.owns base W [v] l) (hne : v.ownBlock ≠ some Bx) (hb : Box W Bx t cs) (ht : t ≠ 5) : bksN.owns base (W.setCell ⟨Bx, i, none⟩ u) [v] l := by
  obtain ⟨v', vss, hv, hr, hE⟩ := h
  obtain rfl : v = v' := by simpa using hv
  exact ⟨v, vss, rfl, hr.kept (grown_set W Bx i u) (.inr hne), hE.mono fun _ _ h => bkN.ogrown h (grown_set W Bx i u) (hb.clear (by simpa [bkN, bkF, Fields.struct, Shape.and, Shape.only, i64S, Leaf.shape, bytesS, Leaf.row, u8L, intL] using ht))⟩
theorem bks_ne {W : World} {base B : Nat} {v : Value} {l : List Bk} {cs : Array Value} {t : TypeId} (h : bksN.owns base W [v] l) (hb : Box W B t cs) (ht : t ≠ 58) : v.ownBlock ≠ some B := by
  obtain ⟨v', vss, hv, hr, hE⟩ := h
  obtain rfl : v = v' := by simpa using hv
  exact fun e => hb.apart hr ht e.symm

end Go.Proofs.Ytmjgamokddedkaa
