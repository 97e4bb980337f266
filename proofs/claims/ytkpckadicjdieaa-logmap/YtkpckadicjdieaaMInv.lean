/-
  What the law LogMap holds while it plays its steps.
-/
import Derived.Test.YtkpckadicjdieaaZ17
import Derived.Test.YtkpckadicjdieaaZ6
import Derived.Test.YtkpckadicjdieaaZ15
import Derived.Test.YtkpckadicjdieaaZ14
import Derived.Deep.CutBlock
namespace Go.Proofs.Ytkpckadicjdieaa
open Go.RowKit
set_option linter.unusedVariables false

theorem wrap_is (x z : Int) (h : z = wrap64 x) : IntKind.i64.wrap x = z := by
  rw [h, wrap64]
  exact IntKind.wrap_i64 x
theorem row_set {w : World} {base : Nat} {e : TypeId} {size : Nat} {v : Value} {n : Nat} {xs : List Value} (h : w.ownsRow base e size v n xs) {B : Nat} {t : TypeId} {cs : Array Value} (hB : Box w B t cs) (ht : t ≠ e) (i : Nat) (x : Value) : (w.setCell ⟨B, i, none⟩ x).ownsRow base e size v n xs :=
  h.kept (grown_set w B i x) (by
    rcases h.2 with ⟨rfl, _⟩ | ⟨g, cap, cur, rfl, _⟩
    · exact .inl rfl
    · exact .inr fun e' => hB.apart h ht e'.symm)
theorem BR.set4 {w0 w : World} {base : Nat} {v : Value} {L : List Bk} (h : BR w0 w base v L) {B : Nat} {cs : Array Value} (hB : Box w B 33 cs) (u1 u2 u3 u4 : Value) : BR w0 ((((w.setCell ⟨B, 0, none⟩ u1).setCell ⟨B, 1, none⟩ u2).setCell ⟨B, 2, none⟩ u3).setCell ⟨B, 3, none⟩ u4) base v L := by
  obtain ⟨vss, h1, h2⟩ := h
  exact ⟨vss, row_set (row_set (row_set (row_set h1 hB (by decide) 0 u1) (hB.set 0 u1) (by decide) 1 u2) ((hB.set 0 u1).set 1 u2) (by decide) 2 u3) (((hB.set 0 u1).set 1 u2).set 2 u3) (by decide) 3 u4, h2⟩
theorem box_four' {w : World} {B : Nat} {t : TypeId} {a b c d : Value} (h : Box w B t #[a, b, c, d]) (u v y z : Value) : Box ((((w.setCell ⟨B, 0, none⟩ u).setCell ⟨B, 1, none⟩ v).setCell ⟨B, 2, none⟩ y).setCell ⟨B, 3, none⟩ z) B t #[u, v, y, z] := (((h.set 0 u).set 1 v).set 2 y).set 3 z
/-- What the law holds: the log in its variable, and what is wanted of it. -/
def LI (w : World) (B : Nat) (t : St) (ux : List Value) (v : Value) (L : List Bk) (wr : World) : Prop :=
  Below w.heap.size w wr ∧ Box wr B 33 ux.toArray ∧ (∃ b, stN.owns b wr ux t) ∧ BR w wr w.heap.size v L ∧ Ok t ∧ Wnt t L
theorem LI.below {w : World} {B : Nat} {t : St} {ux : List Value} {v : Value} {L : List Bk} {wr wr' : World} (h : LI w B t ux v L wr) (hb : Below wr.heap.size wr wr') : LI w B t ux v L wr' :=
  ⟨below_any h.1 hb, h.2.1.below hb h.2.1.lt, let ⟨b, h9⟩ := h.2.2.1; ⟨b, stN.obelow h9 hb⟩, h.2.2.2.1.below hb, h.2.2.2.2⟩
/-- Another log in the variable. -/
theorem LI.set {w : World} {B : Nat} {t t' : St} {x1 x2 x3 x4 y1 y2 y3 y4 : Value} {v : Value} {L : List Bk} {wr : World} {b' : Nat} (h : LI w B t [x1, x2, x3, x4] v L wr) (hB : w.heap.size ≤ B) (ho : stN.owns b' wr [y1, y2, y3, y4] t') (hk : Ok t') (hw : ∀ L', Wnt t L' → Wnt t' L') :
    LI w B t' [y1, y2, y3, y4] v L ((((wr.setCell ⟨B, 0, none⟩ y1).setCell ⟨B, 1, none⟩ y2).setCell ⟨B, 2, none⟩ y3).setCell ⟨B, 3, none⟩ y4) :=
  ⟨below_set4 h.1 hB _ _ _ _, box_four' h.2.1 _ _ _ _, ⟨b', own_set4 stN (by decide) ho h.2.1 _ _ _ _⟩, h.2.2.2.1.set4 h.2.1 _ _ _ _, hk, hw _ h.2.2.2.2.2⟩
/-- While the list is made anew: the log put to, the elder list, the new one's beginning. -/
def LP (w : World) (B : Nat) (t : St) (ux : List Value) (v : Value) (L : List Bk) (bs : Nat) (v' : Value) (M : List Bk) (wr : World) : Prop :=
  Below w.heap.size w wr ∧ Box wr B 33 ux.toArray ∧ (∃ b, stN.owns b wr ux t) ∧ BR w wr w.heap.size v L ∧ (∀ g, v.ownBlock = some g → g < bs) ∧ BR w wr bs v' M ∧ w.heap.size ≤ bs ∧ bs ≤ wr.heap.size
theorem LP.below {w : World} {B : Nat} {t : St} {ux : List Value} {v : Value} {L : List Bk} {bs : Nat} {v' : Value} {M : List Bk} {wr wr' : World} (h : LP w B t ux v L bs v' M wr) (hb : Below wr.heap.size wr wr') : LP w B t ux v L bs v' M wr' :=
  ⟨below_any h.1 hb, h.2.1.below hb h.2.1.lt, let ⟨b, h9⟩ := h.2.2.1; ⟨b, stN.obelow h9 hb⟩, h.2.2.2.1.below hb, h.2.2.2.2.1, h.2.2.2.2.2.1.below hb, h.2.2.2.2.2.2.1, by have := h.2.2.2.2.2.2.2; have := hb.size; omega⟩
theorem row_clear {w : World} {base : Nat} {v : Value} {n : Nat} {xs : List Value} (h : w.ownsRow base 29 3 v n xs) : Clear w v.ownBlock stN.ids := Clear.own h (by decide)
theorem grow_keep {w w0 wr w3 : World} {bs : Nat} {v : Value} {M : List Bk} (h : BR w0 wr bs v M) (hg : wr.grownBy w3 v.ownBlock) {B : Nat} {cs : Array Value} (hB : Box wr B 33 cs) {b : Nat} {ux : List Value} {t : St} (ho : stN.owns b wr ux t) (hb : Below w.heap.size w wr) (hs : w.heap.size ≤ bs) (hs2 : bs ≤ wr.heap.size) :
    Below w.heap.size w w3 ∧ Box w3 B 33 cs ∧ stN.owns b w3 ux t := by
  obtain ⟨xs, hr⟩ := h.row
  exact ⟨hb.grown hg hb.size (fun k e => by have := (hr.lt k e).1; omega), hB.grown hg (hB.apart hr (by decide)), stN.ogrown ho hg (row_clear hr)⟩
/-- One block more of the new list. -/
theorem LP.push {w : World} {B : Nat} {t : St} {ux : List Value} {v : Value} {L : List Bk} {bs : Nat} {v' : Value} {M : List Bk} {wr w3 : World} {v3 : Value} {M' : List Bk} (h : LP w B t ux v L bs v' M wr) (hg : wr.grownBy w3 v'.ownBlock) (h3 : BR w w3 bs v3 M') : LP w B t ux v L bs v3 M' w3 := by
  obtain ⟨h1, h2, ⟨b, h3'⟩, h4, h5, h6, h7, h8⟩ := h
  obtain ⟨k1, k2, k3⟩ := grow_keep h6 hg h2 h3' h1 h7 h8
  refine ⟨k1, k2, ⟨b, k3⟩, ?_, h5, h3, h7, by have := hg.size; omega⟩
  obtain ⟨vss, r1, r2⟩ := h4
  obtain ⟨xs, hr⟩ := h6.row
  refine ⟨vss, r1.kept hg ?_, r2⟩
  rcases r1.2 with ⟨rfl, _⟩ | ⟨g, cap, cur, rfl, _⟩
  · exact .inl rfl
  · refine .inr fun e => ?_
    have e1 : (Value.slice (some ⟨g, 0, none⟩) L.length cap).ownBlock = some g := rfl
    have := h5 g e1
    rw [e1] at e
    have := (hr.lt g e.symm).1
    omega
/-- The new list in the elder one's place. -/
theorem LP.done {w : World} {B : Nat} {t : St} {ux : List Value} {v : Value} {L : List Bk} {bs : Nat} {v' : Value} {M : List Bk} {wr : World} (h : LP w B t ux v L bs v' M wr) (hk : Ok t) (hw : Wnt t M) : LI w B t ux v' M wr := ⟨h.1, h.2.1, h.2.2.1, h.2.2.2.2.2.1.weaken h.2.2.2.2.2.2.1, hk, hw⟩
/-- And with one more behind. -/
theorem LP.last {w : World} {B : Nat} {t : St} {ux : List Value} {v : Value} {L : List Bk} {bs : Nat} {v' : Value} {M : List Bk} {wr w3 : World} {v3 : Value} {M' : List Bk} (h : LP w B t ux v L bs v' M wr) (hg : wr.grownBy w3 v'.ownBlock) (h3 : BR w w3 bs v3 M') (hk : Ok t) (hw : Wnt t M') : LI w B t ux v3 M' w3 := (h.push hg h3).done hk hw
theorem st_oflat {b : Nat} {w : World} {us : List Value} {s : St} (h : stN.owns b w us s) : ∃ a n1 c b' m d e k f q, us = [.slice a n1 c, .slice b' m d, .slice e k f, .int .i64 q] ∧ k = s.2.2.1.length ∧ k ≤ 9223372036854775807 := by
  obtain ⟨a, n1, c, b', m, d, e, k, f, q, rfl⟩ := st_fl h
  exact ⟨a, n1, c, b', m, d, e, k, f, q, rfl, (st_len (stN.olies h)).2.2.1, (st_len (stN.olies h)).2.2.2.2.2⟩

theorem LP.start {w : World} {B : Nat} {t t' : St} {x1 x2 x3 x4 y1 y2 y3 y4 : Value} {v : Value} {L : List Bk} {wr : World} {b' : Nat} (h : LI w B t [x1, x2, x3, x4] v L wr) (hB : w.heap.size ≤ B) (ho : stN.owns b' wr [y1, y2, y3, y4] t') :
    LP w B t' [y1, y2, y3, y4] v L ((((wr.setCell ⟨B, 0, none⟩ y1).setCell ⟨B, 1, none⟩ y2).setCell ⟨B, 2, none⟩ y3).setCell ⟨B, 3, none⟩ y4).heap.size (.slice none 0 0) [] ((((wr.setCell ⟨B, 0, none⟩ y1).setCell ⟨B, 1, none⟩ y2).setCell ⟨B, 2, none⟩ y3).setCell ⟨B, 3, none⟩ y4) := by
  have hr := h.2.2.2.1.set4 h.2.1 y1 y2 y3 y4
  have hb := below_set4 h.1 hB y1 y2 y3 y4
  exact ⟨hb, box_four' h.2.1 _ _ _ _, ⟨b', own_set4 stN (by decide) ho h.2.1 _ _ _ _⟩, hr, fun g hg => let ⟨_, hx⟩ := hr.row; (hx.lt g hg).2, BR.nil _ _ _, hb.size, Nat.le_refl _⟩

theorem br_get {w0 w : World} {base : Nat} {v : Value} {L : List Bk} (h : BR w0 w base v L) {k : Nat} {x : Bk} (hx : L[k]? = some x) (gb gof : Nat) (hix : ∀ W, (Instr.indexAt 24 v (.int .i64 k)).run Try.prog W = .ok (.pointer (some ⟨gb, gof, none⟩)) W) {xa : Option Addr} {xc : Nat} (p0 : w.cell? ⟨gb, gof, none⟩ = some (.int .i64 x.1)) (p1 : w.cell? ⟨gb, gof + 1, none⟩ = some (.int .i64 x.2.1)) (p2 : w.cell? ⟨gb, gof + 2, none⟩ = some (.slice xa x.2.2.length xc)) :
    ∃ us, bkR.lies 0 w0 us x ∧ us = [.int .i64 x.1, .int .i64 x.2.1, .slice xa x.2.2.length xc] := by
  obtain ⟨vss, h1, h2⟩ := h
  obtain ⟨us, hu, hl⟩ := h2.get hx
  obtain ⟨a, cap, e, _⟩ := bk_view hl
  obtain ⟨i3, hi3, _, hz3, _⟩ := info_parts Try.info29
  have hk : k < L.length := (List.getElem?_eq_some_iff.1 hx).1
  obtain ⟨b, o, hix2, _, hcell⟩ := (Cells.own h1).index (by omega) Try.underlying24 hi3 hz3 k hk
  have hbo := (hix w).symm.trans (hix2 w)
  simp only [Result.ok.injEq, Value.pointer.injEq, Option.some.injEq, Addr.mk.injEq, and_true] at hbo
  obtain ⟨rfl, rfl⟩ := hbo
  have hf := flat_get (size := 3) (fun y hy => by obtain ⟨z, _, hz⟩ := h2.left hy; exact bkR.length hz) hu (j := 2) (u := .slice a x.2.2.length cap) (by rw [e]; rfl)
  have := hcell 2 _ hf
  rw [p2] at this
  simp only [Option.some.injEq, Value.slice.injEq] at this
  exact ⟨us, hl, by rw [e, this.1, this.2.2]⟩

end Go.Proofs.Ytkpckadicjdieaa
