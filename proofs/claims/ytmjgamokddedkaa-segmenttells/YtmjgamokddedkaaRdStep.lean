/-
  What one round of read's loop leaves as it was, and what it makes.
-/
import Derived.Test.YtmjgamokddedkaaRdInv
namespace Go.Proofs.Ytmjgamokddedkaa
open Go.RowKit Go.Shelf

theorem KpA.setG {nb : Nat} {G : List Nat} {W : World} {B i : Nat} (u : Value) (hB : B ∈ G) (hn : nb ≤ B) : KpA nb G W (W.setCell ⟨B, i, none⟩ u) :=
  ⟨(Below.refl _ _).setCell (p := ⟨B, i, none⟩) hn u, fun k _ _ _ h1 h2 _ => (Below.heap_setCell _ _ _ _ (fun e => h2 (by rw [e]; exact hB))).trans h1⟩
theorem KpA.set58 {nb : Nat} {G : List Nat} {W : World} {B i : Nat} {cs : Array Value} (u : Value) (hB : Box W B 58 cs) (hn : nb ≤ B) : KpA nb G W (W.setCell ⟨B, i, none⟩ u) :=
  ⟨(Below.refl _ _).setCell (p := ⟨B, i, none⟩) hn u, fun k cs' t fr h1 _ h3 => (Below.heap_setCell _ _ _ _ (fun e => by
    subst e
    rw [show W.heap[k]? = _ from hB] at h1
    simp at h1
    exact h3 h1.2.1.symm)).trans h1⟩
theorem KpA.grown58 {nb base : Nat} {G : List Nat} {W W' : World} {v : Value} {n : Nat} {xs : List Value} (hr : W.ownsRow base 58 3 v n xs) (hg : W.grownBy W' v.ownBlock) (hn : nb ≤ base) (hs : nb ≤ W.heap.size) : KpA nb G W W' :=
  ⟨(Below.refl _ _).grown hg hs (fun k e => by have := (hr.lt k e).1; omega), fun k cs t fr h1 _ h3 => (hg.block k (Array.getElem?_eq_some_iff.1 h1).1 (fun e => by
    rcases hr.2 with ⟨rfl, _⟩ | ⟨g, cap, cur, rfl, _, hh, _⟩
    · simp [Value.ownBlock] at e
    · obtain rfl : k = g := by simpa [Value.ownBlock] using e
      rw [hh] at h1
      simp at h1
      exact h3 h1.2.1.symm)).trans h1⟩
theorem keeps_grown {W W' : World} {base : Nat} {e : TypeId} {size : Nat} {v : Value} {n : Nat} {xs : List Value} (hr : W.ownsRow base e size v n xs) (hg : W.grownBy W' v.ownBlock) : KeepsOthers W W' :=
  ⟨hg.size, fun k o hk ho => (hg.block k (Array.getElem?_eq_some_iff.1 hk).1 (fun e' => by
    rcases hr.2 with ⟨rfl, _⟩ | ⟨g, cap, cur, rfl, _, hh, _⟩
    · simp [Value.ownBlock] at e'
    · obtain rfl : k = g := by simpa [Value.ownBlock] using e'
      rw [hh] at hk
      cases hk
      cases ho)).trans hk⟩
theorem keeps_below {w w' : World} (h : Below w.heap.size w w') : KeepsOthers w w' := ⟨h.size, fun k _ hk _ => (h.block k (Array.getElem?_eq_some_iff.1 hk).1).trans hk⟩

theorem box_ne {W : World} {A B : Nat} {t t' : TypeId} {cs cs' : Array Value} (h : Box W A t cs) (k : Box W B t' cs') (ht : t ≠ t') : A ≠ B := fun e => by
  subst e
  unfold Box at h k
  rw [h] at k
  simp at k
  exact ht k.2
theorem Vars.set {w W : World} {e : Int} {B i : Nat} {u : Value} (h : Vars w W e) (hB : w.heap.size + 3 ≤ B) : Vars w (W.setCell ⟨B, i, none⟩ u) e := ⟨h.1.other (by omega), h.2.1.other (by omega), h.2.2.other (by omega)⟩
theorem Vars.row {w W W' : World} {e : Int} {base : Nat} {v : Value} {n : Nat} {xs : List Value} (h : Vars w W e) (hr : W.ownsRow base 58 3 v n xs) (hg : W.grownBy W' v.ownBlock) : Vars w W' e :=
  ⟨h.1.grown hg (h.1.apart hr (by decide)), h.2.1.grown hg (h.2.1.apart hr (by decide)), h.2.2.grown hg (h.2.2.apart hr (by decide))⟩

theorem step_row {w V : World} {B7 B8 Bx : Nat} {q : Int} {bs : List Bk} {left : List Int} {ba : Option Addr} {bc : Nat} {la : Option Addr} {lc : Nat} {cs : Array Value} (hG : Got w B7 B8 q bs left ba bc la lc V) (hbx : Box V Bx 58 cs) (hne : (Value.slice ba bs.length bc).ownBlock ≠ some Bx) (u : Value) (o : Obj) :
    ∃ vs : List (List Value), ((V.setCell ⟨Bx, 2, none⟩ u).alloc o).ownsRow w.heap.size 58 3 (.slice ba bs.length bc) bs.length vs.flatten ∧ Each (bkN.owns w.heap.size ((V.setCell ⟨Bx, 2, none⟩ u).alloc o)) vs bs := by
  have h := bksN.osame (bks_set (i := 2) (u := u) hG.2.1 hne hbx (by decide)) (.alloc _ _ o)
  obtain ⟨v', vs, hv, hr, hE⟩ := h
  obtain rfl : Value.slice ba bs.length bc = v' := by simpa using hv
  exact ⟨vs, hr, hE⟩

theorem step_boxes {w V Y U : World} {B7 B8 Bx : Nat} {q : Int} {bs : List Bk} {left : List Int} {ba : Option Addr} {bc : Nat} {la : Option Addr} {lc : Nat} {cs : Array Value} {u : Value} {o : Obj} {n : Nat} {xs : List Value} (hG : Got w B7 B8 q bs left ba bc la lc V) (hbx : Box V Bx 58 cs) (hY : Y = (V.setCell ⟨Bx, 2, none⟩ u).alloc o) (hr : Y.ownsRow w.heap.size 58 3 (.slice ba n bc) n xs) (hg : Y.grownBy U (Value.slice ba n bc).ownBlock) :
    Box U B7 28 #[.int .i64 q, .slice ba bs.length bc] ∧ Box U B8 25 #[.slice la left.length lc] := by
  have k7 : Box Y B7 28 #[.int .i64 q, .slice ba bs.length bc] := by rw [hY]; exact (hG.1.other (box_ne hG.1 hbx (by decide))).alloc _
  have k8 : Box Y B8 25 #[.slice la left.length lc] := by rw [hY]; exact (hG.2.2.1.other (box_ne hG.2.2.1 hbx (by decide))).alloc _
  exact ⟨k7.grown hg (k7.apart hr (by decide)), k8.grown hg (k8.apart hr (by decide))⟩
/-- One block more, in the worlds that the round goes through: cloned (V), laid in its variable, laid out (behind it), appended (U), and the two variables set. -/
theorem step_got {w V U : World} {B7 B8 Bx : Nat} {q : Int} {bs : List Bk} {left : List Int} {ba : Option Addr} {bc : Nat} {la : Option Addr} {lc : Nat} {o i : Int} {d : List Int} {ca : Option Addr} {cc : Nat} {ga : Option Addr} {gc : Nat} {la' : Option Addr} {lc' : Nat} {left' : List Int}
    (hG : Got w B7 B8 q bs left ba bc la lc V) (hbx : Box V Bx 58 #[.int .i64 o, .int .i64 i, .slice none 0 0]) (hBx : w.heap.size + 3 ≤ Bx) (h7 : w.heap.size + 3 ≤ B7) (h8 : w.heap.size + 3 ≤ B8) (h78 : B7 ≠ B8) (h7x : B7 ≠ Bx) (h8x : B8 ≠ Bx)
    (hO : Own1 w.heap.size V (.slice ca d.length cc) d) (ho : I64 o ∧ I64 i) (hL : Arg 0 w (.slice la' left'.length lc') left') (Y : World) (hY : Y = (V.setCell ⟨Bx, 2, none⟩ (.slice ca d.length cc)).alloc (.cells #[.int .i64 o, .int .i64 i, .slice ca d.length cc] 58))
    {vs' : List (List Value)} (hr : Y.ownsRow w.heap.size 58 3 (.slice ba bs.length bc) bs.length vs'.flatten) (hE : Each (bkN.owns w.heap.size Y) vs' bs) (hown : U.ownsRow w.heap.size 58 3 (.slice ga (bs.length + 1) gc) (bs.length + 1) (vs'.flatten ++ [.int .i64 o, .int .i64 i, .slice ca d.length cc])) (hg : Y.grownBy U (Value.slice ba bs.length bc).ownBlock) :
    Got w B7 B8 q (bs ++ [(o, i, d)]) left' ga gc la' lc' ((U.setCell ⟨B7, 1, none⟩ (.slice ga (bs.length + 1) gc)).setCell ⟨B8, 0, none⟩ (.slice la' left'.length lc')) := by
  obtain ⟨g7, gb, g8, gl, gv, gw⟩ := hG
  have hOY : Own1 w.heap.size Y (.slice ca d.length cc) d := by
    rw [hY]
    exact bytesS.osame (bytesS.ogrown hO (grown_set V Bx 2 _) (hbx.clear (by decide))) (.alloc _ _ _)
  have hpush : bksN.owns w.heap.size U [.slice ga (bs.length + 1) gc] (bs ++ [(o, i, d)]) :=
    Shape.list_push (S := bkN) (ht := Try.underlying26) (hc := cells26) (us := [.int .i64 o, .int .i64 i, .slice ca d.length cc]) (by decide) hE hr (bk_omk (p := (o, i, d)) hOY ho.1 ho.2) hg hown
  have k7 : Box Y B7 28 #[.int .i64 q, .slice ba bs.length bc] := by rw [hY]; exact (g7.other h7x).alloc _
  have k8 : Box Y B8 25 #[.slice la left.length lc] := by rw [hY]; exact (g8.other h8x).alloc _
  have u7 : Box U B7 28 #[.int .i64 q, .slice ba bs.length bc] := k7.grown hg (k7.apart hr (by decide))
  have u8 : Box U B8 25 #[.slice la left.length lc] := k8.grown hg (k8.apart hr (by decide))
  have uv : Vars w U 0 := by
    have hvY : Vars w Y 0 := by
      rw [hY]
      have := gv.set (i := 2) (u := .slice ca d.length cc) hBx
      exact ⟨this.1.alloc _, this.2.1.alloc _, this.2.2.alloc _⟩
    exact hvY.row hr hg
  have ub : Below w.heap.size w U := by
    have hbY : Below w.heap.size w Y := by
      rw [hY]
      have h1 := gw.setCell (p := ⟨Bx, 2, none⟩) (by simp only; omega) (.slice ca d.length cc)
      exact h1.alloc h1.size _
    exact hbY.grown hg hbY.size (fun k e => (hr.lt k e).1)
  refine ⟨?_, ?_, ?_, hL, (uv.set h7).set h8, (ub.setCell (p := ⟨B7, 1, none⟩) (by simp only; omega) _).setCell (p := ⟨B8, 0, none⟩) (by simp only; omega) _⟩
  · rw [List.length_append]
    exact (u7.set 1 _).other h78
  · rw [List.length_append]
    exact bks_set (bks_set hpush (bks_ne hpush u7 (by decide)) u7 (by decide)) (bks_ne hpush u8 (by decide)) (u8.other h78.symm) (by decide)
  · exact (u8.other h78.symm).set 0 _

end Go.Proofs.Ytmjgamokddedkaa
