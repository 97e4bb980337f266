/-
  What Decode answers, of every octets.
-/
import Derived.Test.YtfpllfjdgpcmdaaDoorRecord
import Derived.Deep.DrawnRows
namespace Go.Proofs.YtfpllfjdgpcmdaaDoor
open Go.RowKit

/-- Decode's error, and its record. -/
def rdE : Rd Rc → Int
  | .error k => k
  | .ok (_, _) => 0
def rdR : Rd Rc → Rc
  | .error _ => (0, [], [])
  | .ok (r, _) => r
def decE (l : List Int) : Int := if C.oerr l = 0 then rdE (recR (C.oout l)) else C.oerr l
def decV (l : List Int) : Rc := if C.oerr l = 0 then rdR (recR (C.oout l)) else (0, [], [])

theorem rec_zero (n : Nat) (w : World) : recF.owns n w [.int .i64 0, .slice none 0 0, .slice none 0 0] (0, [], []) :=
  rec_omk (r := (0, [], [])) (ints_omk (World.ownsRow_nil _ _ _ _) (fun x hx => by cases hx)) (Shape.list_nil bytesS 23 Tryd.underlying23 cells23 _ _) ⟨by decide, by decide⟩

/-- What numberOf is asked of, behind readRecord. -/
def errV : Rd Rc → Value
  | .error k => faultW k
  | .ok (_, _) => .nilIface

theorem numberOf_any (x : Rd Rc) (w : World) (hg : Glob w) : Calls Tryd.prog 36 #[errV x] w fun e w' => e = .returned (.int .i64 (rdE x)) ∧ Below w.heap.size w w' := by
  cases x with
  | error k => exact numberOf_fault k w hg
  | ok pp => obtain ⟨a, l⟩ := pp; exact numberOf_nil w

theorem record_told (w0 : World) (R : Nat) (l : List Int) (w : World) (h : Rdr w0 R l w) :
    Calls Tryd.prog 35 #[.pointer (some ⟨R, 0, none⟩)] w fun e w' => w.grownBy w' (some R) ∧ ∃ ax cx ay cy nx ny, e = .returned (.tuple #[.agg #[.int .i64 (rdR (recR l)).1, .slice ax nx cx, .slice ay ny cy], errV (recR l)]) ∧ recF.owns w.heap.size w' [.int .i64 (rdR (recR l)).1, .slice ax nx cx, .slice ay ny cy] (rdR (recR l)) := by
  refine (record_any w0 R l w h).mono ?_
  intro e w' ⟨hg, hm⟩
  cases hx : recR l with
  | error k =>
    rw [hx] at hm
    exact ⟨hg, _, _, _, _, _, _, hm, rec_zero _ _⟩
  | ok pp =>
    obtain ⟨r, q⟩ := pp
    rw [hx] at hm
    obtain ⟨v, he, ⟨us, rfl, ho⟩, _⟩ := hm
    obtain ⟨x, y, rfl, h1, h2, _⟩ := rec_own ho
    obtain ⟨ax, cx, rfl⟩ := own_shape (ints_own h1)
    obtain ⟨ay, cy, _, hv, _⟩ := texts_own h2
    obtain rfl : y = _ := by simpa using hv
    exact ⟨hg, ax, cx, ay, cy, _, _, he, ho⟩

attribute [local go_sem ↓] Go.wp_at_zero Go.wp_at_succ

set_option maxRecDepth 100000 in
set_option maxHeartbeats 4000000 in
theorem dec_ok (n0 : Nat) (v : Value) (l : List Int) (w : World) (h : Arg n0 w v l) (hs : l.length ≤ 140737488355328) (hg : Glob w) (he : C.oerr l = 0) :
    Calls Tryd.prog 13 #[v] w fun e w' => (∃ us : List Value, e = .returned (.tuple #[.agg us.toArray, .int .i64 (rdE (recR (C.oout l)))]) ∧ recF.owns w.heap.size w' us (rdR (recR (C.oout l)))) ∧ Below w.heap.size w w' := by
  obtain ⟨W, hW⟩ : ∃ W, W = w.alloc (.cells #[.int .i64 0, .slice none 0 0, .slice none 0 0] 27) := ⟨_, rfl⟩
  have hbW : Below w.heap.size w W := by rw [hW]; exact (Below.refl _ w).alloc (Nat.le_refl _) _
  have hP : Box W w.heap.size 27 #[.int .i64 0, .slice none 0 0, .slice none 0 0] := by rw [hW]; exact Box.new w 27 _
  have HO := C.open_any v l W (h.below hbW).toC hs
  rw [he] at HO
  obtain ⟨L, hL⟩ : ∃ L, L = C.oout l := ⟨_, rfl⟩
  have HLO : Hid (Oc L) := by show Oc L; rw [hL]; exact C.oout_oct h.oct
  rw [← hL] at HO ⊢
  have HW : Hid (Below w.heap.size w W ∧ Box W w.heap.size 27 #[.int .i64 0, .slice none 0 0, .slice none 0 0] ∧ Glob w) := ⟨hbW, hP, hg⟩
  obtain ⟨a0, c0, rfl, _⟩ := h.shape
  clear h hP hbW hs he hL hg
  go_enter Tryd.func13, Tryd.ntmps13
  go_wp2_with fail
  rw [← hW]
  clear hW
  refine HO.mono ?_
  rintro e w1 ⟨a, cap, rfl, ho1, hb1⟩
  have hA1 : Arg 0 w1 (.slice a L.length cap) L := (Own1.mk ho1 HLO.out).arg.weaken (Nat.zero_le _)
  obtain ⟨V, hV⟩ : ∃ V, V = w1.alloc (.cells #[.slice a L.length cap] 69) := ⟨_, rfl⟩
  have hbV : Below w1.heap.size w1 V := by rw [hV]; exact (Below.refl _ w1).alloc (Nat.le_refl _) _
  have hRd : Rdr w1 w1.heap.size L V := ⟨⟨a, cap, by rw [hV]; exact Box.new w1 69 _, hA1⟩, hbV, Nat.le_refl _⟩
  have HR := record_told w1 w1.heap.size L V hRd
  have hBZ := (HW.out.2.1.below hb1 HW.out.2.1.lt).below hbV (by have := (HW.out.2.1.below hb1 HW.out.2.1.lt).lt; omega)
  have HV : Hid (Below w.heap.size w V ∧ Box V w.heap.size 27 #[.int .i64 0, .slice none 0 0, .slice none 0 0] ∧ w.heap.size < w1.heap.size) := ⟨below_any (below_any HW.out.1 hb1) hbV, hBZ, (HW.out.2.1.below hb1 HW.out.2.1.lt).lt⟩
  obtain ⟨ln, hln⟩ : ∃ y, y = L.length := ⟨_, rfl⟩
  rw [← hln] at hV ⊢
  clear ho1 hb1 hA1 hbV hRd hBZ hln HO
  go_wp2_with fail
  rw [← hV]
  clear hV
  refine HR.mono ?_
  rintro e w2 ⟨hgr, ax, cx, ay, cy, nx, ny, rfl, ho2⟩
  have hB2 : Box w2 w.heap.size 27 #[.int .i64 0, .slice none 0 0, .slice none 0 0] := HV.out.2.1.grown hgr (fun e => by have := Option.some.inj e; have := HV.out.2.2; omega)
  have hb2 : Below w.heap.size w w2 := HV.out.1.grown hgr HV.out.1.size (fun j hj => by have := Option.some.inj hj; have := HV.out.2.2; omega)
  obtain ⟨k, hk⟩ : ∃ k, k = (rdR (recR L)).1 := ⟨_, rfl⟩
  obtain ⟨W3, hW3⟩ : ∃ W3, W3 = w2.alloc (.cells #[.int .i64 k, .slice ax nx cx, .slice ay ny cy] 27) := ⟨_, rfl⟩
  have hb3 : Below w2.heap.size w2 W3 := by rw [hW3]; exact (Below.refl _ w2).alloc (Nat.le_refl _) _
  have hB3 : Box W3 w2.heap.size 27 #[.int .i64 k, .slice ax nx cx, .slice ay ny cy] := by rw [hW3]; exact Box.new w2 27 _
  have hBZ3 : Box W3 w.heap.size 27 #[.int .i64 0, .slice none 0 0, .slice none 0 0] := hB2.below hb3 hB2.lt
  obtain ⟨X, hX⟩ : ∃ X, X = recR L := ⟨_, rfl⟩
  rw [← hX] at hk ho2 ⊢
  rw [← hk] at ho2 ⊢
  have HN : Hid (∀ U, Below W3.heap.size W3 U → Calls Tryd.prog 36 #[errV X] U fun e w' => e = .returned (.int .i64 (rdE X)) ∧ Below W3.heap.size W3 w') := fun U hU =>
    (numberOf_any X U (((HW.out.2.2.below hb2 HW.out.2.2.lt).below hb3 (by have := HW.out.2.2.lt; have := hb2.size; omega)).below hU (by have := HW.out.2.2.lt; have := hb2.size; have := hb3.size; omega))).mono fun e w' ⟨h1, h2⟩ => ⟨h1, below_any hU h2⟩
  have HB3 : Hid (Box W3 w2.heap.size 27 #[.int .i64 k, .slice ax nx cx, .slice ay ny cy] ∧ Box W3 w.heap.size 27 #[.int .i64 0, .slice none 0 0, .slice none 0 0]) := ⟨hB3, hBZ3⟩
  have HE : Hid (recF.owns V.heap.size w2 [.int .i64 k, .slice ax nx cx, .slice ay ny cy] (rdR X) ∧ Below w2.heap.size w2 W3 ∧ Below w.heap.size w w2 ∧ w.heap.size < V.heap.size) := ⟨ho2, hb3, hb2, HV.out.2.1.lt⟩
  obtain ⟨ev, hev⟩ : ∃ ev, ev = errV X := ⟨_, rfl⟩
  obtain ⟨ne, hne⟩ : ∃ ne, ne = rdE X := ⟨_, rfl⟩
  rw [← hev] at HN ⊢
  rw [← hne] at HN
  have HNE : Hid (ne = rdE X) := hne
  have HXL : Hid (X = recR L) := hX
  obtain ⟨p0, p1, p2, _⟩ := hB3.three
  obtain ⟨z0, z1, z2, z3, z4, z5⟩ := hBZ3.three
  have hU0 : Below W3.heap.size W3 W3 := Below.refl _ _
  clear hgr ho2 hB2 hb2 hb3 hB3 hBZ3 hk hX hev hne HR
  go_wp2
  rw [← hW3]
  clear hW3
  go_region_law
    (first
      | (go_simp
         with_reducible refine Calls.mono (HN.out _ (by first | assumption | exact Below.drew (by assumption))) ?_
         rintro e w4 ⟨rfl, hU4⟩
         obtain ⟨q0, q1, q2, _⟩ := (HB3.out.1.below hU4 HB3.out.1.lt).three
         obtain ⟨y0, y1, y2, y3, y4, y5⟩ := (HB3.out.2.below hU4 HB3.out.2.lt).three))
  all_goals
    clear p0 p1 p2 z0 z1 z2 z3 z4 z5
    go_wp2
    refine bodyPost_ret (v := .tuple #[.agg #[.int .i64 k, .slice ax nx cx, .slice ay ny cy], .int .i64 ne]) (by simp [results, Tryd.results13, go_sem, *]) rfl ?_
    have h4 := HE.out.2.2.2
    have h5 := HE.out.2.2.1.size
    rw [← HXL.out, ← HNE.out]
    refine ⟨⟨[_, _, _], rfl, ?_⟩, ?_⟩
    · exact recF.oweaken (recF.osame (recF.osame (recF.osame HE.out.1 (.of_below HE.out.2.1)) (.of_below hU4)) (.set3 h4)) (by omega)
    · exact below_set3 (below_any (below_any HE.out.2.2.1 HE.out.2.1) hU4) (Nat.le_refl _) _ _ _

theorem dec_any (n0 : Nat) (v : Value) (l : List Int) (w : World) (h : Arg n0 w v l) (hs : l.length ≤ 140737488355328) (hg : Glob w) :
    Calls Tryd.prog 13 #[v] w fun e w' => (∃ us : List Value, e = .returned (.tuple #[.agg us.toArray, .int .i64 (decE l)]) ∧ recF.owns w.heap.size w' us (decV l)) ∧ Below w.heap.size w w' := by
  by_cases he : C.oerr l = 0
  · unfold decE decV
    rw [if_pos he, if_pos he]
    exact dec_ok n0 v l w h hs hg he
  · unfold decE decV
    rw [if_neg he, if_neg he]
    exact (dec_bad n0 v l w h hs he).mono fun e w' ⟨h1, h2⟩ => ⟨⟨[_, _, _], h1, rec_zero _ _⟩, h2⟩

end Go.Proofs.YtfpllfjdgpcmdaaDoor
